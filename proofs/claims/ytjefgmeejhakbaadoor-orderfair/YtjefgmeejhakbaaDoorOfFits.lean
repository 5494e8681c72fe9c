/- The closure fits of keep.OrderFair. -/
import Derived.Test.YtjefgmeejhakbaaDoorOfPlain
import Derived.Test.YtjefgmeejhakbaaDoorMapLen
import Derived.Test.YtjefgmeejhakbaaDoorSameW
namespace Go.Proofs.YtjefgmeejhakbaaDoor
open Go.RowKit

theorem atTo_put {p : List Int} {i : Nat} {x : Int} (h : p[i]? = some x) (a : Int) : updT (fun y => (atTo p i y).map (Value.int .i64)) x (some (.int .i64 ((i : Int) + 1))) a = (atTo p (i + 1) a).map (Value.int .i64) := by
  show _ = (if p[i]? = some a then some ((i : Int) + 1) else atTo p i a).map (Value.int .i64)
  by_cases e : a = x
  · subst e; rw [updT_same, if_pos h]; rfl
  · rw [updT_other _ _ e, if_neg (fun h2 => e (by rw [h] at h2; injection h2 with h2; exact h2.symm))]
theorem zeroI2 (w : World) : (zeroValue 3).run Tryd.prog w = .ok (.int .i64 0) w := by kernel_rfl

set_option maxRecDepth 100000 in
set_option maxHeartbeats 2000000 in
theorem fits_any (N eb : Nat) (tv pv : Value) (E : List (Int × Int)) (p : List Int) (w : World) (hn : p.length ≤ 1000) (hEn : E.length ≤ 10000) (hbox : w.cell? ⟨eb, 0, none⟩ = some tv) (hE : w.ownsRow N 64 2 tv E.length (vrow E)) (hp : LineAt w pv p)
    (h1 : ∀ x ∈ p, I64 x) (h2 : ∀ e ∈ E, I64 e.1 ∧ I64 e.2) :
    Calls Tryd.prog 42 #[pv, .pointer (some ⟨eb, 0, none⟩)] w fun e w' => e = .returned (.bool (fitsP E p)) ∧ Below w.heap.size w w' := by
  obtain ⟨pad, pcap, rfl, hpc⟩ := hp
  have hebl := World.block_lt_of_cell? w _ hbox
  have HPC := hid hpc
  have HE := hid hE
  have H1 := hid h1
  have H2 := hid h2
  have HBOX := hid hbox
  have hI0 := IMap.made w
  have HI0 := hid hI0
  have HB0 := hid ((Below.refl w.heap.size w).alloc (Nat.le_refl _) (.map #[] 0))
  have hmm := @run_makeMap Tryd.prog
  clear hpc hE h1 h2 hI0 hbox
  go_enter Tryd.func42, Tryd.ntmps42
  go_wp2
  go_loopw [5] (fun iv wr => ∃ i : Nat, iv = .int .i64 i ∧ i ≤ p.length ∧ IMap wr w.heap.size i (fun y => (atTo p i y).map (Value.int .i64)) ∧ Below w.heap.size w wr) (fun iv _ => p.length - (intOf iv).toNat)
  case atStart => exact ⟨0, rfl, Nat.zero_le _, HI0.out.congr (fun a => rfl), HB0.out⟩
  case round =>
    obtain ⟨i, rfl, hi, hI, hB⟩ := hrel
    by_cases hlt : i < p.length
    · obtain ⟨x, hx⟩ : ∃ x, p[i]? = some x := ⟨p[i], List.getElem?_eq_getElem hlt⟩
      obtain ⟨g, off, rfl, hg, hc⟩ := HPC.out (by intro e; subst e; simp at hlt)
      have cx := (hB.cell (p := ⟨g, off + i, none⟩) hg).trans (hc i x hx)
      have hi0 : (0 : Int) ≤ (i : Int) := by omega
      have hi1 : (i : Int) < (p.length : Int) := by omega
      obtain ⟨w4, hrun4, hI4, hg4⟩ := hI.store Tryd.underlying68 (by unfold maxLen; omega) (H1.out x (List.mem_of_getElem? hx)) (.int .i64 ((i : Int) + 1))
      have H4 := hid (And.intro (hI4.congr (atTo_put hx)) (hB.grown hg4 hB.size (fun k e => by injection e with e; omega)))
      clear hI hB hx hc hI4 hg4
      go_wp2
      go_roundw
      case rel => exact ⟨i + 1, by go_num, by omega, H4.out.1, H4.out.2⟩
      case measure => simp [intOf]; omega
    · obtain rfl : i = p.length := by omega
      have hi1 : ¬ (p.length : Int) < (p.length : Int) := by omega
      have HR := hid (And.intro hI hB)
      clear hI hB
      go_wp2
      go_loopw [6] (fun iv wr => ∃ i : Nat, iv = .int .i64 i ∧ i ≤ E.length ∧ (∀ (k : Nat) (e : Int × Int), k < i → E[k]? = some e → fitB p e = true) ∧ IMap wr w.heap.size p.length (fun y => (atTo p p.length y).map (Value.int .i64)) ∧ Below w.heap.size w wr) (fun iv _ => E.length - (intOf iv).toNat)
      case atStart => exact ⟨0, rfl, Nat.zero_le _, fun k e hk => by omega, HR.out⟩
      case round =>
        obtain ⟨i, rfl, hi, hall, hI, hB⟩ := hrel
        have cb := (hB.cell (p := ⟨eb, 0, none⟩) hebl).trans HBOX.out
        by_cases hlt : i < E.length
        · obtain ⟨⟨a, b⟩, hab⟩ : ∃ e, E[i]? = some e := ⟨E[i], List.getElem?_eq_getElem hlt⟩
          rcases row_slice HE.out with ⟨_, e0⟩ | ⟨g, cap, rfl, hg, hc⟩
          · omega
          · have ca := (hB.cell (p := ⟨g, i * 2, none⟩) hg).trans (hc _ _ (vrow_get E i a b hab).1)
            have cv := (hB.cell (p := ⟨g, i * 2 + 1, none⟩) hg).trans (hc _ _ (vrow_get E i a b hab).2)
            obtain ⟨ha, hb⟩ := H2.out (a, b) (List.mem_of_getElem? hab)
            have hla := fun q => (hI.same (w' := wr.drewN q) (by simp)).look1 Tryd.underlying68 (zeroI2 _) ha
            have hlb := fun q => (hI.same (w' := wr.drewN q) (by simp)).look1 Tryd.underlying68 (zeroI2 _) hb
            have eA : ((atTo p p.length a).map (Value.int .i64)).getD (.int .i64 0) = .int .i64 (atV p a) := by unfold atV; cases atTo p p.length a <;> rfl
            have eB : ((atTo p p.length b).map (Value.int .i64)).getD (.int .i64 0) = .int .i64 (atV p b) := by unfold atV; cases atTo p p.length b <;> rfl
            simp only [eA] at hla
            simp only [eB] at hlb
            have hla0 := hla 0
            have hla1 := hla 1
            have hlb0 := hlb 0
            have hlb1 := hlb 1
            have hfit : fitB p (a, b) = !(atV p a == 0 || atV p b == 0 || decide (atV p a ≥ atV p b)) := rfl
            obtain ⟨A, hA⟩ : ∃ A, atV p a = A := ⟨_, rfl⟩
            obtain ⟨B, hB'⟩ : ∃ B, atV p b = B := ⟨_, rfl⟩
            rw [hA, hB'] at hfit
            rw [hA] at hla hla0 hla1
            rw [hB'] at hlb hlb0 hlb1
            have HR2 := hid (And.intro hall (And.intro hI (And.intro hB (And.intro hab hfit))))
            have hi0 : (0 : Int) ≤ (i : Int) := by omega
            have hi1 : (i : Int) < (E.length : Int) := by omega
            clear hall hI hB hab hc eA eB hfit hA hB' ha hb
            go_wp2
            go_quiet (fail)
            have HQ := hid (And.intro (below_drewN HR2.out.2.2.1 nq) (HR2.out.2.1.same (w' := wr.drewN nq) (by simp)))
            have HDONE := hid (show fitB p (a, b) = false → fitsP E p = false from fun h => by
              unfold fitsP
              exact List.all_eq_false.2 ⟨(a, b), List.mem_of_getElem? HR2.out.2.2.2.1, by rw [h]; simp⟩)
            have HFIT := hid HR2.out.2.2.2.2
            clear hla hla0 hla1 hlb hlb0 hlb1 ca cv cb
            by_cases hA0 : A = 0
            · have HBAD := hid (HDONE.out (by rw [HFIT.out, hA0]; simp))
              have e1 : (A == 0) = true := by simpa using hA0
              go_wp2
              go_ret
              exact ⟨by rw [HBAD.out]; rfl, HQ.out.1⟩
            · have e1 : (A == 0) = false := by simpa using hA0
              by_cases hB0 : B = 0
              · have HBAD := hid (HDONE.out (by rw [HFIT.out, hB0]; simp))
                have e2 : (B == 0) = true := by simpa using hB0
                go_wp2
                go_ret
                exact ⟨by rw [HBAD.out]; rfl, HQ.out.1⟩
              · have e2 : (B == 0) = false := by simpa using hB0
                by_cases hge : A ≥ B
                · have HBAD := hid (HDONE.out (by rw [HFIT.out]; simp [hge]))
                  go_wp2
                  go_ret
                  exact ⟨by rw [HBAD.out]; rfl, HQ.out.1⟩
                · have HGOOD := hid (show fitB p (a, b) = true by rw [HFIT.out, e1, e2]; simp; omega)
                  go_wp2
                  go_roundw
                  case rel =>
                    refine ⟨i + 1, by go_num, by omega, fun k e hk he => ?_, HQ.out.2, HQ.out.1⟩
                    by_cases ek : k = i
                    · subst ek
                      rw [HR2.out.2.2.2.1] at he
                      cases he
                      exact HGOOD.out
                    · exact HR2.out.1 k e (by omega) he
                  case measure => simp [intOf]; omega
        · obtain rfl : i = E.length := by omega
          have hi1 : ¬ (E.length : Int) < (E.length : Int) := by omega
          have hf : fitsP E p = true := by
            unfold fitsP
            rw [List.all_eq_true]
            intro e he
            obtain ⟨k, hk, rfl⟩ := List.getElem_of_mem he
            exact hall k _ hk (List.getElem?_eq_getElem hk)
          obtain ⟨ead, ecap, rfl⟩ := row_form HE.out
          have HBB := hid (And.intro hf hB)
          clear hall hI hB hf
          go_wp2
          go_ret
          exact ⟨by rw [HBB.out.1]; rfl, HBB.out.2⟩

end Go.Proofs.YtjefgmeejhakbaaDoor
