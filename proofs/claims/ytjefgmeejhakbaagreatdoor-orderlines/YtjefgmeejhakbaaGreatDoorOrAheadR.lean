/- order.aheadOf. -/
import Derived.Test.YtjefgmeejhakbaaGreatDoorOrOpsR
import Derived.Test.YtjefgmeejhakbaaGreatDoorOrLineR
import Derived.Test.YtjefgmeejhakbaaGreatDoorOrCompactWR
namespace Go.Proofs.YtjefgmeejhakbaaGreatDoor
open Go.RowKit
def aMap (T : List Int) (E : List (Int × Int)) : Int → Option Value := fun y => if y ∈ T then some (.int .i64 ((E.countP (fun e => e.2 == y) : Nat) : Int)) else none
theorem aMap_tx (T : List Int) (x : Int) : updT (aMap T []) x (some (.int .i64 0)) = aMap (T ++ [x]) [] := by
  funext y
  by_cases e : y = x
  · subst e; rw [updT_same]; simp [aMap]
  · rw [updT_other _ _ e]; simp [aMap, e]
theorem aMap_two (T : List Int) (E : List (Int × Int)) (a b : Int) (hb : b ∈ T) : updT (aMap T E) b (some (.int .i64 (((E.countP (fun e => e.2 == b) : Nat) : Int) + 1))) = aMap T (E ++ [(a, b)]) := by
  funext y
  by_cases e : y = b
  · subst e
    rw [updT_same]
    simp [aMap, hb]
  · rw [updT_other _ _ e]
    simp [aMap, show b ≠ y from fun e2 => e e2.symm]
set_option maxRecDepth 100000 in
set_option maxHeartbeats 1000000 in
theorem aheadOf_any (ad : Option Addr) (cap N : Nat) (l : List Opp) (tv : Value) (E : List (Int × Int)) (w : World) (hn : l.length ≤ 1000) (hE : E.length ≤ 100000) (hO : OpsAt w ad l) (hT : w.ownsRow N 78 2 tv E.length (vrow E)) (hmem : ∀ a b, (a, b) ∈ E → b ∈ l.map (fun o => o.1)) (h64 : ∀ y ∈ l.map (fun o => o.1), I64 y) :
    Calls Tryz.prog 68 #[.slice ad l.length cap, tv] w fun e w' => e = .returned (.map (some w.heap.size)) ∧ IMap w' w.heap.size 200000 (aMap (l.map (fun o => o.1)) E) ∧ Below w.heap.size w w' := by
  obtain ⟨tad, tcap, rfl⟩ := row_form hT
  have HO := hid hO
  have HT := hid hT
  have HM := hid hmem
  have H64 := hid h64
  have hmm := @run_makeMap Tryz.prog
  clear hO hT hmem h64
  go_enter Tryz.func68, Tryz.ntmps68
  go_wp2
  go_loopw [13] (fun iv wr => ∃ j : Nat, iv = .int .i64 j ∧ j ≤ l.length ∧ IMap wr w.heap.size j (aMap ((l.take j).map (fun o => o.1)) []) ∧ Below w.heap.size w wr) (fun iv _ => l.length - (intOf iv).toNat)
  case atStart =>
    refine ⟨0, rfl, Nat.zero_le _, ?_, (Below.refl _ _).alloc (Nat.le_refl _) _⟩
    exact IMap.made w
  case round =>
    obtain ⟨j, rfl, hj, hI, hB⟩ := hrel
    have hBs := hB.size
    by_cases hlt : j < l.length
    · obtain ⟨o, ho⟩ : ∃ o, l[j]? = some o := ⟨l[j], List.getElem?_eq_getElem hlt⟩
      obtain ⟨g, off, rfl, hg, ⟨c0, c1, c2, c3⟩, i0, _⟩ := HO.out.below hB j o ho
      have hj0 : (0 : Int) ≤ (j : Int) := by omega
      have hj1 : (j : Int) < (l.length : Int) := by omega
      have hA : Below wr.heap.size wr (wr.alloc (.cells #[.int .i64 o.1, .int .i64 o.2.1, .bool o.2.2.1, .int .i64 o.2.2.2] 90)) := (Below.refl _ _).alloc (Nat.le_refl _) _
      have hI2 := hI.same (hA.block _ hI.lt)
      obtain ⟨w1, hrun, hI3, hg3⟩ := hI2.store Tryz.underlying69 (by unfold maxLen; omega) i0 (.int .i64 0)
      rw [aMap_tx] at hI3
      have hst : (l.take (j + 1)).map (fun o => o.1) = (l.take j).map (fun o => o.1) ++ [o.1] := by rw [List.take_add_one, ho]; simp
      rw [← hst] at hI3
      have HI3 := hid (And.intro hI3 ((hB.trans (hA.mono hBs)).grown hg3 (Nat.le_trans hBs hA.size) (fun k e => by cases e; exact Nat.le_refl _)))
      clear hI hI2 hI3 hg3 hB hA ho hst
      go_wp2
      go_roundw
      case rel => exact ⟨j + 1, by go_num, by omega, HI3.out⟩
      case measure => simp [intOf]; omega
    · obtain rfl : j = l.length := by omega
      rw [List.take_length] at hI
      have HI := hid (And.intro hI hB)
      clear hI hB
      go_wp2
      go_loopw [23] (fun iv wr => ∃ j : Nat, iv = .int .i64 j ∧ j ≤ E.length ∧ IMap wr w.heap.size (l.length + j) (aMap (l.map (fun o => o.1)) (E.take j)) ∧ Below w.heap.size w wr) (fun iv _ => E.length - (intOf iv).toNat)
      case atStart => exact ⟨0, rfl, Nat.zero_le _, HI.out⟩
      case round =>
        obtain ⟨j, rfl, hj, hI, hB⟩ := hrel
        have hBs := hB.size
        by_cases hlt : j < E.length
        · obtain ⟨⟨a, b⟩, hx⟩ : ∃ x, E[j]? = some x := ⟨E[j], List.getElem?_eq_getElem hlt⟩
          have hTr := owns_same HT.out (fun g e => hB.block g (HT.out.lt g e).2)
          rcases row_slice hTr with ⟨_, e0⟩ | ⟨g, cap', e, hg, _⟩
          · omega
          · cases e
            obtain ⟨ca, cb⟩ := two_cells hTr hx
            have hj0 : (0 : Int) ≤ (j : Int) := by omega
            have hj1 : (j : Int) < (E.length : Int) := by omega
            have hbm := HM.out a b (List.mem_of_getElem? hx)
            have hb64 := H64.out b hbm
            have hA : Below wr.heap.size wr (wr.alloc (.cells #[.int .i64 a, .int .i64 b] 78)) := (Below.refl _ _).alloc (Nat.le_refl _) _
            have hI2 := hI.same (hA.block _ hI.lt)
            have hlk := hI2.look1 Tryz.underlying69 (zeroI _) hb64
            have hfv : (aMap (l.map (fun o => o.1)) (E.take j) b).getD (.int .i64 0) = .int .i64 (((E.take j).countP (fun e => e.2 == b) : Nat) : Int) := by unfold aMap; rw [if_pos hbm]; rfl
            rw [hfv] at hlk
            have hcn : (E.take j).countP (fun e => e.2 == b) ≤ E.length := Nat.le_trans List.countP_le_length (by simp; omega)
            obtain ⟨c, hc⟩ : ∃ c, (E.take j).countP (fun e => e.2 == b) = c := ⟨_, rfl⟩
            rw [hc] at hlk hcn
            obtain ⟨w1, hrun, hI3, hg3⟩ := hI2.store Tryz.underlying69 (by unfold maxLen; omega) hb64 (.int .i64 ((c : Int) + 1))
            rw [← hc, aMap_two _ _ a b hbm] at hI3
            have hst : E.take (j + 1) = E.take j ++ [(a, b)] := by rw [List.take_add_one, hx]; rfl
            rw [← hst] at hI3
            have HI3 := hid (And.intro hI3 ((hB.trans (hA.mono hBs)).grown hg3 (Nat.le_trans hBs hA.size) (fun k e => by cases e; exact Nat.le_refl _)))
            clear hI hI2 hI3 hg3 hB hA hx hst hTr hfv hc hbm
            go_wp2
            go_roundw
            case rel => exact ⟨j + 1, by go_num, by omega, HI3.out⟩
            case measure => simp [intOf]; omega
        · obtain rfl : j = E.length := by omega
          rw [List.take_length] at hI
          have HI2 := hid (And.intro (hI.mono (by omega : l.length + E.length ≤ 200000)) hB)
          clear hI hB
          go_wp2
          go_ret
          exact ⟨rfl, HI2.out⟩
end Go.Proofs.YtjefgmeejhakbaaGreatDoor
