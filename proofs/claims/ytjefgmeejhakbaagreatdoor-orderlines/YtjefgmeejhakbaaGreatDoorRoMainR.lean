/- The reference's Edges: its walk. -/
import Derived.Test.YtjefgmeejhakbaaGreatDoorRoLoopR
import Derived.Test.YtjefgmeejhakbaaGreatDoorOrLineWR
namespace Go.Proofs.YtjefgmeejhakbaaGreatDoor
open Go.RowKit
theorem nodup_le2 {q s : List (Int × Int)} (hq : q.Nodup) (h : ∀ y ∈ q, y ∈ s) : q.length ≤ s.length := by
  induction q generalizing s with
  | nil => simp
  | cons a r ih =>
    obtain ⟨h1, h2⟩ := List.nodup_cons.1 hq
    have ha := h a (by simp)
    have := ih (s := s.erase a) h2 (fun y hy => by
      have hya : y ≠ a := fun e => h1 (e ▸ hy)
      exact (List.mem_erase_of_ne hya).2 (h y (List.mem_cons_of_mem _ hy)))
    rw [List.length_erase_of_mem ha] at this
    have hp := List.length_pos_of_mem ha
    simp only [List.length_cons]
    omega
theorem rAll_len (l : List Opp) : (rAll l l.length).length ≤ (l.length + 2) * l.length := by
  unfold rAll
  rw [List.take_length]
  refine flat_len _ _ l (fun o _ => ?_)
  unfold opAll
  rw [List.length_append]
  exact Nat.add_le_add (Nat.le_trans (conP_length _) (writers_len _ _)) (readsP_len l o)
theorem fault_put0 {w : World} {R : Nat} (h : w.heap[R]? = some (.cells #[.int .i64 0, .int .i64 0] 26 (0, 0))) (c p : Int) :
    ((w.setCell ⟨R, 0, none⟩ (.int .i64 c)).setCell ⟨R, 1, none⟩ (.int .i64 p)).cell? ⟨R, 0, none⟩ = some (.int .i64 c) ∧ ((w.setCell ⟨R, 0, none⟩ (.int .i64 c)).setCell ⟨R, 1, none⟩ (.int .i64 p)).cell? ⟨R, 1, none⟩ = some (.int .i64 p) ∧ (w.setCell ⟨R, 0, none⟩ (.int .i64 c)).cell? ⟨R, 0, none⟩ = some (.int .i64 c) := by
  have h0 := heap_setCell_same w R 0 _ 26 (.int .i64 c) h
  have h1 := heap_setCell_same _ R 1 _ 26 (.int .i64 p) h0
  exact ⟨(cell_of_row _ _ 0 _ _ (0, 0) h1).trans rfl, (cell_of_row _ _ 1 _ _ (0, 0) h1).trans rfl, (cell_of_row _ _ 0 _ _ (0, 0) h0).trans rfl⟩
set_option maxRecDepth 100000 in
set_option maxHeartbeats 4000000 in
theorem refEdges_main (ad : Option Addr) (cap : Nat) (l : List Opp) (m : Nat) (w : World) (hn : l.length ≤ 100) (hO : OpsAt w ad l) (hf : FineTo opBad l l.length) (hm : FineTo (badRead l) l m) :
    Calls Tryz.prog 10 #[.slice ad l.length cap] w fun e w' => Below w.heap.size w w' ∧ ((m < l.length ∧ e = .returned (.tuple #[.slice none 0 0, .agg #[.int .i64 1, .int .i64 m]])) ∨ (m = l.length ∧ ∃ v E, e = .returned (.tuple #[v, .agg #[.int .i64 0, .int .i64 (-1)]]) ∧ IsEdges l E ∧ w'.ownsRow w.heap.size 78 2 v E.length (vrow E))) := by
  obtain ⟨inf0, hif0, hif1, hif2, hif3⟩ := info_parts info78
  have HO := hid (hO.below (reW_below w (.slice ad l.length cap)))
  have HM := hid hm
  have HFA := hid hf.all
  have HB0 := hid (reW_below w (.slice ad l.length cap))
  have HF := hid (reW_fault w (.slice ad l.length cap))
  have HL := hid (reW_box w (.slice ad l.length cap))
  have hsz := reW_size w (.slice ad l.length cap)
  have h64 : ∀ o ∈ l, I64 o.1 ∧ I64 o.2.2.2 := fun o ho => by
    obtain ⟨j, hj, e⟩ := List.getElem_of_mem ho
    obtain ⟨_, _, _, _, _, h1, _, h3⟩ := hO j o (by rw [List.getElem?_eq_getElem hj, e])
    exact ⟨h1, h3⟩
  have H64 := hid h64
  have hmm := @run_makeMap Tryz.prog
  clear hO hm hf h64
  go_enter Tryz.func10, Tryz.ntmps10
  go_wp2
  go_loopw [17] (fun i wr => ∃ j : Nat, j ≤ l.length ∧ i = .int .i64 j ∧ Below (w.heap.size + 2) (reW w (.slice ad l.length cap)) wr) (fun i _ => l.length - (intOf i).toNat)
  case atStart => exact ⟨0, Nat.zero_le _, rfl, Below.refl _ _⟩
  case round =>
    obtain ⟨j, hj, rfl, hB⟩ := hrel
    have hBs := hB.size
    rw [hsz] at hBs
    by_cases hlt : j < l.length
    · obtain ⟨o, ho⟩ : ∃ o, l[j]? = some o := ⟨l[j]'(by omega), List.getElem?_eq_getElem _⟩
      obtain ⟨g, off, rfl, hg, ⟨c0, c1, c2, c3⟩, _⟩ := (HO.out.below (by rw [hsz]; exact hB)) j o ho
      have hj0 : (0 : Int) ≤ (j : Int) := by omega
      have hj1 : (j : Int) < (l.length : Int) := by omega
      obtain ⟨b1, b2, b3, b4⟩ := opBad_false (HFA.out o (List.mem_of_getElem? ho))
      have HI := hid (show inB o.2.1 0 9 = true by simp [inB]; omega)
      have hA := hid (hB.alloc hBs (.cells #[.int .i64 o.1, .int .i64 o.2.1, .bool o.2.2.1, .int .i64 o.2.2.2] 90))
      clear hB ho
      go_wp2_with (go_at_call 54; refine (in_any _ _ _ _).mono ?_; rw [HI.out]; rintro e w' ⟨rfl, rfl⟩)
      go_roundw
      case rel => exact ⟨j + 1, by omega, by go_num, hA.out⟩
      case measure => simp [intOf]; omega
    · obtain rfl : j = l.length := by omega
      have hj1 : ¬ (l.length : Int) < (l.length : Int) := by omega
      have hLb := (hB.block w.heap.size (by omega)).trans HL.out
      have cL : wr.cell? ⟨w.heap.size, 0, none⟩ = some (.slice ad l.length cap) := (cell_of_row _ _ 0 _ _ (0, 0) hLb).trans rfl
      have hBw := HB0.out.trans (hB.mono (by omega : w.heap.size ≤ w.heap.size + 2))
      have HBW := hid hBw
      have HFR := hid ((hB.block (w.heap.size + 1) (by omega)).trans HF.out)
      have HLR := hid hLb
      have HOR := hid (HO.out.below (by rw [hsz]; exact hB))
      have HP0 := hid (PSet.made wr)
      have HBM := hid (show Below wr.heap.size wr (wr.alloc (.map #[] 0)) from (Below.refl _ _).alloc (Nat.le_refl _) _)
      have cL2 := (HBM.out.cell (p := ⟨w.heap.size, 0, none⟩) (by show w.heap.size < wr.heap.size; omega)).trans cL
      obtain ⟨w3, hw3⟩ : ∃ w3, w3 = wr := ⟨_, rfl⟩
      subst hw3
      have hml := HM.out.le
      clear hB hLb hBw
      go_wp2
      go_loopw [43] (fun iv w5 => ∃ (j nb : Nat) (ps : List (Int × Int)), iv = .int .i64 j ∧ j ≤ m ∧ PSet w5 w3.heap.size nb ps ∧ nb ≤ 200 * j ∧ (∀ p, p ∈ ps ↔ p ∈ rAll l j) ∧ Below w3.heap.size w3 w5) (fun iv _ => l.length - (intOf iv).toNat)
      case atStart => exact ⟨0, 0, [], rfl, Nat.zero_le _, HP0.out, Nat.le_refl _, fun p => by simp [rAll], HBM.out⟩
      case round =>
        obtain ⟨j, nb, ps, rfl, hjm, hP, hnb, hps, hB5⟩ := hrel
        obtain ⟨w5, hw5⟩ : ∃ w5, w5 = wr := ⟨_, rfl⟩
        subst hw5
        have hB5s := hB5.size
        by_cases hlt : j < l.length
        · obtain ⟨o, ho⟩ : ∃ o, l[j]? = some o := ⟨l[j], List.getElem?_eq_getElem hlt⟩
          obtain ⟨g, off, rfl, hg, ⟨c0, c1, c2, c3⟩, i0, i1, i2⟩ := (HOR.out.below hB5) j o ho
          have hj0 : (0 : Int) ≤ (j : Int) := by omega
          have hj1 : (j : Int) < (l.length : Int) := by omega
          obtain ⟨tx, htx⟩ : ∃ tx, o.1 = tx := ⟨_, rfl⟩
          obtain ⟨kk, hkk⟩ : ∃ kk, o.2.1 = kk := ⟨_, rfl⟩
          obtain ⟨wb, hwb⟩ : ∃ wb, o.2.2.1 = wb := ⟨_, rfl⟩
          obtain ⟨fr, hfr⟩ : ∃ fr, o.2.2.2 = fr := ⟨_, rfl⟩
          rw [htx] at c0 i0
          rw [hkk] at c1
          rw [hwb] at c2
          rw [hfr] at c3 i2
          have hA : Below w5.heap.size w5 (w5.alloc (.cells #[.int .i64 tx, .int .i64 kk, .bool wb, .int .i64 fr] 90)) := (Below.refl _ _).alloc (Nat.le_refl _) _
          have cLr : (w5.alloc (.cells #[.int .i64 tx, .int .i64 kk, .bool wb, .int .i64 fr] 90)).cell? ⟨w.heap.size, 0, none⟩ = some (.slice (some ⟨g, off, none⟩) l.length cap) := (hA.cell (p := ⟨w.heap.size, 0, none⟩) (by show w.heap.size < w5.heap.size; omega)).trans ((hB5.cell (p := ⟨w.heap.size, 0, none⟩) (by show w.heap.size < w3.heap.size; omega)).trans cL)
          have HC := hid (refWriters_any (some ⟨g, off, none⟩) cap w.heap.size l kk (w5.alloc (.cells #[.int .i64 tx, .int .i64 kk, .bool wb, .int .i64 fr] 90)) (by omega) ((HOR.out.below hB5).below hA) cLr)
          have HX := hid (heap_alloc_new w5 (.cells #[.int .i64 tx, .int .i64 kk, .bool wb, .int .i64 fr] 90))
          have HR5 := hid (And.intro hP (And.intro hps (And.intro hB5 (And.intro ho (And.intro htx (And.intro hkk (And.intro hwb hfr)))))))
          have HPA := hid (hP.same (hA.block _ hP.lt))
          clear hP hps hB5 ho htx hkk hwb hfr hA cLr cL2 cL
          go_wp2_with fail
          refine HC.out.mono ?_
          rintro e w6 ⟨sv, rfl, ho6, hB6⟩
          obtain ⟨sl, hsl⟩ : ∃ sl, writersP l kk = sl := ⟨_, rfl⟩
          rw [hsl] at ho6
          have hsn : sl.length ≤ 100 := by rw [← hsl]; exact Nat.le_trans (writers_len l kk) hn
          have hs64 : ∀ x ∈ sl, I64 x := fun x hx => writers_i64 (fun o ho => (H64.out o ho).1) (key := kk) (by rw [hsl]; exact hx)
          have HS64 := hid hs64
          have HSL := hid hsl
          have hX6 := (hB6.block w5.heap.size (by simp)).trans HX.out
          have hP6 := HPA.out.same (hB6.block _ HPA.out.lt)
          have H6 := hid (And.intro ho6 (And.intro hB6 (And.intro hX6 hP6)))
          clear ho6 hB6 hsl hs64 hX6 hP6
          go_wp2
          go_loopw [11] (fun kv w7 => ∃ (i nb2 : Nat) (ps2 : List (Int × Int)), kv = .int .i64 ((i : Int) + 1) ∧ i + 1 ≤ sl.length + 1 ∧ PSet w7 w3.heap.size nb2 ps2 ∧ nb2 ≤ nb + i ∧ (∀ p, p ∈ ps2 ↔ p ∈ ps ∨ p ∈ conP (sl.take (i + 1))) ∧ w6.grownBy w7 (some w3.heap.size)) (fun kv _ => sl.length + 1 - (intOf kv).toNat)
          case atStart =>
            have e : conP (sl.take (0 + 1)) = [] := by cases sl with
              | nil => rfl
              | cons a r => rfl
            exact ⟨0, nb, ps, rfl, by omega, H6.out.2.2.2, by omega, fun p => by rw [e]; simp, ⟨rfl, rfl, rfl, Nat.le_refl _, fun _ _ _ => rfl⟩⟩
          case round =>
            obtain ⟨i, nb2, ps2, rfl, hi, hP7, hnb2, hps2, hg7⟩ := hrel
            have ho7 := owns_same H6.out.1 (fun g6 e => hg7.block g6 (H6.out.1.lt g6 e).2 (fun e2 => by
              obtain ⟨cur, hc⟩ := row_block H6.out.1 e
              exact H6.out.2.2.2.ne hc (by injection e2 with e2; exact e2.symm)))
            by_cases hlt7 : i + 1 < sl.length
            · obtain ⟨a, ha⟩ : ∃ a, sl[i]? = some a := ⟨sl[i]'(by omega), List.getElem?_eq_getElem _⟩
              obtain ⟨b, hb⟩ : ∃ b, sl[i + 1]? = some b := ⟨sl[i + 1], List.getElem?_eq_getElem hlt7⟩
              rcases row_slice ho7 with ⟨_, e0⟩ | ⟨g6, cap6, rfl, hg6, hc6⟩
              · omega
              · have ca := hc6 i _ (intsV_get ha)
                have cb := hc6 (i + 1) _ (intsV_get hb)
                have hP7d : PSet wr.drew w3.heap.size nb2 ps2 := hP7.same rfl
                obtain ⟨w8, hrun, hP8, hg8⟩ := hP7d.store (by unfold maxLen; omega) (HS64.out a (List.mem_of_getElem? ha)) (HS64.out b (List.mem_of_getElem? hb))
                have hng : some g6 ≠ some w3.heap.size := fun e => by
                  obtain ⟨cur, hc⟩ := row_block ho7 (rfl : _ = some g6)
                  exact hP7.ne hc (by injection e with e; exact e.symm)
                have y0 : w8.cell? ⟨g6, i, none⟩ = some (.int .i64 a) := hg8.cell (a := ⟨g6, i, none⟩) (by simpa using ca) hng
                have y1 : w8.cell? ⟨g6, i + 1, none⟩ = some (.int .i64 b) := hg8.cell (a := ⟨g6, i + 1, none⟩) (by simpa using cb) hng
                have HST := hid (conTo_step ha hb)
                have H8 := hid (And.intro hP8 (And.intro hps2 (grown_trans hg7 (grown_trans (show wr.grownBy wr.drew _ from grown_drewN wr 1 _) hg8))))
                have hi0 : (0 : Int) ≤ (i : Int) := by omega
                have hi1 : (i : Int) + 1 < (sl.length : Int) := by omega
                have hi2 : (i : Int) < (sl.length : Int) := by omega
                have hi3 : (0 : Int) ≤ (i : Int) + 1 := by omega
                have hi4 : ((i : Int) + 1).toNat = i + 1 := by omega
                have hi5 : IntKind.i64.wrap (i : Int) = (i : Int) := IntWalk.i64_in _ (by omega)
                have hi6 : (i : Int) + 1 - 1 = (i : Int) := by omega
                clear hP7 hps2 hg7 ho7 ha hb hc6 hP7d hP8 hg8 hng
                go_wp2
                go_region_held3 (fun W => W.cell? ⟨g6, i, none⟩ = some (.int .i64 a) ∧ W.cell? ⟨g6, i + 1, none⟩ = some (.int .i64 b))
                  (first
                    | go_keep
                    | exact ⟨y0, y1⟩)
                  (fail)
                go_wp2
                go_roundw
                case rel =>
                  refine ⟨i + 1, nb2 + 1, ps2 ++ [(a, b)], by go_num, by omega, H8.out.1, by omega, fun p => ?_, H8.out.2.2⟩
                  rw [List.mem_append, List.mem_singleton, H8.out.2.1 p, HST.out, List.mem_append, List.mem_singleton, or_assoc]
                case measure => simp [intOf]; omega
            · have hfin : conP (sl.take (i + 1)) = conP sl := by rw [List.take_of_length_le (by omega)]
              rw [hfin] at hps2
              obtain ⟨sad, scap, rfl⟩ := row_form H6.out.1
              have hX7 := (hg7.block w5.heap.size (Array.getElem?_eq_some_iff.1 H6.out.2.2.1).1 (fun e => H6.out.2.2.2.ne H6.out.2.2.1 (by injection e with e; exact e.symm))).trans H6.out.2.2.1
              have x0 : wr.cell? ⟨w5.heap.size, 0, none⟩ = some (.int .i64 tx) := (cell_of_row _ _ 0 _ _ (0, 0) hX7).trans rfl
              have x2 : wr.cell? ⟨w5.heap.size, 2, none⟩ = some (.bool wb) := (cell_of_row _ _ 2 _ _ (0, 0) hX7).trans rfl
              have x3 : wr.cell? ⟨w5.heap.size, 3, none⟩ = some (.int .i64 fr) := (cell_of_row _ _ 3 _ _ (0, 0) hX7).trans rfl
              obtain ⟨hP5, hps5, hB5, ho5, htx, hkk, hwb, hfr⟩ := HR5.out
              have hst := rAll_step ho5
              have hB7 : Below w3.heap.size w3 wr := by
                have h1 : Below w3.heap.size w3 w6 := hB5.trans (((Below.refl _ w5).alloc (Nat.le_refl _) _).trans (H6.out.2.1.mono (by simp)) |>.mono hB5s)
                exact h1.grown hg7 h1.size (fun k e => by injection e with e; omega)
              cases wb with
              | true =>
                have hall : ∀ p, p ∈ ps2 ↔ p ∈ rAll l (j + 1) := fun p => by
                  have e : opAll l o = conP sl := by
                    unfold opAll readsP
                    rw [if_pos hwb, hkk, HSL.out, List.append_nil]
                  rw [hps2 p, hps5 p, hst, e, List.mem_append]
                have H9 := hid (And.intro hP7 (And.intro hall hB7))
                have hjm2 : j < m := by
                  rcases Nat.lt_or_ge j m with h | h
                  · exact h
                  · obtain rfl : j = m := by omega
                    obtain ⟨o', ho', hb⟩ := HM.out.bad (by omega)
                    rw [ho5] at ho'
                    cases ho'
                    rw [badRead_write hwb] at hb
                    cases hb
                clear hP7 hps2 hg7 ho7 hX7 hP5 hps5 hB5 ho5 htx hkk hwb hfr hst hB7 hall hfin
                go_wp2
                go_roundw
                case rel => exact ⟨j + 1, nb2, ps2, by go_num, by omega, H9.out.1, by omega, H9.out.2⟩
                case measure => simp [intOf]; omega
              | false =>
                obtain ⟨w7, hw7⟩ : ∃ w7, w7 = wr := ⟨_, rfl⟩
                subst hw7
                have hrd : ∀ r, readP sl o = some r → opAll l o = conP sl ++ r := fun r hr => by
                  unfold opAll readsP
                  rw [if_neg (by simp [hwb]), hkk, HSL.out, hr]
                  rfl
                have hjm2 : ∀ r, readP sl o = some r → j < m := fun r hr => by
                  rcases Nat.lt_or_ge j m with h | h
                  · exact h
                  · obtain rfl : j = m := by omega
                    obtain ⟨o', ho', hb⟩ := HM.out.bad (by omega)
                    rw [ho5] at ho'
                    cases ho'
                    unfold badRead at hb
                    rw [hkk, HSL.out, hr] at hb
                    simp at hb
                have hall : ∀ r, readP sl o = some r → ∀ p, (p ∈ ps2 ∨ p ∈ r) ↔ p ∈ rAll l (j + 1) := fun r hr p => by
                  rw [hps2 p, hps5 p, hst, hrd r hr, List.mem_append, List.mem_append, or_assoc]
                have hjbad : readP sl o = none → j = m := fun hr => by
                  rcases Nat.lt_or_ge j m with h | h
                  · have := HM.out.fine j o h ho5
                    unfold badRead at this
                    rw [hkk, HSL.out, hr, hwb] at this
                    simp at this
                  · omega
                have HRD := hid (And.intro hjm2 (And.intro hall hjbad))
                have hrp0 : fr = 0 → readP sl o = some ((sl[0]?).toList.map (fun x => (tx, x))) := fun e => by unfold readP; rw [if_pos (hfr.trans e), htx]
                have hrp1 : ∀ i : Nat, fr ≠ 0 → sl[i]? = some fr → (∀ k : Nat, k < i → sl[k]? ≠ some fr) → readP sl o = some ((fr, tx) :: (sl[i + 1]?).toList.map (fun x => (tx, x))) := fun i e h1 h2 => by
                  unfold readP; rw [if_neg (by rw [hfr]; exact e), hfr, firstAt_of h1 h2, htx]; rfl
                have hrp2 : fr ≠ 0 → (∀ k : Nat, k < sl.length → sl[k]? ≠ some fr) → readP sl o = none := fun e h2 => by
                  unfold readP; rw [if_neg (by rw [hfr]; exact e), hfr]
                  cases hfa : firstAt fr sl with
                  | none => rfl
                  | some i => exact (h2 i (firstAt_lt hfa) (firstAt_get hfa).1).elim
                have HRP := hid (And.intro hrp0 (And.intro hrp1 hrp2))
                have HO7 := hid ho7
                have HP7 := hid hP7
                have HB7 := hid hB7
                have HX7 := hid hX7
                have hXne : w5.heap.size ≠ w3.heap.size := fun e => HP7.out.ne hX7 e.symm
                have hXlt : w5.heap.size < w7.heap.size := (Array.getElem?_eq_some_iff.1 hX7).1
                have hrel0 : w7.grownBy w7 (some w3.heap.size) := ⟨rfl, rfl, rfl, Nat.le_refl _, fun _ _ _ => rfl⟩
                have HREL0 := hid hrel0
                clear hP7 hps2 hg7 ho7 hX7 hP5 hps5 hB5 ho5 htx hkk hwb hfr hst hB7 hall hfin hrd hjm2 hjbad hrp0 hrp1 hrp2 hrel0
                by_cases hf0 : fr = 0
                · have hrp := HRP.out.1 hf0
                  subst hf0
                  by_cases hs0 : sl.length = 0
                  · have e0 : sl[0]? = none := List.getElem?_eq_none (by omega)
                    rw [e0] at hrp
                    have hm1 := HRD.out.1 _ hrp
                    have hl1 : ¬ (0 : Int) < (sl.length : Int) := by omega
                    have hl2 : (0 : Int) ≤ (sl.length : Int) := by omega
                    have H9 := hid (HRD.out.2.1 _ hrp)
                    clear hrp e0
                    go_wp2
                    go_loopw [12] (fun v w8 => v = .int .i64 0 ∧ w8 = w7) (fun _ _ => 0)
                    case atStart => exact ⟨rfl, rfl⟩
                    case round =>
                      obtain ⟨rfl, rfl⟩ := hrel
                      go_wp2
                      go_roundw
                      case rel => exact ⟨j + 1, nb2, ps2, by go_num, by omega, HP7.out, by omega, fun p => by rw [← H9.out p]; simp, HB7.out⟩
                      case measure => simp [intOf]; omega
                  · obtain ⟨a, ha⟩ : ∃ a, sl[0]? = some a := ⟨sl[0]'(by omega), List.getElem?_eq_getElem _⟩
                    rw [ha] at hrp
                    have hm1 := HRD.out.1 _ hrp
                    have H9 := hid (HRD.out.2.1 _ hrp)
                    rcases row_slice HO7.out with ⟨_, e0⟩ | ⟨g6, cap6, hsv6, hg6, hc6⟩
                    · omega
                    · injection hsv6 with hsv7 _ hsv8
                      subst hsv7
                      subst hsv8
                      have ca := hc6 0 _ (intsV_get ha)
                      have hP7d : PSet w7.drew w3.heap.size nb2 ps2 := HP7.out.same rfl
                      obtain ⟨w8, hrun, hP8, hg8⟩ := hP7d.store (by unfold maxLen; omega) i0 (HS64.out a (List.mem_of_getElem? ha))
                      have hng : some g6 ≠ some w3.heap.size := fun e => by
                        obtain ⟨cur, hc⟩ := row_block HO7.out (rfl : _ = some g6)
                        exact HP7.out.ne hc (by injection e with e; exact e.symm)
                      have y0 : w8.cell? ⟨g6, 0, none⟩ = some (.int .i64 a) := hg8.cell (a := ⟨g6, 0, none⟩) (by simpa using ca) hng
                      have y1 : w8.cell? ⟨w5.heap.size, 0, none⟩ = some (.int .i64 tx) := hg8.cell (a := ⟨w5.heap.size, 0, none⟩) (by simpa using x0) (fun e => hXne (by injection e))
                      have H8 := hid (And.intro hP8 (grown_trans (show w7.grownBy w7.drew _ from grown_drewN w7 1 _) hg8))
                      have hl1 : (0 : Int) < (sl.length : Int) := by omega
                      have hl2 : (0 : Int) ≤ (sl.length : Int) := by omega
                      clear hrp ha hc6 hP7d hP8 hg8 hng
                      go_wp2
                      go_loopw [12] (fun v w8 => v = .int .i64 0 ∧ w8 = w7) (fun _ _ => 0)
                      case atStart => exact ⟨rfl, rfl⟩
                      case round =>
                        obtain ⟨rfl, rfl⟩ := hrel
                        go_wp2
                        go_region_held3 (fun W => W.cell? ⟨g6, 0, none⟩ = some (.int .i64 a) ∧ W.cell? ⟨w5.heap.size, 0, none⟩ = some (.int .i64 tx))
                          (first
                            | go_keep
                            | exact ⟨y0, y1⟩)
                          (fail)
                        go_wp2
                        go_roundw
                        case rel => exact ⟨j + 1, nb2 + 1, ps2 ++ [(tx, a)], by go_num, by omega, H8.out.1, by omega, fun p => by rw [← H9.out p]; simp, HB7.out.grown H8.out.2 HB7.out.size (fun k e => by injection e with e; omega)⟩
                        case measure => simp [intOf]; omega
                · have hfb : (fr != 0) = true := by simpa using hf0
                  go_wp2
                  go_loopw [12] (fun v w8 => ∃ i : Nat, v = .int .i64 i ∧ i ≤ sl.length ∧ (∀ k : Nat, k < i → sl[k]? ≠ some fr) ∧ PSet w8 w3.heap.size nb2 ps2 ∧ w7.grownBy w8 (some w3.heap.size)) (fun v _ => sl.length - (intOf v).toNat)
                  case atStart => exact ⟨0, rfl, Nat.zero_le _, fun k hk => by omega, HP7.out, HREL0.out⟩
                  case round =>
                    obtain ⟨i, rfl, hi, hno, hP8, hg8⟩ := hrel
                    obtain ⟨w8, hw8⟩ : ∃ w8, w8 = wr := ⟨_, rfl⟩
                    subst hw8
                    have hX8 := (hg8.block w5.heap.size hXlt (fun e => hXne (by injection e))).trans HX7.out
                    have x8 : w8.cell? ⟨w5.heap.size, 3, none⟩ = some (.int .i64 fr) := (cell_of_row _ _ 3 _ _ (0, 0) hX8).trans rfl
                    have hB8 := HB7.out.grown hg8 HB7.out.size (fun k e => by injection e with e; omega)
                    have hi1 : (i : Int) ≤ (sl.length : Int) := by omega
                    by_cases hil : i < sl.length
                    · obtain ⟨b, hb⟩ : ∃ b, sl[i]? = some b := ⟨sl[i], List.getElem?_eq_getElem hil⟩
                      have ho8 := owns_same HO7.out (w' := w8) (fun g6 e => hg8.block g6 (HO7.out.lt g6 e).2 (fun e2 => by
                        obtain ⟨cur, hc⟩ := row_block HO7.out e
                        exact HP7.out.ne hc (by injection e2 with e2; exact e2.symm)))
                      rcases row_slice ho8 with ⟨_, e0⟩ | ⟨g6, cap6, hsv6, hg6, hc6⟩
                      · omega
                      · injection hsv6 with hsv7 _ hsv8
                        subst hsv7
                        subst hsv8
                        have cb : w8.cell? ⟨g6, i, none⟩ = some (.int .i64 b) := by simpa using hc6 i _ (intsV_get hb)
                        have hng : some g6 ≠ some w3.heap.size := fun e => by
                          obtain ⟨cur, hc⟩ := row_block HO7.out (rfl : _ = some g6)
                          exact HP7.out.ne hc (by injection e with e; exact e.symm)
                        have hii0 : (0 : Int) ≤ (i : Int) := by omega
                        have hii1 : (i : Int) < (sl.length : Int) := by omega
                        have hii2 : ((i : Int) == (sl.length : Int)) = false := by simp; omega
                        have hii5 : IntKind.i64.wrap (i : Int) = (i : Int) := IntWalk.i64_in _ (by omega)
                        have hii6 : (i : Int) + 1 - 1 = (i : Int) := by omega
                        have HP8 := hid hP8
                        have HG8 := hid hg8
                        have HNO := hid hno
                        by_cases hbf : b = fr
                        · rw [hbf] at cb hb
                          clear hbf b
                          have hrp := HRP.out.2.1 i hf0 hb hno
                          have hm1 := HRD.out.1 _ hrp
                          have HC6 := hid (And.intro hc6 hng)
                          have hff : (fr == fr) = true := by simp
                          have HRPI := hid hrp
                          clear hrp hno hP8 hg8 hX8 hB8 hc6 hng ho8 hb
                          go_wp2
                          go_quiet (fail)
                          obtain ⟨wz, hwz⟩ : ∃ wz, w8.drewN nq = wz := ⟨_, rfl⟩
                          have hPz : PSet wz w3.heap.size nb2 ps2 := by rw [← hwz]; exact HP8.out.same (by simp)
                          have hgz0 : w8.grownBy wz (some w3.heap.size) := by rw [← hwz]; exact grown_drewN w8 nq _
                          have hgz := grown_trans HG8.out hgz0
                          have hXz := (hgz.block w5.heap.size hXlt (fun e => hXne (by injection e))).trans HX7.out
                          have zx0 : wz.cell? ⟨w5.heap.size, 0, none⟩ = some (.int .i64 tx) := (cell_of_row _ _ 0 _ _ (0, 0) hXz).trans rfl
                          have zx3 : wz.cell? ⟨w5.heap.size, 3, none⟩ = some (.int .i64 fr) := (cell_of_row _ _ 3 _ _ (0, 0) hXz).trans rfl
                          obtain ⟨w9, hrun9, hP9, hg9⟩ := hPz.store (by unfold maxLen; omega) i2 i0
                          have y90 : w9.cell? ⟨w5.heap.size, 0, none⟩ = some (.int .i64 tx) := hg9.cell (a := ⟨w5.heap.size, 0, none⟩) zx0 (fun e => hXne (by injection e))
                          have hg79 := grown_trans hgz hg9
                          rw [hwz]
                          clear hwz x8 cb
                          by_cases hnx : i + 1 < sl.length
                          · obtain ⟨c, hc⟩ : ∃ c, sl[i + 1]? = some c := ⟨sl[i + 1], List.getElem?_eq_getElem hnx⟩
                            have hrp := HRPI.out
                            rw [hc] at hrp
                            have H9 := hid (HRD.out.2.1 _ hrp)
                            have cc0 : w8.cell? ⟨g6, i + 1, none⟩ = some (.int .i64 c) := by simpa using HC6.out.1 (i + 1) _ (intsV_get hc)
                            have cc9 : w9.cell? ⟨g6, i + 1, none⟩ = some (.int .i64 c) := hg9.cell (a := ⟨g6, i + 1, none⟩) (hgz0.cell (a := ⟨g6, i + 1, none⟩) cc0 HC6.out.2) HC6.out.2
                            have hP9d : PSet w9.drew w3.heap.size (nb2 + 1) (ps2 ++ [(fr, tx)]) := hP9.same rfl
                            obtain ⟨w10, hrun10, hP10, hg10⟩ := hP9d.store (by unfold maxLen; omega) i0 (HS64.out c (List.mem_of_getElem? hc))
                            have y0 : w10.cell? ⟨g6, i + 1, none⟩ = some (.int .i64 c) := hg10.cell (a := ⟨g6, i + 1, none⟩) (by simpa using cc9) HC6.out.2
                            have y1 : w10.cell? ⟨w5.heap.size, 0, none⟩ = some (.int .i64 tx) := hg10.cell (a := ⟨w5.heap.size, 0, none⟩) (by simpa using y90) (fun e => hXne (by injection e))
                            have H10 := hid (And.intro hP10 (grown_trans hg79 (grown_trans (show w9.grownBy w9.drew _ from grown_drewN w9 1 _) hg10)))
                            have hix1 : (i : Int) + 1 < (sl.length : Int) := by omega
                            have hix0 : (0 : Int) ≤ (i : Int) + 1 := by omega
                            have hix2 : ((i : Int) + 1).toNat = i + 1 := by omega
                            clear hPz hgz0 hgz hXz hP9 hg9 hg79 hc hrp cc0 hP9d hP10 hg10
                            go_wp2
                            go_region_held3 (fun W => W.cell? ⟨g6, i + 1, none⟩ = some (.int .i64 c) ∧ W.cell? ⟨w5.heap.size, 0, none⟩ = some (.int .i64 tx))
                              (first
                                | go_keep
                                | exact ⟨y0, y1⟩)
                              (fail)
                            go_wp2
                            go_roundw
                            case rel => exact ⟨j + 1, nb2 + 1 + 1, ps2 ++ [(fr, tx)] ++ [(tx, c)], by go_num, by omega, H10.out.1, by omega, fun p => by rw [← H9.out p]; simp, HB7.out.grown H10.out.2 HB7.out.size (fun k e => by injection e with e; omega)⟩
                            case measure => simp [intOf]; omega
                          · have hrp := HRPI.out
                            rw [List.getElem?_eq_none (by omega : sl.length ≤ i + 1)] at hrp
                            have H9 := hid (HRD.out.2.1 _ hrp)
                            have H10 := hid (And.intro hP9 hg79)
                            have hix1 : ¬ (i : Int) + 1 < (sl.length : Int) := by omega
                            clear hPz hgz0 hgz hXz hP9 hg9 hg79 hrp
                            go_wp2
                            go_roundw
                            case rel => exact ⟨j + 1, nb2 + 1, ps2 ++ [(fr, tx)], by go_num, by omega, H10.out.1, by omega, fun p => by rw [← H9.out p]; simp, HB7.out.grown H10.out.2 HB7.out.size (fun k e => by injection e with e; omega)⟩
                            case measure => simp [intOf]; omega
                        · have hbb : (b == fr) = false := by simpa using hbf
                          have hno2 : ∀ k : Nat, k < i + 1 → sl[k]? ≠ some fr := fun k hk => by
                            by_cases e : k = i
                            · subst e; rw [hb]; intro h; injection h with h; exact hbf h
                            · exact hno k (by omega)
                          have HNO2 := hid hno2
                          clear hno hno2 hP8 hg8 hX8 hB8 hc6 hng ho8 hb hbf
                          go_wp2
                          go_quiet (fail)
                          go_wp2
                          go_roundw
                          case rel => exact ⟨i + 1, by go_num, by omega, HNO2.out, HP8.out.same (by simp), grown_trans HG8.out (grown_drewN w8 _ _)⟩
                          case measure => simp [intOf]; omega
                    · obtain rfl : i = sl.length := by omega
                      have HJM := hid (HRD.out.2.2 (HRP.out.2.2 hf0 hno))
                      have hf := (hB8.block (w.heap.size + 1) (by omega)).trans HFR.out
                      have hfl : w.heap.size + 1 < w8.heap.size := (Array.getElem?_eq_some_iff.1 hf).1
                      have f0 : w8.cell? ⟨w.heap.size + 1, 0, none⟩ = some (.int .i64 0) := (cell_of_row _ _ 0 _ _ (0, 0) hf).trans rfl
                      have f1 : w8.cell? ⟨w.heap.size + 1, 1, none⟩ = some (.int .i64 0) := (cell_of_row _ _ 1 _ _ (0, 0) hf).trans rfl
                      have z0 : w8.frozen? ⟨w.heap.size + 1, 0, none⟩ = false := by simp [World.frozen?, hf]
                      have z1 : w8.frozen? ⟨w.heap.size + 1, 1, none⟩ = false := by simp [World.frozen?, hf]
                      have HA := hid (HBW.out.trans (hB8.mono (by omega)))
                      have HG := hid (fun ob => fault_put hf 1 (j : Int) ob)
                      have HG0 := hid (fault_put0 hf 1 (j : Int))
                      clear hno hP8 hg8 hX8 hB8 hf
                      go_wp2
                      exact bodyPost_ret (v := .tuple #[.slice none 0 0, .agg #[.int .i64 1, .int .i64 (j : Int)]]) (by simp [results, Tryz.results10, go_sem, HG0.out.2.1, HG0.out.2.2]) rfl ⟨(HA.out.setCell (p := ⟨w.heap.size + 1, 0, none⟩) (by simp) _).setCell (p := ⟨w.heap.size + 1, 1, none⟩) (by simp) _, .inl ⟨by have := HJM.out; omega, by rw [HJM.out]⟩⟩
        · obtain rfl : j = l.length := by omega
          have hmm2 : m = l.length := by omega
          have hj1 : ¬ (l.length : Int) < (l.length : Int) := by omega
          have hA : Below w5.heap.size w5 (w5.alloc (.cells #[.slice none 0 0] 23)) := (Below.refl _ _).alloc (Nat.le_refl _) _
          have hPA := hP.same (hA.block _ hP.lt)
          have hP0 := hP
          obtain ⟨hp64, D, hD, hDk⟩ := hPA
          have HD := hid hDk
          have HPS := hid (And.intro hp64 (And.intro hps (And.intro hB5 hA)))
          have hNl := hP0.lt
          clear hp64 hDk hps hB5 hA hP hP0 cL2 cL
          go_wp2_with (at_range; refine wpList_range_own _ rfl _ 125 rfl 78 4 lawW Tryz.underlying125 _ w3.heap.size nb D rfl hD ?_; intro w6 hrg6 hg6 hs6)
          have hT6 : TwosN w5.heap.size w6 w5.heap.size (.slice none 0 0) [] := ⟨(hg6.block w5.heap.size (by simp) (by simp)).trans (heap_alloc_new w5 _), World.ownsRow_nil _ _ _ _, Nat.le_refl _⟩
          have HT6 := hid hT6
          have HB6 := hid (show Below w3.heap.size w3 w6 from by
            have h1 := HPS.out.2.2.1.trans (HPS.out.2.2.2.mono hB5s)
            exact h1.grown hg6 h1.size (fun k e => by cases e))
          have hsA : (w5.alloc (.cells #[.slice none 0 0] 23)).heap.size = w5.heap.size + 1 := by simp
          rw [hsA] at hrg6
          clear hT6
          go_loopw [] (fun w7 => ∃ left cnt out v, w7.ranges Tryz.prog 78 anyElem w3.heap.size (w5.heap.size + 1) nb D left cnt ∧ TwosN w5.heap.size w7 w5.heap.size v out ∧ (∀ p : Int × Int, p ∈ out ↔ p ∈ ps ∧ p.1 ≠ p.2 ∧ left (.string (keyBytes [.int .i64 p.1, .int .i64 p.2])) = false) ∧ out.Nodup ∧ (∀ kl, left kl = true → Maps.has D kl = true) ∧ Below w3.heap.size w3 w7 ∧ v.ownBlock ≠ some (w5.heap.size + 1)) (fun w7 => w7.rangeLeft w3.heap.size (w5.heap.size + 1))
          case atStart =>
            refine ⟨_, _, [], _, hrg6, HT6.out, fun p => ?_, List.nodup_nil, fun _ h => h, HB6.out, fun e => by cases e⟩
            constructor
            · intro h; simp at h
            · rintro ⟨h1, _, h3⟩
              have h4 := (HD.out _).2 ⟨p, h1, keyW (HPS.out.1 p h1).1 (HPS.out.1 p h1).2⟩
              rw [h4] at h3
              cases h3
          case round =>
            obtain ⟨left, cnt, out, v, hrg, hT7, hout, hnd, hle, hB7, hne7⟩ := hrel
            have hol : out.length ≤ 100000 := Nat.le_trans (nodup_le2 hnd (s := rAll l l.length) (fun p hp => (HPS.out.2.1 p).1 ((hout p).1 hp).1)) (Nat.le_trans (rAll_len l) (by
              have : (l.length + 2) * l.length ≤ 102 * 100 := Nat.mul_le_mul (by omega) (by omega)
              omega))
            have HR := hid (And.intro hrg (And.intro hT7 (And.intro hout (And.intro hnd (And.intro hle (And.intro hB7 hne7))))))
            clear hT7 hout hnd hle hB7 hne7
            go_wp2_with (at_next; refine wpList_next_ranges _ rfl _ rfl 78 lawW anyElem pv (fun c : Value => c) (fun key kl hkey => by obtain ⟨a, b, rfl, _⟩ := keyW_inv hkey; exact ⟨(a, b), rfl⟩) (fun v y _ => ⟨v, rfl⟩) w3.heap.size (w5.heap.size + 1) nb D left cnt rfl hrg ?_ ?_)
            · intro hc0 hl0
              have HL0 := hid hl0
              obtain ⟨_, hT7, hout, hnd, _, hB7, _⟩ := HR.out
              have c7 := hT7.cell
              have HC7 := hid (refSort_any w5.heap.size w5.heap.size v out wr hT7 (by omega))
              clear hc0 hl0 hrg hT7 hout hnd hB7
              go_wp2_with fail
              refine HC7.out.mono ?_
              rintro e w8 ⟨rfl, d8, hp8, hs8, hT8, hg8⟩
              have hB78 : Below w3.heap.size w3 w8 := HR.out.2.2.2.2.2.1.grown hg8 HR.out.2.2.2.2.2.1.size (fun k e => Nat.le_trans hB5s (HR.out.2.1.row.lt k e).1)
              have hR8 : w8.heap[w.heap.size + 1]? = some (.cells #[.int .i64 0, .int .i64 0] 26 (0, 0)) := (hB78.block _ (by omega)).trans HFR.out
              have c8 := hT8.cell
              have hR8l : w.heap.size + 1 < w8.heap.size := (Array.getElem?_eq_some_iff.1 hR8).1
              have hbl8 := hT8.lt
              have H8 := hid (And.intro hp8 (And.intro hs8 (And.intro hT8 (And.intro hB78 hR8))))
              clear hp8 hs8 hT8 hg8 hR8 HC7 hB78
              go_wp2
              have f0 : w8.cell? ⟨w.heap.size + 1, 0, none⟩ = some (.int .i64 0) := (cell_of_row _ _ 0 _ _ (0, 0) H8.out.2.2.2.2).trans rfl
              have HX8 := hid (show ∀ W, Below w8.heap.size w8 W → W.heap[w.heap.size + 1]? = some (.cells #[.int .i64 0, .int .i64 0] 26 (0, 0)) ∧ W.cell? ⟨w5.heap.size, 0, none⟩ = some v from fun W hW => ⟨(hW.block _ hR8l).trans H8.out.2.2.2.2, (hW.cell (p := ⟨w5.heap.size, 0, none⟩) hbl8).trans H8.out.2.2.1.cell⟩)
              have hbn : w5.heap.size ≠ w.heap.size + 1 := by omega
              go_region_held3 (fun W => W.cell? ⟨w5.heap.size, 0, none⟩ = some v)
                (first
                  | go_keep
                  | exact y9
                  | exact yS)
                (first
                  | (go_at_call 58
                     refine (bareF_any _ _).mono ?_
                     rintro e w9 ⟨rfl, hB9⟩
                     have hb9 : Below w8.heap.size w8 w9 := (below_drewN (Below.refl _ w8) 1).trans hB9
                     have hF9 := (HX8.out w9 hb9).1
                     have y9 := (HX8.out w9 hb9).2
                     have g0 : w9.cell? ⟨w.heap.size + 1, 0, none⟩ = some (.int .i64 0) := (cell_of_row _ _ 0 _ _ (0, 0) hF9).trans rfl
                     have g1 : w9.cell? ⟨w.heap.size + 1, 1, none⟩ = some (.int .i64 0) := (cell_of_row _ _ 1 _ _ (0, 0) hF9).trans rfl
                     have z0 : w9.frozen? ⟨w.heap.size + 1, 0, none⟩ = false := by simp [World.frozen?, hF9]
                     have z1 : w9.frozen? ⟨w.heap.size + 1, 1, none⟩ = false := by simp [World.frozen?, hF9]
                     have yS : ((w9.setCell ⟨w.heap.size + 1, 0, none⟩ (.int .i64 0)).setCell ⟨w.heap.size + 1, 1, none⟩ (.int .i64 (-1))).cell? ⟨w5.heap.size, 0, none⟩ = some v := (World.cell?_of_block (a := ⟨w5.heap.size, 0, none⟩) ((heap_setCell_other _ ⟨w.heap.size + 1, 1, none⟩ w5.heap.size _ (fun e => hbn e)).trans (heap_setCell_other _ ⟨w.heap.size + 1, 0, none⟩ w5.heap.size _ (fun e => hbn e)))).trans y9
                     have HF9 := hid (And.intro hF9 hb9)
                     clear hF9 hb9 hB9)
                  | fail)
              have HG0 := hid (fault_put0 HF9.out.1 0 (-1))
              have hBf : Below w.heap.size w ((w9.setCell ⟨w.heap.size + 1, 0, none⟩ (.int .i64 0)).setCell ⟨w.heap.size + 1, 1, none⟩ (.int .i64 (-1))) := by
                have h1 := HBW.out.trans (H8.out.2.2.2.1.mono (by omega))
                have h2 := h1.trans (HF9.out.2.mono h1.size)
                exact (h2.setCell (p := ⟨w.heap.size + 1, 0, none⟩) (by simp) _).setCell (p := ⟨w.heap.size + 1, 1, none⟩) (by simp) _
              have hEf : IsEdges l d8 := by
                obtain ⟨_, _, hout, hnd, _⟩ := HR.out
                refine set_edges (fun a b => ?_) hnd H8.out.1 H8.out.2.1
                rw [hout (a, b), HPS.out.2.1 (a, b), HL0.out]
                constructor
                · rintro ⟨h1, h2, _⟩
                  exact ⟨h2, h1⟩
                · rintro ⟨h1, h2⟩
                  exact ⟨h2, h1, rfl⟩
              have hRf : ((w9.setCell ⟨w.heap.size + 1, 0, none⟩ (.int .i64 0)).setCell ⟨w.heap.size + 1, 1, none⟩ (.int .i64 (-1))).ownsRow w.heap.size 78 2 v d8.length (vrow d8) := by
                have hrow := H8.out.2.2.1.row
                refine owns_base (owns_same hrow (fun g e => ?_)) (by omega)
                have hg := hrow.lt g e
                have hne : g ≠ w.heap.size + 1 := by omega
                exact (heap_setCell_other _ ⟨w.heap.size + 1, 1, none⟩ g _ (fun e2 => hne e2)).trans ((heap_setCell_other _ ⟨w.heap.size + 1, 0, none⟩ g _ (fun e2 => hne e2)).trans (HF9.out.2.block g hg.2))
              have HFIN := hid (And.intro hBf (And.intro hEf hRf))
              clear hBf hEf hRf y9 yS g0 g1 z0 z1 c8
              go_wp2
              exact bodyPost_ret (v := .tuple #[v, .agg #[.int .i64 0, .int .i64 (-1)]]) (by simp [results, Tryz.results10, go_sem, HG0.out.1, HG0.out.2.1]) rfl ⟨HFIN.out.1, .inr ⟨hmm2, v, d8, rfl, HFIN.out.2.1, HFIN.out.2.2⟩⟩
            · intro a b c kl ya yb w8 cnt1 hkey hlk hv hat hrg1 hlt hg1 hs1 hen
              obtain ⟨a', b', ex, ha64, hb64⟩ := keyW_inv hkey
              obtain ⟨rfl, rfl⟩ : a = a' ∧ b = b' := by simpa [pv] using ex
              simp only [pv] at hen
              obtain rfl : kl = .string (keyBytes [.int .i64 a, .int .i64 b]) := Option.some.inj (hkey.symm.trans (keyW ha64 hb64))
              obtain ⟨_, hT7, hout, hnd, hle, hB7, hne7⟩ := HR.out
              have hinj : ∀ p : Int × Int, I64 p.1 → I64 p.2 → Lit.string (keyBytes [.int .i64 p.1, .int .i64 p.2]) = .string (keyBytes [.int .i64 a, .int .i64 b]) → p = (a, b) := fun p h1 h2 e => by
                have h3 := keyW h1 h2
                rw [e] at h3
                have h4 := lawW.inj h3 (keyW ha64 hb64)
                obtain ⟨p1, p2⟩ := p
                simpa using h4
              have hmem : (a, b) ∈ ps := by
                obtain ⟨p, hp, hk⟩ := (HD.out _).1 (hle _ hlk)
                have h4 := lawW.inj hk (keyW ha64 hb64)
                obtain ⟨p1, p2⟩ := p
                obtain ⟨rfl, rfl⟩ : p1 = a ∧ p2 = b := by simpa [pv] using h4
                exact hp
              have hml : ∀ p : Int × Int, p ∈ ps → ((left (.string (keyBytes [.int .i64 p.1, .int .i64 p.2])) && !(Lit.string (keyBytes [.int .i64 p.1, .int .i64 p.2])).sameKey (.string (keyBytes [.int .i64 a, .int .i64 b]))) = false ↔ left (.string (keyBytes [.int .i64 p.1, .int .i64 p.2])) = false ∨ p = (a, b)) := fun p hp => by
                by_cases e : p = (a, b)
                · subst e; simp [Lit.sameKey]
                · rw [Maps.sameKey_ne (fun h => e (hinj p (HPS.out.1 p hp).1 (HPS.out.1 p hp).2 h))]
                  simp [e]
              have hxo : (a, b) ∉ out := fun h => by
                have := ((hout _).1 h).2.2
                rw [hlk] at this
                cases this
              have hle1 : ∀ kl, (left kl && !kl.sameKey (.string (keyBytes [.int .i64 a, .int .i64 b]))) = true → Maps.has D kl = true := fun kl h => hle kl (by simp at h; exact h.1)
              have hB7s := hB7.size
              have hT8 : TwosN w5.heap.size w8 w5.heap.size v out := hT7.same (fun g hg => hg1.block g (by
                rcases hg with rfl | e
                · exact hT7.lt
                · exact (hT7.row.lt g e).2) (fun e => by
                  rcases hg with rfl | e2
                  · injection e with e; omega
                  · rw [← e] at hne7; exact hne7 e2))
              have hB8 : Below w3.heap.size w3 w8 := hB7.grown hg1 hB7s (fun k e => by injection e with e; omega)
              have hA8 : Below w8.heap.size w8 (w8.alloc (.cells #[.int .i64 a, .int .i64 b] 78)) := (Below.refl _ _).alloc (Nat.le_refl _) _
              have hmeas := hrg1.left_eq
              have hmeas0 := hrg.left_eq
              have c8 := hT8.cell
              have cA := (hT8.below hA8).cell
              have hs8 := hT8.lt
              have H1 := hid (And.intro hrg1 (And.intro hT8 (And.intro hB8 (And.intro hle1 (And.intro hml (And.intro hxo (And.intro hout (And.intro hnd (And.intro hne7 hmem)))))))))
              have HA8 := hid hA8
              clear hrg hT7 hout hnd hle hB7 hne7 hkey hlk hv hat hinj hmem hml hxo hle1 hT8 hB8 hA8 hrg1 hg1 hs1 ex
              by_cases hab : a = b
              · have hbb : (a != b) = false := by simp [hab]
                have HAB := hid hab
                clear hab
                go_wp2
                go_roundw
                case rel =>
                  obtain ⟨hrg1, hT8, hB8, hle1, hml, hxo, hout, hnd, hne7, hmem⟩ := H1.out
                  refine ⟨_, cnt1, out, v, hrg1.alloc _, hT8.below HA8.out, fun p => ?_, hnd, hle1, hB8.trans (HA8.out.mono hB8.size), hne7⟩
                  rw [hout p]
                  constructor
                  · rintro ⟨h1, h2, h3⟩
                    exact ⟨h1, h2, (hml p h1).2 (.inl h3)⟩
                  · rintro ⟨h1, h2, h3⟩
                    refine ⟨h1, h2, ((hml p h1).1 h3).resolve_right (fun e => h2 (by rw [e]; exact HAB.out))⟩
                case measure =>
                  rw [(H1.out.1.alloc _).left_eq, hmeas0]
                  omega
              · have hbb : (a != b) = true := by simpa using hab
                have HAB := hid hab
                have hT9 := (H1.out.2.1.below HA8.out).below ((Below.refl _ _).alloc (Nat.le_refl _) (.cells #[.int .i64 a, .int .i64 b] 78))
                have HT9 := hid hT9
                have hs1 := H1.out.2.2.1.size
                clear hab hT9
                go_wp2_with (at_builtin; refine wpList_append_lies _ rfl _ _ _ rfl w5.heap.size 78 inf0 _ 2 16 Tryz.underlying23 hif0 hif1 hif2 hif3 rfl (by omega) v _ _ rfl HT9.out.row ⟨w8.heap.size + 1, 0, none⟩ 1 1 [.int .i64 a, .int .i64 b] rfl rfl (World.news_of_block (cs := #[.int .i64 a, .int .i64 b]) (t := 78) (fr := (0, 0)) (heap_alloc2_new w8 _ _)) (by simp [Value.oneCell']) (by omega) (by unfold maxLen; omega) (by omega) (by simp; omega) (w8.heap.size + 2) (by simp) ?_; intro g9 cap9 w9 ho9 hgrow9 hat9 hlt9; have c9 := (World.cell?_of_block (a := ⟨w5.heap.size, 0, none⟩) (hgrow9.block w5.heap.size HT9.out.lt (fun e => HT9.out.ne e.symm))).trans HT9.out.cell; have f9 := (World.frozen?_of_block (a := ⟨w5.heap.size, 0, none⟩) (hgrow9.block w5.heap.size HT9.out.lt (fun e => HT9.out.ne e.symm))).trans HT9.out.free)
                have hp := HT9.out.put (d' := out ++ [(a, b)]) hgrow9 (by rw [List.length_append, vrow_append]; exact ho9)
                have hrg9 := ((H1.out.1.alloc (.cells #[.int .i64 a, .int .i64 b] 78)).alloc (.cells #[.int .i64 a, .int .i64 b] 78)).kept hgrow9 (fun e => by have := (HT9.out.row.lt _ e.symm).1; omega) (fun e => H1.out.2.2.2.2.2.2.2.2.1 e.symm)
                have hgs : w9.grownBy (w9.setCell ⟨w5.heap.size, 0, none⟩ (.slice (some ⟨g9, 0, none⟩) (out.length + 1) cap9)) (some w5.heap.size) := ⟨rfl, rfl, rfl, by simp, fun k hk hn => heap_setCell_other w9 ⟨w5.heap.size, 0, none⟩ k _ (fun e => hn (by rw [e]))⟩
                have hrg10 := hrg9.kept hgs (fun e => by injection e with e; omega) (fun e => by injection e with e; omega)
                have HF := hid (And.intro hp (And.intro hrg10 hgrow9))
                clear hp hrg9 hrg10 hgs hgrow9 ho9
                go_wp2
                go_roundw
                case rel =>
                  obtain ⟨hrg1, hT8, hB8, hle1, hml, hxo, hout, hnd, hne7, hmem⟩ := H1.out
                  obtain ⟨hp, hrg10, hgrow9⟩ := HF.out
                  refine ⟨_, cnt1, out ++ [(a, b)], _, hrg10, hp.1, fun p => ?_, List.nodup_append.2 ⟨hnd, by simp, fun u hu z hz e => by rw [List.mem_singleton] at hz; exact hxo (hz ▸ e ▸ hu)⟩, hle1, ?_, fun e => ?_⟩
                  · rw [List.mem_append, List.mem_singleton, hout p]
                    constructor
                    · rintro (⟨h1, h2, h3⟩ | rfl)
                      · exact ⟨h1, h2, (hml p h1).2 (.inl h3)⟩
                      · exact ⟨hmem, HAB.out, (hml _ hmem).2 (.inr rfl)⟩
                    · rintro ⟨h1, h2, h3⟩
                      rcases (hml p h1).1 h3 with h | h
                      · exact .inl ⟨h1, h2, h⟩
                      · exact .inr h
                  · have hB9 := hB8.trans ((HA8.out.trans (((Below.refl _ _).alloc (Nat.le_refl _) (.cells #[.int .i64 a, .int .i64 b] 78)).mono (by simp))).mono hB8.size)
                    exact hB9.trans ((hp.2.twos HT9.out).mono (by omega))
                  · have e3 : g9 = w5.heap.size + 1 := by injection e
                    rcases hat9 with e4 | e4
                    · exact hne7 (e3 ▸ e4)
                    · omega
                case measure =>
                  rw [HF.out.2.1.left_eq, hmeas0]
                  omega
end Go.Proofs.YtjefgmeejhakbaaGreatDoor
