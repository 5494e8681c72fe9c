/- The reference's Line. -/
import Derived.Test.YtjefgmeejhakbaaGreatDoorRoEdgesAR
import Derived.Test.YtjefgmeejhakbaaGreatDoorRoLinePR
namespace Go.Proofs.YtjefgmeejhakbaaGreatDoor
open Go.RowKit
theorem lenV_row {w : World} {base : Nat} {v : Value} {l : List Int} (h : w.ownsRow base 3 1 v l.length (intsV l)) : lenV v = l.length := by obtain ⟨_, _, e⟩ := row_form h; rw [e]; rfl
theorem zeroB (w : World) : (zeroValue 4).run Tryz.prog w = .ok (.bool false) w := by kernel_rfl
set_option maxRecDepth 100000 in
set_option maxHeartbeats 4000000 in
theorem refLine_are (ad : Option Addr) (cap : Nat) (l : List Opp) (w : World) (hn : l.length ≤ 100) (hO : OpsAt w ad l) (mb mr : Nat) (hb : FineTo opBad l mb) (hr : FineTo (badRead l) l mr) :
    Calls Tryz.prog 11 #[.slice ad l.length cap] w fun e w' => ∃ v c p out, e = .returned (.tuple #[v, .agg #[.int .i64 c, .int .i64 p]]) ∧ Below w.heap.size w w' ∧ w'.ownsRow w.heap.size 3 1 v out.length (intsV out) ∧ LineAre l mb mr c p out := by
  obtain ⟨i0, hi0, hz0, hz1, hz2⟩ := info_parts info3
  have hA0 : Below w.heap.size w (w.alloc (.cells #[.int .i64 0, .int .i64 0] 26)) := (Below.refl _ _).alloc (Nat.le_refl _) _
  have HF0 := hid (heap_alloc_new w (.cells #[.int .i64 0, .int .i64 0] 26))
  have HC := hid (refEdges_are ad cap l _ hn (hO.below hA0) mb mr hb hr)
  have h64 : ∀ y ∈ l.map (fun o => o.1), I64 y := fun y hy => by
    obtain ⟨o, ho, rfl⟩ := List.mem_map.1 hy
    obtain ⟨j, hj, e⟩ := List.getElem_of_mem ho
    obtain ⟨_, _, _, _, _, h, _⟩ := hO j o (by rw [List.getElem?_eq_getElem hj, e])
    exact h
  have hpos : mb = l.length → ∀ y ∈ l.map (fun o => o.1), 1 ≤ y := fun e y hy => by
    subst e
    obtain ⟨o, ho, rfl⟩ := List.mem_map.1 hy
    exact (opBad_false (hb.all o ho)).1
  have hmt : ∀ y, y ∈ txsP l ↔ y ∈ l.map (fun o => o.1) := fun y => by unfold txsP; exact mem_once _
  have HO := hid hO
  have HAL := hid hA0
  have H64 := hid h64
  have HPOS := hid hpos
  have HMT := hid hmt
  have htl := txs_length l
  have hmm := @run_makeMap Tryz.prog
  clear hO hA0 hb hr h64 hpos hmt
  go_enter Tryz.func11, Tryz.ntmps11
  go_wp2_with fail
  refine HC.out.mono ?_
  rintro e w1 ⟨tv, c, p, E, rfl, hB1, hT, hEA⟩
  have hF1 := (hB1.block w.heap.size (by simp)).trans HF0.out
  have hB01 := HAL.out.trans (hB1.mono (by simp))
  have hfl : w.heap.size < w1.heap.size := (Array.getElem?_eq_some_iff.1 hF1).1
  have f0 : w1.cell? ⟨w.heap.size, 0, none⟩ = some (.int .i64 0) := (cell_of_row _ _ 0 _ _ (0, 0) hF1).trans rfl
  have f1 : w1.cell? ⟨w.heap.size, 1, none⟩ = some (.int .i64 0) := (cell_of_row _ _ 1 _ _ (0, 0) hF1).trans rfl
  have z0 : w1.frozen? ⟨w.heap.size, 0, none⟩ = false := by simp [World.frozen?, hF1]
  have z1 : w1.frozen? ⟨w.heap.size, 1, none⟩ = false := by simp [World.frozen?, hF1]
  have hT1 : ∀ g, tv.ownBlock = some g → w.heap.size < g ∧ g < w1.heap.size := fun g e => ⟨by have := (hT.lt g e).1; simp at this; omega, (hT.lt g e).2⟩
  have H1 := hid (And.intro hF1 (And.intro hB01 (And.intro hT hT1)))
  clear hB1 hF1 hB01 hT hT1 HC
  have hcase : (c ≠ 0 ∧ LineAre l mb mr c p []) ∨ (c = 0 ∧ p = -1 ∧ mb = l.length ∧ mr = l.length ∧ IsEdges l E) := by
    rcases hEA with ⟨h1, rfl, rfl, rfl⟩ | ⟨h1, h2, rfl, rfl, rfl⟩ | ⟨h1, h2, rfl, rfl, h5⟩
    · exact .inl ⟨by omega, .inl ⟨h1, rfl, rfl, rfl⟩⟩
    · exact .inl ⟨by omega, .inr (.inl ⟨h1, h2, rfl, rfl, rfl⟩)⟩
    · exact .inr ⟨rfl, rfl, h1, h2, h5⟩
  clear hEA
  rcases hcase with ⟨hc0, hLA⟩ | ⟨rfl, rfl, hmb, hmr, hE⟩
  · have hcb : (c != 0) = true := by simpa using hc0
    have HLA := hid hLA
    clear hc0 hLA
    have hA1 : Below w1.heap.size w1 (w1.alloc (.cells #[.int .i64 c, .int .i64 p] 26)) := (Below.refl _ _).alloc (Nat.le_refl _) _
    obtain ⟨wA, hwA⟩ : ∃ wA, w1.alloc (.cells #[.int .i64 c, .int .i64 p] 26) = wA := ⟨_, rfl⟩
    have hXA : wA.heap[w1.heap.size]? = some (.cells #[.int .i64 c, .int .i64 p] 26 (0, 0)) := by rw [← hwA]; exact heap_alloc_new w1 _
    rw [hwA] at hA1
    have hFA : wA.heap[w.heap.size]? = some (.cells #[.int .i64 0, .int .i64 0] 26 (0, 0)) := (hA1.block _ hfl).trans H1.out.1
    have hflA : w.heap.size < wA.heap.size := (Array.getElem?_eq_some_iff.1 hFA).1
    have g0 : wA.cell? ⟨w.heap.size, 0, none⟩ = some (.int .i64 0) := (cell_of_row _ _ 0 _ _ (0, 0) hFA).trans rfl
    have g1 : wA.cell? ⟨w.heap.size, 1, none⟩ = some (.int .i64 0) := (cell_of_row _ _ 1 _ _ (0, 0) hFA).trans rfl
    have y0 : wA.frozen? ⟨w.heap.size, 0, none⟩ = false := by simp [World.frozen?, hFA]
    have y1 : wA.frozen? ⟨w.heap.size, 1, none⟩ = false := by simp [World.frozen?, hFA]
    have x0 : wA.cell? ⟨w1.heap.size, 0, none⟩ = some (.int .i64 c) := (cell_of_row _ _ 0 _ _ (0, 0) hXA).trans rfl
    have x1 : wA.cell? ⟨w1.heap.size, 1, none⟩ = some (.int .i64 p) := (cell_of_row _ _ 1 _ _ (0, 0) hXA).trans rfl
    have HWA := hid hwA
    have HA1 := hid (And.intro hA1 hFA)
    have hne : w1.heap.size ≠ w.heap.size := by omega
    clear hwA hA1 hXA hFA f0 f1 z0 z1
    go_wp2
    rw [HWA.out]
    have HG0 := hid (fault_put0 (w := wA) (R := w.heap.size) HA1.out.2 c p)
    have s0 : ((wA.setCell ⟨w.heap.size, 0, none⟩ (.int .i64 c)).setCell ⟨w.heap.size, 1, none⟩ (.int .i64 p)).cell? ⟨w1.heap.size, 0, none⟩ = some (.int .i64 c) := (World.cell?_of_block (a := ⟨w1.heap.size, 0, none⟩) ((heap_setCell_other _ ⟨w.heap.size, 1, none⟩ w1.heap.size _ (fun e => hne e)).trans (heap_setCell_other _ ⟨w.heap.size, 0, none⟩ w1.heap.size _ (fun e => hne e)))).trans x0
    have s1 : ((wA.setCell ⟨w.heap.size, 0, none⟩ (.int .i64 c)).setCell ⟨w.heap.size, 1, none⟩ (.int .i64 p)).cell? ⟨w1.heap.size, 1, none⟩ = some (.int .i64 p) := (World.cell?_of_block (a := ⟨w1.heap.size, 1, none⟩) ((heap_setCell_other _ ⟨w.heap.size, 1, none⟩ w1.heap.size _ (fun e => hne e)).trans (heap_setCell_other _ ⟨w.heap.size, 0, none⟩ w1.heap.size _ (fun e => hne e)))).trans x1
    go_region_held3 (fun W => W.cell? ⟨w1.heap.size, 0, none⟩ = some (.int .i64 c) ∧ W.cell? ⟨w1.heap.size, 1, none⟩ = some (.int .i64 p))
      (first
        | go_keep
        | exact ⟨s0, s1⟩)
      (fail)
    go_wp2
    have hG : ((wA.setCell ⟨w.heap.size, 0, none⟩ (.int .i64 c)).setCell ⟨w.heap.size, 1, none⟩ (.int .i64 p)).drew.cell? ⟨w.heap.size, 0, none⟩ = some (.int .i64 c) ∧ ((wA.setCell ⟨w.heap.size, 0, none⟩ (.int .i64 c)).setCell ⟨w.heap.size, 1, none⟩ (.int .i64 p)).drew.cell? ⟨w.heap.size, 1, none⟩ = some (.int .i64 p) := ⟨HG0.out.1, HG0.out.2.1⟩
    have hBf : Below w.heap.size w ((wA.setCell ⟨w.heap.size, 0, none⟩ (.int .i64 c)).setCell ⟨w.heap.size, 1, none⟩ (.int .i64 p)).drew := by
      have h1 := H1.out.2.1.trans (HA1.out.1.mono H1.out.2.1.size)
      exact ((h1.setCell (p := ⟨w.heap.size, 0, none⟩) (by simp) _).setCell (p := ⟨w.heap.size, 1, none⟩) (by simp) _).drew
    exact bodyPost_ret (v := .tuple #[.slice none 0 0, .agg #[.int .i64 c, .int .i64 p]]) (by simp [results, Tryz.results11, go_sem, HG0.out.1, HG0.out.2.1]) rfl ⟨_, c, p, [], rfl, hBf, World.ownsRow_nil _ _ _ _, HLA.out⟩
  · have HE := hid (And.intro hmb (And.intro hmr hE))
    have hEl : E.length ≤ 20000 := Nat.le_trans (nodup_le2 (edges_nodup hE) (s := rAll l l.length) (fun p hp => (mem_rAll p.1 p.2).2 ((hE.2 p.1 p.2).1 hp).2)) (Nat.le_trans (rAll_len l) (by
      have : (l.length + 2) * l.length ≤ 102 * 100 := Nat.mul_le_mul (by omega) (by omega)
      omega))
    have hW : Below w1.heap.size w1 ((w1.alloc (.cells #[.int .i64 0, .int .i64 (-1)] 26)).alloc (.map #[] 0)) := ((Below.refl _ _).alloc (Nat.le_refl _) _).alloc (by simp) _
    have hI0 := IMap.made (w1.alloc (.cells #[.int .i64 0, .int .i64 (-1)] 26))
    have hsz0 : (w1.alloc (.cells #[.int .i64 0, .int .i64 (-1)] 26)).heap.size = w1.heap.size + 1 := by simp
    rw [hsz0] at hI0
    have HW := hid hW
    have HI0 := hid hI0
    clear hmb hmr hE hW hI0 hsz0
    go_wp2
    go_loopw [27] (fun iv wr => ∃ j : Nat, iv = .int .i64 j ∧ j ≤ l.length ∧ IMap wr (w1.heap.size + 1) j (leftF ((l.take j).map (fun o => o.1))) ∧ Below w1.heap.size w1 wr) (fun iv _ => l.length - (intOf iv).toNat)
    case atStart =>
      refine ⟨0, rfl, Nat.zero_le _, HI0.out.congr (fun a => by simp [leftF]), HW.out⟩
    case round =>
      obtain ⟨j, rfl, hj, hI, hB⟩ := hrel
      have hBs := hB.size
      by_cases hlt : j < l.length
      · obtain ⟨o, ho⟩ : ∃ o, l[j]? = some o := ⟨l[j], List.getElem?_eq_getElem hlt⟩
        obtain ⟨g, off, rfl, hg, ⟨c0, c1, c2, c3⟩, hx0, _, _⟩ := (HO.out.below (H1.out.2.1.trans (hB.mono (by omega)))) j o ho
        have hj0 : (0 : Int) ≤ (j : Int) := by omega
        have hj1 : (j : Int) < (l.length : Int) := by omega
        have hA := (Below.refl wr.heap.size wr).alloc (Nat.le_refl _) (.cells #[.int .i64 o.1, .int .i64 o.2.1, .bool o.2.2.1, .int .i64 o.2.2.2] 90)
        have hIA := hI.same (hA.block _ hI.lt)
        obtain ⟨w4, hrun4, hI4, hg4⟩ := hIA.store Tryz.underlying129 (by unfold maxLen; omega) hx0 (.bool true)
        have hst : ∀ a, updT (leftF ((l.take j).map (fun o => o.1))) o.1 (some (.bool true)) a = leftF ((l.take (j + 1)).map (fun o => o.1)) a := fun a => by
          rw [List.take_add_one, ho, List.map_append]
          by_cases e : a = o.1
          · subst e; rw [updT_same]; simp [leftF]
          · rw [updT_other _ _ e]; simp [leftF, e]
        have H4 := hid (And.intro (hI4.congr hst) ((hB.trans (hA.mono hBs)).grown hg4 (by simp; omega) (fun k e => by injection e with e; omega)))
        clear hI hB ho hA hIA hI4 hg4 hst
        go_wp2
        go_roundw
        case rel => exact ⟨j + 1, by go_num, by omega, H4.out.1, H4.out.2⟩
        case measure => simp [intOf]; omega
      · obtain rfl : j = l.length := by omega
        rw [List.take_length] at hI
        have hI2 : IMap wr (w1.heap.size + 1) l.length (leftF (txsP l)) := hI.congr (fun a => by unfold leftF; simp only [HMT.out a])
        obtain ⟨w2, hw2⟩ : ∃ w2, w2 = wr := ⟨_, rfl⟩
        subst hw2
        have HI2 := hid (And.intro hI2 hB)
        have hll : ¬ (l.length : Int) < (l.length : Int) := by omega
        clear hI hI2 hB
        go_wp2
        go_loopw [9] (fun ov wr => ∃ (left out : List Int) (fuel : Nat), IMap wr (w1.heap.size + 1) l.length (leftF left) ∧ left.Nodup ∧ out.length + left.length ≤ (txsP l).length ∧ left.length ≤ fuel ∧ (lineP E fuel left).map (fun r => out ++ r) = lineP E (txsP l).length (txsP l) ∧ (∀ y ∈ left, y ∈ txsP l) ∧ wr.ownsRow (w1.heap.size + 2) 3 1 ov out.length (intsV out) ∧ Below w1.heap.size w1 wr) (fun ov _ => (txsP l).length - lenV ov)
        case atStart =>
          refine ⟨txsP l, [], (txsP l).length, HI2.out.1, nodup_txs l, by simp, Nat.le_refl _, ?_, fun _ h => h, World.ownsRow_nil _ _ _ _, HI2.out.2⟩
          cases lineP E (txsP l).length (txsP l) <;> simp
        case round =>
          obtain ⟨left, out, fuel, hI, hnd, hol, hlf, hlp, hlt, ho, hB⟩ := hrel
          obtain ⟨w3, hw3⟩ : ∃ w3, w3 = wr := ⟨_, rfl⟩
          subst hw3
          obtain ⟨k, hkl, hlen, hk0⟩ := hI.len Tryz.underlying129
          have hBs := hB.size
          have hlv := lenV_row ho
          have hF3 := (hB.block w.heap.size hfl).trans H1.out.1
          have HR := hid (And.intro hI (And.intro hnd (And.intro hlp (And.intro hlt (And.intro ho (And.intro hB hF3))))))
          have hfl3 : w.heap.size < w3.heap.size := by omega
          by_cases hk : k = 0
          · have hl0 : left = [] := List.eq_nil_iff_forall_not_mem.2 (fun y hy => by have := hk0.1 hk y; unfold leftF at this; rw [if_pos hy] at this; cases this)
            have hkk : ¬ (0 : Int) < (k : Int) := by omega
            have HL0 := hid hl0
            have HB0 := hid (fun W (hW : Below w3.heap.size w3 W) => (hW.block _ hfl3).trans hF3)
            clear hI hnd hlp hlt ho hB hF3 hl0 hk0 f0 f1 z0 z1
            go_wp2_with (go_at_call 58; refine (bareF_any _ _).mono ?_; rintro e w4 ⟨rfl, hB4⟩; have hF4 := HB0.out w4 hB4; have g0 : w4.cell? ⟨w.heap.size, 0, none⟩ = some (.int .i64 0) := (cell_of_row _ _ 0 _ _ (0, 0) hF4).trans rfl; have g1 : w4.cell? ⟨w.heap.size, 1, none⟩ = some (.int .i64 0) := (cell_of_row _ _ 1 _ _ (0, 0) hF4).trans rfl; have y0 : w4.frozen? ⟨w.heap.size, 0, none⟩ = false := (by simp [World.frozen?, hF4]); have y1 : w4.frozen? ⟨w.heap.size, 1, none⟩ = false := (by simp [World.frozen?, hF4]); have HF4 := hid (And.intro hF4 hB4); clear hF4 hB4)
            have HG0 := hid (fault_put0 HF4.out.1 0 (-1))
            have hfin : (∃ v c p out, Ending.returned (.tuple #[u9, .agg #[.int .i64 0, .int .i64 (-1)]]) = .returned (.tuple #[v, .agg #[.int .i64 c, .int .i64 p]]) ∧ Below w.heap.size w ((w4.setCell ⟨w.heap.size, 0, none⟩ (.int .i64 0)).setCell ⟨w.heap.size, 1, none⟩ (.int .i64 (-1))) ∧ ((w4.setCell ⟨w.heap.size, 0, none⟩ (.int .i64 0)).setCell ⟨w.heap.size, 1, none⟩ (.int .i64 (-1))).ownsRow w.heap.size 3 1 v out.length (intsV out) ∧ LineAre l mb mr c p out) := by
              obtain ⟨hI, hnd, hlp, hlt, ho, hB, hF3⟩ := HR.out
              have hb2 := hB.trans (HF4.out.2.mono hB.size)
              have hb3 := H1.out.2.1.trans (hb2.mono H1.out.2.1.size)
              refine ⟨u9, 0, -1, out, rfl, (hb3.setCell (p := ⟨w.heap.size, 0, none⟩) (by simp) _).setCell (p := ⟨w.heap.size, 1, none⟩) (by simp) _, ?_, .inr (.inr ⟨HE.out.1, HE.out.2.1, E, HE.out.2.2, .inl ⟨?_, rfl, rfl⟩⟩)⟩
              · refine owns_base (owns_same ho (fun g e => ?_)) (by omega)
                have hg := ho.lt g e
                have hne : g ≠ w.heap.size := by omega
                exact (heap_setCell_other _ ⟨w.heap.size, 1, none⟩ g _ (fun e2 => hne e2)).trans ((heap_setCell_other _ ⟨w.heap.size, 0, none⟩ g _ (fun e2 => hne e2)).trans (HF4.out.2.block g hg.2))
              · rw [← hlp, HL0.out, lineP_nil]
                simp
            have HFIN := hid hfin
            clear hfin
            go_wp2
            exact bodyPost_ret (v := .tuple #[u9, .agg #[.int .i64 0, .int .i64 (-1)]]) (by simp [results, Tryz.results11, go_sem, HG0.out.1, HG0.out.2.1]) rfl HFIN.out
          · have hkk : (0 : Int) < (k : Int) := by omega
            obtain ⟨D, hD, hDf⟩ := hI
            have HD := hid hDf
            have HK0 := hid hk0
            clear hnd hlp hlt ho hB hF3 hk0 hDf f0 f1 z0 z1
            go_wp2_with (at_range; refine wpList_range_own _ rfl _ 129 rfl 3 4 lawI Tryz.underlying129 _ (w1.heap.size + 1) l.length D rfl hD ?_; intro w4 hrg4 hg4 hs4)
            have hB34 : Below w3.heap.size w3 w4 := ⟨hg4.os, hg4.tape, hg4.output, hg4.size, fun k hk => hg4.block k hk (by simp)⟩
            have HB34 := hid hB34
            clear hB34 hg4
            simp only [Act.put, List.setIfInBounds_toArray, List.set_cons_zero, List.set_cons_succ]
            go_loopw [10] (fun bv wr => ∃ lf cnt best, bv = .int .i64 best ∧ wr.ranges Tryz.prog 3 anyElem (w1.heap.size + 1) w3.heap.size l.length D lf cnt ∧ BestOf E left (fun y => lf (.int .i64 y) = false) best ∧ (∀ kl, lf kl = true → Maps.has D kl = true) ∧ Below w3.heap.size w3 wr) (fun _ wr => wr.rangeLeft (w1.heap.size + 1) w3.heap.size)
            case atStart =>
              refine ⟨_, _, 0, rfl, hrg4, .inl ⟨rfl, fun y hy h => ?_⟩, fun _ h => h, HB34.out⟩
              have h2 := (HD.out y).1
              unfold leftF at h2
              rw [if_pos hy, h] at h2
              cases h2
            case round =>
              obtain ⟨lf, cnt, best, rfl, hrg, hBO, hle, hBr⟩ := hrel
              obtain ⟨w5, hw5⟩ : ∃ w5, w5 = wr := ⟨_, rfl⟩
              subst hw5
              have HR5 := hid (And.intro hrg (And.intro hBO (And.intro hle hBr)))
              clear hBO hle hBr
              go_wp2_with (at_next; refine wpList_next_ranges _ rfl _ rfl 3 lawI anyElem (Value.int .i64) (fun c : Value => c) (fun key kl hkey => by obtain ⟨x, rfl, _⟩ := Maps.keyOf_int_inv Tryz.underlying3 hkey; exact ⟨x, rfl⟩) (fun v y _ => ⟨v, rfl⟩) (w1.heap.size + 1) w3.heap.size l.length D lf cnt rfl hrg ?_ ?_)
              · intro hc0 hl0
                obtain ⟨_, hBO, _, hBr⟩ := HR5.out
                obtain ⟨_, hnd, hlp, hlt, ho, hB, hF3⟩ := HR.out
                have hBrs := hBr.size
                have hp1 : ∀ y ∈ left, 1 ≤ y := fun y hy => HPOS.out HE.out.1 y ((HMT.out y).1 (hlt y hy))
                obtain ⟨y0, hy0⟩ : ∃ y, y ∈ left := by
                  cases left with
                  | nil =>
                    exfalso
                    apply hk
                    exact HK0.out.2 (fun a => by simp [leftF])
                  | cons a r => exact ⟨a, by simp⟩
                have hlpos := List.length_pos_of_mem hy0
                obtain ⟨f, hf⟩ : ∃ f, fuel = f + 1 := ⟨fuel - 1, by omega⟩
                have hB15 := hB.trans (hBr.mono hBs)
                by_cases hb0 : best = 0
                · have hno : lineP E (txsP l).length (txsP l) = none := by
                    rw [← hlp, hf, lineP_none (fun e => by rw [e] at hy0; simp at hy0) ((hb0 ▸ hBO).none hp1 (fun y _ => hl0 _))]
                    rfl
                  have HB0 := hid (fun W (hW : Below w5.heap.size w5 W) => show W.heap[w.heap.size]? = some (.cells #[.int .i64 0, .int .i64 0] 26 (0, 0)) ∧ Below w.heap.size w W from
                    ⟨(hW.block _ (by omega)).trans ((hBr.block _ (by omega)).trans hF3), H1.out.2.1.trans ((hB15.trans (hW.mono hB15.size)).mono H1.out.2.1.size)⟩)
                  have HNO := hid hno
                  have ebb : (best == 0) = true := by simpa using hb0
                  clear hc0 hl0 hrg hBO hBr hnd hlp hlt ho hB hF3 hp1 hno hb0 hy0 hf hB15
                  go_wp2_with (go_at_call 58; refine (bareF_any _ _).mono ?_; rintro e w6 ⟨rfl, hB6⟩; have hF6 := (HB0.out w6 hB6).1; have g0 : w6.cell? ⟨w.heap.size, 0, none⟩ = some (.int .i64 0) := (cell_of_row _ _ 0 _ _ (0, 0) hF6).trans rfl; have g1 : w6.cell? ⟨w.heap.size, 1, none⟩ = some (.int .i64 0) := (cell_of_row _ _ 1 _ _ (0, 0) hF6).trans rfl; have y0 : w6.frozen? ⟨w.heap.size, 0, none⟩ = false := (by simp [World.frozen?, hF6]); have y1 : w6.frozen? ⟨w.heap.size, 1, none⟩ = false := (by simp [World.frozen?, hF6]); have HF6 := hid (HB0.out w6 hB6); clear hF6 hB6)
                  have HG0 := hid (fault_put0 HF6.out.1 11 (-1))
                  have HFIN := hid ((HF6.out.2.setCell (p := ⟨w.heap.size, 0, none⟩) (by simp) (.int .i64 11)).setCell (p := ⟨w.heap.size, 1, none⟩) (by simp) (.int .i64 (-1)))
                  go_wp2
                  exact bodyPost_ret (v := .tuple #[.slice none 0 0, .agg #[.int .i64 11, .int .i64 (-1)]]) (by simp [results, Tryz.results11, go_sem, HG0.out.1, HG0.out.2.1]) rfl ⟨_, 11, -1, [], rfl, HFIN.out, World.ownsRow_nil _ _ _ _, .inr (.inr ⟨HE.out.1, HE.out.2.1, E, HE.out.2.2, .inr ⟨HNO.out, rfl, rfl, rfl⟩⟩)⟩
                · obtain ⟨hsome, hbl⟩ := hBO.some hb0 (fun y _ => hl0 _)
                  have hb64 : I64 best := H64.out best ((HMT.out best).1 (hlt best hbl))
                  have hI5 : IMap w5 (w1.heap.size + 1) l.length (leftF left) := ⟨D, hrg.owns, HD.out⟩
                  obtain ⟨w6, hrun6, hI6, hg6⟩ := hI5.del Tryz.underlying129 hb64 0
                  have hI6' := hI6.congr (g := leftF (left.filter (fun z => z != best))) (fun a => by
                    rw [← leftF_del]
                    by_cases e : a = best
                    · subst e; rw [updT_same, if_pos rfl]
                    · rw [updT_other _ _ e, if_neg e])
                  have ho6 : w6.ownsRow (w1.heap.size + 2) 3 1 u9 out.length (intsV out) := owns_same ho (fun g e => by
                    have hg := ho.lt g e
                    exact (hg6.block g (by omega) (fun e2 => by injection e2 with e2; omega)).trans (hBr.block g hg.2))
                  have hB16 := hB15.grown hg6 hB15.size (fun k e => by injection e with e; omega)
                  have hs16 := hB16.size
                  have hI6l := hI6'.lt
                  have hlstep : (lineP E f (left.filter (fun z => z != best))).map (fun r => (out ++ [best]) ++ r) = lineP E (txsP l).length (txsP l) := by
                    rw [← hlp, hf, lineP_step hbl hsome]
                    cases lineP E f (left.filter (fun z => z != best)) <;> simp
                  have hflt := filter_lt hbl
                  have H6 := hid (And.intro hI6' (And.intro ho6 (And.intro hB16 (And.intro hlstep (And.intro hnd hlt)))))
                  have ebb : (best == 0) = false := by simpa using hb0
                  have hrow6 := hid (ho6.alloc (.cells #[.int .i64 best] 3))
                  clear hc0 hl0 hrg hBO hBr hnd hlp hlt ho hB hF3 hp1 hb0 hy0 hB15 hsome hI5 hI6 hI6' hg6 ho6 hB16 hlstep
                  go_wp2_with (first
                    | (at_delete; refine wpList_del (by rfl) _ _ _ _ (by rfl) _ _ (by rfl) (by rfl) hrun6 ?_)
                    | (at_builtin; refine wpList_append_lies _ rfl _ _ _ rfl (w1.heap.size + 2) 3 i0 _ 1 8 Tryz.underlying29 hi0 hz0 hz1 hz2 rfl (by omega) u9 _ _ rfl hrow6.out ⟨w6.heap.size, 0, none⟩ 1 1 [.int .i64 best] rfl rfl (World.news_of_block (cs := #[.int .i64 best]) (t := 3) (fr := (0, 0)) (heap_alloc_new w6 _)) (by simp [Value.oneCell']) (by omega) (by unfold maxLen; omega) (by omega) (by simp; omega) (w6.heap.size + 1) (by simp) ?_; intro g8 cap8 w8 ho8 hgrow8 hat8 hlt8))
                  go_roundw
                  case rel =>
                    obtain ⟨hI6, ho6, hB16, hlstep, hnd, hlt⟩ := H6.out
                    refine ⟨left.filter (fun z => z != best), out ++ [best], f, hI6.same ((hgrow8.block _ (by simp; omega) (fun e => by have := (ho6.lt _ e.symm).1; omega)).trans (Below.heap_alloc _ _ _ (by omega))), hnd.sublist List.filter_sublist, by rw [List.length_append]; simp; omega, by omega, hlstep, fun y hy => hlt y (List.mem_filter.1 hy).1, by rw [List.length_append, intsV_append]; exact ho8, (hB16.alloc hs16 _).grown hgrow8 (by simp; omega) (fun k e => by have := (ho6.lt k e).1; omega)⟩
                  case measure =>
                    rw [hlv]
                    show _ - (out.length + 1) < _
                    omega
              · intro x c kl ya yb w6 cnt1 hkey hlk hv hat hrg1 hcl hg1 hs1 hen
                obtain ⟨x', ex, rfl, hwx⟩ := Maps.keyOf_int_inv Tryz.underlying3 hkey
                cases ex
                obtain ⟨_, hBO, hle, hBr⟩ := HR5.out
                obtain ⟨_, hnd, hlp, hlt, ho, hB, hF3⟩ := HR.out
                have hxl : x ∈ left := leftF_some (by rw [← (HD.out x).1]; exact hle _ hlk)
                have hp1 : ∀ y ∈ left, 1 ≤ y := fun y hy => HPOS.out HE.out.1 y ((HMT.out y).1 (hlt y hy))
                have hB36 : Below w3.heap.size w3 w6 := hBr.grown hg1 hBr.size (fun k e => by cases e; exact Nat.le_refl _)
                have hB16 := hB.trans (hB36.mono hBs)
                have hle1 : ∀ kl, (lf kl && !kl.sameKey (.int .i64 x)) = true → Maps.has D kl = true := fun kl h => hle kl (by simp at h; exact h.1)
                have hseen : ∀ y ∈ left, (lf (.int .i64 y) && !(Lit.int .i64 y).sameKey (.int .i64 x)) = false → lf (.int .i64 y) = false ∨ y = x := fun y _ h => by
                  rw [sameKey_int] at h
                  cases hl : lf (.int .i64 y) with
                  | false => exact .inl rfl
                  | true => rw [hl] at h; right; simpa using h
                have hI6 : IMap w6 (w1.heap.size + 1) l.length (leftF left) := ⟨D, hrg1.owns, HD.out⟩
                have hT6 := owns_same H1.out.2.2.1 (fun g e => hB16.block g (H1.out.2.2.2 g e).2)
                have H6 := hid (And.intro hrg1 (And.intro hBO (And.intro hle1 (And.intro hseen (And.intro hB36 (And.intro hI6 (And.intro hT6 (And.intro hxl hp1))))))))
                have hmeas0 := hrg.left_eq
                have hw6s := hI6.lt
                obtain ⟨ead, ecap, htv⟩ := row_form H1.out.2.2.1
                subst htv
                clear hrg hBO hle hBr hnd hlp hlt ho hB hF3 hkey hlk hv hat hrg1 hg1 hs1 hwx hxl hp1 hB36 hB16 hle1 hseen hI6 hT6
                go_wp2
                go_loopw [12, 46] (fun fv iv wr => ∃ i : Nat, iv = .int .i64 i ∧ i ≤ E.length ∧ fv = .bool (freeTo E left x i) ∧ Below w6.heap.size w6 wr) (fun _ iv _ => E.length - (intOf iv).toNat)
                case atStart => exact ⟨0, rfl, Nat.zero_le _, rfl, Below.refl _ _⟩
                case round =>
                  obtain ⟨i, rfl, hi, rfl, hBw⟩ := hrel
                  obtain ⟨w7, hw7⟩ : ∃ w7, w7 = wr := ⟨_, rfl⟩
                  subst hw7
                  have hs67 := hBw.size
                  obtain ⟨fr, hfr⟩ : ∃ fr, freeTo E left x i = fr := ⟨_, rfl⟩
                  by_cases hil : i < E.length
                  · obtain ⟨⟨a, b⟩, hab⟩ : ∃ e, E[i]? = some e := ⟨E[i], List.getElem?_eq_getElem hil⟩
                    rcases row_slice H6.out.2.2.2.2.2.2.1 with ⟨_, e0⟩ | ⟨g, ecap2, hsv, hg, hc⟩
                    · omega
                    · injection hsv with hsv1 _ hsv2
                      subst hsv1
                      subst hsv2
                      have ca := (hBw.cell (p := ⟨g, i * 2, none⟩) hg).trans (hc _ _ (vrow_get E i a b hab).1)
                      have cb := (hBw.cell (p := ⟨g, i * 2 + 1, none⟩) hg).trans (hc _ _ (vrow_get E i a b hab).2)
                      have hA7 := (Below.refl w7.heap.size w7).alloc (Nat.le_refl _) (.cells #[.int .i64 a, .int .i64 b] 78)
                      have ha64 : I64 a := H64.out a ((HMT.out a).1 (edges_tx HE.out.2.2 (List.mem_of_getElem? hab)).1)
                      have hlk := ((H6.out.2.2.2.2.2.1.same (hBw.block _ hw6s)).same (hA7.block _ (by omega))).look1 Tryz.underlying129 (zeroB _) ha64
                      have hst := freeTo_step hab left x
                      rw [hfr] at hst
                      have hlv2 : (leftF left a).getD (.bool false) = .bool (left.contains a) := by
                        unfold leftF
                        by_cases e : a ∈ left
                        · rw [if_pos e]; simp [e]
                        · rw [if_neg e]; simp [e]
                      rw [hlv2] at hlk
                      obtain ⟨lc, hlc⟩ : ∃ lc, left.contains a = lc := ⟨_, rfl⟩
                      rw [hlc] at hlk hst
                      have HST := hid hst
                      have HBA := hid (hBw.trans (hA7.mono hs67))
                      have hi0' : (0 : Int) ≤ (i : Int) := by omega
                      have hi1' : (i : Int) < (E.length : Int) := by omega
                      rw [hfr]
                      clear hBw hc hab hA7 ha64 hst hlv2 hlc hfr
                      cases fr with
                      | false =>
                        go_wp2
                        go_roundw
                        case rel => exact ⟨i + 1, by go_num, by omega, by rw [HST.out]; rfl, HBA.out⟩
                        case measure => simp [intOf]; omega
                      | true =>
                        by_cases hbx : b = x
                        · have ebx : (b == x) = true := by simpa using hbx
                          clear hbx
                          cases lc with
                          | true =>
                            go_wp2
                            go_roundw
                            case rel => exact ⟨i + 1, by go_num, by omega, by rw [HST.out, ebx]; rfl, HBA.out⟩
                            case measure => simp [intOf]; omega
                          | false =>
                            go_wp2
                            go_roundw
                            case rel => exact ⟨i + 1, by go_num, by omega, by rw [HST.out, ebx]; rfl, HBA.out⟩
                            case measure => simp [intOf]; omega
                        · have ebx : (b == x) = false := by simpa using hbx
                          go_wp2
                          go_roundw
                          case rel => exact ⟨i + 1, by go_num, by omega, by rw [HST.out, ebx]; rfl, HBA.out⟩
                          case measure => simp [intOf]; omega
                  · obtain rfl : i = E.length := by omega
                    have hi1' : ¬ (E.length : Int) < (E.length : Int) := by omega
                    rw [freeTo_all] at hfr
                    rw [freeTo_all, hfr]
                    have HFR := hid hfr
                    have hgn : w6.grownBy w7 none := ⟨hBw.os, hBw.tape, hBw.output, hBw.size, fun k hk _ => hBw.block k hk⟩
                    have hrg7 := H6.out.1.kept hgn (by simp) (by simp)
                    have H7 := hid (And.intro hrg7 (H6.out.2.2.2.2.1.trans (hBw.mono (H6.out.2.2.2.2.1.size))))
                    clear hBw hfr hgn hrg7
                    cases fr with
                    | false =>
                      go_wp2
                      go_roundw
                      case rel => exact ⟨_, ⟨cnt1, H7.out.1⟩, H6.out.2.1.skip HFR.out H6.out.2.2.2.1, H6.out.2.2.1, H7.out.2⟩
                      case measure =>
                        rw [H7.out.1.left_eq]
                        omega
                    | true =>
                      by_cases hb0 : best = 0
                      · have ebb : (best == 0) = true := by simpa using hb0
                        have HB0 := hid hb0
                        clear hb0
                        go_wp2
                        go_roundw
                        case rel => exact ⟨_, ⟨cnt1, H7.out.1⟩, H6.out.2.1.take H6.out.2.2.2.2.2.2.2.2 H6.out.2.2.2.2.2.2.2.1 HFR.out (.inl HB0.out) H6.out.2.2.2.1, H6.out.2.2.1, H7.out.2⟩
                        case measure =>
                          rw [H7.out.1.left_eq]
                          omega
                      · have ebb : (best == 0) = false := by simpa using hb0
                        by_cases hxb : x < best
                        · go_wp2
                          go_roundw
                          case rel => exact ⟨_, ⟨cnt1, H7.out.1⟩, H6.out.2.1.take H6.out.2.2.2.2.2.2.2.2 H6.out.2.2.2.2.2.2.2.1 HFR.out (.inr hxb) H6.out.2.2.2.1, H6.out.2.2.1, H7.out.2⟩
                          case measure =>
                            rw [H7.out.1.left_eq]
                            omega
                        · go_wp2
                          go_roundw
                          case rel => exact ⟨_, ⟨cnt1, H7.out.1⟩, H6.out.2.1.worse hb0 (by omega) H6.out.2.2.2.1, H6.out.2.2.1, H7.out.2⟩
                          case measure =>
                            rw [H7.out.1.left_eq]
                            omega
end Go.Proofs.YtjefgmeejhakbaaGreatDoor
