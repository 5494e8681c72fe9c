/- law.LockPlays: the walk. -/
import Derived.Test.YtjefgmeejhakbaaDoorLkSame
namespace Go.Proofs.YtjefgmeejhakbaaDoor
open Go.RowKit

set_option maxRecDepth 100000 in
set_option maxHeartbeats 1000000 in
theorem lplays_long (ad : Option Addr) (n cap : Nat) (w : World) (hn : 120 < n) :
    Calls Tryd.prog 5 #[.slice ad n cap] w fun e w' => e = .returned (.bool true) ∧ Below w.heap.size w w' := by
  have h1 : (120 : Int) < (n : Int) := by omega
  go_enter Tryd.func5, Tryd.ntmps5
  go_wp2
  go_ret
  exact ⟨rfl, Below.refl _ _⟩

set_option maxRecDepth 100000 in
set_option maxHeartbeats 8000000 in
theorem lplays_walk (ad : Option Addr) (n cap : Nat) (w : World) (hn : n ≤ 120) (hO : Cals w ad n) (hH : Handle w) :
    Calls Tryd.prog 5 #[.slice ad n cap] w fun e w' => e = .returned (.bool true) ∧ Below w.heap.size w w' := by
  have hn1 : ¬ (120 : Int) < (n : Int) := by omega
  have hn2 : (n : Int) ≤ 120 := by omega
  have hHp := hH.pos
  have HH := hid hH
  have HO := hid hO
  clear hH hO
  have hTa := TabAt.zero w
  obtain ⟨W0, hW0⟩ : ∃ W0, w.alloc (.cells #[.map none, .map none, .map none] 71) = W0 := ⟨_, rfl⟩
  have hs0 : W0.heap.size = w.heap.size + 1 := by rw [← hW0]; simp
  have hTb := RTab.zero W0 (w.heap.size + 2) (by omega)
  rw [hW0] at hTa
  have hA1 := (Below.refl W0.heap.size W0).alloc (Nat.le_refl _) (.cells #[.slice none 0 0, .slice none 0 0, .slice none 0 0, .slice none 0 0, .slice none 0 0, .slice none 0 0, .slice none 0 0, .slice none 0 0, .slice none 0 0, .slice none 0 0] 75)
  have hB1 : Below w.heap.size w W0 := by rw [← hW0]; exact (Below.refl _ w).alloc (Nat.le_refl _) _
  have hB2 := hB1.trans (hA1.mono hB1.size)
  obtain ⟨W1, hW1⟩ : ∃ W1, W0.alloc (.cells #[.slice none 0 0, .slice none 0 0, .slice none 0 0, .slice none 0 0, .slice none 0 0, .slice none 0 0, .slice none 0 0, .slice none 0 0, .slice none 0 0, .slice none 0 0] 75) = W1 := ⟨_, rfl⟩
  rw [hW1] at hTb hA1 hB2
  rw [hs0] at hTb
  have hT : Bth w W1 (w.heap.size + 2) w.heap.size (w.heap.size + 1) 0 noM nilsV (fun _ => []) (fun _ => []) := by
    refine ⟨hTa.below hA1, hTb, fun g hg hm => ?_, fun g hm => ?_, by omega, by rw [← hW1]; simp; omega, hB2⟩
    · have hgs : g = w.heap.size := by rcases hm with e | e | e | e | ⟨k, v, e, _⟩ <;> first | exact e | cases e
      rcases hg with e | ⟨v, hv, e⟩
      · omega
      · rw [nilsV, List.mem_replicate] at hv
        rw [hv.2] at e
        cases e
    · have hgs : g = w.heap.size := by rcases hm with e | e | e | e | ⟨k, v, e, _⟩ <;> first | exact e | cases e
      omega
  have HW := hid (And.intro hW1 hW0)
  have HT := hid hT
  clear hW1 hW0 hTa hTb hA1 hB1 hB2 hT
  go_enter Tryd.func5, Tryd.ntmps5
  go_wp2_with fail
  rw [HW.out.2, HW.out.1]
  clear HW hs0
  obtain ⟨s, hse⟩ : ∃ s, w.heap.size = s := ⟨_, rfl⟩
  rw [hse] at HT hHp ⊢
  have HSE := hid hse
  clear hse
  go_loopw [5] (fun v wr => ∃ (i : Nat) (M : LkM) (vs : List Value) (T : Tab), i ≤ n ∧ v = .int .i64 i ∧ Hid (Bth w wr (s + 2) s (s + 1) (30 * i) M vs T T) ∧ Hid (Good T)) (fun v _ => n - (intOf v).toNat)
  case atStart => exact ⟨0, _, _, _, Nat.zero_le _, rfl, HT, Good.nil⟩
  case round =>
    clear HT
    obtain ⟨i, M, vs, T, hi, rfl, HT, HG⟩ := hrel
    obtain ⟨wa, rfl⟩ : ∃ wa, wa = wr := ⟨wr, rfl⟩
    by_cases hlt : i < n
    · obtain ⟨b, off, wh, t, k, rfl, ht64, hk64, c0, c1, c2⟩ := HO.out i hlt
      have hbl := World.block_lt_of_cell? w _ c0
      have hBw := HT.out.below
      have d0 := (hBw.cell (p := ⟨b, off + i * 3, none⟩) hbl).trans c0
      have d1 := (hBw.cell (p := ⟨b, off + i * 3 + 1, none⟩) hbl).trans c1
      have d2 := (hBw.cell (p := ⟨b, off + i * 3 + 2, none⟩) hbl).trans c2
      have hi0 : (0 : Int) ≤ (i : Int) := by omega
      have hi1 : (i : Int) < (n : Int) := by omega
      have hAl : Below wa.heap.size wa (wa.alloc (.cells #[.int .i64 wh, .int .i64 t, .int .i64 k] 77)) := (Below.refl _ _).alloc (Nat.le_refl _) _
      have hX1 : (wa.alloc (.cells #[.int .i64 wh, .int .i64 t, .int .i64 k] 77)).heap[wa.heap.size]? = some (.cells #[.int .i64 wh, .int .i64 t, .int .i64 k] 77 (0, 0)) := heap_alloc_new wa _
      obtain ⟨w1, hw1⟩ : ∃ w1, wa.alloc (.cells #[.int .i64 wh, .int .i64 t, .int .i64 k] 77) = w1 := ⟨_, rfl⟩
      rw [hw1] at hAl hX1
      have HT1 := hid (HT.out.later hAl)
      have hXn : ∀ g, M.own s g ∨ ROwn (s + 1) vs g → g < wa.heap.size := fun g hg => hg.elim (fun h => HT.out.a.own_lt h) (fun h => HT.out.b.own_lt h)
      obtain ⟨X, hXe⟩ : ∃ X, wa.heap.size = X := ⟨_, rfl⟩
      rw [hXe] at hX1 hXn
      have HE := hid (And.intro hw1 hXe)
      have HXN := hid hXn
      have hXs : s + 1 < X := by have := hXn (s + 1) (.inr (.inl rfl)); omega
      clear hAl hw1 hXe HT hXn hBw c0 c1 c2
      go_upto_block 2 with fail
      rw [HE.out.1, HE.out.2]
      clear HE d0 d1 d2
      go_cut [] (fun wx => ∃ (M' : LkM) (vs' : List Value) (T' : Tab), Hid (Bth w wx (s + 2) s (s + 1) (30 * i + 25) M' vs' T' T') ∧ Hid (Good T') ∧ wx.heap[X]? = some (.cells #[.int .i64 wh, .int .i64 t, .int .i64 k] 77 (0, 0)))
      case first =>
        have x1 : w1.cell? ⟨X, 1, none⟩ = some (.int .i64 t) := (cell_of_row _ _ 1 _ 77 (0, 0) hX1).trans rfl
        have x2 : w1.cell? ⟨X, 2, none⟩ = some (.int .i64 k) := (cell_of_row _ _ 2 _ 77 (0, 0) hX1).trans rfl
        have hXl := (Array.getElem?_eq_some_iff.1 hX1).1
        have HX1 := hid hX1
        have HLN := hid (show ∀ j, (T j).length ≤ 100000 from fun j => by have := HT1.out.len j; omega)
        by_cases hw0 : wh = 0
        · subst hw0
          obtain ⟨q, hq⟩ := HG.out.rank
          have HQ := hid hq
          have HG2 := hid (HG.out.ask hq t k (by unfold I64 at ht64; omega))
          obtain ⟨⟨p1, p2, p3⟩, hp⟩ : ∃ p, askP T q t k = p := ⟨_, rfl⟩
          have hcr := rask_any (s + 2) (s + 1) vs T q t k w1 HT1.out.b HG.out.tidy hq HT1.out.hb HLN.out
          rw [hp] at hcr HG2
          have HP := hid hp
          have HCR := hid hcr
          clear hp hcr hq hX1
          go_wp2_with fail
          refine HCR.out.mono ?_
          rintro e w2 ⟨rfl, vs2, hR2, hK2⟩
          have HT2 := hid (HT1.out.right hR2 hK2)
          have hX2 : w2.heap[X]? = _ := (hK2.block X hXl (by omega)).trans HX1.out
          have HX2 := hid hX2
          have y1 : w2.cell? ⟨X, 1, none⟩ = some (.int .i64 t) := (cell_of_row _ _ 1 _ 77 (0, 0) hX2).trans rfl
          have y2 : w2.cell? ⟨X, 2, none⟩ = some (.int .i64 k) := (cell_of_row _ _ 2 _ 77 (0, 0) hX2).trans rfl
          have hXl2 := (Array.getElem?_eq_some_iff.1 hX2).1
          clear hX2 hR2 hK2 x1 x2 HCR hXl
          go_wp2_with fail
          refine (ask_any s (30 * i) M T q t k _ HT2.out.a HG.out HQ.out ht64 hk64 (by omega)).mono ?_
          rw [HP.out]
          rintro e w3 ⟨rfl, M3, hT3, hK3⟩
          have HT3 := hid (HT2.out.left hT3 hK3)
          have hX3 : w3.heap[X]? = _ := (hK3.block X hXl2 (fun h => by have := HXN.out X (.inl h); omega)).trans HX2.out
          have HX3 := hid hX3
          have hXl3 := (Array.getElem?_eq_some_iff.1 hX3).1
          have HHW := hid (HH.out.below HT3.out.below (by rw [HSE.out]; exact hHp))
          clear hX3 hT3 hK3 y1 y2 hXl2
          go_wp2_with fail
          refine (bare_true p2 (errV p2) w3 (errV_is w3 p2) HHW.out).mono ?_
          rintro e w4 ⟨rfl, hB4⟩
          have HT4 := hid (HT3.out.later hB4)
          have HX4 := hid ((hB4.block X hXl3).trans HX3.out)
          have e9 : (p1 != p1) = false := by simp
          clear hB4 hXl3
          go_wp2
          go_meet
          exact ⟨M3, vs2, p3, HT4.out.mono (by omega), HG2, HX4.out⟩
        · by_cases hw1 : wh = 1
          · subst hw1
            clear hw0
            by_cases ht1 : 1 ≤ t
            · have HG2 := hid (HG.out.drop t)
              have T1 := hid (HT1.out.later ((Below.refl _ w1).drew))
              have HX1d := hid (show w1.drew.heap[X]? = some (.cells #[.int .i64 1, .int .i64 t, .int .i64 k] 77 (0, 0)) from HX1.out)
              have hXld : X < w1.drew.heap.size := hXl
              have hol := outTo_length T t 10 (by omega)
              rw [outTo_end] at hol
              have hdt : decide (1 ≤ t) = true := by simpa using ht1
              clear hX1 x2
              go_wp2_with fail
              go_region_held3 (fun W => W.cell? ⟨X, 1, none⟩ = some (.int .i64 t))
                (first
                  | go_keep
                  | exact y1
                  | exact z1
                  | exact v1)
                (first
                  | (go_at_call 29
                     refine (drop_any s (30 * i) M T t w1.drew T1.out.a HG.out ht64 (by omega)).mono ?_
                     rintro e w2 ⟨dv, rfl, hD2, M2, hT2, hK2, _⟩
                     have T2 := hid (T1.out.left hT2 hK2)
                     have hX2 : w2.heap[X]? = _ := (hK2.block X hXld (fun h => by have := HXN.out X (.inl h); omega)).trans HX1d.out
                     have HX2 := hid hX2
                     have y1 : w2.cell? ⟨X, 1, none⟩ = some (.int .i64 t) := (cell_of_row _ _ 1 _ 77 (0, 0) hX2).trans rfl
                     have hXl2 := (Array.getElem?_eq_some_iff.1 hX2).1
                     have D2 := hid hD2
                     clear hX2 hT2 hK2 hD2)
                  | (go_at_call 30
                     refine (rdrop_any (s + 2) (s + 1) vs T t w2 T2.out.b HG.out.tidy T2.out.hb HLN.out).mono ?_
                     rintro e w3 ⟨ev, rfl, hE3, vs3, hR3, hK3⟩
                     have T3 := hid (T2.out.right hR3 hK3)
                     have hX3 : w3.heap[X]? = _ := (hK3.block X hXl2 (by omega)).trans HX2.out
                     have HX3 := hid hX3
                     have z1 : w3.cell? ⟨X, 1, none⟩ = some (.int .i64 t) := (cell_of_row _ _ 1 _ 77 (0, 0) hX3).trans rfl
                     have hXl3 := (Array.getElem?_eq_some_iff.1 hX3).1
                     have E3 := hid hE3
                     have D3 := hid (owns_same (w' := w3) D2.out (fun g hg => hK3.block g (D2.out.lt g hg).2 (fun e => by have h1 := (D2.out.lt g hg).1; have h2 := T1.out.b.lt; omega)))
                     clear hX3 hR3 hK3 hE3)
                  | (go_at_call 21
                     refine (sameW_true _ _ dv ev (outP T t) w3 (by omega) D3.out E3.out).mono ?_
                     rintro e w4 ⟨rfl, hB4⟩
                     have T4 := hid (T3.out.later hB4)
                     have hX4 : w4.heap[X]? = _ := (hB4.block X hXl3).trans HX3.out
                     have HX4 := hid hX4
                     have v1 : w4.cell? ⟨X, 1, none⟩ = some (.int .i64 t) := (cell_of_row _ _ 1 _ 77 (0, 0) hX4).trans rfl
                     clear hX4 hB4)
                  | fail)
              go_wp2
              go_meet
              exact ⟨M2, vs3, dropP T t, T4.out.mono (by omega), HG2, HX4.out⟩
            · have hdt : decide (1 ≤ t) = false := by simpa using ht1
              have HX1d := hid (show ∀ nq, (w1.drewN nq).heap[X]? = some (.cells #[.int .i64 1, .int .i64 t, .int .i64 k] 77 (0, 0)) from fun nq => ((below_drewN (Below.refl (X + 1) w1) nq).block X (by omega)).trans HX1.out)
              clear hX1 x2
              go_wp2
              go_quiet (fail)
              go_wp2
              go_meet
              exact ⟨M, vs, T, (HT1.out.later (below_drewN (Below.refl _ w1) _)).mono (by omega), HG, HX1d.out _⟩
          · have e0 : (wh == 0) = false := by simpa using hw0
            have e1 : (wh == 1) = false := by simpa using hw1
            clear hX1
            go_wp2
            go_meet
            exact ⟨M, vs, T, HT1.out.mono (by omega), HG, HX1.out⟩
      case rest =>
        clear HT1 HG HXN hX1
        obtain ⟨M2, vs2, T2, HB, HG2, hX2⟩ := hcut
        have hXl := (Array.getElem?_eq_some_iff.1 hX2).1
        have x1 : wc.cell? ⟨X, 1, none⟩ = some (.int .i64 t) := (cell_of_row _ _ 1 _ 77 (0, 0) hX2).trans rfl
        have x2 : wc.cell? ⟨X, 2, none⟩ = some (.int .i64 k) := (cell_of_row _ _ 2 _ 77 (0, 0) hX2).trans rfl
        have hln : ∀ j, (T2 j).length ≤ 1000000 := fun j => by have := HB.out.len j; omega
        have hBD := HB.out.later ((Below.refl _ wc).drew)
        obtain ⟨hh, wt, ln, hR, hP⟩ := hBD.a
        have hc1 := waitsR s _ M2 hP t wc.drew hR ht64
        have hc2 := rwaits_any (s + 2) (s + 1) vs2 T2 t wc.drew hBD.b HG2.out.tidy hln
        have hc3 := holdsR s _ M2 hP k wc.drew hR hk64
        have hc4 := rholds_any (s + 2) (s + 1) vs2 T2 k wc.drew hBD.b HG2.out.tidy
        have hc5 := line_any s _ M2 hh wt ln k wc.drew hR hk64 (by omega)
        rw [hP.ln k] at hc5
        have hc6 := fun w5 (h5 : Below wc.drew.heap.size wc.drew w5) => rline_any (s + 2) (s + 1) vs2 T2 k w5 (hBD.b.below h5) HG2.out.tidy hln
        have hlt2 : (T2 k).tail.length ≤ 1000000 := by have := hln k; rw [List.length_tail]; omega
        obtain ⟨A, hA⟩ : ∃ A, waitsP T2 t = A := ⟨_, rfl⟩
        obtain ⟨C, hC⟩ : ∃ C, holdsP T2 k = C := ⟨_, rfl⟩
        obtain ⟨l, hl⟩ : ∃ l, (T2 k).tail = l := ⟨_, rfl⟩
        rw [hA] at hc1 hc2
        rw [hC] at hc3 hc4
        rw [hl] at hc5 hc6 hlt2
        have C1 := hid hc1
        have C2 := hid hc2
        have C3 := hid hc3
        have C4 := hid hc4
        have C5 := hid hc5
        have C6 := hid hc6
        have HS := hid (show ∀ W, Below wc.drew.heap.size wc.drew W → W.cell? ⟨X, 1, none⟩ = some (.int .i64 t) ∧ W.cell? ⟨X, 2, none⟩ = some (.int .i64 k) from fun W hW =>
          ⟨(hW.cell (p := ⟨X, 1, none⟩) hXl).trans x1, (hW.cell (p := ⟨X, 2, none⟩) hXl).trans x2⟩)
        have e1 : (A != A) = false := by simp
        have e2 : (C != C) = false := by simp
        have HBD := hid hBD
        clear hc1 hc2 hc3 hc4 hc5 hc6 hA hC hl hR hP hBD hX2 hln
        go_wp2_with fail
        go_region_held3 (fun W => W.cell? ⟨X, 1, none⟩ = some (.int .i64 t) ∧ W.cell? ⟨X, 2, none⟩ = some (.int .i64 k))
          (first
            | go_keep
            | exact HS.out _ b5.out
            | exact HS.out _ b7.out)
          (first
            | (go_at_call 31
               refine C1.out.mono ?_
               rintro e v1 ⟨rfl, hv⟩
               rw [hv]
               clear hv v1)
            | (go_at_call 32
               refine C2.out.mono ?_
               rintro e v1 ⟨rfl, hv⟩
               rw [hv]
               clear hv v1)
            | (go_at_call 33
               refine C3.out.mono ?_
               rintro e v1 ⟨rfl, hv⟩
               rw [hv]
               clear hv v1)
            | (go_at_call 34
               refine C4.out.mono ?_
               rintro e v1 ⟨rfl, hv⟩
               rw [hv]
               clear hv v1)
            | (go_at_call 35
               refine C5.out.mono ?_
               rintro e w5 ⟨lv, rfl, ho5, hB5⟩
               have b5 := hid hB5
               have O5 := hid ho5
               clear hB5 ho5)
            | (go_at_call 36
               refine (C6.out w5 b5.out).mono ?_
               rintro e v1 ⟨rv, rfl, hl6, hv⟩
               rw [hv]
               have L6 := hid hl6
               clear hv v1 hl6)
            | (go_at_call 18
               refine (same_true lv rv l w5 hlt2 (LineAt.of_row O5.out) L6.out).mono ?_
               rintro e w7 ⟨rfl, hB7⟩
               have b7 := hid (b5.out.trans (hB7.mono b5.out.size))
               clear hB7)
            | fail)
        have HF := hid (HBD.out.later b7.out)
        clear x1 x2 C1 C2 C3 C4 C5 C6 HS b5 b7 O5 L6 HBD HB
        go_wp2
        go_roundw
        case rel => exact ⟨i + 1, M2, vs2, T2, by omega, by go_num, HF.out.mono (by omega), HG2⟩
        case measure => simp [intOf]; omega
    · have hBe := HT.out.below
      rw [HSE.out] at hBe
      go_wp2
      go_ret
      exact ⟨rfl, by rw [HSE.out]; exact hBe⟩

end Go.Proofs.YtjefgmeejhakbaaDoor
