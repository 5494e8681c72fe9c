/- engine.Begin. -/
import Derived.Test.YtjefgmeejhakbaaGreatDoorMgALQ
namespace Go.Proofs.YtjefgmeejhakbaaGreatDoor
open Go.RowKit
variable {w w' : World} {L : EnL} {E : Eng}
theorem lvl_cases {level : Int} (h : level = 0 ∨ level = 1 ∨ level = 2) : level = 0 ∨ (level ≠ 0 ∧ level = 1) ∨ (level ≠ 0 ∧ level ≠ 1 ∧ level = 2) := by omega
set_option maxRecDepth 100000 in
set_option maxHeartbeats 4000000 in
theorem begin_ok (h : EnAt w L E) {level : Int} (hlv : level = 0 ∨ level = 1 ∨ level = 2) (hl : E.txs.length < 200) (ho : (liveOnes E).length < 6) :
    Calls Tryz.prog 51 #[.pointer (some ⟨L.s, 0, none⟩), .int .i64 level] w fun e w' => e = .returned (.tuple #[.int .i64 ((E.txs.length : Int) + 1), .nilIface]) ∧
      ∃ L' b, EnAt w' L' { E with txs := E.txs ++ [newTx level E.last] } ∧ KeptO L.own L'.own w w' ∧ L'.s = L.s ∧ L'.bs = L.bs ++ [b] := by
  obtain ⟨i0, hi0, hz0, hz1, hz2⟩ := info_parts info179
  have hT := those_lives h (fun _ t => liveB t.state) (fun W hW i l t hl ht => (lives_any l.b t.state W ((h.below hW).txs i l t hl ht).c3).mono (fun e w' hh => ⟨hh.1, 0, hh.2⟩))
  rw [show thoseP E (fun _ t => liveB t.state) = liveOnes E from rfl] at hT
  have HT := hid hT
  have c14 := h.c14
  obtain ⟨ad, cap, hav⟩ := row_form h.all
  obtain ⟨m, hm⟩ : ∃ m, L.txs.length = m := ⟨_, rfl⟩
  have hlen := h.len
  rw [hm] at hav
  rw [hav] at c14
  have hme : E.txs.length = m := by omega
  rw [hme] at hl ⊢
  obtain ⟨q, hq⟩ : ∃ q, (liveOnes E).length = q := ⟨_, rfl⟩
  rw [hq] at HT ho
  have g1 : ¬ (200 : Int) ≤ (m : Int) := by omega
  have g2 : ¬ (6 : Int) ≤ (q : Int) := by omega
  have gw : IntKind.i64.wrap ((m : Int) + 1) = (m : Int) + 1 := IntWalk.i64_in _ (by omega)
  have HH := hid h
  have HM := hid hm
  have HAV := hid hav
  have hsl := h.sto.lt
  have HLL := hid (fun W (hB : Below w.heap.size w W) => last_any _ _ _ _ _ W (h.below hB).sto)
  obtain ⟨lz, hlz⟩ : ∃ lz, E.last = lz := ⟨_, rfl⟩
  rw [hlz] at HLL ⊢
  have HLZ := hid hlz
  have hcs : L.av.ownBlock ≠ some L.s := fun e => by
    obtain ⟨ρ, T⟩ := h.tag
    have h1 := T.all _ e
    rw [T.eng] at h1; cases h1
  have hrow := h.all
  have hfr := h.sto.free 14
  rw [hm] at hrow
  have HROW := hid hrow
  have HCS := hid hcs
  have key : ∀ w1, Below w.heap.size w w1 → Hid (w1.cell? ⟨L.s, 14, none⟩ = some (.slice ad m cap)) := fun w1 hB => (hB.cell (p := ⟨L.s, 14, none⟩) hsl).trans c14
  have KEY := hid key
  clear h hT hav hm hlen hme hq hlz hcs hrow key
  rcases lvl_cases hlv with rfl | ⟨n0, rfl⟩ | ⟨n0, n1, rfl⟩
  all_goals
    clear hlv
    go_enter Tryz.func51, Tryz.ntmps51
    go_wp2_with fail
    refine HT.out.mono ?_
    rintro e w1 ⟨v, rfl, hv, hB1⟩
    obtain ⟨ad1, cap1, rfl⟩ := row_form hv
    have d14 := (KEY.out w1 hB1).out
    have HL1 := hid (HLL.out w1.drew hB1.drew)
    have HNEW := hid (show ∀ lev : Int, Calls Tryz.prog 110 #[.int .i64 ((m : Int) + 1), .int .i64 lev, .int .i64 lz] w1.drew fun e w2 => e = .returned (.pointer (some ⟨w1.heap.size + 3, 0, none⟩)) ∧ w2.cell? ⟨L.s, 14, none⟩ = some (.slice ad m cap) ∧ TxAt w2 ((m : Int) + 1) (newL w1.heap.size) (newTx lev lz) ∧ Below w1.heap.size w1 w2 from fun lev => by
      refine (newTx_any w1.drew ((m : Int) + 1) lev lz).mono ?_
      rintro e w2 ⟨rfl, rfl⟩
      obtain ⟨hA, hB⟩ := newW_at w1.drew ((m : Int) + 1) lev lz
      have hB3 : Below w1.heap.size w1 (newW w1.drew ((m : Int) + 1) lev lz) := (below_drewN (Below.refl _ w1) 1).trans hB
      exact ⟨rfl, (hB3.cell (p := ⟨L.s, 14, none⟩) (by have := hB1.size; show L.s < _; omega)).trans d14, hA, hB3⟩)
    have HB1 := hid hB1
    clear hv hB1 HT
    go_wp2
    go_region_held3 (fun W => W.cell? ⟨L.s, 14, none⟩ = some (.slice ad m cap))
      (first | go_keep | exact e14)
      (first | (go_at_call 97
                refine HL1.out.mono ?_
                rintro e w2 ⟨rfl, hw2⟩
                rw [hw2]
                clear hw2 w2)
             | (go_at_call 110
                refine (HNEW.out _).mono ?_
                rintro e w2 ⟨rfl, e14, hA2, hB2⟩
                have HA2 := hid hA2
                have HB2 := hid hB2
                clear hA2 hB2))
    have hBw : Below w.heap.size w w2 := HB1.out.trans (HB2.out.mono HB1.out.size)
    have hs1 := HB1.out.size
    have hs2 := hBw.size
    have hrow2 := owns_same HROW.out (fun g hg => hBw.block g (HROW.out.lt g hg).2)
    rw [HAV.out] at hrow2
    have HR2 := hid hrow2
    have hf2 : w2.frozen? ⟨L.s, 14, none⟩ = false := (World.frozen?_of_block (a := ⟨L.s, 14, none⟩) (hBw.block L.s hsl)).trans hfr
    have hob : Hid (L.av.ownBlock = (Value.slice ad m cap).ownBlock) := by show _ = _; rw [HAV.out]
    have havl : Hid (∀ g, (Value.slice ad m cap).ownBlock = some g → g < w.heap.size) := fun g hg => (HROW.out.lt g (by rw [hob.out]; exact hg)).2
    have HBW := hid hBw
    have a0 : w2.cell? ⟨w1.heap.size + 3, 0, none⟩ = some (.int .i64 ((m : Int) + 1)) := HA2.out.c0
    have hbl : w1.heap.size + 3 < w2.heap.size := HA2.out.lt
    have hneb : ¬ w1.heap.size + 3 = L.s := by omega
    have hneb2 : ¬ L.s = w1.heap.size + 3 := by omega
    clear hrow2 hBw
    go_wp2_with (at_builtin; refine wpList_append_lies _ rfl _ _ _ rfl 0 179 i0 _ 1 8 Tryz.underlying160 hi0 hz0 hz1 hz2 rfl (by omega) (.slice ad m cap) _ _ rfl (HR2.out.alloc _) ⟨w2.heap.size, 0, none⟩ 1 1 [.pointer (some ⟨w1.heap.size + 3, 0, none⟩)] rfl rfl (World.news_of_block (cs := #[.pointer (some ⟨w1.heap.size + 3, 0, none⟩)]) (t := 179) (fr := (0, 0)) (heap_alloc_new w2 _)) (by simp [Value.oneCell']) (by omega) (by unfold maxLen; omega) (by omega) (by simp) (w2.heap.size + 1) (by simp) ?_; intro gg cap' w3 ho hgrow hat hlt2; have hsb : w3.heap[L.s]? = w2.heap[L.s]? := (hgrow.block L.s (by simp; omega) (fun e => HCS.out (hob.out.trans e.symm))).trans (Below.heap_alloc w2 _ L.s (by omega)); have d2 := (World.cell?_of_block (a := ⟨L.s, 14, none⟩) hsb).trans e14; have f2 := (World.frozen?_of_block (a := ⟨L.s, 14, none⟩) hsb).trans hf2; have n0 := (World.cell?_of_block (a := ⟨w1.heap.size + 3, 0, none⟩) ((hgrow.block (w1.heap.size + 3) (by simp; omega) (fun e => by have := havl.out _ e.symm; omega)).trans (Below.heap_alloc w2 _ (w1.heap.size + 3) hbl))).trans a0; clear hsb)
    have hown : ∀ g, (newL w1.heap.size).own g → w1.heap.size ≤ g ∧ g < w2.heap.size := fun g hg => by
      refine ⟨?_, HA2.out.own_lt hg⟩
      rcases hg with h1 | h1 | h1 | h1 | h1
      · rw [h1]; exact Nat.le_add_right _ _
      · rw [h1]; exact Nat.le_refl _
      · rw [h1]; exact Nat.le_add_right _ _
      · rw [h1]; exact Nat.le_add_right _ _
      · cases h1
    have hat2 : L.av.ownBlock = some gg ∨ w2.heap.size ≤ gg := by
      rcases hat with h1 | h1
      · exact .inl (by rw [hob.out]; exact h1)
      · exact .inr (by omega)
    obtain ⟨h4, k4⟩ := HH.out.addTx (l := newL w1.heap.size) (t := newTx _ lz) (w2 := w3) (gg := gg) (cap := cap') HM.out (by omega) ho
      (HA2.out.same (fun g hg => (hgrow.block g (by simp; have := (hown g hg).2; omega) (fun e => by have := havl.out _ e.symm; have := (hown g hg).1; omega)).trans (Below.heap_alloc w2 _ g (hown g hg).2)))
      (fun g hg => by have := (hown g hg).1; omega) (fun hg => by
        rcases hat2 with h1 | h1
        · have := havl.out gg (by rw [← hob.out]; exact h1); have := (hown gg hg).1; omega
        · have := (hown gg hg).2; omega)
      ⟨hgrow.os.trans HBW.out.os, hgrow.tape.trans HBW.out.tape, hgrow.output.trans HBW.out.output⟩ (by have := hgrow.size; simp at this; omega)
      (fun g hg hne => (hgrow.block g (by simp; omega) (fun e => hne (by rw [hob.out]; exact e.symm))).trans ((Below.heap_alloc w2 _ g (by omega)).trans (HBW.out.block g hg))) (hat2.imp id (fun h1 => by omega))
    have HF := hid (show ∃ L' b, EnAt _ L' _ ∧ KeptO L.own L'.own w _ ∧ L'.s = L.s ∧ L'.bs = L.bs ++ [b] from ⟨_, _, h4, k4, rfl, bs_snoc L _ _⟩)
    clear h4 k4 hown hat2
    go_wp2
    go_ret2
    exact ⟨rfl, by have := HF.out; rw [HLZ.out] at this; exact this⟩
end Go.Proofs.YtjefgmeejhakbaaGreatDoor
