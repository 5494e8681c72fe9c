/- engine.Commit, Ready, Writes. -/
import Derived.Test.YtmmjolknfgjbeaaGreatDoorMgAC
namespace Go.Proofs.YtmmjolknfgjbeaaGreatDoor
open Go.RowKit

variable {w w' : World} {L : EnL} {E : Eng}
set_option maxRecDepth 100000 in
set_option maxHeartbeats 1000000 in
theorem writesE_ok (h : EnAt w L E) {i : Nat} {t : Tx} (ht : E.txs[i]? = some t) :
    Calls Tryz.prog 28 #[.pointer (some ⟨L.s, 0, none⟩), .int .i64 ((i : Int) + 1)] w fun e w' => ∃ v, e = .returned (.tuple #[v, .nilIface]) ∧ w'.ownsRow w.heap.size 78 2 v (writesP t.vals).length (vrow (writesP t.vals)) ∧ Below w.heap.size w w' := by
  obtain ⟨l, hl, hA⟩ := h.get ht
  have HO := hid (find_ok h hl)
  have HW := hid (writes_any hA)
  clear h ht hl hA
  go_enter Tryz.func28, Tryz.ntmps28
  go_wp2_with fail
  refine HO.out.mono ?_
  rintro e w1 ⟨rfl, hw1⟩
  rw [hw1]
  clear hw1 w1
  go_wp2_with fail
  refine HW.out.mono ?_
  rintro e w1 ⟨v, rfl, ho, hB⟩
  have HF := hid (And.intro ho hB)
  clear ho hB HW
  go_wp2
  go_ret2
  exact ⟨v, rfl, HF.out⟩
set_option maxRecDepth 100000 in
set_option maxHeartbeats 1000000 in
theorem writesE_err (h : EnAt w L E) {n : Int} (hn : n < 1 ∨ (E.txs.length : Int) < n) :
    Calls Tryz.prog 28 #[.pointer (some ⟨L.s, 0, none⟩), .int .i64 n] w fun e w' => e = .returned (.tuple #[.slice none 0 0, errV 7]) ∧ w' = w := by
  have HO := hid (find_err h hn)
  rw [show errV 7 = Value.iface 24 (.int .i64 7) from rfl] at HO ⊢
  clear h hn
  go_enter Tryz.func28, Tryz.ntmps28
  go_wp2_with fail
  refine HO.out.mono ?_
  rintro e w1 ⟨rfl, rfl⟩
  go_wp2
  go_ret2
  exact ⟨rfl, rfl⟩

theorem installE_rest (E : Eng) (i : Nat) : (installE E i).txs = E.txs ∧ (installE E i).com = E.com ∧ (installE E i).T = E.T := by
  unfold installE
  split
  · split <;> exact ⟨rfl, rfl, rfl⟩
  · exact ⟨rfl, rfl, rfl⟩

set_option maxRecDepth 100000 in
set_option maxHeartbeats 1000000 in
theorem commit_shut (h : EnAt w L E) {n c : Int} (hc : (c = 7 ∧ (n < 1 ∨ (E.txs.length : Int) < n)) ∨ (c = 6 ∧ ∃ (i : Nat) (t : Tx), n = (i : Int) + 1 ∧ E.txs[i]? = some t ∧ t.state ≠ 0)) :
    Calls Tryz.prog 37 #[.pointer (some ⟨L.s, 0, none⟩), .int .i64 n] w fun e w' => e = .returned (errV c) ∧ w' = w := by
  have HO : Hid (Calls Tryz.prog 102 #[.pointer (some ⟨L.s, 0, none⟩), .int .i64 n] w fun e w' => e = .returned (.tuple #[.pointer none, errV c]) ∧ w' = w) := by
    rcases hc with ⟨rfl, hn⟩ | ⟨rfl, i, t, rfl, ht, hs⟩
    · exact open_err h hn
    · obtain ⟨l, hl, _⟩ := h.get ht
      exact open_state h hl ht hs
  have h0 : c ≠ 0 := by rcases hc with ⟨rfl, _⟩ | ⟨rfl, _⟩ <;> decide
  rw [show errV c = Value.iface 24 (.int .i64 c) from if_neg h0] at HO ⊢
  clear h hc h0
  go_enter Tryz.func37, Tryz.ntmps37
  go_wp2_with fail
  refine HO.out.mono ?_
  rintro e w1 ⟨rfl, rfl⟩
  go_wp2
  go_ret
  exact ⟨rfl, rfl⟩

set_option maxRecDepth 100000 in
set_option maxHeartbeats 4000000 in
theorem commit_main (h : EnAt w L E) (hf : Fits E) {f : Nat} {i : Nat} {t : Tx} (ht : E.txs[i]? = some t) (hs : t.state = 0) (hfv : FineV t) (hlast : 0 ≤ E.last ∧ E.last ≤ 1099511627776) (hnw : E.nw ≤ 1000000) (hcom : E.com.length ≤ 1000000)
    (hks : ∀ l ∈ (installE E i).ks, l.length ≤ 100000) {R : Int × Eng} (hR : commitE f E i = some R) :
    Calls Tryz.prog 37 #[.pointer (some ⟨L.s, 0, none⟩), .int .i64 ((i : Int) + 1)] w fun e w' => e = .returned (errV R.1) ∧ EnPost L R.2 w w' := by
  obtain ⟨i0, hi0, hz0, hz1, hz2⟩ := info_parts info179
  obtain ⟨l, hl, hA⟩ := h.get ht
  have HO := hid (open_ok h hl ht hs)
  have HB := hid (between_any l.b l.ab l.hb 201 201 t.ahead t.behind w hA.c20 hA.c21 hA.ah hA.be)
  unfold commitE at hR
  rw [ht] at hR
  simp only at hR
  have HL := hid hl
  have hbi := bs_get hl
  cases hb : betB t.ahead t.behind with
  | true =>
    rw [hb] at HB hR
    rw [if_pos rfl] at hR
    obtain ⟨E9, hE9, hR2⟩ : ∃ E9, endF f (loseE E i 13) i 3 = some E9 ∧ R = (13, E9) := by
      cases he : endF f (loseE E i 13) i 3 with
      | none => rw [he] at hR; cases hR
      | some E9 => rw [he] at hR; simp at hR; exact ⟨E9, rfl, hR.symm⟩
    have HC := hid (lose_any (end_ok f) h hl ht 13 hf.len hE9)
    have HR2 := hid hR2
    clear h hf ht hs hfv hks hR hA hl hb hE9 hR2 hbi
    go_enter Tryz.func37, Tryz.ntmps37
    go_wp2_with fail
    refine HO.out.mono ?_
    rintro e w1 ⟨rfl, hw1⟩
    rw [hw1]
    clear hw1 w1
    go_wp2_with fail
    refine HB.out.mono ?_
    rintro e w1 ⟨rfl, hw1⟩
    rw [hw1]
    clear hw1 w1
    go_wp2_with fail
    refine HC.out.mono ?_
    rintro e w1 ⟨rfl, hP⟩
    have HP := hid hP
    clear hP HC
    go_wp2
    go_ret
    rw [HR2.out]
    exact ⟨rfl, HP.out⟩
  | false =>
    rw [hb] at HB hR
    rw [if_neg (by simp)] at hR
    obtain ⟨E9, hE9, hR2⟩ : ∃ E9, endF f { (installE E i) with com := E.com ++ [i] } i 2 = some E9 ∧ R = (0, E9) := by
      cases he : endF f { (installE E i) with com := E.com ++ [i] } i 2 with
      | none => rw [he] at hR; cases hR
      | some E9 => rw [he] at hR; simp at hR; exact ⟨E9, rfl, hR.symm⟩
    have HI := hid (install_any h hf hl ht hfv hlast hnw)
    have HR2 := hid hR2
    have hir := installE_rest E i
    have HE9 := hid hE9
    have HKS := hid hks
    have hlb : l.b = l.b := rfl
    clear h hf ht hs hfv hks hR hA hl hb hE9 hR2
    go_enter Tryz.func37, Tryz.ntmps37
    go_wp2_with fail
    refine HO.out.mono ?_
    rintro e w1 ⟨rfl, hw1⟩
    rw [hw1]
    clear hw1 w1
    go_wp2_with fail
    refine HB.out.mono ?_
    rintro e w1 ⟨rfl, hw1⟩
    rw [hw1]
    clear hw1 w1
    go_wp2_with fail
    refine HI.out.mono ?_
    rintro e w1 ⟨rfl, L1, hE1, hK1, hs1, hb1⟩
    obtain ⟨l1, hl1, hlb1⟩ : ∃ l1, L1.txs[i]? = some l1 ∧ l1.b = l.b := by
      have : L1.bs[i]? = some l.b := by rw [hb1]; exact hbi
      simp only [EnL.bs, List.getElem?_map, Option.map_eq_some_iff] at this
      exact this
    have c16 := hE1.c16
    have hf16 : w1.frozen? ⟨L1.s, 16, none⟩ = false := hE1.sto.free 16
    have hrow := hE1.com
    obtain ⟨ad, cap, hcv⟩ := row_form hrow
    obtain ⟨m, hm⟩ : ∃ m, (installE E i).com.length = m := ⟨_, rfl⟩
    have hm2 : m ≤ 1000000 := by rw [← hm, hir.2.1]; exact hcom
    rw [hm] at hrow hcv
    rw [hcv] at c16
    rw [hs1] at c16 hf16
    have hsl : L.s < w1.heap.size := by have := hE1.sto.lt; rw [hs1] at this; exact this
    have hcs : L1.cv.ownBlock ≠ some L.s := fun e => by
      obtain ⟨ρ, T⟩ := hE1.tag
      have h1 := T.com _ e
      have h2 := T.eng
      rw [hs1] at h2
      rw [h2] at h1; cases h1
    have HE1 := hid hE1
    have HK1 := hid hK1
    have HL1 := hid (And.intro hl1 hlb1)
    have HM := hid hm
    have HCV := hid hcv
    have HSB := hid (And.intro hs1 hb1)
    have HCS := hid hcs
    rw [hcv] at hrow hcs
    have HROW := hid hrow
    have HCS2 := hid hcs
    clear hE1 hK1 hl1 hlb1 hrow hm hcv hs1 hb1 hcs HI
    go_wp2_with (at_builtin; refine wpList_append_lies _ rfl _ _ _ rfl 0 179 i0 _ 1 8 Tryz.underlying160 hi0 hz0 hz1 hz2 rfl (by omega) (.slice ad m cap) _ _ rfl (HROW.out.alloc _) ⟨w1.heap.size, 0, none⟩ 1 1 [.pointer (some ⟨l.b, 0, none⟩)] rfl rfl (World.news_of_block (cs := #[.pointer (some ⟨l.b, 0, none⟩)]) (t := 179) (fr := (0, 0)) (heap_alloc_new w1 _)) (by simp [Value.oneCell']) (by omega) (by unfold maxLen; omega) (by omega) (by simp) (w1.heap.size + 1) (by simp) ?_; intro gg cap' w2 ho hgrow hat hlt2; have hsb : w2.heap[L.s]? = w1.heap[L.s]? := (hgrow.block L.s (by simp; omega) (fun e => HCS2.out e.symm)).trans (Below.heap_alloc w1 _ L.s hsl); have d16 := (World.cell?_of_block (a := ⟨L.s, 16, none⟩) hsb).trans c16; have e16 := (World.frozen?_of_block (a := ⟨L.s, 16, none⟩) hsb).trans hf16; clear hsb)
    have hcb : L1.cv.ownBlock = (Value.slice ad m cap).ownBlock := by rw [HCV.out]
    obtain ⟨h3, k3⟩ := HE1.out.addCom HL1.out.1 HM.out (w1 := w2) (gg := gg) (cap := cap') (by rw [HL1.out.2]; exact ho) ⟨hgrow.os, hgrow.tape, hgrow.output⟩ (by have := hgrow.size; simp at this; omega)
      (fun g hg hne => (hgrow.block g (by simp; omega) (fun e => hne (by rw [hcb]; exact e.symm))).trans (Below.heap_alloc w1 _ g hg)) (by
        rcases hat with h1 | h1
        · exact .inl (by rw [hcb]; exact h1)
        · exact .inr (by omega))
    rw [show ({ (installE E i) with com := (installE E i).com ++ [i] } : Eng) = { (installE E i) with com := E.com ++ [i] } from by rw [hir.2.1]] at h3
    have hend := end_ok f _ _ _ E9 i l.b 2 h3 (by show L1.bs[i]? = some l.b; rw [HSB.out.2]; exact hbi) HKS.out HE9.out
    rw [show ({ L1 with cv := .slice (some ⟨gg, 0, none⟩) (m + 1) cap' } : EnL).s = L.s from HSB.out.1] at hend
    rw [HSB.out.1] at k3
    have HC := hid hend
    have HK3 := hid (HK1.out.trans k3)
    clear h3 k3 hend hcb ho hgrow hat
    go_wp2_with fail
    refine HC.out.mono ?_
    rintro e w4 ⟨rfl, L4, hE4, hK4, hs4, hb4⟩
    have HP := hid (show EnPost L E9 w w4 from ⟨L4, hE4, HK3.out.trans hK4, hs4, hb4.trans HSB.out.2⟩)
    clear hE4 hK4 hs4 hb4 HC
    go_wp2
    go_ret
    rw [HR2.out]
    exact ⟨rfl, HP.out⟩

end Go.Proofs.YtmmjolknfgjbeaaGreatDoor
