/- EnCom EnNew FsRead: put together for a claim. -/
import Derived.Test.YtjefgmeejhakbaaGreatDoorMgAO
import Derived.Test.YtjefgmeejhakbaaGreatDoorMgAN
/- engine.Commit, Ready, Writes. -/
namespace Go.Proofs.YtjefgmeejhakbaaGreatDoor
open Go.RowKit
variable {w w' : World} {L : EnL} {E : Eng}
set_option maxRecDepth 100000 in
set_option maxHeartbeats 1000000 in
theorem writesE_ok (h : EnAt w L E) {i : Nat} {t : Tx} (ht : E.txs[i]? = some t) :
    Calls Tryz.prog 28 #[.pointer (some ⟨L.s, 0, none⟩), .int .i64 ((i : Int) + 1)] w fun e w' => ∃ v, e = .returned (.tuple #[v, .nilIface]) ∧ w'.ownsRow w.heap.size 78 2 v (writesP t.vals).length (vrow (writesP t.vals)) ∧ Below w.heap.size w w' := by
  obtain ⟨l, hl, hA⟩ := h.get ht
  have HO := hid (find_ok h hl)
  have HW := hid (writes_any hA)
  clear h ht hl hA
  go_enter Tryz.func28, Tryz.ntmps28
  go_wp2_with fail
  refine HO.out.mono ?_
  rintro e w1 ⟨rfl, hw1⟩
  rw [hw1]
  clear hw1 w1
  go_wp2_with fail
  refine HW.out.mono ?_
  rintro e w1 ⟨v, rfl, ho, hB⟩
  have HF := hid (And.intro ho hB)
  clear ho hB HW
  go_wp2
  go_ret2
  exact ⟨v, rfl, HF.out⟩
set_option maxRecDepth 100000 in
set_option maxHeartbeats 1000000 in
theorem writesE_err (h : EnAt w L E) {n : Int} (hn : n < 1 ∨ (E.txs.length : Int) < n) :
    Calls Tryz.prog 28 #[.pointer (some ⟨L.s, 0, none⟩), .int .i64 n] w fun e w' => e = .returned (.tuple #[.slice none 0 0, errV 7]) ∧ w' = w := by
  have HO := hid (find_err h hn)
  rw [show errV 7 = Value.iface 24 (.int .i64 7) from rfl] at HO ⊢
  clear h hn
  go_enter Tryz.func28, Tryz.ntmps28
  go_wp2_with fail
  refine HO.out.mono ?_
  rintro e w1 ⟨rfl, rfl⟩
  go_wp2
  go_ret2
  exact ⟨rfl, rfl⟩
theorem installE_rest (E : Eng) (i : Nat) : (installE E i).txs = E.txs ∧ (installE E i).com = E.com ∧ (installE E i).T = E.T := by
  unfold installE
  split
  · split <;> exact ⟨rfl, rfl, rfl⟩
  · exact ⟨rfl, rfl, rfl⟩
set_option maxRecDepth 100000 in
set_option maxHeartbeats 1000000 in
theorem commit_shut (h : EnAt w L E) {n c : Int} (hc : (c = 7 ∧ (n < 1 ∨ (E.txs.length : Int) < n)) ∨ (c = 6 ∧ ∃ (i : Nat) (t : Tx), n = (i : Int) + 1 ∧ E.txs[i]? = some t ∧ t.state ≠ 0)) :
    Calls Tryz.prog 37 #[.pointer (some ⟨L.s, 0, none⟩), .int .i64 n] w fun e w' => e = .returned (errV c) ∧ w' = w := by
  have HO : Hid (Calls Tryz.prog 102 #[.pointer (some ⟨L.s, 0, none⟩), .int .i64 n] w fun e w' => e = .returned (.tuple #[.pointer none, errV c]) ∧ w' = w) := by
    rcases hc with ⟨rfl, hn⟩ | ⟨rfl, i, t, rfl, ht, hs⟩
    · exact open_err h hn
    · obtain ⟨l, hl, _⟩ := h.get ht
      exact open_state h hl ht hs
  have h0 : c ≠ 0 := by rcases hc with ⟨rfl, _⟩ | ⟨rfl, _⟩ <;> decide
  rw [show errV c = Value.iface 24 (.int .i64 c) from if_neg h0] at HO ⊢
  clear h hc h0
  go_enter Tryz.func37, Tryz.ntmps37
  go_wp2_with fail
  refine HO.out.mono ?_
  rintro e w1 ⟨rfl, rfl⟩
  go_wp2
  go_ret
  exact ⟨rfl, rfl⟩
set_option maxRecDepth 100000 in
set_option maxHeartbeats 4000000 in
theorem commit_main (h : EnAt w L E) (hf : Fits E) {f : Nat} {i : Nat} {t : Tx} (ht : E.txs[i]? = some t) (hs : t.state = 0) (hfv : FineV t) (hlast : 0 ≤ E.last ∧ E.last ≤ 1099511627776) (hnw : E.nw ≤ 1000000000) (hcom : E.com.length ≤ 1000000000)
    (hks : ∀ l ∈ (installE E i).ks, l.length ≤ 100000) {R : Int × Eng} (hR : commitE f E i = some R) :
    Calls Tryz.prog 37 #[.pointer (some ⟨L.s, 0, none⟩), .int .i64 ((i : Int) + 1)] w fun e w' => e = .returned (errV R.1) ∧ EnPost L R.2 w w' := by
  obtain ⟨i0, hi0, hz0, hz1, hz2⟩ := info_parts info179
  obtain ⟨l, hl, hA⟩ := h.get ht
  have HO := hid (open_ok h hl ht hs)
  have HB := hid (between_any l.b l.ab l.hb 201 201 t.ahead t.behind w hA.c20 hA.c21 hA.ah hA.be)
  unfold commitE at hR
  rw [ht] at hR
  simp only at hR
  have HL := hid hl
  have hbi := bs_get hl
  cases hb : betB t.ahead t.behind with
  | true =>
    rw [hb] at HB hR
    rw [if_pos rfl] at hR
    obtain ⟨E9, hE9, hR2⟩ : ∃ E9, endF f (loseE E i 13) i 3 = some E9 ∧ R = (13, E9) := by
      cases he : endF f (loseE E i 13) i 3 with
      | none => rw [he] at hR; cases hR
      | some E9 => rw [he] at hR; simp at hR; exact ⟨E9, rfl, hR.symm⟩
    have HC := hid (lose_any (end_ok f) h hl ht 13 hf.len hE9)
    have HR2 := hid hR2
    clear h hf ht hs hfv hks hR hA hl hb hE9 hR2 hbi
    go_enter Tryz.func37, Tryz.ntmps37
    go_wp2_with fail
    refine HO.out.mono ?_
    rintro e w1 ⟨rfl, hw1⟩
    rw [hw1]
    clear hw1 w1
    go_wp2_with fail
    refine HB.out.mono ?_
    rintro e w1 ⟨rfl, hw1⟩
    rw [hw1]
    clear hw1 w1
    go_wp2_with fail
    refine HC.out.mono ?_
    rintro e w1 ⟨rfl, hP⟩
    have HP := hid hP
    clear hP HC
    go_wp2
    go_ret
    rw [HR2.out]
    exact ⟨rfl, HP.out⟩
  | false =>
    rw [hb] at HB hR
    rw [if_neg (by simp)] at hR
    obtain ⟨E9, hE9, hR2⟩ : ∃ E9, endF f { (installE E i) with com := E.com ++ [i] } i 2 = some E9 ∧ R = (0, E9) := by
      cases he : endF f { (installE E i) with com := E.com ++ [i] } i 2 with
      | none => rw [he] at hR; cases hR
      | some E9 => rw [he] at hR; simp at hR; exact ⟨E9, rfl, hR.symm⟩
    have HI := hid (install_any h hf hl ht hfv hlast hnw)
    have HR2 := hid hR2
    have hir := installE_rest E i
    have HE9 := hid hE9
    have HKS := hid hks
    have hlb : l.b = l.b := rfl
    clear h hf ht hs hfv hks hR hA hl hb hE9 hR2
    go_enter Tryz.func37, Tryz.ntmps37
    go_wp2_with fail
    refine HO.out.mono ?_
    rintro e w1 ⟨rfl, hw1⟩
    rw [hw1]
    clear hw1 w1
    go_wp2_with fail
    refine HB.out.mono ?_
    rintro e w1 ⟨rfl, hw1⟩
    rw [hw1]
    clear hw1 w1
    go_wp2_with fail
    refine HI.out.mono ?_
    rintro e w1 ⟨rfl, L1, hE1, hK1, hs1, hb1⟩
    obtain ⟨l1, hl1, hlb1⟩ : ∃ l1, L1.txs[i]? = some l1 ∧ l1.b = l.b := by
      have : L1.bs[i]? = some l.b := by rw [hb1]; exact hbi
      simp only [EnL.bs, List.getElem?_map, Option.map_eq_some_iff] at this
      exact this
    have c16 := hE1.c16
    have hf16 : w1.frozen? ⟨L1.s, 16, none⟩ = false := hE1.sto.free 16
    have hrow := hE1.com
    obtain ⟨ad, cap, hcv⟩ := row_form hrow
    obtain ⟨m, hm⟩ : ∃ m, (installE E i).com.length = m := ⟨_, rfl⟩
    have hm2 : m ≤ 1000000000 := by rw [← hm, hir.2.1]; exact hcom
    rw [hm] at hrow hcv
    rw [hcv] at c16
    rw [hs1] at c16 hf16
    have hsl : L.s < w1.heap.size := by have := hE1.sto.lt; rw [hs1] at this; exact this
    have hcs : L1.cv.ownBlock ≠ some L.s := fun e => by
      obtain ⟨ρ, T⟩ := hE1.tag
      have h1 := T.com _ e
      have h2 := T.eng
      rw [hs1] at h2
      rw [h2] at h1; cases h1
    have HE1 := hid hE1
    have HK1 := hid hK1
    have HL1 := hid (And.intro hl1 hlb1)
    have HM := hid hm
    have HCV := hid hcv
    have HSB := hid (And.intro hs1 hb1)
    have HCS := hid hcs
    rw [hcv] at hrow hcs
    have HROW := hid hrow
    have HCS2 := hid hcs
    clear hE1 hK1 hl1 hlb1 hrow hm hcv hs1 hb1 hcs HI
    go_wp2_with (at_builtin; refine wpList_append_lies _ rfl _ _ _ rfl 0 179 i0 _ 1 8 Tryz.underlying160 hi0 hz0 hz1 hz2 rfl (by omega) (.slice ad m cap) _ _ rfl (HROW.out.alloc _) ⟨w1.heap.size, 0, none⟩ 1 1 [.pointer (some ⟨l.b, 0, none⟩)] rfl rfl (World.news_of_block (cs := #[.pointer (some ⟨l.b, 0, none⟩)]) (t := 179) (fr := (0, 0)) (heap_alloc_new w1 _)) (by simp [Value.oneCell']) (by omega) (by unfold maxLen; omega) (by omega) (by simp) (w1.heap.size + 1) (by simp) ?_; intro gg cap' w2 ho hgrow hat hlt2; have hsb : w2.heap[L.s]? = w1.heap[L.s]? := (hgrow.block L.s (by simp; omega) (fun e => HCS2.out e.symm)).trans (Below.heap_alloc w1 _ L.s hsl); have d16 := (World.cell?_of_block (a := ⟨L.s, 16, none⟩) hsb).trans c16; have e16 := (World.frozen?_of_block (a := ⟨L.s, 16, none⟩) hsb).trans hf16; clear hsb)
    have hcb : L1.cv.ownBlock = (Value.slice ad m cap).ownBlock := by rw [HCV.out]
    obtain ⟨h3, k3⟩ := HE1.out.addCom HL1.out.1 HM.out (w1 := w2) (gg := gg) (cap := cap') (by rw [HL1.out.2]; exact ho) ⟨hgrow.os, hgrow.tape, hgrow.output⟩ (by have := hgrow.size; simp at this; omega)
      (fun g hg hne => (hgrow.block g (by simp; omega) (fun e => hne (by rw [hcb]; exact e.symm))).trans (Below.heap_alloc w1 _ g hg)) (by
        rcases hat with h1 | h1
        · exact .inl (by rw [hcb]; exact h1)
        · exact .inr (by omega))
    rw [show ({ (installE E i) with com := (installE E i).com ++ [i] } : Eng) = { (installE E i) with com := E.com ++ [i] } from by rw [hir.2.1]] at h3
    have hend := end_ok f _ _ _ E9 i l.b 2 h3 (by show L1.bs[i]? = some l.b; rw [HSB.out.2]; exact hbi) HKS.out HE9.out
    rw [show ({ L1 with cv := .slice (some ⟨gg, 0, none⟩) (m + 1) cap' } : EnL).s = L.s from HSB.out.1] at hend
    rw [HSB.out.1] at k3
    have HC := hid hend
    have HK3 := hid (HK1.out.trans k3)
    clear h3 k3 hend hcb ho hgrow hat
    go_wp2_with fail
    refine HC.out.mono ?_
    rintro e w4 ⟨rfl, L4, hE4, hK4, hs4, hb4⟩
    have HP := hid (show EnPost L E9 w w4 from ⟨L4, hE4, HK3.out.trans hK4, hs4, hb4.trans HSB.out.2⟩)
    clear hE4 hK4 hs4 hb4 HC
    go_wp2
    go_ret
    rw [HR2.out]
    exact ⟨rfl, HP.out⟩
end Go.Proofs.YtjefgmeejhakbaaGreatDoor

/- engine.New, Sweep. -/
namespace Go.Proofs.YtjefgmeejhakbaaGreatDoor
open Go.RowKit
variable {w w' : World} {L : EnL} {E : Eng}
def eng0 : Eng := ⟨0, List.replicate 10 [], fun _ => [], [], fun _ => none, [], 0⟩
def enL0 (s wb : Nat) : EnL := ⟨s, List.replicate 10 (.slice none 0 0), noM, .slice none 0 0, wb, .slice none 0 0, []⟩
def enCells0 (wb : Nat) : Array Value := #[.int .i64 0, .slice none 0 0, .slice none 0 0, .slice none 0 0, .slice none 0 0, .slice none 0 0, .slice none 0 0, .slice none 0 0, .slice none 0 0, .slice none 0 0, .slice none 0 0, .map none, .map none, .map none, .slice none 0 0, .map (some wb), .slice none 0 0]
theorem good0 : Good (fun _ => []) := ⟨⟨fun _ h => (h rfl).elim, fun _ _ h => (by cases h), fun _ => List.Pairwise.nil, fun _ _ _ h => (by cases h)⟩, fun _ => 0, fun _ _ h => (by cases h)⟩
theorem enAt0 {s wb : Nat} (hs : w.heap[s]? = some (.cells (enCells0 wb) 162 (0, 0))) (hI : IMap w wb 0 (fun _ => none)) : EnAt w (enL0 s wb) eng0 := by
  have hne : wb ≠ s := hI.ne hs
  have hrep : ∀ {k : Nat} {v : Value}, (List.replicate 10 (Value.slice none 0 0))[k]? = some v → v = .slice none 0 0 := fun {k v} h => by
    rw [List.getElem?_replicate] at h
    split at h
    · injection h with h; exact h.symm
    · cases h
  refine ⟨⟨hs, rfl, rfl, fun k v l hv hl => ?_, fun i j v u g hv _ hg _ => ?_, Nat.lt_succ_self _⟩, ⟨_, _, _, Raw.zero (C := (enL0 s wb).C 0) hs |>.mono (Nat.zero_le _), ?_⟩, good0, fun k x h => (by cases h), ?_, rfl, by decide, hI, ?_, fun i h => (by cases h), fun i l t hl _ => (by cases hl), ⟨fun g => if g = s then .eng else .wr, ?_⟩⟩
  · rw [hrep hv]
    have : l = [] := by
      rw [show eng0.ks = List.replicate 10 [] from rfl, List.getElem?_replicate] at hl
      split at hl
      · injection hl with hl; exact hl.symm
      · cases hl
    subst this
    show w.ownsRow (s + 1) 199 2 (.slice none 0 0) 0 []
    exact World.ownsRow_nil w (s + 1) 199 2
  · rw [hrep hv] at hg; cases hg
  · exact ⟨fun _ => rfl, fun x => by
      have : waitsP (fun _ => []) x = -1 := (waits_none_iff good0.tidy).2 (fun k h => by cases h)
      exact ⟨this.symm, fun _ => this, fun _ => rfl⟩, fun _ => rfl⟩
  · simpa [enL0, EnL.bs] using World.ownsRow_nil w 0 179 1
  · simpa [enL0, EnL.bs, eng0] using World.ownsRow_nil w 0 179 1
  · refine ⟨by simp [enL0], fun g hg => ?_, fun g hg hn => ?_, fun g hg => (by cases hg), by simp [enL0, hne], fun g hg => (by cases hg), fun i l g hl _ => (by cases hl)⟩
    · obtain ⟨v, hv, hg⟩ := hg
      rw [List.eq_of_mem_replicate hv] at hg
      cases hg
    · rcases hg with h1 | h1 | h1 | h1 | ⟨_, _, h1, _⟩
      · exact (hn h1).elim
      · cases h1
      · cases h1
      · cases h1
      · cases h1
set_option maxRecDepth 100000 in
set_option maxHeartbeats 1000000 in
theorem new_any (w : World) : Calls Tryz.prog 19 #[] w fun e w' => ∃ L, e = .returned (.pointer (some ⟨L.s, 0, none⟩)) ∧ EnAt w' L eng0 ∧ Below w.heap.size w w' ∧ ∀ g, L.own g → w.heap.size ≤ g := by
  have hI := IMap.made w
  have h2 : ((w.alloc (.map #[] 0)).alloc (.cells (enCells0 w.heap.size) 162)).heap[w.heap.size + 1]? = some (.cells (enCells0 w.heap.size) 162 (0, 0)) := by
    have := heap_alloc_new (w.alloc (.map #[] 0)) (.cells (enCells0 w.heap.size) 162)
    rwa [World.size_alloc] at this
  have HE := hid (enAt0 h2 (hI.same (Below.heap_alloc _ _ w.heap.size (by simp))))
  have HB := hid (show Below w.heap.size w ((w.alloc (.map #[] 0)).alloc (.cells (enCells0 w.heap.size) 162)) from ((Below.refl _ w).alloc (Nat.le_refl _) _).alloc (by simp) _)
  have hmm := @run_makeMap Tryz.prog
  clear hI h2
  go_enter Tryz.func19, Tryz.ntmps19
  go_wp2
  go_ret
  refine ⟨enL0 (w.heap.size + 1) w.heap.size, rfl, HE.out, HB.out, fun g hg => ?_⟩
  rcases hg with h1 | h1 | h1 | h1 | h1 | h1 | ⟨_, h1, _⟩
  · rw [h1]; exact Nat.le_succ _
  · obtain ⟨v, hv, hg⟩ := h1
    rw [List.eq_of_mem_replicate hv] at hg
    cases hg
  · rcases h1 with h1 | h1 | h1 | h1 | ⟨_, _, h1, _⟩
    · rw [h1]; exact Nat.le_succ _
    · cases h1
    · cases h1
    · cases h1
    · cases h1
  · cases h1
  · rw [h1]; exact Nat.le_refl _
  · cases h1
  · cases h1
end Go.Proofs.YtjefgmeejhakbaaGreatDoor

/- The document's Read at whatever its list is; Sweep; All. -/
namespace Go.Proofs.YtjefgmeejhakbaaGreatDoor
open Go.RowKit
variable {P : Tail}
set_option maxRecDepth 100000 in
set_option maxHeartbeats 2000000 in
theorem refRead_nil (base R : Nat) (k t last : Int) (w : World) (hk : inB k 0 9 = true) (h : Ref P w base R last (.slice none 0 0) []) :
    Calls Tryz.prog 135 #[.pointer (some ⟨R, 0, none⟩), .int .i64 k, .int .i64 t] w fun e w' =>
      e = .returned (.tuple #[.agg #[.int .i64 0, .int .i64 0], .int .i64 8]) ∧ Below w.heap.size w w' := by
  have hc := h.c0
  have hR := h.lt
  go_enter Tryz.func135, Tryz.ntmps135
  go_wp2_with (go_at_call 54; refine (in_any _ _ _ _).mono ?_; rintro e w' ⟨rfl, rfl⟩)
  go_loopw [9, 22] (fun sv i wr => i = .int .i64 0 ∧ sv = .bool false ∧ wr.heap[w.heap.size]? = some (.cells #[.int .i64 0, .int .i64 0] 199 (0, 0)) ∧ Below w.heap.size w wr) (fun _ _ _ => 0)
  case atStart => exact ⟨rfl, rfl, (Below.heap_alloc _ _ _ (by simp)).trans (World.alloc_heap_new w _), ((Below.refl _ w).alloc (Nat.le_refl _) _).alloc (by simp) _⟩
  case round =>
    obtain ⟨rfl, rfl, hx, hB⟩ := hrel
    have g0 : wr.cell? ⟨w.heap.size, 0, none⟩ = some (.int .i64 0) := (cell_of_row _ _ 0 _ 199 (0, 0) hx).trans rfl
    have g1 : wr.cell? ⟨w.heap.size, 1, none⟩ = some (.int .i64 0) := (cell_of_row _ _ 1 _ 199 (0, 0) hx).trans rfl
    have f0 := frozen_of_row wr w.heap.size 0 _ 199 hx
    have f1 := frozen_of_row wr w.heap.size 1 _ 199 hx
    clear hx
    go_wp2
    refine bodyPost_ret (v := .tuple #[.agg #[.int .i64 0, .int .i64 0], .int .i64 8]) (by simp [results, Tryz.results135, go_sem, g0, g1]) rfl ⟨rfl, ?_⟩
    exact (hB.setCell (p := ⟨w.heap.size, 0, none⟩) (by simp) _).setCell (p := ⟨w.heap.size, 1, none⟩) (by simp) _
theorem refRead_any (base R : Nat) (k t last : Int) (lv : Value) (L : List (Int × Int × Int)) (w : World) (hk : inB k 0 9 = true) (hlen : L.length ≤ 100000) (h : Ref P w base R last lv L) :
    Calls Tryz.prog 135 #[.pointer (some ⟨R, 0, none⟩), .int .i64 k, .int .i64 t] w fun e w' =>
      e = .returned (.tuple #[.agg #[.int .i64 ((best k t L).getD (0, 0)).1, .int .i64 ((best k t L).getD (0, 0)).2], .int .i64 (errOf (best k t L))]) ∧ Below w.heap.size w w' := by
  rcases h.slice with ⟨rfl, rfl⟩ | ⟨g, cap, rfl, _⟩
  · exact refRead_nil base R k t last w hk h
  · exact refRead_walk base R g cap k t last L w hk hlen h
end Go.Proofs.YtjefgmeejhakbaaGreatDoor
