/- (*Table).hold. -/
import Derived.Test.YtjefgmeejhakbaaDoorLkSmall
namespace Go.Proofs.YtjefgmeejhakbaaDoor
open Go.RowKit

section
variable {w w1 : World} {s N : Nat} {M : LkM} {h wa : Int → Option Int} {ln : Int → List Int}
/-- The map of holders has turned. -/
theorem Raw.turnH (r : Raw w s N M h wa ln) {b N' : Nat} {h' : Int → Option Int} (hb : M.mh = some b) (hN : N ≤ N') (hI : IMap w1 b N' (fun k => (h' k).map (Value.int .i64))) (hg : w.grownBy w1 (some b)) :
    Raw w1 s N' M h' wa ln ∧ KeptO (M.own s) (M.own s) w w1 := by
  have hk : ∀ i, i < w.heap.size → i ≠ b → w1.heap[i]? = w.heap[i]? := fun i hi hne => hg.block i hi (fun e => hne (by cases e; rfl))
  have hsb : s ≠ b := fun e => r.map_ne.1 (by rw [hb, e])
  refine ⟨⟨(hk s r.lt hsb).trans r.blk, .inr ⟨b, hb, hI⟩, (r.mw.same (fun b' e => hk b' (r.mw.lt e) (fun e2 => ?_))).mono hN, (r.ml.same (fun b' e => hk b' (r.ml.lt e) (fun e2 => ?_))).mono hN, r.ln0, fun k hkn => ?_, r.ap, r.d1, r.d2, r.both, fun k => Nat.le_trans (r.len k) hN⟩, ?_⟩
  · subst e2; exact (r.d1 _ hb).1 e
  · subst e2; exact (r.d1 _ hb).2 e
  · obtain ⟨v, hv, ho⟩ := r.ln1 k hkn
    refine ⟨v, hv, owns_same ho (fun g hgv => hk g ?_ ?_)⟩
    · obtain ⟨cur, hc⟩ := r.rowIs hv hgv
      exact (Array.getElem?_eq_some_iff.1 hc).1
    · rintro rfl; exact (r.row_ne hv hgv).2.1 hb
  · exact ⟨hg.os, hg.tape, hg.output, hg.size, fun i hi hn => hk i hi (fun e => hn (by subst e; exact .inr (.inl hb))), fun g hg => .inl hg⟩
/-- A new map of holders. -/
theorem Raw.newH (r : Raw w s N M h wa ln) (hm : M.mh = none) :
    Raw ((w.setCell ⟨s, 0, none⟩ (.map (some w.heap.size))).alloc (.map #[] 0)) s N { M with mh := some w.heap.size } h wa ln ∧
      KeptO (M.own s) (({ M with mh := some w.heap.size } : LkM).own s) w ((w.setCell ⟨s, 0, none⟩ (.map (some w.heap.size))).alloc (.map #[] 0)) := by
  have hsz : (w.setCell ⟨s, 0, none⟩ (.map (some w.heap.size))).heap.size = w.heap.size := by simp
  have hk : ∀ i, i < w.heap.size → i ≠ s → ((w.setCell ⟨s, 0, none⟩ (.map (some w.heap.size))).alloc (.map #[] 0)).heap[i]? = w.heap[i]? := fun i hi hne =>
    (Below.heap_alloc _ _ i (by simpa using hi)).trans (heap_setCell_other w ⟨s, 0, none⟩ i _ hne)
  have hh : ∀ k, h k = none := by
    rcases r.mh with ⟨_, e⟩ | ⟨b, e, _⟩
    · intro k; have := e k; simpa using this
    · rw [hm] at e; cases e
  refine ⟨⟨?_, .inr ⟨w.heap.size, rfl, ?_⟩, r.mw.same (fun b e => hk b (r.mw.lt e) (fun e2 => r.map_ne.2.1 (by rw [e, e2]))), r.ml.same (fun b e => hk b (r.ml.lt e) (fun e2 => r.map_ne.2.2 (by rw [e, e2]))), r.ln0, fun k hkn => ?_, r.ap, ?_, r.d2, r.both, r.len⟩, ?_⟩
  · refine (Below.heap_alloc _ _ s (by simpa using r.lt)).trans ((heap_setCell_same w s 0 _ 71 _ r.blk).trans ?_)
    rfl
  · have := IMap.made (w.setCell ⟨s, 0, none⟩ (.map (some w.heap.size)))
    rw [hsz] at this
    have e : (fun k => (h k).map (Value.int .i64)) = fun _ => none := by funext k; rw [hh k]; rfl
    rw [e]
    exact this.mono (Nat.zero_le _)
  · obtain ⟨v, hv, ho⟩ := r.ln1 k hkn
    refine ⟨v, hv, owns_same ho (fun g hgv => hk g ?_ (r.row_ne hv hgv).1)⟩
    obtain ⟨cur, hc⟩ := r.rowIs hv hgv
    exact (Array.getElem?_eq_some_iff.1 hc).1
  · intro b e
    cases e
    exact ⟨fun e => by have := r.mw.lt e; omega, fun e => by have := r.ml.lt e; omega⟩
  · refine ⟨rfl, rfl, rfl, by simp, fun i hi hn => hk i hi (fun e => hn (.inl e)), fun g hg => ?_⟩
    rcases hg with e | e | e | e | e
    · exact .inl (.inl e)
    · cases e; exact .inr (Nat.le_refl _)
    · exact .inl (.inr (.inr (.inl e)))
    · exact .inl (.inr (.inr (.inr (.inl e))))
    · exact .inl (.inr (.inr (.inr (.inr e))))
end

set_option maxRecDepth 100000 in
set_option maxHeartbeats 1000000 in
theorem hold_any (s N : Nat) (M : LkM) (h wa : Int → Option Int) (ln : Int → List Int) (tx k : Int) (w : World) (r : Raw w s N M h wa ln) (hk : I64 k) (hN : N ≤ 1000000) :
    Calls Tryd.prog 54 #[.pointer (some ⟨s, 0, none⟩), .int .i64 tx, .int .i64 k] w fun e w' => e = .returned (.tuple #[]) ∧ ∃ M', Raw w' s (N + 1) M' (updT h k (some tx)) wa ln ∧ KeptO (M.own s) (M'.own s) w w' := by
  cases hm : M.mh with
  | some b =>
    have c0 := r.c0
    have he := eqlSome
    obtain ⟨w1, hrun, hI, hg⟩ : ∃ w', _ := (MapIs.at (show MapIs w (some b) N _ from hm ▸ r.mh)).store Tryd.underlying68 (by unfold maxLen; omega) hk (.int .i64 tx)
    rw [hm] at c0
    have hF := hid (r.turnH (h' := updT h k (some tx)) hm (Nat.le_succ N) (by rw [updT_map]; exact hI) hg)
    clear r hI hg hm
    go_enter Tryd.func54, Tryd.ntmps54
    go_wp2
    refine bodyPost_end (results_none rfl _ _ _) rfl ?_
    exact ⟨rfl, M, hF.out⟩
  | none =>
    have c0 := r.c0
    have he := eqlNil
    have f0 := r.free 0
    have hs := r.lt
    rw [hm] at c0
    obtain ⟨r1, k1⟩ := r.newH hm
    obtain ⟨w1, hrun, hI, hg⟩ : ∃ w', _ := (MapIs.at (show MapIs _ (some w.heap.size) N _ from r1.mh)).store Tryd.underlying68 (by unfold maxLen; omega) hk (.int .i64 tx)
    have hF := hid (r1.turnH (h' := updT h k (some tx)) rfl (Nat.le_succ N) (by rw [updT_map]; exact hI) hg)
    have hK := hid k1
    have hmm := @run_makeMap Tryd.prog
    clear r r1 hI hg k1 hm
    go_enter Tryd.func54, Tryd.ntmps54
    go_wp2
    refine bodyPost_end (results_none rfl _ _ _) rfl ?_
    exact ⟨rfl, _, hF.out.1, hK.out.trans hF.out.2⟩

end Go.Proofs.YtjefgmeejhakbaaDoor
