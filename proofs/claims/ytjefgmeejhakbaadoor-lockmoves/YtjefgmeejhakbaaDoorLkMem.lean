/- How a lock.Table lies in memory: its block, its three maps, and of each line a row of its own. -/
import Derived.Test.YtjefgmeejhakbaaDoorKept
namespace Go.Proofs.YtjefgmeejhakbaaDoor
open Go.RowKit

/-- Where the maps lie, and what the map of lines holds. -/
structure LkM where
  mh : Option Nat
  mw : Option Nat
  ml : Option Nat
  lv : Int → Option Value
/-- Block b is one of the table's. -/
def LkM.own (M : LkM) (s b : Nat) : Prop := b = s ∨ M.mh = some b ∨ M.mw = some b ∨ M.ml = some b ∨ ∃ k v, M.lv k = some v ∧ v.ownBlock = some b

/-- The table at block s: who holds a key, who waits for which, and the lines. -/
structure Raw (w : World) (s N : Nat) (M : LkM) (h wa : Int → Option Int) (ln : Int → List Int) : Prop where
  blk : w.heap[s]? = some (.cells #[.map M.mh, .map M.mw, .map M.ml] 71 (0, 0))
  mh : MapIs w M.mh N (fun k => (h k).map (Value.int .i64))
  mw : MapIs w M.mw N (fun x => (wa x).map (Value.int .i64))
  ml : MapIs w M.ml N M.lv
  ln0 : ∀ k, ln k = [] → M.lv k = none
  ln1 : ∀ k, ln k ≠ [] → ∃ v, M.lv k = some v ∧ w.ownsRow 0 3 1 v (ln k).length (intsV (ln k))
  ap : ∀ i j v u g, M.lv i = some v → M.lv j = some u → v.ownBlock = some g → u.ownBlock = some g → i = j
  d1 : ∀ b, M.mh = some b → M.mw ≠ some b ∧ M.ml ≠ some b
  d2 : ∀ b, M.mw = some b → M.ml ≠ some b
  both : M.mw = none ↔ M.ml = none
  len : ∀ k, (ln k).length ≤ N

section
variable {w w' : World} {s N : Nat} {M : LkM} {h wa : Int → Option Int} {ln : Int → List Int}
theorem Raw.lt (r : Raw w s N M h wa ln) : s < w.heap.size := (Array.getElem?_eq_some_iff.1 r.blk).1
/-- A line's row. -/
theorem Raw.row (r : Raw w s N M h wa ln) {k : Int} {v : Value} (hv : M.lv k = some v) : ln k ≠ [] ∧ w.ownsRow 0 3 1 v (ln k).length (intsV (ln k)) := by
  by_cases e : ln k = []
  · rw [r.ln0 k e] at hv; cases hv
  · obtain ⟨u, hu, ho⟩ := r.ln1 k e
    rw [hv] at hu
    cases hu
    exact ⟨e, ho⟩
theorem Raw.rowIs (r : Raw w s N M h wa ln) {k : Int} {v : Value} {g : Nat} (hv : M.lv k = some v) (hg : v.ownBlock = some g) : ∃ cur, w.heap[g]? = some (.cells cur 3 (0, 0)) := by
  rcases (r.row hv).2.2 with ⟨e, _⟩ | ⟨g', cap, cur, e, _, hc, _⟩
  · rw [e] at hg; cases hg
  · rw [e] at hg; cases hg; exact ⟨cur, hc⟩
theorem Raw.row_ne (r : Raw w s N M h wa ln) {k : Int} {v : Value} {g : Nat} (hv : M.lv k = some v) (hg : v.ownBlock = some g) : g ≠ s ∧ M.mh ≠ some g ∧ M.mw ≠ some g ∧ M.ml ≠ some g := by
  obtain ⟨cur, hc⟩ := r.rowIs hv hg
  refine ⟨?_, r.mh.ne hc, r.mw.ne hc, r.ml.ne hc⟩
  rintro rfl
  rw [r.blk] at hc
  simp at hc
theorem Raw.map_ne (r : Raw w s N M h wa ln) : M.mh ≠ some s ∧ M.mw ≠ some s ∧ M.ml ≠ some s := ⟨r.mh.ne r.blk, r.mw.ne r.blk, r.ml.ne r.blk⟩
theorem Raw.own_lt (r : Raw w s N M h wa ln) {b : Nat} (hb : M.own s b) : b < w.heap.size := by
  rcases hb with rfl | e | e | e | ⟨k, v, hv, hg⟩
  · exact r.lt
  · exact r.mh.lt e
  · exact r.mw.lt e
  · exact r.ml.lt e
  · obtain ⟨cur, hc⟩ := r.rowIs hv hg
    exact (Array.getElem?_eq_some_iff.1 hc).1
/-- A table whose blocks all lie as they lay is what it was. -/
theorem Raw.same (r : Raw w s N M h wa ln) (hs : ∀ b, M.own s b → w'.heap[b]? = w.heap[b]?) : Raw w' s N M h wa ln :=
  ⟨(hs s (.inl rfl)).trans r.blk, r.mh.same (fun b e => hs b (.inr (.inl e))), r.mw.same (fun b e => hs b (.inr (.inr (.inl e)))), r.ml.same (fun b e => hs b (.inr (.inr (.inr (.inl e))))), r.ln0,
    fun k hk => by
      obtain ⟨v, hv, ho⟩ := r.ln1 k hk
      exact ⟨v, hv, owns_same ho (fun g hg => hs g (.inr (.inr (.inr (.inr ⟨k, v, hv, hg⟩)))))⟩, r.ap, r.d1, r.d2, r.both, r.len⟩
theorem Raw.below (r : Raw w s N M h wa ln) (hB : Below w.heap.size w w') : Raw w' s N M h wa ln := r.same (fun b hb => hB.block b (r.own_lt hb))
theorem Raw.mono (r : Raw w s N M h wa ln) {N' : Nat} (hN : N ≤ N') : Raw w s N' M h wa ln :=
  ⟨r.blk, r.mh.mono hN, r.mw.mono hN, r.ml.mono hN, r.ln0, r.ln1, r.ap, r.d1, r.d2, r.both, fun k => Nat.le_trans (r.len k) hN⟩

theorem Raw.c0 (r : Raw w s N M h wa ln) : w.cell? ⟨s, 0, none⟩ = some (.map M.mh) := (cell_of_row w s 0 _ 71 (0, 0) r.blk).trans rfl
theorem Raw.c1 (r : Raw w s N M h wa ln) : w.cell? ⟨s, 1, none⟩ = some (.map M.mw) := (cell_of_row w s 1 _ 71 (0, 0) r.blk).trans rfl
theorem Raw.c2 (r : Raw w s N M h wa ln) : w.cell? ⟨s, 2, none⟩ = some (.map M.ml) := (cell_of_row w s 2 _ 71 (0, 0) r.blk).trans rfl
theorem Raw.free (r : Raw w s N M h wa ln) (o : Nat) : w.frozen? ⟨s, o, none⟩ = false := by simp [World.frozen?, r.blk]
end

/-- A table's zero value. -/
def noM : LkM := ⟨none, none, none, fun _ => none⟩
theorem Raw.zero (w : World) : Raw (w.alloc (.cells #[.map none, .map none, .map none] 71)) w.heap.size 0 noM (fun _ => none) (fun _ => none) (fun _ => []) :=
  ⟨heap_alloc_new w _, .inl ⟨rfl, fun _ => rfl⟩, .inl ⟨rfl, fun _ => rfl⟩, .inl ⟨rfl, fun _ => rfl⟩, fun _ _ => rfl, fun k hk => (hk rfl).elim, (fun _ _ _ _ _ h => by cases h), (fun _ h => by cases h), (fun _ h => by cases h), ⟨fun _ => rfl, fun _ => rfl⟩, fun _ => Nat.zero_le _⟩

end Go.Proofs.YtjefgmeejhakbaaDoor
