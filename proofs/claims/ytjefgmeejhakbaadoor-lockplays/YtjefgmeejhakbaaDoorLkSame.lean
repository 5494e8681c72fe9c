/- Two tables side by side. -/
import Derived.Test.YtjefgmeejhakbaaDoorLrDrop
import Derived.Test.YtjefgmeejhakbaaDoorLkMoves
import Derived.Test.YtjefgmeejhakbaaDoorPlaceBare
namespace Go.Proofs.YtjefgmeejhakbaaDoor
open Go.RowKit

/-- The program's table and the document's, side by side. -/
structure Bth (w0 w : World) (base s r N : Nat) (M : LkM) (vs : List Value) (TA TB : Tab) : Prop where
  a : TabAt w s N M TA
  b : RTab w base r vs TB
  ap : ∀ g, ROwn r vs g → ¬ M.own s g
  lo : ∀ g, M.own s g → w0.heap.size ≤ g
  rlo : w0.heap.size ≤ r
  hb : base ≤ w.heap.size
  below : Below w0.heap.size w0 w

section
variable {w0 w w' : World} {base s r N N' : Nat} {M M' : LkM} {vs vs' : List Value} {TA TB TA' TB' : Tab}
theorem Bth.later (h : Bth w0 w base s r N M vs TA TB) (hB : Below w.heap.size w w') : Bth w0 w' base s r N M vs TA TB :=
  ⟨h.a.below hB, h.b.below hB, h.ap, h.lo, h.rlo, Nat.le_trans h.hb hB.size, h.below.trans (hB.mono h.below.size)⟩
theorem Bth.mono (h : Bth w0 w base s r N M vs TA TB) (hN : N ≤ N') : Bth w0 w base s r N' M vs TA TB := ⟨h.a.mono hN, h.b, h.ap, h.lo, h.rlo, h.hb, h.below⟩
theorem Bth.left (h : Bth w0 w base s r N M vs TA TB) (hT : TabAt w' s N' M' TA') (hK : KeptO (M.own s) (M'.own s) w w') : Bth w0 w' base s r N' M' vs TA' TB := by
  refine ⟨hT, h.b.same (fun g hg => hK.block g (h.b.own_lt hg) (h.ap g hg)), fun g hg hm => ?_, fun g hg => ?_, h.rlo, Nat.le_trans h.hb hK.size, h.below.trans (hK.below h.below.size h.lo)⟩
  · rcases hK.sub g hm with e | e
    · exact h.ap g hg e
    · have := h.b.own_lt hg; omega
  · rcases hK.sub g hg with e | e
    · exact h.lo g e
    · have := h.below.size; omega
theorem Bth.right (h : Bth w0 w base s r N M vs TA TB) (hR : RTab w' base r vs' TB') (hK : KeptR r vs vs' w w') : Bth w0 w' base s r N M vs' TA TB' := by
  refine ⟨h.a.same (fun g hg => hK.block g (h.a.own_lt hg) (fun e => h.ap r (.inl rfl) (by rw [← e]; exact hg))), hR, fun g hg hm => ?_, h.lo, h.rlo, Nat.le_trans h.hb hK.size, h.below.trans (hK.below h.below.size h.rlo)⟩
  rcases hK.sub g hg with e | e
  · exact h.ap g e hm
  · have := h.a.own_lt hm; omega
theorem Bth.len (h : Bth w0 w base s r N M vs TA TB) (k : Int) : (TA k).length ≤ N + 1 := by
  have := h.a.len k
  cases hT : TA k with
  | nil => simp
  | cons a l => rw [hT] at this; simp at this ⊢; omega
end

theorem errV_is (w : World) (c : Int) : ErrIs w (errV c) c (-1) := by
  unfold errV
  by_cases h : c = 0
  · rw [if_pos h]; exact .inl ⟨rfl, h, rfl⟩
  · rw [if_neg h]; exact .inr (.inl ⟨rfl, rfl⟩)

end Go.Proofs.YtjefgmeejhakbaaDoor
