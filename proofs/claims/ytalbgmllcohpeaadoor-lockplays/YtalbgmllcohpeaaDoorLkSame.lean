/- law.same and law.sameWrites: two rows that hold the same. Two tables side by side. -/
import Derived.Test.YtalbgmllcohpeaaDoorLrDrop
import Derived.Test.YtalbgmllcohpeaaDoorLkMoves
import Derived.Test.YtalbgmllcohpeaaDoorPlace
namespace Go.Proofs.YtalbgmllcohpeaaDoor
open Go.RowKit

set_option maxRecDepth 100000 in
set_option maxHeartbeats 1000000 in
theorem same_nil (a b : Option Addr) (c d : Nat) (w : World) : Calls Tryd.prog 17 #[.slice a 0 c, .slice b 0 d] w fun e w' => e = .returned (.bool true) ∧ w' = w := by
  go_enter Tryd.func17, Tryd.ntmps17
  go_wp2
  go_loop [5] (fun i => i = .int .i64 0) (fun _ => 0)
  case atStart => rfl
  case round =>
    subst hrel
    go_wp2
    go_ret
    exact ⟨rfl, rfl⟩

set_option maxRecDepth 100000 in
set_option maxHeartbeats 2000000 in
theorem same_walk (g o g' o' c d : Nat) (l : List Int) (w : World) (hn : l.length ≤ 1000000) (h1 : ∀ (j : Nat) (x : Int), l[j]? = some x → w.cell? ⟨g, o + j, none⟩ = some (.int .i64 x)) (h2 : ∀ (j : Nat) (x : Int), l[j]? = some x → w.cell? ⟨g', o' + j, none⟩ = some (.int .i64 x)) :
    Calls Tryd.prog 17 #[.slice (some ⟨g, o, none⟩) l.length c, .slice (some ⟨g', o', none⟩) l.length d] w fun e w' => e = .returned (.bool true) ∧ Below w.heap.size w w' := by
  have H1 := hid h1
  have H2 := hid h2
  clear h1 h2
  go_enter Tryd.func17, Tryd.ntmps17
  go_wp2
  go_loopw [5] (fun i wr => ∃ j : Nat, j ≤ l.length ∧ i = .int .i64 j ∧ ∃ q, wr = w.drewN q) (fun i _ => l.length - (intOf i).toNat)
  case atStart => exact ⟨0, Nat.zero_le _, rfl, 0, rfl⟩
  case round =>
    obtain ⟨j, hj, rfl, q, rfl⟩ := hrel
    by_cases hlt : j < l.length
    · obtain ⟨x, hx⟩ : ∃ x, l[j]? = some x := ⟨l[j], List.getElem?_eq_getElem hlt⟩
      have c1 := H1.out j x hx
      have c2 := H2.out j x hx
      have hj0 : (0 : Int) ≤ (j : Int) := by omega
      have hj1 : (j : Int) < (l.length : Int) := by omega
      clear hx
      go_wp2
      go_quiet (fail)
      go_wp2
      go_roundw
      case rel => exact ⟨j + 1, by omega, by go_num, _, rfl⟩
      case measure => simp [intOf]; omega
    · go_wp2
      go_ret
      exact ⟨rfl, below_drewN (Below.refl _ _) _⟩

theorem same_true (u v : Value) (l : List Int) (w : World) (hn : l.length ≤ 1000000) (h1 : LineAt w u l) (h2 : LineAt w v l) :
    Calls Tryd.prog 17 #[u, v] w fun e w' => e = .returned (.bool true) ∧ Below w.heap.size w w' := by
  obtain ⟨ad, c, rfl, h1⟩ := h1
  obtain ⟨ad', c', rfl, h2⟩ := h2
  by_cases hl : l = []
  · subst hl
    refine (same_nil ad ad' c c' w).mono ?_
    rintro e w' ⟨rfl, rfl⟩
    exact ⟨rfl, Below.refl _ _⟩
  · obtain ⟨g, o, rfl, _, hc⟩ := h1 hl
    obtain ⟨g', o', rfl, _, hc'⟩ := h2 hl
    exact same_walk g o g' o' c c' l w hn hc hc'

set_option maxRecDepth 100000 in
set_option maxHeartbeats 1000000 in
theorem sameW_nil (a b : Option Addr) (c d : Nat) (w : World) : Calls Tryd.prog 20 #[.slice a 0 c, .slice b 0 d] w fun e w' => e = .returned (.bool true) ∧ w' = w := by
  go_enter Tryd.func20, Tryd.ntmps20
  go_wp2
  go_loop [5] (fun i => i = .int .i64 0) (fun _ => 0)
  case atStart => rfl
  case round =>
    subst hrel
    go_wp2
    go_ret
    exact ⟨rfl, rfl⟩

/-- Pairs in a row of cells. -/
def PRow (w : World) (g : Nat) (l : List (Int × Int)) : Prop := ∀ (j : Nat) (a v : Int), l[j]? = some (a, v) → w.cell? ⟨g, j * 2, none⟩ = some (.int .i64 a) ∧ w.cell? ⟨g, j * 2 + 1, none⟩ = some (.int .i64 v)

set_option maxRecDepth 100000 in
set_option maxHeartbeats 2000000 in
theorem sameW_walk (g h c d : Nat) (l : List (Int × Int)) (w : World) (hn : l.length ≤ 1000000) (h1 : PRow w g l) (h2 : PRow w h l) :
    Calls Tryd.prog 20 #[.slice (some ⟨g, 0, none⟩) l.length c, .slice (some ⟨h, 0, none⟩) l.length d] w fun e w' => e = .returned (.bool true) ∧ Below w.heap.size w w' := by
  have H1 := hid h1
  have H2 := hid h2
  clear h1 h2
  go_enter Tryd.func20, Tryd.ntmps20
  go_wp2
  go_loopw [5] (fun i wr => ∃ j : Nat, j ≤ l.length ∧ i = .int .i64 j ∧ ∃ q, wr = w.drewN q) (fun i _ => l.length - (intOf i).toNat)
  case atStart => exact ⟨0, Nat.zero_le _, rfl, 0, rfl⟩
  case round =>
    obtain ⟨j, hj, rfl, q, rfl⟩ := hrel
    by_cases hlt : j < l.length
    · obtain ⟨⟨x, y⟩, hx⟩ : ∃ x, l[j]? = some x := ⟨l[j], List.getElem?_eq_getElem hlt⟩
      obtain ⟨c1, c2⟩ := H1.out j x y hx
      obtain ⟨c3, c4⟩ := H2.out j x y hx
      have hj0 : (0 : Int) ≤ (j : Int) := by omega
      have hj1 : (j : Int) < (l.length : Int) := by omega
      clear hx
      go_wp2
      go_quiet (fail)
      go_wp2
      go_roundw
      case rel => exact ⟨j + 1, by omega, by go_num, _, rfl⟩
      case measure => simp [intOf]; omega
    · go_wp2
      go_ret
      exact ⟨rfl, below_drewN (Below.refl _ _) _⟩

theorem sameW_true (base base' : Nat) (tv uv : Value) (l : List (Int × Int)) (w : World) (hn : l.length ≤ 1000000) (h1 : w.ownsRow base 64 2 tv l.length (vrow l)) (h2 : w.ownsRow base' 64 2 uv l.length (vrow l)) :
    Calls Tryd.prog 20 #[tv, uv] w fun e w' => e = .returned (.bool true) ∧ Below w.heap.size w w' := by
  have hz : ∀ {x y : Option Addr} {c d : Nat}, Calls Tryd.prog 20 #[.slice x 0 c, .slice y 0 d] w fun e w' => e = .returned (.bool true) ∧ Below w.heap.size w w' := fun {x y c d} =>
    (sameW_nil x y c d w).mono (by rintro e w' ⟨rfl, rfl⟩; exact ⟨rfl, Below.refl _ _⟩)
  have hi : ∀ {g : Nat}, (∀ (j : Nat) (u : Value), (vrow l)[j]? = some u → w.cell? ⟨g, j, none⟩ = some u) → PRow w g l := fun h j a x hx => by
    have := vrow_get l j a x hx
    exact ⟨h _ _ this.1, h _ _ this.2⟩
  rcases row_slice h1 with ⟨rfl, e0⟩ | ⟨g, c, rfl, _, hc⟩
  · rcases row_slice h2 with ⟨rfl, _⟩ | ⟨g', c', rfl, _, hc'⟩
    · exact hz
    · rw [e0]; exact hz
  · rcases row_slice h2 with ⟨rfl, e0⟩ | ⟨g', c', rfl, _, hc'⟩
    · rw [e0]; exact hz
    · exact sameW_walk g g' c c' l w hn (hi hc) (hi hc')

/-- The program's table and the document's, side by side. -/
structure Bth (w0 w : World) (base s r N : Nat) (M : LkM) (vs : List Value) (TA TB : Tab) : Prop where
  a : TabAt w s N M TA
  b : RTab w base r vs TB
  ap : ∀ g, ROwn r vs g → ¬ M.own s g
  lo : ∀ g, M.own s g → w0.heap.size ≤ g
  rlo : w0.heap.size ≤ r
  hb : base ≤ w.heap.size
  below : Below w0.heap.size w0 w

section
variable {w0 w w' : World} {base s r N N' : Nat} {M M' : LkM} {vs vs' : List Value} {TA TB TA' TB' : Tab}
theorem Bth.later (h : Bth w0 w base s r N M vs TA TB) (hB : Below w.heap.size w w') : Bth w0 w' base s r N M vs TA TB :=
  ⟨h.a.below hB, h.b.below hB, h.ap, h.lo, h.rlo, Nat.le_trans h.hb hB.size, h.below.trans (hB.mono h.below.size)⟩
theorem Bth.mono (h : Bth w0 w base s r N M vs TA TB) (hN : N ≤ N') : Bth w0 w base s r N' M vs TA TB := ⟨h.a.mono hN, h.b, h.ap, h.lo, h.rlo, h.hb, h.below⟩
theorem Bth.left (h : Bth w0 w base s r N M vs TA TB) (hT : TabAt w' s N' M' TA') (hK : KeptO (M.own s) (M'.own s) w w') : Bth w0 w' base s r N' M' vs TA' TB := by
  refine ⟨hT, h.b.same (fun g hg => hK.block g (h.b.own_lt hg) (h.ap g hg)), fun g hg hm => ?_, fun g hg => ?_, h.rlo, Nat.le_trans h.hb hK.size, h.below.trans (hK.below h.below.size h.lo)⟩
  · rcases hK.sub g hm with e | e
    · exact h.ap g hg e
    · have := h.b.own_lt hg; omega
  · rcases hK.sub g hg with e | e
    · exact h.lo g e
    · have := h.below.size; omega
theorem Bth.right (h : Bth w0 w base s r N M vs TA TB) (hR : RTab w' base r vs' TB') (hK : KeptR r vs vs' w w') : Bth w0 w' base s r N M vs' TA TB' := by
  refine ⟨h.a.same (fun g hg => hK.block g (h.a.own_lt hg) (fun e => h.ap r (.inl rfl) (by rw [← e]; exact hg))), hR, fun g hg hm => ?_, h.lo, h.rlo, Nat.le_trans h.hb hK.size, h.below.trans (hK.below h.below.size h.rlo)⟩
  rcases hK.sub g hg with e | e
  · exact h.ap g e hm
  · have := h.a.own_lt hm; omega
theorem Bth.len (h : Bth w0 w base s r N M vs TA TB) (k : Int) : (TA k).length ≤ N + 1 := by
  have := h.a.len k
  cases hT : TA k with
  | nil => simp
  | cons a l => rw [hT] at this; simp at this ⊢; omega
end

theorem errV_is (w : World) (c : Int) : ErrIs w (errV c) c (-1) := by
  unfold errV
  by_cases h : c = 0
  · rw [if_pos h]; exact .inl ⟨rfl, h, rfl⟩
  · rw [if_neg h]; exact .inr (.inl ⟨rfl, rfl⟩)

end Go.Proofs.YtalbgmllcohpeaaDoor
