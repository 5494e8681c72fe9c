/- law.same and law.sameWrites: two rows that hold the same. -/
import Derived.Test.YtjefgmeejhakbaaGreatDoorLkBaseR
namespace Go.Proofs.YtjefgmeejhakbaaGreatDoor
open Go.RowKit
def LineAt (w : World) (v : Value) (l : List Int) : Prop := ∃ ad cap, v = .slice ad l.length cap ∧ (l ≠ [] → ∃ g off, ad = some ⟨g, off, none⟩ ∧ g < w.heap.size ∧ ∀ (j : Nat) (x : Int), l[j]? = some x → w.cell? ⟨g, off + j, none⟩ = some (.int .i64 x))
theorem LineAt.below {w w' : World} {v : Value} {l : List Int} (h : LineAt w v l) (hB : Below w.heap.size w w') : LineAt w' v l := by
  obtain ⟨ad, cap, e, h⟩ := h
  refine ⟨ad, cap, e, fun hl => ?_⟩
  obtain ⟨g, off, e2, hg, hc⟩ := h hl
  exact ⟨g, off, e2, Nat.lt_of_lt_of_le hg hB.size, fun j x hx => (hB.cell (p := ⟨g, off + j, none⟩) hg).trans (hc j x hx)⟩
theorem LineAt.of_row {w : World} {base : Nat} {v : Value} {l : List Int} (h : w.ownsRow base 3 1 v l.length (intsV l)) : LineAt w v l := by
  rcases row_slice h with ⟨e, e0⟩ | ⟨g, c, e, hg, hc⟩
  · have : l = [] := List.eq_nil_of_length_eq_zero e0
    subst this
    exact ⟨none, 0, e, fun hl => (hl rfl).elim⟩
  · exact ⟨_, c, e, fun _ => ⟨g, 0, rfl, hg, fun j x hx => by rw [Nat.zero_add]; exact hc j _ (intsV_get hx)⟩⟩
set_option maxRecDepth 100000 in
set_option maxHeartbeats 1000000 in
theorem same_nil (a b : Option Addr) (c d : Nat) (w : World) : Calls Tryz.prog 16 #[.slice a 0 c, .slice b 0 d] w fun e w' => e = .returned (.bool true) ∧ w' = w := by
  go_enter Tryz.func16, Tryz.ntmps16
  go_wp2
  go_loop [5] (fun i => i = .int .i64 0) (fun _ => 0)
  case atStart => rfl
  case round =>
    subst hrel
    go_wp2
    go_ret
    exact ⟨rfl, rfl⟩
set_option maxRecDepth 100000 in
set_option maxHeartbeats 2000000 in
theorem same_walk (g o g' o' c d : Nat) (l : List Int) (w : World) (hn : l.length ≤ 1000000) (h1 : ∀ (j : Nat) (x : Int), l[j]? = some x → w.cell? ⟨g, o + j, none⟩ = some (.int .i64 x)) (h2 : ∀ (j : Nat) (x : Int), l[j]? = some x → w.cell? ⟨g', o' + j, none⟩ = some (.int .i64 x)) :
    Calls Tryz.prog 16 #[.slice (some ⟨g, o, none⟩) l.length c, .slice (some ⟨g', o', none⟩) l.length d] w fun e w' => e = .returned (.bool true) ∧ Below w.heap.size w w' := by
  have H1 := hid h1
  have H2 := hid h2
  clear h1 h2
  go_enter Tryz.func16, Tryz.ntmps16
  go_wp2
  go_loopw [5] (fun i wr => ∃ j : Nat, j ≤ l.length ∧ i = .int .i64 j ∧ ∃ q, wr = w.drewN q) (fun i _ => l.length - (intOf i).toNat)
  case atStart => exact ⟨0, Nat.zero_le _, rfl, 0, rfl⟩
  case round =>
    obtain ⟨j, hj, rfl, q, rfl⟩ := hrel
    by_cases hlt : j < l.length
    · obtain ⟨x, hx⟩ : ∃ x, l[j]? = some x := ⟨l[j], List.getElem?_eq_getElem hlt⟩
      have c1 := H1.out j x hx
      have c2 := H2.out j x hx
      have hj0 : (0 : Int) ≤ (j : Int) := by omega
      have hj1 : (j : Int) < (l.length : Int) := by omega
      clear hx
      go_wp2
      go_quiet (fail)
      go_wp2
      go_roundw
      case rel => exact ⟨j + 1, by omega, by go_num, _, rfl⟩
      case measure => simp [intOf]; omega
    · go_wp2
      go_ret
      exact ⟨rfl, below_drewN (Below.refl _ _) _⟩
theorem same_true (u v : Value) (l : List Int) (w : World) (hn : l.length ≤ 1000000) (h1 : LineAt w u l) (h2 : LineAt w v l) :
    Calls Tryz.prog 16 #[u, v] w fun e w' => e = .returned (.bool true) ∧ Below w.heap.size w w' := by
  obtain ⟨ad, c, rfl, h1⟩ := h1
  obtain ⟨ad', c', rfl, h2⟩ := h2
  by_cases hl : l = []
  · subst hl
    refine (same_nil ad ad' c c' w).mono ?_
    rintro e w' ⟨rfl, rfl⟩
    exact ⟨rfl, Below.refl _ _⟩
  · obtain ⟨g, o, rfl, _, hc⟩ := h1 hl
    obtain ⟨g', o', rfl, _, hc'⟩ := h2 hl
    exact same_walk g o g' o' c c' l w hn hc hc'
set_option maxRecDepth 100000 in
set_option maxHeartbeats 1000000 in
theorem sameW_nil (a b : Option Addr) (c d : Nat) (w : World) : Calls Tryz.prog 15 #[.slice a 0 c, .slice b 0 d] w fun e w' => e = .returned (.bool true) ∧ w' = w := by
  go_enter Tryz.func15, Tryz.ntmps15
  go_wp2
  go_loop [5] (fun i => i = .int .i64 0) (fun _ => 0)
  case atStart => rfl
  case round =>
    subst hrel
    go_wp2
    go_ret
    exact ⟨rfl, rfl⟩
def PRow (w : World) (g : Nat) (l : List (Int × Int)) : Prop := ∀ (j : Nat) (a v : Int), l[j]? = some (a, v) → w.cell? ⟨g, j * 2, none⟩ = some (.int .i64 a) ∧ w.cell? ⟨g, j * 2 + 1, none⟩ = some (.int .i64 v)
set_option maxRecDepth 100000 in
set_option maxHeartbeats 2000000 in
theorem sameW_walk (g h c d : Nat) (l : List (Int × Int)) (w : World) (hn : l.length ≤ 1000000) (h1 : PRow w g l) (h2 : PRow w h l) :
    Calls Tryz.prog 15 #[.slice (some ⟨g, 0, none⟩) l.length c, .slice (some ⟨h, 0, none⟩) l.length d] w fun e w' => e = .returned (.bool true) ∧ Below w.heap.size w w' := by
  have H1 := hid h1
  have H2 := hid h2
  clear h1 h2
  go_enter Tryz.func15, Tryz.ntmps15
  go_wp2
  go_loopw [5] (fun i wr => ∃ j : Nat, j ≤ l.length ∧ i = .int .i64 j ∧ ∃ q, wr = w.drewN q) (fun i _ => l.length - (intOf i).toNat)
  case atStart => exact ⟨0, Nat.zero_le _, rfl, 0, rfl⟩
  case round =>
    obtain ⟨j, hj, rfl, q, rfl⟩ := hrel
    by_cases hlt : j < l.length
    · obtain ⟨⟨x, y⟩, hx⟩ : ∃ x, l[j]? = some x := ⟨l[j], List.getElem?_eq_getElem hlt⟩
      obtain ⟨c1, c2⟩ := H1.out j x y hx
      obtain ⟨c3, c4⟩ := H2.out j x y hx
      have hj0 : (0 : Int) ≤ (j : Int) := by omega
      have hj1 : (j : Int) < (l.length : Int) := by omega
      clear hx
      go_wp2
      go_quiet (fail)
      go_wp2
      go_roundw
      case rel => exact ⟨j + 1, by omega, by go_num, _, rfl⟩
      case measure => simp [intOf]; omega
    · go_wp2
      go_ret
      exact ⟨rfl, below_drewN (Below.refl _ _) _⟩
theorem sameW_true (base base' : Nat) (tv uv : Value) (l : List (Int × Int)) (w : World) (hn : l.length ≤ 1000000) (h1 : w.ownsRow base 78 2 tv l.length (vrow l)) (h2 : w.ownsRow base' 78 2 uv l.length (vrow l)) :
    Calls Tryz.prog 15 #[tv, uv] w fun e w' => e = .returned (.bool true) ∧ Below w.heap.size w w' := by
  have hz : ∀ {x y : Option Addr} {c d : Nat}, Calls Tryz.prog 15 #[.slice x 0 c, .slice y 0 d] w fun e w' => e = .returned (.bool true) ∧ Below w.heap.size w w' := fun {x y c d} =>
    (sameW_nil x y c d w).mono (by rintro e w' ⟨rfl, rfl⟩; exact ⟨rfl, Below.refl _ _⟩)
  have hi : ∀ {g : Nat}, (∀ (j : Nat) (u : Value), (vrow l)[j]? = some u → w.cell? ⟨g, j, none⟩ = some u) → PRow w g l := fun h j a x hx => by
    have := vrow_get l j a x hx
    exact ⟨h _ _ this.1, h _ _ this.2⟩
  rcases row_slice h1 with ⟨rfl, e0⟩ | ⟨g, c, rfl, _, hc⟩
  · rcases row_slice h2 with ⟨rfl, _⟩ | ⟨g', c', rfl, _, hc'⟩
    · exact hz
    · rw [e0]; exact hz
  · rcases row_slice h2 with ⟨rfl, e0⟩ | ⟨g', c', rfl, _, hc'⟩
    · rw [e0]; exact hz
    · exact sameW_walk g g' c c' l w hn (hi hc) (hi hc')
end Go.Proofs.YtjefgmeejhakbaaGreatDoor
