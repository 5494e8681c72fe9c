/- law.same and law.sameWrites: two rows that hold the same. -/
import Derived.Test.YtmkpjlnlncnioaaDoorInstErr
namespace Go.Proofs.YtmkpjlnlncnioaaDoor
open Go.RowKit

/-- A row of one's own as a slice value, with its cells. -/
theorem row_slice {w : World} {base : Nat} {e : TypeId} {size : Nat} {v : Value} {n : Nat} {xs : List Value} (h : w.ownsRow base e size v n xs) :
    (v = .slice none 0 0 ∧ n = 0) ∨ ∃ g cap, v = .slice (some ⟨g, 0, none⟩) n cap ∧ g < w.heap.size ∧ ∀ j u, xs[j]? = some u → w.cell? ⟨g, j, none⟩ = some u := by
  rcases h.2 with ⟨e, e0⟩ | ⟨g, cap, cur, e, hb, hg, _⟩
  · exact .inl ⟨e, e0⟩
  · refine .inr ⟨g, cap, e, (Array.getElem?_eq_some_iff.1 hg).1, fun j u hu => ?_⟩
    have := h.cells (g := g) (by rw [e]; rfl) j u hu
    rwa [addr_add] at this

set_option maxRecDepth 100000 in
set_option maxHeartbeats 1000000 in
theorem same_nil (a b : Option Addr) (c d : Nat) (w : World) : Calls Tryd.prog 15 #[.slice a 0 c, .slice b 0 d] w fun e w' => e = .returned (.bool true) ∧ w' = w := by
  go_enter Tryd.func15, Tryd.ntmps15
  go_wp2
  go_loop [5] (fun i => i = .int .i64 0) (fun _ => 0)
  case atStart => rfl
  case round =>
    subst hrel
    go_wp2
    go_ret
    exact ⟨rfl, rfl⟩

set_option maxRecDepth 100000 in
set_option maxHeartbeats 2000000 in
theorem same_walk (g h c d : Nat) (l : List Int) (w : World) (hn : l.length ≤ 1000000) (h1 : ∀ (j : Nat) (x : Int), l[j]? = some x → w.cell? ⟨g, j, none⟩ = some (.int .i64 x)) (h2 : ∀ (j : Nat) (x : Int), l[j]? = some x → w.cell? ⟨h, j, none⟩ = some (.int .i64 x)) :
    Calls Tryd.prog 15 #[.slice (some ⟨g, 0, none⟩) l.length c, .slice (some ⟨h, 0, none⟩) l.length d] w fun e w' => e = .returned (.bool true) ∧ Below w.heap.size w w' := by
  have H1 := hid h1
  have H2 := hid h2
  clear h1 h2
  go_enter Tryd.func15, Tryd.ntmps15
  go_wp2
  go_loopw [5] (fun i wr => ∃ j : Nat, j ≤ l.length ∧ i = .int .i64 j ∧ ∃ q, wr = w.drewN q) (fun i _ => l.length - (intOf i).toNat)
  case atStart => exact ⟨0, Nat.zero_le _, rfl, 0, rfl⟩
  case round =>
    obtain ⟨j, hj, rfl, q, rfl⟩ := hrel
    by_cases hlt : j < l.length
    · obtain ⟨x, hx⟩ : ∃ x, l[j]? = some x := ⟨l[j], List.getElem?_eq_getElem hlt⟩
      have c1 := H1.out j x hx
      have c2 := H2.out j x hx
      have hj0 : (0 : Int) ≤ (j : Int) := by omega
      have hj1 : (j : Int) < (l.length : Int) := by omega
      clear hx
      go_wp2
      go_quiet (fail)
      go_wp2
      go_roundw
      case rel => exact ⟨j + 1, by omega, by go_num, _, rfl⟩
      case measure => simp [intOf]; omega
    · go_wp2
      go_ret
      exact ⟨rfl, below_drewN (Below.refl _ _) _⟩

theorem same_true (base base' : Nat) (tv uv : Value) (l : List Int) (w : World) (hn : l.length ≤ 1000000) (h1 : w.ownsRow base 3 1 tv l.length (intsV l)) (h2 : w.ownsRow base' 3 1 uv l.length (intsV l)) :
    Calls Tryd.prog 15 #[tv, uv] w fun e w' => e = .returned (.bool true) ∧ Below w.heap.size w w' := by
  have hz : ∀ {x y : Option Addr} {c d : Nat}, Calls Tryd.prog 15 #[.slice x 0 c, .slice y 0 d] w fun e w' => e = .returned (.bool true) ∧ Below w.heap.size w w' := fun {x y c d} =>
    (same_nil x y c d w).mono (by rintro e w' ⟨rfl, rfl⟩; exact ⟨rfl, Below.refl _ _⟩)
  have hi : ∀ {g : Nat}, (∀ (j : Nat) (u : Value), (intsV l)[j]? = some u → w.cell? ⟨g, j, none⟩ = some u) → ∀ (j : Nat) (x : Int), l[j]? = some x → w.cell? ⟨g, j, none⟩ = some (.int .i64 x) := fun h j x hx => h j _ (by simp [intsV, hx])
  rcases row_slice h1 with ⟨rfl, e0⟩ | ⟨g, c, rfl, _, hc⟩
  · rcases row_slice h2 with ⟨rfl, _⟩ | ⟨g', c', rfl, _, hc'⟩
    · exact hz
    · rw [e0]; exact hz
  · rcases row_slice h2 with ⟨rfl, e0⟩ | ⟨g', c', rfl, _, hc'⟩
    · rw [e0]; exact hz
    · exact same_walk g g' c c' l w hn (hi hc) (hi hc')

set_option maxRecDepth 100000 in
set_option maxHeartbeats 1000000 in
theorem sameW_nil (a b : Option Addr) (c d : Nat) (w : World) : Calls Tryd.prog 18 #[.slice a 0 c, .slice b 0 d] w fun e w' => e = .returned (.bool true) ∧ w' = w := by
  go_enter Tryd.func18, Tryd.ntmps18
  go_wp2
  go_loop [5] (fun i => i = .int .i64 0) (fun _ => 0)
  case atStart => rfl
  case round =>
    subst hrel
    go_wp2
    go_ret
    exact ⟨rfl, rfl⟩

set_option maxRecDepth 100000 in
set_option maxHeartbeats 2000000 in
theorem sameW_walk (g h c d : Nat) (l : List (Int × Int)) (w : World) (hn : l.length ≤ 1000000) (h1 : Row w g l) (h2 : Row w h l) :
    Calls Tryd.prog 18 #[.slice (some ⟨g, 0, none⟩) l.length c, .slice (some ⟨h, 0, none⟩) l.length d] w fun e w' => e = .returned (.bool true) ∧ Below w.heap.size w w' := by
  have H1 := hid h1
  have H2 := hid h2
  clear h1 h2
  go_enter Tryd.func18, Tryd.ntmps18
  go_wp2
  go_loopw [5] (fun i wr => ∃ j : Nat, j ≤ l.length ∧ i = .int .i64 j ∧ ∃ q, wr = w.drewN q) (fun i _ => l.length - (intOf i).toNat)
  case atStart => exact ⟨0, Nat.zero_le _, rfl, 0, rfl⟩
  case round =>
    obtain ⟨j, hj, rfl, q, rfl⟩ := hrel
    by_cases hlt : j < l.length
    · obtain ⟨⟨x, y⟩, hx⟩ : ∃ x, l[j]? = some x := ⟨l[j], List.getElem?_eq_getElem hlt⟩
      obtain ⟨c1, c2⟩ := H1.out j x y hx
      obtain ⟨c3, c4⟩ := H2.out j x y hx
      have hj0 : (0 : Int) ≤ (j : Int) := by omega
      have hj1 : (j : Int) < (l.length : Int) := by omega
      clear hx
      go_wp2
      go_quiet (fail)
      go_wp2
      go_roundw
      case rel => exact ⟨j + 1, by omega, by go_num, _, rfl⟩
      case measure => simp [intOf]; omega
    · go_wp2
      go_ret
      exact ⟨rfl, below_drewN (Below.refl _ _) _⟩

theorem sameW_true (base base' : Nat) (tv uv : Value) (l : List (Int × Int)) (w : World) (hn : l.length ≤ 1000000) (h1 : w.ownsRow base 64 2 tv l.length (vrow l)) (h2 : w.ownsRow base' 64 2 uv l.length (vrow l)) :
    Calls Tryd.prog 18 #[tv, uv] w fun e w' => e = .returned (.bool true) ∧ Below w.heap.size w w' := by
  have hz : ∀ {x y : Option Addr} {c d : Nat}, Calls Tryd.prog 18 #[.slice x 0 c, .slice y 0 d] w fun e w' => e = .returned (.bool true) ∧ Below w.heap.size w w' := fun {x y c d} =>
    (sameW_nil x y c d w).mono (by rintro e w' ⟨rfl, rfl⟩; exact ⟨rfl, Below.refl _ _⟩)
  have hi : ∀ {g : Nat}, (∀ (j : Nat) (u : Value), (vrow l)[j]? = some u → w.cell? ⟨g, j, none⟩ = some u) → Row w g l := fun h j a x hx => by
    have := vrow_get l j a x hx
    exact ⟨h _ _ this.1, h _ _ this.2⟩
  rcases row_slice h1 with ⟨rfl, e0⟩ | ⟨g, c, rfl, _, hc⟩
  · rcases row_slice h2 with ⟨rfl, _⟩ | ⟨g', c', rfl, _, hc'⟩
    · exact hz
    · rw [e0]; exact hz
  · rcases row_slice h2 with ⟨rfl, e0⟩ | ⟨g', c', rfl, _, hc'⟩
    · rw [e0]; exact hz
    · exact sameW_walk g g' c c' l w hn (hi hc) (hi hc')

end Go.Proofs.YtmkpjlnlncnioaaDoor
