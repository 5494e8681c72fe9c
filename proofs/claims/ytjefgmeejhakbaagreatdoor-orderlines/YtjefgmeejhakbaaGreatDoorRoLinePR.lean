/- The reference's Line: the plain side of its choice. -/
import Derived.Test.YtjefgmeejhakbaaGreatDoorOrAreR
import Derived.Test.YtjefgmeejhakbaaGreatDoorMapLenR
namespace Go.Proofs.YtjefgmeejhakbaaGreatDoor
open Go.RowKit
def leftF (left : List Int) (y : Int) : Option Value := if y ∈ left then some (.bool true) else none
theorem leftF_some {left : List Int} {y : Int} (h : (leftF left y).isSome = true) : y ∈ left := by
  unfold leftF at h
  by_cases e : y ∈ left
  · exact e
  · rw [if_neg e] at h; cases h
def BestOf (E : List (Int × Int)) (left : List Int) (seen : Int → Prop) (best : Int) : Prop :=
  (best = 0 ∧ ∀ y ∈ left, seen y → freeB E left y = false) ∨ (best ∈ left ∧ freeB E left best = true ∧ ∀ y ∈ left, seen y → freeB E left y = true → best ≤ y)
theorem BestOf.skip {E : List (Int × Int)} {left : List Int} {seen seen' : Int → Prop} {best x : Int} (h : BestOf E left seen best) (hx : freeB E left x = false) (hs : ∀ y ∈ left, seen' y → seen y ∨ y = x) : BestOf E left seen' best := by
  rcases h with ⟨h1, h2⟩ | ⟨h1, h2, h3⟩
  · refine .inl ⟨h1, fun y hy h => ?_⟩
    rcases hs y hy h with h | rfl
    · exact h2 y hy h
    · exact hx
  · refine .inr ⟨h1, h2, fun y hy h hf => ?_⟩
    rcases hs y hy h with h | rfl
    · exact h3 y hy h hf
    · rw [hx] at hf; cases hf
theorem BestOf.worse {E : List (Int × Int)} {left : List Int} {seen seen' : Int → Prop} {best x : Int} (h : BestOf E left seen best) (hb : best ≠ 0) (hx : best ≤ x) (hs : ∀ y ∈ left, seen' y → seen y ∨ y = x) : BestOf E left seen' best := by
  rcases h with ⟨h1, h2⟩ | ⟨h1, h2, h3⟩
  · exact (hb h1).elim
  · refine .inr ⟨h1, h2, fun y hy h hf => ?_⟩
    rcases hs y hy h with h | rfl
    · exact h3 y hy h hf
    · exact hx
theorem BestOf.take {E : List (Int × Int)} {left : List Int} {seen seen' : Int → Prop} {best x : Int} (h : BestOf E left seen best) (hp : ∀ y ∈ left, 1 ≤ y) (hl : x ∈ left) (hf : freeB E left x = true) (hx : best = 0 ∨ x < best) (hs : ∀ y ∈ left, seen' y → seen y ∨ y = x) : BestOf E left seen' x := by
  refine .inr ⟨hl, hf, fun y hy h2 hfy => ?_⟩
  rcases hs y hy h2 with h2 | rfl
  · rcases h with ⟨h3, h4⟩ | ⟨h3, h4, h5⟩
    · rw [h4 y hy h2] at hfy; cases hfy
    · have h6 := h5 y hy h2 hfy
      have h7 := hp best h3
      omega
  · exact Int.le_refl _
theorem BestOf.none {E : List (Int × Int)} {left : List Int} {seen : Int → Prop} (h : BestOf E left seen 0) (hp : ∀ y ∈ left, 1 ≤ y) (hs : ∀ y ∈ left, seen y) : leastP (left.filter (freeB E left)) = none := by
  rw [leastP_none, List.filter_eq_nil_iff]
  intro y hy
  rcases h with ⟨_, h2⟩ | ⟨h1, _⟩
  · rw [h2 y hy (hs y hy)]; simp
  · have := hp 0 h1; omega
theorem BestOf.some {E : List (Int × Int)} {left : List Int} {seen : Int → Prop} {best : Int} (h : BestOf E left seen best) (hb : best ≠ 0) (hs : ∀ y ∈ left, seen y) : leastP (left.filter (freeB E left)) = .some best ∧ best ∈ left := by
  rcases h with ⟨h1, _⟩ | ⟨h1, h2, h3⟩
  · exact (hb h1).elim
  · refine ⟨least_of (List.mem_filter.2 ⟨h1, h2⟩) (fun y hy => ?_), h1⟩
    obtain ⟨a, b⟩ := List.mem_filter.1 hy
    exact h3 y a (hs y a) b
def freeTo (E : List (Int × Int)) (left : List Int) (x : Int) (i : Nat) : Bool := (E.take i).all (fun e => !(e.2 == x && left.contains e.1))
theorem freeTo_step {E : List (Int × Int)} {i : Nat} {a b : Int} (h : E[i]? = some (a, b)) (left : List Int) (x : Int) : freeTo E left x (i + 1) = (freeTo E left x i && !(b == x && left.contains a)) := by
  unfold freeTo
  rw [List.take_add_one, h, List.all_append]
  simp
theorem freeTo_all (E : List (Int × Int)) (left : List Int) (x : Int) : freeTo E left x E.length = freeB E left x := by unfold freeTo freeB; rw [List.take_length]
theorem leftF_del (left : List Int) (x y : Int) : (if y = x then none else leftF left y) = leftF (left.filter (fun z => z != x)) y := by
  unfold leftF
  by_cases e : y = x
  · subst e; rw [if_pos rfl, if_neg (by simp)]
  · rw [if_neg e]
    by_cases h : y ∈ left
    · rw [if_pos h, if_pos (List.mem_filter.2 ⟨h, by simpa using e⟩)]
    · rw [if_neg h, if_neg (fun h2 => h (List.mem_filter.1 h2).1)]
end Go.Proofs.YtjefgmeejhakbaaGreatDoor
