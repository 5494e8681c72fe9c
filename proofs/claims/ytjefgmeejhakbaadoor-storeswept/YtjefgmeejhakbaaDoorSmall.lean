/- The contracts of the small functions: pick, isKey, wrong. -/
import Derived.Test.YtjefgmeejhakbaaDoorLkBase
import Derived.WalkKit
import Derived.WalkSpells
namespace Go.Proofs.YtjefgmeejhakbaaDoor
open Go.RowKit

/-- Whether there is such a key. -/
def keyB (k : Int) : Bool := decide (0 ≤ k ∧ k < 10)

set_option maxHeartbeats 400000 in
theorem isKey_any (k : Int) (w : World) :
    Calls Tryd.prog 51 #[.int .i64 k] w fun e w' => e = .returned (.bool (keyB k)) ∧ w' = w := by
  by_cases h1 : 0 ≤ k
  · by_cases h2 : k < 10
    · have h : keyB k = true := by simp [keyB, h1, h2]
      rw [h]
      go_enter Tryd.func51, Tryd.ntmps51
      go_wp2
      go_ret
      exact ⟨rfl, rfl⟩
    · have h : keyB k = false := by simp [keyB, h2]
      rw [h]
      go_enter Tryd.func51, Tryd.ntmps51
      go_wp2
      go_ret
      exact ⟨rfl, rfl⟩
  · have h : keyB k = false := by simp [keyB, h1]
    rw [h]
    go_enter Tryd.func51, Tryd.ntmps51
    go_wp2
    go_ret
    exact ⟨rfl, rfl⟩

/-- What may not be so of a write; 0: nothing. -/
def wrongOf (k v : Int) : Int := if keyB k = false then 2 else if v < -1099511627776 ∨ 1099511627776 < v then 1 else 0

set_option maxHeartbeats 400000 in
theorem wrong_good (k v : Int) (w : World) (h1 : keyB k = true) (h2 : -1099511627776 ≤ v) (h3 : v ≤ 1099511627776) :
    Calls Tryd.prog 45 #[.agg #[.int .i64 k, .int .i64 v]] w fun e w' => e = .returned (.int .i64 0) ∧ Below w.heap.size w w' := by
  go_enter Tryd.func45, Tryd.ntmps45
  go_wp2_with (go_at_call 51; refine (isKey_any _ _).mono ?_; rintro e w' ⟨rfl, rfl⟩)
  go_ret
  exact ⟨rfl, (Below.refl _ _).alloc (Nat.le_refl _) _⟩

end Go.Proofs.YtjefgmeejhakbaaDoor
