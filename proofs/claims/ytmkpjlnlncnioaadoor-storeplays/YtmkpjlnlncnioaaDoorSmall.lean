/- The contracts of the small functions: pick, isKey, wrong. -/
import Derived.Test.YtmkpjlnlncnioaaDoorProg
import Derived.WalkKit
import Derived.WalkSpells
namespace Go.Proofs.YtmkpjlnlncnioaaDoor
open Go.RowKit

/-- Whether there is such a key. -/
def keyB (k : Int) : Bool := decide (0 ≤ k ∧ k < 10)

set_option maxHeartbeats 400000 in
theorem isKey_any (k : Int) (w : World) :
    Calls Tryd.prog 31 #[.int .i64 k] w fun e w' => e = .returned (.bool (keyB k)) ∧ w' = w := by
  by_cases h1 : 0 ≤ k
  · by_cases h2 : k < 10
    · have h : keyB k = true := by simp [keyB, h1, h2]
      rw [h]
      go_enter Tryd.func31, Tryd.ntmps31
      go_wp2
      go_ret
      exact ⟨rfl, rfl⟩
    · have h : keyB k = false := by simp [keyB, h2]
      rw [h]
      go_enter Tryd.func31, Tryd.ntmps31
      go_wp2
      go_ret
      exact ⟨rfl, rfl⟩
  · have h : keyB k = false := by simp [keyB, h1]
    rw [h]
    go_enter Tryd.func31, Tryd.ntmps31
    go_wp2
    go_ret
    exact ⟨rfl, rfl⟩

set_option maxHeartbeats 400000 in
theorem pick_any (a n : Int) (w : World) (h1 : 1 ≤ n) (h2 : n ≤ 1000) :
    Calls Tryd.prog 22 #[.int .i64 a, .int .i64 n] w fun e w' => ∃ r : Int, e = .returned (.int .i64 r) ∧ 0 ≤ r ∧ r < n ∧ w' = w := by
  go_enter Tryd.func22, Tryd.ntmps22
  go_wp2
  go_ret
  have hu : 0 ≤ IntKind.u64.wrap a := by
    simp only [IntKind.wrap, IntKind.signed, Bool.false_and, Bool.false_eq_true, if_false]
    exact Int.emod_nonneg _ (by simp [IntKind.bits])
  have hm0 : 0 ≤ (IntKind.u64.wrap a).tmod n := Int.tmod_nonneg _ hu
  have hm1 : (IntKind.u64.wrap a).tmod n < n := Int.tmod_lt_of_pos _ (by omega)
  exact ⟨_, rfl, by rw [IntWalk.wrap64_in _ (by omega)]; exact hm0, by rw [IntWalk.wrap64_in _ (by omega)]; exact hm1, rfl⟩

/-- What may not be so of a write; 0: nothing. -/
def wrongOf (k v : Int) : Int := if keyB k = false then 2 else if v < -1099511627776 ∨ 1099511627776 < v then 1 else 0

set_option maxHeartbeats 400000 in
theorem wrong_good (k v : Int) (w : World) (h1 : keyB k = true) (h2 : -1099511627776 ≤ v) (h3 : v ≤ 1099511627776) :
    Calls Tryd.prog 25 #[.agg #[.int .i64 k, .int .i64 v]] w fun e w' => e = .returned (.int .i64 0) ∧ Below w.heap.size w w' := by
  go_enter Tryd.func25, Tryd.ntmps25
  go_wp2_with (go_at_call 31; refine (isKey_any _ _).mono ?_; rintro e w' ⟨rfl, rfl⟩)
  go_ret
  exact ⟨rfl, (Below.refl _ _).alloc (Nat.le_refl _) _⟩

end Go.Proofs.YtmkpjlnlncnioaaDoor
