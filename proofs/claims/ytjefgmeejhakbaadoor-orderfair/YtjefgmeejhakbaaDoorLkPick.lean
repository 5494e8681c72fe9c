/- keep.pick. -/
import Derived.Test.YtjefgmeejhakbaaDoorLkBase
namespace Go.Proofs.YtjefgmeejhakbaaDoor
open Go.RowKit

set_option maxHeartbeats 400000 in
theorem pick_any (a n : Int) (w : World) (h1 : 1 ≤ n) (h2 : n ≤ 1000) :
    Calls Tryd.prog 25 #[.int .i64 a, .int .i64 n] w fun e w' => ∃ r : Int, e = .returned (.int .i64 r) ∧ 0 ≤ r ∧ r < n ∧ w' = w := by
  go_enter Tryd.func25, Tryd.ntmps25
  go_wp2
  go_ret
  have hu : 0 ≤ IntKind.u64.wrap a := by
    simp only [IntKind.wrap, IntKind.signed, Bool.false_and, Bool.false_eq_true, if_false]
    exact Int.emod_nonneg _ (by simp [IntKind.bits])
  have hm0 : 0 ≤ (IntKind.u64.wrap a).tmod n := Int.tmod_nonneg _ hu
  have hm1 : (IntKind.u64.wrap a).tmod n < n := Int.tmod_lt_of_pos _ (by omega)
  exact ⟨_, rfl, by rw [IntWalk.wrap64_in _ (by omega)]; exact hm0, by rw [IntWalk.wrap64_in _ (by omega)]; exact hm1, rfl⟩

end Go.Proofs.YtjefgmeejhakbaaDoor
