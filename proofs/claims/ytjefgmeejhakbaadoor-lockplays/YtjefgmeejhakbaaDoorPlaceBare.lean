/- law.bare. -/
import Derived.Test.YtjefgmeejhakbaaDoorPlace
namespace Go.Proofs.YtjefgmeejhakbaaDoor
open Go.RowKit

set_option maxHeartbeats 1000000 in
theorem bare_true (c : Int) (ev : Value) (w : World) (h : ErrIs w ev c (-1)) (hg : Handle w) : Calls Tryd.prog 17 #[ev, .int .i64 c] w fun e w' => e = .returned (.bool true) ∧ Below w.heap.size w w' := by
  have H := hid h
  have HG := hid hg
  clear h hg
  go_enter Tryd.func17, Tryd.ntmps17
  go_wp2_with fail
  refine (bareF_any c w).mono ?_
  rintro e w1 ⟨rfl, hB⟩
  have HB := hid hB
  clear hB
  go_wp2_with fail
  refine (is_true c (-1) ev w1 (H.out.below HB.out) (HG.out.below HB.out HG.out.pos)).mono ?_
  rintro e w2 ⟨rfl, hB2⟩
  have HB2 := hid (HB.out.trans (hB2.mono HB.out.size))
  clear hB2
  go_wp2
  go_ret
  exact ⟨rfl, HB2.out⟩

end Go.Proofs.YtjefgmeejhakbaaDoor
