/- api.Tell. -/
import Derived.Test.YtjefgmeejhakbaaGreatDoorAsR
import Derived.WalkSpells
namespace Go.Proofs.YtjefgmeejhakbaaGreatDoor
open Go.RowKit
def Handle (w : World) : Prop := w.cell? ⟨0, 0, none⟩ = some (.iface 263 (.agg #[.pointer (some ⟨1, 33, none⟩)]))
theorem Handle.pos {w : World} (h : Handle w) : 0 < w.heap.size := by
  rcases Nat.eq_zero_or_pos w.heap.size with h0 | h1
  · simp [Handle, World.cell?, h0] at h
  · exact h1
theorem Handle.below {w w' : World} {B : Nat} (h : Handle w) (hB : Below B w w') (hp : 0 < B) : Handle w' := (hB.cell (p := ⟨0, 0, none⟩) hp).trans h
set_option maxHeartbeats 1000000 in
theorem tell_nil (w : World) : Calls Tryz.prog 93 #[.nilIface] w fun e w' => e = .returned (.int .i64 0) ∧ w' = w := by
  go_enter Tryz.func93, Tryz.ntmps93
  go_wp2
  go_ret
  exact ⟨rfl, rfl⟩
set_option maxHeartbeats 1000000 in
theorem tell_errno (n : Int) (w : World) (hg : Handle w) : Calls Tryz.prog 93 #[.iface 24 (.int .i64 n)] w fun e w' => e = .returned (.int .i64 n) ∧ Below w.heap.size w w' := by
  have hp := hg.pos
  have hg1 : (w.alloc (.cells #[.int .i64 0] 24)).cell? ⟨0, 0, none⟩ = some (.iface 263 (.agg #[.pointer (some ⟨1, 33, none⟩)])) := (World.cell?_alloc_lt _ _ ⟨0, 0, none⟩ hp).trans hg
  have HG : Hid _ := hg1
  clear hg hg1
  go_enter Tryz.func93, Tryz.ntmps93
  go_wp2_with (go_at_call 149; refine (as_hit n ⟨w.heap.size, 0, none⟩ (.int .i64 0) _ HG.out (cell_one_new w _ _ 0 _ rfl) (by simp)).mono ?_; rintro e w' ⟨rfl, rfl⟩)
  go_ret
  refine ⟨rfl, ?_⟩
  exact (((((Below.refl _ w).alloc (Nat.le_refl _) _).alloc (by simp) _).alloc (by simp; omega) _).alloc (by simp; omega) _).alloc (by simp; omega) _
end Go.Proofs.YtjefgmeejhakbaaGreatDoor
