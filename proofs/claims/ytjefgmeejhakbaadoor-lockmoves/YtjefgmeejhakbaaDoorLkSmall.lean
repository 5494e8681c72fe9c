/- (*Table).Holds, Waits. -/
import Derived.Test.YtjefgmeejhakbaaDoorLkMem
namespace Go.Proofs.YtjefgmeejhakbaaDoor
open Go.RowKit

section
variable {w : World} {s N : Nat} {M : LkM} {h wa : Int → Option Int} {ln : Int → List Int}
theorem Raw.lookH (r : Raw w s N M h wa ln) {k : Int} (hk : I64 k) : (Instr.lookup 68 (.map M.mh) (.int .i64 k) false).run Tryd.prog w = .ok (.int .i64 ((h k).getD 0)) w := by
  have := r.mh.look1 Tryd.underlying68 (zeroI w) hk
  rwa [getD_int] at this
theorem Raw.lookH2 (r : Raw w s N M h wa ln) {k : Int} (hk : I64 k) : (Instr.lookup 68 (.map M.mh) (.int .i64 k) true).run Tryd.prog w = .ok (.tuple #[.int .i64 ((h k).getD 0), .bool (h k).isSome]) w := by
  have := r.mh.look Tryd.underlying68 (zeroI w) hk
  rwa [getD_int, Option.isSome_map] at this
theorem Raw.lookW (r : Raw w s N M h wa ln) {x : Int} (hx : I64 x) : (Instr.lookup 68 (.map M.mw) (.int .i64 x) true).run Tryd.prog w = .ok (.tuple #[.int .i64 ((wa x).getD 0), .bool (wa x).isSome]) w := by
  have := r.mw.look Tryd.underlying68 (zeroI w) hx
  rwa [getD_int, Option.isSome_map] at this
theorem Raw.lookL (r : Raw w s N M h wa ln) {k : Int} (hk : I64 k) : (Instr.lookup 69 (.map M.ml) (.int .i64 k) false).run Tryd.prog w = .ok ((M.lv k).getD (.slice none 0 0)) w :=
  r.ml.look1 Tryd.underlying69 (zeroL w) hk
end

set_option maxHeartbeats 1000000 in
theorem holds_any (s N : Nat) (M : LkM) (h wa : Int → Option Int) (ln : Int → List Int) (k : Int) (w : World) (r : Raw w s N M h wa ln) (hk : I64 k) :
    Calls Tryd.prog 33 #[.pointer (some ⟨s, 0, none⟩), .int .i64 k] w fun e w' => e = .returned (.int .i64 ((h k).getD 0)) ∧ w' = w := by
  have c0 := r.c0
  have hl := r.lookH hk
  clear r
  go_enter Tryd.func33, Tryd.ntmps33
  go_wp2
  go_ret
  exact ⟨rfl, rfl⟩

set_option maxHeartbeats 1000000 in
theorem waits_any (s N : Nat) (M : LkM) (h wa : Int → Option Int) (ln : Int → List Int) (x : Int) (w : World) (r : Raw w s N M h wa ln) (hx : I64 x) :
    Calls Tryd.prog 31 #[.pointer (some ⟨s, 0, none⟩), .int .i64 x] w fun e w' => e = .returned (.int .i64 ((wa x).getD (-1))) ∧ w' = w := by
  have c0 := r.c1
  have hl := r.lookW hx
  clear r
  cases hw : wa x with
  | none =>
    rw [hw] at hl
    simp only [Option.getD_none, Option.isSome_none] at hl
    clear hw
    go_enter Tryd.func31, Tryd.ntmps31
    go_wp2
    go_ret
    exact ⟨rfl, rfl⟩
  | some y =>
    rw [hw] at hl
    simp only [Option.getD_some, Option.isSome_some] at hl
    clear hw
    go_enter Tryd.func31, Tryd.ntmps31
    go_wp2
    go_ret
    exact ⟨rfl, rfl⟩

end Go.Proofs.YtjefgmeejhakbaaDoor
