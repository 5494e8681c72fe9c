/- (*Store).Install where something is wrong, or there is nothing to install. -/
import Derived.Test.YtjefgmeejhakbaaGreatDoorEsNewerQ
namespace Go.Proofs.YtjefgmeejhakbaaGreatDoor
open Go.RowKit
variable {P : Tail}
set_option maxRecDepth 100000 in
set_option maxHeartbeats 2000000 in
theorem install_order (base s : Nat) (last t : Int) (lv : Value) (vs : List Value) (ks : List (List (Int × Int))) (w : World) (h : Sto P w base s last vs ks) (ho : t ≤ last ∨ 1099511627776 < t) :
    Calls Tryz.prog 76 #[.pointer (some ⟨s, 0, none⟩), .int .i64 t, lv] w fun e w' => e = .returned (.iface 24 (.int .i64 10)) ∧ w' = w := by
  have hc0 := h.cellLast
  by_cases h1 : t ≤ last
  · go_enter Tryz.func76, Tryz.ntmps76
    go_wp2
    go_ret
    exact ⟨rfl, rfl⟩
  · have h2 : 1099511627776 < t := by omega
    go_enter Tryz.func76, Tryz.ntmps76
    go_wp2
    go_ret
    exact ⟨rfl, rfl⟩
end Go.Proofs.YtjefgmeejhakbaaGreatDoor
