/- KtActs KtTalOk: put together for a claim. -/
import Derived.Test.YtjefgmeejhakbaaGreatDoorMgAQ
import Derived.Test.YtjefgmeejhakbaaGreatDoorKtDoesS
import Derived.Test.YtjefgmeejhakbaaGreatDoorMgAV
/- Acts, and numbers, that came in. -/
namespace Go.Proofs.YtjefgmeejhakbaaGreatDoor
open Go.RowKit

/-- Acts that came in. -/
def ActsAt (W : World) (ad : Option Addr) (n : Nat) : Prop := ∀ i, i < n → ∃ (b off : Nat) (a0 a1 a2 a3 : Int), ad = some ⟨b, off, none⟩ ∧ W.cell? ⟨b, off + i * 4, none⟩ = some (.int .i64 a0) ∧ W.cell? ⟨b, off + i * 4 + 1, none⟩ = some (.int .i64 a1) ∧ W.cell? ⟨b, off + i * 4 + 2, none⟩ = some (.int .i64 a2) ∧ W.cell? ⟨b, off + i * 4 + 3, none⟩ = some (.int .i64 a3)
/-- Numbers that came in. -/
def IntsAt (W : World) (ad : Option Addr) (n : Nat) : Prop := ∀ i, i < n → ∃ (b off : Nat) (x : Int), ad = some ⟨b, off, none⟩ ∧ W.cell? ⟨b, off + i, none⟩ = some (.int .i64 x)

end Go.Proofs.YtjefgmeejhakbaaGreatDoor

/- What is asked of a tale's memory. -/
namespace Go.Proofs.YtjefgmeejhakbaaGreatDoor
open Go.RowKit

theorem POk.talOk {w0 : Gr} {E : Eng} {t : Tal} {n : Nat} (h : POk E t n) (hg : Handle w0.w ∧ w0.P 0) : TalOk w0 E t n := ⟨h.mid, h.steps, h.num, h.rd, h.tr, h.ts, hg⟩

end Go.Proofs.YtjefgmeejhakbaaGreatDoor
