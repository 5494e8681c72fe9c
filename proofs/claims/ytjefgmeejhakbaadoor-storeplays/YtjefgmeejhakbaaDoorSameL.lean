/- law.same at rows of one's own. -/
import Derived.Test.YtjefgmeejhakbaaDoorInstErr
import Derived.Test.YtjefgmeejhakbaaDoorSameW
namespace Go.Proofs.YtjefgmeejhakbaaDoor
open Go.RowKit

theorem sameR_true (base base' : Nat) (tv uv : Value) (l : List Int) (w : World) (hn : l.length ≤ 1000000) (h1 : w.ownsRow base 3 1 tv l.length (intsV l)) (h2 : w.ownsRow base' 3 1 uv l.length (intsV l)) :
    Calls Tryd.prog 18 #[tv, uv] w fun e w' => e = .returned (.bool true) ∧ Below w.heap.size w w' := same_true tv uv l w hn (LineAt.of_row h1) (LineAt.of_row h2)

end Go.Proofs.YtjefgmeejhakbaaDoor
