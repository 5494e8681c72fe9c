/- keep.DeskPieces: closed facts of its row, put together. -/
import Derived.Test.YtjefgmeejhakbabGreatDoorDpFacts
import Derived.Test.YtjefgmeejhakbabGreatDoorDpFactsB
namespace Go.Proofs.YtjefgmeejhakbabGreatDoor
open Go.ChangeShapes Go.WideShapes Go.ChangeAt Go.RowKit
theorem and_pair {a b:Bool} (h:a=true) (k:b=true):(a&&b)=true:=by rw [h,k];rfl
set_option maxRecDepth 100000 in
theorem pieces_closed:joinedFacts Tryz.pinned.checked.prog 3 Tryz.f3 Rows.deskPiecesSpec Rows.deskPiecesRow=true :=
 and_pair (and_pair (and_pair (and_pair (and_pair (and_pair (and_pair (and_pair (and_pair (and_pair (and_pair (and_pair (and_pair (and_pair (and_pair (and_pair (and_pair (and_pair (and_pair (and_pair (and_pair (and_pair (and_pair (and_pair (and_pair (and_pair (and_pair (and_pair (and_pair (and_pair (and_pair (pj1) pj2) pj3) pj4) pj5) pj6) pj7) pj8) pj9) pj10) pj11) pj12) pj13) pj14) pj15) pj16) pj17) pj18) pj19) pj20) pj21) pj22) pj23) pj24) pj25) pj26) pj27) pj28) pj29) pj30) pj31) pj32
end Go.Proofs.YtjefgmeejhakbabGreatDoor
