/- keep.DeskPieces: closed facts of its row. -/
import Derived.Test.YtjefgmeejhakbabGreatDoorMgAD
import Derived.Conc.Holds
namespace Go.Proofs.YtjefgmeejhakbabGreatDoor
open Go.ChangeShapes Go.WideShapes Go.ChangeAt Go.RowKit
theorem pieces_named:Tryz.pinned.checked.prog.funcNamed Rows.deskPiecesRow.func=some 3:=by kernel_rfl
theorem pieces_inst:Tryz.f3.isInstance Tryz.pinned.checked.prog Rows.deskPiecesRow.origin Rows.deskPiecesRow.targs:=of_decide_eq_true (by kernel_rfl)
theorem pieces_wrap:Tryz.f3.isWrapper Tryz.pinned.checked.prog Rows.deskPiecesRow.wrapper Rows.deskPiecesRow.mainSum:=by unfold Func.isWrapper;first | (rw [if_pos (by decide +kernel)];kernel_rfl) | (rw [if_neg (by decide +kernel)];exact⟨rfl,rfl⟩)
end Go.Proofs.YtjefgmeejhakbabGreatDoor
