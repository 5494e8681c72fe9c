/- keep.DeskPieces: closed facts of its row, one by one. -/
import Derived.Test.YtjefgmeejhakbabGreatDoorMgAD
import Derived.Conc.Holds
namespace Go.Proofs.YtjefgmeejhakbabGreatDoor
open Go.ChangeShapes Go.WideShapes Go.ChangeAt Go.RowKit
theorem pj1:(Rows.deskPiecesRow.wf (OpenSpec.ofChange Rows.deskPiecesSpec))=true:=by kernel_rfl
theorem pj2:(laidOutB Tryz.pinned.checked.prog)=true:=by kernel_rfl
theorem pj3:(mapsRowed Tryz.pinned.checked.prog)=true:=by kernel_rfl
theorem pj4:(Tryz.f3.params.all (Tryz.pinned.checked.prog.readableRec ·))=true:=by kernel_rfl
theorem pj5:(namedTie Tryz.pinned.checked.prog Rows.deskPiecesRow.named Rows.deskPiecesSpec.vars)=true:=by kernel_rfl
theorem pj6:((Rows.deskPiecesRow.stops==[]))=true:=by kernel_rfl
theorem pj7:((Tryz.pinned.checked.prog.stops==[]))=true:=by kernel_rfl
theorem pj8:((Rows.deskPiecesRow.knobs==[]))=true:=by kernel_rfl
theorem pj9:((Tryz.pinned.checked.prog.stopKnobs==[]))=true:=by kernel_rfl
theorem pj10:((Rows.deskPiecesRow.inPlace==Tryz.pinned.checked.prog.inPlace 3))=true:=by kernel_rfl
theorem pj11:((Rows.deskPiecesRow.unfollowed==Tryz.pinned.checked.prog.unfollowed 3))=true:=by kernel_rfl
theorem pj12:((Rows.deskPiecesRow.recurses==Tryz.pinned.checked.prog.recurses 3))=true:=by kernel_rfl
theorem pj13:((Rows.deskPiecesRow.named==Tryz.pinned.checked.prog.varsNamed 3))=true:=by kernel_rfl
theorem pj14:((Rows.deskPiecesRow.maps==(Tryz.f3.params.toList++Rows.deskPiecesSpec.plain.varTypes Tryz.pinned.checked.prog).any (Tryz.pinned.checked.prog.mapsRec ·)))=true:=by kernel_rfl
theorem pj15:((Rows.deskPiecesRow.ifaces==(Tryz.f3.params.toList++Rows.deskPiecesSpec.plain.varTypes Tryz.pinned.checked.prog).any (Tryz.pinned.checked.prog.ifacesRec ·)))=true:=by kernel_rfl
theorem pj16:((Rows.deskPiecesRow.mapsOut==Tryz.pinned.checked.prog.mapsAmong Tryz.f3.resultTypes.toList))=true:=by kernel_rfl
theorem pj17:((Rows.deskPiecesRow.loops==(Tryz.f3.params.toList++Rows.deskPiecesSpec.plain.varTypes Tryz.pinned.checked.prog).any (Tryz.pinned.checked.prog.loopsFrom ·)))=true:=by kernel_rfl
theorem pj18:((Rows.deskPiecesRow.wideKeys==(Tryz.f3.params.toList++Rows.deskPiecesSpec.plain.varTypes Tryz.pinned.checked.prog++Tryz.f3.resultTypes.toList).any (Tryz.pinned.checked.prog.wideKeysFrom ·)))=true:=by kernel_rfl
theorem pj19:(Rows.deskPiecesSpec.vars.all (Tryz.pinned.checked.prog.varReadable ·))=true:=by kernel_rfl
theorem pj20:(Tryz.f3.resultTypes.all (fun t=>Tryz.pinned.checked.prog.readableRec t&&decide (t<Tryz.pinned.checked.prog.types.size)))=true:=by kernel_rfl
theorem pj21:((Rows.deskPiecesRow.ifacesOut==Tryz.f3.resultTypes.toList.any (Tryz.pinned.checked.prog.ifacesRec ·)))=true:=by kernel_rfl
theorem pj22:((Rows.deskPiecesRow.loopsOut==Tryz.f3.resultTypes.toList.any (Tryz.pinned.checked.prog.loopsFrom ·)))=true:=by kernel_rfl
theorem pj23:((Rows.deskPiecesRow.plainKeys==Tryz.pinned.checked.prog.plainKeys))=true:=by kernel_rfl
theorem pj24:(Rows.deskPiecesRow.shortTexts.isNone)=true:=by kernel_rfl
theorem pj25:(Tryz.pinned.checked.prog.stopsHeard)=true:=by kernel_rfl
theorem pj26:(Tryz.pinned.checked.prog.mayEnter)=true:=by kernel_rfl
theorem pj27:((Rows.deskPiecesRow.lifted==Tryz.pinned.checked.prog.liftsFinal))=true:=by kernel_rfl
theorem pj28:((Tryz.pinned.checked.prog.make==some Rows.deskPiecesRow.make))=true:=by kernel_rfl
theorem pj29:((Rows.deskPiecesRow.kinds==(if Rows.deskPiecesRow.domain.isEmpty then [] else Tryz.f3.params.toList.map fun t=>match Tryz.pinned.checked.prog.underlying t with | some (.int k)=>some k | _=>none)))=true:=by kernel_rfl
theorem pj30:((Rows.deskPiecesRow.pinned==Rows.deskPiecesRow.pinnedBy))=true:=by kernel_rfl
theorem pj31:((Rows.deskPiecesRow.veiled==(Tryz.f3.params.toList++Rows.deskPiecesSpec.plain.varTypes Tryz.pinned.checked.prog++Tryz.f3.resultTypes.toList).any (Tryz.pinned.checked.prog.veiledRec ·)))=true:=by kernel_rfl
theorem pj32:(Rows.deskPiecesRow.veiledFits Tryz.pinned.checked.prog Tryz.f3.params.toList (Tryz.f3.params.toList++Rows.deskPiecesSpec.plain.varTypes Tryz.pinned.checked.prog++Tryz.f3.resultTypes.toList))=true:=by kernel_rfl
end Go.Proofs.YtjefgmeejhakbabGreatDoor
