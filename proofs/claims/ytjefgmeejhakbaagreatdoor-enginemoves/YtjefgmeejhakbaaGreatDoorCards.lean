/-
  DERIVED. GIVEN WITH THE SEED: THE CARDS: each row of YtjefgmeejhakbaaGreatDoorRows.lean that lists a variable, with what it lists TIED to the program's text (the seventh form; the later family's looks); each row that meets fmt, with fmt's text TOLD by the authors' own Lean function (tested against real Go, not proved from fmt's source: count such statements apart). THE CARD IS WHAT COUNTS. Prove the row's statement (the work); the ties are given (YtjefgmeejhakbaaGreatDoorTie.lean); close each card by the builder's one call (the guide's Derived/Test/ToyasCard.lean, 'card_holds'). Laid BY PROGRAM, IN A SANDBOX (cutbox-door.mjs). By AI agents, Wed Nov 11 2026. No macro, syntax, notation, axiom, sorry.
-/
import Derived.Test.YtjefgmeejhakbaaGreatDoorRows
import GoSem.ClaimSeven
namespace Go.Proofs.YtjefgmeejhakbaaGreatDoor
namespace Rows

/-- THE TIED CARD OF 'interleaflaw.OrderLines'. -/
def orderLinesCard : Claim7 := { stood := { row := orderLinesRow, standIns := [], harness := (true, "5486c8b960671a4c0bf46c7a48d0c737789be438ddcf861f323587f5c5430d89"), looks := true }, kinds := [], alts := [], laidByText := true, laidKinds := [.handle], laidTests := true, laidLooks := .later }
def OrderLinesCardSaid : Prop := Claim7.holds Tryz.pinned (.plain (OpenSpec.ofChange orderLinesSpec)) orderLinesCard

/-- THE TIED CARD OF 'interleaflaw.EnginePlays'. -/
def enginePlaysCard : Claim7 := { stood := { row := enginePlaysRow, standIns := [], harness := (true, "5486c8b960671a4c0bf46c7a48d0c737789be438ddcf861f323587f5c5430d89"), looks := true }, kinds := [], alts := [], laidByText := true, laidKinds := [.handle], laidTests := true, laidLooks := .later }
def EnginePlaysCardSaid : Prop := Claim7.holds Tryz.pinned (.plain (OpenSpec.ofChange enginePlaysSpec)) enginePlaysCard

/-- THE TIED CARD OF 'interleafkeep.EngineStrict'. -/
def engineStrictCard : Claim7 := { stood := { row := engineStrictRow, standIns := [], harness := (true, "5486c8b960671a4c0bf46c7a48d0c737789be438ddcf861f323587f5c5430d89"), looks := true }, kinds := [], alts := [], laidByText := true, laidKinds := [.handle], laidTests := true, laidLooks := .later }
def EngineStrictCardSaid : Prop := Claim7.holds Tryz.pinned (.plain (OpenSpec.ofChange engineStrictSpec)) engineStrictCard

/-- THE TIED CARD OF 'interleafkeep.EngineSteady'. -/
def engineSteadyCard : Claim7 := { stood := { row := engineSteadyRow, standIns := [], harness := (true, "5486c8b960671a4c0bf46c7a48d0c737789be438ddcf861f323587f5c5430d89"), looks := true }, kinds := [], alts := [], laidByText := true, laidKinds := [.handle], laidTests := true, laidLooks := .later }
def EngineSteadyCardSaid : Prop := Claim7.holds Tryz.pinned (.plain (OpenSpec.ofChange engineSteadySpec)) engineSteadyCard

/-- THE TIED CARD OF 'interleafkeep.EngineMoves'. -/
def engineMovesCard : Claim7 := { stood := { row := engineMovesRow, standIns := [], harness := (true, "5486c8b960671a4c0bf46c7a48d0c737789be438ddcf861f323587f5c5430d89"), looks := true }, kinds := [], alts := [], laidByText := true, laidKinds := [.handle], laidTests := true, laidLooks := .later }
def EngineMovesCardSaid : Prop := Claim7.holds Tryz.pinned (.plain (OpenSpec.ofChange engineMovesSpec)) engineMovesCard

/-- THE TIED CARD OF 'interleaflaw.BasePlays'. -/
def basePlaysCard : Claim7 := { stood := { row := basePlaysRow, standIns := [], harness := (true, "5486c8b960671a4c0bf46c7a48d0c737789be438ddcf861f323587f5c5430d89"), looks := true }, kinds := [], alts := [], laidByText := true, laidKinds := [.handle], laidTests := true, laidLooks := .later }
def BasePlaysCardSaid : Prop := Claim7.holds Tryz.pinned (.plain (OpenSpec.ofChange basePlaysSpec)) basePlaysCard

/-- THE TIED CARD OF 'interleafkeep.BaseCrashes'. -/
def baseCrashesCard : Claim7 := { stood := { row := baseCrashesRow, standIns := [], harness := (true, "5486c8b960671a4c0bf46c7a48d0c737789be438ddcf861f323587f5c5430d89"), looks := true }, kinds := [], alts := [], laidByText := true, laidKinds := [.handle], laidTests := true, laidLooks := .later }
def BaseCrashesCardSaid : Prop := Claim7.holds Tryz.pinned (.plain (OpenSpec.ofChange baseCrashesSpec)) baseCrashesCard

/-- THE SECOND FORM's CARD OF 'interleaflaw.OrderLines'. -/
def orderLinesUptoCard : Claim7 := { stood := { row := orderLinesUptoRow, standIns := [], harness := (true, "5486c8b960671a4c0bf46c7a48d0c737789be438ddcf861f323587f5c5430d89"), looks := true }, kinds := [], alts := [], laidByText := true, laidKinds := [.handle], laidTests := true, laidLooks := .later }
def OrderLinesUptoCardSaid : Prop := Claim7.holds Tryz.pinned (.plain (OpenSpec.upto orderLinesSpec)) orderLinesUptoCard

/-- THE SECOND FORM's CARD OF 'interleaflaw.EnginePlays'. -/
def enginePlaysUptoCard : Claim7 := { stood := { row := enginePlaysUptoRow, standIns := [], harness := (true, "5486c8b960671a4c0bf46c7a48d0c737789be438ddcf861f323587f5c5430d89"), looks := true }, kinds := [], alts := [], laidByText := true, laidKinds := [.handle], laidTests := true, laidLooks := .later }
def EnginePlaysUptoCardSaid : Prop := Claim7.holds Tryz.pinned (.plain (OpenSpec.upto enginePlaysSpec)) enginePlaysUptoCard

/-- THE SECOND FORM's CARD OF 'interleafkeep.EngineStrict'. -/
def engineStrictUptoCard : Claim7 := { stood := { row := engineStrictUptoRow, standIns := [], harness := (true, "5486c8b960671a4c0bf46c7a48d0c737789be438ddcf861f323587f5c5430d89"), looks := true }, kinds := [], alts := [], laidByText := true, laidKinds := [.handle], laidTests := true, laidLooks := .later }
def EngineStrictUptoCardSaid : Prop := Claim7.holds Tryz.pinned (.plain (OpenSpec.upto engineStrictSpec)) engineStrictUptoCard

/-- THE SECOND FORM's CARD OF 'interleafkeep.EngineSteady'. -/
def engineSteadyUptoCard : Claim7 := { stood := { row := engineSteadyUptoRow, standIns := [], harness := (true, "5486c8b960671a4c0bf46c7a48d0c737789be438ddcf861f323587f5c5430d89"), looks := true }, kinds := [], alts := [], laidByText := true, laidKinds := [.handle], laidTests := true, laidLooks := .later }
def EngineSteadyUptoCardSaid : Prop := Claim7.holds Tryz.pinned (.plain (OpenSpec.upto engineSteadySpec)) engineSteadyUptoCard

/-- THE SECOND FORM's CARD OF 'interleafkeep.EngineMoves'. -/
def engineMovesUptoCard : Claim7 := { stood := { row := engineMovesUptoRow, standIns := [], harness := (true, "5486c8b960671a4c0bf46c7a48d0c737789be438ddcf861f323587f5c5430d89"), looks := true }, kinds := [], alts := [], laidByText := true, laidKinds := [.handle], laidTests := true, laidLooks := .later }
def EngineMovesUptoCardSaid : Prop := Claim7.holds Tryz.pinned (.plain (OpenSpec.upto engineMovesSpec)) engineMovesUptoCard

/-- THE SECOND FORM's CARD OF 'interleaflaw.BasePlays'. -/
def basePlaysUptoCard : Claim7 := { stood := { row := basePlaysUptoRow, standIns := [], harness := (true, "5486c8b960671a4c0bf46c7a48d0c737789be438ddcf861f323587f5c5430d89"), looks := true }, kinds := [], alts := [], laidByText := true, laidKinds := [.handle], laidTests := true, laidLooks := .later }
def BasePlaysUptoCardSaid : Prop := Claim7.holds Tryz.pinned (.plain (OpenSpec.upto basePlaysSpec)) basePlaysUptoCard

/-- THE SECOND FORM's CARD OF 'interleafkeep.BaseCrashes'. -/
def baseCrashesUptoCard : Claim7 := { stood := { row := baseCrashesUptoRow, standIns := [], harness := (true, "5486c8b960671a4c0bf46c7a48d0c737789be438ddcf861f323587f5c5430d89"), looks := true }, kinds := [], alts := [], laidByText := true, laidKinds := [.handle], laidTests := true, laidLooks := .later }
def BaseCrashesUptoCardSaid : Prop := Claim7.holds Tryz.pinned (.plain (OpenSpec.upto baseCrashesSpec)) baseCrashesUptoCard
end Rows
end Go.Proofs.YtjefgmeejhakbaaGreatDoor
