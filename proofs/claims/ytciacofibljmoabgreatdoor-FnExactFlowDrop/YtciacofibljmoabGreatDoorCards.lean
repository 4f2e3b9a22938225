/-
  DERIVED. GIVEN WITH THE SEED: THE CARDS: each row of YtciacofibljmoabGreatDoorRows.lean that lists a variable, with what it lists TIED to the program's text (the seventh form; the later family's looks); each row that meets fmt, with fmt's text TOLD by the authors' own Lean function (tested against real Go, not proved from fmt's source: count such statements apart). THE CARD IS WHAT COUNTS. Prove the row's statement (the work); the ties are given (YtciacofibljmoabGreatDoorTie.lean); close each card by the builder's one call (the guide's Derived/Test/ToyasCard.lean, 'card_holds'). Laid BY PROGRAM, IN A SANDBOX (cutbox-door.mjs). By AI agents, Wed Nov 11 2026. No macro, syntax, notation, axiom, sorry.
-/
import Derived.Test.YtciacofibljmoabGreatDoorRows
import GoSem.ClaimSeven
namespace Go.Proofs.YtciacofibljmoabGreatDoor
namespace Rows

/-- THE TIED CARD OF 'laws.FnExactFlowAdd'. -/
def fnExactFlowAddCard : Claim7 := { stood := { row := fnExactFlowAddRow, standIns := [], harness := (true, "27871b2ef16d7bff64e39c3d042bd166ce8f3db3808c95f8ebd1632cb66e7863"), looks := true }, kinds := [], alts := [], laidByText := true, laidKinds := [.handle], laidTests := true, laidLooks := .later }
def FnExactFlowAddCardSaid : Prop := Claim7.holds Tryz.pinned (.plain (OpenSpec.ofChange fnExactFlowAddSpec)) fnExactFlowAddCard

/-- THE TIED CARD OF 'laws.FnExactFlowDrop'. -/
def fnExactFlowDropCard : Claim7 := { stood := { row := fnExactFlowDropRow, standIns := [], harness := (true, "27871b2ef16d7bff64e39c3d042bd166ce8f3db3808c95f8ebd1632cb66e7863"), looks := true }, kinds := [], alts := [], laidByText := true, laidKinds := [.handle], laidTests := true, laidLooks := .later }
def FnExactFlowDropCardSaid : Prop := Claim7.holds Tryz.pinned (.plain (OpenSpec.ofChange fnExactFlowDropSpec)) fnExactFlowDropCard

/-- THE SECOND FORM's CARD OF 'laws.FnExactFlowAdd'. -/
def fnExactFlowAddUptoCard : Claim7 := { stood := { row := fnExactFlowAddUptoRow, standIns := [], harness := (true, "27871b2ef16d7bff64e39c3d042bd166ce8f3db3808c95f8ebd1632cb66e7863"), looks := true }, kinds := [], alts := [], laidByText := true, laidKinds := [.handle], laidTests := true, laidLooks := .later }
def FnExactFlowAddUptoCardSaid : Prop := Claim7.holds Tryz.pinned (.plain (OpenSpec.upto fnExactFlowAddSpec)) fnExactFlowAddUptoCard

/-- THE SECOND FORM's CARD OF 'laws.FnExactFlowDrop'. -/
def fnExactFlowDropUptoCard : Claim7 := { stood := { row := fnExactFlowDropUptoRow, standIns := [], harness := (true, "27871b2ef16d7bff64e39c3d042bd166ce8f3db3808c95f8ebd1632cb66e7863"), looks := true }, kinds := [], alts := [], laidByText := true, laidKinds := [.handle], laidTests := true, laidLooks := .later }
def FnExactFlowDropUptoCardSaid : Prop := Claim7.holds Tryz.pinned (.plain (OpenSpec.upto fnExactFlowDropSpec)) fnExactFlowDropUptoCard
end Rows
end Go.Proofs.YtciacofibljmoabGreatDoor
