/-
  DERIVED. GIVEN WITH THE SEED: THE CARDS: each row of YtnnpfoilojicjaaGreatDoorRows.lean that lists a variable, with what it lists TIED to the program's text (the seventh form; the later family's looks); each row that meets fmt, with fmt's text TOLD by the authors' own Lean function (tested against real Go, not proved from fmt's source: count such statements apart). THE CARD IS WHAT COUNTS. Prove the row's statement (the work); the ties are given (YtnnpfoilojicjaaGreatDoorTie.lean); close each card by the builder's one call (the guide's Derived/Test/ToyasCard.lean, 'card_holds'). Laid BY PROGRAM, IN A SANDBOX (cutbox-door.mjs). By AI agents, Wed Nov 11 2026. No macro, syntax, notation, axiom, sorry.
-/
import Derived.Test.YtnnpfoilojicjaaGreatDoorRows
import GoSem.ClaimSeven
namespace Go.Proofs.YtnnpfoilojicjaaGreatDoor
namespace Rows

/-- THE TIED CARD OF 'laws.FnExactUnbound'. -/
def fnExactUnboundCard : Claim7 := { stood := { row := fnExactUnboundRow, standIns := [], harness := (true, "b79f170976752deeb1dad25d6e8eadb1a402cc57de81fe3dc2ffca0d9d22d5ba"), looks := true }, kinds := [], alts := [], laidByText := true, laidKinds := [.data, .data, .data, .handle, .wider], laidTests := true, laidLooks := .later }
def FnExactUnboundCardSaid : Prop := Claim7.holds Tryz.pinned (.plain (OpenSpec.ofChange fnExactUnboundSpec)) fnExactUnboundCard

/-- THE SECOND FORM's CARD OF 'laws.FnExactUnbound'. -/
def fnExactUnboundUptoCard : Claim7 := { stood := { row := fnExactUnboundUptoRow, standIns := [], harness := (true, "b79f170976752deeb1dad25d6e8eadb1a402cc57de81fe3dc2ffca0d9d22d5ba"), looks := true }, kinds := [], alts := [], laidByText := true, laidKinds := [.data, .data, .data, .handle, .wider], laidTests := true, laidLooks := .later }
def FnExactUnboundUptoCardSaid : Prop := Claim7.holds Tryz.pinned (.plain (OpenSpec.upto fnExactUnboundSpec)) fnExactUnboundUptoCard
end Rows
end Go.Proofs.YtnnpfoilojicjaaGreatDoor
