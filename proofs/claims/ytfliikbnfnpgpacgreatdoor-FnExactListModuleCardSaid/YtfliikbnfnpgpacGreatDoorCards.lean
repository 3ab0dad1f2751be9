/-
  DERIVED. GIVEN WITH THE SEED: THE CARDS: each row of YtfliikbnfnpgpacGreatDoorRows.lean that lists a variable, with what it lists TIED to the program's text (the seventh form; the later family's looks); each row that meets fmt, with fmt's text TOLD by the authors' own Lean function (tested against real Go, not proved from fmt's source: count such statements apart). THE CARD IS WHAT COUNTS. Prove the row's statement (the work); the ties are given (YtfliikbnfnpgpacGreatDoorTie.lean); close each card by the builder's one call (the guide's Derived/Test/ToyasCard.lean, 'card_holds'). Laid BY PROGRAM, IN A SANDBOX (cutbox-door.mjs). By AI agents, Wed Nov 11 2026. No macro, syntax, notation, axiom, sorry.
-/
import Derived.Test.YtfliikbnfnpgpacGreatDoorRows
import GoSem.ClaimSeven
namespace Go.Proofs.YtfliikbnfnpgpacGreatDoor
namespace Rows

/-- THE TIED CARD OF 'laws.FnExactListModule'. -/
def fnExactListModuleCard : Claim7 := { stood := { row := fnExactListModuleRow, standIns := [], harness := (true, "a0251dc4de1e6fb263511059e7d5589b9a0178dd3752ff13492f8001fd1af339"), looks := true }, kinds := [], alts := [], laidByText := true, laidKinds := [.data, .data, .data, .wider, .wider], laidTests := true, laidLooks := .later }
def FnExactListModuleCardSaid : Prop := Claim7.holds Tryz.pinned (.plain (OpenSpec.ofChange fnExactListModuleSpec)) fnExactListModuleCard

/-- THE TIED CARD OF 'laws.FnExactDecodeImage'. -/
def fnExactDecodeImageCard : Claim7 := { stood := { row := fnExactDecodeImageRow, standIns := [], harness := (true, "a0251dc4de1e6fb263511059e7d5589b9a0178dd3752ff13492f8001fd1af339"), looks := true }, kinds := [], alts := [], laidByText := true, laidKinds := [.handle, .wider], laidTests := true, laidLooks := .later }
def FnExactDecodeImageCardSaid : Prop := Claim7.holds Tryz.pinned (.plain (OpenSpec.ofChange fnExactDecodeImageSpec)) fnExactDecodeImageCard

/-- THE SECOND FORM's CARD OF 'laws.FnExactListModule'. -/
def fnExactListModuleUptoCard : Claim7 := { stood := { row := fnExactListModuleUptoRow, standIns := [], harness := (true, "a0251dc4de1e6fb263511059e7d5589b9a0178dd3752ff13492f8001fd1af339"), looks := true }, kinds := [], alts := [], laidByText := true, laidKinds := [.data, .data, .data, .wider, .wider], laidTests := true, laidLooks := .later }
def FnExactListModuleUptoCardSaid : Prop := Claim7.holds Tryz.pinned (.plain (OpenSpec.upto fnExactListModuleSpec)) fnExactListModuleUptoCard

/-- THE SECOND FORM's CARD OF 'laws.FnExactDecodeImage'. -/
def fnExactDecodeImageUptoCard : Claim7 := { stood := { row := fnExactDecodeImageUptoRow, standIns := [], harness := (true, "a0251dc4de1e6fb263511059e7d5589b9a0178dd3752ff13492f8001fd1af339"), looks := true }, kinds := [], alts := [], laidByText := true, laidKinds := [.handle, .wider], laidTests := true, laidLooks := .later }
def FnExactDecodeImageUptoCardSaid : Prop := Claim7.holds Tryz.pinned (.plain (OpenSpec.upto fnExactDecodeImageSpec)) fnExactDecodeImageUptoCard
end Rows
end Go.Proofs.YtfliikbnfnpgpacGreatDoor
