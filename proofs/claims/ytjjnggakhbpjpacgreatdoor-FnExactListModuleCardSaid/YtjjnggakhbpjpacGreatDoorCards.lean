/-
  DERIVED. GIVEN WITH THE SEED: THE CARDS: each row of YtjjnggakhbpjpacGreatDoorRows.lean that lists a variable, with what it lists TIED to the program's text (the seventh form; the later family's looks); each row that meets fmt, with fmt's text TOLD by the authors' own Lean function (tested against real Go, not proved from fmt's source: count such statements apart). THE CARD IS WHAT COUNTS. Prove the row's statement (the work); the ties are given (YtjjnggakhbpjpacGreatDoorTie.lean); close each card by the builder's one call (the guide's Derived/Test/ToyasCard.lean, 'card_holds'). Laid BY PROGRAM, IN A SANDBOX (cutbox-door.mjs). By AI agents, Wed Nov 11 2026. No macro, syntax, notation, axiom, sorry.
-/
import Derived.Test.YtjjnggakhbpjpacGreatDoorRows
import GoSem.ClaimSeven
namespace Go.Proofs.YtjjnggakhbpjpacGreatDoor
namespace Rows

/-- THE TIED CARD OF 'laws.FnExactListModule'. -/
def fnExactListModuleCard : Claim7 := { stood := { row := fnExactListModuleRow, standIns := [], harness := (true, "a3ddad35ebd5a0a37aa72f45602a50a2b920dd09dee9806073969c15943d7f93"), looks := true }, kinds := [], alts := [], laidByText := true, laidKinds := [.data, .data, .data, .wider, .wider], laidTests := true, laidLooks := .later }
def FnExactListModuleCardSaid : Prop := Claim7.holds Tryz.pinned (.plain (OpenSpec.ofChange fnExactListModuleSpec)) fnExactListModuleCard

/-- THE TIED CARD OF 'laws.FnExactDecodeImage'. -/
def fnExactDecodeImageCard : Claim7 := { stood := { row := fnExactDecodeImageRow, standIns := [], harness := (true, "a3ddad35ebd5a0a37aa72f45602a50a2b920dd09dee9806073969c15943d7f93"), looks := true }, kinds := [], alts := [], laidByText := true, laidKinds := [.handle, .wider], laidTests := true, laidLooks := .later }
def FnExactDecodeImageCardSaid : Prop := Claim7.holds Tryz.pinned (.plain (OpenSpec.ofChange fnExactDecodeImageSpec)) fnExactDecodeImageCard

/-- THE TIED CARD OF 'laws.FnExactUnbound'. -/
def fnExactUnboundCard : Claim7 := { stood := { row := fnExactUnboundRow, standIns := [], harness := (true, "a3ddad35ebd5a0a37aa72f45602a50a2b920dd09dee9806073969c15943d7f93"), looks := true }, kinds := [], alts := [], laidByText := true, laidKinds := [.data, .data, .data, .handle, .wider], laidTests := true, laidLooks := .later }
def FnExactUnboundCardSaid : Prop := Claim7.holds Tryz.pinned (.plain (OpenSpec.ofChange fnExactUnboundSpec)) fnExactUnboundCard

/-- THE TIED CARD OF 'laws.FnExactCompile'. -/
def fnExactCompileCard : Claim7 := { stood := { row := fnExactCompileRow, standIns := [], harness := (true, "a3ddad35ebd5a0a37aa72f45602a50a2b920dd09dee9806073969c15943d7f93"), looks := true }, kinds := [], alts := [], laidByText := true, laidKinds := [.data, .data, .data, .handle, .wider, .wider], laidTests := true, laidLooks := .later }
def FnExactCompileCardSaid : Prop := Claim7.holds Tryz.pinned (.plain (OpenSpec.ofChange fnExactCompileSpec)) fnExactCompileCard

/-- THE SECOND FORM's CARD OF 'laws.FnExactListModule'. -/
def fnExactListModuleUptoCard : Claim7 := { stood := { row := fnExactListModuleUptoRow, standIns := [], harness := (true, "a3ddad35ebd5a0a37aa72f45602a50a2b920dd09dee9806073969c15943d7f93"), looks := true }, kinds := [], alts := [], laidByText := true, laidKinds := [.data, .data, .data, .wider, .wider], laidTests := true, laidLooks := .later }
def FnExactListModuleUptoCardSaid : Prop := Claim7.holds Tryz.pinned (.plain (OpenSpec.upto fnExactListModuleSpec)) fnExactListModuleUptoCard

/-- THE SECOND FORM's CARD OF 'laws.FnExactDecodeImage'. -/
def fnExactDecodeImageUptoCard : Claim7 := { stood := { row := fnExactDecodeImageUptoRow, standIns := [], harness := (true, "a3ddad35ebd5a0a37aa72f45602a50a2b920dd09dee9806073969c15943d7f93"), looks := true }, kinds := [], alts := [], laidByText := true, laidKinds := [.handle, .wider], laidTests := true, laidLooks := .later }
def FnExactDecodeImageUptoCardSaid : Prop := Claim7.holds Tryz.pinned (.plain (OpenSpec.upto fnExactDecodeImageSpec)) fnExactDecodeImageUptoCard

/-- THE SECOND FORM's CARD OF 'laws.FnExactUnbound'. -/
def fnExactUnboundUptoCard : Claim7 := { stood := { row := fnExactUnboundUptoRow, standIns := [], harness := (true, "a3ddad35ebd5a0a37aa72f45602a50a2b920dd09dee9806073969c15943d7f93"), looks := true }, kinds := [], alts := [], laidByText := true, laidKinds := [.data, .data, .data, .handle, .wider], laidTests := true, laidLooks := .later }
def FnExactUnboundUptoCardSaid : Prop := Claim7.holds Tryz.pinned (.plain (OpenSpec.upto fnExactUnboundSpec)) fnExactUnboundUptoCard

/-- THE SECOND FORM's CARD OF 'laws.FnExactCompile'. -/
def fnExactCompileUptoCard : Claim7 := { stood := { row := fnExactCompileUptoRow, standIns := [], harness := (true, "a3ddad35ebd5a0a37aa72f45602a50a2b920dd09dee9806073969c15943d7f93"), looks := true }, kinds := [], alts := [], laidByText := true, laidKinds := [.data, .data, .data, .handle, .wider, .wider], laidTests := true, laidLooks := .later }
def FnExactCompileUptoCardSaid : Prop := Claim7.holds Tryz.pinned (.plain (OpenSpec.upto fnExactCompileSpec)) fnExactCompileUptoCard
end Rows
end Go.Proofs.YtjjnggakhbpjpacGreatDoor
