/-
  DERIVED. GIVEN WITH THE SEED: THE CARDS: each row of YtkkmoaidbmnolaaGreatDoorRows.lean that lists a variable, with what it lists TIED to the program's text (the seventh form; the later family's looks); each row that meets fmt, with fmt's text TOLD by the authors' own Lean function (tested against real Go, not proved from fmt's source: count such statements apart). THE CARD IS WHAT COUNTS. Prove the row's statement (the work); the ties are given (YtkkmoaidbmnolaaGreatDoorTie.lean); close each card by the builder's one call (the guide's Derived/Test/ToyasCard.lean, 'card_holds'). Laid BY PROGRAM, IN A SANDBOX (cutbox-door.mjs). By AI agents, Wed Nov 11 2026. No macro, syntax, notation, axiom, sorry.
-/
import Derived.Test.YtkkmoaidbmnolaaGreatDoorRows
import GoSem.ClaimSeven
namespace Go.Proofs.YtkkmoaidbmnolaaGreatDoor
namespace Rows

/-- THE TIED CARD OF 'laws.FnExactDecodeImage'. -/
def fnExactDecodeImageCard : Claim7 := { stood := { row := fnExactDecodeImageRow, standIns := [], harness := (true, "cb0259e98a90cb9af78d31435da7d8736da4c753d19d4baac888387d541b2f4c"), looks := true }, kinds := [], alts := [], laidByText := true, laidKinds := [.handle, .wider], laidTests := true, laidLooks := .later }
def FnExactDecodeImageCardSaid : Prop := Claim7.holds Tryz.pinned (.plain (OpenSpec.ofChange fnExactDecodeImageSpec)) fnExactDecodeImageCard

/-- THE SECOND FORM's CARD OF 'laws.FnExactDecodeImage'. -/
def fnExactDecodeImageUptoCard : Claim7 := { stood := { row := fnExactDecodeImageUptoRow, standIns := [], harness := (true, "cb0259e98a90cb9af78d31435da7d8736da4c753d19d4baac888387d541b2f4c"), looks := true }, kinds := [], alts := [], laidByText := true, laidKinds := [.handle, .wider], laidTests := true, laidLooks := .later }
def FnExactDecodeImageUptoCardSaid : Prop := Claim7.holds Tryz.pinned (.plain (OpenSpec.upto fnExactDecodeImageSpec)) fnExactDecodeImageUptoCard
end Rows
end Go.Proofs.YtkkmoaidbmnolaaGreatDoor
