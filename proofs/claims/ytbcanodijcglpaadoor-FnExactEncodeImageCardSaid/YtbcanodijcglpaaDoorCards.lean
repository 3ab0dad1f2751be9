/-
  DERIVED. GIVEN WITH THE SEED: THE CARDS: each row of YtbcanodijcglpaaDoorRows.lean that lists a variable, with what it lists TIED to the program's text (the seventh form; the later family's looks); each row that meets fmt, with fmt's text TOLD by the authors' own Lean function (tested against real Go, not proved from fmt's source: count such statements apart). THE CARD IS WHAT COUNTS. Prove the row's statement (the work); the ties are given (YtbcanodijcglpaaDoorTie.lean); close each card by the builder's one call (the guide's Derived/Test/ToyasCard.lean, 'card_holds'). Laid BY PROGRAM, IN A SANDBOX (cutbox-door.mjs). By AI agents, Wed Nov 11 2026. No macro, syntax, notation, axiom, sorry.
-/
import Derived.Test.YtbcanodijcglpaaDoorRows
import GoSem.ClaimSeven
namespace Go.Proofs.YtbcanodijcglpaaDoor
namespace Rows

/-- THE TIED CARD OF 'laws.FnExactEncodeImage'. -/
def fnExactEncodeImageCard : Claim7 := { stood := { row := fnExactEncodeImageRow, standIns := [], harness := (true, "5d1d9f15465d9c9f9793520ae7f39c53dacab6256d16145f02d4f33f0cbdead7"), looks := false }, kinds := [], alts := [], laidByText := true, laidKinds := [.wider], laidTests := true, laidLooks := .later }
def FnExactEncodeImageCardSaid : Prop := Claim7.holds Tryd.pinned (.plain (OpenSpec.ofChange fnExactEncodeImageSpec)) fnExactEncodeImageCard

/-- THE SECOND FORM's CARD OF 'laws.FnExactEncodeImage'. -/
def fnExactEncodeImageUptoCard : Claim7 := { stood := { row := fnExactEncodeImageUptoRow, standIns := [], harness := (true, "5d1d9f15465d9c9f9793520ae7f39c53dacab6256d16145f02d4f33f0cbdead7"), looks := false }, kinds := [], alts := [], laidByText := true, laidKinds := [.wider], laidTests := true, laidLooks := .later }
def FnExactEncodeImageUptoCardSaid : Prop := Claim7.holds Tryd.pinned (.plain (OpenSpec.upto fnExactEncodeImageSpec)) fnExactEncodeImageUptoCard
end Rows
end Go.Proofs.YtbcanodijcglpaaDoor
