/-
  DERIVED. GIVEN WITH THE SEED: THE CARDS: each row of YtlpibogllmlacaaDoorRows.lean that lists a variable, with what it lists TIED to the program's text (the seventh form; the later family's looks); each row that meets fmt, with fmt's text TOLD by the authors' own Lean function (tested against real Go, not proved from fmt's source: count such statements apart). THE CARD IS WHAT COUNTS. Prove the row's statement (the work); the ties are given (YtlpibogllmlacaaDoorTie.lean); close each card by the builder's one call (the guide's Derived/Test/ToyasCard.lean, 'card_holds'). Laid BY PROGRAM, IN A SANDBOX (cutbox-door.mjs). By AI agents, Wed Nov 11 2026. No macro, syntax, notation, axiom, sorry.
-/
import Derived.Test.YtlpibogllmlacaaDoorRows
import GoSem.ClaimSeven
namespace Go.Proofs.YtlpibogllmlacaaDoor
namespace Rows

/-- THE TIED CARD OF 'laws.FnExactValidModule'. -/
def fnExactValidModuleCard : Claim7 := { stood := { row := fnExactValidModuleRow, standIns := [], harness := (true, "a432bb3c2b170d247db5f00f1a878931d4969fd5a5cd47fe87a4a67c8be7682f"), looks := false }, kinds := [], alts := [], laidByText := true, laidKinds := [.wider], laidTests := true, laidLooks := .later }
def FnExactValidModuleCardSaid : Prop := Claim7.holds Tryd.pinned (.plain (OpenSpec.ofChange fnExactValidModuleSpec)) fnExactValidModuleCard

/-- THE SECOND FORM's CARD OF 'laws.FnExactValidModule'. -/
def fnExactValidModuleUptoCard : Claim7 := { stood := { row := fnExactValidModuleUptoRow, standIns := [], harness := (true, "a432bb3c2b170d247db5f00f1a878931d4969fd5a5cd47fe87a4a67c8be7682f"), looks := false }, kinds := [], alts := [], laidByText := true, laidKinds := [.wider], laidTests := true, laidLooks := .later }
def FnExactValidModuleUptoCardSaid : Prop := Claim7.holds Tryd.pinned (.plain (OpenSpec.upto fnExactValidModuleSpec)) fnExactValidModuleUptoCard
end Rows
end Go.Proofs.YtlpibogllmlacaaDoor
