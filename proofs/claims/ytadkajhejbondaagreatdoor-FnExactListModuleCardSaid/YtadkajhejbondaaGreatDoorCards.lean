/-
  DERIVED. GIVEN WITH THE SEED: THE CARDS: each row of YtadkajhejbondaaGreatDoorRows.lean that lists a variable, with what it lists TIED to the program's text (the seventh form; the later family's looks); each row that meets fmt, with fmt's text TOLD by the authors' own Lean function (tested against real Go, not proved from fmt's source: count such statements apart). THE CARD IS WHAT COUNTS. Prove the row's statement (the work); the ties are given (YtadkajhejbondaaGreatDoorTie.lean); close each card by the builder's one call (the guide's Derived/Test/ToyasCard.lean, 'card_holds'). Laid BY PROGRAM, IN A SANDBOX (cutbox-door.mjs). By AI agents, Wed Nov 11 2026. No macro, syntax, notation, axiom, sorry.
-/
import Derived.Test.YtadkajhejbondaaGreatDoorRows
import GoSem.ClaimSeven
namespace Go.Proofs.YtadkajhejbondaaGreatDoor
namespace Rows

/-- THE TIED CARD OF 'laws.FnExactListModule'. -/
def fnExactListModuleCard : Claim7 := { stood := { row := fnExactListModuleRow, standIns := [], harness := (true, "c5f480bbe455d68f08e0bd080f4729d9be0558c83881d87d0fbaf246ba349027"), looks := false }, kinds := [], alts := [], laidByText := true, laidKinds := [.data, .data, .data, .wider, .wider], laidTests := true, laidLooks := .later }
def FnExactListModuleCardSaid : Prop := Claim7.holds Tryz.pinned (.plain (OpenSpec.ofChange fnExactListModuleSpec)) fnExactListModuleCard

/-- THE SECOND FORM's CARD OF 'laws.FnExactListModule'. -/
def fnExactListModuleUptoCard : Claim7 := { stood := { row := fnExactListModuleUptoRow, standIns := [], harness := (true, "c5f480bbe455d68f08e0bd080f4729d9be0558c83881d87d0fbaf246ba349027"), looks := false }, kinds := [], alts := [], laidByText := true, laidKinds := [.data, .data, .data, .wider, .wider], laidTests := true, laidLooks := .later }
def FnExactListModuleUptoCardSaid : Prop := Claim7.holds Tryz.pinned (.plain (OpenSpec.upto fnExactListModuleSpec)) fnExactListModuleUptoCard
end Rows
end Go.Proofs.YtadkajhejbondaaGreatDoor
