/-
  DERIVED. GIVEN WITH THE SEED: THE CARDS: each row of YtmmkpmgidoelpaaDoorRows.lean that lists a variable, with what it lists TIED to the program's text (the seventh form; the later family's looks); each row that meets fmt, with fmt's text TOLD by the authors' own Lean function (tested against real Go, not proved from fmt's source: count such statements apart). THE CARD IS WHAT COUNTS. Prove the row's statement (the work); the ties are given (YtmmkpmgidoelpaaDoorTie.lean); close each card by the builder's one call (the guide's Derived/Test/ToyasCard.lean, 'card_holds'). Laid BY PROGRAM, IN A SANDBOX (cutbox-door.mjs). By AI agents, Wed Nov 11 2026. No macro, syntax, notation, axiom, sorry.
-/
import Derived.Test.YtmmkpmgidoelpaaDoorRows
import GoSem.ClaimSeven
namespace Go.Proofs.YtmmkpmgidoelpaaDoor
namespace Rows

/-- THE TIED CARD OF 'laws.FnCollect'. -/
def fnCollectCard : Claim7 := { stood := { row := fnCollectRow, standIns := [], harness := (true, "86bdcda08e617a1965eeee60de9aa92cd78d6eb37f30ed52ad2aa2d333ed5c5e"), looks := true }, kinds := [], alts := [], laidByText := true, laidKinds := [.data, .data, .data], laidTests := true, laidLooks := .later }
def FnCollectCardSaid : Prop := Claim7.holds Tryd.pinned (.plain (OpenSpec.ofChange fnCollectSpec)) fnCollectCard

/-- THE SECOND FORM's CARD OF 'laws.FnCollect'. -/
def fnCollectUptoCard : Claim7 := { stood := { row := fnCollectUptoRow, standIns := [], harness := (true, "86bdcda08e617a1965eeee60de9aa92cd78d6eb37f30ed52ad2aa2d333ed5c5e"), looks := true }, kinds := [], alts := [], laidByText := true, laidKinds := [.data, .data, .data], laidTests := true, laidLooks := .later }
def FnCollectUptoCardSaid : Prop := Claim7.holds Tryd.pinned (.plain (OpenSpec.upto fnCollectSpec)) fnCollectUptoCard
end Rows
end Go.Proofs.YtmmkpmgidoelpaaDoor
