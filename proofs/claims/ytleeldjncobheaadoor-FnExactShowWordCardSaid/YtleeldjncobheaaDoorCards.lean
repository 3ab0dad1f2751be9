/-
  DERIVED. GIVEN WITH THE SEED: THE CARDS: each row of YtleeldjncobheaaDoorRows.lean that lists a variable, with what it lists TIED to the program's text (the seventh form; the later family's looks); each row that meets fmt, with fmt's text TOLD by the authors' own Lean function (tested against real Go, not proved from fmt's source: count such statements apart). THE CARD IS WHAT COUNTS. Prove the row's statement (the work); the ties are given (YtleeldjncobheaaDoorTie.lean); close each card by the builder's one call (the guide's Derived/Test/ToyasCard.lean, 'card_holds'). Laid BY PROGRAM, IN A SANDBOX (cutbox-door.mjs). By AI agents, Wed Nov 11 2026. No macro, syntax, notation, axiom, sorry.
-/
import Derived.Test.YtleeldjncobheaaDoorRows
import GoSem.ClaimSeven
namespace Go.Proofs.YtleeldjncobheaaDoor
namespace Rows

/-- THE TIED CARD OF 'laws.FnExactWriteData'. -/
def fnExactWriteDataCard : Claim7 := { stood := { row := fnExactWriteDataRow, standIns := [], harness := (true, "13146008926c05a9bc1fd55c7a012e657d33237c71b19e5927d6bf8e4af95cf8"), looks := true }, kinds := [], alts := [], laidByText := true, laidKinds := [.data, .data, .data], laidTests := true, laidLooks := .later }
def FnExactWriteDataCardSaid : Prop := Claim7.holds Tryd.pinned (.plain (OpenSpec.ofChange fnExactWriteDataSpec)) fnExactWriteDataCard

/-- THE TIED CARD OF 'laws.FnExactShowWord'. -/
def fnExactShowWordCard : Claim7 := { stood := { row := fnExactShowWordRow, standIns := [], harness := (true, "13146008926c05a9bc1fd55c7a012e657d33237c71b19e5927d6bf8e4af95cf8"), looks := true }, kinds := [], alts := [], laidByText := true, laidKinds := [.data, .data, .data], laidTests := true, laidLooks := .later }
def FnExactShowWordCardSaid : Prop := Claim7.holds Tryd.pinned (.plain (OpenSpec.ofChange fnExactShowWordSpec)) fnExactShowWordCard

/-- THE SECOND FORM's CARD OF 'laws.FnExactWriteData'. -/
def fnExactWriteDataUptoCard : Claim7 := { stood := { row := fnExactWriteDataUptoRow, standIns := [], harness := (true, "13146008926c05a9bc1fd55c7a012e657d33237c71b19e5927d6bf8e4af95cf8"), looks := true }, kinds := [], alts := [], laidByText := true, laidKinds := [.data, .data, .data], laidTests := true, laidLooks := .later }
def FnExactWriteDataUptoCardSaid : Prop := Claim7.holds Tryd.pinned (.plain (OpenSpec.upto fnExactWriteDataSpec)) fnExactWriteDataUptoCard

/-- THE SECOND FORM's CARD OF 'laws.FnExactShowWord'. -/
def fnExactShowWordUptoCard : Claim7 := { stood := { row := fnExactShowWordUptoRow, standIns := [], harness := (true, "13146008926c05a9bc1fd55c7a012e657d33237c71b19e5927d6bf8e4af95cf8"), looks := true }, kinds := [], alts := [], laidByText := true, laidKinds := [.data, .data, .data], laidTests := true, laidLooks := .later }
def FnExactShowWordUptoCardSaid : Prop := Claim7.holds Tryd.pinned (.plain (OpenSpec.upto fnExactShowWordSpec)) fnExactShowWordUptoCard
end Rows
end Go.Proofs.YtleeldjncobheaaDoor
