/-
  NARROWER THAN 'FOR EVERY INPUT', by the rows' own cells (each row's printed sentence says how): FnExactDecodeImage: laid.
  DERIVED. THE GIVEN ROWS OF THIS SEAT. 1 by the template 'for every input the law returns true; each argument reads behind the call as it read before'; 0 by the template 'total and deterministic' (their statements: YtkkmoaidbmnolaaGreatDoorTotals.lean).
  GIVEN WITH THE SEED: the statements are not yours to turn. If you find one false, say at which input.
  Laid BY PROGRAM, IN A SANDBOX (cutbox-rows.mjs): the forced cells as the released guide's own fill.sh prints them over the translation c842d61b21abb477… (all of the seat's roots in one cut). By AI agents, Wed Nov 11 2026. No macro, syntax, notation, axiom, sorry.
-/
import Derived.Test.YtkkmoaidbmnolaaGreatDoorChecked
import GoSem.Claim
import GoSem.ClaimJoined
import GoSem.ClaimMapViews
import Derived.JoinedTies
import Derived.KernelRfl
namespace Go.Proofs.YtkkmoaidbmnolaaGreatDoor
/- THE CELL 'sum', in the pinned program and in every row, IS THE sha256 OF THE DUMP (.gsa) THAT YtkkmoaidbmnolaaGreatDoorProg.lean LOADS. Nothing in Lean hashes anything: it is a label: what it is worth is what the hold of that sum in a sandbox is worth. -/
noncomputable def Tryz.pinned : Pinned := { name := "ytkkmoaidbmnolaagreatdoor", sum := "c842d61b21abb4778c71495c5e661a06748c45adaa5c30b71bdb3f27dad62a06", checked := Tryz.checked }
namespace Rows
def none {H : Type} : Left H := { results := [], args := [] }

/- WHAT THE LISTED PACKAGE-LEVEL VARIABLES READ AS WHEN THE CALL BEGINS. Each datum BY PROGRAM (the guide's laid-datum.mjs) off the statement by which the dump's own 'gosem.cut.vars' lays the variable. In a bare row this is a premise. The card (YtkkmoaidbmnolaaGreatDoorCards.lean) ties it to the program's text. -/
def laid_errors_errorType {H : Type} : DataW H := .iface "internal/reflectlite.rtype" (.agg [.ptr (.lit (.string [101, 114, 114, 111, 114]))])
def laid_loop_example_s01541_impl_instructions {H : Type} : DataW H := .agg [.agg [.lit (.string [99, 111, 110, 115, 116]), .lit (.int .u8 1), .lit (.int .u8 0), .agg [.lit (.int .u16 0), .lit (.int .u16 0), .lit (.int .u16 0)], .lit (.int .u16 0), .lit (.bool false), .lit (.bool false)], .agg [.lit (.string [108, 111, 99, 97, 108]), .lit (.int .u8 2), .lit (.int .u8 0), .agg [.lit (.int .u16 0), .lit (.int .u16 0), .lit (.int .u16 0)], .lit (.int .u16 0), .lit (.bool false), .lit (.bool false)], .agg [.lit (.string [102, 114, 101, 101]), .lit (.int .u8 3), .lit (.int .u8 0), .agg [.lit (.int .u16 0), .lit (.int .u16 0), .lit (.int .u16 0)], .lit (.int .u16 0), .lit (.bool false), .lit (.bool false)], .agg [.lit (.string [103, 108, 111, 98, 97, 108]), .lit (.int .u8 4), .lit (.int .u8 0), .agg [.lit (.int .u16 0), .lit (.int .u16 0), .lit (.int .u16 0)], .lit (.int .u16 255), .lit (.bool false), .lit (.bool false)], .agg [.lit (.string [115, 101, 116, 103, 108, 111, 98, 97, 108]), .lit (.int .u8 4), .lit (.int .u8 0), .agg [.lit (.int .u16 255), .lit (.int .u16 0), .lit (.int .u16 0)], .lit (.int .u16 0), .lit (.bool false), .lit (.bool false)], .agg [.lit (.string [98, 111, 120]), .lit (.int .u8 5), .lit (.int .u8 0), .agg [.lit (.int .u16 0), .lit (.int .u16 0), .lit (.int .u16 0)], .lit (.int .u16 256), .lit (.bool false), .lit (.bool false)], .agg [.lit (.string [117, 110, 98, 111, 120]), .lit (.int .u8 0), .lit (.int .u8 0), .agg [.lit (.int .u16 256), .lit (.int .u16 0), .lit (.int .u16 0)], .lit (.int .u16 255), .lit (.bool false), .lit (.bool false)], .agg [.lit (.string [115, 101, 116, 98, 111, 120]), .lit (.int .u8 0), .lit (.int .u8 0), .agg [.lit (.int .u16 256), .lit (.int .u16 255), .lit (.int .u16 0)], .lit (.int .u16 0), .lit (.bool false), .lit (.bool false)], .agg [.lit (.string [99, 108, 111, 115, 117, 114, 101]), .lit (.int .u8 6), .lit (.int .u8 7), .agg [.lit (.int .u16 0), .lit (.int .u16 0), .lit (.int .u16 0)], .lit (.int .u16 64), .lit (.bool false), .lit (.bool false)], .agg [.lit (.string [99, 97, 108, 108]), .lit (.int .u8 8), .lit (.int .u8 0), .agg [.lit (.int .u16 0), .lit (.int .u16 0), .lit (.int .u16 0)], .lit (.int .u16 255), .lit (.bool false), .lit (.bool false)], .agg [.lit (.string [116, 97, 105, 108]), .lit (.int .u8 8), .lit (.int .u8 0), .agg [.lit (.int .u16 0), .lit (.int .u16 0), .lit (.int .u16 0)], .lit (.int .u16 0), .lit (.bool true), .lit (.bool false)], .agg [.lit (.string [114, 101, 116, 117, 114, 110]), .lit (.int .u8 0), .lit (.int .u8 0), .agg [.lit (.int .u16 255), .lit (.int .u16 0), .lit (.int .u16 0)], .lit (.int .u16 0), .lit (.bool true), .lit (.bool false)], .agg [.lit (.string [106, 117, 109, 112]), .lit (.int .u8 9), .lit (.int .u8 0), .agg [.lit (.int .u16 0), .lit (.int .u16 0), .lit (.int .u16 0)], .lit (.int .u16 0), .lit (.bool true), .lit (.bool true)], .agg [.lit (.string [106, 117, 109, 112, 102, 97, 108, 115, 101]), .lit (.int .u8 9), .lit (.int .u8 0), .agg [.lit (.int .u16 255), .lit (.int .u16 0), .lit (.int .u16 0)], .lit (.int .u16 0), .lit (.bool false), .lit (.bool true)], .agg [.lit (.string [112, 114, 105, 109]), .lit (.int .u8 10), .lit (.int .u8 0), .agg [.lit (.int .u16 0), .lit (.int .u16 0), .lit (.int .u16 0)], .lit (.int .u16 0), .lit (.bool false), .lit (.bool false)], .agg [.lit (.string [115, 108, 105, 100, 101]), .lit (.int .u8 11), .lit (.int .u8 0), .agg [.lit (.int .u16 0), .lit (.int .u16 0), .lit (.int .u16 0)], .lit (.int .u16 0), .lit (.bool false), .lit (.bool false)], .agg [.lit (.string [112, 111, 112]), .lit (.int .u8 0), .lit (.int .u8 0), .agg [.lit (.int .u16 511), .lit (.int .u16 0), .lit (.int .u16 0)], .lit (.int .u16 0), .lit (.bool false), .lit (.bool false)], .agg [.lit (.string [118, 111, 105, 100]), .lit (.int .u8 0), .lit (.int .u8 0), .agg [.lit (.int .u16 0), .lit (.int .u16 0), .lit (.int .u16 0)], .lit (.int .u16 128), .lit (.bool false), .lit (.bool false)]]

/-- 'laws.FnExactDecodeImage': WHATEVER THE INPUT: true; the input reads as it did. -/
def fnExactDecodeImageSpec : ChangeSpec := { name := "fnExactDecodeImage", vars := ["loop.example/s01541/impl.instructions"], fn := fun _ => fun
  | [d, g1] => { results := [.lit (.bool true)], args := [d], vars := [g1] }
  | _ => none }
def fnExactDecodeImageRow : OpenClaim := { program := "ytkkmoaidbmnolaagreatdoor", sum := "c842d61b21abb4778c71495c5e661a06748c45adaa5c30b71bdb3f27dad62a06", func := "loop.example/s01541/laws.FnExactDecodeImage", spec := "fnExactDecodeImage", inPlace := ["internal/reflectlite.ValueOf", "(internal/reflectlite.Value).Type", "(internal/reflectlite.Value).IsNil", "internal/reflectlite.TypeOf", "(internal/reflectlite.Value).Elem", "(internal/reflectlite.Value).Set", "internal/bytealg.IndexByteString"], unfollowed := true, recurses := true, named := ["errors.errorType", "loop.example/s01541/impl.instructions"], apart := false, laid := [("errors.errorType", laid_errors_errorType), ("loop.example/s01541/impl.instructions", laid_loop_example_s01541_impl_instructions)] }
def FnExactDecodeImageSaid : Prop := fnExactDecodeImageRow.holds Tryz.pinned (OpenSpec.ofChange fnExactDecodeImageSpec)

/-- ITS FALSE NEIGHBOUR: 'it returns false'. Refute it at one input. -/
def fnExactDecodeImageWrong : ChangeSpec := { name := "fnExactDecodeImage", vars := ["loop.example/s01541/impl.instructions"], fn := fun _ => fun
  | [d, g1] => { results := [.lit (.bool false)], args := [d], vars := [g1] }
  | _ => none }
def FnExactDecodeImageWrongFalsely : Prop := fnExactDecodeImageRow.holds Tryz.pinned (OpenSpec.ofChange fnExactDecodeImageWrong)

/- THE SECOND FORM. 'bulk': how many values and letters a reading holds, each counted each time it is reached (what is shared counts as often as it is met; a slice's spare places count too). A statement '..UptoSaid' is the law's where the arguments, and the package variables that the reading takes, are together of bulk at most 1048576: NARROWER than '..Said'. Prove '..Said' where nothing that the law and all that it calls make is longer than what came in: it says more and counts as full. Else prove '..UptoSaid'. A law counts once. -/
mutual
def uptoBulk {H : Type} : DataW H → Nat
  | .lit (.string bytes) => bytes.length + 1
  | .lit _ => 1
  | .nil => 1
  | .ptr d => uptoBulk d + 1
  | .slice elems spare => uptoBulkAll elems + uptoBulkAll spare + 1
  | .agg parts => uptoBulkAll parts + 1
  | .iface _ d => uptoBulk d + 1
  | .map entries => uptoBulkEntries entries + 1
  | .held _ => 1
def uptoBulkAll {H : Type} : List (DataW H) → Nat
  | [] => 0
  | d :: r => uptoBulk d + uptoBulkAll r
def uptoBulkEntries {H : Type} : List (Lit × DataW H) → Nat
  | [] => 0
  | x :: r => uptoBulkEntry x + uptoBulkEntries r
def uptoBulkEntry {H : Type} : Lit × DataW H → Nat
  | (.string bytes, d) => bytes.length + uptoBulk d + 1
  | (_, d) => uptoBulk d + 1
 end
def uptoSmall : (H : Type) → List (DataW H) → Bool := fun _ ds => decide (uptoBulkAll ds ≤ 1048576)
def OpenSpec.upto (s : _root_.Go.ChangeSpec) : _root_.Go.OpenSpec := { _root_.Go.OpenSpec.ofChange s with cond := some uptoSmall }

/-- 'laws.FnExactDecodeImage', WHERE WHAT IT READS IS OF BULK AT MOST 1048576: true; the input reads as it did. -/
def fnExactDecodeImageUptoRow : OpenClaim := { program := "ytkkmoaidbmnolaagreatdoor", sum := "c842d61b21abb4778c71495c5e661a06748c45adaa5c30b71bdb3f27dad62a06", func := "loop.example/s01541/laws.FnExactDecodeImage", spec := "fnExactDecodeImage", inPlace := ["internal/reflectlite.ValueOf", "(internal/reflectlite.Value).Type", "(internal/reflectlite.Value).IsNil", "internal/reflectlite.TypeOf", "(internal/reflectlite.Value).Elem", "(internal/reflectlite.Value).Set", "internal/bytealg.IndexByteString"], unfollowed := true, recurses := true, named := ["errors.errorType", "loop.example/s01541/impl.instructions"], apart := false, laid := [("errors.errorType", laid_errors_errorType), ("loop.example/s01541/impl.instructions", laid_loop_example_s01541_impl_instructions)], narrowed := true }
def FnExactDecodeImageUptoSaid : Prop := fnExactDecodeImageUptoRow.holds Tryz.pinned (OpenSpec.upto fnExactDecodeImageSpec)

end Rows
end Go.Proofs.YtkkmoaidbmnolaaGreatDoor
