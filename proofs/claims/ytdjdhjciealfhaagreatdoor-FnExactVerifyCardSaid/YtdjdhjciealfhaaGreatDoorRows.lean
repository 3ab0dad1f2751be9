/-
  NARROWER THAN 'FOR EVERY INPUT', by the rows' own cells (each row's printed sentence says how): FnExactVerify: laid.
  DERIVED. THE GIVEN ROWS OF THIS SEAT. 1 by the template 'for every input the law returns true; each argument reads behind the call as it read before'; 0 by the template 'total and deterministic' (their statements: YtdjdhjciealfhaaGreatDoorTotals.lean).
  GIVEN WITH THE SEED: the statements are not yours to turn. If you find one false, say at which input.
  Laid BY PROGRAM, IN A SANDBOX (cutbox-rows.mjs): the forced cells as the released guide's own fill.sh prints them over the translation 7f6a4c5b08bc02e5… (all of the seat's roots in one cut). By AI agents, Wed Nov 11 2026. No macro, syntax, notation, axiom, sorry.
-/
import Derived.Test.YtdjdhjciealfhaaGreatDoorChecked
import GoSem.Claim
import GoSem.ClaimJoined
import GoSem.ClaimMapViews
import Derived.JoinedTies
import Derived.KernelRfl
namespace Go.Proofs.YtdjdhjciealfhaaGreatDoor
/- THE CELL 'sum', in the pinned program and in every row, IS THE sha256 OF THE DUMP (.gsa) THAT YtdjdhjciealfhaaGreatDoorProg.lean LOADS. Nothing in Lean hashes anything: it is a label: what it is worth is what the hold of that sum in a sandbox is worth. -/
noncomputable def Tryz.pinned : Pinned := { name := "ytdjdhjciealfhaagreatdoor", sum := "7f6a4c5b08bc02e5a4303b4972b52cccd8fd6364d9aa7a900eac6ab6e1181ac3", checked := Tryz.checked }
namespace Rows
def none {H : Type} : Left H := { results := [], args := [] }

/- WHAT THE LISTED PACKAGE-LEVEL VARIABLES READ AS WHEN THE CALL BEGINS. Each datum BY PROGRAM (the guide's laid-datum.mjs) off the statement by which the dump's own 'gosem.cut.vars' lays the variable. In a bare row this is a premise. The card (YtdjdhjciealfhaaGreatDoorCards.lean) ties it to the program's text. -/
def laid_loop_example_s01541_impl_instructions {H : Type} : DataW H := .agg [.agg [.lit (.string [99, 111, 110, 115, 116]), .lit (.int .u8 1), .lit (.int .u8 0), .agg [.lit (.int .u16 0), .lit (.int .u16 0), .lit (.int .u16 0)], .lit (.int .u16 0), .lit (.bool false), .lit (.bool false)], .agg [.lit (.string [108, 111, 99, 97, 108]), .lit (.int .u8 2), .lit (.int .u8 0), .agg [.lit (.int .u16 0), .lit (.int .u16 0), .lit (.int .u16 0)], .lit (.int .u16 0), .lit (.bool false), .lit (.bool false)], .agg [.lit (.string [102, 114, 101, 101]), .lit (.int .u8 3), .lit (.int .u8 0), .agg [.lit (.int .u16 0), .lit (.int .u16 0), .lit (.int .u16 0)], .lit (.int .u16 0), .lit (.bool false), .lit (.bool false)], .agg [.lit (.string [103, 108, 111, 98, 97, 108]), .lit (.int .u8 4), .lit (.int .u8 0), .agg [.lit (.int .u16 0), .lit (.int .u16 0), .lit (.int .u16 0)], .lit (.int .u16 255), .lit (.bool false), .lit (.bool false)], .agg [.lit (.string [115, 101, 116, 103, 108, 111, 98, 97, 108]), .lit (.int .u8 4), .lit (.int .u8 0), .agg [.lit (.int .u16 255), .lit (.int .u16 0), .lit (.int .u16 0)], .lit (.int .u16 0), .lit (.bool false), .lit (.bool false)], .agg [.lit (.string [98, 111, 120]), .lit (.int .u8 5), .lit (.int .u8 0), .agg [.lit (.int .u16 0), .lit (.int .u16 0), .lit (.int .u16 0)], .lit (.int .u16 256), .lit (.bool false), .lit (.bool false)], .agg [.lit (.string [117, 110, 98, 111, 120]), .lit (.int .u8 0), .lit (.int .u8 0), .agg [.lit (.int .u16 256), .lit (.int .u16 0), .lit (.int .u16 0)], .lit (.int .u16 255), .lit (.bool false), .lit (.bool false)], .agg [.lit (.string [115, 101, 116, 98, 111, 120]), .lit (.int .u8 0), .lit (.int .u8 0), .agg [.lit (.int .u16 256), .lit (.int .u16 255), .lit (.int .u16 0)], .lit (.int .u16 0), .lit (.bool false), .lit (.bool false)], .agg [.lit (.string [99, 108, 111, 115, 117, 114, 101]), .lit (.int .u8 6), .lit (.int .u8 7), .agg [.lit (.int .u16 0), .lit (.int .u16 0), .lit (.int .u16 0)], .lit (.int .u16 64), .lit (.bool false), .lit (.bool false)], .agg [.lit (.string [99, 97, 108, 108]), .lit (.int .u8 8), .lit (.int .u8 0), .agg [.lit (.int .u16 0), .lit (.int .u16 0), .lit (.int .u16 0)], .lit (.int .u16 255), .lit (.bool false), .lit (.bool false)], .agg [.lit (.string [116, 97, 105, 108]), .lit (.int .u8 8), .lit (.int .u8 0), .agg [.lit (.int .u16 0), .lit (.int .u16 0), .lit (.int .u16 0)], .lit (.int .u16 0), .lit (.bool true), .lit (.bool false)], .agg [.lit (.string [114, 101, 116, 117, 114, 110]), .lit (.int .u8 0), .lit (.int .u8 0), .agg [.lit (.int .u16 255), .lit (.int .u16 0), .lit (.int .u16 0)], .lit (.int .u16 0), .lit (.bool true), .lit (.bool false)], .agg [.lit (.string [106, 117, 109, 112]), .lit (.int .u8 9), .lit (.int .u8 0), .agg [.lit (.int .u16 0), .lit (.int .u16 0), .lit (.int .u16 0)], .lit (.int .u16 0), .lit (.bool true), .lit (.bool true)], .agg [.lit (.string [106, 117, 109, 112, 102, 97, 108, 115, 101]), .lit (.int .u8 9), .lit (.int .u8 0), .agg [.lit (.int .u16 255), .lit (.int .u16 0), .lit (.int .u16 0)], .lit (.int .u16 0), .lit (.bool false), .lit (.bool true)], .agg [.lit (.string [112, 114, 105, 109]), .lit (.int .u8 10), .lit (.int .u8 0), .agg [.lit (.int .u16 0), .lit (.int .u16 0), .lit (.int .u16 0)], .lit (.int .u16 0), .lit (.bool false), .lit (.bool false)], .agg [.lit (.string [115, 108, 105, 100, 101]), .lit (.int .u8 11), .lit (.int .u8 0), .agg [.lit (.int .u16 0), .lit (.int .u16 0), .lit (.int .u16 0)], .lit (.int .u16 0), .lit (.bool false), .lit (.bool false)], .agg [.lit (.string [112, 111, 112]), .lit (.int .u8 0), .lit (.int .u8 0), .agg [.lit (.int .u16 511), .lit (.int .u16 0), .lit (.int .u16 0)], .lit (.int .u16 0), .lit (.bool false), .lit (.bool false)], .agg [.lit (.string [118, 111, 105, 100]), .lit (.int .u8 0), .lit (.int .u8 0), .agg [.lit (.int .u16 0), .lit (.int .u16 0), .lit (.int .u16 0)], .lit (.int .u16 128), .lit (.bool false), .lit (.bool false)]]
def laid_loop_example_s01541_impl_primitives {H : Type} : DataW H := .agg [.agg [.lit (.string [43]), .agg [.lit (.int .u16 1), .lit (.int .u16 1), .lit (.int .u16 0)], .lit (.int .u16 1)], .agg [.lit (.string [45]), .agg [.lit (.int .u16 1), .lit (.int .u16 1), .lit (.int .u16 0)], .lit (.int .u16 1)], .agg [.lit (.string [42]), .agg [.lit (.int .u16 1), .lit (.int .u16 1), .lit (.int .u16 0)], .lit (.int .u16 1)], .agg [.lit (.string [113, 117, 111, 116, 105, 101, 110, 116]), .agg [.lit (.int .u16 1), .lit (.int .u16 1), .lit (.int .u16 0)], .lit (.int .u16 1)], .agg [.lit (.string [114, 101, 109, 97, 105, 110, 100, 101, 114]), .agg [.lit (.int .u16 1), .lit (.int .u16 1), .lit (.int .u16 0)], .lit (.int .u16 1)], .agg [.lit (.string [61]), .agg [.lit (.int .u16 1), .lit (.int .u16 1), .lit (.int .u16 0)], .lit (.int .u16 2)], .agg [.lit (.string [60]), .agg [.lit (.int .u16 1), .lit (.int .u16 1), .lit (.int .u16 0)], .lit (.int .u16 2)], .agg [.lit (.string [99, 111, 110, 115]), .agg [.lit (.int .u16 255), .lit (.int .u16 255), .lit (.int .u16 0)], .lit (.int .u16 16)], .agg [.lit (.string [99, 97, 114]), .agg [.lit (.int .u16 16), .lit (.int .u16 0), .lit (.int .u16 0)], .lit (.int .u16 255)], .agg [.lit (.string [99, 100, 114]), .agg [.lit (.int .u16 16), .lit (.int .u16 0), .lit (.int .u16 0)], .lit (.int .u16 255)], .agg [.lit (.string [110, 117, 108, 108, 63]), .agg [.lit (.int .u16 255), .lit (.int .u16 0), .lit (.int .u16 0)], .lit (.int .u16 2)], .agg [.lit (.string [112, 97, 105, 114, 63]), .agg [.lit (.int .u16 255), .lit (.int .u16 0), .lit (.int .u16 0)], .lit (.int .u16 2)], .agg [.lit (.string [102, 105, 120, 110, 117, 109, 63]), .agg [.lit (.int .u16 255), .lit (.int .u16 0), .lit (.int .u16 0)], .lit (.int .u16 2)], .agg [.lit (.string [115, 121, 109, 98, 111, 108, 63]), .agg [.lit (.int .u16 255), .lit (.int .u16 0), .lit (.int .u16 0)], .lit (.int .u16 2)], .agg [.lit (.string [112, 114, 111, 99, 101, 100, 117, 114, 101, 63]), .agg [.lit (.int .u16 255), .lit (.int .u16 0), .lit (.int .u16 0)], .lit (.int .u16 2)], .agg [.lit (.string [118, 101, 99, 116, 111, 114, 63]), .agg [.lit (.int .u16 255), .lit (.int .u16 0), .lit (.int .u16 0)], .lit (.int .u16 2)], .agg [.lit (.string [101, 113, 63]), .agg [.lit (.int .u16 255), .lit (.int .u16 255), .lit (.int .u16 0)], .lit (.int .u16 2)], .agg [.lit (.string [110, 111, 116]), .agg [.lit (.int .u16 255), .lit (.int .u16 0), .lit (.int .u16 0)], .lit (.int .u16 2)], .agg [.lit (.string [109, 97, 107, 101, 45, 118, 101, 99, 116, 111, 114]), .agg [.lit (.int .u16 1), .lit (.int .u16 255), .lit (.int .u16 0)], .lit (.int .u16 32)], .agg [.lit (.string [118, 101, 99, 116, 111, 114, 45, 114, 101, 102]), .agg [.lit (.int .u16 32), .lit (.int .u16 1), .lit (.int .u16 0)], .lit (.int .u16 255)], .agg [.lit (.string [118, 101, 99, 116, 111, 114, 45, 115, 101, 116, 33]), .agg [.lit (.int .u16 32), .lit (.int .u16 1), .lit (.int .u16 255)], .lit (.int .u16 128)], .agg [.lit (.string [118, 101, 99, 116, 111, 114, 45, 108, 101, 110, 103, 116, 104]), .agg [.lit (.int .u16 32), .lit (.int .u16 0), .lit (.int .u16 0)], .lit (.int .u16 1)]]

/-- 'laws.FnExactVerify': WHATEVER THE INPUT: true; the input reads as it did. -/
def fnExactVerifySpec : ChangeSpec := { name := "fnExactVerify", vars := ["loop.example/s01541/impl.instructions", "loop.example/s01541/impl.primitives"], fn := fun _ => fun
  | [d, g1, g2] => { results := [.lit (.bool true)], args := [d], vars := [g1, g2] }
  | _ => none }
def fnExactVerifyRow : OpenClaim := { program := "ytdjdhjciealfhaagreatdoor", sum := "7f6a4c5b08bc02e5a4303b4972b52cccd8fd6364d9aa7a900eac6ab6e1181ac3", func := "loop.example/s01541/laws.FnExactVerify", spec := "fnExactVerify", inPlace := ["internal/bytealg.IndexByteString", "slices.overlaps[int]"], unfollowed := true, recurses := true, named := ["loop.example/s01541/impl.instructions", "loop.example/s01541/impl.primitives"], apart := false, laid := [("loop.example/s01541/impl.instructions", laid_loop_example_s01541_impl_instructions), ("loop.example/s01541/impl.primitives", laid_loop_example_s01541_impl_primitives)] }
def FnExactVerifySaid : Prop := fnExactVerifyRow.holds Tryz.pinned (OpenSpec.ofChange fnExactVerifySpec)

/-- ITS FALSE NEIGHBOUR: 'it returns false'. Refute it at one input. -/
def fnExactVerifyWrong : ChangeSpec := { name := "fnExactVerify", vars := ["loop.example/s01541/impl.instructions", "loop.example/s01541/impl.primitives"], fn := fun _ => fun
  | [d, g1, g2] => { results := [.lit (.bool false)], args := [d], vars := [g1, g2] }
  | _ => none }
def FnExactVerifyWrongFalsely : Prop := fnExactVerifyRow.holds Tryz.pinned (OpenSpec.ofChange fnExactVerifyWrong)

/- THE SECOND FORM. 'bulk': how many values and letters a reading holds, each counted each time it is reached (what is shared counts as often as it is met; a slice's spare places count too). A statement '..UptoSaid' is the law's where the arguments, and the package variables that the reading takes, are together of bulk at most 1048576: NARROWER than '..Said'. Prove '..Said' where nothing that the law and all that it calls make is longer than what came in: it says more and counts as full. Else prove '..UptoSaid'. A law counts once. -/
mutual
def uptoBulk {H : Type} : DataW H → Nat
  | .lit (.string bytes) => bytes.length + 1
  | .lit _ => 1
  | .nil => 1
  | .ptr d => uptoBulk d + 1
  | .slice elems spare => uptoBulkAll elems + uptoBulkAll spare + 1
  | .agg parts => uptoBulkAll parts + 1
  | .iface _ d => uptoBulk d + 1
  | .map entries => uptoBulkEntries entries + 1
  | .held _ => 1
def uptoBulkAll {H : Type} : List (DataW H) → Nat
  | [] => 0
  | d :: r => uptoBulk d + uptoBulkAll r
def uptoBulkEntries {H : Type} : List (Lit × DataW H) → Nat
  | [] => 0
  | x :: r => uptoBulkEntry x + uptoBulkEntries r
def uptoBulkEntry {H : Type} : Lit × DataW H → Nat
  | (.string bytes, d) => bytes.length + uptoBulk d + 1
  | (_, d) => uptoBulk d + 1
 end
def uptoSmall : (H : Type) → List (DataW H) → Bool := fun _ ds => decide (uptoBulkAll ds ≤ 1048576)
def OpenSpec.upto (s : _root_.Go.ChangeSpec) : _root_.Go.OpenSpec := { _root_.Go.OpenSpec.ofChange s with cond := some uptoSmall }

/-- 'laws.FnExactVerify', WHERE WHAT IT READS IS OF BULK AT MOST 1048576: true; the input reads as it did. -/
def fnExactVerifyUptoRow : OpenClaim := { program := "ytdjdhjciealfhaagreatdoor", sum := "7f6a4c5b08bc02e5a4303b4972b52cccd8fd6364d9aa7a900eac6ab6e1181ac3", func := "loop.example/s01541/laws.FnExactVerify", spec := "fnExactVerify", inPlace := ["internal/bytealg.IndexByteString", "slices.overlaps[int]"], unfollowed := true, recurses := true, named := ["loop.example/s01541/impl.instructions", "loop.example/s01541/impl.primitives"], apart := false, laid := [("loop.example/s01541/impl.instructions", laid_loop_example_s01541_impl_instructions), ("loop.example/s01541/impl.primitives", laid_loop_example_s01541_impl_primitives)], narrowed := true }
def FnExactVerifyUptoSaid : Prop := fnExactVerifyUptoRow.holds Tryz.pinned (OpenSpec.upto fnExactVerifySpec)

end Rows
end Go.Proofs.YtdjdhjciealfhaaGreatDoor
