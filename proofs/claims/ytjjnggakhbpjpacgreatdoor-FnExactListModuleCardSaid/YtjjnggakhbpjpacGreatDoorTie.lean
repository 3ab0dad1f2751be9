/-
  DERIVED. GIVEN WITH THE SEED: THE PROGRAM's TIES (one call each: nine closed facts by the kernel) AND EACH ROW's TIE, after the 31st guide's Derived/Test/Toyas{Tie, Card}.lean. No idea stands in it: it is a product of the set-up. Laid BY PROGRAM, IN A SANDBOX (cutbox-door.mjs). By AI agents, Wed Nov 11 2026. No macro, syntax, notation, axiom, sorry.
-/
import Derived.Test.YtjjnggakhbpjpacGreatDoorRows
import Derived.LaidByTextLater
import Derived.SevenTiedAt
import Derived.LaidSub
import Derived.LaidOnce
namespace Go.Proofs.YtjjnggakhbpjpacGreatDoor
open Go
set_option maxRecDepth 100000
theorem seatTie1 : Tryz.prog.laidByTextLater [("math/bits.deBruijn32tab", Rows.laid_math_bits_deBruijn32tab), ("math/bits.deBruijn64tab", Rows.laid_math_bits_deBruijn64tab), ("internal/strconv.uint64pow10", Rows.laid_internal_strconv_uint64pow10), ("loop.example/s01541/impl.instructions", Rows.laid_loop_example_s01541_impl_instructions), ("loop.example/s01541/impl.primitives", Rows.laid_loop_example_s01541_impl_primitives)] [.data, .data, .data, .wider, .wider] true :=
  Program.laidByTextLater_by_one 109 8 163 (by kernel_rfl) (by kernel_rfl) (by kernel_rfl) (by kernel_rfl) (by kernel_rfl) (by kernel_rfl) (fun _ _ => by kernel_rfl)
theorem seatTie2 : Tryz.prog.laidByTextLater [("errors.errorType", Rows.laid_errors_errorType), ("loop.example/s01541/impl.instructions", Rows.laid_loop_example_s01541_impl_instructions)] [.handle, .wider] true :=
  Program.laidByTextLater_by_one 109 8 163 (by kernel_rfl) (by kernel_rfl) (by kernel_rfl) (by kernel_rfl) (by kernel_rfl) (by kernel_rfl) (fun _ _ => by kernel_rfl)
theorem seatTie3 : Tryz.prog.laidByTextLater [("math/bits.deBruijn32tab", Rows.laid_math_bits_deBruijn32tab), ("math/bits.deBruijn64tab", Rows.laid_math_bits_deBruijn64tab), ("internal/strconv.uint64pow10", Rows.laid_internal_strconv_uint64pow10), ("errors.errorType", Rows.laid_errors_errorType), ("loop.example/s01541/impl.primitives", Rows.laid_loop_example_s01541_impl_primitives)] [.data, .data, .data, .handle, .wider] true :=
  Program.laidByTextLater_by_one 109 8 163 (by kernel_rfl) (by kernel_rfl) (by kernel_rfl) (by kernel_rfl) (by kernel_rfl) (by kernel_rfl) (fun _ _ => by kernel_rfl)
theorem seatTie4 : Tryz.prog.laidByTextLater [("math/bits.deBruijn32tab", Rows.laid_math_bits_deBruijn32tab), ("math/bits.deBruijn64tab", Rows.laid_math_bits_deBruijn64tab), ("internal/strconv.uint64pow10", Rows.laid_internal_strconv_uint64pow10), ("errors.errorType", Rows.laid_errors_errorType), ("loop.example/s01541/impl.instructions", Rows.laid_loop_example_s01541_impl_instructions), ("loop.example/s01541/impl.primitives", Rows.laid_loop_example_s01541_impl_primitives)] [.data, .data, .data, .handle, .wider, .wider] true :=
  Program.laidByTextLater_by_one 109 8 163 (by kernel_rfl) (by kernel_rfl) (by kernel_rfl) (by kernel_rfl) (by kernel_rfl) (by kernel_rfl) (fun _ _ => by kernel_rfl)
theorem noOwnUnsafe : Tryz.pinned.checked.prog.headLifts.contains "ownunsafe" = false := by kernel_rfl
theorem tie : Tryz.prog.laidByTextLater [("math/bits.deBruijn32tab", Rows.laid_math_bits_deBruijn32tab), ("math/bits.deBruijn64tab", Rows.laid_math_bits_deBruijn64tab), ("internal/strconv.uint64pow10", Rows.laid_internal_strconv_uint64pow10), ("loop.example/s01541/impl.instructions", Rows.laid_loop_example_s01541_impl_instructions), ("loop.example/s01541/impl.primitives", Rows.laid_loop_example_s01541_impl_primitives)] [.data, .data, .data, .wider, .wider] true :=
  Program.laidByTextLater.sub seatTie1 ["math/bits.deBruijn32tab", "math/bits.deBruijn64tab", "internal/strconv.uint64pow10", "loop.example/s01541/impl.instructions", "loop.example/s01541/impl.primitives"] (by kernel_rfl) (by kernel_rfl)
theorem fnExactListModule_row_tie : Rows.fnExactListModuleRow.laidByTextAt .later Tryz.pinned [.data, .data, .data, .wider, .wider] true :=
  OpenClaim.laidByTextAt_later rfl rfl tie noOwnUnsafe
theorem tie2 : Tryz.prog.laidByTextLater [("errors.errorType", Rows.laid_errors_errorType), ("loop.example/s01541/impl.instructions", Rows.laid_loop_example_s01541_impl_instructions)] [.handle, .wider] true :=
  Program.laidByTextLater.sub seatTie2 ["errors.errorType", "loop.example/s01541/impl.instructions"] (by kernel_rfl) (by kernel_rfl)
theorem fnExactDecodeImage_row_tie : Rows.fnExactDecodeImageRow.laidByTextAt .later Tryz.pinned [.handle, .wider] true :=
  OpenClaim.laidByTextAt_later rfl rfl tie2 noOwnUnsafe
theorem tie3 : Tryz.prog.laidByTextLater [("math/bits.deBruijn32tab", Rows.laid_math_bits_deBruijn32tab), ("math/bits.deBruijn64tab", Rows.laid_math_bits_deBruijn64tab), ("internal/strconv.uint64pow10", Rows.laid_internal_strconv_uint64pow10), ("errors.errorType", Rows.laid_errors_errorType), ("loop.example/s01541/impl.primitives", Rows.laid_loop_example_s01541_impl_primitives)] [.data, .data, .data, .handle, .wider] true :=
  Program.laidByTextLater.sub seatTie3 ["math/bits.deBruijn32tab", "math/bits.deBruijn64tab", "internal/strconv.uint64pow10", "errors.errorType", "loop.example/s01541/impl.primitives"] (by kernel_rfl) (by kernel_rfl)
theorem fnExactUnbound_row_tie : Rows.fnExactUnboundRow.laidByTextAt .later Tryz.pinned [.data, .data, .data, .handle, .wider] true :=
  OpenClaim.laidByTextAt_later rfl rfl tie3 noOwnUnsafe
theorem tie4 : Tryz.prog.laidByTextLater [("math/bits.deBruijn32tab", Rows.laid_math_bits_deBruijn32tab), ("math/bits.deBruijn64tab", Rows.laid_math_bits_deBruijn64tab), ("internal/strconv.uint64pow10", Rows.laid_internal_strconv_uint64pow10), ("errors.errorType", Rows.laid_errors_errorType), ("loop.example/s01541/impl.instructions", Rows.laid_loop_example_s01541_impl_instructions), ("loop.example/s01541/impl.primitives", Rows.laid_loop_example_s01541_impl_primitives)] [.data, .data, .data, .handle, .wider, .wider] true :=
  Program.laidByTextLater.sub seatTie4 ["math/bits.deBruijn32tab", "math/bits.deBruijn64tab", "internal/strconv.uint64pow10", "errors.errorType", "loop.example/s01541/impl.instructions", "loop.example/s01541/impl.primitives"] (by kernel_rfl) (by kernel_rfl)
theorem fnExactCompile_row_tie : Rows.fnExactCompileRow.laidByTextAt .later Tryz.pinned [.data, .data, .data, .handle, .wider, .wider] true :=
  OpenClaim.laidByTextAt_later rfl rfl tie4 noOwnUnsafe
theorem fnExactListModuleUpto_row_tie : Rows.fnExactListModuleUptoRow.laidByTextAt .later Tryz.pinned [.data, .data, .data, .wider, .wider] true :=
  OpenClaim.laidByTextAt_later rfl rfl tie noOwnUnsafe
theorem fnExactDecodeImageUpto_row_tie : Rows.fnExactDecodeImageUptoRow.laidByTextAt .later Tryz.pinned [.handle, .wider] true :=
  OpenClaim.laidByTextAt_later rfl rfl tie2 noOwnUnsafe
theorem fnExactUnboundUpto_row_tie : Rows.fnExactUnboundUptoRow.laidByTextAt .later Tryz.pinned [.data, .data, .data, .handle, .wider] true :=
  OpenClaim.laidByTextAt_later rfl rfl tie3 noOwnUnsafe
theorem fnExactCompileUpto_row_tie : Rows.fnExactCompileUptoRow.laidByTextAt .later Tryz.pinned [.data, .data, .data, .handle, .wider, .wider] true :=
  OpenClaim.laidByTextAt_later rfl rfl tie4 noOwnUnsafe
end Go.Proofs.YtjjnggakhbpjpacGreatDoor
