import Derived.Test.YtnnpfoilojicjaaGreatDoorOh
import Derived.OpenVars
namespace Go.Proofs.YtnnpfoilojicjaaGreatDoor
open Go.ChangeShapes Go.WideShapes Go.ChangeAt Go.RowKit Go.Joins Ch1
namespace Uc
set_option maxRecDepth 100000 in
theorem contract (H : Type) (enc : TypeId × Value → H) (W : World) (base : Nat) (args : Array Value) (ds gs : List (DataW H)) (before : List MemPlace)
  (hval : ∀ (j : Nat) t v, Tryz.f3.params[j]? = some t → args[j]? = some v → Value.okWide Tryz.prog W .any base t v)
  (hW : DataW.Whole enc Tryz.prog Tryz.f3.params.toList Rows.fnExactUnboundSpec.vars false W args.toList ds gs before) (hL : laidMetH Tryz.prog Rows.fnExactUnboundRow.laid W) :
  Calls Tryz.prog 3 args W fun e W' => ∃ v, e = .returned v ∧ Rows.fnExactUnboundSpec.post enc Tryz.prog Tryz.f3 false true false false W args v W' := by
 have hW' := hW
 obtain ⟨p, q, hA0, hV, rfl, hfz, hnd⟩ := hW
 have hA : DataW.TrodAll enc Tryz.prog W 0 (fun _ => true) true Tryz.f3.params.toList args.toList ds p := hA0
 rw [Tryz.params3] at hA hval
 obtain ⟨v0, vs0, d0, ds0, p0, q0, hargs, rfl, rfl, h0, r0⟩ := trodAll_cons hA
 obtain ⟨rfl, rfl, rfl⟩ := trodAll_nil r0
 obtain rfl : args = #[v0] := by cases args; simp_all
 have hV1 : DataW.TrodVars enc Tryz.prog W (fun _ => true) ["loop.example/s01541/impl.primitives"] gs q := hV
 obtain ⟨_, _, _, _, g1, _, rfl, _⟩ := trodVars_one hV1
 obtain ⟨a0, len0, cap0, rfl⟩ := okWide_slice Tryz.underlying22 (hval 0 22 v0 rfl rfl)
 have k0 := h0
 have lt0 : ∀ x ∈ p0, x.block < W.heap.size := by obtain ⟨m, hm⟩ := k0; exact DataW.trod_lt m _ _ _ hm
 obtain ⟨z0, w0⟩ : ∃ zs, Da W a0 len0 cap0 zs := by
  obtain ⟨fuel, hf⟩ := h0
  exact open_data (by simpa [Value.cells] using hf)
 clear hA0
 refine (Cp.lawUnbound a0 len0 cap0 z0 W w0 (tables hL).1 (tables hL).2).mono fun e W' ⟨he, bel⟩ => ?_
 subst he
 exact ⟨_, rfl, _, _, _, [], _, _, hW', trodAll_mk1 (shut_bool Tryz.underlying4 _), (trodAll_cons_mk (Below.trod laidOut (by kernel_rfl) (of_decide_eq_true (by kernel_rfl)) k0 bel lt0) trodAll_mk0), Below.trodVars laidOut bel (by kernel_rfl) hV1, bel.frame _, fun h => by cases h⟩
def primCells : Array Value := #[.string ⟨#[43]⟩, .int .u16 1, .int .u16 1, .int .u16 0, .int .u16 1, .string ⟨#[45]⟩, .int .u16 1, .int .u16 1, .int .u16 0, .int .u16 1, .string ⟨#[42]⟩, .int .u16 1, .int .u16 1, .int .u16 0, .int .u16 1, .string ⟨#[113, 117, 111, 116, 105, 101, 110, 116]⟩, .int .u16 1, .int .u16 1, .int .u16 0, .int .u16 1, .string ⟨#[114, 101, 109, 97, 105, 110, 100, 101, 114]⟩, .int .u16 1, .int .u16 1, .int .u16 0, .int .u16 1, .string ⟨#[61]⟩, .int .u16 1, .int .u16 1, .int .u16 0, .int .u16 2, .string ⟨#[60]⟩, .int .u16 1, .int .u16 1, .int .u16 0, .int .u16 2, .string ⟨#[99, 111, 110, 115]⟩, .int .u16 255, .int .u16 255, .int .u16 0, .int .u16 16, .string ⟨#[99, 97, 114]⟩, .int .u16 16, .int .u16 0, .int .u16 0, .int .u16 255, .string ⟨#[99, 100, 114]⟩, .int .u16 16, .int .u16 0, .int .u16 0, .int .u16 255, .string ⟨#[110, 117, 108, 108, 63]⟩, .int .u16 255, .int .u16 0, .int .u16 0, .int .u16 2, .string ⟨#[112, 97, 105, 114, 63]⟩, .int .u16 255, .int .u16 0, .int .u16 0, .int .u16 2, .string ⟨#[102, 105, 120, 110, 117, 109, 63]⟩, .int .u16 255, .int .u16 0, .int .u16 0, .int .u16 2, .string ⟨#[115, 121, 109, 98, 111, 108, 63]⟩, .int .u16 255, .int .u16 0, .int .u16 0, .int .u16 2, .string ⟨#[112, 114, 111, 99, 101, 100, 117, 114, 101, 63]⟩, .int .u16 255, .int .u16 0, .int .u16 0, .int .u16 2, .string ⟨#[118, 101, 99, 116, 111, 114, 63]⟩, .int .u16 255, .int .u16 0, .int .u16 0, .int .u16 2, .string ⟨#[101, 113, 63]⟩, .int .u16 255, .int .u16 255, .int .u16 0, .int .u16 2, .string ⟨#[110, 111, 116]⟩, .int .u16 255, .int .u16 0, .int .u16 0, .int .u16 2, .string ⟨#[109, 97, 107, 101, 45, 118, 101, 99, 116, 111, 114]⟩, .int .u16 1, .int .u16 255, .int .u16 0, .int .u16 32, .string ⟨#[118, 101, 99, 116, 111, 114, 45, 114, 101, 102]⟩, .int .u16 32, .int .u16 1, .int .u16 0, .int .u16 255, .string ⟨#[118, 101, 99, 116, 111, 114, 45, 115, 101, 116, 33]⟩, .int .u16 32, .int .u16 1, .int .u16 255, .int .u16 128, .string ⟨#[118, 101, 99, 116, 111, 114, 45, 108, 101, 110, 103, 116, 104]⟩, .int .u16 32, .int .u16 0, .int .u16 0, .int .u16 1]
def putCells (cs : Array Value) : Obj → Obj
 | .cells _ t frozen => .cells cs t frozen
 | o => o
def withTables (h : Array Obj) : Array Obj := ((((h.modify 3 (putCells #[.int .u64 1, .int .u64 10, .int .u64 100, .int .u64 1000, .int .u64 10000, .int .u64 100000, .int .u64 1000000, .int .u64 10000000, .int .u64 100000000, .int .u64 1000000000, .int .u64 10000000000, .int .u64 100000000000, .int .u64 1000000000000, .int .u64 10000000000000, .int .u64 100000000000000, .int .u64 1000000000000000, .int .u64 10000000000000000, .int .u64 100000000000000000, .int .u64 1000000000000000000, .int .u64 10000000000000000000])).modify 4 (putCells #[.int .u8 0, .int .u8 1, .int .u8 28, .int .u8 2, .int .u8 29, .int .u8 14, .int .u8 24, .int .u8 3, .int .u8 30, .int .u8 22, .int .u8 20, .int .u8 15, .int .u8 25, .int .u8 17, .int .u8 4, .int .u8 8, .int .u8 31, .int .u8 27, .int .u8 13, .int .u8 23, .int .u8 21, .int .u8 19, .int .u8 16, .int .u8 7, .int .u8 26, .int .u8 12, .int .u8 18, .int .u8 6, .int .u8 11, .int .u8 5, .int .u8 10, .int .u8 9])).modify 5 (putCells #[.int .u8 0, .int .u8 1, .int .u8 56, .int .u8 2, .int .u8 57, .int .u8 49, .int .u8 28, .int .u8 3, .int .u8 61, .int .u8 58, .int .u8 42, .int .u8 50, .int .u8 38, .int .u8 29, .int .u8 17, .int .u8 4, .int .u8 62, .int .u8 47, .int .u8 59, .int .u8 36, .int .u8 45, .int .u8 43, .int .u8 51, .int .u8 22, .int .u8 53, .int .u8 39, .int .u8 33, .int .u8 30, .int .u8 24, .int .u8 18, .int .u8 12, .int .u8 5, .int .u8 63, .int .u8 55, .int .u8 48, .int .u8 27, .int .u8 60, .int .u8 41, .int .u8 37, .int .u8 16, .int .u8 46, .int .u8 35, .int .u8 44, .int .u8 21, .int .u8 52, .int .u8 32, .int .u8 23, .int .u8 11, .int .u8 54, .int .u8 26, .int .u8 40, .int .u8 15, .int .u8 34, .int .u8 20, .int .u8 31, .int .u8 10, .int .u8 25, .int .u8 14, .int .u8 19, .int .u8 9, .int .u8 13, .int .u8 8, .int .u8 7, .int .u8 6])).modify 1 (putCells primCells)).modify 0 (putCells #[.iface 204 (.agg #[.pointer (some ⟨6, 96, none⟩)])])
set_option maxRecDepth 100000 in
theorem laid_met (os : Os) : laidMetH Tryz.prog Rows.fnExactUnboundRow.laid (World.forCall { World.holding Tryz.prog os ⟨#[], #[], []⟩ with heap := withTables (World.holding Tryz.prog os ⟨#[], #[], []⟩).heap } (fun _ _ => 0) ⟨#[], #[.slice none 0 0], []⟩).memory :=
 laidMetH_of_parts (laidMet_of_run' 8 (by kernel_rfl) (by kernel_rfl)) (by kernel_rfl)
set_option maxRecDepth 100000 in
theorem reads (os : Os) {H : Type} (enc : TypeId × Value → H) : ∃ places, DataW.whole enc Tryz.prog (World.forCall { World.holding Tryz.prog os ⟨#[], #[], []⟩ with heap := withTables (World.holding Tryz.prog os ⟨#[], #[], []⟩).heap } (fun _ _ => 0) ⟨#[], #[.slice none 0 0], []⟩).memory Tryz.f3.params.toList Rows.fnExactUnboundSpec.vars false #[Value.slice none 0 0].toList 8 = some ([.nil], [Rows.laid_loop_example_s01541_impl_primitives], places) :=
 ⟨MemPlace.row ⟨1, 0, none⟩ 110, by kernel_rfl⟩
set_option maxRecDepth 100000 in
theorem lifted (os : Os) (started : os.Started) (H : Type) (enc : TypeId × Value → H) (F : Stop.Interp) :
  ReturnsInHanded {} Tryz.checked os 3 .any ((OpenSpec.ofChange Rows.fnExactUnboundSpec).preRow enc Tryz.prog Tryz.f3 Rows.fnExactUnboundRow.domain false Rows.fnExactUnboundRow.laid) (((OpenSpec.ofChange Rows.fnExactUnboundSpec).at F).post enc Tryz.prog Tryz.f3 false true false false) := by
 obtain ⟨places, hx⟩ := reads os enc
 refine returnsInHanded_of_row (C := Tryz.checked) (s := OpenSpec.ofChange Rows.fnExactUnboundSpec) own started (by kernel_rfl) Tryz.func3
  (witness_row_at (enc := enc) (C := Tryz.checked) false { World.holding Tryz.prog os ⟨#[], #[], []⟩ with heap := withTables (World.holding Tryz.prog os ⟨#[], #[], []⟩).heap } #[.slice none 0 0] rfl (by kernel_rfl) (by kernel_rfl) (by kernel_rfl)
   (OpenSpec.preRow_of_cond 8 hx (by kernel_rfl) (fun k hk => by cases hk) (by kernel_rfl) (laid_met os))) ?_
 intro W base args ds gs before hval hW _ _ _ hL _ _
 exact contract H enc W base args ds gs before hval hW hL
theorem said : Rows.FnExactUnboundSaid :=
 OpenClaim.holds_of_cond 3 Tryz.f3 rfl rfl rfl rfl rfl rfl rfl ⟨rfl, rfl, rfl, rfl, rfl⟩ rfl rfl rfl rfl rfl (by kernel_rfl) Tryz.func3 (by kernel_rfl)
  (of_decide_eq_true (by kernel_rfl)) (by unfold Func.isWrapper; first | (rw [if_pos (by decide +kernel)]; kernel_rfl) | (rw [if_neg (by decide +kernel)]; exact ⟨rfl, rfl⟩))
  (fun os started H enc _ F => by rw [OpenClaim.pre_eq_preRow]; exact lifted os started H enc F)
theorem plain (f : FuncId) (fn : Func) (hf : Tryz.pinned.checked.prog.funcNamed "loop.example/s01541/laws.FnExactUnbound" = some f) (hfn : Tryz.pinned.checked.prog.funcs[f]? = some fn) :
  true = Tryz.pinned.checked.prog.looks [] ∧ ∀ (j : Nat) t, fn.params[j]? = some t → Tryz.pinned.checked.prog.wantsStandIn t = false := by
 obtain rfl : f = 3 := Option.some.inj ((show Tryz.prog.funcNamed "loop.example/s01541/laws.FnExactUnbound" = some 3 by kernel_rfl).symm.trans hf) |>.symm
 obtain rfl : fn = Tryz.f3 := (Option.some.inj (Tryz.func3.symm.trans hfn)).symm
 refine ⟨by kernel_rfl, fun j t ht => ?_⟩
 rw [Tryz.params3] at ht
 obtain rfl : t = 22 := by simpa using Array.mem_of_getElem? ht
 exact (show Tryz.prog.wantsStandIn 22 = false by kernel_rfl)
end Uc
open Uc
theorem fnExactUnbound_card : Rows.FnExactUnboundCardSaid :=
 Claim7.holds_tied_plain_at .later [] _ _ _ _ said (fun _ h => by cases h) (by kernel_rfl) (fun _ h => by cases h) fnExactUnbound_row_tie rfl ⟨rfl, rfl⟩ (by kernel_rfl) rfl plain (by kernel_rfl)
#print axioms fnExactUnbound_card
end Go.Proofs.YtnnpfoilojicjaaGreatDoor
