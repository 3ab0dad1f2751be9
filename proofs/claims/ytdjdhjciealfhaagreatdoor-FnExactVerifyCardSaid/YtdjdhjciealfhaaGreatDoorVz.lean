import Derived.Test.YtdjdhjciealfhaaGreatDoorMi
import Derived.Test.YtdjdhjciealfhaaGreatDoorVl
import Derived.OpenVars
namespace Go.Proofs.YtdjdhjciealfhaaGreatDoor
open Go.ChangeShapes Go.WideShapes Go.ChangeAt Go.RowKit Go.Joins Ch1
set_option maxRecDepth 100000 in
/-- What the walk gives, for every argument and every world that holds the table. -/
theorem contract (H : Type) (enc : TypeId × Value → H) (W : World) (base : Nat) (args : Array Value) (ds gs : List (DataW H)) (before : List MemPlace)
    (hval : ∀ (j : Nat) t v, Tryz.f3.params[j]? = some t → args[j]? = some v → Value.okWide Tryz.prog W .any base t v)
    (hW : DataW.Whole enc Tryz.prog Tryz.f3.params.toList Rows.fnExactVerifySpec.vars false W args.toList ds gs before) (hL : laidMetH Tryz.prog Rows.fnExactVerifyRow.laid W) :
    Calls Tryz.prog 3 args W fun e W' => ∃ v, e = .returned v ∧ Rows.fnExactVerifySpec.post enc Tryz.prog Tryz.f3 false true false false W args v W' := by
  have hW' := hW
  obtain ⟨p, q, hA0, hV, rfl, hfz, hnd⟩ := hW
  have hA : DataW.TrodAll enc Tryz.prog W 0 (fun _ => true) true Tryz.f3.params.toList args.toList ds p := hA0
  rw [Tryz.params3] at hA hval
  obtain ⟨v0, vs0, d0, ds0, p0, q0, hargs, rfl, rfl, h0, r0⟩ := trodAll_cons hA
  obtain ⟨rfl, rfl, rfl⟩ := trodAll_nil r0
  obtain rfl : args = #[v0] := by cases args; simp_all
  have hV1 : DataW.TrodVars enc Tryz.prog W (fun _ => true) ["loop.example/s01541/impl.instructions", "loop.example/s01541/impl.primitives"] gs q := hV
  obtain ⟨_, _, _, _, g1, _, _, _, _, _, g2, _, rfl, _⟩ := trodVars_two hV1
  obtain ⟨cs0, rfl, _⟩ := okWide_struct Tryz.underlying25 (hval 0 25 v0 rfl rfl)
  have k0 := h0
  have lt0 : ∀ x ∈ p0, x.block < W.heap.size := by obtain ⟨m, hm⟩ := k0; exact DataW.trod_lt m _ _ _ hm
  obtain ⟨m, cp, cn, cc, fp, fn, fc, hcs, hmo⟩ : ∃ (m : Md) (cp : Option Addr) (cn cc : Nat) (fp : Option Addr) (fn fc : Nat), cs0 = #[.slice cp cn cc, .int .i64 m.globals, .slice fp fn fc] ∧ Mo W cp cn cc fp fn fc m := by
    obtain ⟨fuel, hf⟩ := h0
    obtain ⟨m, cp, cn, cc, fp, fn, fc, e, hm⟩ := open_module (by simpa [Value.cells] using hf)
    exact ⟨m, cp, cn, cc, fp, fn, fc, by cases cs0; simp_all, hm⟩
  subst hcs
  clear hA0
  refine (Vf.lawVerify cp cn cc fp fn fc m W hmo (Vf.tablesV hL)).mono fun e W' ⟨he, bel⟩ => ?_
  subst he
  exact ⟨_, rfl, _, _, _, [], _, _, hW', trodAll_mk1 (shut_bool Tryz.underlying4 _), (trodAll_cons_mk (Below.trod laidOut (by kernel_rfl) (of_decide_eq_true (by kernel_rfl)) k0 bel lt0) trodAll_mk0), Below.trodVars laidOut bel (by kernel_rfl) hV1, bel.frame _, fun h => by cases h⟩
/-- The table of instructions, cell by cell. -/
def tabCells : Array Value := #[.string ⟨#[99, 111, 110, 115, 116]⟩, .int .u8 1, .int .u8 0, .int .u16 0, .int .u16 0, .int .u16 0, .int .u16 0, .bool false, .bool false, .string ⟨#[108, 111, 99, 97, 108]⟩, .int .u8 2, .int .u8 0, .int .u16 0, .int .u16 0, .int .u16 0, .int .u16 0, .bool false, .bool false, .string ⟨#[102, 114, 101, 101]⟩, .int .u8 3, .int .u8 0, .int .u16 0, .int .u16 0, .int .u16 0, .int .u16 0, .bool false, .bool false, .string ⟨#[103, 108, 111, 98, 97, 108]⟩, .int .u8 4, .int .u8 0, .int .u16 0, .int .u16 0, .int .u16 0, .int .u16 255, .bool false, .bool false, .string ⟨#[115, 101, 116, 103, 108, 111, 98, 97, 108]⟩, .int .u8 4, .int .u8 0, .int .u16 255, .int .u16 0, .int .u16 0, .int .u16 0, .bool false, .bool false, .string ⟨#[98, 111, 120]⟩, .int .u8 5, .int .u8 0, .int .u16 0, .int .u16 0, .int .u16 0, .int .u16 256, .bool false, .bool false, .string ⟨#[117, 110, 98, 111, 120]⟩, .int .u8 0, .int .u8 0, .int .u16 256, .int .u16 0, .int .u16 0, .int .u16 255, .bool false, .bool false, .string ⟨#[115, 101, 116, 98, 111, 120]⟩, .int .u8 0, .int .u8 0, .int .u16 256, .int .u16 255, .int .u16 0, .int .u16 0, .bool false, .bool false, .string ⟨#[99, 108, 111, 115, 117, 114, 101]⟩, .int .u8 6, .int .u8 7, .int .u16 0, .int .u16 0, .int .u16 0, .int .u16 64, .bool false, .bool false, .string ⟨#[99, 97, 108, 108]⟩, .int .u8 8, .int .u8 0, .int .u16 0, .int .u16 0, .int .u16 0, .int .u16 255, .bool false, .bool false, .string ⟨#[116, 97, 105, 108]⟩, .int .u8 8, .int .u8 0, .int .u16 0, .int .u16 0, .int .u16 0, .int .u16 0, .bool true, .bool false, .string ⟨#[114, 101, 116, 117, 114, 110]⟩, .int .u8 0, .int .u8 0, .int .u16 255, .int .u16 0, .int .u16 0, .int .u16 0, .bool true, .bool false, .string ⟨#[106, 117, 109, 112]⟩, .int .u8 9, .int .u8 0, .int .u16 0, .int .u16 0, .int .u16 0, .int .u16 0, .bool true, .bool true, .string ⟨#[106, 117, 109, 112, 102, 97, 108, 115, 101]⟩, .int .u8 9, .int .u8 0, .int .u16 255, .int .u16 0, .int .u16 0, .int .u16 0, .bool false, .bool true, .string ⟨#[112, 114, 105, 109]⟩, .int .u8 10, .int .u8 0, .int .u16 0, .int .u16 0, .int .u16 0, .int .u16 0, .bool false, .bool false, .string ⟨#[115, 108, 105, 100, 101]⟩, .int .u8 11, .int .u8 0, .int .u16 0, .int .u16 0, .int .u16 0, .int .u16 0, .bool false, .bool false, .string ⟨#[112, 111, 112]⟩, .int .u8 0, .int .u8 0, .int .u16 511, .int .u16 0, .int .u16 0, .int .u16 0, .bool false, .bool false, .string ⟨#[118, 111, 105, 100]⟩, .int .u8 0, .int .u8 0, .int .u16 0, .int .u16 0, .int .u16 0, .int .u16 128, .bool false, .bool false]
/-- The table of primitives, cell by cell. -/
def primCells : Array Value := #[.string ⟨#[43]⟩, .int .u16 1, .int .u16 1, .int .u16 0, .int .u16 1, .string ⟨#[45]⟩, .int .u16 1, .int .u16 1, .int .u16 0, .int .u16 1, .string ⟨#[42]⟩, .int .u16 1, .int .u16 1, .int .u16 0, .int .u16 1, .string ⟨#[113, 117, 111, 116, 105, 101, 110, 116]⟩, .int .u16 1, .int .u16 1, .int .u16 0, .int .u16 1, .string ⟨#[114, 101, 109, 97, 105, 110, 100, 101, 114]⟩, .int .u16 1, .int .u16 1, .int .u16 0, .int .u16 1, .string ⟨#[61]⟩, .int .u16 1, .int .u16 1, .int .u16 0, .int .u16 2, .string ⟨#[60]⟩, .int .u16 1, .int .u16 1, .int .u16 0, .int .u16 2, .string ⟨#[99, 111, 110, 115]⟩, .int .u16 255, .int .u16 255, .int .u16 0, .int .u16 16, .string ⟨#[99, 97, 114]⟩, .int .u16 16, .int .u16 0, .int .u16 0, .int .u16 255, .string ⟨#[99, 100, 114]⟩, .int .u16 16, .int .u16 0, .int .u16 0, .int .u16 255, .string ⟨#[110, 117, 108, 108, 63]⟩, .int .u16 255, .int .u16 0, .int .u16 0, .int .u16 2, .string ⟨#[112, 97, 105, 114, 63]⟩, .int .u16 255, .int .u16 0, .int .u16 0, .int .u16 2, .string ⟨#[102, 105, 120, 110, 117, 109, 63]⟩, .int .u16 255, .int .u16 0, .int .u16 0, .int .u16 2, .string ⟨#[115, 121, 109, 98, 111, 108, 63]⟩, .int .u16 255, .int .u16 0, .int .u16 0, .int .u16 2, .string ⟨#[112, 114, 111, 99, 101, 100, 117, 114, 101, 63]⟩, .int .u16 255, .int .u16 0, .int .u16 0, .int .u16 2, .string ⟨#[118, 101, 99, 116, 111, 114, 63]⟩, .int .u16 255, .int .u16 0, .int .u16 0, .int .u16 2, .string ⟨#[101, 113, 63]⟩, .int .u16 255, .int .u16 255, .int .u16 0, .int .u16 2, .string ⟨#[110, 111, 116]⟩, .int .u16 255, .int .u16 0, .int .u16 0, .int .u16 2, .string ⟨#[109, 97, 107, 101, 45, 118, 101, 99, 116, 111, 114]⟩, .int .u16 1, .int .u16 255, .int .u16 0, .int .u16 32, .string ⟨#[118, 101, 99, 116, 111, 114, 45, 114, 101, 102]⟩, .int .u16 32, .int .u16 1, .int .u16 0, .int .u16 255, .string ⟨#[118, 101, 99, 116, 111, 114, 45, 115, 101, 116, 33]⟩, .int .u16 32, .int .u16 1, .int .u16 255, .int .u16 128, .string ⟨#[118, 101, 99, 116, 111, 114, 45, 108, 101, 110, 103, 116, 104]⟩, .int .u16 32, .int .u16 0, .int .u16 0, .int .u16 1]
/-- A block with other cells. -/
def putCells (cs : Array Value) : Obj → Obj
  | .cells _ t frozen => .cells cs t frozen
  | o => o
/-- The heap with the tables as their initialisers lay them. -/
def withTables (h : Array Obj) : Array Obj := (h.modify 0 (putCells tabCells)).modify 1 (putCells primCells)
set_option maxRecDepth 100000 in
theorem laid_met (os : Os) : laidMet Tryz.prog Rows.fnExactVerifyRow.laid (World.forCall { World.holding Tryz.prog os ⟨#[], #[], []⟩ with heap := withTables (World.holding Tryz.prog os ⟨#[], #[], []⟩).heap } (fun _ _ => 0) ⟨#[], #[.agg #[.slice none 0 0, .int .i64 0, .slice none 0 0]], []⟩).memory :=
  laidMet_of_run' 8 (by kernel_rfl) (by kernel_rfl)
set_option maxRecDepth 100000 in
theorem reads (os : Os) {H : Type} (enc : TypeId × Value → H) : ∃ places, DataW.whole enc Tryz.prog (World.forCall { World.holding Tryz.prog os ⟨#[], #[], []⟩ with heap := withTables (World.holding Tryz.prog os ⟨#[], #[], []⟩).heap } (fun _ _ => 0) ⟨#[], #[.agg #[.slice none 0 0, .int .i64 0, .slice none 0 0]], []⟩).memory Tryz.f3.params.toList Rows.fnExactVerifySpec.vars false #[Value.agg #[.slice none 0 0, .int .i64 0, .slice none 0 0]].toList 8 = some ([.agg [.nil, .lit (.int .i64 0), .nil]], [Rows.laid_loop_example_s01541_impl_instructions, Rows.laid_loop_example_s01541_impl_primitives], places) :=
  ⟨MemPlace.row ⟨0, 0, none⟩ 162 ++ MemPlace.row ⟨1, 0, none⟩ 110, by kernel_rfl⟩

set_option maxRecDepth 100000 in
theorem lifted (os : Os) (started : os.Started) (H : Type) (enc : TypeId × Value → H) (F : Stop.Interp) :
    ReturnsInHanded {} Tryz.checked os 3 .any ((OpenSpec.ofChange Rows.fnExactVerifySpec).preRow enc Tryz.prog Tryz.f3 Rows.fnExactVerifyRow.domain false Rows.fnExactVerifyRow.laid) (((OpenSpec.ofChange Rows.fnExactVerifySpec).at F).post enc Tryz.prog Tryz.f3 false true false false) := by
  obtain ⟨places, hx⟩ := reads os enc
  refine returnsInHanded_of_row (C := Tryz.checked) (s := OpenSpec.ofChange Rows.fnExactVerifySpec) own started (by kernel_rfl) Tryz.func3
    (witness_row_at (enc := enc) (C := Tryz.checked) false { World.holding Tryz.prog os ⟨#[], #[], []⟩ with heap := withTables (World.holding Tryz.prog os ⟨#[], #[], []⟩).heap } #[.agg #[.slice none 0 0, .int .i64 0, .slice none 0 0]] rfl (by kernel_rfl) (by kernel_rfl) (by kernel_rfl)
      (OpenSpec.preRow_of_cond 8 hx (by kernel_rfl) (fun k hk => by cases hk) (by kernel_rfl) (laid_met os))) ?_
  intro W base args ds gs before hval hW _ _ _ hL _ _
  exact contract H enc W base args ds gs before hval hW hL

theorem said : Rows.FnExactVerifySaid :=
  OpenClaim.holds_of_cond 3 Tryz.f3 rfl rfl rfl rfl rfl rfl rfl ⟨rfl, rfl, rfl, rfl, rfl⟩ rfl rfl rfl rfl rfl (by kernel_rfl) Tryz.func3 (by kernel_rfl)
    (of_decide_eq_true (by kernel_rfl)) (by unfold Func.isWrapper; first | (rw [if_pos (by decide +kernel)]; kernel_rfl) | (rw [if_neg (by decide +kernel)]; exact ⟨rfl, rfl⟩))
    (fun os started H enc _ F => by rw [OpenClaim.pre_eq_preRow]; exact lifted os started H enc F)

theorem plain (f : FuncId) (fn : Func) (hf : Tryz.pinned.checked.prog.funcNamed "loop.example/s01541/laws.FnExactVerify" = some f) (hfn : Tryz.pinned.checked.prog.funcs[f]? = some fn) :
    false = Tryz.pinned.checked.prog.looks [] ∧ ∀ (j : Nat) t, fn.params[j]? = some t → Tryz.pinned.checked.prog.wantsStandIn t = false := by
  obtain rfl : f = 3 := Option.some.inj ((show Tryz.prog.funcNamed "loop.example/s01541/laws.FnExactVerify" = some 3 by kernel_rfl).symm.trans hf) |>.symm
  obtain rfl : fn = Tryz.f3 := (Option.some.inj (Tryz.func3.symm.trans hfn)).symm
  refine ⟨by kernel_rfl, fun j t ht => ?_⟩
  rw [Tryz.params3] at ht
  obtain rfl : t = 25 := by simpa using Array.mem_of_getElem? ht
  exact (show Tryz.prog.wantsStandIn 25 = false by kernel_rfl)

theorem fnExactVerify_card : Rows.FnExactVerifyCardSaid :=
  Claim7.holds_tied_plain_at .later [] _ _ _ _ said (fun _ h => by cases h) (by kernel_rfl) (fun _ h => by cases h) fnExactVerify_row_tie rfl ⟨rfl, rfl⟩ (by kernel_rfl) rfl plain (by kernel_rfl)
#print axioms fnExactVerify_card
end Go.Proofs.YtdjdhjciealfhaaGreatDoor
