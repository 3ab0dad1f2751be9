import Derived.Test.YtkkmoaidbmnolaaGreatDoorEt
import Derived.OpenVars
namespace Go.Proofs.YtkkmoaidbmnolaaGreatDoor
open Go.ChangeShapes Go.WideShapes Go.ChangeAt Go.RowKit Go.Joins Ch1
theorem own : ownKnob Tryz.prog.godebug = none := by kernel_rfl
theorem laidOut : laidOutB Tryz.prog = true := by kernel_rfl
theorem cells5 : Tryz.prog.cellsOf 5 = 1 := by kernel_rfl
theorem cell_lt {w : World} {a : Addr} {v : Value} (h : w.cell? a = some v) : a.block < w.heap.size := by
  unfold World.cell? at h
  split at h
  · rename_i hh
    exact (Array.getElem?_eq_some_iff.1 hh).1
  · cases h
theorem wf_u8 {n : Int} (h : (Lit.int .u8 n).wf = true) : 0 ≤ n ∧ n < 256 := by
  simp [Lit.wf, IntKind.min, IntKind.max, IntKind.signed, IntKind.bits] at h
  exact ⟨by omega, by omega⟩
theorem rng_ofD {xs : List Int} (h : ∀ n ∈ xs, 0 ≤ n ∧ n < 256) (i : Nat) : 0 ≤ xs.getD i 0 ∧ xs.getD i 0 < 256 := by
  by_cases hi : i < xs.length
  · exact h _ (by simp [List.getD, List.getElem?_eq_getElem hi])
  · simp [List.getD, List.getElem?_eq_none (Nat.le_of_not_lt hi)]
section
variable {H : Type} {enc : TypeId × Value → H} {W : World}
theorem open_bytes {fuel : Nat} {v : Value} {x : DataW H × List MemPlace} (h : DataW.trod enc Tryz.prog W 0 (fun _ => true) true fuel 22 [v] = some x) : ∃ p n c xs, v = .slice p n c ∧ By W p n c xs := by
  rcases open_ints Tryz.underlying22 Tryz.underlying5 cells5 h with ⟨hcs, _⟩ | ⟨a, len, cap, zs, hcs, _, hl, hm, hz, _, hcell, hwz⟩
  · simp at hcs
    subst hcs
    exact ⟨none, 0, 0, [], rfl, rfl, Nat.le_refl _, by unfold maxLen; omega, fun i => by simp, fun h => absurd h (Nat.lt_irrefl 0), fun a ha => by cases ha⟩
  · simp at hcs
    subst hcs
    have hz' : zs.length = cap := by simpa using hz
    have key : ∀ i, i < len → W.cell? (a.add i) = some (.int .u8 ((zs.take len).getD i 0)) := fun i hi => by
      rw [hcell i (by omega)]; simp [List.getD, hi]
    refine ⟨some a, len, cap, zs.take len, rfl, by rw [List.length_take]; omega, hl, hm, rng_ofD fun n hn => wf_u8 (hwz n (List.mem_of_mem_take hn)), Lib.BytesIn.of_cells key, fun a' ha hlen => ?_⟩
    cases ha
    have := cell_lt (key 0 hlen)
    simpa [Addr.add] using this
end

set_option maxRecDepth 100000 in
/-- What the walk gives, for every argument and every world that holds the table. -/
theorem contract (H : Type) (enc : TypeId × Value → H) (W : World) (base : Nat) (args : Array Value) (ds gs : List (DataW H)) (before : List MemPlace)
    (hval : ∀ (j : Nat) t v, Tryz.f3.params[j]? = some t → args[j]? = some v → Value.okWide Tryz.prog W .any base t v)
    (hW : DataW.Whole enc Tryz.prog Tryz.f3.params.toList Rows.fnExactDecodeImageSpec.vars false W args.toList ds gs before) (hL : laidMetH Tryz.prog Rows.fnExactDecodeImageRow.laid W) :
    Calls Tryz.prog 3 args W fun e W' => ∃ v, e = .returned v ∧ Rows.fnExactDecodeImageSpec.post enc Tryz.prog Tryz.f3 false true false false W args v W' := by
  have hW' := hW
  obtain ⟨p, q, hA0, hV, rfl, hfz, hnd⟩ := hW
  have hA : DataW.TrodAll enc Tryz.prog W 0 (fun _ => true) true Tryz.f3.params.toList args.toList ds p := hA0
  rw [Tryz.params3] at hA hval
  obtain ⟨v0, vs0, d0, ds0, p0, q0, hargs, rfl, rfl, h0, r0⟩ := trodAll_cons hA
  obtain ⟨rfl, rfl, rfl⟩ := trodAll_nil r0
  obtain rfl : args = #[v0] := by cases args; simp_all
  have hV1 : DataW.TrodVars enc Tryz.prog W (fun _ => true) ["loop.example/s01541/impl.instructions"] gs q := hV
  obtain ⟨_, _, _, _, g1, _, rfl, _⟩ := trodVars_one hV1
  obtain ⟨a0, len0, cap0, rfl⟩ := okWide_slice Tryz.underlying22 (hval 0 22 v0 rfl rfl)
  have k0 := h0
  have lt0 : ∀ x ∈ p0, x.block < W.heap.size := by obtain ⟨m, hm⟩ := k0; exact DataW.trod_lt m _ _ _ hm
  obtain ⟨z0, w0⟩ : ∃ zs, By W a0 len0 cap0 zs := by
    obtain ⟨fuel, hf⟩ := h0
    obtain ⟨p, n, c, xs, e, hb⟩ := open_bytes (v := .slice a0 len0 cap0) (by simpa [Value.cells] using hf)
    cases e
    exact ⟨xs, hb⟩
  clear hA0
  refine (lawD_all a0 len0 cap0 z0 W w0 (tableM hL) (handleE hL)).mono fun e W' ⟨he, bel⟩ => ?_
  subst he
  exact ⟨_, rfl, _, _, _, [], _, _, hW', trodAll_mk1 (shut_bool Tryz.underlying4 _), (trodAll_cons_mk (Below.trod laidOut (by kernel_rfl) (of_decide_eq_true (by kernel_rfl)) k0 bel lt0) trodAll_mk0), Below.trodVars laidOut bel (by kernel_rfl) hV1, bel.frame _, fun h => by cases h⟩
/-- The table of instructions, cell by cell. -/
def tabCells : Array Value := #[.string ⟨#[99, 111, 110, 115, 116]⟩, .int .u8 1, .int .u8 0, .int .u16 0, .int .u16 0, .int .u16 0, .int .u16 0, .bool false, .bool false, .string ⟨#[108, 111, 99, 97, 108]⟩, .int .u8 2, .int .u8 0, .int .u16 0, .int .u16 0, .int .u16 0, .int .u16 0, .bool false, .bool false, .string ⟨#[102, 114, 101, 101]⟩, .int .u8 3, .int .u8 0, .int .u16 0, .int .u16 0, .int .u16 0, .int .u16 0, .bool false, .bool false, .string ⟨#[103, 108, 111, 98, 97, 108]⟩, .int .u8 4, .int .u8 0, .int .u16 0, .int .u16 0, .int .u16 0, .int .u16 255, .bool false, .bool false, .string ⟨#[115, 101, 116, 103, 108, 111, 98, 97, 108]⟩, .int .u8 4, .int .u8 0, .int .u16 255, .int .u16 0, .int .u16 0, .int .u16 0, .bool false, .bool false, .string ⟨#[98, 111, 120]⟩, .int .u8 5, .int .u8 0, .int .u16 0, .int .u16 0, .int .u16 0, .int .u16 256, .bool false, .bool false, .string ⟨#[117, 110, 98, 111, 120]⟩, .int .u8 0, .int .u8 0, .int .u16 256, .int .u16 0, .int .u16 0, .int .u16 255, .bool false, .bool false, .string ⟨#[115, 101, 116, 98, 111, 120]⟩, .int .u8 0, .int .u8 0, .int .u16 256, .int .u16 255, .int .u16 0, .int .u16 0, .bool false, .bool false, .string ⟨#[99, 108, 111, 115, 117, 114, 101]⟩, .int .u8 6, .int .u8 7, .int .u16 0, .int .u16 0, .int .u16 0, .int .u16 64, .bool false, .bool false, .string ⟨#[99, 97, 108, 108]⟩, .int .u8 8, .int .u8 0, .int .u16 0, .int .u16 0, .int .u16 0, .int .u16 255, .bool false, .bool false, .string ⟨#[116, 97, 105, 108]⟩, .int .u8 8, .int .u8 0, .int .u16 0, .int .u16 0, .int .u16 0, .int .u16 0, .bool true, .bool false, .string ⟨#[114, 101, 116, 117, 114, 110]⟩, .int .u8 0, .int .u8 0, .int .u16 255, .int .u16 0, .int .u16 0, .int .u16 0, .bool true, .bool false, .string ⟨#[106, 117, 109, 112]⟩, .int .u8 9, .int .u8 0, .int .u16 0, .int .u16 0, .int .u16 0, .int .u16 0, .bool true, .bool true, .string ⟨#[106, 117, 109, 112, 102, 97, 108, 115, 101]⟩, .int .u8 9, .int .u8 0, .int .u16 255, .int .u16 0, .int .u16 0, .int .u16 0, .bool false, .bool true, .string ⟨#[112, 114, 105, 109]⟩, .int .u8 10, .int .u8 0, .int .u16 0, .int .u16 0, .int .u16 0, .int .u16 0, .bool false, .bool false, .string ⟨#[115, 108, 105, 100, 101]⟩, .int .u8 11, .int .u8 0, .int .u16 0, .int .u16 0, .int .u16 0, .int .u16 0, .bool false, .bool false, .string ⟨#[112, 111, 112]⟩, .int .u8 0, .int .u8 0, .int .u16 511, .int .u16 0, .int .u16 0, .int .u16 0, .bool false, .bool false, .string ⟨#[118, 111, 105, 100]⟩, .int .u8 0, .int .u8 0, .int .u16 0, .int .u16 0, .int .u16 0, .int .u16 128, .bool false, .bool false]
/-- A block with other cells. -/
def putCells (cs : Array Value) : Obj → Obj
  | .cells _ t frozen => .cells cs t frozen
  | o => o
/-- The heap with the tables as their initialisers lay them. -/
def withTables (h : Array Obj) : Array Obj := (h.modify 1 (putCells tabCells)).modify 0 (putCells #[.iface 109 (.agg #[.pointer (some ⟨3, 61, none⟩)])])
set_option maxRecDepth 100000 in
theorem laid_met (os : Os) : laidMetH Tryz.prog Rows.fnExactDecodeImageRow.laid (World.forCall { World.holding Tryz.prog os ⟨#[], #[], []⟩ with heap := withTables (World.holding Tryz.prog os ⟨#[], #[], []⟩).heap } (fun _ _ => 0) ⟨#[], #[.slice none 0 0], []⟩).memory :=
  laidMetH_of_parts (laidMet_of_run' 8 (by kernel_rfl) (by kernel_rfl)) (by kernel_rfl)
set_option maxRecDepth 100000 in
theorem reads (os : Os) {H : Type} (enc : TypeId × Value → H) : ∃ places, DataW.whole enc Tryz.prog (World.forCall { World.holding Tryz.prog os ⟨#[], #[], []⟩ with heap := withTables (World.holding Tryz.prog os ⟨#[], #[], []⟩).heap } (fun _ _ => 0) ⟨#[], #[.slice none 0 0], []⟩).memory Tryz.f3.params.toList Rows.fnExactDecodeImageSpec.vars false #[Value.slice none 0 0].toList 8 = some ([.nil], [Rows.laid_loop_example_s01541_impl_instructions], places) :=
  ⟨MemPlace.row ⟨1, 0, none⟩ 162, by kernel_rfl⟩

set_option maxRecDepth 100000 in
theorem lifted (os : Os) (started : os.Started) (H : Type) (enc : TypeId × Value → H) (F : Stop.Interp) :
    ReturnsInHanded {} Tryz.checked os 3 .any ((OpenSpec.ofChange Rows.fnExactDecodeImageSpec).preRow enc Tryz.prog Tryz.f3 Rows.fnExactDecodeImageRow.domain false Rows.fnExactDecodeImageRow.laid) (((OpenSpec.ofChange Rows.fnExactDecodeImageSpec).at F).post enc Tryz.prog Tryz.f3 false true false false) := by
  obtain ⟨places, hx⟩ := reads os enc
  refine returnsInHanded_of_row (C := Tryz.checked) (s := OpenSpec.ofChange Rows.fnExactDecodeImageSpec) own started (by kernel_rfl) Tryz.func3
    (witness_row_at (enc := enc) (C := Tryz.checked) false { World.holding Tryz.prog os ⟨#[], #[], []⟩ with heap := withTables (World.holding Tryz.prog os ⟨#[], #[], []⟩).heap } #[.slice none 0 0] rfl (by kernel_rfl) (by kernel_rfl) (by kernel_rfl)
      (OpenSpec.preRow_of_cond 8 hx (by kernel_rfl) (fun k hk => by cases hk) (by kernel_rfl) (laid_met os))) ?_
  intro W base args ds gs before hval hW _ _ _ hL _ _
  exact contract H enc W base args ds gs before hval hW hL

theorem said : Rows.FnExactDecodeImageSaid :=
  OpenClaim.holds_of_cond 3 Tryz.f3 rfl rfl rfl rfl rfl rfl rfl ⟨rfl, rfl, rfl, rfl, rfl⟩ rfl rfl rfl rfl rfl (by kernel_rfl) Tryz.func3 (by kernel_rfl)
    (of_decide_eq_true (by kernel_rfl)) (by unfold Func.isWrapper; first | (rw [if_pos (by decide +kernel)]; kernel_rfl) | (rw [if_neg (by decide +kernel)]; exact ⟨rfl, rfl⟩))
    (fun os started H enc _ F => by rw [OpenClaim.pre_eq_preRow]; exact lifted os started H enc F)

theorem plain (f : FuncId) (fn : Func) (hf : Tryz.pinned.checked.prog.funcNamed "loop.example/s01541/laws.FnExactDecodeImage" = some f) (hfn : Tryz.pinned.checked.prog.funcs[f]? = some fn) :
    true = Tryz.pinned.checked.prog.looks [] ∧ ∀ (j : Nat) t, fn.params[j]? = some t → Tryz.pinned.checked.prog.wantsStandIn t = false := by
  obtain rfl : f = 3 := Option.some.inj ((show Tryz.prog.funcNamed "loop.example/s01541/laws.FnExactDecodeImage" = some 3 by kernel_rfl).symm.trans hf) |>.symm
  obtain rfl : fn = Tryz.f3 := (Option.some.inj (Tryz.func3.symm.trans hfn)).symm
  refine ⟨by kernel_rfl, fun j t ht => ?_⟩
  rw [Tryz.params3] at ht
  obtain rfl : t = 22 := by simpa using Array.mem_of_getElem? ht
  exact (show Tryz.prog.wantsStandIn 22 = false by kernel_rfl)

theorem fnExactDecodeImage_card : Rows.FnExactDecodeImageCardSaid :=
  Claim7.holds_tied_plain_at .later [] _ _ _ _ said (fun _ h => by cases h) (by kernel_rfl) (fun _ h => by cases h) fnExactDecodeImage_row_tie rfl ⟨rfl, rfl⟩ (by kernel_rfl) rfl plain (by kernel_rfl)
#print axioms fnExactDecodeImage_card
end Go.Proofs.YtkkmoaidbmnolaaGreatDoor
