import Derived.Test.YtdjdhjciealfhaaGreatDoorK8
import Derived.Test.YtdjdhjciealfhaaGreatDoorCards
import Derived.Test.YtdjdhjciealfhaaGreatDoorTie
import Derived.Deep.DeepHandedRow
import Derived.Lib.LaidTab
import Derived.Stop.LaidErr
import Derived.ProofKit
import Derived.OpenShut
import Derived.ChangeOld
import Derived.Deep.Slices
import Derived.Deep.Strs
import Derived.Lib.SmallJoins
namespace Go.Proofs.YtdjdhjciealfhaaGreatDoor
open Go.ChangeShapes Go.WideShapes Go.ChangeAt Go.RowKit Go.Joins Ch1
theorem gTabM : Tryz.prog.globalNamed "loop.example/s01541/impl.instructions" = some 0 := by kernel_rfl
theorem gTabTypeM : (Tryz.prog.globals[0]?).map (·.type) = some 141 := by kernel_rfl
theorem cInstr : Tryz.prog.cellsOf 140 = 9 := by kernel_rfl
theorem cOper : Tryz.prog.cellsOf 136 = 1 := by kernel_rfl
theorem cWant : Tryz.prog.cellsOf 138 = 3 := by kernel_rfl
theorem cKinds : Tryz.prog.cellsOf 87 = 1 := by kernel_rfl
theorem cStr : Tryz.prog.cellsOf 9 = 1 := by kernel_rfl
theorem cBool : Tryz.prog.cellsOf 4 = 1 := by kernel_rfl
theorem trod_struct7 {H : Type} {enc : TypeId × Value → H} {P : Program} {w : World} {base : Nat} {spare : Nat → Bool} {held : Bool} {t : TypeId} {f0 f1 f2 f3 f4 f5 f6 : Field} {fuel : Nat} {cs : List Value} {x : DataW H × List MemPlace} (ht : P.underlying t = some (.struct #[f0, f1, f2, f3, f4, f5, f6])) (h : DataW.trod enc P w base spare held fuel t cs = some x) :
    ∃ y0 y1 y2 y3 y4 y5 y6 n, x.1 = .agg [y0.1, y1.1, y2.1, y3.1, y4.1, y5.1, y6.1] ∧ cs.length = P.cellsOf t ∧ DataW.trod enc P w base spare held n f0.type ((cs.drop f0.offset).take (P.cellsOf f0.type)) = some y0 ∧
      DataW.trod enc P w base spare held n f1.type ((cs.drop f1.offset).take (P.cellsOf f1.type)) = some y1 ∧ DataW.trod enc P w base spare held n f2.type ((cs.drop f2.offset).take (P.cellsOf f2.type)) = some y2 ∧
      DataW.trod enc P w base spare held n f3.type ((cs.drop f3.offset).take (P.cellsOf f3.type)) = some y3 ∧ DataW.trod enc P w base spare held n f4.type ((cs.drop f4.offset).take (P.cellsOf f4.type)) = some y4 ∧
      DataW.trod enc P w base spare held n f5.type ((cs.drop f5.offset).take (P.cellsOf f5.type)) = some y5 ∧ DataW.trod enc P w base spare held n f6.type ((cs.drop f6.offset).take (P.cellsOf f6.type)) = some y6 := by
  obtain ⟨xs, n, _, rfl, hl, hlen, hf⟩ := DataW.trod_struct ht h
  match xs, hlen with
  | [y0, y1, y2, y3, y4, y5, y6], _ => exact ⟨y0, y1, y2, y3, y4, y5, y6, n, rfl, hl, by simpa using hf 0 f0 rfl, by simpa using hf 1 f1 rfl, by simpa using hf 2 f2 rfl, by simpa using hf 3 f3 rfl, by simpa using hf 4 f4 rfl, by simpa using hf 5 f5 rfl, by simpa using hf 6 f6 rfl⟩
namespace Vf
section
variable {H : Type} {enc : TypeId × Value → H} {W : World} {base : Nat} {sp : Nat → Bool} {held : Bool}
/-- Three kinds in a row. -/
theorem open_wanted {fuel : Nat} {c3 c4 c5 : Value} {x : DataW H × List MemPlace} (h : DataW.trod enc Tryz.prog W base sp held fuel 138 [c3, c4, c5] = some x) : ∃ a b c, c3 = .int .u16 a ∧ c4 = .int .u16 b ∧ c5 = .int .u16 c ∧ x.1 = .agg [.lit (.int .u16 a), .lit (.int .u16 b), .lit (.int .u16 c)] := by
  obtain ⟨xs, m, _, ex, _, hl, hel⟩ := DataW.trod_array Tryz.underlying138 h
  match xs, hl with
  | [y0, y1, y2], _ =>
    have h0 := hel 0 (by omega)
    have h1 := hel 1 (by omega)
    have h2 := hel 2 (by omega)
    simp only [cKinds, Nat.zero_mul, Nat.one_mul, Nat.reduceMul, List.drop_zero, List.take_succ_cons, List.take_zero, List.drop_succ_cons, List.getElem?_cons_zero, List.getElem?_cons_succ] at h0 h1 h2
    obtain ⟨a, e0, q0, _⟩ := DataW.trod_int Tryz.underlying87 h0
    obtain ⟨b, e1, q1, _⟩ := DataW.trod_int Tryz.underlying87 h1
    obtain ⟨c, e2, q2, _⟩ := DataW.trod_int Tryz.underlying87 h2
    simp at e0 e1 e2
    refine ⟨a, b, c, e0, e1, e2, ?_⟩
    rw [ex]
    simp only [List.map_cons, List.map_nil]
    rw [q0, q1, q2]
set_option maxRecDepth 100000 in
/-- One row of the table of instructions. -/
theorem open_row {fuel : Nat} {cs : List Value} {x : DataW H × List MemPlace} (h : DataW.trod enc Tryz.prog W base sp held fuel 140 cs = some x) :
    ∃ (s : ByteArray) (a b x3 x4 x5 x6 : Int) (b7 b8 : Bool), cs = [.string s, .int .u8 a, .int .u8 b, .int .u16 x3, .int .u16 x4, .int .u16 x5, .int .u16 x6, .bool b7, .bool b8] ∧ x.1 = .agg [.lit (.string s.data.toList), .lit (.int .u8 a), .lit (.int .u8 b), .agg [.lit (.int .u16 x3), .lit (.int .u16 x4), .lit (.int .u16 x5)], .lit (.int .u16 x6), .lit (.bool b7), .lit (.bool b8)] := by
  obtain ⟨y0, y1, y2, y3, y4, y5, y6, n, hy, hl, h0, h1, h2, h3, h4, h5, h6⟩ := trod_struct7 Tryz.underlying140 h
  rw [cInstr] at hl
  match cs, hl with
  | [c0, c1, c2, c3, c4, c5, c6, c7, c8], _ =>
    simp only [cStr, cOper, cWant, cKinds, cBool, List.drop_zero, List.take_succ_cons, List.take_zero, List.drop_succ_cons] at h0 h1 h2 h3 h4 h5 h6
    obtain ⟨s, e0, q0, _⟩ := DataW.trod_string Tryz.underlying9 h0
    obtain ⟨a, e1, q1, _⟩ := DataW.trod_int Tryz.underlying136 h1
    obtain ⟨b, e2, q2, _⟩ := DataW.trod_int Tryz.underlying136 h2
    obtain ⟨x3, x4, x5, rfl, rfl, rfl, q3⟩ := open_wanted h3
    obtain ⟨x6, e4, q4, _⟩ := DataW.trod_int Tryz.underlying87 h4
    obtain ⟨b7, e5, q5⟩ := DataW.trod_bool Tryz.underlying4 h5
    obtain ⟨b8, e6, q6⟩ := DataW.trod_bool Tryz.underlying4 h6
    simp only [List.cons.injEq, and_true] at e0 e1 e2 e4 e5 e6
    rw [q3] at hy
    subst e0 e1 e2 e4 e5 e6 q0 q1 q2 q4 q5 q6
    exact ⟨s, a, b, x3, x4, x5, x6, b7, b8, rfl, hy⟩
theorem cPrim : Tryz.prog.cellsOf 143 = 5 := by kernel_rfl
set_option maxRecDepth 100000 in
/-- One row of the table of primitives. -/
theorem open_prim {fuel : Nat} {cs : List Value} {x : DataW H × List MemPlace} (h : DataW.trod enc Tryz.prog W base sp held fuel 143 cs = some x) :
    ∃ (s : ByteArray) (a b c d : Int) (d0 : DataW H), cs = [.string s, .int .u16 a, .int .u16 b, .int .u16 c, .int .u16 d] ∧ x.1 = .agg [d0, .agg [.lit (.int .u16 a), .lit (.int .u16 b), .lit (.int .u16 c)], .lit (.int .u16 d)] := by
  obtain ⟨y0, y1, y2, n, hy, hl, h0, h1, h2⟩ := Go.Deep.trod_struct3 Tryz.underlying143 h
  rw [cPrim] at hl
  match cs, hl with
  | [c0, c1, c2, c3, c4], _ =>
    simp only [cStr, cWant, cKinds, List.drop_zero, List.take_succ_cons, List.take_zero, List.drop_succ_cons] at h0 h1 h2
    obtain ⟨s, e0, q0, _⟩ := DataW.trod_string Tryz.underlying9 h0
    obtain ⟨a, b, c, rfl, rfl, rfl, q1⟩ := open_wanted h1
    obtain ⟨d, e2, q2, _⟩ := DataW.trod_int Tryz.underlying87 h2
    simp at e0 e2
    subst e0 e2
    exact ⟨s, a, b, c, d, y0.1, rfl, by rw [hy]; show DataW.agg [y0.1, y1.1, y2.1] = _; rw [q1, q2]⟩
end
theorem gTabP : Tryz.prog.globalNamed "loop.example/s01541/impl.primitives" = some 1 := by kernel_rfl
theorem gTabTypeP : (Tryz.prog.globals[1]?).map (·.type) = some 144 := by kernel_rfl
/-- What the row's lists say of the tables. -/
theorem laid_rows : ∀ op, op < 18 → ∃ (l : List (DataW Unit)) (s : DataW Unit), Rows.laid_loop_example_s01541_impl_instructions = .agg l ∧ l[op]? = some (.agg [s, .lit (.int .u8 (useA op)), .lit (.int .u8 (useB op)), .agg [.lit (.int .u16 ((tkT op).getD 0 0 : Nat)), .lit (.int .u16 ((tkT op).getD 1 0 : Nat)), .lit (.int .u16 ((tkT op).getD 2 0 : Nat))], .lit (.int .u16 (lvT op : Nat)), .lit (.bool (enT op)), .lit (.bool (jmT op))]) := by
  intro op h
  have hops : op = 0 ∨ op = 1 ∨ op = 2 ∨ op = 3 ∨ op = 4 ∨ op = 5 ∨ op = 6 ∨ op = 7 ∨ op = 8 ∨ op = 9 ∨ op = 10 ∨ op = 11 ∨ op = 12 ∨ op = 13 ∨ op = 14 ∨ op = 15 ∨ op = 16 ∨ op = 17 := by omega
  rcases hops with h | h | h | h | h | h | h | h | h | h | h | h | h | h | h | h | h | h <;> subst h <;> exact ⟨_, _, rfl, rfl⟩
theorem laid_prims : ∀ p, p < 22 → ∃ (l : List (DataW Unit)) (d0 : DataW Unit), Rows.laid_loop_example_s01541_impl_primitives = .agg l ∧ l[p]? = some (.agg [d0, .agg [.lit (.int .u16 ((pArgs p).getD 0 0 : Nat)), .lit (.int .u16 ((pArgs p).getD 1 0 : Nat)), .lit (.int .u16 ((pArgs p).getD 2 0 : Nat))], .lit (.int .u16 (pRes p : Nat))]) := by
  intro p h
  have hops : p = 0 ∨ p = 1 ∨ p = 2 ∨ p = 3 ∨ p = 4 ∨ p = 5 ∨ p = 6 ∨ p = 7 ∨ p = 8 ∨ p = 9 ∨ p = 10 ∨ p = 11 ∨ p = 12 ∨ p = 13 ∨ p = 14 ∨ p = 15 ∨ p = 16 ∨ p = 17 ∨ p = 18 ∨ p = 19 ∨ p = 20 ∨ p = 21 := by omega
  rcases hops with h | h | h | h | h | h | h | h | h | h | h | h | h | h | h | h | h | h | h | h | h | h <;> subst h <;> exact ⟨_, _, rfl, rfl⟩
theorem tableM {W : World} (h2 : laidMet Tryz.prog [("loop.example/s01541/impl.instructions", Rows.laid_loop_example_s01541_impl_instructions), ("loop.example/s01541/impl.primitives", Rows.laid_loop_example_s01541_impl_primitives)] W) : Tb W ∧ ∀ op, op < 18 → TvR W op := by
  obtain ⟨ps, ⟨g', t', cs, fuel, p, q, hg', ht', hvar, hd, _, _⟩, _⟩ := h2
  obtain rfl := Option.some.inj (gTabM.symm.trans hg')
  obtain rfl := Option.some.inj (gTabTypeM.symm.trans ht')
  have hcell := fun i => World.var?_cell gTabM hvar i
  obtain ⟨xs, m, _, ex, hlen, hl, hel⟩ := DataW.trod_array Tryz.underlying141 hd
  rw [cInstr] at hel
  have key : ∀ op, op < 18 → ∃ v0, TbR W op v0 ((tkT op).getD 0 0 : Nat) ((tkT op).getD 1 0 : Nat) ((tkT op).getD 2 0 : Nat) (lvT op : Nat) (enT op) (jmT op) := by
    intro op hop
    have h1 := hel op hop
    obtain ⟨x, hx⟩ : ∃ x, xs[op]? = some x := ⟨xs[op]'(by omega), List.getElem?_eq_getElem (by omega)⟩
    rw [hx] at h1
    obtain ⟨s, a, b, x3, x4, x5, x6, b7, b8, hcs, hxx⟩ := open_row h1
    obtain ⟨l, s', hl1, hl2⟩ := laid_rows op hop
    have hl3 : xs.map (·.1) = l := by
      have := congrArg Prod.fst ex
      simp only at this
      rw [hl1] at this
      injection this with this
      exact this.symm
    have hl4 : l[op]? = some x.1 := by rw [← hl3]; simp [hx]
    rw [hl2, hxx] at hl4
    simp only [Option.some.injEq, DataW.agg.injEq, List.cons.injEq, DataW.lit.injEq, Lit.int.injEq, Lit.bool.injEq, true_and, and_true] at hl4
    obtain ⟨_, ha, hb, ⟨h3, h4, h5⟩, h6, h7, h8⟩ := hl4
    have hcs2 : ∀ i, i < 9 → W.cell? ⟨0, op * 9 + i, none⟩ = ((cs.toList.drop (op * 9)).take 9)[i]? := fun i hi => by
      rw [hcell, List.getElem?_take, if_pos hi, List.getElem?_drop, Array.getElem?_toList]
    rw [hcs] at hcs2
    refine ⟨s, ?_, ?_, ?_, ?_, ?_, ?_, ?_, ?_, ?_⟩
    · have := hcs2 0 (by omega); exact this
    · have := hcs2 1 (by omega); rw [ha]; exact this
    · have := hcs2 2 (by omega); rw [hb]; exact this
    · have := hcs2 3 (by omega); rw [h3]; exact this
    · have := hcs2 4 (by omega); rw [h4]; exact this
    · have := hcs2 5 (by omega); rw [h5]; exact this
    · have := hcs2 6 (by omega); rw [h6]; exact this
    · have := hcs2 7 (by omega); rw [h7]; exact this
    · have := hcs2 8 (by omega); rw [h8]; exact this
  refine ⟨⟨?_, fun op hop => ?_⟩, fun op hop => ?_⟩
  · obtain ⟨_, hr⟩ := key 0 (by omega)
    have h0 := hr.c0
    unfold World.cell? at h0
    split at h0
    · rename_i hh
      exact (Array.getElem?_eq_some_iff.1 hh).1
    · cases h0
  · obtain ⟨v0, hr⟩ := key op hop
    exact ⟨_, _, _, _, _, _, _, hr⟩
  · obtain ⟨v0, hr⟩ := key op hop
    exact ⟨hr.c3, hr.c4, hr.c5, hr.c6, hr.c7, hr.c8⟩
theorem tableP {W : World} (h2 : laidMet Tryz.prog [("loop.example/s01541/impl.primitives", Rows.laid_loop_example_s01541_impl_primitives)] W) : 1 < W.heap.size ∧ ∀ p, p < 22 → TvP W p := by
  obtain ⟨ps, ⟨g', t', cs, fuel, p, q, hg', ht', hvar, hd, _, _⟩, _⟩ := h2
  obtain rfl := Option.some.inj (gTabP.symm.trans hg')
  obtain rfl := Option.some.inj (gTabTypeP.symm.trans ht')
  have hcell := fun i => World.var?_cell gTabP hvar i
  obtain ⟨xs, m, _, ex, hlen, hl, hel⟩ := DataW.trod_array Tryz.underlying144 hd
  rw [cPrim] at hel
  have key : ∀ op, op < 22 → TvP W op := by
    intro op hop
    have h1 := hel op hop
    obtain ⟨x, hx⟩ : ∃ x, xs[op]? = some x := ⟨xs[op]'(by omega), List.getElem?_eq_getElem (by omega)⟩
    rw [hx] at h1
    obtain ⟨s, a, b, c, d, d0, hcs, hxx⟩ := open_prim h1
    obtain ⟨l, e0, hl1, hl2⟩ := laid_prims op hop
    have hl3 : xs.map (·.1) = l := by
      have := congrArg Prod.fst ex
      simp only at this
      rw [hl1] at this
      injection this with this
      exact this.symm
    have hl4 : l[op]? = some x.1 := by rw [← hl3]; simp [hx]
    rw [hl2, hxx] at hl4
    simp only [Option.some.injEq, DataW.agg.injEq, List.cons.injEq, DataW.lit.injEq, Lit.int.injEq, true_and, and_true] at hl4
    obtain ⟨_, ⟨h3, h4, h5⟩, h6⟩ := hl4
    have hcs2 : ∀ i, i < 5 → W.cell? ⟨1, op * 5 + i, none⟩ = ((cs.toList.drop (op * 5)).take 5)[i]? := fun i hi => by
      rw [hcell, List.getElem?_take, if_pos hi, List.getElem?_drop, Array.getElem?_toList]
    rw [hcs] at hcs2
    refine ⟨?_, ?_, ?_, ?_⟩
    · have := hcs2 1 (by omega); rw [h3]; exact this
    · have := hcs2 2 (by omega); rw [h4]; exact this
    · have := hcs2 3 (by omega); rw [h5]; exact this
    · have := hcs2 4 (by omega); rw [h6]; exact this
  refine ⟨?_, key⟩
  have h0 := (key 0 (by omega)).c1
  unfold World.cell? at h0
  split at h0
  · rename_i hh
    exact (Array.getElem?_eq_some_iff.1 hh).1
  · cases h0
theorem tablesV {W : World} (h : laidMetH Tryz.prog Rows.fnExactVerifyRow.laid W) : TbV W := by
  have h4 : laidMet Tryz.prog [("loop.example/s01541/impl.instructions", Rows.laid_loop_example_s01541_impl_instructions), ("loop.example/s01541/impl.primitives", Rows.laid_loop_example_s01541_impl_primitives)] W := h
  have h5 := laidMet.tail h4
  have hM := tableM h4
  have hP := tableP h5
  exact ⟨hM.1, hP.1, hM.2, hP.2⟩
end Vf
end Go.Proofs.YtdjdhjciealfhaaGreatDoor
namespace Go.Proofs.YtdjdhjciealfhaaGreatDoor
open Go.ChangeShapes Go.WideShapes Go.ChangeAt Go.RowKit Go.Joins Ch1
theorem own : ownKnob Tryz.prog.godebug = none := by kernel_rfl
theorem laidOut : laidOutB Tryz.prog = true := by kernel_rfl
theorem cells45 : Tryz.prog.cellsOf 110 = 4 := by kernel_rfl
theorem cells3 : Tryz.prog.cellsOf 3 = 1 := by kernel_rfl
theorem cells43 : Tryz.prog.cellsOf 108 = 1 := by kernel_rfl
theorem cells5 : Tryz.prog.cellsOf 5 = 1 := by kernel_rfl
theorem cell_lt {w : World} {a : Addr} {v : Value} (h : w.cell? a = some v) : a.block < w.heap.size := by
  unfold World.cell? at h
  split at h
  · rename_i hh
    exact (Array.getElem?_eq_some_iff.1 hh).1
  · cases h
theorem wf_u8 {n : Int} (h : (Lit.int .u8 n).wf = true) : 0 ≤ n ∧ n < 256 := by
  simp [Lit.wf, IntKind.min, IntKind.max, IntKind.signed, IntKind.bits] at h
  exact ⟨by omega, by omega⟩
theorem wf_i64 {n : Int} (h : (Lit.int .i64 n).wf = true) : -9223372036854775808 ≤ n ∧ n ≤ 9223372036854775807 := by
  simp [Lit.wf, IntKind.min, IntKind.max, IntKind.signed, IntKind.bits] at h
  exact ⟨by omega, by omega⟩
theorem rng_ofM {xs : List Int} (h : ∀ n ∈ xs, 0 ≤ n ∧ n < 256) (i : Nat) : 0 ≤ xs.getD i 0 ∧ xs.getD i 0 < 256 := by
  by_cases hi : i < xs.length
  · exact h _ (by simp [List.getD, List.getElem?_eq_getElem hi])
  · simp [List.getD, List.getElem?_eq_none (Nat.le_of_not_lt hi)]
section
variable {H : Type} {enc : TypeId × Value → H} {W : World}
theorem open_bytes {fuel : Nat} {v : Value} {x : DataW H × List MemPlace} (h : DataW.trod enc Tryz.prog W 0 (fun _ => true) true fuel 108 [v] = some x) : ∃ p n c xs, v = .slice p n c ∧ By W p n c xs := by
  rcases open_ints Tryz.underlying108 Tryz.underlying5 cells5 h with ⟨hcs, _⟩ | ⟨a, len, cap, zs, hcs, _, hl, hm, hz, _, hcell, hwz⟩
  · simp at hcs
    subst hcs
    exact ⟨none, 0, 0, [], rfl, rfl, Nat.le_refl _, by unfold maxLen; omega, fun i => by simp, fun h => absurd h (Nat.lt_irrefl 0), fun a ha => by cases ha⟩
  · simp at hcs
    subst hcs
    have hz' : zs.length = cap := by simpa using hz
    have key : ∀ i, i < len → W.cell? (a.add i) = some (.int .u8 ((zs.take len).getD i 0)) := fun i hi => by
      rw [hcell i (by omega)]; simp [List.getD, hi]
    refine ⟨some a, len, cap, zs.take len, rfl, by rw [List.length_take]; omega, hl, hm, rng_ofM fun n hn => wf_u8 (hwz n (List.mem_of_mem_take hn)), Lib.BytesIn.of_cells key, fun a' ha hlen => ?_⟩
    cases ha
    have := cell_lt (key 0 hlen)
    simpa [Addr.add] using this
set_option maxRecDepth 100000 in
theorem open_datum {fuel : Nat} {cs : List Value} {x : DataW H × List MemPlace} (h : DataW.trod enc Tryz.prog W 0 (fun _ => true) true fuel 110 cs = some x) :
    ∃ (d : Dt) (p : Option Addr) (n c : Nat), cs = [.int .i64 d.kind, .int .i64 d.n, .slice p n c, .int .i64 d.count] ∧ By W p n c d.text ∧ -9223372036854775808 ≤ d.count ∧ d.count ≤ 9223372036854775807 := by
  obtain ⟨y0, y1, y2, y3, m, _, hlen, h0, h1, h2, h3⟩ := trod_struct4 Tryz.underlying110 h
  rw [cells45] at hlen
  match cs, hlen with
  | [c0, c1, c2, c3], _ =>
    simp only [cells3, cells43, List.drop_zero, List.take_succ_cons, List.take_zero, List.drop_succ_cons] at h0 h1 h2 h3
    obtain ⟨k, e0, _, _⟩ := DataW.trod_int Tryz.underlying3 h0
    obtain ⟨n, e1, _, _⟩ := DataW.trod_int Tryz.underlying3 h1
    obtain ⟨q, e3, _, wq⟩ := DataW.trod_int Tryz.underlying3 h3
    obtain ⟨p, tn, tc, xs, rfl, hb⟩ := open_bytes h2
    simp at e0 e1 e3
    subst e0 e1 e3
    exact ⟨⟨k, n, xs, q⟩, p, tn, tc, rfl, hb, (wf_i64 wq).1, (wf_i64 wq).2⟩
theorem open_data {fuel : Nat} {p : Option Addr} {len cap : Nat} {x : DataW H × List MemPlace} (h : DataW.trod enc Tryz.prog W 0 (fun _ => true) true fuel 62 [.slice p len cap] = some x) : ∃ ds, Da W p len cap ds := by
  rcases Go.Deep.open_slice Tryz.underlying62 h with ⟨hcs, _⟩ | ⟨a, len', cap', m, n, D, Pl, hcs, _, hl, hm, hmm, _, hx⟩
  · simp at hcs
    obtain ⟨rfl, rfl, rfl⟩ := hcs
    exact ⟨[], rfl, Nat.le_refl _, by unfold maxLen; omega, fun h => absurd h (Nat.lt_irrefl 0)⟩
  · simp at hcs
    obtain ⟨rfl, rfl, rfl⟩ := hcs
    simp at hmm
    subst hmm
    rw [cells45] at hx
    letI : Inhabited Dt := ⟨dt0⟩
    obtain ⟨f, hf⟩ := Go.Deep.choose_lt (n := len) (α := Dt) (p := fun i d => ∃ tp tn tc, W.cells? 0 (a.add (i * 4)) 4 = some [.int .i64 d.kind, .int .i64 d.n, .slice tp tn tc, .int .i64 d.count] ∧ By W tp tn tc d.text ∧ -9223372036854775808 ≤ d.count ∧ d.count ≤ 9223372036854775807) (fun i hi => by
      obtain ⟨cs', h1, h2⟩ := hx i (by omega)
      obtain ⟨d, tp, tn, tc, rfl, hb, hlo, hhi⟩ := open_datum h2
      exact ⟨d, tp, tn, tc, h1, hb, hlo, hhi⟩)
    refine ⟨(List.range len).map f, by simp, hl, hm, fun hpos => ?_⟩
    have h0 := (hf 0 hpos).choose_spec.choose_spec.choose_spec.1
    obtain ⟨_, _, hc0⟩ := World.cells?_some h0
    have hc00 := hc0 0 (by omega)
    simp [Addr.add] at hc00
    obtain ⟨b, o, spot⟩ := a
    have hspot : spot = none := by simpa using World.cell?_spot hc00
    subst hspot
    refine ⟨b, o, rfl, cell_lt hc00, fun i hi => ?_⟩
    obtain ⟨tp, tn, tc, h1, hb, hlo, hhi⟩ := hf i hi
    obtain ⟨_, _, hc⟩ := World.cells?_some h1
    have e : ((List.range len).map f).getD i dt0 = f i := by simp [List.getD, hi]
    rw [add_plain] at hc
    have q0 := hc 0 (by omega)
    have q1 := hc 1 (by omega)
    have q2 := hc 2 (by omega)
    have q3 := hc 3 (by omega)
    rw [add_plain] at q0 q1 q2 q3
    refine ⟨tp, tn, tc, ?_⟩
    rw [e]
    exact ⟨by simpa using q0, by simpa using q1, by simpa using q2, by simpa using q3, hb, hlo, hhi⟩
end

theorem cMod : Tryz.prog.cellsOf 25 = 3 := by kernel_rfl
theorem cFn : Tryz.prog.cellsOf 66 = 3 := by kernel_rfl
theorem cIns : Tryz.prog.cellsOf 154 = 3 := by kernel_rfl
theorem cDs : Tryz.prog.cellsOf 62 = 1 := by kernel_rfl
theorem cDss : Tryz.prog.cellsOf 22 = 1 := by kernel_rfl
theorem cFs : Tryz.prog.cellsOf 23 = 1 := by kernel_rfl
theorem cBs : Tryz.prog.cellsOf 43 = 1 := by kernel_rfl
theorem cIs : Tryz.prog.cellsOf 64 = 1 := by kernel_rfl
section
variable {H : Type} {enc : TypeId × Value → H} {W : World}
theorem open_slice1 {fuel : Nat} {t : TypeId} {e : TypeId} {v : Value} {x : DataW H × List MemPlace} (ht : Tryz.prog.underlying t = some (.slice e)) (h : DataW.trod enc Tryz.prog W 0 (fun _ => true) true fuel t [v] = some x) : ∃ p len cap, v = .slice p len cap := by
  rcases Go.Deep.open_slice ht h with ⟨hcs, _⟩ | ⟨a, len', cap', m, n, D, Pl, hcs, _⟩
  · simp at hcs; exact ⟨_, _, _, hcs⟩
  · simp at hcs; exact ⟨_, _, _, hcs⟩
theorem open_bools {fuel : Nat} {p : Option Addr} {len cap : Nat} {x : DataW H × List MemPlace} (h : DataW.trod enc Tryz.prog W 0 (fun _ => true) true fuel 43 [.slice p len cap] = some x) : ∃ bs, Bo W p len cap bs := by
  rcases Go.Deep.open_slice Tryz.underlying43 h with ⟨hcs, _⟩ | ⟨a, len', cap', m, n, D, Pl, hcs, _, hl, hm, hmm, _, hx⟩
  · simp at hcs
    obtain ⟨rfl, rfl, rfl⟩ := hcs
    exact ⟨[], rfl, Nat.le_refl _, by unfold maxLen; omega, fun h => absurd h (Nat.lt_irrefl 0)⟩
  · simp at hcs
    obtain ⟨rfl, rfl, rfl⟩ := hcs
    simp at hmm
    subst hmm
    rw [cBool] at hx
    obtain ⟨f, hf⟩ := Go.Deep.choose_lt (n := len) (α := Bool) (p := fun i d => W.cells? 0 (a.add (i * 1)) 1 = some [.bool d]) (fun i hi => by
      obtain ⟨cs', h1, h2⟩ := hx i (by omega)
      obtain ⟨b, rfl, _⟩ := DataW.trod_bool Tryz.underlying4 h2
      exact ⟨b, h1⟩)
    refine ⟨(List.range len).map f, by simp, hl, hm, fun hpos => ?_⟩
    obtain ⟨_, _, hc0⟩ := World.cells?_some (hf 0 hpos)
    have hc00 := hc0 0 (by omega)
    simp [Addr.add] at hc00
    obtain ⟨b, o, spot⟩ := a
    have hspot : spot = none := by simpa using World.cell?_spot hc00
    subst hspot
    refine ⟨b, o, rfl, cell_lt hc00, fun i hi => ?_⟩
    obtain ⟨_, _, hc⟩ := World.cells?_some (hf i hi)
    have e : ((List.range len).map f).getD i false = f i := by simp [List.getD, hi]
    rw [add_plain] at hc
    have q0 := hc 0 (by omega)
    rw [add_plain] at q0
    rw [e]
    simpa using q0
set_option maxRecDepth 100000 in
theorem open_in {fuel : Nat} {cs : List Value} {x : DataW H × List MemPlace} (h : DataW.trod enc Tryz.prog W 0 (fun _ => true) true fuel 154 cs = some x) : ∃ d : In, cs = [.int .i64 d.op, .int .i64 d.a, .int .i64 d.b] := by
  obtain ⟨y0, y1, y2, m, _, hlen, h0, h1, h2⟩ := Go.Deep.trod_struct3 Tryz.underlying154 h
  rw [cIns] at hlen
  match cs, hlen with
  | [c0, c1, c2], _ =>
    simp only [cells3, List.drop_zero, List.take_succ_cons, List.take_zero, List.drop_succ_cons] at h0 h1 h2
    obtain ⟨k, e0, _, _⟩ := DataW.trod_int Tryz.underlying3 h0
    obtain ⟨n, e1, _, _⟩ := DataW.trod_int Tryz.underlying3 h1
    obtain ⟨q, e2, _, _⟩ := DataW.trod_int Tryz.underlying3 h2
    simp at e0 e1 e2
    subst e0 e1 e2
    exact ⟨⟨k, n, q⟩, rfl⟩
theorem open_ins {fuel : Nat} {p : Option Addr} {len cap : Nat} {x : DataW H × List MemPlace} (h : DataW.trod enc Tryz.prog W 0 (fun _ => true) true fuel 64 [.slice p len cap] = some x) : ∃ xs, Ii W p len cap xs := by
  rcases Go.Deep.open_slice Tryz.underlying64 h with ⟨hcs, _⟩ | ⟨a, len', cap', m, n, D, Pl, hcs, _, hl, hm, hmm, _, hx⟩
  · simp at hcs
    obtain ⟨rfl, rfl, rfl⟩ := hcs
    exact ⟨[], rfl, Nat.le_refl _, by unfold maxLen; omega, fun h => absurd h (Nat.lt_irrefl 0)⟩
  · simp at hcs
    obtain ⟨rfl, rfl, rfl⟩ := hcs
    simp at hmm
    subst hmm
    rw [cIns] at hx
    letI : Inhabited In := ⟨in0⟩
    obtain ⟨f, hf⟩ := Go.Deep.choose_lt (n := len) (α := In) (p := fun i d => W.cells? 0 (a.add (i * 3)) 3 = some [.int .i64 d.op, .int .i64 d.a, .int .i64 d.b]) (fun i hi => by
      obtain ⟨cs', h1, h2⟩ := hx i (by omega)
      obtain ⟨d, rfl⟩ := open_in h2
      exact ⟨d, h1⟩)
    refine ⟨(List.range len).map f, by simp, hl, hm, fun hpos => ?_⟩
    obtain ⟨_, _, hc0⟩ := World.cells?_some (hf 0 hpos)
    have hc00 := hc0 0 (by omega)
    simp [Addr.add] at hc00
    obtain ⟨b, o, spot⟩ := a
    have hspot : spot = none := by simpa using World.cell?_spot hc00
    subst hspot
    refine ⟨b, o, rfl, cell_lt hc00, fun i hi => ?_⟩
    obtain ⟨_, _, hc⟩ := World.cells?_some (hf i hi)
    have e : ((List.range len).map f).getD i in0 = f i := by simp [List.getD, hi]
    rw [add_plain] at hc
    have q0 := hc 0 (by omega)
    have q1 := hc 1 (by omega)
    have q2 := hc 2 (by omega)
    rw [add_plain] at q0 q1 q2
    rw [e]
    exact ⟨by simpa using q0, by simpa using q1, by simpa using q2⟩
set_option maxRecDepth 100000 in
theorem open_fn {fuel : Nat} {cs : List Value} {x : DataW H × List MemPlace} (h : DataW.trod enc Tryz.prog W 0 (fun _ => true) true fuel 66 cs = some x) : ∃ (d : Fn) (fp : Option Addr) (fl fc : Nat) (cp : Option Addr) (cl cc : Nat), cs = [.int .i64 d.params, .slice fp fl fc, .slice cp cl cc] ∧ Bo W fp fl fc d.free ∧ Ii W cp cl cc d.code := by
  obtain ⟨y0, y1, y2, m, _, hlen, h0, h1, h2⟩ := Go.Deep.trod_struct3 Tryz.underlying66 h
  rw [cFn] at hlen
  match cs, hlen with
  | [c0, c1, c2], _ =>
    simp only [cells3, cBs, cIs, List.drop_zero, List.take_succ_cons, List.take_zero, List.drop_succ_cons] at h0 h1 h2
    obtain ⟨k, e0, _, _⟩ := DataW.trod_int Tryz.underlying3 h0
    obtain ⟨fp, fl, fc, rfl⟩ := open_slice1 Tryz.underlying43 h1
    obtain ⟨cp, cl, cc, rfl⟩ := open_slice1 Tryz.underlying64 h2
    obtain ⟨bs, hb⟩ := open_bools h1
    obtain ⟨xs, hi⟩ := open_ins h2
    simp at e0
    subst e0
    exact ⟨⟨k, bs, xs⟩, fp, fl, fc, cp, cl, cc, rfl, hb, hi⟩
theorem open_fns {fuel : Nat} {p : Option Addr} {len cap : Nat} {x : DataW H × List MemPlace} (h : DataW.trod enc Tryz.prog W 0 (fun _ => true) true fuel 23 [.slice p len cap] = some x) : ∃ fs, Fu W p len cap fs := by
  rcases Go.Deep.open_slice Tryz.underlying23 h with ⟨hcs, _⟩ | ⟨a, len', cap', m, n, D, Pl, hcs, _, hl, hm, hmm, _, hx⟩
  · simp at hcs
    obtain ⟨rfl, rfl, rfl⟩ := hcs
    exact ⟨[], rfl, Nat.le_refl _, by unfold maxLen; omega, fun h => absurd h (Nat.lt_irrefl 0)⟩
  · simp at hcs
    obtain ⟨rfl, rfl, rfl⟩ := hcs
    simp at hmm
    subst hmm
    rw [cFn] at hx
    letI : Inhabited Fn := ⟨fn0⟩
    obtain ⟨f, hf⟩ := Go.Deep.choose_lt (n := len) (α := Fn) (p := fun i d => ∃ fp fl fc cp cl cc, W.cells? 0 (a.add (i * 3)) 3 = some [.int .i64 d.params, .slice fp fl fc, .slice cp cl cc] ∧ Bo W fp fl fc d.free ∧ Ii W cp cl cc d.code) (fun i hi => by
      obtain ⟨cs', h1, h2⟩ := hx i (by omega)
      obtain ⟨d, fp, fl, fc, cp, cl, cc, rfl, hb, hi⟩ := open_fn h2
      exact ⟨d, fp, fl, fc, cp, cl, cc, h1, hb, hi⟩)
    refine ⟨(List.range len).map f, by simp, hl, hm, fun hpos => ?_⟩
    obtain ⟨_, _, _, _, _, _, h0, _⟩ := hf 0 hpos
    obtain ⟨_, _, hc0⟩ := World.cells?_some h0
    have hc00 := hc0 0 (by omega)
    simp [Addr.add] at hc00
    obtain ⟨b, o, spot⟩ := a
    have hspot : spot = none := by simpa using World.cell?_spot hc00
    subst hspot
    refine ⟨b, o, rfl, cell_lt hc00, fun i hi => ?_⟩
    obtain ⟨fp, fl, fc, cp, cl, cc, h1, hb, hi'⟩ := hf i hi
    obtain ⟨_, _, hc⟩ := World.cells?_some h1
    have e : ((List.range len).map f).getD i fn0 = f i := by simp [List.getD, hi]
    rw [add_plain] at hc
    have q0 := hc 0 (by omega)
    have q1 := hc 1 (by omega)
    have q2 := hc 2 (by omega)
    rw [add_plain] at q0 q1 q2
    refine ⟨fp, fl, fc, cp, cl, cc, ?_⟩
    rw [e]
    exact ⟨by simpa using q0, by simpa using q1, by simpa using q2, hb, hi'⟩
theorem open_dss {fuel : Nat} {p : Option Addr} {len cap : Nat} {x : DataW H × List MemPlace} (h : DataW.trod enc Tryz.prog W 0 (fun _ => true) true fuel 22 [.slice p len cap] = some x) : ∃ ls, Dd W p len cap ls := by
  rcases Go.Deep.open_slice Tryz.underlying22 h with ⟨hcs, _⟩ | ⟨a, len', cap', m, n, D, Pl, hcs, _, hl, hm, hmm, _, hx⟩
  · simp at hcs
    obtain ⟨rfl, rfl, rfl⟩ := hcs
    exact ⟨[], rfl, Nat.le_refl _, by unfold maxLen; omega, fun h => absurd h (Nat.lt_irrefl 0)⟩
  · simp at hcs
    obtain ⟨rfl, rfl, rfl⟩ := hcs
    simp at hmm
    subst hmm
    rw [cDs] at hx
    obtain ⟨f, hf⟩ := Go.Deep.choose_lt (n := len) (α := List Dt) (p := fun i d => ∃ q k c, W.cells? 0 (a.add (i * 1)) 1 = some [.slice q k c] ∧ Da W q k c d) (fun i hi => by
      obtain ⟨cs', h1, h2⟩ := hx i (by omega)
      obtain ⟨_, _, hc⟩ := World.cells?_some h1
      have hl1 : cs'.length = 1 := by first | assumption | (have := World.cells?_length h1; simpa using this)
      match cs', hl1 with
      | [v], _ =>
        obtain ⟨q, k, c, rfl⟩ := open_slice1 Tryz.underlying62 h2
        obtain ⟨ds, hd⟩ := open_data h2
        exact ⟨ds, q, k, c, h1, hd⟩)
    refine ⟨(List.range len).map f, by simp, hl, hm, fun hpos => ?_⟩
    obtain ⟨_, _, _, h0, _⟩ := hf 0 hpos
    obtain ⟨_, _, hc0⟩ := World.cells?_some h0
    have hc00 := hc0 0 (by omega)
    simp [Addr.add] at hc00
    obtain ⟨b, o, spot⟩ := a
    have hspot : spot = none := by simpa using World.cell?_spot hc00
    subst hspot
    refine ⟨b, o, rfl, cell_lt hc00, fun i hi => ?_⟩
    obtain ⟨q, k, c, h1, hd⟩ := hf i hi
    obtain ⟨_, _, hc⟩ := World.cells?_some h1
    have e : ((List.range len).map f).getD i [] = f i := by simp [List.getD, hi]
    rw [add_plain] at hc
    have q0 := hc 0 (by omega)
    rw [add_plain] at q0
    refine ⟨q, k, c, by simpa using q0, ?_⟩
    rw [e]
    exact hd
set_option maxRecDepth 100000 in
theorem open_module {fuel : Nat} {cs : List Value} {x : DataW H × List MemPlace} (h : DataW.trod enc Tryz.prog W 0 (fun _ => true) true fuel 25 cs = some x) : ∃ (m : Md) (cp : Option Addr) (cn cc : Nat) (fp : Option Addr) (fn fc : Nat), cs = [.slice cp cn cc, .int .i64 m.globals, .slice fp fn fc] ∧ Mo W cp cn cc fp fn fc m := by
  obtain ⟨y0, y1, y2, m, _, hlen, h0, h1, h2⟩ := Go.Deep.trod_struct3 Tryz.underlying25 h
  rw [cMod] at hlen
  match cs, hlen with
  | [c0, c1, c2], _ =>
    simp only [cells3, cDss, cFs, List.drop_zero, List.take_succ_cons, List.take_zero, List.drop_succ_cons] at h0 h1 h2
    obtain ⟨k, e1, _, _⟩ := DataW.trod_int Tryz.underlying3 h1
    obtain ⟨cp, cn, cc, rfl⟩ := open_slice1 Tryz.underlying22 h0
    obtain ⟨fp, fn, fc, rfl⟩ := open_slice1 Tryz.underlying23 h2
    obtain ⟨ls, hd⟩ := open_dss h0
    obtain ⟨fs, hf⟩ := open_fns h2
    simp at e1
    subst e1
    exact ⟨⟨ls, k, fs⟩, cp, cn, cc, fp, fn, fc, rfl, hd, hf⟩
end
end Go.Proofs.YtdjdhjciealfhaaGreatDoor
