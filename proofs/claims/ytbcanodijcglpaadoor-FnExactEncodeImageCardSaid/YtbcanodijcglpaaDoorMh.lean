import Derived.Test.YtbcanodijcglpaaDoorEa
import Derived.Test.YtbcanodijcglpaaDoorCards
import Derived.Test.YtbcanodijcglpaaDoorTie
import Derived.Deep.DeepHandedRow
import Derived.Lib.LaidTab
import Derived.Stop.LaidErr
import Derived.ProofKit
import Derived.OpenShut
import Derived.ChangeOld
import Derived.Deep.Slices
import Derived.Deep.Strs
import Derived.Lib.SmallJoins
namespace Go.Proofs.YtbcanodijcglpaaDoor
open Go.ChangeShapes Go.WideShapes Go.ChangeAt Go.RowKit Go.Joins Ch1
theorem gTabM : Tryd.prog.globalNamed "loop.example/s01541/impl.instructions" = some 0 := by kernel_rfl
theorem gTabTypeM : (Tryd.prog.globals[0]?).map (·.type) = some 114 := by kernel_rfl
theorem cInstr : Tryd.prog.cellsOf 113 = 9 := by kernel_rfl
theorem cOper : Tryd.prog.cellsOf 107 = 1 := by kernel_rfl
theorem cWant : Tryd.prog.cellsOf 111 = 3 := by kernel_rfl
theorem cKinds : Tryd.prog.cellsOf 109 = 1 := by kernel_rfl
theorem cStr : Tryd.prog.cellsOf 9 = 1 := by kernel_rfl
theorem cBool : Tryd.prog.cellsOf 4 = 1 := by kernel_rfl
theorem trod_struct7 {H : Type} {enc : TypeId × Value → H} {P : Program} {w : World} {base : Nat} {spare : Nat → Bool} {held : Bool} {t : TypeId} {f0 f1 f2 f3 f4 f5 f6 : Field} {fuel : Nat} {cs : List Value} {x : DataW H × List MemPlace} (ht : P.underlying t = some (.struct #[f0, f1, f2, f3, f4, f5, f6])) (h : DataW.trod enc P w base spare held fuel t cs = some x) :
    ∃ y0 y1 y2 y3 y4 y5 y6 n, x.1 = .agg [y0.1, y1.1, y2.1, y3.1, y4.1, y5.1, y6.1] ∧ cs.length = P.cellsOf t ∧ DataW.trod enc P w base spare held n f0.type ((cs.drop f0.offset).take (P.cellsOf f0.type)) = some y0 ∧
      DataW.trod enc P w base spare held n f1.type ((cs.drop f1.offset).take (P.cellsOf f1.type)) = some y1 ∧ DataW.trod enc P w base spare held n f2.type ((cs.drop f2.offset).take (P.cellsOf f2.type)) = some y2 ∧
      DataW.trod enc P w base spare held n f3.type ((cs.drop f3.offset).take (P.cellsOf f3.type)) = some y3 ∧ DataW.trod enc P w base spare held n f4.type ((cs.drop f4.offset).take (P.cellsOf f4.type)) = some y4 ∧
      DataW.trod enc P w base spare held n f5.type ((cs.drop f5.offset).take (P.cellsOf f5.type)) = some y5 ∧ DataW.trod enc P w base spare held n f6.type ((cs.drop f6.offset).take (P.cellsOf f6.type)) = some y6 := by
  obtain ⟨xs, n, _, rfl, hl, hlen, hf⟩ := DataW.trod_struct ht h
  match xs, hlen with
  | [y0, y1, y2, y3, y4, y5, y6], _ => exact ⟨y0, y1, y2, y3, y4, y5, y6, n, rfl, hl, by simpa using hf 0 f0 rfl, by simpa using hf 1 f1 rfl, by simpa using hf 2 f2 rfl, by simpa using hf 3 f3 rfl, by simpa using hf 4 f4 rfl, by simpa using hf 5 f5 rfl, by simpa using hf 6 f6 rfl⟩
section
variable {H : Type} {enc : TypeId × Value → H} {W : World} {base : Nat} {sp : Nat → Bool} {held : Bool}
/-- Three kinds in a row. -/
theorem open_wanted {fuel : Nat} {c3 c4 c5 : Value} {x : DataW H × List MemPlace} (h : DataW.trod enc Tryd.prog W base sp held fuel 111 [c3, c4, c5] = some x) : ∃ a b c, c3 = .int .u16 a ∧ c4 = .int .u16 b ∧ c5 = .int .u16 c := by
  obtain ⟨xs, m, _, _, _, hl, hel⟩ := DataW.trod_array Tryd.underlying111 h
  match xs, hl with
  | [y0, y1, y2], _ =>
    have h0 := hel 0 (by omega)
    have h1 := hel 1 (by omega)
    have h2 := hel 2 (by omega)
    simp only [cKinds, Nat.zero_mul, Nat.one_mul, Nat.reduceMul, List.drop_zero, List.take_succ_cons, List.take_zero, List.drop_succ_cons, List.getElem?_cons_zero, List.getElem?_cons_succ] at h0 h1 h2
    obtain ⟨a, e0, _, _⟩ := DataW.trod_int Tryd.underlying109 h0
    obtain ⟨b, e1, _, _⟩ := DataW.trod_int Tryd.underlying109 h1
    obtain ⟨c, e2, _, _⟩ := DataW.trod_int Tryd.underlying109 h2
    simp at e0 e1 e2
    exact ⟨a, b, c, e0, e1, e2⟩
set_option maxRecDepth 100000 in
/-- One row of the table of instructions. -/
theorem open_row {fuel : Nat} {cs : List Value} {x : DataW H × List MemPlace} (h : DataW.trod enc Tryd.prog W base sp held fuel 113 cs = some x) :
    ∃ (s : ByteArray) (a b x3 x4 x5 x6 : Int) (b7 b8 : Bool) (d3 : DataW H), cs = [.string s, .int .u8 a, .int .u8 b, .int .u16 x3, .int .u16 x4, .int .u16 x5, .int .u16 x6, .bool b7, .bool b8] ∧ x.1 = .agg [.lit (.string s.data.toList), .lit (.int .u8 a), .lit (.int .u8 b), d3, .lit (.int .u16 x6), .lit (.bool b7), .lit (.bool b8)] := by
  obtain ⟨y0, y1, y2, y3, y4, y5, y6, n, hy, hl, h0, h1, h2, h3, h4, h5, h6⟩ := trod_struct7 Tryd.underlying113 h
  rw [cInstr] at hl
  match cs, hl with
  | [c0, c1, c2, c3, c4, c5, c6, c7, c8], _ =>
    simp only [cStr, cOper, cWant, cKinds, cBool, List.drop_zero, List.take_succ_cons, List.take_zero, List.drop_succ_cons] at h0 h1 h2 h3 h4 h5 h6
    obtain ⟨s, e0, q0, _⟩ := DataW.trod_string Tryd.underlying9 h0
    obtain ⟨a, e1, q1, _⟩ := DataW.trod_int Tryd.underlying107 h1
    obtain ⟨b, e2, q2, _⟩ := DataW.trod_int Tryd.underlying107 h2
    obtain ⟨x3, x4, x5, rfl, rfl, rfl⟩ := open_wanted h3
    obtain ⟨x6, e4, q4, _⟩ := DataW.trod_int Tryd.underlying109 h4
    obtain ⟨b7, e5, q5⟩ := DataW.trod_bool Tryd.underlying4 h5
    obtain ⟨b8, e6, q6⟩ := DataW.trod_bool Tryd.underlying4 h6
    simp only [List.cons.injEq, and_true] at e0 e1 e2 e4 e5 e6
    subst e0 e1 e2 e4 e5 e6 q0 q1 q2 q4 q5 q6
    exact ⟨s, a, b, x3, x4, x5, x6, b7, b8, y3.1, rfl, hy⟩
end
/-- What the row's list says of the table: what A and B stand for. -/
theorem laid_rows : ∀ op, op < 18 → ∃ (l : List (DataW Unit)) (s d3 d4 d5 d6 : DataW Unit), Rows.laid_loop_example_s01541_impl_instructions = .agg l ∧ l[op]? = some (.agg [s, .lit (.int .u8 (useA op)), .lit (.int .u8 (useB op)), d3, d4, d5, d6]) := by
  intro op h
  have hops : op = 0 ∨ op = 1 ∨ op = 2 ∨ op = 3 ∨ op = 4 ∨ op = 5 ∨ op = 6 ∨ op = 7 ∨ op = 8 ∨ op = 9 ∨ op = 10 ∨ op = 11 ∨ op = 12 ∨ op = 13 ∨ op = 14 ∨ op = 15 ∨ op = 16 ∨ op = 17 := by omega
  rcases hops with h | h | h | h | h | h | h | h | h | h | h | h | h | h | h | h | h | h <;> subst h <;> exact ⟨_, _, _, _, _, _, rfl, rfl⟩
theorem tableM {W : World} (h : laidMetH Tryd.prog Rows.fnExactEncodeImageRow.laid W) : Tb W := by
  have h2 : laidMet Tryd.prog [("loop.example/s01541/impl.instructions", Rows.laid_loop_example_s01541_impl_instructions)] W := h
  obtain ⟨ps, ⟨g', t', cs, fuel, p, q, hg', ht', hvar, hd, _, _⟩, _⟩ := h2
  obtain rfl := Option.some.inj (gTabM.symm.trans hg')
  obtain rfl := Option.some.inj (gTabTypeM.symm.trans ht')
  have hcell := fun i => World.var?_cell gTabM hvar i
  obtain ⟨xs, m, _, ex, hlen, hl, hel⟩ := DataW.trod_array Tryd.underlying114 hd
  rw [cInstr] at hel
  have key : ∀ op, op < 18 → ∃ v0 v3 v4 v5 v6 v7 v8, TbR W op v0 v3 v4 v5 v6 v7 v8 := by
    intro op hop
    have h1 := hel op hop
    obtain ⟨x, hx⟩ : ∃ x, xs[op]? = some x := ⟨xs[op]'(by omega), List.getElem?_eq_getElem (by omega)⟩
    rw [hx] at h1
    obtain ⟨s, a, b, x3, x4, x5, x6, b7, b8, d3, hcs, hxx⟩ := open_row h1
    obtain ⟨l, s', e3, e4, e5, e6, hl1, hl2⟩ := laid_rows op hop
    have hl3 : xs.map (·.1) = l := by
      have := congrArg Prod.fst ex
      simp only at this
      rw [hl1] at this
      injection this with this
      exact this.symm
    have hl4 : l[op]? = some x.1 := by rw [← hl3]; simp [hx]
    rw [hl2, hxx] at hl4
    have hab : useA op = a ∧ useB op = b := by
      injection hl4 with hl4
      injection hl4 with hl4
      simp at hl4
      exact ⟨hl4.2.1, hl4.2.2.1⟩
    have hcs2 : ∀ i, i < 9 → W.cell? ⟨0, op * 9 + i, none⟩ = ((cs.toList.drop (op * 9)).take 9)[i]? := fun i hi => by
      rw [hcell, List.getElem?_take, if_pos hi, List.getElem?_drop, Array.getElem?_toList]
    rw [hcs] at hcs2
    refine ⟨s, x3, x4, x5, x6, b7, b8, ?_, ?_, ?_, ?_, ?_, ?_, ?_, ?_, ?_⟩
    · have := hcs2 0 (by omega); exact this
    · have := hcs2 1 (by omega); rw [hab.1]; exact this
    · have := hcs2 2 (by omega); rw [hab.2]; exact this
    · have := hcs2 3 (by omega); exact this
    · have := hcs2 4 (by omega); exact this
    · have := hcs2 5 (by omega); exact this
    · have := hcs2 6 (by omega); exact this
    · have := hcs2 7 (by omega); exact this
    · have := hcs2 8 (by omega); exact this
  refine ⟨?_, key⟩
  obtain ⟨v0, _, _, _, _, _, _, hr⟩ := key 0 (by omega)
  have h0 := hr.c0
  unfold World.cell? at h0
  split at h0
  · rename_i hh
    exact (Array.getElem?_eq_some_iff.1 hh).1
  · cases h0
end Go.Proofs.YtbcanodijcglpaaDoor
