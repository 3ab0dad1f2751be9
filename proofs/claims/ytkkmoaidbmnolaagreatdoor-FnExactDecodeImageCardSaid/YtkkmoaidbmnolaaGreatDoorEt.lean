import Derived.Test.YtkkmoaidbmnolaaGreatDoorEw
import Derived.Test.YtkkmoaidbmnolaaGreatDoorCards
import Derived.Test.YtkkmoaidbmnolaaGreatDoorTie
import Derived.Deep.DeepHandedRow
import Derived.Lib.LaidTab
import Derived.Stop.LaidErr
import Derived.LaidHandle
import Derived.ProofKit
import Derived.OpenShut
import Derived.ChangeOld
import Derived.Deep.Slices
import Derived.Deep.Strs
import Derived.Lib.SmallJoins
namespace Go.Proofs.YtkkmoaidbmnolaaGreatDoor
open Go.ChangeShapes Go.WideShapes Go.ChangeAt Go.RowKit Go.Joins Ch1
theorem gTabM : Tryz.prog.globalNamed "loop.example/s01541/impl.instructions" = some 1 := by kernel_rfl
theorem gTabTypeM : (Tryz.prog.globals[1]?).map (·.type) = some 134 := by kernel_rfl
theorem cInstr : Tryz.prog.cellsOf 133 = 9 := by kernel_rfl
theorem cOper : Tryz.prog.cellsOf 127 = 1 := by kernel_rfl
theorem cWant : Tryz.prog.cellsOf 131 = 3 := by kernel_rfl
theorem cKinds : Tryz.prog.cellsOf 129 = 1 := by kernel_rfl
theorem cStr : Tryz.prog.cellsOf 9 = 1 := by kernel_rfl
theorem cBool : Tryz.prog.cellsOf 4 = 1 := by kernel_rfl
theorem trod_struct7 {H : Type} {enc : TypeId × Value → H} {P : Program} {w : World} {base : Nat} {spare : Nat → Bool} {held : Bool} {t : TypeId} {f0 f1 f2 f3 f4 f5 f6 : Field} {fuel : Nat} {cs : List Value} {x : DataW H × List MemPlace} (ht : P.underlying t = some (.struct #[f0, f1, f2, f3, f4, f5, f6])) (h : DataW.trod enc P w base spare held fuel t cs = some x) :
    ∃ y0 y1 y2 y3 y4 y5 y6 n, x.1 = .agg [y0.1, y1.1, y2.1, y3.1, y4.1, y5.1, y6.1] ∧ cs.length = P.cellsOf t ∧ DataW.trod enc P w base spare held n f0.type ((cs.drop f0.offset).take (P.cellsOf f0.type)) = some y0 ∧
      DataW.trod enc P w base spare held n f1.type ((cs.drop f1.offset).take (P.cellsOf f1.type)) = some y1 ∧ DataW.trod enc P w base spare held n f2.type ((cs.drop f2.offset).take (P.cellsOf f2.type)) = some y2 ∧
      DataW.trod enc P w base spare held n f3.type ((cs.drop f3.offset).take (P.cellsOf f3.type)) = some y3 ∧ DataW.trod enc P w base spare held n f4.type ((cs.drop f4.offset).take (P.cellsOf f4.type)) = some y4 ∧
      DataW.trod enc P w base spare held n f5.type ((cs.drop f5.offset).take (P.cellsOf f5.type)) = some y5 ∧ DataW.trod enc P w base spare held n f6.type ((cs.drop f6.offset).take (P.cellsOf f6.type)) = some y6 := by
  obtain ⟨xs, n, _, rfl, hl, hlen, hf⟩ := DataW.trod_struct ht h
  match xs, hlen with
  | [y0, y1, y2, y3, y4, y5, y6], _ => exact ⟨y0, y1, y2, y3, y4, y5, y6, n, rfl, hl, by simpa using hf 0 f0 rfl, by simpa using hf 1 f1 rfl, by simpa using hf 2 f2 rfl, by simpa using hf 3 f3 rfl, by simpa using hf 4 f4 rfl, by simpa using hf 5 f5 rfl, by simpa using hf 6 f6 rfl⟩
section
variable {H : Type} {enc : TypeId × Value → H} {W : World} {base : Nat} {sp : Nat → Bool} {held : Bool}
/-- Three kinds in a row. -/
theorem open_wanted {fuel : Nat} {c3 c4 c5 : Value} {x : DataW H × List MemPlace} (h : DataW.trod enc Tryz.prog W base sp held fuel 131 [c3, c4, c5] = some x) : ∃ a b c, c3 = .int .u16 a ∧ c4 = .int .u16 b ∧ c5 = .int .u16 c := by
  obtain ⟨xs, m, _, _, _, hl, hel⟩ := DataW.trod_array Tryz.underlying131 h
  match xs, hl with
  | [y0, y1, y2], _ =>
    have h0 := hel 0 (by omega)
    have h1 := hel 1 (by omega)
    have h2 := hel 2 (by omega)
    simp only [cKinds, Nat.zero_mul, Nat.one_mul, Nat.reduceMul, List.drop_zero, List.take_succ_cons, List.take_zero, List.drop_succ_cons, List.getElem?_cons_zero, List.getElem?_cons_succ] at h0 h1 h2
    obtain ⟨a, e0, _, _⟩ := DataW.trod_int Tryz.underlying129 h0
    obtain ⟨b, e1, _, _⟩ := DataW.trod_int Tryz.underlying129 h1
    obtain ⟨c, e2, _, _⟩ := DataW.trod_int Tryz.underlying129 h2
    simp at e0 e1 e2
    exact ⟨a, b, c, e0, e1, e2⟩
set_option maxRecDepth 100000 in
/-- One row of the table of instructions. -/
theorem open_row {fuel : Nat} {cs : List Value} {x : DataW H × List MemPlace} (h : DataW.trod enc Tryz.prog W base sp held fuel 133 cs = some x) :
    ∃ (s : ByteArray) (a b x3 x4 x5 x6 : Int) (b7 b8 : Bool) (d3 : DataW H), cs = [.string s, .int .u8 a, .int .u8 b, .int .u16 x3, .int .u16 x4, .int .u16 x5, .int .u16 x6, .bool b7, .bool b8] ∧ x.1 = .agg [.lit (.string s.data.toList), .lit (.int .u8 a), .lit (.int .u8 b), d3, .lit (.int .u16 x6), .lit (.bool b7), .lit (.bool b8)] := by
  obtain ⟨y0, y1, y2, y3, y4, y5, y6, n, hy, hl, h0, h1, h2, h3, h4, h5, h6⟩ := trod_struct7 Tryz.underlying133 h
  rw [cInstr] at hl
  match cs, hl with
  | [c0, c1, c2, c3, c4, c5, c6, c7, c8], _ =>
    simp only [cStr, cOper, cWant, cKinds, cBool, List.drop_zero, List.take_succ_cons, List.take_zero, List.drop_succ_cons] at h0 h1 h2 h3 h4 h5 h6
    obtain ⟨s, e0, q0, _⟩ := DataW.trod_string Tryz.underlying9 h0
    obtain ⟨a, e1, q1, _⟩ := DataW.trod_int Tryz.underlying127 h1
    obtain ⟨b, e2, q2, _⟩ := DataW.trod_int Tryz.underlying127 h2
    obtain ⟨x3, x4, x5, rfl, rfl, rfl⟩ := open_wanted h3
    obtain ⟨x6, e4, q4, _⟩ := DataW.trod_int Tryz.underlying129 h4
    obtain ⟨b7, e5, q5⟩ := DataW.trod_bool Tryz.underlying4 h5
    obtain ⟨b8, e6, q6⟩ := DataW.trod_bool Tryz.underlying4 h6
    simp only [List.cons.injEq, and_true] at e0 e1 e2 e4 e5 e6
    subst e0 e1 e2 e4 e5 e6 q0 q1 q2 q4 q5 q6
    exact ⟨s, a, b, x3, x4, x5, x6, b7, b8, y3.1, rfl, hy⟩
end
/-- What the row's list says of the table: what A and B stand for. -/
theorem laid_rows : ∀ op, op < 18 → ∃ (l : List (DataW Unit)) (s d3 d4 d5 d6 : DataW Unit), Rows.laid_loop_example_s01541_impl_instructions = .agg l ∧ l[op]? = some (.agg [s, .lit (.int .u8 (useA op)), .lit (.int .u8 (useB op)), d3, d4, d5, d6]) := by
  intro op h
  have hops : op = 0 ∨ op = 1 ∨ op = 2 ∨ op = 3 ∨ op = 4 ∨ op = 5 ∨ op = 6 ∨ op = 7 ∨ op = 8 ∨ op = 9 ∨ op = 10 ∨ op = 11 ∨ op = 12 ∨ op = 13 ∨ op = 14 ∨ op = 15 ∨ op = 16 ∨ op = 17 := by omega
  rcases hops with h | h | h | h | h | h | h | h | h | h | h | h | h | h | h | h | h | h <;> subst h <;> exact ⟨_, _, _, _, _, _, rfl, rfl⟩
theorem tableM {W : World} (h : laidMetH Tryz.prog Rows.fnExactDecodeImageRow.laid W) : Tb W := by
  have h1' : laidMet Tryz.prog [("loop.example/s01541/impl.instructions", Rows.laid_loop_example_s01541_impl_instructions)] W ∧ handlesMet Tryz.prog [("errors.errorType", Rows.laid_errors_errorType)] W := h
  have h2 := h1'.1
  obtain ⟨ps, ⟨g', t', cs, fuel, p, q, hg', ht', hvar, hd, _, _⟩, _⟩ := h2
  obtain rfl := Option.some.inj (gTabM.symm.trans hg')
  obtain rfl := Option.some.inj (gTabTypeM.symm.trans ht')
  have hcell := fun i => World.var?_cell gTabM hvar i
  obtain ⟨xs, m, _, ex, hlen, hl, hel⟩ := DataW.trod_array Tryz.underlying134 hd
  rw [cInstr] at hel
  have key : ∀ op, op < 18 → ∃ v0 v3 v4 v5 v6 v7 v8, TbR W op v0 v3 v4 v5 v6 v7 v8 := by
    intro op hop
    have h1 := hel op hop
    obtain ⟨x, hx⟩ : ∃ x, xs[op]? = some x := ⟨xs[op]'(by omega), List.getElem?_eq_getElem (by omega)⟩
    rw [hx] at h1
    obtain ⟨s, a, b, x3, x4, x5, x6, b7, b8, d3, hcs, hxx⟩ := open_row h1
    obtain ⟨l, s', e3, e4, e5, e6, hl1, hl2⟩ := laid_rows op hop
    have hl3 : xs.map (·.1) = l := by
      have := congrArg Prod.fst ex
      simp only at this
      rw [hl1] at this
      injection this with this
      exact this.symm
    have hl4 : l[op]? = some x.1 := by rw [← hl3]; simp [hx]
    rw [hl2, hxx] at hl4
    have hab : useA op = a ∧ useB op = b := by
      injection hl4 with hl4
      injection hl4 with hl4
      simp at hl4
      exact ⟨hl4.2.1, hl4.2.2.1⟩
    have hcs2 : ∀ i, i < 9 → W.cell? ⟨1, op * 9 + i, none⟩ = ((cs.toList.drop (op * 9)).take 9)[i]? := fun i hi => by
      rw [hcell, List.getElem?_take, if_pos hi, List.getElem?_drop, Array.getElem?_toList]
    rw [hcs] at hcs2
    refine ⟨s, x3, x4, x5, x6, b7, b8, ?_, ?_, ?_, ?_, ?_, ?_, ?_, ?_, ?_⟩
    · have := hcs2 0 (by omega); exact this
    · have := hcs2 1 (by omega); rw [hab.1]; exact this
    · have := hcs2 2 (by omega); rw [hab.2]; exact this
    · have := hcs2 3 (by omega); exact this
    · have := hcs2 4 (by omega); exact this
    · have := hcs2 5 (by omega); exact this
    · have := hcs2 6 (by omega); exact this
    · have := hcs2 7 (by omega); exact this
    · have := hcs2 8 (by omega); exact this
  refine ⟨?_, key⟩
  obtain ⟨v0, _, _, _, _, _, _, hr⟩ := key 0 (by omega)
  have h0 := hr.c0
  unfold World.cell? at h0
  split at h0
  · rename_i hh
    exact (Array.getElem?_eq_some_iff.1 hh).1
  · cases h0
theorem gEt : Tryz.prog.globalNamed "errors.errorType" = some 0 := by kernel_rfl
theorem rtEt : (Tryz.prog.cutTypes.find? (·.1 == "internal/reflectlite.rtype")).map (·.2) = some 109 := by kernel_rfl
theorem oneEt : ((List.range Tryz.prog.types.size).filter fun t => Tryz.prog.rowNamed t [101, 114, 114, 111, 114]) = [61] := by kernel_rfl
theorem handleE {W : World} (h : laidMetH Tryz.prog Rows.fnExactDecodeImageRow.laid W) : Eh W := by
  have h1' : laidMet Tryz.prog [("loop.example/s01541/impl.instructions", Rows.laid_loop_example_s01541_impl_instructions)] W ∧ handlesMet Tryz.prog [("errors.errorType", Rows.laid_errors_errorType)] W := h
  obtain ⟨name, u, ty, e1, e2, e3, e4, e5⟩ := h1'.2 _ (List.mem_singleton.2 rfl)
  have en : name = [101, 114, 114, 111, 114] := (Option.some.inj e1).symm
  subst en
  obtain rfl := Option.some.inj (rtEt.symm.trans e2)
  have hm : ty ∈ (List.range Tryz.prog.types.size).filter fun t => Tryz.prog.rowNamed t [101, 114, 114, 111, 114] := List.mem_filter.2 ⟨List.mem_range.2 e3, e4⟩
  rw [oneEt] at hm
  obtain rfl := List.mem_singleton.1 hm
  have hh : typeHandle Tryz.prog 61 = .pointer (some ⟨3, 61, none⟩) := by kernel_rfl
  rw [hh] at e5
  unfold Eh
  simpa using World.var?_cell gEt e5 0
set_option maxRecDepth 20000 in
set_option maxHeartbeats 2000000 in
/-- The law at an argument beyond its bound. -/
theorem lawD_big (ap : Option Addr) (n c : Nat) (w : World) (hn : ¬ n ≤ 1048576) (hm : n ≤ maxLen) :
    Calls Tryz.prog 3 #[.slice ap n c] w fun e w' => e = .returned (.bool true) ∧ Below w.heap.size w w' := by
  unfold maxLen at hm
  have hd : decide ((1048576 : Int) < (n : Int)) = true := decide_eq_true (by omega)
  go_enter Tryz.func3, Tryz.ntmps3
  go_wp2_with fail
  go_ret
  exact ⟨rfl, Below.refl _ _⟩
/-- The law, at every argument. -/
theorem lawD_all (ap : Option Addr) (n c : Nat) (xs : List Int) (w : World) (h : By w ap n c xs) (hT : Tb w) (hE : Eh w) :
    Calls Tryz.prog 3 #[.slice ap n c] w fun e w' => e = .returned (.bool true) ∧ Below w.heap.size w w' := by
  by_cases hn : n ≤ 1048576
  · exact lawD ap n c xs w h hn hT hE (fun p c' w1 _ hy => by
      by_cases h4 : n < 4
      · exact specDecode_short p n c' xs w1 hy h4
      · exact specDecode_long p n c' xs w1 hy hn (by omega))
  · exact lawD_big ap n c w hn (Nat.le_trans h.cap h.big)
end Go.Proofs.YtkkmoaidbmnolaaGreatDoor
