import Derived.Test.YtnnpfoilojicjaaGreatDoorOg
import Derived.Test.YtnnpfoilojicjaaGreatDoorCards
import Derived.Test.YtnnpfoilojicjaaGreatDoorTie
import Derived.Deep.DeepHandedRow
import Derived.Lib.LaidTab
import Derived.Stop.LaidErr
import Derived.LaidHandle
import Derived.ProofKit
import Derived.OpenShut
import Derived.ChangeOld
import Derived.Deep.Slices
import Derived.Deep.Strs
import Derived.Lib.SmallJoins
namespace Go.Proofs.YtnnpfoilojicjaaGreatDoor
namespace Uc
open Go.ChangeShapes Go.WideShapes Go.ChangeAt Go.RowKit Go.Joins Ch1
theorem own : ownKnob Tryz.prog.godebug = none := by kernel_rfl
theorem laidOut : laidOutB Tryz.prog = true := by kernel_rfl
theorem cells45 : Tryz.prog.cellsOf 36 = 4 := by kernel_rfl
theorem cells3 : Tryz.prog.cellsOf 3 = 1 := by kernel_rfl
theorem cells43 : Tryz.prog.cellsOf 34 = 1 := by kernel_rfl
theorem cells5 : Tryz.prog.cellsOf 5 = 1 := by kernel_rfl
theorem cell_lt {w : World} {a : Addr} {v : Value} (h : w.cell? a = some v) : a.block < w.heap.size := by
 unfold World.cell? at h
 split at h
 ·rename_i hh
  exact (Array.getElem?_eq_some_iff.1 hh).1
 ·cases h
theorem wf_u8 {n : Int} (h : (Lit.int .u8 n).wf = true) : 0 ≤ n ∧ n < 256 := by
 simp [Lit.wf, IntKind.min, IntKind.max, IntKind.signed, IntKind.bits] at h
 exact ⟨by omega, by omega⟩
theorem wf_i64 {n : Int} (h : (Lit.int .i64 n).wf = true) : -9223372036854775808 ≤ n ∧ n ≤ 9223372036854775807 := by
 simp [Lit.wf, IntKind.min, IntKind.max, IntKind.signed, IntKind.bits] at h
 exact ⟨by omega, by omega⟩
section
variable {H : Type} {enc : TypeId × Value → H} {W : World}
theorem open_bytes {fuel : Nat} {v : Value} {x : DataW H × List MemPlace} (h : DataW.trod enc Tryz.prog W 0 (fun _ => true) true fuel 34 [v] = some x) : ∃ p n c xs, v = .slice p n c ∧ By W p n c xs := by
 rcases open_ints Tryz.underlying34 Tryz.underlying5 cells5 h with ⟨hcs, _⟩ | ⟨a, len, cap, zs, hcs, _, hl, hm, hz, _, hcell, hwz⟩
 ·simp at hcs
  subst hcs
  exact ⟨none, 0, 0, [], rfl, rfl, Nat.le_refl _, by unfold maxLen; omega, fun i => by simp, fun h => absurd h (Nat.lt_irrefl 0), fun a ha => by cases ha⟩
 ·simp at hcs
  subst hcs
  have hz' : zs.length = cap := by simpa using hz
  have key : ∀ i, i < len → W.cell? (a.add i) = some (.int .u8 ((zs.take len).getD i 0)) := fun i hi => by
   rw [hcell i (by omega)]; simp [List.getD, hi]
  refine ⟨some a, len, cap, zs.take len, rfl, by rw [List.length_take]; omega, hl, hm, rng_of fun n (hn : n ∈ _) => wf_u8 (hwz n (List.mem_of_mem_take hn)), Lib.BytesIn.of_cells key, fun a' ha hlen => ?_⟩
  cases ha
  have := cell_lt (key 0 hlen)
  simpa [Addr.add] using this
set_option maxRecDepth 100000 in
theorem open_datum {fuel : Nat} {cs : List Value} {x : DataW H × List MemPlace} (h : DataW.trod enc Tryz.prog W 0 (fun _ => true) true fuel 36 cs = some x) :
  ∃ (d : Dt) (p : Option Addr) (n c : Nat), cs = [.int .i64 d.kind, .int .i64 d.n, .slice p n c, .int .i64 d.count] ∧ By W p n c d.text ∧ -9223372036854775808 ≤ d.count ∧ d.count ≤ 9223372036854775807 := by
 obtain ⟨y0, y1, y2, y3, m, _, hlen, h0, h1, h2, h3⟩ := trod_struct4 Tryz.underlying36 h
 rw [cells45] at hlen
 match cs, hlen with
 | [c0, c1, c2, c3], _ =>
  simp only [cells3, cells43, List.drop_zero, List.take_succ_cons, List.take_zero, List.drop_succ_cons] at h0 h1 h2 h3
  obtain ⟨k, e0, _, _⟩ := DataW.trod_int Tryz.underlying3 h0
  obtain ⟨n, e1, _, _⟩ := DataW.trod_int Tryz.underlying3 h1
  obtain ⟨q, e3, _, wq⟩ := DataW.trod_int Tryz.underlying3 h3
  obtain ⟨p, tn, tc, xs, rfl, hb⟩ := open_bytes h2
  simp at e0 e1 e3
  subst e0 e1 e3
  exact ⟨⟨k, n, xs, q⟩, p, tn, tc, rfl, hb, (wf_i64 wq).1, (wf_i64 wq).2⟩
theorem open_data {fuel : Nat} {p : Option Addr} {len cap : Nat} {x : DataW H × List MemPlace} (h : DataW.trod enc Tryz.prog W 0 (fun _ => true) true fuel 22 [.slice p len cap] = some x) : ∃ ds, Da W p len cap ds := by
 rcases Go.Deep.open_slice Tryz.underlying22 h with ⟨hcs, _⟩ | ⟨a, len', cap', m, n, D, Pl, hcs, _, hl, hm, hmm, _, hx⟩
 ·simp at hcs
  obtain ⟨rfl, rfl, rfl⟩ := hcs
  exact ⟨[], rfl, Nat.le_refl _, by unfold maxLen; omega, fun h => absurd h (Nat.lt_irrefl 0)⟩
 ·simp at hcs
  obtain ⟨rfl, rfl, rfl⟩ := hcs
  simp at hmm
  subst hmm
  rw [cells45] at hx
  letI : Inhabited Dt := ⟨dt0⟩
  obtain ⟨f, hf⟩ := Go.Deep.choose_lt (n := len) (α := Dt) (p := fun i d => ∃ tp tn tc, W.cells? 0 (a.add (i * 4)) 4 = some [.int .i64 d.kind, .int .i64 d.n, .slice tp tn tc, .int .i64 d.count] ∧ By W tp tn tc d.text ∧ -9223372036854775808 ≤ d.count ∧ d.count ≤ 9223372036854775807) (fun i hi => by
   obtain ⟨cs', h1, h2⟩ := hx i (by omega)
   obtain ⟨d, tp, tn, tc, rfl, hb, hlo, hhi⟩ := open_datum h2
   exact ⟨d, tp, tn, tc, h1, hb, hlo, hhi⟩)
  refine ⟨(List.range len).map f, by simp, hl, hm, fun hpos => ?_⟩
  have h0 := (hf 0 hpos).choose_spec.choose_spec.choose_spec.1
  obtain ⟨_, _, hc0⟩ := World.cells?_some h0
  have hc00 := hc0 0 (by omega)
  simp [Addr.add] at hc00
  obtain ⟨b, o, spot⟩ := a
  have hspot : spot = none := by simpa using World.cell?_spot hc00
  subst hspot
  refine ⟨b, o, rfl, cell_lt hc00, fun i hi => ?_⟩
  obtain ⟨tp, tn, tc, h1, hb, hlo, hhi⟩ := hf i hi
  obtain ⟨_, _, hc⟩ := World.cells?_some h1
  have e : ((List.range len).map f).getD i dt0 = f i := by simp [List.getD, hi]
  rw [add_plain] at hc
  have q0 := hc 0 (by omega)
  have q1 := hc 1 (by omega)
  have q2 := hc 2 (by omega)
  have q3 := hc 3 (by omega)
  rw [add_plain] at q0 q1 q2 q3
  refine ⟨tp, tn, tc, ?_⟩
  rw [e]
  exact ⟨by simpa using q0, by simpa using q1, by simpa using q2, by simpa using q3, hb, hlo, hhi⟩
end
theorem cWant : Tryz.prog.cellsOf 261 = 3 := by kernel_rfl
theorem cKinds : Tryz.prog.cellsOf 259 = 1 := by kernel_rfl
theorem cStr : Tryz.prog.cellsOf 9 = 1 := by kernel_rfl
theorem cPrim : Tryz.prog.cellsOf 263 = 5 := by kernel_rfl
section
variable {H : Type} {enc : TypeId × Value → H} {W : World} {base : Nat} {sp : Nat → Bool} {held : Bool}
theorem open_wanted {fuel : Nat} {c3 c4 c5 : Value} {x : DataW H × List MemPlace} (h : DataW.trod enc Tryz.prog W base sp held fuel 261 [c3, c4, c5] = some x) : ∃ a b c, c3 = .int .u16 a ∧ c4 = .int .u16 b ∧ c5 = .int .u16 c ∧ x.1 = .agg [.lit (.int .u16 a), .lit (.int .u16 b), .lit (.int .u16 c)] := by
 obtain ⟨xs, m, _, ex, _, hl, hel⟩ := DataW.trod_array Tryz.underlying261 h
 match xs, hl with
 | [y0, y1, y2], _ =>
  have h0 := hel 0 (by omega)
  have h1 := hel 1 (by omega)
  have h2 := hel 2 (by omega)
  simp only [cKinds, Nat.zero_mul, Nat.one_mul, Nat.reduceMul, List.drop_zero, List.take_succ_cons, List.take_zero, List.drop_succ_cons, List.getElem?_cons_zero, List.getElem?_cons_succ] at h0 h1 h2
  obtain ⟨a, e0, q0, _⟩ := DataW.trod_int Tryz.underlying259 h0
  obtain ⟨b, e1, q1, _⟩ := DataW.trod_int Tryz.underlying259 h1
  obtain ⟨c, e2, q2, _⟩ := DataW.trod_int Tryz.underlying259 h2
  simp at e0 e1 e2
  refine ⟨a, b, c, e0, e1, e2, ?_⟩
  rw [ex]
  simp only [List.map_cons, List.map_nil]
  rw [q0, q1, q2]
set_option maxRecDepth 100000 in
theorem open_prim {fuel : Nat} {cs : List Value} {x : DataW H × List MemPlace} (h : DataW.trod enc Tryz.prog W base sp held fuel 263 cs = some x) :
  ∃ (s : ByteArray) (a b c d : Int), cs = [.string s, .int .u16 a, .int .u16 b, .int .u16 c, .int .u16 d] ∧ x.1 = .agg [.lit (.string s.data.toList), .agg [.lit (.int .u16 a), .lit (.int .u16 b), .lit (.int .u16 c)], .lit (.int .u16 d)] := by
 obtain ⟨y0, y1, y2, n, hy, hl, h0, h1, h2⟩ := Go.Deep.trod_struct3 Tryz.underlying263 h
 rw [cPrim] at hl
 match cs, hl with
 | [c0, c1, c2, c3, c4], _ =>
  simp only [cStr, cWant, cKinds, List.drop_zero, List.take_succ_cons, List.take_zero, List.drop_succ_cons] at h0 h1 h2
  obtain ⟨s, e0, q0, _⟩ := DataW.trod_string Tryz.underlying9 h0
  obtain ⟨a, b, c, rfl, rfl, rfl, q1⟩ := open_wanted h1
  obtain ⟨d, e2, q2, _⟩ := DataW.trod_int Tryz.underlying259 h2
  simp at e0 e2
  subst e0 e2
  exact ⟨s, a, b, c, d, rfl, by rw [hy]; show DataW.agg [y0.1, y1.1, y2.1] = _; rw [q0, q1, q2]⟩
end
theorem gTabP : Tryz.prog.globalNamed "loop.example/s01541/impl.primitives" = some 1 := by kernel_rfl
theorem gTabTypeP : (Tryz.prog.globals[1]?).map (·.type) = some 264 := by kernel_rfl
theorem laid_prims : ∀ p, p < 22 → ∃ (l : List (DataW Unit)) (x y z : Nat) (d0 : DataW Unit), Rows.laid_loop_example_s01541_impl_primitives = .agg l ∧ l[p]? = some (.agg [.lit (.string (Cp.primS p).data.toList), .agg [.lit (.int .u16 (x : Nat)), .lit (.int .u16 (y : Nat)), .lit (.int .u16 (z : Nat))], d0]) ∧ (Cp.nz [x, y, z]).length = Cp.primA p := by
 intro p h
 have hops : p = 0 ∨ p = 1 ∨ p = 2 ∨ p = 3 ∨ p = 4 ∨ p = 5 ∨ p = 6 ∨ p = 7 ∨ p = 8 ∨ p = 9 ∨ p = 10 ∨ p = 11 ∨ p = 12 ∨ p = 13 ∨ p = 14 ∨ p = 15 ∨ p = 16 ∨ p = 17 ∨ p = 18 ∨ p = 19 ∨ p = 20 ∨ p = 21 := by omega
 rcases hops with h | h | h | h | h | h | h | h | h | h | h | h | h | h | h | h | h | h | h | h | h | h
 ·subst h; exact ⟨_, 1, 1, 0, _, rfl, rfl, rfl⟩
 ·subst h; exact ⟨_, 1, 1, 0, _, rfl, rfl, rfl⟩
 ·subst h; exact ⟨_, 1, 1, 0, _, rfl, rfl, rfl⟩
 ·subst h; exact ⟨_, 1, 1, 0, _, rfl, rfl, rfl⟩
 ·subst h; exact ⟨_, 1, 1, 0, _, rfl, rfl, rfl⟩
 ·subst h; exact ⟨_, 1, 1, 0, _, rfl, rfl, rfl⟩
 ·subst h; exact ⟨_, 1, 1, 0, _, rfl, rfl, rfl⟩
 ·subst h; exact ⟨_, 255, 255, 0, _, rfl, rfl, rfl⟩
 ·subst h; exact ⟨_, 16, 0, 0, _, rfl, rfl, rfl⟩
 ·subst h; exact ⟨_, 16, 0, 0, _, rfl, rfl, rfl⟩
 ·subst h; exact ⟨_, 255, 0, 0, _, rfl, rfl, rfl⟩
 ·subst h; exact ⟨_, 255, 0, 0, _, rfl, rfl, rfl⟩
 ·subst h; exact ⟨_, 255, 0, 0, _, rfl, rfl, rfl⟩
 ·subst h; exact ⟨_, 255, 0, 0, _, rfl, rfl, rfl⟩
 ·subst h; exact ⟨_, 255, 0, 0, _, rfl, rfl, rfl⟩
 ·subst h; exact ⟨_, 255, 0, 0, _, rfl, rfl, rfl⟩
 ·subst h; exact ⟨_, 255, 255, 0, _, rfl, rfl, rfl⟩
 ·subst h; exact ⟨_, 255, 0, 0, _, rfl, rfl, rfl⟩
 ·subst h; exact ⟨_, 1, 255, 0, _, rfl, rfl, rfl⟩
 ·subst h; exact ⟨_, 32, 1, 0, _, rfl, rfl, rfl⟩
 ·subst h; exact ⟨_, 32, 1, 255, _, rfl, rfl, rfl⟩
 ·subst h; exact ⟨_, 32, 0, 0, _, rfl, rfl, rfl⟩
theorem tableP {W : World} (h2 : laidMet Tryz.prog [("loop.example/s01541/impl.primitives", Rows.laid_loop_example_s01541_impl_primitives)] W) : Cp.TbP W := by
 obtain ⟨ps, ⟨g', t', cs, fuel, p, q, hg', ht', hvar, hd, _, _⟩, _⟩ := h2
 obtain rfl := Option.some.inj (gTabP.symm.trans hg')
 obtain rfl := Option.some.inj (gTabTypeP.symm.trans ht')
 have hcell := fun i => World.var?_cell gTabP hvar i
 obtain ⟨xs, m, _, ex, hlen, hl, hel⟩ := DataW.trod_array Tryz.underlying264 hd
 rw [cPrim] at hel
 intro op hop
 have h1 := hel op hop
 obtain ⟨x, hx⟩ : ∃ x, xs[op]? = some x := ⟨xs[op]'(by omega), List.getElem?_eq_getElem (by omega)⟩
 rw [hx] at h1
 obtain ⟨s, a, b, c, d, hcs, hxx⟩ := open_prim h1
 obtain ⟨l, x1, y1, z1, e0, hl1, hl2, hnz⟩ := laid_prims op hop
 have hl3 : xs.map (·.1) = l := by
  have := congrArg Prod.fst ex
  simp only at this
  rw [hl1] at this
  injection this with this
  exact this.symm
 have hl4 : l[op]? = some x.1 := by rw [← hl3]; simp [hx]
 rw [hl2, hxx] at hl4
 simp only [Option.some.injEq, DataW.agg.injEq, List.cons.injEq, DataW.lit.injEq, Lit.int.injEq, Lit.string.injEq, true_and, and_true] at hl4
 obtain ⟨h0, ⟨h3, h4, h5⟩, _⟩ := hl4
 have hs : Cp.primS op = s := by
  have h' : (Cp.primS op).data = s.data := Array.toList_inj.1 h0
  cases e1 : Cp.primS op
  cases s
  rw [e1] at h'
  simp only at h'
  rw [h']
 have hcs2 : ∀ i, i < 5 → W.cell? ⟨1, op * 5 + i, none⟩ = ((cs.toList.drop (op * 5)).take 5)[i]? := fun i hi => by
  rw [hcell, List.getElem?_take, if_pos hi, List.getElem?_drop, Array.getElem?_toList]
 rw [hcs] at hcs2
 refine ⟨x1, y1, z1, hnz, ?_, ?_, ?_, ?_⟩
 ·have := hcs2 0 (by omega); rw [hs]; exact this
 ·have := hcs2 1 (by omega); rw [h3]; exact this
 ·have := hcs2 2 (by omega); rw [h4]; exact this
 ·have := hcs2 3 (by omega); rw [h5]; exact this
theorem gEt : Tryz.prog.globalNamed "errors.errorType" = some 0 := by kernel_rfl
theorem rtEt : (Tryz.prog.cutTypes.find? (·.1 == "internal/reflectlite.rtype")).map (·.2) = some 204 := by kernel_rfl
theorem oneEt : ((List.range Tryz.prog.types.size).filter fun t => Tryz.prog.rowNamed t [101, 114, 114, 111, 114]) = [96] := by kernel_rfl
theorem tables {W : World} (h : laidMetH Tryz.prog Rows.fnExactUnboundRow.laid W) : Cp.TbP W ∧ Eh W := by
 have h1' : laidMet Tryz.prog [("math/bits.deBruijn32tab", Rows.laid_math_bits_deBruijn32tab), ("math/bits.deBruijn64tab", Rows.laid_math_bits_deBruijn64tab), ("internal/strconv.uint64pow10", Rows.laid_internal_strconv_uint64pow10), ("loop.example/s01541/impl.primitives", Rows.laid_loop_example_s01541_impl_primitives)] W ∧ handlesMet Tryz.prog [("errors.errorType", Rows.laid_errors_errorType)] W := h
 refine ⟨tableP (laidMet.tail (laidMet.tail (laidMet.tail h1'.1))), ?_⟩
 obtain ⟨name, u, ty, e1, e2, e3, e4, e5⟩ := h1'.2 _ (List.mem_singleton.2 rfl)
 have en : name = [101, 114, 114, 111, 114] := (Option.some.inj e1).symm
 subst en
 obtain rfl := Option.some.inj (rtEt.symm.trans e2)
 have hm : ty ∈ (List.range Tryz.prog.types.size).filter fun t => Tryz.prog.rowNamed t [101, 114, 114, 111, 114] := List.mem_filter.2 ⟨List.mem_range.2 e3, e4⟩
 rw [oneEt] at hm
 obtain rfl := List.mem_singleton.1 hm
 have hh : typeHandle Tryz.prog 96 = .pointer (some ⟨6, 96, none⟩) := by kernel_rfl
 rw [hh] at e5
 unfold Eh
 simpa using World.var?_cell gEt e5 0
end Uc
end Go.Proofs.YtnnpfoilojicjaaGreatDoor
