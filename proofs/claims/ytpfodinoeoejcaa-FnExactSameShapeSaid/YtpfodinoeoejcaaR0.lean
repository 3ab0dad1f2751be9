import Derived.Test.YtpfodinoeoejcaaN1
import Derived.ProofKit
import Derived.OpenShut
import Derived.ChangeOld
import Derived.Deep.Slices
import Derived.Lib.SmallJoins
namespace Go.Proofs.Ytpfodinoeoejcaa
open Go.ChangeShapes Go.WideShapes Go.ChangeAt Go.RowKit Go.Joins Ch2
theorem own : ownKnob Try.prog.godebug = none := by kernel_rfl
theorem laidOut : laidOutB Try.prog = true := by kernel_rfl
theorem cells3 : Try.prog.cellsOf 3 = 1 := by kernel_rfl
theorem cellsSl : Try.prog.cellsOf 29 = 1 := by kernel_rfl
theorem cellsHp : Try.prog.cellsOf 37 = 2 := by kernel_rfl
theorem cell_lt {w : World} {a : Addr} {v : Value} (h : w.cell? a = some v) : a.block < w.heap.size := by
  unfold World.cell? at h
  split at h
  · rename_i hh
    exact (Array.getElem?_eq_some_iff.1 hh).1
  · cases h
theorem wf_i64 {n : Int} (h : (Lit.int .i64 n).wf = true) : -9223372036854775808 ≤ n ∧ n ≤ 9223372036854775807 := by
  simp [Lit.wf, IntKind.min, IntKind.max, IntKind.signed, IntKind.bits] at h
  exact ⟨by omega, by omega⟩
theorem rng64_of {xs : List Int} (h : ∀ n ∈ xs, -9223372036854775808 ≤ n ∧ n ≤ 9223372036854775807) (i : Nat) : -9223372036854775808 ≤ xs.getD i 0 ∧ xs.getD i 0 ≤ 9223372036854775807 := by
  by_cases hi : i < xs.length
  · exact h _ (by simp [List.getD, List.getElem?_eq_getElem hi])
  · simp [List.getD, List.getElem?_eq_none (Nat.le_of_not_lt hi)]
section
variable {H : Type} {enc : TypeId × Value → H} {W : World}
theorem open_is {fuel : Nat} {v : Value} {x : DataW H × List MemPlace} (h : DataW.trod enc Try.prog W 0 (fun _ => true) true fuel 29 [v] = some x) : ∃ p n c xs, v = .slice p n c ∧ Is W p n c xs := by
  rcases open_ints Try.underlying29 Try.underlying3 cells3 h with ⟨hcs, _⟩ | ⟨a, len, cap, zs, hcs, _, hl, hm, hz, _, hcell, hwz⟩
  · simp at hcs
    subst hcs
    exact ⟨none, 0, 0, [], rfl, rfl, Nat.le_refl _, by unfold maxLen; omega, fun i => by simp, fun h => absurd h (Nat.lt_irrefl 0)⟩
  · simp at hcs
    subst hcs
    have hz' : zs.length = cap := by simpa using hz
    have key : ∀ i, i < len → W.cell? (a.add i) = some (.int .i64 ((zs.take len).getD i 0)) := fun i hi => by
      rw [hcell i (by omega)]; simp [List.getD, hi]
    refine ⟨some a, len, cap, zs.take len, rfl, by rw [List.length_take]; omega, hl, hm, rng64_of fun n hn => wf_i64 (hwz n (List.mem_of_mem_take hn)), fun hlen => ?_⟩
    have h0 := key 0 hlen
    obtain ⟨b, o, spot⟩ := a
    have hspot : spot = none := by simpa [Addr.add] using World.cell?_spot h0
    subst hspot
    refine ⟨b, o, rfl, by simpa [Addr.add] using cell_lt h0, fun i hi => ?_⟩
    have := key i hi
    rw [add_plain] at this
    exact this
set_option maxRecDepth 100000 in
theorem open_heap {fuel : Nat} {cs : List Value} {x : DataW H × List MemPlace} (h : DataW.trod enc Try.prog W 0 (fun _ => true) true fuel 37 cs = some x) :
    ∃ (p : Option Addr) (n c : Nat) (xs : List Int) (top : Int), cs = [.slice p n c, .int .i64 top] ∧ Is W p n c xs ∧ -9223372036854775808 ≤ top ∧ top ≤ 9223372036854775807 := by
  obtain ⟨y0, y1, m, _, hlen, h0, h1⟩ := trod_struct2 Try.underlying37 h
  rw [cellsHp] at hlen
  match cs, hlen with
  | [c0, c1], _ =>
    simp only [cells3, cellsSl, List.drop_zero, List.take_succ_cons, List.take_zero, List.drop_succ_cons] at h0 h1
    obtain ⟨t, e1, _, wt⟩ := DataW.trod_int Try.underlying3 h1
    obtain ⟨p, n, c, xs, rfl, hb⟩ := open_is h0
    simp at e1
    subst e1
    exact ⟨p, n, c, xs, t, rfl, hb, (wf_i64 wt).1, (wf_i64 wt).2⟩
end
end Go.Proofs.Ytpfodinoeoejcaa
