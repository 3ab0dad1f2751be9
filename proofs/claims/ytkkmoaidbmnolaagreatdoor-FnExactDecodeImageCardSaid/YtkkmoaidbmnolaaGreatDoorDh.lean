import Derived.Test.YtkkmoaidbmnolaaGreatDoorDg
import Derived.Defers
import Derived.Recover
namespace Go.Proofs.YtkkmoaidbmnolaaGreatDoor
open Go.RowKit Ch1
theorem fieldF (x y : Value) (w : World) : (Instr.field 51 (.agg #[x, y]) 0).run Tryz.prog w = .ok x w := by kernel_rfl
/-- The deferred function, where there is no panic. -/
theorem catch_idleD (p q : Addr) (w : World) :
    CallsD Tryz.prog 15 #[.pointer (some p), .pointer (some q)] .returning w fun e u' w' => e = .returned (.tuple #[]) ∧ u' = .returning ∧ w' = w := by
  refine callsD_of_wpS Tryz.func15 rfl fun c₀ cs hu => ?_
  apply wpS_seq
  apply wpS_region
  simp [wpOpsS, go_sem, recoverD, hu, Tryz.ntmps15, Exit.thenS]
  apply wpS_seq
  apply wpS_region
  simp [wpOpsS, go_sem, Exit.thenS]
  refine wpS_cond (t := false) (by simp [Act.eval, Array.replicate]) ?_
  simp only [Bool.false_eq_true, if_false]
  refine wpS_of_wp (wp_skip ?_)
  cases c₀
  simp_all [bodyPostS, results, Tryz.results15]
set_option maxRecDepth 20000 in
set_option maxHeartbeats 4000000 in
/-- The deferred function, where the reader has stopped. -/
theorem catch_faultD (mb cb : Nat) (a0 a1 a2 b0 : Value) (w : World) (hE : Eh w) (hm : w.heap[mb]? = some (.cells #[a0, a1, a2] 26)) (hc : w.heap[cb]? = some (.cells #[b0] 3)) :
    CallsD Tryz.prog 15 #[.pointer (some ⟨mb, 0, none⟩), .pointer (some ⟨cb, 0, none⟩)] (.panicking [{ v := .iface 51 (.agg #[.int .i64 5, .int .i64 0]), recovered := false }]) w fun e u' w' =>
      e = .returned (.tuple #[]) ∧ u' = .panicking [{ v := .iface 51 (.agg #[.int .i64 5, .int .i64 0]), recovered := true }] ∧ ∃ w1, Below w.heap.size w w1 ∧ w' = (((w1.setCell ⟨mb, 0, none⟩ (.slice none 0 0)).setCell ⟨mb, 1, none⟩ (.int .i64 0)).setCell ⟨mb, 2, none⟩ (.slice none 0 0)).setCell ⟨cb, 0, none⟩ (.int .i64 5) := by
  refine callsD_of_wpS Tryz.func15 rfl fun c₀ cs hu => ?_
  apply wpS_seq
  apply wpS_region
  simp [wpOpsS, go_sem, recoverD, hu, Tryz.ntmps15, Exit.thenS]
  apply wpS_seq
  apply wpS_region
  simp [wpOpsS, go_sem, Exit.thenS]
  refine wpS_cond (t := true) (by simp [Act.eval, Array.replicate]) ?_
  simp only [if_true]
  refine wpS_of_wp ?_
  have HE : Hid (Eh w) := hE
  have hmlt := (Array.getElem?_eq_some_iff.1 hm).1
  have hclt := (Array.getElem?_eq_some_iff.1 hc).1
  have hne : mb ≠ cb := fun e => by subst e; rw [hm] at hc; cases hc
  have hne' : cb ≠ mb := fun e => hne e.symm
  have HM := Hid.mkD hm
  have HC := Hid.mkD hc
  clear hE hm hc hu
  have fl := fieldF
  go_wp2_with fail
  refine (ownFault_c 5 0 w HE.out).mono ?_
  rintro e w1 ⟨rfl, hb⟩
  have HB := Hid.mkD hb
  obtain ⟨m0, m1, m2, mf0, mf1, mf2⟩ := cells3 ((hb.block _ hmlt).trans HM.out)
  have hc1 := (hb.block _ hclt).trans HC.out
  have c0 : w1.cell? ⟨cb, 0, none⟩ = some b0 := by simp [World.cell?, hc1]
  have cf0 : w1.frozen? ⟨cb, 0, none⟩ = false := by simp [World.frozen?, hc1]
  clear hb hc1
  go_wp2_with fail
  simp [bodyPostS, results, Tryz.results15]
  exact ⟨w1, HB.out, rfl⟩
theorem set_cell1 {w : World} {k : Nat} {a : Value} {t : TypeId} (e : w.heap[k]? = some (.cells #[a] t)) (v : Value) : (w.setCell ⟨k, 0, none⟩ v).cell? ⟨k, 0, none⟩ = some v := by
  have h : (w.setCell ⟨k, 0, none⟩ v).heap[k]? = some (.cells #[v] t) := by simp [World.setCell, Array.getElem?_modify, e]
  simp [World.cell?, h]
/-- What DecodeImage answers. -/
def DiP (xs : List Int) (w w' : World) (e : Ending) : Prop :=
  (∃ m v wX, RdIm xs m ∧ MdOk m ∧ e = .returned (.tuple #[v, .int .i64 0]) ∧ w.heap.size ≤ wX.heap.size ∧ MdV m v wX w' ∧ Below w.heap.size w w') ∨ ((∀ m, ¬ RdIm xs m) ∧ e = .returned (.tuple #[.agg #[.slice none 0 0, .int .i64 0, .slice none 0 0], .int .i64 5]) ∧ Below w.heap.size w w')
set_option maxRecDepth 20000 in
set_option maxHeartbeats 4000000 in
theorem implDecode_c (p : Option Addr) (n c : Nat) (xs : List Int) (w : World) (h : By w p n c xs) (hn : n ≤ 1048576) (hT : Tb w) (hE : Eh w) :
    Calls Tryz.prog 6 #[.slice p n c] w fun e w' => DiP xs w w' e := by
  have hmf : ∀ (fn : Go.Fn) (first cap : Array Value) (w : World), (Instr.makeFunc fn first cap).run Tryz.prog w = .ok (.func fn first cap) w := fun _ _ _ _ => rfl
  have HB : Hid (By w p n c xs) := h
  have HT : Hid (Tb w) := hT
  have HE : Hid (Eh w) := hE
  clear h hT hE
  go_enter_defers Tryz.func6, Tryz.ntmps6
  obtain ⟨W, hW⟩ : ∃ W, W = (w.alloc (.cells #[.slice none 0 0, .int .i64 0, .slice none 0 0] 26)).alloc (.cells #[.int .i64 0] 3) := ⟨_, rfl⟩
  have hbW : Below w.heap.size w W := by rw [hW]; exact below2 _ _ _
  have HBW := Hid.mkD hbW
  have HX : Hid (W.heap[w.heap.size]? = some (.cells #[.slice none 0 0, .int .i64 0, .slice none 0 0] 26)) := by
    unfold Hid; rw [hW]; exact ((below1 _ _).block _ (by simp)).trans (Go.Deep.blk_alloc_new _ _)
  have HC : Hid (W.heap[w.heap.size + 1]? = some (.cells #[.int .i64 0] 3)) := by
    unfold Hid; rw [hW]
    have := Go.Deep.blk_alloc_new (w.alloc (.cells #[.slice none 0 0, .int .i64 0, .slice none 0 0] 26)) (.cells #[.int .i64 0] 3)
    simpa using this
  clear hbW
  go_wp2_with fail
  rw [← hW]
  clear hW
  have hWl := (Array.getElem?_eq_some_iff.1 HC.out).1
  refine (readImage_c p n c xs W (HB.out.below HBW.out) hn (HT.out.below HBW.out)).mono ?_
  rintro e w1 (⟨m, v, wX, him, hmd, rfl, hwx, hmv, hb1⟩ | ⟨hno, rfl, hb1⟩)
  · obtain ⟨cp, cn, cc, fp, fn, fc, rfl, _, _⟩ := hmv.mo hmd
    have HIM := Hid.mkD him
    have HMD := Hid.mkD hmd
    have HMV := Hid.mkD hmv
    have HB1 : Hid (Below w.heap.size w w1) := HBW.out.trans (hb1.mono HBW.out.size)
    have HX1 : Hid (w1.heap[w.heap.size]? = some (.cells #[.slice none 0 0, .int .i64 0, .slice none 0 0] 26)) := (hb1.block _ (by omega)).trans HX.out
    have HC1 : Hid (w1.heap[w.heap.size + 1]? = some (.cells #[.int .i64 0] 3)) := (hb1.block _ hWl).trans HC.out
    obtain ⟨x0, x1, x2, xf0, xf1, xf2⟩ := cells3 HX1.out
    have c0 : w1.cell? ⟨w.heap.size + 1, 0, none⟩ = some (.int .i64 0) := by have := HC1.out; simp [World.cell?, this]
    have cf0 : w1.frozen? ⟨w.heap.size + 1, 0, none⟩ = false := by have := HC1.out; simp [World.frozen?, this]
    clear him hmd hmv hb1
    go_wp2_with fail
    obtain ⟨W5, hW5⟩ : ∃ W5, W5 = (((w1.setCell ⟨w.heap.size, 0, none⟩ (.slice cp cn cc)).setCell ⟨w.heap.size, 1, none⟩ (.int .i64 m.globals)).setCell ⟨w.heap.size, 2, none⟩ (.slice fp fn fc)).setCell ⟨w.heap.size + 1, 0, none⟩ (.int .i64 0) := ⟨_, rfl⟩
    have hs1 : Sr w.heap.size w1 (((w1.setCell ⟨w.heap.size, 0, none⟩ (.slice cp cn cc)).setCell ⟨w.heap.size, 1, none⟩ (.int .i64 m.globals)).setCell ⟨w.heap.size, 2, none⟩ (.slice fp fn fc)) := ((Sr.set _ _ _ _).trans (Sr.set _ _ _ _)).trans (Sr.set _ _ _ _)
    have hs2 : Sr (w.heap.size + 1) (((w1.setCell ⟨w.heap.size, 0, none⟩ (.slice cp cn cc)).setCell ⟨w.heap.size, 1, none⟩ (.int .i64 m.globals)).setCell ⟨w.heap.size, 2, none⟩ (.slice fp fn fc)) W5 := by rw [hW5]; exact Sr.set _ _ _ _
    have HMV5 := Hid.mkD ((HMV.out.sr hs1 (by omega)).sr hs2 (by omega))
    have HB5 := Hid.mkD ((HB1.out.trans (hs1.below (Nat.le_refl _) HB1.out.size)).trans (hs2.below (by omega) (Nat.le_trans HB1.out.size hs1.size)))
    have hm5 : W5.heap[w.heap.size]? = some (.cells #[.slice cp cn cc, .int .i64 m.globals, .slice fp fn fc] 26) := by
      rw [hs2.block _ (by rw [set_size, set_size, set_size]; have := (Array.getElem?_eq_some_iff.1 HX1.out).1; omega) (by omega)]
      exact set_two (set_one (set_zero HX1.out _) _) _
    have hc5 : W5.cell? ⟨w.heap.size + 1, 0, none⟩ = some (.int .i64 0) := by rw [hW5]; exact set_cell1 ((hs1.block _ (Array.getElem?_eq_some_iff.1 HC1.out).1 (by omega)).trans HC1.out) _
    obtain ⟨y0, y1, y2, _, _, _⟩ := cells3 hm5
    rw [← hW5]
    refine leaves_cons (f := 15) (args := #[.pointer (some ⟨w.heap.size, 0, none⟩), .pointer (some ⟨w.heap.size + 1, 0, none⟩)]) (by simp) (by simp [go_sem]) ?_
    refine (catch_idleD ⟨w.heap.size, 0, none⟩ ⟨w.heap.size + 1, 0, none⟩ _).mono ?_
    rintro e u' w'' ⟨rfl, rfl, rfl⟩
    simp [Leaves, settle, results, Tryz.results6, go_sem, y0, y1, y2, hc5]
    exact Or.inl ⟨m, _, wX, HIM.out, HMD.out, rfl, by omega, HMV5.out, HB5.out⟩
  · have HB1 : Hid (Below w.heap.size w w1) := HBW.out.trans (hb1.mono HBW.out.size)
    have HX1 : Hid (w1.heap[w.heap.size]? = some (.cells #[.slice none 0 0, .int .i64 0, .slice none 0 0] 26)) := (hb1.block _ (by omega)).trans HX.out
    have HC1 : Hid (w1.heap[w.heap.size + 1]? = some (.cells #[.int .i64 0] 3)) := (hb1.block _ hWl).trans HC.out
    have HNO := Hid.mkD hno
    clear hno hb1
    refine leaves_cons (f := 15) (args := #[.pointer (some ⟨w.heap.size, 0, none⟩), .pointer (some ⟨w.heap.size + 1, 0, none⟩)]) (by simp) (by simp [go_sem]) ?_
    refine (catch_faultD w.heap.size (w.heap.size + 1) _ _ _ _ w1 (HE.out.below HB1.out) HX1.out HC1.out).mono ?_
    rintro e u' w'' ⟨rfl, rfl, w2, hb2, hw''⟩
    have HX2 : w2.heap[w.heap.size]? = some (.cells #[.slice none 0 0, .int .i64 0, .slice none 0 0] 26) := (hb2.block _ (Array.getElem?_eq_some_iff.1 HX1.out).1).trans HX1.out
    have HC2 : w2.heap[w.heap.size + 1]? = some (.cells #[.int .i64 0] 3) := (hb2.block _ (Array.getElem?_eq_some_iff.1 HC1.out).1).trans HC1.out
    have HB2 : Below w.heap.size w w2 := HB1.out.trans (hb2.mono HB1.out.size)
    have hs1 : Sr w.heap.size w2 (((w2.setCell ⟨w.heap.size, 0, none⟩ (.slice none 0 0)).setCell ⟨w.heap.size, 1, none⟩ (.int .i64 0)).setCell ⟨w.heap.size, 2, none⟩ (.slice none 0 0)) := ((Sr.set _ _ _ _).trans (Sr.set _ _ _ _)).trans (Sr.set _ _ _ _)
    have hs2 : Sr (w.heap.size + 1) (((w2.setCell ⟨w.heap.size, 0, none⟩ (.slice none 0 0)).setCell ⟨w.heap.size, 1, none⟩ (.int .i64 0)).setCell ⟨w.heap.size, 2, none⟩ (.slice none 0 0)) w'' := by rw [hw'']; exact Sr.set _ _ _ _
    have hm5 : w''.heap[w.heap.size]? = some (.cells #[.slice none 0 0, .int .i64 0, .slice none 0 0] 26) := by
      rw [hs2.block _ (by rw [set_size, set_size, set_size]; exact (Array.getElem?_eq_some_iff.1 HX2).1) (by omega)]
      exact set_two (set_one (set_zero HX2 _) _) _
    have hc5 : w''.cell? ⟨w.heap.size + 1, 0, none⟩ = some (.int .i64 5) := by rw [hw'']; exact set_cell1 ((hs1.block _ (Array.getElem?_eq_some_iff.1 HC2).1 (by omega)).trans HC2) _
    have HB5 : Below w.heap.size w w'' := (HB2.trans (hs1.below (Nat.le_refl _) HB2.size)).trans (hs2.below (by omega) (Nat.le_trans HB2.size hs1.size))
    obtain ⟨y0, y1, y2, _, _, _⟩ := cells3 hm5
    clear hw'' hs1 hs2 HX2 HC2 HB2 hb2
    simp [Leaves, settle, results, Tryz.results6, go_sem, y0, y1, y2, hc5]
    exact Or.inr ⟨HNO.out, rfl, HB5⟩
end Go.Proofs.YtkkmoaidbmnolaaGreatDoor
