import Derived.Test.YtdjdhjciealfhaaGreatDoorM9
namespace Go.Proofs.YtdjdhjciealfhaaGreatDoor
open Go.RowKit Ch1
/-- Data of the first k constants. -/
def cSum (ls : List (List Dt)) (k : Nat) : Nat := ((ls.take k).map List.length).sum
/-- Instructions of the first k functions. -/
def fSum (fs : List Fn) (k : Nat) : Nat := ((fs.take k).map (fun f => f.code.length)).sum
theorem cSum_succ (ls : List (List Dt)) (k : Nat) (h : k < ls.length) : cSum ls (k + 1) = cSum ls k + (ls.getD k []).length := by
  have e : ls.getD k [] = ls[k] := by simp [List.getD, List.getElem?_eq_getElem h]
  unfold cSum
  rw [e, List.take_add_one, List.getElem?_eq_getElem h, Option.toList_some, List.map_append, List.sum_append]
  simp only [List.map_cons, List.map_nil, List.sum_cons, List.sum_nil, Nat.add_zero]
theorem fSum_succ (fs : List Fn) (k : Nat) (h : k < fs.length) : fSum fs (k + 1) = fSum fs k + (fs.getD k fn0).code.length := by
  have e : fs.getD k fn0 = fs[k] := by simp [List.getD, List.getElem?_eq_getElem h]
  unfold fSum
  rw [e, List.take_add_one, List.getElem?_eq_getElem h, Option.toList_some, List.map_append, List.sum_append]
  simp only [List.map_cons, List.map_nil, List.sum_cons, List.sum_nil, Nat.add_zero]
theorem cSum_mono (ls : List (List Dt)) : ∀ (d k : Nat), k + d ≤ ls.length → cSum ls k ≤ cSum ls (k + d)
  | 0, _, _ => Nat.le_refl _
  | d + 1, k, h => by
    have h1 := cSum_mono ls d k (by omega)
    have h2 := cSum_succ ls (k + d) (by omega)
    rw [← Nat.add_assoc]; omega
theorem fSum_mono (fs : List Fn) : ∀ (d k : Nat), k + d ≤ fs.length → fSum fs k ≤ fSum fs (k + d)
  | 0, _, _ => Nat.le_refl _
  | d + 1, k, h => by
    have h1 := fSum_mono fs d k (by omega)
    have h2 := fSum_succ fs (k + d) (by omega)
    rw [← Nat.add_assoc]; omega
theorem cSum_le (ls : List (List Dt)) (k : Nat) (h : k ≤ ls.length) : cSum ls k ≤ cSum ls ls.length := by
  have := cSum_mono ls (ls.length - k) k (by omega)
  rwa [show k + (ls.length - k) = ls.length by omega] at this
theorem fSum_le (fs : List Fn) (k : Nat) (h : k ≤ fs.length) : fSum fs k ≤ fSum fs fs.length := by
  have := fSum_mono fs (fs.length - k) k (by omega)
  rwa [show k + (fs.length - k) = fs.length by omega] at this
/-- A function but for its instructions. -/
structure FnOk (f : Fn) : Prop where
  p0 : 0 ≤ f.params
  p1 : f.params ≤ 20
  fr : f.free.length ≤ 50
  co : 1 ≤ f.code.length
structure CsOk (ls : List (List Dt)) : Prop where
  few : ls.length ≤ 500
  one : ∀ i, i < ls.length → oneB (ls.getD i []) = true
  sum : cSum ls ls.length ≤ 3000
structure SzOk (fs : List Fn) : Prop where
  fn : ∀ i, i < fs.length → FnOk (fs.getD i fn0)
  sum : fSum fs fs.length ≤ 5000
def CdOk (m : Md) : Prop := ∀ i, i < m.funcs.length → ∀ k, k < (m.funcs.getD i fn0).code.length → InsOk m (m.funcs.getD i fn0) ((m.funcs.getD i fn0).code.getD k in0)
/-- A well-formed module. -/
structure GoodM (m : Md) : Prop where
  f1 : 1 ≤ m.funcs.length
  f2 : m.funcs.length ≤ 200
  g0 : 0 ≤ m.globals
  g1 : m.globals ≤ 200
  p0 : (m.funcs.getD 0 fn0).params = 0
  fr : (m.funcs.getD 0 fn0).free.length = 0
  cs : CsOk m.consts
  sz : SzOk m.funcs
  cd : CdOk m
/-- What both ValidModules answer. -/
def VmP (m : Md) (w w' : World) (e : Ending) : Prop := ∃ b, e = .returned (.bool b) ∧ (b = true ↔ GoodM m) ∧ Below w.heap.size w w'
theorem VmP.no {m : Md} {w w' : World} (h : ¬ GoodM m) (hb : Below w.heap.size w w') : VmP m w w' (.returned (.bool false)) := ⟨false, rfl, ⟨fun h => (by cases h), fun hg => absurd hg h⟩, hb⟩
theorem validB_row {ds : List Dt} (h : ds.length ≤ 3000) : validB ds = rowOf ds := by unfold validB; simp [h]
/-- At the head of the loop over constants. -/
def SpC (m : Md) (w : World) (cp : Option Addr) (cn cc : Nat) (fp : Option Addr) (fn fc : Nat) (dv iv : Value) (wr : World) : Prop := ∃ i s : Nat, i ≤ cn ∧ s ≤ 3000 ∧ iv = .int .i64 i ∧ dv = .int .i64 s ∧ Hid (s = cSum m.consts i) ∧ Hid (∀ j, j < i → oneB (m.consts.getD j []) = true) ∧ Hid (B3 wr w.heap.size (.slice cp cn cc) (.int .i64 m.globals) (.slice fp fn fc)) ∧ Hid (Below w.heap.size w wr)
/-- At the head of the loop over functions. -/
def SpF (m : Md) (w : World) (cp : Option Addr) (cn cc : Nat) (fp : Option Addr) (fn fc : Nat) (dv iv : Value) (wr : World) : Prop := ∃ i s : Nat, i ≤ fn ∧ s ≤ 5000 ∧ iv = .int .i64 i ∧ dv = .int .i64 s ∧ Hid (s = fSum m.funcs i) ∧ Hid (∀ j, j < i → FnOk (m.funcs.getD j fn0)) ∧ Hid (B3 wr w.heap.size (.slice cp cn cc) (.int .i64 m.globals) (.slice fp fn fc)) ∧ Hid (Below w.heap.size w wr)
/-- At the head of the loop over the functions' code. -/
def SpK (m : Md) (w : World) (cp : Option Addr) (cn cc : Nat) (fp : Option Addr) (fn fc : Nat) (iv : Value) (wr : World) : Prop := ∃ i : Nat, i ≤ fn ∧ iv = .int .i64 i ∧ Hid (∀ j, j < i → ∀ k, k < (m.funcs.getD j fn0).code.length → InsOk m (m.funcs.getD j fn0) ((m.funcs.getD j fn0).code.getD k in0)) ∧ Hid (B3 wr w.heap.size (.slice cp cn cc) (.int .i64 m.globals) (.slice fp fn fc)) ∧ Hid (Below w.heap.size w wr)
/-- At the head of the loop over one function's code. -/
def SpI (m : Md) (w : World) (cp : Option Addr) (cn cc : Nat) (fp : Option Addr) (fn fc : Nat) (f : Fn) (fb : Nat) (rp : Option Addr) (rl rc : Nat) (dp : Option Addr) (dl dc : Nat) (kv : Value) (wr : World) : Prop := ∃ k : Nat, k ≤ dl ∧ kv = .int .i64 k ∧ Hid (∀ j, j < k → InsOk m f (f.code.getD j in0)) ∧ Hid (B3 wr w.heap.size (.slice cp cn cc) (.int .i64 m.globals) (.slice fp fn fc)) ∧ Hid (B3 wr fb (.int .i64 f.params) (.slice rp rl rc) (.slice dp dl dc)) ∧ Hid (Below w.heap.size w wr)
set_option maxRecDepth 20000 in
set_option maxHeartbeats 8000000 in
theorem specValidModule_c (cp : Option Addr) (cn cc : Nat) (fp : Option Addr) (fn fc : Nat) (m : Md) (w : World) (hM : Mo w cp cn cc fp fn fc m) (hF : Fits cn fn m) :
    Calls Tryz.prog 15 #[.agg #[.slice cp cn cc, .int .i64 m.globals, .slice fp fn fc]] w fun e w' => VmP m w w' e := by
  have HM : Hid (Mo w cp cn cc fp fn fc m) := hM
  have HCL : Hid (m.consts.length = cn) := hM.cs.len
  have HFL : Hid (m.funcs.length = fn) := hM.fs.len
  have hcn := hF.hcn
  have hfn := hF.hfn
  have HF : Hid (Fits cn fn m) := hF
  clear hM hF
  obtain ⟨g, hg⟩ : ∃ g, m.globals = g := ⟨_, rfl⟩
  have HG : Hid (m.globals = g) := hg
  rw [hg]
  have HX0 : Hid (B3 (w.alloc (.cells #[.slice cp cn cc, .int .i64 g, .slice fp fn fc] 33)) w.heap.size (.slice cp cn cc) (.int .i64 m.globals) (.slice fp fn fc)) := by unfold Hid; rw [hg]; exact B3.new w _ _ _ _
  clear hg
  by_cases a1 : fn < 1
  · have HN : Hid (¬ GoodM m) := fun h => by have := h.f1; rw [HFL.out] at this; omega
    have d1 : decide ((fn : Int) < 1) = true := decide_eq_true (by omega)
    go_enter Tryz.func15, Tryz.ntmps15
    go_wp2
    go_ret
    exact VmP.no HN.out (below1 _ _)
  have d1 : decide ((fn : Int) < 1) = false := decide_eq_false (by omega)
  by_cases a2 : 200 < fn
  · have HN : Hid (¬ GoodM m) := fun h => by have := h.f2; rw [HFL.out] at this; omega
    have d2 : decide ((200 : Int) < (fn : Int)) = true := decide_eq_true (by omega)
    go_enter Tryz.func15, Tryz.ntmps15
    go_wp2
    go_ret
    exact VmP.no HN.out (below1 _ _)
  have d2 : decide ((200 : Int) < (fn : Int)) = false := decide_eq_false (by omega)
  by_cases a3 : 500 < cn
  · have HN : Hid (¬ GoodM m) := fun h => by have := h.cs.few; rw [HCL.out] at this; omega
    have d3 : decide ((500 : Int) < (cn : Int)) = true := decide_eq_true (by omega)
    go_enter Tryz.func15, Tryz.ntmps15
    go_wp2
    go_ret
    exact VmP.no HN.out (below1 _ _)
  have d3 : decide ((500 : Int) < (cn : Int)) = false := decide_eq_false (by omega)
  by_cases a4 : g < 0
  · have HN : Hid (¬ GoodM m) := fun h => by have := h.g0; rw [HG.out] at this; omega
    have d4 : decide (g < 0) = true := decide_eq_true (by omega)
    go_enter Tryz.func15, Tryz.ntmps15
    go_wp2
    go_ret
    exact VmP.no HN.out (below1 _ _)
  have d4 : decide (g < 0) = false := decide_eq_false (by omega)
  by_cases a5 : 200 < g
  · have HN : Hid (¬ GoodM m) := fun h => by have := h.g1; rw [HG.out] at this; omega
    have d5 : decide (200 < g) = true := decide_eq_true (by omega)
    go_enter Tryz.func15, Tryz.ntmps15
    go_wp2
    go_ret
    exact VmP.no HN.out (below1 _ _)
  have d5 : decide (200 < g) = false := decide_eq_false (by omega)
  go_enter Tryz.func15, Tryz.ntmps15
  go_wp2
  clear d1 d2 d3 d4 d5
  go_loopw [3, 4] (fun dv iv wr => SpC m w cp cn cc fp fn fc dv iv wr) (fun _ iv _ => cn - (intOf iv).toNat)
  case atStart => exact ⟨0, 0, Nat.zero_le _, Nat.zero_le _, rfl, rfl, rfl, fun j hj => absurd hj (Nat.not_lt_zero j), HX0, below1 _ _⟩
  case round =>
    obtain ⟨i, s, hi, hs, rfl, rfl, hsum, hone, hX, hB⟩ := hrel
    have x0 := hX.out.c0
    have x2 := hX.out.c2
    by_cases hlt : i < cn
    · obtain ⟨b, o, rfl, hbl, gg⟩ := (HM.out.cs.below hB.out).cells (by omega)
      obtain ⟨q, k, d, e0, he⟩ := gg i hlt
      have hk : k ≤ 1048576 := by have := (HF.out.cs i hlt).1; rw [he.len] at this; omega
      have HDA : Hid (Da wr q k d (m.consts.getD i [])) := he
      have HKL : Hid ((m.consts.getD i []).length = k) := he.len
      have HSUC : Hid (cSum m.consts (i + 1) = s + k) := by unfold Hid; rw [cSum_succ _ _ (by rw [HCL.out]; exact hlt), ← hsum.out, HKL.out]
      clear gg he
      by_cases hbig : 3000 < s + k
      · have HN : Hid (¬ GoodM m) := fun h => by
          have h1 := h.cs.sum
          have h2 := cSum_le m.consts (i + 1) (by rw [HCL.out]; omega)
          rw [HSUC.out] at h2; omega
        have d1 : decide ((3000 : Int) < (s : Int) + (k : Int)) = true := decide_eq_true (by omega)
        go_wp2
        go_ret
        exact VmP.no HN.out hB.out
      · have d1 : decide ((3000 : Int) < (s : Int) + (k : Int)) = false := decide_eq_false (by omega)
        have HVR : Hid (validB (m.consts.getD i []) = rowOf (m.consts.getD i [])) := validB_row (by rw [HKL.out]; omega)
        obtain ⟨vb, hvb⟩ : ∃ vb, validB (m.consts.getD i []) = vb := ⟨_, rfl⟩
        go_wp2_with fail
        refine (valid6 q k d _ _ HDA.out).mono ?_
        rintro e w1 ⟨rfl, hb1⟩
        rw [hvb]
        have HB1 : Hid (Below w.heap.size w w1) := hB.out.trans (hb1.mono hB.out.size)
        have HX1 : Hid (B3 w1 w.heap.size (.slice (some ⟨b, o, none⟩) cn cc) (.int .i64 m.globals) (.slice fp fn fc)) := hX.out.below hb1
        have HDA1 : Hid (Da w1 q k d (m.consts.getD i [])) := HDA.out.below hb1
        have e1 := hb1.cell (p := ⟨b, o + i, none⟩) hbl
        rw [e0] at e1
        have y0 := HX1.out.c0
        clear hb1 x0 x2 e0
        cases vb
        · have HN : Hid (¬ GoodM m) := fun h => by
            have h1 := oneB_row (h.cs.one i (by rw [HCL.out]; exact hlt))
            rw [← HVR.out, hvb] at h1; cases h1
          go_wp2
          go_ret
          exact VmP.no HN.out HB1.out
        · have HRO : Hid (rowOf (m.consts.getD i []) = true) := by unfold Hid; rw [← HVR.out]; exact hvb
          go_wp2_with fail
          refine (formsN q k d _ _ HDA1.out (by omega) HRO.out).mono ?_
          rintro e w2 ⟨q2, k2, d2, rfl, hk2, hone2, hb2⟩
          have HB2 : Hid (Below w.heap.size w w2) := HB1.out.trans (hb2.mono HB1.out.size)
          have HX2 : Hid (B3 w2 w.heap.size (.slice (some ⟨b, o, none⟩) cn cc) (.int .i64 m.globals) (.slice fp fn fc)) := HX1.out.below hb2
          have HON : Hid (k2 = 1 ↔ oneB (m.consts.getD i []) = true) := hone2
          clear hb2 hone2 y0 e1
          by_cases hk1 : k2 = 1
          · subst hk1
            go_wp2
            refine ⟨⟨i + 1, s + k, by omega, by omega, by go_num, by go_num, HSUC.out.symm, fun j hj => ?_, HX2, HB2⟩, by simp [intOf]; omega⟩
            by_cases e : j < i
            · exact hone.out j e
            · rw [show j = i by omega]; first | exact HON.out.1 rfl | exact HON.out.1 trivial
          · have d2' : ((k2 : Int) != 1) = true := by simp; omega
            have HN : Hid (¬ GoodM m) := fun h => hk1 (HON.out.2 (h.cs.one i (by rw [HCL.out]; exact hlt)))
            go_wp2
            go_ret
            exact VmP.no HN.out HB2.out
    · obtain rfl : i = cn := by omega
      have HCS : Hid (CsOk m.consts) := ⟨by rw [HCL.out]; omega, fun j hj => hone.out j (by rw [← HCL.out]; exact hj), by rw [HCL.out, ← hsum.out]; exact hs⟩
      go_wp2
      clear hsum hone
      go_loopw [5, 6] (fun dv iv wr => SpF m w cp i cc fp fn fc dv iv wr) (fun _ iv _ => fn - (intOf iv).toNat)
      case atStart => exact ⟨0, 0, Nat.zero_le _, Nat.zero_le _, rfl, rfl, rfl, fun j hj => absurd hj (Nat.not_lt_zero j), hX, hB⟩
      case round =>
        clear hX hB x0 x2
        obtain ⟨j, t, hj, ht, rfl, rfl, hsum, hfns, hX, hB⟩ := hrel
        have x2 := hX.out.c2
        by_cases hlt2 : j < fn
        · obtain ⟨b, o, rfl, hbl, gg⟩ := (HM.out.fs.below hB.out).cells (by omega)
          obtain ⟨rp, rl, rc, dp, dl, dc, he⟩ := gg j hlt2
          have e0 := he.c0
          have e1 := he.c1
          have e2 := he.c2
          have HRL : Hid ((m.funcs.getD j fn0).free.length = rl) := he.free.len
          have HDL : Hid ((m.funcs.getD j fn0).code.length = dl) := he.code.len
          have hrl : rl ≤ 1048576 := by have := (HF.out.fs j hlt2).1; rw [HRL.out] at this; omega
          have hdl : dl ≤ 1048576 := by have := (HF.out.fs j hlt2).2; rw [HDL.out] at this; omega
          have HSUC : Hid (fSum m.funcs (j + 1) = t + dl) := by unfold Hid; rw [fSum_succ _ _ (by rw [HFL.out]; exact hlt2), ← hsum.out, HDL.out]
          have HFNB : Hid (GoodM m → FnOk (m.funcs.getD j fn0) ∧ t + dl ≤ 5000) := fun h => ⟨h.sz.fn j (by rw [HFL.out]; exact hlt2), by
            have h1 := h.sz.sum
            have h2 := fSum_le m.funcs (j + 1) (by rw [HFL.out]; omega)
            rw [HSUC.out] at h2; omega⟩
          have HB1 : Hid (Below w.heap.size w (wr.alloc (.cells #[.int .i64 (m.funcs.getD j fn0).params, .slice rp rl rc, .slice dp dl dc] 48))) := hB.out.trans ((below1 _ _).mono hB.out.size)
          have HX1 : Hid (B3 (wr.alloc (.cells #[.int .i64 (m.funcs.getD j fn0).params, .slice rp rl rc, .slice dp dl dc] 48)) w.heap.size (.slice cp i cc) (.int .i64 m.globals) (.slice (some ⟨b, o, none⟩) fn fc)) := hX.out.below (below1 _ _)
          clear gg he
          obtain ⟨pr, hpr⟩ : ∃ pr, (m.funcs.getD j fn0).params = pr := ⟨_, rfl⟩
          have HPR : Hid ((m.funcs.getD j fn0).params = pr) := hpr
          rw [hpr] at e0 HB1 HX1
          clear hpr
          by_cases c1 : pr < 0
          · have HN : Hid (¬ GoodM m) := fun h => by have := (HFNB.out h).1.p0; rw [HPR.out] at this; omega
            have d1 : decide (pr < 0) = true := decide_eq_true c1
            go_wp2
            go_ret
            exact VmP.no HN.out HB1.out
          have d1 : decide (pr < 0) = false := decide_eq_false c1
          by_cases c2 : 20 < pr
          · have HN : Hid (¬ GoodM m) := fun h => by have := (HFNB.out h).1.p1; rw [HPR.out] at this; omega
            have d2 : decide (20 < pr) = true := decide_eq_true c2
            go_wp2
            go_ret
            exact VmP.no HN.out HB1.out
          have d2 : decide (20 < pr) = false := decide_eq_false c2
          by_cases c3 : 50 < rl
          · have HN : Hid (¬ GoodM m) := fun h => by have := (HFNB.out h).1.fr; rw [HRL.out] at this; omega
            have d3 : decide ((50 : Int) < (rl : Int)) = true := decide_eq_true (by omega)
            go_wp2
            go_ret
            exact VmP.no HN.out HB1.out
          have d3 : decide ((50 : Int) < (rl : Int)) = false := decide_eq_false (by omega)
          by_cases c4 : dl < 1
          · have HN : Hid (¬ GoodM m) := fun h => by have := (HFNB.out h).1.co; rw [HDL.out] at this; omega
            have d4 : decide ((dl : Int) < 1) = true := decide_eq_true (by omega)
            go_wp2
            go_ret
            exact VmP.no HN.out HB1.out
          have d4 : decide ((dl : Int) < 1) = false := decide_eq_false (by omega)
          by_cases c5 : 5000 < t + dl
          · have HN : Hid (¬ GoodM m) := fun h => by have := (HFNB.out h).2; omega
            have d5 : decide ((5000 : Int) < (t : Int) + (dl : Int)) = true := decide_eq_true (by omega)
            go_wp2
            go_ret
            exact VmP.no HN.out HB1.out
          have d5 : decide ((5000 : Int) < (t : Int) + (dl : Int)) = false := decide_eq_false (by omega)
          go_wp2
          refine ⟨⟨j + 1, t + dl, by omega, by omega, by go_num, by go_num, HSUC.out.symm, fun y hy => ?_, HX1, HB1⟩, by simp [intOf]; omega⟩
          by_cases e : y < j
          · exact hfns.out y e
          · rw [show y = j by omega]
            exact ⟨by rw [HPR.out]; omega, by rw [HPR.out]; omega, by rw [HRL.out]; omega, by rw [HDL.out]; omega⟩
        · obtain rfl : j = fn := by omega
          have HSZ : Hid (SzOk m.funcs) := ⟨fun y hy => hfns.out y (by rw [← HFL.out]; exact hy), by rw [HFL.out, ← hsum.out]; exact ht⟩
          obtain ⟨b, o, rfl, hbl, gg⟩ := (HM.out.fs.below hB.out).cells (by omega)
          obtain ⟨rp, rl, rc, dp, dl, dc, he⟩ := gg 0 (by omega)
          have e0 := he.c0
          have e1 := he.c1
          simp only [Nat.zero_mul, Nat.add_zero] at e0 e1
          have HRL : Hid ((m.funcs.getD 0 fn0).free.length = rl) := he.free.len
          have hrl : rl ≤ 1048576 := by have := (HF.out.fs 0 (by omega)).1; rw [HRL.out] at this; omega
          obtain ⟨pr, hpr⟩ : ∃ pr, (m.funcs.getD 0 fn0).params = pr := ⟨_, rfl⟩
          have HPR : Hid ((m.funcs.getD 0 fn0).params = pr) := hpr
          rw [hpr] at e0
          clear gg he hpr hsum hfns
          by_cases c1 : pr = 0
          · by_cases c2 : rl = 0
            · subst c1 c2
              go_wp2
              go_loopw [8] (fun iv wr => SpK m w cp i cc (some ⟨b, o, none⟩) j fc iv wr) (fun iv _ => j - (intOf iv).toNat)
              case atStart => exact ⟨0, Nat.zero_le _, rfl, fun y hy => absurd hy (Nat.not_lt_zero y), hX, hB⟩
              case round =>
                clear hX hB x2 e0 e1
                obtain ⟨i2, hi2, rfl, hcd, hX, hB⟩ := hrel
                have x2 := hX.out.c2
                by_cases hlt3 : i2 < j
                · obtain ⟨b3, o3, e3, hbl3, gg⟩ := (HM.out.fs.below hB.out).cells (by omega)
                  cases e3
                  obtain ⟨rp, rl, rc, dp, dl, dc, he⟩ := gg i2 hlt3
                  have e0 := he.c0
                  have e1 := he.c1
                  have e2 := he.c2
                  have HRL : Hid ((m.funcs.getD i2 fn0).free.length = rl) := he.free.len
                  have HDL : Hid ((m.funcs.getD i2 fn0).code.length = dl) := he.code.len
                  have HCO : Hid (Ii wr dp dl dc (m.funcs.getD i2 fn0).code) := he.code
                  have hdl : dl ≤ 1048576 := by have := (HF.out.fs i2 hlt3).2; rw [HDL.out] at this; omega
                  clear gg he
                  have HX1 : Hid (B3 (wr.alloc (.cells #[.int .i64 (m.funcs.getD i2 fn0).params, .slice rp rl rc, .slice dp dl dc] 48)) w.heap.size (.slice cp i cc) (.int .i64 m.globals) (.slice (some ⟨b, o, none⟩) j fc)) := hX.out.below (below1 _ _)
                  have HF1 : Hid (B3 (wr.alloc (.cells #[.int .i64 (m.funcs.getD i2 fn0).params, .slice rp rl rc, .slice dp dl dc] 48)) wr.heap.size (.int .i64 (m.funcs.getD i2 fn0).params) (.slice rp rl rc) (.slice dp dl dc)) := B3.new _ _ _ _ _
                  have HB1 : Hid (Below w.heap.size w (wr.alloc (.cells #[.int .i64 (m.funcs.getD i2 fn0).params, .slice rp rl rc, .slice dp dl dc] 48))) := hB.out.trans ((below1 _ _).mono hB.out.size)
                  have HBW : Hid (Below wr.heap.size wr (wr.alloc (.cells #[.int .i64 (m.funcs.getD i2 fn0).params, .slice rp rl rc, .slice dp dl dc] 48))) := below1 _ _
                  obtain ⟨f, hf⟩ : ∃ f, m.funcs.getD i2 fn0 = f := ⟨_, rfl⟩
                  have HFF : Hid (m.funcs.getD i2 fn0 = f) := hf
                  rw [hf] at e0 HRL HDL HCO HX1 HF1 HB1 HBW
                  clear hf
                  go_wp2
                  go_loopw [10] (fun kv wr2 => SpI m w cp i cc (some ⟨b, o, none⟩) j fc f wr.heap.size rp rl rc dp dl dc kv wr2 ∧ Hid (Below wr.heap.size wr wr2)) (fun kv _ => dl - (intOf kv).toNat)
                  case atStart => exact ⟨⟨0, Nat.zero_le _, rfl, fun y hy => absurd hy (Nat.not_lt_zero y), HX1, HF1, HB1⟩, HBW⟩
                  case round =>
                    clear HX1 HF1 HB1 HBW hX hB x2 e0 e1 e2
                    obtain ⟨⟨k, hk, rfl, hio, hX, hFB, hB⟩, hBW⟩ := hrel
                    have x0 := hX.out.c0
                    have x1 := hX.out.c1
                    have x2 := hX.out.c2
                    have f0 := hFB.out.c0
                    have f1 := hFB.out.c1
                    have f2 := hFB.out.c2
                    by_cases hlt4 : k < dl
                    · obtain ⟨b4, o4, rfl, hbl4, gg⟩ := (HCO.out.below hBW.out).cells (by omega)
                      obtain ⟨e0, e1, e2⟩ := gg k hlt4
                      clear gg
                      obtain ⟨x, hx⟩ : ∃ x, f.code.getD k in0 = x := ⟨_, rfl⟩
                      have HXX : Hid (f.code.getD k in0 = x) := hx
                      rw [hx] at e0 e1 e2
                      clear hx
                      have HIA : Hid (∀ w9, Below w.heap.size w w9 → InsAt w9 cp i cc m.globals (some ⟨b, o, none⟩) j fc rl dl m f) := fun w9 h9 => ⟨HM.out.below h9, rfl, HRL.out, HDL.out⟩
                      go_wp2
                      go_region_with (go_at_call 33; refine (l3insOK_c cp i cc m.globals (some ⟨b, o, none⟩) j fc f.params rp rl rc _ dl dc x m f _ (HIA.out _ (below_drewM hB.out))).mono ?_; rintro e w3 ⟨r, rfl, hr, hb3⟩; have HR3 : Hid (r = true ↔ InsOk m f x) := hr; have HB3 : Hid (Below wr.heap.size wr w3) := (below_drewM (Below.refl _ _)).trans hb3; clear hr hb3)
                      all_goals cases r
                      all_goals first
                        | (go_wp2; go_ret; exact VmP.no (fun h => by have := h.cd i2 (by rw [HFL.out]; exact hlt3) k (by rw [HFF.out, HDL.out]; exact hlt4); rw [HFF.out, HXX.out] at this; have := HR3.out.2 this; cases this) (hB.out.trans (HB3.out.mono hB.out.size)))
                        | (go_wp2; exact ⟨⟨⟨k + 1, by omega, by go_num, fun y hy => (by by_cases e : y < k; (exact hio.out y e); (rw [show y = k by omega, HXX.out]; exact HR3.out.1 rfl)), hX.out.below HB3.out, hFB.out.below HB3.out, hB.out.trans (HB3.out.mono hB.out.size)⟩, hBW.out.trans (HB3.out.mono hBW.out.size)⟩, by simp [intOf]; omega⟩)
                    · obtain rfl : k = dl := by omega
                      go_wp2
                      refine ⟨⟨i2 + 1, by omega, by go_num, fun y hy z hz => ?_, hX, hB⟩, by simp [intOf]; omega⟩
                      by_cases e : y < i2
                      · exact hcd.out y e z hz
                      · obtain rfl : y = i2 := by omega
                        rw [HFF.out] at hz ⊢
                        rw [HDL.out] at hz
                        exact hio.out z hz
                · obtain rfl : i2 = j := by omega
                  go_wp2
                  go_ret
                  exact ⟨true, rfl, ⟨fun _ => ⟨by rw [HFL.out]; omega, by rw [HFL.out]; omega, by rw [HG.out]; omega, by rw [HG.out]; omega, HPR.out, HRL.out, HCS.out, HSZ.out, fun y hy => hcd.out y (by rw [← HFL.out]; exact hy)⟩, fun _ => rfl⟩, hB.out⟩
            · have HN : Hid (¬ GoodM m) := fun h => c2 (by have := h.fr; rw [HRL.out] at this; exact this)
              have d1 : (pr != 0) = false := by simp [c1]
              have d2 : ((rl : Int) != 0) = true := by simp; omega
              go_wp2
              go_ret
              exact VmP.no HN.out hB.out
          · have HN : Hid (¬ GoodM m) := fun h => c1 (by have := h.p0; rw [HPR.out] at this; exact this)
            have d1 : (pr != 0) = true := by simpa using c1
            go_wp2
            go_ret
            exact VmP.no HN.out hB.out
end Go.Proofs.YtdjdhjciealfhaaGreatDoor
