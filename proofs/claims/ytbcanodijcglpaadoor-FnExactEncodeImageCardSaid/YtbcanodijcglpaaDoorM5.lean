import Derived.Test.YtbcanodijcglpaaDoorM4
namespace Go.Proofs.YtbcanodijcglpaaDoor
open Go.RowKit Ch1
theorem RowF.setLow {w : World} {g n k : Nat} {fs : List Fn} (h : RowF w g fs n k) {a : Addr} (ha : a.block < g) (v : Value) : RowF (w.setCell a v) g fs n k := by
  obtain ⟨f, tf, tc, hr, hc⟩ := h
  refine ⟨f, tf, tc, hr.of_block (Below.heap_setCell w a v g (by omega)), fun i hi => ?_⟩
  obtain ⟨h0, h1, h2, h3, h4, h5, h6⟩ := hc i hi
  exact ⟨h0, h1, h2, h3, h4, h5.setOther (fun y hy => by cases hy; simp; omega) v, h6.setOther (fun y hy => by cases hy; simp; omega) v⟩
theorem RowD.setLow {w : World} {g n k : Nat} {ls : List (List Dt)} (h : RowD w g ls n k) {a : Addr} (ha : a.block < g) (v : Value) : RowD (w.setCell a v) g ls n k := by
  obtain ⟨f, t, hr, hc⟩ := h
  refine ⟨f, t, hr.of_block (Below.heap_setCell w a v g (by omega)), fun i hi => ?_⟩
  obtain ⟨h0, h1, h2⟩ := hc i hi
  exact ⟨h0, h1, h2.setLow (by omega) v⟩
theorem Mo.fits {w : World} {cp : Option Addr} {cn cc : Nat} {fp : Option Addr} {fn fc : Nat} {m : Md} (h : Mo w cp cn cc fp fn fc m) (hf : Fits cn fn m) : ∀ i, i < cn → (m.consts.getD i []).length ≤ maxLen ∧ Cnts (m.consts.getD i []) := fun i hi => by
  obtain ⟨b, o, _, _, g⟩ := h.cs.cells (by omega)
  obtain ⟨q, k, d, _, he⟩ := g i hi
  exact ⟨by have := (hf.cs i hi).1; unfold maxLen; omega, he.cnts⟩
/-- What toModule leaves: rows of the call's own. -/
def ToMq (cn fn : Nat) (m : Md) (w w' : World) (e : Ending) : Prop := ∃ tc tf, e = .returned (.agg #[.slice (some ⟨tc, 0, none⟩) cn cn, .int .i64 m.globals, .slice (some ⟨tf, 0, none⟩) fn fn]) ∧ Mo w' (some ⟨tc, 0, none⟩) cn cn (some ⟨tf, 0, none⟩) fn fn m ∧ Below w.heap.size w w'
set_option maxHeartbeats 2000000 in
theorem toModule_c (cp : Option Addr) (cn cc : Nat) (fp : Option Addr) (fn fc : Nat) (m : Md) (w : World) (hM : Mo w cp cn cc fp fn fc m) (hF : Fits cn fn m) :
    Calls Tryd.prog 6 #[.agg #[.slice cp cn cc, .int .i64 m.globals, .slice fp fn fc]] w fun e w' => ToMq cn fn m w w' e := by
  have HM : Hid (Mo w cp cn cc fp fn fc m) := hM
  have HF : Hid (Fits cn fn m) := hF
  clear hM hF
  go_enter Tryd.func6, Tryd.ntmps6
  go_wp2_with fail
  refine (toDatumSS_c cp cn cc m.consts _ (by exact HM.out.cs.below (below3 w _ _ _)) HF.out.hcn HF.out.cs).mono ?_
  rintro e w1 ⟨rfl, _, hrd, hb1⟩
  have hz' : w.heap.size + 3 ≤ w1.heap.size := by have := hb1.size; simpa using this
  have HRD : Hid (RowD w1 (w.heap.size + 1 + 1 + 1) m.consts cn cn) := by unfold Hid; simpa using hrd
  have HBB : Hid (Below w.heap.size w w1) := (below3 w _ _ _).trans (hb1.mono (by simp; omega))
  have HX : Hid (B3 w1 (w.heap.size + 1 + 1) (.slice none 0 0) (.int .i64 0) (.slice none 0 0)) := by
    have := (B3.new ((w.alloc (.cells #[.slice cp cn cc, .int .i64 m.globals, .slice fp fn fc] 25)).alloc (.cells #[.slice none 0 0, .int .i64 0, .slice none 0 0] 32)) (.slice none 0 0) (.int .i64 0) (.slice none 0 0) 32).below hb1
    unfold Hid; simpa using this
  have HY : Hid (B3 w1 (w.heap.size + 1) (.slice none 0 0) (.int .i64 0) (.slice none 0 0)) := by
    have := ((B3.new (w.alloc (.cells #[.slice cp cn cc, .int .i64 m.globals, .slice fp fn fc] 25)) (.slice none 0 0) (.int .i64 0) (.slice none 0 0) 32).below (below1 _ _)).below hb1
    unfold Hid; simpa using this
  have HA : Hid (B3 w1 w.heap.size (.slice cp cn cc) (.int .i64 m.globals) (.slice fp fn fc)) := ((((B3.new w (.slice cp cn cc) (.int .i64 m.globals) (.slice fp fn fc) 25).below (below1 _ _)).below (below1 _ _)).below hb1)
  have x0 := HX.out.c0
  have x0f := HX.out.f0
  have x1 := HX.out.c1
  have x1f := HX.out.f1
  have a1 := HA.out.c1
  have a2 := HA.out.c2
  clear hrd hb1
  go_wp2_with fail
  have HX1 : Hid (B3 ((w1.setCell ⟨w.heap.size + 1 + 1, 0, none⟩ (.slice (some ⟨w.heap.size + 1 + 1 + 1, 0, none⟩) cn cn)).setCell ⟨w.heap.size + 1 + 1, 1, none⟩ (.int .i64 m.globals)) (w.heap.size + 1 + 1) (.slice (some ⟨w.heap.size + 1 + 1 + 1, 0, none⟩) cn cn) (.int .i64 m.globals) (.slice none 0 0)) := (HX.out.set0 _).set1 _
  have HY1 : Hid (B3 ((w1.setCell ⟨w.heap.size + 1 + 1, 0, none⟩ (.slice (some ⟨w.heap.size + 1 + 1 + 1, 0, none⟩) cn cn)).setCell ⟨w.heap.size + 1 + 1, 1, none⟩ (.int .i64 m.globals)) (w.heap.size + 1) (.slice none 0 0) (.int .i64 0) (.slice none 0 0)) := (HY.out.other (by simp) _).other (by simp) _
  have HBB1 : Hid (Below w.heap.size w ((w1.setCell ⟨w.heap.size + 1 + 1, 0, none⟩ (.slice (some ⟨w.heap.size + 1 + 1 + 1, 0, none⟩) cn cn)).setCell ⟨w.heap.size + 1 + 1, 1, none⟩ (.int .i64 m.globals))) := (HBB.out.setCell (by simp; omega) _).setCell (by simp; omega) _
  have HRD1 : Hid (RowD ((w1.setCell ⟨w.heap.size + 1 + 1, 0, none⟩ (.slice (some ⟨w.heap.size + 1 + 1 + 1, 0, none⟩) cn cn)).setCell ⟨w.heap.size + 1 + 1, 1, none⟩ (.int .i64 m.globals)) (w.heap.size + 1 + 1 + 1) m.consts cn cn) := (HRD.out.setLow (by simp) _).setLow (by simp) _
  have hsz1 : w.heap.size + 3 ≤ ((w1.setCell ⟨w.heap.size + 1 + 1, 0, none⟩ (.slice (some ⟨w.heap.size + 1 + 1 + 1, 0, none⟩) cn cn)).setCell ⟨w.heap.size + 1 + 1, 1, none⟩ (.int .i64 m.globals)).heap.size := by simpa [World.setCell] using hz'
  clear x0 x0f x1 x1f a1 a2 HX HY HA HBB HRD hz'
  refine (toFuncS_c fp fn fc m.funcs _ (by exact HM.out.fs.below HBB1.out) HF.out.hfn HF.out.fs).mono ?_
  generalize (w1.setCell ⟨w.heap.size + 1 + 1, 0, none⟩ (.slice (some ⟨w.heap.size + 1 + 1 + 1, 0, none⟩) cn cn)).setCell ⟨w.heap.size + 1 + 1, 1, none⟩ (.int .i64 m.globals) = w1' at HX1 HY1 HBB1 HRD1 hsz1
  rintro e w2 ⟨rfl, _, hrf, hb2⟩
  have HRF : Hid (RowF w2 w1'.heap.size m.funcs fn fn) := hrf
  have HRD2 : Hid (RowD w2 (w.heap.size + 1 + 1 + 1) m.consts cn cn) := HRD1.out.below hb2
  have HX2 : Hid (B3 w2 (w.heap.size + 1 + 1) (.slice (some ⟨w.heap.size + 1 + 1 + 1, 0, none⟩) cn cn) (.int .i64 m.globals) (.slice none 0 0)) := HX1.out.below hb2
  have HY2 : Hid (B3 w2 (w.heap.size + 1) (.slice none 0 0) (.int .i64 0) (.slice none 0 0)) := HY1.out.below hb2
  have HBB2 : Hid (Below w.heap.size w w2) := HBB1.out.trans (hb2.mono HBB1.out.size)
  have x0 := HX2.out.c0
  have x1 := HX2.out.c1
  have x2 := HX2.out.c2
  have x2f := HX2.out.f2
  have y0 := HY2.out.c0
  have y1 := HY2.out.c1
  have y2 := HY2.out.c2
  have y0f := HY2.out.f0
  have y1f := HY2.out.f1
  have y2f := HY2.out.f2
  clear hrf hb2 HX1 HY1 HRD1 HBB1
  go_wp2
  refine bodyPost_ret (v := .agg #[.slice (some ⟨w.heap.size + 1 + 1 + 1, 0, none⟩) cn cn, .int .i64 m.globals, .slice (some ⟨w1'.heap.size, 0, none⟩) fn fn]) (by simp [results, Tryd.results6, go_sem, y0, y1, y2]) rfl ⟨_, _, rfl, ⟨?_, ?_⟩, ?_⟩
  · exact (((((HRD2.out.setLow (by simp) _).setLow (by simp) _).setLow (by simp) _).setLow (by simp) _)).dd HM.out.cs.len (by have := HF.out.hcn; unfold maxLen; omega) (HM.out.fits HF.out)
  · exact (((((HRF.out.setLow (by simp; omega) _).setLow (by simp; omega) _).setLow (by simp; omega) _).setLow (by simp; omega) _)).fu HM.out.fs.len (by have := HF.out.hfn; unfold maxLen; omega)
  · exact (((HBB2.out.setCell (by simp; omega) _).setCell (by simp) _).setCell (by simp) _).setCell (by simp) _
/-! ### equality, at equal things -/
set_option maxHeartbeats 400000 in
theorem eqBoolS_c (p1 p2 : Option Addr) (n c1 c2 : Nat) (xs : List Bool) (w : World) (h1 : Bo w p1 n c1 xs) (h2 : Bo w p2 n c2 xs) :
    Calls Tryd.prog 60 #[.slice p1 n c1, .slice p2 n c2] w fun e w' => e = .returned (.bool true) ∧ ∃ q, w' = w.drewN q := by
  have hbig := small_of h1.cap h1.big
  have HC1 : Hid (Bo w p1 n c1 xs) := h1
  have HC2 : Hid (Bo w p2 n c2 xs) := h2
  clear h1 h2
  go_enter Tryd.func60, Tryd.ntmps60
  go_wp2
  go_loopw [5] (fun i wr => ∃ k q : Nat, k ≤ n ∧ i = .int .i64 k ∧ wr = w.drewN q) (fun i _ => n - (intOf i).toNat)
  case atStart => exact ⟨0, 0, Nat.zero_le _, rfl, rfl⟩
  case round =>
    obtain ⟨k, q, hk, rfl, rfl⟩ := hrel
    by_cases hlt : k < n
    · obtain ⟨b1, o1, rfl, _, g1⟩ := HC1.out.cells (by omega)
      obtain ⟨b2, o2, rfl, _, g2⟩ := HC2.out.cells (by omega)
      have g1 := g1 k hlt
      have g2 := g2 k hlt
      generalize xs.getD k false = x at g1 g2
      go_wp2
      go_quiet (fail)
      cases x
      all_goals go_wp2
      all_goals exact ⟨⟨k + 1, q + nq, by omega, by go_num, rfl⟩, by simp [intOf]; omega⟩
    · go_wp2
      go_ret
      exact ⟨rfl, q, rfl⟩
set_option maxHeartbeats 400000 in
theorem eqIns_c (x y z : Int) (w : World) :
    Calls Tryd.prog 68 #[.agg #[.int .i64 x, .int .i64 y, .int .i64 z], .agg #[.int .i64 x, .int .i64 y, .int .i64 z]] w fun e w' => e = .returned (.bool true) ∧ Below w.heap.size w w' := by
  go_enter Tryd.func68, Tryd.ntmps68
  go_wp2
  go_ret
  exact ⟨rfl, below2 w _ _⟩
set_option maxHeartbeats 1000000 in
theorem eqInsS_c (p1 p2 : Option Addr) (n c1 c2 : Nat) (xs : List In) (w : World) (h1 : Ii w p1 n c1 xs) (h2 : Ii w p2 n c2 xs) :
    Calls Tryd.prog 61 #[.slice p1 n c1, .slice p2 n c2] w fun e w' => e = .returned (.bool true) ∧ Below w.heap.size w w' := by
  have hbig := small_of h1.cap h1.big
  have H1 : Hid (Ii w p1 n c1 xs) := h1
  have H2 : Hid (Ii w p2 n c2 xs) := h2
  clear h1 h2
  go_enter Tryd.func61, Tryd.ntmps61
  go_wp2
  go_loopw [5] (fun i wr => ∃ k : Nat, k ≤ n ∧ i = .int .i64 k ∧ Hid (Below w.heap.size w wr)) (fun i _ => n - (intOf i).toNat)
  case atStart => exact ⟨0, Nat.zero_le _, rfl, Below.refl _ _⟩
  case round =>
    obtain ⟨k, hk, rfl, hb⟩ := hrel
    by_cases hlt : k < n
    · obtain ⟨b, o, rfl, hbl, g⟩ := (H1.out.below hb.out).cells (by omega)
      obtain ⟨e0, e1, e2⟩ := g k hlt
      obtain ⟨b', o', rfl, hbl', g'⟩ := (H2.out.below hb.out).cells (by omega)
      obtain ⟨f0, f1, f2⟩ := g' k hlt
      clear g g'
      generalize xs.getD k in0 = d at e0 e1 e2 f0 f1 f2
      go_wp2
      go_region_with (go_at_call 68; refine (eqIns_c _ _ _ _).mono ?_; rintro e w1 ⟨rfl, hb1⟩)
      all_goals
        go_wp2
        exact ⟨⟨k + 1, by omega, by go_num, hb.out.trans ((Below.refl _ wr).drew.trans (hb1.mono hb.out.size))⟩, by simp [intOf]; omega⟩
    · go_wp2
      go_ret
      exact ⟨rfl, hb.out⟩
set_option maxHeartbeats 1000000 in
theorem eqFunc_c (k : Int) (fp fp' : Option Addr) (fl fc fc' : Nat) (cp cp' : Option Addr) (cl cc cc' : Nat) (bs : List Bool) (xs : List In) (w : World) (h1 : Bo w fp fl fc bs) (h2 : Bo w fp' fl fc' bs) (h3 : Ii w cp cl cc xs) (h4 : Ii w cp' cl cc' xs) :
    Calls Tryd.prog 44 #[.agg #[.int .i64 k, .slice fp fl fc, .slice cp cl cc], .agg #[.int .i64 k, .slice fp' fl fc', .slice cp' cl cc']] w fun e w' => e = .returned (.bool true) ∧ Below w.heap.size w w' := by
  have H1 : Hid (Bo w fp fl fc bs) := h1
  have H2 : Hid (Bo w fp' fl fc' bs) := h2
  have H3 : Hid (Ii w cp cl cc xs) := h3
  have H4 : Hid (Ii w cp' cl cc' xs) := h4
  clear h1 h2 h3 h4
  go_enter Tryd.func44, Tryd.ntmps44
  go_wp2_with (first | (go_at_call 60; refine (eqBoolS_c _ _ _ _ _ bs _ (by exact H1.out.below (below2 w _ _)) (by exact H2.out.below (below2 w _ _))).mono ?_; rintro e w1 ⟨rfl, q, hw1⟩; have hw2 := hw1.symm; clear hw1; subst hw2) | (go_at_call 61; refine (eqInsS_c _ _ _ _ _ xs _ (by exact H3.out.below (below_drewN' (below2 w _ _) q)) (by exact H4.out.below (below_drewN' (below2 w _ _) q))).mono ?_; rintro e w3 ⟨rfl, hb3⟩))
  go_ret
  exact ⟨rfl, (below_drewN' (below2 w _ _) q).trans (hb3.mono (by simp; omega))⟩
end Go.Proofs.YtbcanodijcglpaaDoor
