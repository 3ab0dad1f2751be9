import Derived.Test.YtlpibogllmlacaaDoorMf
namespace Go.Proofs.YtlpibogllmlacaaDoor
open Go.RowKit Ch1
set_option maxRecDepth 20000 in
set_option maxHeartbeats 8000000 in
theorem lawValidModule (cp : Option Addr) (cn cc : Nat) (fp : Option Addr) (fn fc : Nat) (m : Md) (w : World) (hM : Mo w cp cn cc fp fn fc m) (hT : Tb w) :
    Calls Tryd.prog 3 #[.agg #[.slice cp cn cc, .int .i64 m.globals, .slice fp fn fc]] w fun e w' => e = .returned (.bool true) ∧ Below w.heap.size w w' := by
  have HM : Hid (Mo w cp cn cc fp fn fc m) := hM
  have HT : Hid (Tb w) := hT
  clear hM hT
  go_enter Tryd.func3, Tryd.ntmps3
  go_wp2_with fail
  refine (szModule_c cp cn cc fp fn fc m _ (HM.out.below (below1 _ _))).mono ?_
  rintro e w1 ⟨v, rfl, hv, hb1⟩
  have HB1 : Hid (Below w.heap.size w w1) := below_alloc hb1
  have HA1 : Hid (B3 w1 w.heap.size (.slice cp cn cc) (.int .i64 m.globals) (.slice fp fn fc)) := (B3.new w _ _ _ _).below hb1
  have HV : Hid (0 ≤ v → Fits cn fn m) := hv
  clear hv hb1
  have a0 := HA1.out.c0
  have a1 := HA1.out.c1
  have a2 := HA1.out.c2
  by_cases hneg : v < 0
  · go_wp2
    go_ret
    exact ⟨rfl, HB1.out⟩
  have HF : Hid (Fits cn fn m) := HV.out (by omega)
  have d1 : decide (v < 0) = false := decide_eq_false hneg
  go_wp2_with fail
  refine (toModule_c cp cn cc fp fn fc m _ (HM.out.below HB1.out) HF.out).mono ?_
  rintro e w2 ⟨tc, tf, rfl, hm2, hb2⟩
  have HM2 : Hid (Mo w2 (some ⟨tc, 0, none⟩) cn cn (some ⟨tf, 0, none⟩) fn fn m) := hm2
  have HA2 : Hid (B3 w2 w.heap.size (.slice cp cn cc) (.int .i64 m.globals) (.slice fp fn fc)) := HA1.out.below hb2
  have HB2 : Hid (Below w.heap.size w w2) := HB1.out.trans (hb2.mono HB1.out.size)
  clear hm2 hb2 a0 a1 a2 HA1 d1
  go_wp2_with fail
  refine (specValidModule_c _ cn cn _ fn fn m _ HM2.out HF.out).mono ?_
  rintro e w3 ⟨b1, rfl, hg1, hb3⟩
  have HG1 : Hid (b1 = true ↔ GoodM m) := hg1
  have HA3 : Hid (B3 w3 w.heap.size (.slice cp cn cc) (.int .i64 m.globals) (.slice fp fn fc)) := HA2.out.below hb3
  have HB3 : Hid (Below w.heap.size w w3) := HB2.out.trans (hb3.mono HB2.out.size)
  clear hg1 hb3 HA2 HM2
  have a0 := HA3.out.c0
  have a1 := HA3.out.c1
  have a2 := HA3.out.c2
  go_wp2_with fail
  refine (toModule_c cp cn cc fp fn fc m _ (HM.out.below HB3.out) HF.out).mono ?_
  rintro e w4 ⟨xc, xf, rfl, hm4, hb4⟩
  have HM4 : Hid (Mo w4 (some ⟨xc, 0, none⟩) cn cn (some ⟨xf, 0, none⟩) fn fn m) := hm4
  have HA4 : Hid (B3 w4 w.heap.size (.slice cp cn cc) (.int .i64 m.globals) (.slice fp fn fc)) := HA3.out.below hb4
  have HB4 : Hid (Below w.heap.size w w4) := HB3.out.trans (hb4.mono HB3.out.size)
  clear hm4 hb4 a0 a1 a2 HA3
  go_wp2_with fail
  refine (implValidModule_c _ cn cn _ fn fn m _ (HM4.out.below (below1 _ _)) HF.out (HT.out.below (HB4.out.trans ((below1 _ _).mono HB4.out.size)))).mono ?_
  rintro e w5 ⟨b2, rfl, hg2, hb5⟩
  obtain rfl : b1 = b2 := by
    rw [Bool.eq_iff_iff, HG1.out, hg2]
  have HB45 : Hid (Below w4.heap.size w4 w5) := below_alloc hb5
  have HX5 : Hid (B3 w5 w4.heap.size (.slice (some ⟨xc, 0, none⟩) cn cn) (.int .i64 m.globals) (.slice (some ⟨xf, 0, none⟩) fn fn)) := (B3.new w4 _ _ _ _).below hb5
  have HA5 : Hid (B3 w5 w.heap.size (.slice cp cn cc) (.int .i64 m.globals) (.slice fp fn fc)) := HA4.out.below HB45.out
  have HM5 : Hid (Mo w5 (some ⟨xc, 0, none⟩) cn cn (some ⟨xf, 0, none⟩) fn fn m) := HM4.out.below HB45.out
  have HB5 : Hid (Below w.heap.size w w5) := HB4.out.trans (HB45.out.mono HB4.out.size)
  clear hg2 hb5 HA4 HM4 HG1
  have a0 := HA5.out.c0
  have a1 := HA5.out.c1
  have a2 := HA5.out.c2
  have x0 := HX5.out.c0
  have x1 := HX5.out.c1
  have x2 := HX5.out.c2
  cases b1
  all_goals
    go_wp2
    go_region_with (first | (go_at_call 6; refine (toModule_c cp cn cc fp fn fc m _ (HM.out.below (below_drewM HB5.out)) HF.out).mono ?_; rintro e w6 ⟨yc, yf, rfl, hm6, hb6⟩; have HB56 : Hid (Below w5.heap.size w5 w6) := (below_drewM (Below.refl _ _)).trans hb6; have HM6 : Hid (Mo w6 (some ⟨yc, 0, none⟩) cn cn (some ⟨yf, 0, none⟩) fn fn m) := hm6; have HMX : Hid (Mo w6 (some ⟨xc, 0, none⟩) cn cn (some ⟨xf, 0, none⟩) fn fn m) := HM5.out.below HB56.out; have z0 := (HX5.out.below HB56.out).c0; have z1 := (HX5.out.below HB56.out).c1; have z2 := (HX5.out.below HB56.out).c2; clear hm6 hb6) | (go_at_call 8; refine (eqModule_c _ _ cn cn cn _ _ fn fn fn m _ HMX.out HM6.out).mono ?_; rintro e w7 ⟨rfl, hb7⟩; have HB7 : Hid (Below w.heap.size w w7) := (HB5.out.trans (HB56.out.mono HB5.out.size)).trans (hb7.mono (Nat.le_trans HB5.out.size HB56.out.size)); clear hb7))
    all_goals go_wp2
    all_goals go_ret
    all_goals exact ⟨rfl, HB7.out⟩
end Go.Proofs.YtlpibogllmlacaaDoor
