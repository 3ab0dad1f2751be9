import Derived.Test.YtbcanodijcglpaaDoorE9
import Derived.Test.YtbcanodijcglpaaDoorR3
import Derived.Test.YtbcanodijcglpaaDoorXe
namespace Go.Proofs.YtbcanodijcglpaaDoor
open Go.RowKit Ch1
/-- Both answer one text. -/
theorem out_of {w0 : World} {cp : Option Addr} {cn cc : Nat} {fp : Option Addr} {fn fc : Nat} (m : Md) (hM : Mo w0 cp cn cc fp fn fc m) : ∃ xs : List Int, Rg xs ∧ xs.length ≤ 200000000 ∧ ∀ w w' e, EmP m w w' e → ∃ v, e = .returned v ∧ Ow w' w.heap.size v xs ∧ Below w.heap.size w w' := by
  by_cases hg : GoodM m
  · refine ⟨imZ m, (bd_rg hM).app (leZ_rg _ _), by have := bd_len hg; unfold imZ; rw [List.length_append, leZ_len]; omega, fun w w' e h => ?_⟩
    obtain ⟨⟨hn, _⟩ | ⟨_, v, rfl, ho⟩, hb⟩ := h
    · exact absurd hg hn
    · exact ⟨v, rfl, ho, hb⟩
  · refine ⟨[], (fun x hx => by cases hx), by simp, fun w w' e h => ?_⟩
    obtain ⟨⟨_, rfl⟩ | ⟨hn, _⟩, hb⟩ := h
    · exact ⟨_, rfl, ⟨by simp, Or.inl ⟨rfl, rfl⟩⟩, hb⟩
    · exact absurd hn hg
set_option maxRecDepth 20000 in
set_option maxHeartbeats 16000000 in
theorem lawEncode (cp : Option Addr) (cn cc : Nat) (fp : Option Addr) (fn fc : Nat) (m : Md) (w : World) (hM : Mo w cp cn cc fp fn fc m) (hT : Tb w) :
    Calls Tryd.prog 3 #[.agg #[.slice cp cn cc, .int .i64 m.globals, .slice fp fn fc]] w fun e w' => e = .returned (.bool true) ∧ Below w.heap.size w w' := by
  obtain ⟨xs, hrg, hlen, hout⟩ := out_of m hM
  have HRG : Hid (Rg xs) := hrg
  have HOUT : Hid (∀ w w' e, EmP m w w' e → ∃ v, e = .returned v ∧ Ow w' w.heap.size v xs ∧ Below w.heap.size w w') := hout
  have HM : Hid (Mo w cp cn cc fp fn fc m) := hM
  have HT : Hid (∀ w', Below w.heap.size w w' → Tb w') := fun w' hb => hT.below hb
  have HBR : Hid (Rg (bdZ m)) := bd_rg hM
  clear hM hT hrg hout
  go_enter Tryd.func3, Tryd.ntmps3
  go_wp2_with fail
  refine (szModule_c cp cn cc fp fn fc m _ (HM.out.below (below1 _ _))).mono ?_
  rintro e w1 ⟨v, rfl, hv, hb1⟩
  have HB1 : Hid (Below w.heap.size w w1) := below_alloc hb1
  have HA1 : Hid (B3 w1 w.heap.size (.slice cp cn cc) (.int .i64 m.globals) (.slice fp fn fc)) := (B3.new w _ _ _ _).below hb1
  have HV : Hid (0 ≤ v → Fits cn fn m) := hv
  clear hv hb1
  have a0 := HA1.out.c0
  have a1 := HA1.out.c1
  have a2 := HA1.out.c2
  by_cases hneg : v < 0
  · go_wp2
    go_ret
    exact ⟨rfl, HB1.out⟩
  have HF : Hid (Fits cn fn m) := HV.out (by omega)
  have d1 : decide (v < 0) = false := decide_eq_false hneg
  go_wp2_with fail
  refine (toModule_c cp cn cc fp fn fc m _ (HM.out.below HB1.out) HF.out).mono ?_
  rintro e w2 ⟨tc, tf, rfl, hm2, hb2⟩
  have HM2 : Hid (Mo w2 (some ⟨tc, 0, none⟩) cn cn (some ⟨tf, 0, none⟩) fn fn m) := hm2
  have HA2 : Hid (B3 w2 w.heap.size (.slice cp cn cc) (.int .i64 m.globals) (.slice fp fn fc)) := HA1.out.below hb2
  have HB2 : Hid (Below w.heap.size w w2) := HB1.out.trans (hb2.mono HB1.out.size)
  clear hm2 hb2 a0 a1 a2 HA1 d1
  go_wp2_with fail
  refine (specEncode_c _ cn cn _ fn fn m _ HM2.out HF.out).mono ?_
  intro e w3 h3
  obtain ⟨sv, rfl, hso, hb3⟩ := HOUT.out _ _ _ h3
  obtain ⟨sp, sc, rfl, hsy, _, _⟩ := hso.wr HRG.out
  have HSY : Hid (By w3 sp xs.length sc xs) := hsy
  have HA3 : Hid (B3 w3 w.heap.size (.slice cp cn cc) (.int .i64 m.globals) (.slice fp fn fc)) := HA2.out.below hb3
  have HB3 : Hid (Below w.heap.size w w3) := HB2.out.trans (hb3.mono HB2.out.size)
  clear h3 hso hsy hb3 HA2 HM2
  have a0 := HA3.out.c0
  have a1 := HA3.out.c1
  have a2 := HA3.out.c2
  go_wp2_with fail
  refine (toModule_r cp cn cc fp fn fc m _ (HM.out.below HB3.out) HF.out).mono ?_
  rintro e w4 ⟨xc, xf, rfl, hm4, hrd, hrf, hxc, hxf, hb4⟩
  have HM4 : Hid (Mo w4 (some ⟨xc, 0, none⟩) cn cn (some ⟨xf, 0, none⟩) fn fn m) := hm4
  have HWD : Hid (WDD w4 w3.heap.size w4.heap.size xc cn) := (hrd.wdd HF.out.cs).lower hxc (Nat.le_refl _)
  have HWF : Hid (WF w4 w3.heap.size w4.heap.size xf fn) := (hrf.wf HF.out.fs).lower hxf (Nat.le_refl _)
  have HA4 : Hid (B3 w4 w.heap.size (.slice cp cn cc) (.int .i64 m.globals) (.slice fp fn fc)) := HA3.out.below hb4
  have HB34 : Hid (Below w3.heap.size w3 w4) := hb4
  have HB4 : Hid (Below w.heap.size w w4) := HB3.out.trans (hb4.mono HB3.out.size)
  have h34 := hb4.size
  have h03 := HB3.out.size
  clear hm4 hb4 hrd hrf hxc hxf a0 a1 a2
  go_wp2_with fail
  refine (implEncode_c _ cn cn _ fn fn m _ (HM4.out.below (below1 _ _)) HF.out (HT.out _ (HB4.out.trans ((below1 _ _).mono HB4.out.size))) HBR.out).mono ?_
  intro e w5 h5
  obtain ⟨gv, rfl, hgo, hb5⟩ := HOUT.out _ _ _ h5
  obtain ⟨gp, gc, rfl, hgy, hgw, hgb⟩ := hgo.wr HRG.out
  have HGY : Hid (By w5 gp xs.length gc xs) := hgy
  have HGW : Hid (Wr w5 w4.heap.size gp xs.length) := fun h0 => by
    obtain ⟨t, m', f, e1, e2, e3, e4⟩ := hgw h0
    exact ⟨t, m', f, e1, by simp at e2; omega, e3, e4⟩
  have HGB : Hid (∀ a, gp = some a → w4.heap.size ≤ a.block) := fun a ha => by have := hgb a ha; simp at this; omega
  have HB45 : Hid (Below w4.heap.size w4 w5) := below_alloc hb5
  have HX5 : Hid (B3 w5 w4.heap.size (.slice (some ⟨xc, 0, none⟩) cn cn) (.int .i64 m.globals) (.slice (some ⟨xf, 0, none⟩) fn fn)) := (B3.new w4 _ _ _ _).below hb5
  have HA5 : Hid (B3 w5 w.heap.size (.slice cp cn cc) (.int .i64 m.globals) (.slice fp fn fc)) := HA4.out.below HB45.out
  have HB35 : Hid (Below w3.heap.size w3 w5) := HB34.out.trans (HB45.out.mono HB34.out.size)
  clear h5 hgo hgy hgw hgb hb5 HA4
  go_wp2_with fail
  refine (eqByte32 gp sp xs.length gc sc xs _ HGY.out (HSY.out.below HB35.out)).mono ?_
  rintro e w6 ⟨rfl, q6, hw6⟩
  have HB56 : Hid (Below w5.heap.size w5 w6) := by rw [hw6]; exact below_drewN' (Below.refl _ _) q6
  clear hw6
  have HX6 : Hid (B3 w6 w4.heap.size (.slice (some ⟨xc, 0, none⟩) cn cn) (.int .i64 m.globals) (.slice (some ⟨xf, 0, none⟩) fn fn)) := HX5.out.below HB56.out
  have HA6 : Hid (B3 w6 w.heap.size (.slice cp cn cc) (.int .i64 m.globals) (.slice fp fn fc)) := HA5.out.below HB56.out
  have HB46 : Hid (Below w4.heap.size w4 w6) := HB45.out.trans (HB56.out.mono HB45.out.size)
  have HB6 : Hid (Below w.heap.size w w6) := HB4.out.trans (HB46.out.mono HB4.out.size)
  have HM6 : Hid (Mo w6 (some ⟨xc, 0, none⟩) cn cn (some ⟨xf, 0, none⟩) fn fn m) := HM4.out.below HB46.out
  clear HX5 HA5 HM4
  have a0 := HA6.out.c0
  have a1 := HA6.out.c1
  have a2 := HA6.out.c2
  have x0 := HX6.out.c0
  have x1 := HX6.out.c1
  have x2 := HX6.out.c2
  go_wp2_with fail
  go_cut [31] from 27 (fun v wc => v = .bool false ∧ Below w6.heap.size w6 wc)
  case first =>
    go_region_with (first | (go_at_call 6; refine (toModule_c cp cn cc fp fn fc m _ (HM.out.below (below_drewM HB6.out)) HF.out).mono ?_; rintro e w7 ⟨yc, yf, rfl, hm7, hb7⟩; have HB67 : Hid (Below w6.heap.size w6 w7) := (below_drewM (Below.refl _ _)).trans hb7; have HM7 : Hid (Mo w7 (some ⟨yc, 0, none⟩) cn cn (some ⟨yf, 0, none⟩) fn fn m) := hm7; have HMX : Hid (Mo w7 (some ⟨xc, 0, none⟩) cn cn (some ⟨xf, 0, none⟩) fn fn m) := HM6.out.below HB67.out; have z0 := (HX6.out.below HB67.out).c0; have z1 := (HX6.out.below HB67.out).c1; have z2 := (HX6.out.below HB67.out).c2; clear hm7 hb7) | (go_at_call 9; refine (eqModule_c _ _ cn cn cn _ _ fn fn fn m _ HMX.out HM7.out).mono ?_; rintro e w8 ⟨rfl, hb8⟩; have HB68 : Hid (Below w6.heap.size w6 w8) := HB67.out.trans (hb8.mono HB67.out.size); clear hb8))
    all_goals go_wp2_with fail
    all_goals go_meet
    all_goals exact ⟨rfl, HB68.out⟩
  case rest =>
    obtain ⟨rfl, hbc⟩ := hcut
    have HBC6 : Hid (Below w6.heap.size w6 wc) := hbc
    have HB5C : Hid (Below w5.heap.size w5 wc) := HB56.out.trans (hbc.mono HB56.out.size)
    have HB4C : Hid (Below w4.heap.size w4 wc) := HB45.out.trans (HB5C.out.mono HB45.out.size)
    have HAC : Hid (B3 wc w.heap.size (.slice cp cn cc) (.int .i64 m.globals) (.slice fp fn fc)) := HA6.out.below hbc
    have HXC : Hid (B3 wc w4.heap.size (.slice (some ⟨xc, 0, none⟩) cn cn) (.int .i64 m.globals) (.slice (some ⟨xf, 0, none⟩) fn fn)) := HX6.out.below hbc
    have h4c := HB4C.out.size
    clear hbc a0 a1 a2 x0 x1 x2 HX6 HA6 HM6
    have x0 := HXC.out.c0
    have x1 := HXC.out.c1
    have x2 := HXC.out.c2
    go_wp2_with fail
    refine (markModule_t xc cn xf fn w3.heap.size w4.heap.size m.globals _ (HWD.out.below HB4C.out) (HWF.out.below HB4C.out) HF.out.hcn HF.out.hfn h4c).mono ?_
    rintro e w9 ⟨z, rfl, hz, wm, hbm, hw9⟩
    have HGY9 : Hid (By w9 gp xs.length gc xs) := ((HGY.out.below HB5C.out).below hbm).within hw9 (fun a ha _ => Or.inr (HGB.out a ha))
    have HGW9 : Hid (Wr w9 w4.heap.size gp xs.length) := ((HGW.out.below HB5C.out).below hbm).within hw9 (Nat.le_refl _)
    have HB3C : Hid (Below w3.heap.size w3 wc) := HB34.out.trans (HB4C.out.mono HB34.out.size)
    have HB39 : Hid (Below w3.heap.size w3 w9) := (HB3C.out.trans (hbm.mono HB3C.out.size)).trans (hw9.below (Nat.le_refl _))
    clear hbm hw9 x0 x1 x2 HXC HAC
    have hzd : decide (z < 0) = false := by simp; omega
    go_wp2_with fail
    refine (eqByte32 gp sp xs.length gc sc xs _ HGY9.out (HSY.out.below HB39.out)).mono ?_
    rintro e w10 ⟨rfl, q10, hw10⟩
    have HB910 : Hid (Below w9.heap.size w9 w10) := by rw [hw10]; exact below_drewN' (Below.refl _ _) q10
    clear hw10
    have HB310 : Hid (Below w3.heap.size w3 w10) := HB39.out.trans (HB910.out.mono HB39.out.size)
    have HGW10 : Hid (Wr w10 w4.heap.size gp xs.length) := HGW9.out.below HB910.out
    go_wp2_with fail
    refine (markV gp xs.length gc w4.heap.size _ HGW10.out (by omega)).mono ?_
    rintro e w11 ⟨rfl, hh11, hb11⟩
    have HH11 : Hid (Held w11 gp xs.length) := hh11
    have HB311 : Hid (Below w3.heap.size w3 w11) := HB310.out.trans (hb11.mono HB34.out.size)
    clear hh11 hb11
    go_wp2_with fail
    refine (heldV gp xs.length gc _ HH11.out (by omega)).mono ?_
    rintro e w12 ⟨rfl, hw12⟩
    have hw12' := hw12.symm
    clear hw12
    subst hw12'
    have HB12 : Hid (Below w.heap.size w w11) := HB3.out.trans (HB311.out.mono HB3.out.size)
    have hq : decide ((1 : Int) + xs.length < 0) = false := by simp; omega
    have hq2 : ((1 : Int) + xs.length != 1 + xs.length) = false := by simp
    have HA11 := HA3.out.below HB311.out
    have a0 := HA11.c0
    have a1 := HA11.c1
    have a2 := HA11.c2
    clear HA11
    go_wp2_with fail
    refine (toModule_c cp cn cc fp fn fc m _ (HM.out.below HB12.out) HF.out).mono ?_
    rintro e w13 ⟨yc, yf, rfl, hm13, hb13⟩
    have HM13 : Hid (Mo w13 (some ⟨yc, 0, none⟩) cn cn (some ⟨yf, 0, none⟩) fn fn m) := hm13
    have HB13 : Hid (Below w.heap.size w w13) := HB12.out.trans (hb13.mono HB12.out.size)
    have HB313 : Hid (Below w3.heap.size w3 w13) := HB311.out.trans (hb13.mono HB311.out.size)
    clear hm13 hb13 a0 a1 a2
    go_wp2_with fail
    refine (implEncode_c _ cn cn _ fn fn m _ HM13.out HF.out (HT.out _ HB13.out) HBR.out).mono ?_
    intro e w14 h14
    obtain ⟨hv, rfl, hho, hb14⟩ := HOUT.out _ _ _ h14
    obtain ⟨hp, hc, rfl, hhy, _, _⟩ := hho.wr HRG.out
    have HHY : Hid (By w14 hp xs.length hc xs) := hhy
    have HB14 : Hid (Below w.heap.size w w14) := HB13.out.trans (hb14.mono HB13.out.size)
    have HB314 : Hid (Below w3.heap.size w3 w14) := HB313.out.trans (hb14.mono HB313.out.size)
    clear h14 hho hhy hb14
    go_wp2_with fail
    refine (eqByte32 hp sp xs.length hc sc xs _ HHY.out (HSY.out.below HB314.out)).mono ?_
    rintro e w15 ⟨rfl, q15, hw15⟩
    have HB15 : Hid (Below w.heap.size w w15) := by rw [hw15]; exact below_drewN' HB14.out q15
    clear hw15
    go_wp2
    go_ret
    exact ⟨rfl, HB15.out⟩
end Go.Proofs.YtbcanodijcglpaaDoor
