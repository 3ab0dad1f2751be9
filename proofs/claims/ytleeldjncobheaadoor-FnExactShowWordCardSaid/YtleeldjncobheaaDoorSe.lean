import Derived.Test.YtleeldjncobheaaDoorSc
import Derived.Test.YtleeldjncobheaaDoorSd
import Derived.Test.YtleeldjncobheaaDoorH2
namespace Go.Proofs.YtleeldjncobheaaDoor
open Go.RowKit Ch1 Ch2s
/-- A struct of two cells in block k. -/
def B2 (w : World) (k : Nat) (a b : Value) : Prop := ∃ t, w.heap[k]? = some (.cells #[a, b] t)
theorem B2.c0 {w : World} {k : Nat} {a b : Value} (h : B2 w k a b) : w.cell? ⟨k, 0, none⟩ = some a := by obtain ⟨t, e⟩ := h; simp [World.cell?, e]
theorem B2.c1 {w : World} {k : Nat} {a b : Value} (h : B2 w k a b) : w.cell? ⟨k, 1, none⟩ = some b := by obtain ⟨t, e⟩ := h; simp [World.cell?, e]
theorem B2.lt {w : World} {k : Nat} {a b : Value} (h : B2 w k a b) : k < w.heap.size := by obtain ⟨t, e⟩ := h; exact (Array.getElem?_eq_some_iff.1 e).1
theorem B2.below {w w' : World} {k : Nat} {a b : Value} (h : B2 w k a b) (hb : Below w.heap.size w w') : B2 w' k a b := by
  have hlt := h.lt
  obtain ⟨t, e⟩ := h
  exact ⟨t, (hb.block k hlt).trans e⟩
theorem B2.within {w w' : World} {k lo hi : Nat} {a b : Value} (h : B2 w k a b) (hw : Within lo hi w w') (hk : k < lo ∨ hi ≤ k) : B2 w' k a b := by
  obtain ⟨t, e⟩ := h
  exact ⟨t, (hw.block k hk).trans e⟩
theorem B2.new (w : World) (a b : Value) (t : TypeId) : B2 (w.alloc (.cells #[a, b] t)) w.heap.size a b := ⟨t, Go.Deep.blk_alloc_new _ _⟩
/-- Both answer one text. -/
theorem sout_of {w0 : World} {np : Option Addr} {nn nc : Nat} (ns : List (List Int)) (ws : List Int) (top x : Int) (hN : Nm w0 np nn nc ns) : ∃ xs : List Int, Rg xs ∧ xs.length ≤ 1000 ∧ ∀ w w' e, SwP ns ws top x w w' e → ∃ v, e = .returned v ∧ Ow w' w.heap.size v xs ∧ Below w.heap.size w w' := by
  by_cases hg : Hp.Ch2.GoodR ws top [x]
  · refine ⟨swZ ns ws x, ?_, by rw [swZ_eq, List.length_take]; omega, fun w w' e h => ?_⟩
    · rw [swZ_eq]
      exact fun y hy => shS_rg _ _ _ _ (leaf_rg hN.rg) _ _ _ (fun y hy => by cases hy) y (List.mem_of_mem_take hy)
    · obtain ⟨v, he, ⟨_, ho⟩ | ⟨hn, _⟩, hb⟩ := h
      · exact ⟨v, he, ho, hb⟩
      · exact absurd hg hn
  · refine ⟨[], (fun x hx => by cases hx), by simp, fun w w' e h => ?_⟩
    obtain ⟨v, he, ⟨hn, _⟩ | ⟨_, rfl⟩, hb⟩ := h
    · exact absurd hn hg
    · exact ⟨_, he, ⟨by simp, Or.inl ⟨rfl, rfl⟩⟩, hb⟩
set_option maxRecDepth 20000 in
set_option maxHeartbeats 16000000 in
theorem lawShowWord (p : Option Addr) (n c : Nat) (top x : Int) (ws : List Int) (np : Option Addr) (nn nc : Nat) (ns : List (List Int)) (w : World) (hI : Hp.Is w p n c ws) (ht0 : -9223372036854775808 ≤ top) (ht1 : top ≤ 9223372036854775807) (hx : -9223372036854775808 ≤ x ∧ x ≤ 9223372036854775807) (hN : Nm w np nn nc ns) (hT : Tab w) :
    Calls Tryd.prog 4 #[.agg #[.slice p n c, .int .i64 top], .int .i64 x, .slice np nn nc] w fun e w' => e = .returned (.bool true) ∧ Below w.heap.size w w' := by
  obtain ⟨xs, hrg, hlen, hout⟩ := sout_of ns ws top x hN
  have HRG : Hid (Rg xs) := hrg
  have HOUT : Hid (∀ w w' e, SwP ns ws top x w w' e → ∃ v, e = .returned v ∧ Ow w' w.heap.size v xs ∧ Below w.heap.size w w') := hout
  have HI : Hid (Hp.Is w p n c ws) := hI
  have HN : Hid (Nm w np nn nc ns) := hN
  have HX : Hid (-9223372036854775808 ≤ x ∧ x ≤ 9223372036854775807) := hx
  have HT : Hid (∀ w', Below w.heap.size w w' → Tab w') := fun w' hb => fun y hy => hT y (hb.trans (hy.mono hb.size))
  have hns := hI.small.1
  clear hI hN hx hT hrg hout
  go_enter Tryd.func4, Tryd.ntmps4
  go_wp2_with fail
  refine (Hp.szHeap_c p n c top 1048576 _ hns (by omega) (by omega)).mono ?_
  rintro e w1 ⟨rfl, hb1⟩
  have HB1 : Hid (Below w.heap.size w w1) := below_allocS hb1
  have HA1 : Hid (B2 w1 w.heap.size (.slice p n c) (.int .i64 top)) := (B2.new w _ _ _).below hb1
  clear hb1
  have hsz : (Hp.szOf 1048576 n = -1 ∧ ¬ n ≤ 1048576) ∨ (Hp.szOf 1048576 n = 1048576 - n ∧ n ≤ 1048576) := by
    unfold Hp.szOf
    by_cases h : (1048576 : Int) - n < 0
    · exact Or.inl ⟨if_pos h, by omega⟩
    · exact Or.inr ⟨if_neg h, by omega⟩
  rcases hsz with ⟨e1, _⟩ | ⟨e1, hn⟩
  · rw [e1]
    go_wp2
    go_ret
    exact ⟨rfl, HB1.out⟩
  rw [e1]
  clear e1
  obtain ⟨l1, hl1⟩ : ∃ l1 : Int, l1 = 1048576 - (n : Int) := ⟨_, rfl⟩
  rw [← hl1]
  have hl10 : 0 ≤ l1 := by omega
  have hl11 : l1 ≤ 1048576 := by omega
  have hl12 : decide (l1 < 0) = false := decide_eq_false (by omega)
  clear hl1
  go_wp2_with fail
  refine (szByteSS_c np nn nc ns l1 _ (HN.out.below HB1.out) hl10 hl11).mono ?_
  rintro e w2 ⟨v, rfl, _, hv, hb2⟩
  have HV : Hid (0 ≤ v → nn ≤ 1048576 ∧ NsFit ns nn) := hv
  have HB2 : Hid (Below w.heap.size w w2) := HB1.out.trans (hb2.mono HB1.out.size)
  have HA2 : Hid (B2 w2 w.heap.size (.slice p n c) (.int .i64 top)) := HA1.out.below hb2
  clear hv hb2 HA1
  by_cases hneg : v < 0
  · go_wp2
    go_ret
    exact ⟨rfl, HB2.out⟩
  obtain ⟨hnn, hfit⟩ := HV.out (by omega)
  have HF : Hid (NsFit ns nn) := hfit
  have HNL : Hid (∀ i, (ns.getD i []).length ≤ 1048576) := fun i => by
    by_cases hi : i < nn
    · exact hfit i hi
    · have e : ns.getD i [] = [] := by simp [List.getD, List.getElem?_eq_none (show ns.length ≤ i by rw [HN.out.len]; omega)]
      rw [e]; simp
  have d1 : decide (v < 0) = false := decide_eq_false hneg
  have HLN : Hid (ns.length = nn) := HN.out.len
  have hmx : nn ≤ maxLen := by unfold maxLen; omega
  have hmn : n ≤ maxLen := by unfold maxLen; omega
  clear hfit
  have a0 := HA2.out.c0
  have a1 := HA2.out.c1
  go_wp2_with fail
  refine (Hp.toHeap_c p n c top ws _ (HI.out.below HB2.out) hn).mono ?_
  rintro e w3 ⟨g3, rfl, _, hro3, hb3⟩
  have HS3 : Hid (Hp.Is w3 (some ⟨g3, 0, none⟩) n n ws) := hro3.is HI.out.len hmn HI.out.rng
  have HB3 : Hid (Below w.heap.size w w3) := HB2.out.trans (hb3.mono HB2.out.size)
  have HA3 : Hid (B2 w3 w.heap.size (.slice p n c) (.int .i64 top)) := HA2.out.below hb3
  clear hro3 hb3 HA2 a0 a1
  go_wp2_with fail
  refine (toByteSS_c np nn nc ns _ (HN.out.below HB3.out) hnn HF.out).mono ?_
  rintro e w4 ⟨rfl, hrb4, hb4⟩
  have HN4 : Hid (Nm w4 (some ⟨w3.heap.size, 0, none⟩) nn nn ns) := hrb4.nm HLN.out hmx
  have HS4 : Hid (Hp.Is w4 (some ⟨g3, 0, none⟩) n n ws) := HS3.out.below hb4
  have HB4 : Hid (Below w.heap.size w w4) := HB3.out.trans (hb4.mono HB3.out.size)
  have HA4 : Hid (B2 w4 w.heap.size (.slice p n c) (.int .i64 top)) := HA3.out.below hb4
  clear hrb4 hb4 HA3 HS3
  go_wp2_with fail
  refine (specShowWord_c _ n n top x ws _ nn nn ns _ HS4.out ht0 ht1 HX.out HN4.out HNL.out (HT.out _ HB4.out)).mono ?_
  intro e w5 h5
  obtain ⟨sv, rfl, hso, hb5⟩ := HOUT.out _ _ _ h5
  obtain ⟨sp, sc, rfl, hsy, _, _⟩ := hso.wr HRG.out
  have HSY : Hid (By w5 sp xs.length sc xs) := hsy
  have HB5 : Hid (Below w.heap.size w w5) := HB4.out.trans (hb5.mono HB4.out.size)
  have HA5 : Hid (B2 w5 w.heap.size (.slice p n c) (.int .i64 top)) := HA4.out.below hb5
  clear h5 hso hsy hb5 HA4 HN4 HS4
  have a0 := HA5.out.c0
  have a1 := HA5.out.c1
  go_wp2_with fail
  refine (Hp.toHeap_c p n c top ws _ (HI.out.below HB5.out) hn).mono ?_
  rintro e w6 ⟨gx, rfl, hgx, hro6, hb6⟩
  have HRO6 : Hid (Hp.Ro w6 gx n ws) := hro6
  have HGX : Hid (w5.heap.size ≤ gx ∧ gx < w6.heap.size) := ⟨hgx, hro6.lt⟩
  have HB56 : Hid (Below w5.heap.size w5 w6) := hb6
  have HB6 : Hid (Below w.heap.size w w6) := HB5.out.trans (hb6.mono HB5.out.size)
  have HA6 : Hid (B2 w6 w.heap.size (.slice p n c) (.int .i64 top)) := HA5.out.below hb6
  clear hro6 hgx hb6 a0 a1
  go_wp2_with fail
  obtain ⟨W7, hW7⟩ : ∃ W7, W7 = w6.alloc (.cells #[.slice (some ⟨gx, 0, none⟩) n n, .int .i64 top] 40) := ⟨_, rfl⟩
  rw [← hW7]
  have HB67 : Hid (Below w6.heap.size w6 W7) := by unfold Hid; rw [hW7]; exact below1 _ _
  have HX7 : Hid (B2 W7 w6.heap.size (.slice (some ⟨gx, 0, none⟩) n n) (.int .i64 top)) := by unfold Hid; rw [hW7]; exact B2.new _ _ _ _
  have HS7 : Hid (W7.heap.size = w6.heap.size + 1) := by unfold Hid; rw [hW7]; simp
  have HB7 : Hid (Below w.heap.size w W7) := HB6.out.trans (HB67.out.mono HB6.out.size)
  clear hW7
  refine (toByteSS_c np nn nc ns _ (HN.out.below HB7.out) hnn HF.out).mono ?_
  rintro e w8 ⟨rfl, hrb8, hb8⟩
  have HRB8 : Hid (RowB w8 W7.heap.size ns nn nn) := hrb8
  have HN8 : Hid (Nm w8 (some ⟨W7.heap.size, 0, none⟩) nn nn ns) := hrb8.nm HLN.out hmx
  have HWB8 : Hid (WB w8 W7.heap.size w8.heap.size W7.heap.size nn) := hrb8.wb HF.out
  have HB68 : Hid (Below w6.heap.size w6 w8) := HB67.out.trans (hb8.mono HB67.out.size)
  have HB58 : Hid (Below w5.heap.size w5 w8) := HB56.out.trans (HB68.out.mono HB56.out.size)
  have HRO8 : Hid (Hp.Ro w8 gx n ws) := HRO6.out.below HB68.out
  have HS8 : Hid (Hp.Is w8 (some ⟨gx, 0, none⟩) n n ws) := HRO8.out.is HI.out.len hmn HI.out.rng
  have HX8 : Hid (B2 w8 w6.heap.size (.slice (some ⟨gx, 0, none⟩) n n) (.int .i64 top)) := HX7.out.below hb8
  have HA8 : Hid (B2 w8 w.heap.size (.slice p n c) (.int .i64 top)) := HA6.out.below HB68.out
  have HB8 : Hid (Below w.heap.size w w8) := HB6.out.trans (HB68.out.mono HB6.out.size)
  clear hrb8 hb8 HX7 HA6
  have x0 := HX8.out.c0
  have x1 := HX8.out.c1
  go_wp2_with fail
  refine (implShowWord_c _ n n top x ws _ nn nn ns _ HS8.out ht0 ht1 HX.out HN8.out HNL.out (HT.out _ HB8.out)).mono ?_
  intro e w9 h9
  obtain ⟨gv, rfl, hgo, hb9⟩ := HOUT.out _ _ _ h9
  obtain ⟨gp, gc, rfl, hgy, hgw, hgb⟩ := hgo.wr HRG.out
  have HGY : Hid (By w9 gp xs.length gc xs) := hgy
  have HGW : Hid (Wr w9 w8.heap.size gp xs.length) := hgw
  have HGB : Hid (∀ a, gp = some a → w8.heap.size ≤ a.block) := hgb
  have HB89 : Hid (Below w8.heap.size w8 w9) := hb9
  have HB59 : Hid (Below w5.heap.size w5 w9) := HB58.out.trans (hb9.mono HB58.out.size)
  have HX9 : Hid (B2 w9 w6.heap.size (.slice (some ⟨gx, 0, none⟩) n n) (.int .i64 top)) := HX8.out.below hb9
  have HA9 : Hid (B2 w9 w.heap.size (.slice p n c) (.int .i64 top)) := HA8.out.below hb9
  have HB9 : Hid (Below w.heap.size w w9) := HB8.out.trans (hb9.mono HB8.out.size)
  clear h9 hgo hgy hgw hgb hb9 HX8 HA8 x0 x1
  go_wp2_with fail
  refine (eqByte32 gp sp xs.length gc sc xs _ HGY.out (HSY.out.below HB59.out)).mono ?_
  rintro e w10 ⟨rfl, q10, hw10⟩
  have HB910 : Hid (Below w9.heap.size w9 w10) := by rw [hw10]; exact below_drewN' (Below.refl _ _) q10
  clear hw10
  have HB810 : Hid (Below w8.heap.size w8 w10) := HB89.out.trans (HB910.out.mono HB89.out.size)
  have HX10 : Hid (B2 w10 w6.heap.size (.slice (some ⟨gx, 0, none⟩) n n) (.int .i64 top)) := HX9.out.below HB910.out
  have HA10 : Hid (B2 w10 w.heap.size (.slice p n c) (.int .i64 top)) := HA9.out.below HB910.out
  have HB10 : Hid (Below w.heap.size w w10) := HB9.out.trans (HB910.out.mono HB9.out.size)
  have HS10 : Hid (Hp.Is w10 (some ⟨gx, 0, none⟩) n n ws) := HS8.out.below HB810.out
  clear HX9 HA9
  have a0 := HA10.out.c0
  have a1 := HA10.out.c1
  have x0 := HX10.out.c0
  have x1 := HX10.out.c1
  go_wp2_with fail
  go_cut [48] from 44 (fun v wc => v = .bool false ∧ Below w10.heap.size w10 wc)
  case first =>
    go_region_with (first | (go_at_call 17; refine (Hp.toHeap_c p n c top ws _ (HI.out.below (below_drewM HB10.out)) hn).mono ?_; rintro e w11 ⟨g11, rfl, _, hro11, hb11⟩; have HB11 : Hid (Below w10.heap.size w10 w11) := (below_drewM (Below.refl _ _)).trans hb11; have HS11 : Hid (Hp.Is w11 (some ⟨g11, 0, none⟩) n n ws) := hro11.is HI.out.len hmn HI.out.rng; have HSX : Hid (Hp.Is w11 (some ⟨gx, 0, none⟩) n n ws) := HS10.out.below HB11.out; have z0 := (HX10.out.below HB11.out).c0; have z1 := (HX10.out.below HB11.out).c1; clear hro11 hb11) | (go_at_call 20; refine (Hp.eqHeap_c _ _ n n n top ws _ HSX.out HS11.out).mono ?_; rintro e w12 ⟨rfl, hb12⟩; have HB12 : Hid (Below w10.heap.size w10 w12) := HB11.out.trans (hb12.mono HB11.out.size); clear hb12))
    all_goals go_wp2_with fail
    all_goals go_meet
    all_goals exact ⟨rfl, HB12.out⟩
  case rest =>
    obtain ⟨rfl, hbc⟩ := hcut
    have HBC10 : Hid (Below w10.heap.size w10 wc) := hbc
    have HB8C : Hid (Below w8.heap.size w8 wc) := HB810.out.trans (hbc.mono HB810.out.size)
    have HB9C : Hid (Below w9.heap.size w9 wc) := HB910.out.trans (hbc.mono HB910.out.size)
    have HBC : Hid (Below w.heap.size w wc) := HB10.out.trans (hbc.mono HB10.out.size)
    have HXC : Hid (B2 wc w6.heap.size (.slice (some ⟨gx, 0, none⟩) n n) (.int .i64 top)) := HX10.out.below hbc
    have HAC : Hid (B2 wc w.heap.size (.slice p n c) (.int .i64 top)) := HA10.out.below hbc
    clear hbc a0 a1 x0 x1 HX10 HA10 HS10
    go_wp2_with fail
    refine (toByteSS_c np nn nc ns _ (HN.out.below HBC.out) hnn HF.out).mono ?_
    rintro e w13 ⟨rfl, hrb13, hb13⟩
    have HN13 : Hid (Nm w13 (some ⟨wc.heap.size, 0, none⟩) nn nn ns) := hrb13.nm HLN.out hmx
    have HB913 : Hid (Below w9.heap.size w9 w13) := HB9C.out.trans (hb13.mono HB9C.out.size)
    have HB813 : Hid (Below w8.heap.size w8 w13) := HB8C.out.trans (hb13.mono HB8C.out.size)
    have HX13 : Hid (B2 w13 w6.heap.size (.slice (some ⟨gx, 0, none⟩) n n) (.int .i64 top)) := HXC.out.below hb13
    have HA13 : Hid (B2 w13 w.heap.size (.slice p n c) (.int .i64 top)) := HAC.out.below hb13
    clear hrb13 hb13 HXC HAC
    go_wp2_with fail
    refine (eqByteSS_c _ _ nn nn nn ns _ (HN8.out.below HB813.out) HN13.out).mono ?_
    rintro e w14 ⟨rfl, hb14⟩
    have HB814 : Hid (Below w8.heap.size w8 w14) := HB813.out.trans (hb14.mono HB813.out.size)
    have HX14 : Hid (B2 w14 w6.heap.size (.slice (some ⟨gx, 0, none⟩) n n) (.int .i64 top)) := HX13.out.below hb14
    have HA14 : Hid (B2 w14 w.heap.size (.slice p n c) (.int .i64 top)) := HA13.out.below hb14
    have HB914 : Hid (Below w9.heap.size w9 w14) := HB913.out.trans (hb14.mono HB913.out.size)
    have HB514 : Hid (Below w5.heap.size w5 w14) := HB58.out.trans (HB814.out.mono HB58.out.size)
    have hs58 := HB58.out.size
    have hs68 := HB68.out.size
    have hs56 := HB56.out.size
    have hs67 := HB67.out.size
    have hs814 := HB814.out.size
    have hs89 := HB89.out.size
    clear hb14 HX13 HA13 HN13
    have x0 := HX14.out.c0
    have x1 := HX14.out.c1
    have HWR : Hid (Hp.Wr w14 w5.heap.size w6.heap.size (some ⟨gx, 0, none⟩) n) := (HRO8.out.below HB814.out).wr HGX.out.1 HGX.out.2
    go_wp2_with fail
    refine (Hp.markHeap_c _ n n w5.heap.size w6.heap.size top 1 _ HWR.out hn (by omega) (by omega)).mono ?_
    rintro e w15 ⟨rfl, _, wm, hbm, hw15'⟩
    have hw15 : Within w5.heap.size w6.heap.size wm w15 := ⟨hw15'.os, hw15'.tape, hw15'.output, hw15'.size, hw15'.block⟩
    have HB515 : Hid (Below w5.heap.size w5 w15) := (HB514.out.trans (hbm.mono HB514.out.size)).trans (hw15.below (Nat.le_refl _))
    have HGY15 : Hid (By w15 gp xs.length gc xs) := ((HGY.out.below HB914.out).below hbm).within hw15 (fun a ha _ => Or.inr (by have := HGB.out a ha; omega))
    have HGW15 : Hid (Wr w15 w8.heap.size gp xs.length) := ((HGW.out.below HB914.out).below hbm).within hw15 (by omega)
    have HWB15 : Hid (WB w15 W7.heap.size w8.heap.size W7.heap.size nn) := ((HWB8.out.below HB814.out).below hbm).within hw15 (Or.inr hs67) hs67
    clear hbm hw15 hw15' x0 x1 HX14 HA14
    obtain ⟨k15, hk15⟩ : ∃ k : Int, k = 1 + (n : Int) := ⟨_, rfl⟩
    rw [← hk15]
    have hk0 : 0 ≤ k15 := by omega
    have hk1 : k15 ≤ 1000000000000000000 := by omega
    clear hk15
    go_wp2_with fail
    refine (markByteSS_c W7.heap.size nn nn W7.heap.size w8.heap.size k15 _ HWB15.out hnn hk0 hk1).mono ?_
    rintro e w16 ⟨z, rfl, hz, hw16⟩
    have HB516 : Hid (Below w5.heap.size w5 w16) := HB515.out.trans (hw16.below (by omega))
    have HGY16 : Hid (By w16 gp xs.length gc xs) := HGY15.out.within hw16 (fun a ha _ => Or.inr (by have := HGB.out a ha; omega))
    have HGW16 : Hid (Wr w16 w8.heap.size gp xs.length) := HGW15.out.within hw16 (Nat.le_refl _)
    clear hw16 HGY15 HGW15 HWB15
    have hzd : decide (z < 0) = false := decide_eq_false (by omega)
    go_wp2_with fail
    refine (eqByte32 gp sp xs.length gc sc xs _ HGY16.out (HSY.out.below HB516.out)).mono ?_
    rintro e w17 ⟨rfl, q17, hw17⟩
    have HB1617 : Hid (Below w16.heap.size w16 w17) := by rw [hw17]; exact below_drewN' (Below.refl _ _) q17
    clear hw17
    have HB517 : Hid (Below w5.heap.size w5 w17) := HB516.out.trans (HB1617.out.mono HB516.out.size)
    have HGW17 : Hid (Wr w17 w8.heap.size gp xs.length) := HGW16.out.below HB1617.out
    go_wp2_with fail
    refine (markV gp xs.length gc w8.heap.size _ HGW17.out (by omega)).mono ?_
    rintro e w18 ⟨rfl, hh18, hb18⟩
    have HH18 : Hid (Held w18 gp xs.length) := hh18
    have HB518 : Hid (Below w5.heap.size w5 w18) := HB517.out.trans (hb18.mono hs58)
    clear hh18 hb18
    go_wp2_with fail
    refine (heldV gp xs.length gc _ HH18.out (by omega)).mono ?_
    rintro e w19 ⟨rfl, hw19⟩
    have hw19' := hw19.symm
    clear hw19
    subst hw19'
    have HB18 : Hid (Below w.heap.size w w18) := HB5.out.trans (HB518.out.mono HB5.out.size)
    have hq : decide ((1 : Int) + xs.length < 0) = false := by simp; omega
    have hq2 : ((1 : Int) + xs.length != 1 + xs.length) = false := by simp
    have a0 := (HA5.out.below HB518.out).c0
    have a1 := (HA5.out.below HB518.out).c1
    go_wp2_with fail
    refine (Hp.toHeap_c p n c top ws _ (HI.out.below HB18.out) hn).mono ?_
    rintro e w20 ⟨g20, rfl, _, hro20, hb20⟩
    have HS20 : Hid (Hp.Is w20 (some ⟨g20, 0, none⟩) n n ws) := hro20.is HI.out.len hmn HI.out.rng
    have HB520 : Hid (Below w5.heap.size w5 w20) := HB518.out.trans (hb20.mono HB518.out.size)
    have HB20 : Hid (Below w.heap.size w w20) := HB18.out.trans (hb20.mono HB18.out.size)
    clear hro20 hb20 a0 a1
    go_wp2_with fail
    refine (toByteSS_c np nn nc ns _ (HN.out.below HB20.out) hnn HF.out).mono ?_
    rintro e w21 ⟨rfl, hrb21, hb21⟩
    have HN21 : Hid (Nm w21 (some ⟨w20.heap.size, 0, none⟩) nn nn ns) := hrb21.nm HLN.out hmx
    have HS21 : Hid (Hp.Is w21 (some ⟨g20, 0, none⟩) n n ws) := HS20.out.below hb21
    have HB521 : Hid (Below w5.heap.size w5 w21) := HB520.out.trans (hb21.mono HB520.out.size)
    have HB21 : Hid (Below w.heap.size w w21) := HB20.out.trans (hb21.mono HB20.out.size)
    clear hrb21 hb21
    go_wp2_with fail
    refine (implShowWord_c _ n n top x ws _ nn nn ns _ HS21.out ht0 ht1 HX.out HN21.out HNL.out (HT.out _ HB21.out)).mono ?_
    intro e w22 h22
    obtain ⟨hv, rfl, hho, hb22⟩ := HOUT.out _ _ _ h22
    obtain ⟨hp, hc, rfl, hhy, _, _⟩ := hho.wr HRG.out
    have HHY : Hid (By w22 hp xs.length hc xs) := hhy
    have HB522 : Hid (Below w5.heap.size w5 w22) := HB521.out.trans (hb22.mono HB521.out.size)
    have HB22 : Hid (Below w.heap.size w w22) := HB21.out.trans (hb22.mono HB21.out.size)
    clear h22 hho hhy hb22
    go_wp2_with fail
    refine (eqByte32 hp sp xs.length hc sc xs _ HHY.out (HSY.out.below HB522.out)).mono ?_
    rintro e w23 ⟨rfl, q23, hw23⟩
    have HB23 : Hid (Below w.heap.size w w23) := by rw [hw23]; exact below_drewN' HB22.out q23
    clear hw23
    go_wp2
    go_ret
    exact ⟨rfl, HB23.out⟩
end Go.Proofs.YtleeldjncobheaaDoor
