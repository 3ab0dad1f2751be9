import Derived.Test.YtleeldjncobheaaDoorXe
import Derived.Test.YtleeldjncobheaaDoorXw
import Derived.Test.YtleeldjncobheaaDoorXx
namespace Go.Proofs.YtleeldjncobheaaDoor
open Go.RowKit Ch1
theorem outT_len (ds : List Dt) : (outT ds).length ≤ 390000 := by
  unfold outT
  split
  · rename_i h
    have h1 := rowX_len ds.length ds
    have h2 := (valid_small h).1
    unfold rowT; omega
  · simp
theorem outT_rg {ds : List Dt} (h : RgD ds) : Rg (outT ds) := by
  unfold outT
  split
  · exact rowX_rg _ _ h
  · intro x hx; cases hx
theorem Mk.below {w w' : World} {lo hi g n : Nat} (h : Mk w lo hi g n) (hb : Below w.heap.size w w') : Mk w' lo hi g n := by
  refine ⟨h.g1, h.g2, h.row.below hb, fun i hi => ?_⟩
  obtain ⟨t, tl, hc, r1, r2, r3, r4, r5⟩ := h.txts i hi
  exact ⟨t, tl, by rw [hb.cell (p := ⟨g, i * 4 + 2, none⟩) h.row.lt]; exact hc, r1, r2, r3, r4, r5.below hb⟩
set_option maxHeartbeats 4000000 in
theorem law3 (p : Option Addr) (n c : Nat) (ds : List Dt) (w : World) (hD : Da w p n c ds) (ht : Tab w) :
    Calls Tryd.prog 3 #[.slice p n c] w fun e w' => e = .returned (.bool true) ∧ Below w.heap.size w w' := by
  have HD : Hid (Da w p n c ds) := hD
  have HTAB : Hid (Tab w) := ht
  have HRG : Hid (Rg (outT ds)) := outT_rg hD.rg
  have hol := outT_len ds
  clear hD ht
  generalize hxs : outT ds = xs at HRG hol
  have HXS : Hid (outT ds = xs) := hxs
  clear hxs
  go_enter Tryd.func3, Tryd.ntmps3
  go_wp2_with fail
  refine (szDatumS5 p n c ds 1048576 _ HD.out (by omega) (by omega)).mono ?_
  rintro e w1 ⟨v, rfl, hv, hb1⟩
  have HB1 : Hid (Below w.heap.size w w1) := hb1
  have HV : Hid (0 ≤ v → (n : Int) ≤ 1048576 ∧ ∀ i, i < n → ((ds.getD i dt0).text.length : Int) ≤ 1048576) := hv
  clear hv hb1
  by_cases hneg : v < 0
  · go_wp2
    go_ret
    exact ⟨rfl, HB1.out⟩
  have hn : n ≤ 1048576 := by have := (HV.out (by omega)).1; omega
  have HT : Hid (∀ i, i < n → ((ds.getD i dt0).text.length : Int) ≤ 1048576) := (HV.out (by omega)).2
  clear HV
  go_wp2_with fail
  refine (toDatumSR p n c ds _ (HD.out.below HB1.out) hn HT.out).mono ?_
  rintro e w2 ⟨rfl, _, hd2, hb2⟩
  have HB2 : Hid (Below w.heap.size w w2) := HB1.out.trans (hb2.mono HB1.out.size)
  have HX2 : Hid (Da w2 (some ⟨w1.heap.size, 0, none⟩) n n ds) := hd2
  clear hb2 hd2
  go_wp2_with fail
  refine (write5 _ n n ds _ HX2.out).mono ?_
  rw [HXS.out]
  rintro e w3 ⟨sp, sc, rfl, hys, hb3⟩
  have HB3 : Hid (Below w.heap.size w w3) := HB2.out.trans (hb3.mono HB2.out.size)
  have HYS : Hid (By w3 sp xs.length sc xs) := hys
  clear hb3 hys HX2
  go_wp2_with fail
  refine (toDatumSR p n c ds _ (HD.out.below HB3.out) hn HT.out).mono ?_
  rintro e w4 ⟨rfl, hrr, hd4, hb4⟩
  have HB4 : Hid (Below w.heap.size w w4) := HB3.out.trans (hb4.mono HB3.out.size)
  have HB34 : Hid (Below w3.heap.size w3 w4) := hb4
  have HX4 : Hid (Da w4 (some ⟨w3.heap.size, 0, none⟩) n n ds) := hd4
  have HMK : Hid (Mk w4 w3.heap.size w4.heap.size w3.heap.size n) := hrr.mk HT.out
  clear hb4 hd4 hrr
  go_wp2_with fail
  refine (write7 _ n n ds _ HX4.out (Lib.tabBelow_of_tabIs (HTAB.out _ HB4.out))).mono ?_
  rw [HXS.out]
  rintro e w5 ⟨gv, rfl, hgv, hb5⟩
  obtain ⟨gp, gc, rfl, hgy, hgw, hgb⟩ := hgv.wr HRG.out
  have HB45 : Hid (Below w4.heap.size w4 w5) := hb5
  have HGY : Hid (By w5 gp xs.length gc xs) := hgy
  have HGW : Hid (Wr w5 w4.heap.size gp xs.length) := hgw
  have HGB : Hid (∀ a, gp = some a → w4.heap.size ≤ a.block) := hgb
  have HB35 : Hid (Below w3.heap.size w3 w5) := HB34.out.trans (hb5.mono HB34.out.size)
  clear hb5 hgv hgy hgw hgb
  go_wp2_with fail
  refine (eqByte32 gp sp xs.length gc sc xs _ HGY.out (HYS.out.below HB35.out)).mono ?_
  rintro e w6 ⟨rfl, q6, hw6⟩
  have hw6' := hw6.symm
  clear hw6
  have HB56 : Hid (Below w5.heap.size w5 w6) := by rw [← hw6']; exact below_drewN' (Below.refl _ _) q6
  clear hw6'
  go_wp2_with fail
  have HB6 : Hid (Below w.heap.size w w6) := (HB4.out.trans (HB45.out.mono HB4.out.size)).trans (HB56.out.mono (Nat.le_trans HB4.out.size HB45.out.size))
  refine (toDatumSR p n c ds _ (HD.out.below HB6.out) hn HT.out).mono ?_
  rintro e w7 ⟨rfl, _, hd7, hb7⟩
  have HB67 : Hid (Below w6.heap.size w6 w7) := hb7
  have HX7 : Hid (Da w7 (some ⟨w6.heap.size, 0, none⟩) n n ds) := hd7
  have HB57 : Hid (Below w5.heap.size w5 w7) := HB56.out.trans (hb7.mono HB56.out.size)
  have HB47 : Hid (Below w4.heap.size w4 w7) := HB45.out.trans (HB57.out.mono HB45.out.size)
  clear hb7 hd7
  go_wp2_with fail
  refine (eqDatumS9 _ _ n n n ds _ (HX4.out.below HB47.out) HX7.out).mono ?_
  rintro e w8 ⟨rfl, hb8⟩
  have HB58 : Hid (Below w5.heap.size w5 w8) := HB57.out.trans (hb8.mono HB57.out.size)
  have HB48 : Hid (Below w4.heap.size w4 w8) := HB45.out.trans (HB58.out.mono HB45.out.size)
  have HB38 : Hid (Below w3.heap.size w3 w8) := HB34.out.trans (HB48.out.mono HB34.out.size)
  clear hb8 HX7 HB67 HB57 HB47 HB56 HB6
  go_wp2_with fail
  refine (mark10 w3.heap.size n n w3.heap.size w4.heap.size _ (HMK.out.below HB48.out) hn).mono ?_
  rintro e w9 ⟨z, rfl, hz, hw9⟩
  have HW9 : Hid (Within w3.heap.size w4.heap.size w8 w9) := hw9
  have HB39 : Hid (Below w3.heap.size w3 w9) := HB38.out.trans (hw9.below (Nat.le_refl _))
  have HGY9 : Hid (By w9 gp xs.length gc xs) := (HGY.out.below HB58.out).within hw9 (fun a ha _ => Or.inr (HGB.out a ha))
  have HGW9 : Hid (Wr w9 w4.heap.size gp xs.length) := (HGW.out.below HB58.out).within hw9 (Nat.le_refl _)
  have hzd : decide (z < 0) = false := by simp; omega
  clear hw9
  go_wp2_with fail
  refine (eqByte32 gp sp xs.length gc sc xs _ HGY9.out (HYS.out.below HB39.out)).mono ?_
  rintro e w10 ⟨rfl, q10, hw10⟩
  have hw10' := hw10.symm
  clear hw10
  have HB910 : Hid (Below w9.heap.size w9 w10) := by rw [← hw10']; exact below_drewN' (Below.refl _ _) q10
  clear hw10'
  have HB310 : Hid (Below w3.heap.size w3 w10) := HB39.out.trans (HB910.out.mono HB39.out.size)
  have HGW10 : Hid (Wr w10 w4.heap.size gp xs.length) := HGW9.out.below HB910.out
  go_wp2_with fail
  refine (markV gp xs.length gc w4.heap.size _ HGW10.out (by omega)).mono ?_
  rintro e w11 ⟨rfl, hh11, hb11⟩
  have HH11 : Hid (Held w11 gp xs.length) := hh11
  have HB311 : Hid (Below w3.heap.size w3 w11) := HB310.out.trans (hb11.mono HB34.out.size)
  clear hh11 hb11
  go_wp2_with fail
  refine (heldV gp xs.length gc _ HH11.out (by omega)).mono ?_
  rintro e w12 ⟨rfl, hw12⟩
  have hw12' := hw12.symm
  clear hw12
  subst hw12'
  have HB12 : Hid (Below w.heap.size w w11) := HB3.out.trans (HB311.out.mono HB3.out.size)
  have hq : decide ((1 : Int) + xs.length < 0) = false := by simp; omega
  have hq2 : ((1 : Int) + xs.length != 1 + xs.length) = false := by simp
  go_wp2_with fail
  refine (toDatumSR p n c ds _ (HD.out.below HB12.out) hn HT.out).mono ?_
  rintro e w13 ⟨rfl, _, hd13, hb13⟩
  have HX13 : Hid (Da w13 (some ⟨w11.heap.size, 0, none⟩) n n ds) := hd13
  have HB13 : Hid (Below w.heap.size w w13) := HB12.out.trans (hb13.mono HB12.out.size)
  have HB313 : Hid (Below w3.heap.size w3 w13) := HB311.out.trans (hb13.mono HB311.out.size)
  clear hd13 hb13
  go_wp2_with fail
  refine (write7 _ n n ds _ HX13.out (Lib.tabBelow_of_tabIs (HTAB.out _ HB13.out))).mono ?_
  rw [HXS.out]
  rintro e w14 ⟨hv, rfl, hhv, hb14⟩
  obtain ⟨hp, hc, rfl, hhy, _, _⟩ := hhv.wr HRG.out
  have HHY : Hid (By w14 hp xs.length hc xs) := hhy
  have HB14 : Hid (Below w.heap.size w w14) := HB13.out.trans (hb14.mono HB13.out.size)
  have HB314 : Hid (Below w3.heap.size w3 w14) := HB313.out.trans (hb14.mono HB313.out.size)
  clear hhv hhy hb14
  go_wp2_with fail
  refine (eqByte32 hp sp xs.length hc sc xs _ HHY.out (HYS.out.below HB314.out)).mono ?_
  rintro e w15 ⟨rfl, q15, hw15⟩
  have HB15 : Hid (Below w.heap.size w w15) := by rw [hw15]; exact below_drewN' HB14.out q15
  clear hw15
  go_wp2
  go_ret
  exact ⟨rfl, HB15.out⟩
end Go.Proofs.YtleeldjncobheaaDoor
