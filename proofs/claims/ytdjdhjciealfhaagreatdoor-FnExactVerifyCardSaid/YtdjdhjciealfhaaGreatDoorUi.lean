import Derived.Test.YtdjdhjciealfhaaGreatDoorVb
namespace Go.Proofs.YtdjdhjciealfhaaGreatDoor
open Go.RowKit Ch1
namespace Vf
theorem mkL_zero (L : List (Nat × List Bool)) : mkL L 0 = L := by
  apply List.ext_getElem?
  intro i
  by_cases hi : i < L.length
  · simp [mkL, hi, rwN, List.getD_eq_getElem?_getD]
  · simp [mkL, hi]
set_option maxHeartbeats 2000000 in
theorem markBoolSS_c (p : Option Addr) (n c B : Nat) (L : List (Nat × List Bool)) (w : World) (h : Rr w p L) (hd : (L.map Prod.fst).Nodup) (hf : Few L) (hn : n = L.length) (hB : ∀ x ∈ L, B ≤ x.1) :
    Calls Tryz.prog 11 #[.slice p n c, .int .i64 1] w fun e w' => e = .returned (.int .i64 ((1 + cnt L n : Nat) : Int)) ∧ Rr w' p (mkL L n) ∧ Below B w w' := by
  have H1 := mkD h
  have HD := mkD hd
  have HF := mkD hf
  have hn2 : n ≤ 200 := by rw [hn]; exact hf.1
  have HN := mkD hn
  have HB := mkD hB
  clear h hd hf hn hB
  go_enter Tryz.func11, Tryz.ntmps11
  go_wp2
  go_loopw [1, 5] (fun kv i wr => ∃ (j z : Nat), j ≤ n ∧ i = .int .i64 (j : Nat) ∧ kv = .int .i64 ((1 + z : Nat) : Int) ∧ Hid (z = cnt L j) ∧ Hid (Rr wr p (mkL L j)) ∧ Hid (Below B w wr)) (fun _ i _ => n - (intOf i).toNat)
  case atStart => exact ⟨0, 0, Nat.zero_le _, rfl, rfl, rfl, by unfold Hid; rw [mkL_zero]; exact H1.out, Below.refl _ _⟩
  case round =>
    obtain ⟨j, z, hj, rfl, rfl, hz, hR, hb⟩ := hrel
    have hz1 : z ≤ 1000000 := by rw [hz.out]; have := cnt_le HF.out j (by rw [← HN.out]; exact hj); omega
    by_cases hlt : j < n
    · have hk1 : j < L.length := by rw [← HN.out]; exact hlt
      obtain ⟨g, rfl, _, _, hc⟩ := hR.out.cells (by rw [mkL_len]; omega)
      have e0 := hc j (by rw [mkL_len]; exact hk1)
      have ho := hR.out.row _ (rwN_mem (L := mkL L j) (i := j) (by rw [mkL_len]; exact hk1))
      have hsh : rwN (mkL L j) j = rwN L j := by rw [mkL_at hk1, if_neg (by omega)]
      rw [hsh] at e0 ho
      have hx := HF.out.2 _ (rwN_mem hk1)
      have HMK := mkD (markBoolS_o (rwN L j).1 (rwN L j).2.length (rwN L j).2.length z (rwN L j).2 wr ho rfl hx (by omega))
      have hBx := HB.out _ (rwN_mem hk1)
      have HST : Hid (∀ w2, OwB w2 (rwN L j).1 (mbs z (rwN L j).2.length) → Within (rwN L j).1 ((rwN L j).1 + 1) wr w2 → Rr w2 (some ⟨g, 0, none⟩) (mkL L (j + 1)) ∧ Below B w w2) := fun w2 ho2 hw2 => ⟨hR.out.mark HD.out hk1 (by rw [← hz.out]; exact ho2) hw2, hb.out.trans (hw2.below hBx)⟩
      have HCN : Hid (z + (rwN L j).2.length = cnt L (j + 1)) := by unfold Hid; rw [hz.out]; rfl
      generalize (rwN L j).2.length = xl at e0 HMK HST HCN hx
      generalize (rwN L j).1 = b at e0 HMK HST
      clear hc ho hsh
      go_wp2_with fail
      refine HMK.out.mono ?_
      rintro e w1 ⟨rfl, ho1, hw1⟩
      have HO1 := mkD ho1
      have HW1 := mkD hw1
      clear ho1 hw1
      go_wp2
      exact ⟨⟨j + 1, z + xl, by omega, by go_num, rfl, HCN.out, (HST.out _ HO1.out HW1.out).1, (HST.out _ HO1.out HW1.out).2⟩, by simp [intOf]; omega⟩
    · obtain rfl : j = n := by omega
      go_wp2
      go_ret
      exact ⟨ret_int (by have := hz.out; omega), hR.out, hb.out⟩
set_option maxHeartbeats 2000000 in
theorem heldBoolSS_c (p : Option Addr) (n c : Nat) (L : List (Nat × List Bool)) (w : World) (h : Rr w p (mkL L n)) (hf : Few L) (hn : n = L.length) :
    Calls Tryz.prog 12 #[.slice p n c, .int .i64 1] w fun e w' => e = .returned (.int .i64 ((1 + cnt L n : Nat) : Int)) ∧ Below w.heap.size w w' := by
  have H1 := mkD h
  have HF := mkD hf
  have hn2 : n ≤ 200 := by rw [hn]; exact hf.1
  have HN := mkD hn
  clear h hf hn
  go_enter Tryz.func12, Tryz.ntmps12
  go_wp2
  go_loopw [1, 5] (fun kv i wr => ∃ (j z : Nat), j ≤ n ∧ i = .int .i64 (j : Nat) ∧ kv = .int .i64 ((1 + z : Nat) : Int) ∧ Hid (z = cnt L j) ∧ Hid (Below w.heap.size w wr)) (fun _ i _ => n - (intOf i).toNat)
  case atStart => exact ⟨0, 0, Nat.zero_le _, rfl, rfl, rfl, Below.refl _ _⟩
  case round =>
    obtain ⟨j, z, hj, rfl, rfl, hz, hb⟩ := hrel
    have hz1 : z ≤ 1000000 := by rw [hz.out]; have := cnt_le HF.out j (by rw [← HN.out]; exact hj); omega
    by_cases hlt : j < n
    · have hk1 : j < L.length := by rw [← HN.out]; exact hlt
      have hR := H1.out.below hb.out
      obtain ⟨g, rfl, _, _, hc⟩ := hR.cells (by rw [mkL_len]; omega)
      have e0 := hc j (by rw [mkL_len]; exact hk1)
      have ho := hR.row _ (rwN_mem (L := mkL L n) (i := j) (by rw [mkL_len]; exact hk1))
      have hsh : rwN (mkL L n) j = ((rwN L j).1, mbs (cnt L j) (rwN L j).2.length) := by rw [mkL_at hk1, if_pos hlt]
      rw [hsh] at e0 ho
      simp only [mbs_len] at e0 ho
      have hx := HF.out.2 _ (rwN_mem hk1)
      rw [← hz.out] at ho
      have HMK := mkD (heldBoolS_o (rwN L j).1 (rwN L j).2.length (rwN L j).2.length z wr ho hx (by omega))
      have HCN : Hid (z + (rwN L j).2.length = cnt L (j + 1)) := by unfold Hid; rw [hz.out]; rfl
      generalize (rwN L j).2.length = xl at e0 HMK HCN hx
      generalize (rwN L j).1 = b at e0 HMK
      clear hc ho hsh hR
      go_wp2_with fail
      refine HMK.out.mono ?_
      rintro e w1 ⟨rfl, hw1⟩
      have HB1 : Hid (Below w.heap.size w w1) := by unfold Hid; rw [hw1]; exact hb.out
      clear hw1
      have hneg : decide (((1 + (z + xl) : Nat) : Int) < 0) = false := by simp; omega
      go_wp2
      exact ⟨⟨j + 1, z + xl, by omega, by go_num, rfl, HCN.out, HB1.out⟩, by simp [intOf]; omega⟩
    · obtain rfl : j = n := by omega
      go_wp2
      go_ret
      exact ⟨ret_int (by have := hz.out; omega), hb.out⟩
end Vf
end Go.Proofs.YtdjdhjciealfhaaGreatDoor
namespace Go.Proofs.YtdjdhjciealfhaaGreatDoor
open Go.RowKit Ch1
namespace Vf
set_option maxRecDepth 20000 in
set_option maxHeartbeats 8000000 in
/-- spec.Verify. -/
theorem specVerify_c (cp : Option Addr) (cn cc : Nat) (fp : Option Addr) (fn fc : Nat) (m : Md) (w : World) (hM : Mo w cp cn cc fp fn fc m) (hF : Fits cn fn m) :
    Calls Tryz.prog 5 #[.agg #[.slice cp cn cc, .int .i64 m.globals, .slice fp fn fc]] w fun e w' => VrP m w w' e := by
  have HM := mkD hM
  have HFL : Hid (m.funcs.length = fn) := hM.fs.len
  obtain ⟨W, hW⟩ : ∃ W, W = w.alloc (.cells #[.slice cp cn cc, .int .i64 m.globals, .slice fp fn fc] 33) := ⟨_, rfl⟩
  have HBW : Hid (Below w.heap.size w W) := by unfold Hid; rw [hW]; exact below1 w _
  have hw1 : w.heap.size < W.heap.size := by rw [hW]; simp
  have HMB : Hid (W.heap[w.heap.size]? = some (.cells #[.slice cp cn cc, .int .i64 m.globals, .slice fp fn fc] 33)) := by unfold Hid; rw [hW]; exact Go.Deep.blk_alloc_new _ _
  have HVM := mkD (specValidModule_c cp cn cc fp fn fc m W (hM.below HBW.out) hF)
  have m0 := (cells3 HMB.out).1
  have m1 := (cells3 HMB.out).2.1
  have m2 := (cells3 HMB.out).2.2.1
  rw [hW] at m0 m1 m2
  have hcf := small_of hM.fs.cap hM.fs.big
  obtain ⟨gl, hgl⟩ : ∃ gl, gl = m.globals := ⟨_, rfl⟩
  rw [← hgl] at m0 m1 m2 HMB HVM hW ⊢
  clear hM hF hgl
  go_enter Tryz.func5, Tryz.ntmps5
  go_wp2_with fail
  rw [← hW]
  refine HVM.out.mono ?_
  clear m0 m1 m2 hW HVM
  rintro e w1 ⟨b, rfl, hiff, hb1⟩
  have HG := mkD hiff
  have HB1 := mkD hb1
  clear hiff hb1
  cases b
  · have HNO : Hid (¬ GoodM m) := fun h => by have := HG.out.2 h; cases this
    have HBF : Hid (Below w.heap.size w w1) := HBW.out.trans (HB1.out.mono HBW.out.size)
    go_wp2_with fail
    exact bodyPost_ret (v := .tuple #[.slice none 0 0, .int .i64 1, .int .i64 0]) (by simp [results, Tryz.results5, go_sem]) rfl (Or.inl ⟨HNO.out, rfl, HBF.out⟩)
  · have HGM : Hid (GoodM m) := HG.out.1 rfl
    clear HG
    obtain ⟨ii, hi1, hpr⟩ := Option.map_eq_some_iff.1 infoB
    clear hi1 hpr ii
    go_wp2_with fail
    go_loopw [5, 6] (fun ov iv wr => Vr m W fn ov iv wr) (fun _ iv _ => fn - (intOf iv).toNat)
    case atStart => exact ⟨0, none, 0, [], Nat.zero_le _, rfl, rfl, RbS.nil _ _, ⟨rfl, fun i hi => absurd hi (Nat.not_lt_zero i)⟩, HB1, fun j hj => absurd hj (Nat.not_lt_zero j)⟩
    case round =>
      clear HB1 w1
      obtain ⟨i, op, oc, L, hi, rfl, rfl, hR, hO, hB, hS⟩ := hrel
      have HMr := mkD ((hB.out.block w.heap.size hw1).trans HMB.out)
      obtain ⟨y0, y1, y2, _, _, _⟩ := cells3 HMr.out
      have HBr : Hid (Below w.heap.size w wr) := HBW.out.trans (hB.out.mono HBW.out.size)
      have hwr : w.heap.size < wr.heap.size := Nat.lt_of_lt_of_le hw1 hB.out.size
      by_cases hlt : i < fn
      · have HMo := mkD (HM.out.below HBr.out)
        obtain ⟨fb, fo, rfl, hfb, hfe⟩ := HMo.out.fs.cells (by omega)
        obtain ⟨rp, rl, rc, dp, dl, dc, he⟩ := hfe i hlt
        have g0 := he.c0
        have g1 := he.c1
        have g2 := he.c2
        have hil : i < m.funcs.length := by rw [HFL.out]; exact hlt
        have HV : Hid (Calls Tryz.prog 16 #[.agg #[.slice cp cn cc, .int .i64 gl, .slice (some ⟨fb, fo, none⟩) fn fc], .agg #[.int .i64 (m.funcs.getD i fn0).params, .slice rp rl rc, .slice dp dl dc]] wr.drew fun e w' => VyP m (m.funcs.getD i fn0) wr.drew w' e) :=
          verify1_c cp cn cc gl (some ⟨fb, fo, none⟩) fn fc rp rl rc dp dl dc m (m.funcs.getD i fn0) wr.drew (HM.out.below (below_drewM HBr.out)).cs (gm_ne HGM.out) (HM.out.below (below_drewM HBr.out)).fs (he.free.below (below_drewM (Below.refl _ _))) (he.code.below (below_drewM (Below.refl _ _))) (fun k hk => HGM.out.cd i hil k (by rw [he.code.len]; exact hk)) (by have := (HGM.out.sz.fn i hil).co; rw [he.code.len] at this; omega) (by have := gm_code1 HGM.out hil; rw [he.code.len] at this; exact this) (HGM.out.sz.fn i hil).p0 (HGM.out.sz.fn i hil).p1
        obtain ⟨pa, hpa⟩ : ∃ pa, pa = (m.funcs.getD i fn0).params := ⟨_, rfl⟩
        rw [← hpa] at g0 HV
        clear hpa he hfe
        go_wp2_with fail
        go_region_with (go_at_call 16; refine HV.out.mono ?_; rintro e w4 hv4; obtain ⟨vp, vl, vc, vb, rfl, hb4, hs4, hr4⟩ := hv4.one; have HB4 := mkD hb4; have HS4 := mkD hs4; have HR4 := mkD hr4; clear hv4 hb4 hs4 hr4)
        all_goals
          clear y0 y1 y2 g0 g1 g2 HV
          have HB5 : Hid (Below wr.heap.size wr w4) := (below_drewM (Below.refl _ _)).trans (HB4.out.mono (Nat.le_refl _))
          have HBw4 : Hid (Below w.heap.size w w4) := HBr.out.trans (HB5.out.mono HBr.out.size)
          cases vb
          · have HNS : Hid (¬ Safe m (m.funcs.getD i fn0)) := fun h => by have := HS4.out.2 h; cases this
            go_wp2_with fail
            exact bodyPost_ret (v := .tuple #[.slice none 0 0, .int .i64 6, .int .i64 (i : Nat)]) (by simp [results, Tryz.results5, go_sem]) rfl (Or.inr (Or.inl ⟨HGM.out, i, hil, HNS.out, hS.out, rfl, HBw4.out⟩))
          · obtain ⟨S, σ, rfl, rfl, rfl, hgS, hoS, hlS⟩ := HR4.out rfl
            have HSA : Hid (Safe m (m.funcs.getD i fn0)) := HS4.out.1 rfl
            have hgS2 : wr.heap.size ≤ S := hgS
            have HOS := mkD hoS
            have HLS := mkD hlS
            have HR5 := mkD (hR.out.below HB5.out)
            have hLl : L.length = i := hO.out.1
            have hf200 : fn ≤ 200 := by have := HGM.out.f2; rw [HFL.out] at this; exact this
            have HLT : Hid (∀ x ∈ L, x.1 < S) := fun x hx => Nat.lt_of_lt_of_le (hR.out.row x hx).2.lt hgS2
            have HWS : Hid (W.heap.size ≤ S) := Nat.le_trans hB.out.size hgS2
            have hW4 : W.heap.size ≤ w4.heap.size := Nat.le_trans hB.out.size HB5.out.size
            have HOW : Hid (w4.ownsRow W.heap.size 43 1 (.slice op i oc) i (Rv L)) := by have h := HR5.out.own; rw [hLl] at h; exact h
            obtain ⟨bs, hbs⟩ : ∃ bs, bs = pvRow m (m.funcs.getD i fn0) σ := ⟨_, rfl⟩
            rw [← hbs] at HOS ⊢
            have HBS := mkD hbs
            clear hgS hoS hlS hbs HR4 HS4
            go_wp2_with (at_builtin; refine appW_law w4 rfl (.tmp 32) (.tmp 34) 27 43 rfl (.slice none 0 0) 1 24 Tryz.underlying27 infoB rfl (by omega) W.heap.size (.slice op i oc) i (Rv L) (by simp [Act.eval]) HOW.out #[.slice (some ⟨S, 0, none⟩) bs.length bs.length] rfl (by simp [Value.oneCell']) (by simp [Act.eval]) (by unfold maxLen; omega) (by omega) hW4 ?_; intro v5 w5 ho5 hb5 hbt5; obtain ⟨p5, c5, hv5⟩ := owns_form ho5; subst hv5; have HO5 := mkD ho5; have HB6 := mkD hb5; have HBT := mkD hbt5; clear ho5 hb5 hbt5)
            refine ⟨⟨i + 1, p5, c5, L ++ [(S, bs)], by omega, by go_num, rfl, ?_, ?_, (hB.out.trans (HB5.out.mono hB.out.size)).trans HB6.out, fun j hj => by rcases (show j < i ∨ j = i by omega) with h | h; exact hS.out j h; rw [h]; exact HSA.out⟩, by simp [intOf]; omega⟩
            · refine RbS.snoc HR5.out ?_ HBT.out HOS.out HWS.out HLT.out
              rw [hLl]
              exact HO5.out
            · unfold Hid
              rw [HBS.out]
              exact hO.out.snoc HLS.out
      · have HSF : Hid (∀ j, j < m.funcs.length → Safe m (m.funcs.getD j fn0)) := fun j hj => hS.out j (by rw [HFL.out] at hj; omega)
        have HRO : Hid (RowsOf m L m.funcs.length) := by unfold Hid; rw [HFL.out, ← show i = fn by omega]; exact hO.out
        have HRR := mkD (hR.out.mono (Nat.le_of_lt hw1))
        go_wp2_with fail
        exact bodyPost_ret (v := .tuple #[.slice op i oc, .int .i64 0, .int .i64 0]) (by simp [results, Tryz.results5, go_sem]) rfl (Or.inr (Or.inr ⟨HGM.out, HSF.out, _, L, rfl, HRR.out, HRO.out, HBr.out⟩))
end Vf
end Go.Proofs.YtdjdhjciealfhaaGreatDoor
