import Derived.Test.YtnnpfoilojicjaaGreatDoorBc
import Derived.Test.YtnnpfoilojicjaaGreatDoorBd
import Derived.Test.YtnnpfoilojicjaaGreatDoorB7
namespace Go.Proofs.YtnnpfoilojicjaaGreatDoor
open Go.RowKit Ch1
namespace Cp
theorem l5exprL_c {c : Cx} {N k : Nat} {st : St} (hE : ExC c k) (i : Nat) (tail : Bool) (w : World) (hT : TxB c) (h : Inv c N w st) (hi : i < c.dn) (ho : Ok (k + 1) (c.ds.drop i)) (hls : isLs (c.ds.drop i) = true) (hN : N + bud (k + 1) (c.ds.drop i) ≤ 1000000000) (hb : st.bo + sz (k + 1) (c.ds.drop i) ≤ 3000) :
  Calls Tryz.prog 43 #[.pointer (some ⟨st.ab, 0, none⟩), .int .i64 (i : Nat), .bool tail] w fun e w' => (∃ u, e = .returned u) ∧ ExP c N (k + 1) st i w w' := by
 by_cases hs : ∃ h rest, kidsOf k (c.ds.drop i) = h :: rest ∧ isSy h = true
 ·obtain ⟨h0, r0, he, hs⟩ := hs
  by_cases hbn : bnd (st.gl.map (·.x)) st.sc (nm h0) = true
  ·exact l5exprLb_c hE i tail w hT h hi ho hls hN hb (fun h1 r1 e1 => by rw [he] at e1; cases e1; exact ⟨hs, hbn⟩)
  ·exact l5exprLs_c hE i tail w hT h hi ho hls hN hb (fun h1 r1 e1 => by rw [he] at e1; cases e1; exact ⟨hs, by simpa using hbn⟩)
 ·exact l5exprLn_c hE i tail w hT h hi ho hls hN hb (fun h1 r1 e1 => by
   by_cases h2 : isSy h1 = true
   ·exact absurd ⟨h1, r1, e1, h2⟩ hs
   ·simpa using h2)
theorem ex_all {c : Cx} (hT : TxB c) : ∀ k, ExC c k := by
 intro k
 induction k with
 | zero =>
  intro st w N i tail h hi ho hN _
  by_cases hs : isSy (c.ds.drop i) = true
  ·exact l5exprS_c i tail w h hi ho hs hN
  ·exact l5exprC_c i tail w hT h hi ho (by simpa using hs) (ok_zero ho) hN
 | succ k ih =>
  intro st w N i tail h hi ho hN hb
  by_cases hls : isLs (c.ds.drop i) = true
  ·exact l5exprL_c ih i tail w hT h hi ho hls hN hb
  ·by_cases hs : isSy (c.ds.drop i) = true
   ·exact l5exprS_c i tail w h hi ho hs hN
   ·exact l5exprC_c i tail w hT h hi ho (by simpa using hs) (by simpa using hls) hN
theorem In0.start {c : Cx} {w : World} {bp : Option Addr} {bl bc : Nat} {bx : List Bool} (hb0 : Below c.w0.heap.size c.w0 w) (hda : Da c.w0 c.dp c.dn c.dc c.ds) (hn : c.dn ≤ 3000) (hbx : w.ownsRow c.w0.heap.size 4 1 (.slice bp bl bc) bl (bx.map Value.bool)) (hbl : bx.length = bl) (hb3 : bl ≤ 3000) :
  In0 c (w.alloc (.cells #[.slice c.dp c.dn c.dc, .slice none 0 0, .slice bp bl bc, .slice none 0 0, .int .i64 0, .slice none 0 0, .slice none 0 0, .slice none 0 0, .bool false, .slice none 0 0] 45)) w.heap.size (.slice none 0 0) [] (.slice bp bl bc) bx false := by
 subst hbl
 exact ⟨hb0.trans ((below1 w _).mono hb0.size), hda, hn, hb0.size, Go.Deep.blk_alloc_new _ _, nil_own _ _ _ _, (fun _ hv => by cases hv), Nat.zero_le _, owns_below hbx (below1 w _), hb3⟩
theorem P1.cell {B : Nat} {w : World} {p : Option Addr} {cc i : Nat} {fs : List Nat} (ho : OwI w B (.slice p fs.length cc) fs) (hi : i < fs.length) : ∃ g, p = some ⟨g, 0, none⟩ ∧ g < w.heap.size ∧ w.cell? ⟨g, i, none⟩ = some (.int .i64 ((fs[i]'hi : Nat) : Int)) := by
 have hoo : w.ownsRow B 3 1 (.slice p fs.length cc) fs.length (inC fs) := ho
 obtain ⟨_, _, h3⟩ := owns_cells hoo
 obtain ⟨g, e, h4, _, _, h7⟩ := h3 (by omega)
 refine ⟨g, e, h4, ?_⟩
 rw [h7 i (by omega)]
 unfold inC
 rw [List.getElem?_map, List.getElem?_eq_getElem hi]
 rfl
theorem at_get {c : Cx} {ks : List Nat} {l : List (List Dt)} {j : Nat} (h : at_ c ks = l) (hj : j < ks.length) : l.getD j [] = c.ds.drop (ks[j]'hj) := by
 rw [← h]
 unfold at_
 rw [List.getD_eq_getElem?_getD, List.getElem?_map, List.getElem?_eq_getElem hj]
 rfl
set_option maxRecDepth 20000 in
set_option maxHeartbeats 8000000 in
theorem l5pass_c {c : Cx} (dp : Option Addr) (hdp0 : c.dp = dp) (hT : TxB c) (bp : Option Addr) (bl bc : Nat) (bx : List Bool) (w : World) (hb0 : Below c.w0.heap.size c.w0 w) (hda : Da c.w0 c.dp c.dn c.dc c.ds) (hn : c.dn ≤ 3000) (hrow : rowOf c.ds = true) (hbx : w.ownsRow c.w0.heap.size 4 1 (.slice bp bl bc) bl (bx.map Value.bool)) (hbl : bx.length = bl) (hb3 : bl ≤ 3000) :
  Calls Tryz.prog 27 #[.slice dp c.dn c.dc, .slice bp bl bc] w fun e w' => ∃ ab, e = .returned (.pointer (some ⟨ab, 0, none⟩)) ∧ PaP c ab w' ∧ w.heap.size ≤ ab := by
 have HE : Hid (ExC c 100) := ex_all hT 100
 have HI1 := mkC (In0.start hb0 hda hn hbx hbl hb3)
 have HSUM : Hid (sumS 100 (frm c.ds) = c.dn) := by unfold Hid; rw [← hda.len]; exact frm_sum _ _ (Nat.le_refl _) hrow
 obtain ⟨W1, hW1⟩ : ∃ W1, W1 = w.alloc (.cells #[.slice c.dp c.dn c.dc, .slice none 0 0, .slice bp bl bc, .slice none 0 0, .int .i64 0, .slice none 0 0, .slice none 0 0, .slice none 0 0, .bool false, .slice none 0 0] 45) := ⟨_, rfl⟩
 rw [← hW1] at HI1
 have HFM := mkC (l1forms_d (c := c) W1 HI1.out.bel hda hn hrow)
 have HDA := mkC hda
 rw [hdp0] at HFM hW1
 obtain ⟨ab, hab⟩ : ∃ ab, ab = w.heap.size := ⟨_, rfl⟩
 rw [← hab] at HI1
 clear hT hb0 hda hrow hbx hbl hb3
 go_enter Tryz.func27, Tryz.ntmps27
 go_wp2_with fail
 rw [← hW1, ← hab]
 refine HFM.out.mono ?_
 rintro e w2 ⟨p, cc, fs, rfl, ho2, hb2, hat, hpc, hfl⟩
 have HI2 := mkC (HI1.out.below hb2)
 have HO2 := mkC ho2
 have HAT := mkC hat
 have HPC := mkC hpc
 obtain ⟨n, hnn⟩ : ∃ n, n = fs.length := ⟨_, rfl⟩
 have HNN := mkC hnn
 have HAB := mkC hab
 rw [← hnn] at hfl ⊢
 clear ho2 hb2 hat hpc hnn hab hW1 HFM HI1
 go_wp2_with fail
 go_loopw [7] (fun iv wr => ∃ i : Nat, i ≤ n ∧ iv = .int .i64 (i : Nat) ∧ Hid (P1 c W1.heap.size ab (.slice bp bl bc) bx p cc fs i wr)) (fun iv _ => n - (intOf iv).toNat)
 case atStart => exact ⟨0, Nat.zero_le _, rfl, .slice none 0 0, [], false, HI2.out, ⟨rfl, rfl⟩, Nat.le_refl _, HO2.out⟩
 case round =>
  obtain ⟨i, hi, rfl, hP⟩ := hrel
  obtain ⟨glv, gl, bad, hin, hgr, hgl, how⟩ := hP.out
  by_cases hlt : i < n
  ·have hil : i < fs.length := by rw [← HNN.out]; exact hlt
   obtain ⟨g, rfl, hg, y0⟩ := P1.cell how hil
   have hx := HPC.out _ (List.getElem_mem hil)
   have HST : Hid (∀ glv' gl' bad' w', In0 c w' ab glv' gl' (.slice bp bl bc) bx bad' → GlR (stepG (glsF [] (Cp.at_ c (fs.take i))) (c.ds.drop (fs[i]'hil))) gl' bad' → gl'.length ≤ i + 1 → OwI w' W1.heap.size (.slice (some ⟨g, 0, none⟩) fs.length cc) fs → P1 c W1.heap.size ab (.slice bp bl bc) bx (some ⟨g, 0, none⟩) cc fs (i + 1) w') := fun glv' gl' bad' w' h1 h2 h3 h4 => ⟨glv', gl', bad', h1, by rw [at_snocP hil, glsF_snoc]; exact h2, h3, h4⟩
   generalize fs[i]'hil = x at y0 hx HST
   have HD := mkC (l5define_d x wr hin.dv hx.1 hx.2)
   have HIN := mkC hin
   have HGR := mkC hgr
   have HOW := mkC how
   have hxd := hx.1
   have HOK := mkC hx.2
   clear hin hgr how hx
   cases hdf : isDf (c.ds.drop x) with
   | false =>
    rw [hdf] at HD
    have HF := mkC (HST.out _ _ _ _ HIN.out (HGR.out.no hdf) (by omega) HOW.out)
    clear hdf
    go_wp2_with fail
    refine HD.out.mono ?_
    rintro e w3 ⟨rfl, hw3⟩
    have hw3' := hw3.symm
    clear hw3
    subst hw3'
    go_wp2_with fail
    exact ⟨⟨i + 1, by omega, by go_num, HF.out⟩, by simp [intOf]; omega⟩
   | true =>
    rw [hdf] at HD
    have HDF := mkC hdf
    have HKI := mkC (kidsD (k := 100) wr HIN.out.dv hxd HOK.out (isDf_ls hdf))
    rw [hdp0] at HKI
    clear hdf
    go_wp2_with fail
    refine HD.out.mono ?_
    rintro e w3 ⟨rfl, hw3⟩
    have hw3' := hw3.symm
    clear hw3
    subst hw3'
    go_wp2_with fail
    refine HKI.out.mono ?_
    rintro e w4 ⟨kp, kc, ks, rfl, hko, hkb, hkat, hkp, hkl⟩
    have HIN4 := mkC (HIN.out.below hkb)
    have HOW4 := mkC (HOW.out.below hkb)
    have hBw4 : c.w0.heap.size ≤ w4.heap.size := HIN4.out.bel.size
    have e8 := (cells10 HIN4.out.blk).2.2.2.2.2.2.2.1
    have f8 := (cells10 HIN4.out.blk).2.2.2.2.2.2.2.2.2
    have HBAD : Hid (okDf (c.ds.drop x) = false → P1 c W1.heap.size ab (.slice bp bl bc) bx (some ⟨g, 0, none⟩) cc fs (i + 1) (w4.setCell ⟨ab, 8, none⟩ (.bool true))) := fun hk => HST.out _ _ _ _ HIN4.out.setBad (GlR.wrong HDF.out hk) (by omega) (owns_set HOW4.out HIN4.out.blk (by decide) _)
    obtain ⟨kn, hkn⟩ : ∃ kn, kn = ks.length := ⟨_, rfl⟩
    rw [← hkn]
    by_cases hk3 : kn = 3
    ·subst hk3
     have t1 : (((3 : Nat) : Int) != 3) = false := by decide
     obtain ⟨kg, rfl, hkg, z1⟩ := P1.cell (i := 1) hko (by omega)
     have hk1 := hkp _ (List.getElem_mem (show 1 < ks.length by omega))
     have hgd := at_get (j := 1) hkat (by omega)
     generalize ks[1]'(by omega) = k1 at z1 hk1 hgd
     have HS := mkC (l5sym_d k1 w4 HIN4.out.dv hk1.1)
     have HL3 : Hid ((kidsOf 100 (c.ds.drop x)).length = 3) := by unfold Hid; rw [← hkat, hkn]; simp [Cp.at_]
     have HK1 := mkC hk1
     have HGD := mkC hgd
     have hk1d := hk1.1
     clear hko hkb hkat hkp hkl hkn hk1 hgd
     cases hsy : isSy (c.ds.drop k1) with
     | false =>
      rw [hsy] at HS
      have HF := mkC (HBAD.out (by unfold okDf; rw [HGD.out, hsy, Bool.and_false]))
      clear hsy HBAD
      go_wp2_with fail
      refine HS.out.mono ?_
      rintro e w5 ⟨rfl, hw5⟩
      have hw5' := hw5.symm
      clear hw5
      subst hw5'
      go_wp2_with fail
      exact ⟨⟨i + 1, by omega, by go_num, HF.out⟩, by simp [intOf]; omega⟩
     | true =>
      rw [hsy] at HS
      have HOKD : Hid (okDf (c.ds.drop x) = true) := by unfold Hid okDf; rw [HGD.out, hsy, HL3.out]; rfl
      obtain ⟨m, db, dof, hdp, hmx, hm, hmc⟩ := HIN4.out.dv.nmAt hk1d HK1.out.2 hsy
      have u2 := hmc w4 HIN4.out.bel
      have HGL := mkC (l5global_d m w4 HIN4.out hm)
      have HMC := mkC hmc
      have HM := mkC hm
      have HMX : Hid (m.x = nm ((kidsOf 100 (c.ds.drop x)).getD 1 [])) := by unfold Hid; rw [HGD.out]; exact hmx
      clear hsy HBAD hmx hm hmc e8 f8
      obtain rfl : dp = some ⟨db, dof, none⟩ := hdp0.symm.trans hdp
      go_wp2_with fail
      refine HS.out.mono ?_
      rintro e w5 ⟨rfl, hw5⟩
      have hw5' := hw5.symm
      clear hw5
      subst hw5'
      go_wp2_with fail
      refine HGL.out.mono ?_
      rintro e w6 ⟨⟨z, rfl, hz⟩, hb6⟩
      have HIN6 := mkC (HIN4.out.below hb6)
      have HOW6 := mkC (HOW4.out.below hb6)
      have HC := mkC hz.iff
      have HB6 := mkC hb6
      clear hz hb6
      by_cases hz0 : 0 ≤ z
      ·have t2 : decide (z < 0) = false := decide_eq_false (by omega)
       have HF := mkC (HST.out _ _ _ _ HIN6.out (HGR.out.old HDF.out HOKD.out (by rw [← HMX.out, ← HC.out]; exact decide_eq_true hz0)) (by omega) HOW6.out)
       clear HC
       go_wp2_with fail
       exact ⟨⟨i + 1, by omega, by go_num, HF.out⟩, by simp [intOf]; omega⟩
      ·have t2 : decide (z < 0) = true := decide_eq_true (by omega)
       have HNC : Hid ((gl.map (·.x)).contains (nm ((kidsOf 100 (c.ds.drop x)).getD 1 [])) = false) := by unfold Hid; rw [← HMX.out, ← HC.out]; exact decide_eq_false hz0
       obtain ⟨gp, gc, hgv⟩ := owns_form HIN6.out.glo
       have e1 := (cells10 HIN6.out.blk).2.1
       rw [hgv] at e1
       have u6 := HMC.out w6 HIN6.out.bel
       have z6 := cell_keepC HB6.out hkg z1
       obtain ⟨gn, hgn⟩ : ∃ gn, gn = gl.length := ⟨_, rfl⟩
       have HGN := mkC hgn
       rw [← hgn] at e1 hgv
       have hgnb : gn ≤ 3000 := by omega
       have HOD : Hid (w6.drew.ownsRow c.w0.heap.size 34 1 (.slice gp gn gc) gn (nmC gl)) := by
        unfold Hid
        have h1 := owns_below HIN6.out.glo (below_drewC (Below.refl w6.heap.size w6))
        rw [hgv, ← hgn] at h1
        exact h1
       have HBK : Hid (w6.drew.heap[ab]? = _) := HIN6.out.blk
       have hBd : c.w0.heap.size ≤ w6.drew.heap.size := HIN6.out.bel.size
       have HADD : Hid (∀ p3 c3 w7, w7.ownsRow c.w0.heap.size 34 1 (.slice p3 (gn + 1) c3) (gn + 1) (nmC gl ++ [.slice m.p m.n m.c]) → Below c.w0.heap.size w6.drew w7 → But w6.drew w7 (.slice gp gn gc) → P1 c W1.heap.size ab (.slice bp bl bc) bx (some ⟨g, 0, none⟩) cc fs (i + 1) (w7.setCell ⟨ab, 1, none⟩ (.slice p3 (gn + 1) c3))) := fun p3 c3 w7 h1 h2 h3 => by
        have hbd := below_drewC (Below.refl w6.heap.size w6)
        have hI := HIN6.out.below hbd
        rw [← hgv] at h3
        have h4 := hI.addGl HM.out (by rw [← hgn]; omega) (by rw [← hgn]; exact h1) h2 h3
        exact HST.out _ _ _ _ h4 (HGR.out.more HDF.out HOKD.out HMX.out HNC.out) (by simp; omega) (keep1 (HOW6.out.below hbd) hI.blk hI.glo h3 _)
       obtain ⟨mp, mn, mc, mx⟩ := m
       simp only at u6 HADD
       have e1a : (w6.alloc (.cells #[.slice mp mn mc] 34)).cell? ⟨ab, 1, none⟩ = some (.slice gp gn gc) := cell_keepC (below1 w6 _) (Array.getElem?_eq_some_iff.1 HBK.out).1 e1
       clear HC hgv hgn hz0 HGL HMC HM
       go_wp2_with fail
       go_region_law (refine appW_stepC w6.drew rfl (.tmp 66) (.tmp 74) 24 34 rfl _ 1 24 Tryz.underlying24 infoSl rfl (by decide) c.w0.heap.size (.slice gp gn gc) gn (nmC gl) ?hs HOD.out #[.slice mp mn mc] rfl (by simp [Value.oneCell']) ?hx (by unfold maxLen; omega) (by omega) hBd ?_; (case hs => first | (simp [Act.eval]; done) | (simp [Act.eval, Act.put]; done)); (case hx => first | (simp [Act.eval]; done) | (simp [Act.eval, Act.put]; done)); intro p3 c3 w7 ho3 hb3 hbt3 hloc3; have HFI := mkC (HADD.out p3 c3 w7 ho3 hb3 hbt3); have q1 := (cells10 ((hbt3 _ (Array.getElem?_eq_some_iff.1 HBK.out).1 (owns_ne HOD.out HBK.out (by decide))).trans HBK.out)).2.1; have qf := (cells10 ((hbt3 _ (Array.getElem?_eq_some_iff.1 HBK.out).1 (owns_ne HOD.out HBK.out (by decide))).trans HBK.out)).2.2.2.2.2.2.2.2.2; clear ho3 hb3 hbt3 hloc3)
       all_goals go_wp2_with fail
       all_goals exact ⟨⟨i + 1, by omega, by go_num, HFI.out⟩, by simp [intOf]; omega⟩
    ·have t1 : ((kn : Int) != 3) = true := by simp; omega
     have HF := mkC (HBAD.out (by
      unfold okDf
      rw [← hkat]
      have : ¬ ks.length = 3 := by omega
      simp [Cp.at_, this]))
     clear hko hkb hkat hkp hkl hkn HBAD
     go_wp2_with fail
     exact ⟨⟨i + 1, by omega, by go_num, HF.out⟩, by simp [intOf]; omega⟩
  ·have hin_ : i = n := by omega
   subst hin_
   have HGR : Hid (GlR (glsF [] (frm c.ds)) gl bad) := by
    unfold Hid
    rw [List.take_of_length_le (by rw [HNN.out]; exact Nat.le_refl _), HAT.out] at hgr
    exact hgr
   have HIN := mkC hin
   have HOW := mkC how
   clear hin hgr how hgl hP
   cases bad with
   | true =>
    have HG : Hid (glsF [] (frm c.ds) = none) := by
     have h1 := HGR.out
     unfold Hid
     cases e : glsF [] (frm c.ds) with
     | none => rfl
     | some g => rw [e] at h1; exact absurd h1.1 (by decide)
    have e8 := (cells10 HIN.out.blk).2.2.2.2.2.2.2.1
    have HF := mkC (HIN.out.pa HG.out)
    go_wp2_with fail
    go_ret
    exact ⟨ab, rfl, HF.out, by rw [HAB.out]; exact Nat.le_refl _⟩
   | false =>
    obtain ⟨g0, hg0, hgm⟩ : ∃ g0, glsF [] (frm c.ds) = some g0 ∧ gl.map (·.x) = g0 := by
     have h1 := HGR.out
     cases e : glsF [] (frm c.ds) with
     | none => rw [e] at h1; cases h1
     | some g => rw [e] at h1; exact ⟨g, rfl, h1.2⟩
    have HG := mkC hg0
    have HGM := mkC hgm
    have e8 := (cells10 HIN.out.blk).2.2.2.2.2.2.2.1
    have hablt := (Array.getElem?_eq_some_iff.1 HIN.out.blk).1
    obtain ⟨W3, hW3⟩ : ∃ W3, W3 = wr.alloc (.cells #[.slice none 0 0, .slice none 0 0, .int .i64 0, .slice none 0 0, .int .i64 0] 86) := ⟨_, rfl⟩
    have hB3 : Below wr.heap.size wr W3 := by rw [hW3]; exact below1 _ _
    have HIN3 := mkC (HIN.out.below hB3)
    have HOW3 := mkC (HOW.out.below hB3)
    have e5 := (cells10 HIN3.out.blk).2.2.2.2.1
    have HBK := mkC HIN3.out.blk
    have hB0 : c.w0.heap.size ≤ W3.heap.size := HIN3.out.bel.size
    have HON : Hid (W3.ownsRow c.w0.heap.size 82 1 (.slice none 0 0) 0 []) := nil_own _ _ _ _
    have HOPN : Hid (∀ v' w4, w4.ownsRow c.w0.heap.size 82 1 v' 1 ([] ++ [.pointer (some ⟨wr.heap.size, 0, none⟩)]) → Below c.w0.heap.size W3 w4 → But W3 w4 (.slice none 0 0) → Inv c 1 (w4.setCell ⟨ab, 5, none⟩ v') (St.first ab glv gl (.slice bp bl bc) bx v' wr.heap.size) ∧ OwI (w4.setCell ⟨ab, 5, none⟩ v') W1.heap.size (.slice p fs.length cc) fs) := fun v' w4 h1 h2 h3 => by
     have h4 := (HIN.out.open_ (v' := v') (w2 := w4) h1 (by rw [← hW3]; exact h2) (by rw [← hW3]; exact h3)).1
     have h5 : w4.heap[ab]? = some _ := (h3 ab (Nat.lt_of_lt_of_le hablt hB3.size) (fun e => by cases e)).trans HIN3.out.blk
     exact ⟨h4, owns_set (owns_but HOW3.out (apt_nil _) h3) h5 (by decide) _⟩
    obtain ⟨fb, hfb⟩ : ∃ fb, fb = wr.heap.size := ⟨_, rfl⟩
    rw [← hfb] at HOPN
    clear hg0 hgm
    go_upto_region 15 with fail
    rw [← hW3, ← hfb]
    have HW3 := mkC hW3
    have HFB := mkC hfb
    clear hW3 e8 hfb
    go_upto_region 16 with (at_builtin; refine appW_at W3 rfl (.tmp 89) (.tmp 91) 41 82 rfl _ 1 8 Tryz.underlying41 infoFp rfl (by decide) c.w0.heap.size (.slice none 0 0) 0 [] (by simp [Act.eval]) HON.out #[.pointer (some ⟨fb, 0, none⟩)] rfl (by simp [Value.oneCell']) (by simp [Act.eval]) (by unfold maxLen; omega) (by omega) hB0 ?_; intro v' w4 ho hb4 hbt hloc hsz; obtain ⟨p4, c4, hv4⟩ := owns_form ho; subst hv4; have HAD := mkC (HOPN.out _ w4 ho hb4 hbt); have r5 := (cells10 ((hbt _ (Array.getElem?_eq_some_iff.1 HBK.out).1 (fun e => by cases e)).trans HBK.out)).2.2.2.2.1; have rf := (cells10 ((hbt _ (Array.getElem?_eq_some_iff.1 HBK.out).1 (fun e => by cases e)).trans HBK.out)).2.2.2.2.2.2.2.2.2; clear ho hb4 hbt hloc e5)
    obtain ⟨W5, hW5⟩ : ∃ W5, W5 = w4.setCell ⟨ab, 5, none⟩ (.slice p4 (0 + 1) c4) := ⟨_, rfl⟩
    rw [← hW5] at HAD ⊢
    have HIV := mkC HAD.out.1
    have HOW5 := mkC HAD.out.2
    have e7 := (cells10 HIV.out.blk).2.2.2.2.2.2.1
    have e7' : W5.cell? ⟨ab, 7, none⟩ = some (.slice none 0 0) := e7
    have HBK5 : Hid (W5.heap[ab]? = some (.cells #[.slice c.dp c.dn c.dc, glv, .slice bp bl bc, .slice none 0 0, .int .i64 ((0 : Nat) : Int), .slice p4 (0 + 1) c4, .slice none 0 0, .slice none 0 0, .bool false, .slice none 0 0] 45)) := HIV.out.blk
    have hB5 : c.w0.heap.size ≤ W5.heap.size := HIV.out.bel.size
    have HON5 : Hid (W5.ownsRow c.w0.heap.size 88 3 (.slice none 0 0) 0 []) := nil_own _ _ _ _
    have HADF : Hid (∀ v' w6, w6.ownsRow c.w0.heap.size 88 3 v' (0 + 1) ([] ++ [.int .i64 0, .slice none 0 0, .slice none 0 0]) → Below c.w0.heap.size W5 w6 → But W5 w6 (.slice none 0 0) → (∀ k, v'.ownBlock = some k → (Value.slice none 0 0).ownBlock = some k ∨ W5.heap.size ≤ k) → ∃ st1, Inv c 2 (w6.setCell ⟨ab, 7, none⟩ v') st1 ∧ Ix st1 (w6.setCell ⟨ab, 7, none⟩ v') p fs.length cc fs ∧ (st1.ab = ab ∧ st1.gl = gl ∧ st1.sc = [] ∧ st1.tp.b = fb) ∧ st1.nf = 1 ∧ st1.bad = false ∧ st1.ub = [] ∧ st1.bo = 0) := fun v' w6 h1 h2 h3 h4 => by
     have h5 := HIV.out.addFn (w1 := w6) (v' := v') (a := .int .i64 0) (b := .slice none 0 0) (d := .slice none 0 0) h1 h2 h3 h4
     exact ⟨_, h5.inv, (first_ix HIV.out HOW5.out).step h5.fr, ⟨rfl, rfl, rfl, rfl⟩, rfl, rfl, rfl, rfl⟩
    clear e7 r5 rf hW5 HAD HOPN HON HBK HIN3 HOW3
    go_upto_region 17 with (at_builtin; refine appW_at W5 rfl (.tmp 99) (.tmp 101) 43 88 rfl _ 3 56 Tryz.underlying43 infoFu rfl (by decide) c.w0.heap.size (.slice none 0 0) 0 [] (by simp [Act.eval]) HON5.out #[.int .i64 0, .slice none 0 0, .slice none 0 0] rfl (by simp [Value.oneCell']) (by simp [Act.eval]) (by unfold maxLen; omega) (by omega) hB5 ?_; intro v' w6 ho hb6 hbt hloc hsz; obtain ⟨p6, c6, hv6⟩ := owns_form ho; subst hv6; have HAD := mkC (HADF.out _ w6 ho hb6 hbt hloc); have r7 := (cells10 ((hbt _ (Array.getElem?_eq_some_iff.1 HBK5.out).1 (fun e => by cases e)).trans HBK5.out)).2.2.2.2.2.2.1; have rf := (cells10 ((hbt _ (Array.getElem?_eq_some_iff.1 HBK5.out).1 (fun e => by cases e)).trans HBK5.out)).2.2.2.2.2.2.2.2.2; clear ho hb6 hbt hloc e7')
    obtain ⟨W7, hW7⟩ : ∃ W7, W7 = w6.setCell ⟨ab, 7, none⟩ (.slice p6 (0 + 1) c6) := ⟨_, rfl⟩
    rw [← hW7] at HAD ⊢
    obtain ⟨st1, hst1, hix1, hs4, hs5⟩ := HAD.out
    have HS1 := mkC hst1
    have HX1 := mkC hix1
    have HS4 := mkC hs4
    have HS5 := mkC hs5
    have HSB : Hid (2 + sumB 100 (Cp.at_ c fs) + 20 ≤ 1000000000 ∧ sumS 100 (Cp.at_ c fs) ≤ 3000) := by
     unfold Hid
     have h1 := sumB_le (Pcs.ok HPC.out)
     rw [HAT.out] at h1 ⊢
     rw [HSUM.out] at h1 ⊢
     omega
    have HOKS := mkC (glsF_ok (frm c.ds) [] g0 HG.out)
    have HLN : Hid (fs.length = i) := HNN.out.symm
    clear hW7 hst1 hix1 hs4 hs5 HAD HADF HIV HOW5 HBK5 HON5 r7 rf HIN HOW HGR HI2 HO2 hlt hi
    obtain ⟨n, hni⟩ : ∃ n, n = i := ⟨_, rfl⟩
    subst hni
    go_wp2_with fail
    go_loopw [10, 11] (fun ev iv wq => ∃ i : Nat, i ≤ n ∧ iv = .int .i64 (i : Nat) ∧ (ev = .bool false ∨ (i = n ∧ ev = .bool true)) ∧ Hid (∃ s, Ps c 2 st1 W7 (fs.take i) s wq ∧ Ix s wq p fs.length cc fs)) (fun _ iv _ => n - (intOf iv).toNat)
    case atStart => exact ⟨0, Nat.zero_le _, rfl, Or.inl rfl, st1, Ps.nil HS1.out, HX1.out⟩
    case round =>
     obtain ⟨i, hi, rfl, hev, hS⟩ := hrel
     obtain ⟨s1, hs1, hx1⟩ := hS.out
     by_cases hlt : i < n
     ·have hev' : u10 = .bool false := by
       rcases hev with h | ⟨h, _⟩
       ·exact h
       ·omega
      subst hev'
      have hil : i < fs.length := by rw [HLN.out]; exact hlt
      obtain ⟨g, o, rfl, hg, y0⟩ := hx1.at_ hil
      have HPS := mkC hs1
      have HX := mkC hx1
      have hx := HPC.out _ (List.getElem_mem hil)
      have HSM := mkC (sums_at (c := c) (k := 100) hil)
      have hmemF : c.ds.drop (fs[i]'hil) ∈ frm c.ds := by rw [← HAT.out]; exact List.mem_map_of_mem (List.getElem_mem hil)
      have HTK : Hid (fs.take (i + 1) = fs.take i ++ [fs[i]'hil]) := take_snoc hil
      generalize fs[i]'hil = x at y0 hx HSM hmemF HTK
      have hab1 : s1.ab = ab := hs1.stp.sm.ab.trans HS4.out.1
      have hdv := hs1.stp.inv.dv
      rw [hab1] at hdv
      have HDV := mkC hdv
      have HD := mkC (l5define_d x wr hdv hx.1 hx.2)
      have HOK := mkC hx
      have HAB1 := mkC hab1
      have HMF := mkC hmemF
      have hxd := hx.1
      have HBB : Hid (2 + sumB 100 (Cp.at_ c (fs.take i)) + bud 100 (c.ds.drop x) + 20 ≤ 1000000000 ∧ s1.bo + sz 100 (c.ds.drop x) ≤ 3000) := by
       unfold Hid
       have h1 := HSM.out
       have h2 := HSB.out
       have h3 := hs1.bo
       have h4 := HS5.out.2.2.2
       omega
      clear hs1 hx1 hx hmemF hab1 hdv hev hS
      cases hdf : isDf (c.ds.drop x) with
      | false =>
       rw [hdf] at HD
       have HDF := mkC hdf
       have HEX := mkC (fun b => exA HE.out b wr HPS.out.stp.inv HAB1.out HOK.out (by have := HBB.out; omega) HBB.out.2)
       clear hdf
       by_cases hlast : i = n - 1
       ·have t1 : ((i : Int) == (n : Int) - 1) = true := by simp; omega
        have HLA := mkC hlast
        clear hlast
        go_wp2_with fail
        refine HD.out.mono ?_
        rintro e w3 ⟨rfl, hw3⟩
        have hw3' := hw3.symm
        clear hw3
        subst hw3'
        go_wp2_with fail
        refine (HEX.out true).mono ?_
        rintro e w4 ⟨⟨u, rfl⟩, s2, h4, h5, h6⟩
        have HF : Hid (∃ s, Ps c 2 st1 W7 (fs.take (i + 1)) s w4 ∧ Ix s w4 (some ⟨g, o, none⟩) fs.length cc fs) := ⟨s2, by rw [HTK.out]; exact HPS.out.exp HS4.out.2.2.1 HDF.out ⟨h4, h5, h6⟩ ⟨h4.inv.mono (by omega), Fr.refl _ _, Sm.refl _⟩ ⟨rfl, rfl, rfl⟩, HX.out.step h4.fr⟩
        clear h4 h5 h6
        go_wp2_with fail
        exact ⟨⟨i + 1, by omega, by go_num, Or.inr ⟨by have := HLA.out; omega, rfl⟩, HF.out⟩, by simp [intOf]; omega⟩
       ·have t1 : ((i : Int) == (n : Int) - 1) = false := by simp; omega
        go_wp2_with fail
        refine HD.out.mono ?_
        rintro e w3 ⟨rfl, hw3⟩
        have hw3' := hw3.symm
        clear hw3
        subst hw3'
        go_wp2_with fail
        refine (HEX.out false).mono ?_
        rintro e w4 ⟨⟨u, rfl⟩, s2, h4, h5, h6⟩
        have HX2 := mkC (And.intro h4 (And.intro h5 h6))
        have HDR := mkC (dropA (s := s2) (ab := ab) 16 0 1 w4 h4.inv (h4.sm.ab.trans HAB1.out) (by have := HBB.out; omega))
        clear h4 h5 h6
        go_wp2_with fail
        refine HDR.out.mono ?_
        rintro e w5 ⟨rfl, s3, h7, h8, _⟩
        have HF : Hid (∃ s, Ps c 2 st1 W7 (fs.take (i + 1)) s w5 ∧ Ix s w5 (some ⟨g, o, none⟩) fs.length cc fs) := ⟨s3, by rw [HTK.out]; exact HPS.out.exp HS4.out.2.2.1 HDF.out HX2.out (h7.mono (by omega)) h8, (HX.out.step HX2.out.1.fr).step h7.fr⟩
        clear h7 h8
        go_wp2_with fail
        exact ⟨⟨i + 1, by omega, by go_num, Or.inl rfl, HF.out⟩, by simp [intOf]; omega⟩
      | true =>
       rw [hdf] at HD
       have HDF := mkC hdf
       have HKI := mkC (kidsD (k := 100) wr HDV.out hxd HOK.out.2 (isDf_ls hdf))
       rw [hdp0] at HKI
       have hkd := okDf_of (HOKS.out _ HMF.out hdf)
       have HKD := mkC hkd
       have HT1 : Hid (∀ b : Bool, b = b) := fun _ => rfl
       clear hdf hkd
       by_cases hlast : i = n - 1
       ·have t1 : ((i : Int) == (n : Int) - 1) = true := by simp; omega
        have HLA := mkC hlast
        clear hlast
        go_wp2_with fail
        refine HD.out.mono ?_
        rintro e w3 ⟨rfl, hw3⟩
        have hw3' := hw3.symm
        clear hw3
        subst hw3'
        go_wp2_with fail
        refine HKI.out.mono ?_
        rintro e w4 ⟨kp, kc, ks, rfl, hko, hkb, hkat, hkp, hkl⟩
        have hk3 : ks.length = 3 := by
         have h1 := HKD.out.1
         rw [← hkat] at h1
         simpa [Cp.at_] using h1
        obtain ⟨_, _, hkv, hkix⟩ := OwI.ix HPS.out.stp.inv hko
        cases hkv
        obtain ⟨kg, rfl, hkg, z2⟩ := P1.cell (i := 2) hko (by omega)
        have hp2 := hkp _ (List.getElem_mem (show 2 < ks.length by omega))
        have hp1 := hkp _ (List.getElem_mem (show 1 < ks.length by omega))
        have hg1 := at_get (j := 1) hkat (by omega)
        have hg2 := at_get (j := 2) hkat (by omega)
        have hmem2 : c.ds.drop (ks[2]'(by omega)) ∈ kidsOf 100 (c.ds.drop x) := by rw [← hkat]; exact List.mem_map_of_mem (List.getElem_mem _)
        have HZ1 : Hid (∀ s w', Fr s1 s w4 w' → w'.cell? ⟨kg, 1, none⟩ = some (.int .i64 ((ks[1]'(by omega) : Nat) : Int))) := fun s w' hf => by
         obtain ⟨g', o', he, _, hc⟩ := (hkix.step hf).at_ (i := 1) (by omega)
         cases he
         simpa using hc
        generalize ks[2]'(by omega) = k2 at z2 hp2 hg2 hmem2
        generalize ks[1]'(by omega) = k1 at HZ1 hp1 hg1
        have hsy1 : isSy (c.ds.drop k1) = true := by rw [← hg1]; exact HKD.out.2
        have HS4i := mkC (HPS.out.stp.inv.stp hkb)
        obtain ⟨_, hsm1, hsm2⟩ := kid_small HOK.out.2 (isDf_ls HDF.out) hmem2
        have HEX := mkC (exA HE.out false w4 HS4i.out.inv HAB1.out ⟨hp2.1, hp2.2.mono (show 100 - 1 ≤ 100 by omega)⟩ (by have := HBB.out; omega) (by have := HBB.out; omega))
        have HG2 := mkC (And.intro hg2 (And.intro hmem2 (And.intro hsm1 hsm2)))
        obtain ⟨m, db, dof, hdp, hmx, hm, hmc⟩ := HDV.out.nmAt hp1.1 hp1.2 hsy1
        have HM := mkC hm
        have HMC := mkC hmc
        have hk1d := hp1.1
        have HKB := mkC hkb
        obtain rfl : dp = some ⟨db, dof, none⟩ := hdp0.symm.trans hdp
        rw [hk3]
        clear hko hkb hkat hkp hkl hkix hp2 hp1 hg1 hg2 hmem2 hsy1 hsm1 hsm2 hdp hmx hm hmc hk3
        go_wp2_with fail
        refine HEX.out.mono ?_
        rintro e w5 ⟨⟨u, rfl⟩, s5, h4, h5, h6⟩
        have HX5 := mkC (And.intro h4 (And.intro h5 h6))
        have z1 := HZ1.out s5 w5 h4.fr
        have u2 := HMC.out w5 h4.inv.bel
        have hab5 : s5.ab = ab := h4.sm.ab.trans HAB1.out
        have HGL := mkC (l5global_c m w5 h4.inv HM.out)
        rw [hab5] at HGL
        have HAB5 := mkC hab5
        clear h4 h5 h6 hab5
        go_wp2_with fail
        refine HGL.out.mono ?_
        rintro e w6 ⟨⟨z, rfl, _⟩, hb6⟩
        have HS6 := mkC (HX5.out.1.inv.stp hb6)
        have HDR := mkC (dropA (s := s5) (ab := ab) 4 z 1 w6 HS6.out.inv HAB5.out (by have := HBB.out; have := HG2.out; omega))
        clear hb6
        go_wp2_with fail
        refine HDR.out.mono ?_
        rintro e w7 ⟨rfl, s7, h7, h8, _⟩
        have HF : Hid (∃ s, Ps c 2 st1 W7 (fs.take (i + 1)) s w7 ∧ Ix s w7 (some ⟨g, o, none⟩) fs.length cc fs) := ⟨s7, by rw [HTK.out]; exact HPS.out.def_ HS4.out.2.2.1 HDF.out HOK.out.2 (isDf_ls HDF.out) HG2.out.1 HG2.out.2.1 ⟨HS4i.out.trans HX5.out.1, HX5.out.2⟩ ((HS6.out.trans h7).mono (by omega)) h8, ((HX.out.step HS4i.out.fr).step HX5.out.1.fr).step (HS6.out.trans h7).fr⟩
        clear h7 h8
        go_wp2_with fail
        exact ⟨⟨i + 1, by omega, by go_num, Or.inl rfl, HF.out⟩, by simp [intOf]; omega⟩
       ·have t1 : ((i : Int) == (n : Int) - 1) = false := by simp; omega
        go_wp2_with fail
        refine HD.out.mono ?_
        rintro e w3 ⟨rfl, hw3⟩
        have hw3' := hw3.symm
        clear hw3
        subst hw3'
        go_wp2_with fail
        refine HKI.out.mono ?_
        rintro e w4 ⟨kp, kc, ks, rfl, hko, hkb, hkat, hkp, hkl⟩
        have hk3 : ks.length = 3 := by
         have h1 := HKD.out.1
         rw [← hkat] at h1
         simpa [Cp.at_] using h1
        obtain ⟨_, _, hkv, hkix⟩ := OwI.ix HPS.out.stp.inv hko
        cases hkv
        obtain ⟨kg, rfl, hkg, z2⟩ := P1.cell (i := 2) hko (by omega)
        have hp2 := hkp _ (List.getElem_mem (show 2 < ks.length by omega))
        have hp1 := hkp _ (List.getElem_mem (show 1 < ks.length by omega))
        have hg1 := at_get (j := 1) hkat (by omega)
        have hg2 := at_get (j := 2) hkat (by omega)
        have hmem2 : c.ds.drop (ks[2]'(by omega)) ∈ kidsOf 100 (c.ds.drop x) := by rw [← hkat]; exact List.mem_map_of_mem (List.getElem_mem _)
        have HZ1 : Hid (∀ s w', Fr s1 s w4 w' → w'.cell? ⟨kg, 1, none⟩ = some (.int .i64 ((ks[1]'(by omega) : Nat) : Int))) := fun s w' hf => by
         obtain ⟨g', o', he, _, hc⟩ := (hkix.step hf).at_ (i := 1) (by omega)
         cases he
         simpa using hc
        generalize ks[2]'(by omega) = k2 at z2 hp2 hg2 hmem2
        generalize ks[1]'(by omega) = k1 at HZ1 hp1 hg1
        have hsy1 : isSy (c.ds.drop k1) = true := by rw [← hg1]; exact HKD.out.2
        have HS4i := mkC (HPS.out.stp.inv.stp hkb)
        obtain ⟨_, hsm1, hsm2⟩ := kid_small HOK.out.2 (isDf_ls HDF.out) hmem2
        have HEX := mkC (exA HE.out false w4 HS4i.out.inv HAB1.out ⟨hp2.1, hp2.2.mono (show 100 - 1 ≤ 100 by omega)⟩ (by have := HBB.out; omega) (by have := HBB.out; omega))
        have HG2 := mkC (And.intro hg2 (And.intro hmem2 (And.intro hsm1 hsm2)))
        obtain ⟨m, db, dof, hdp, hmx, hm, hmc⟩ := HDV.out.nmAt hp1.1 hp1.2 hsy1
        have HM := mkC hm
        have HMC := mkC hmc
        have hk1d := hp1.1
        have HKB := mkC hkb
        obtain rfl : dp = some ⟨db, dof, none⟩ := hdp0.symm.trans hdp
        rw [hk3]
        clear hko hkb hkat hkp hkl hkix hp2 hp1 hg1 hg2 hmem2 hsy1 hsm1 hsm2 hdp hmx hm hmc hk3
        go_wp2_with fail
        refine HEX.out.mono ?_
        rintro e w5 ⟨⟨u, rfl⟩, s5, h4, h5, h6⟩
        have HX5 := mkC (And.intro h4 (And.intro h5 h6))
        have z1 := HZ1.out s5 w5 h4.fr
        have u2 := HMC.out w5 h4.inv.bel
        have hab5 : s5.ab = ab := h4.sm.ab.trans HAB1.out
        have HGL := mkC (l5global_c m w5 h4.inv HM.out)
        rw [hab5] at HGL
        have HAB5 := mkC hab5
        clear h4 h5 h6 hab5
        go_wp2_with fail
        refine HGL.out.mono ?_
        rintro e w6 ⟨⟨z, rfl, _⟩, hb6⟩
        have HS6 := mkC (HX5.out.1.inv.stp hb6)
        have HDR := mkC (dropA (s := s5) (ab := ab) 4 z 1 w6 HS6.out.inv HAB5.out (by have := HBB.out; have := HG2.out; omega))
        clear hb6
        go_wp2_with fail
        refine HDR.out.mono ?_
        rintro e w7 ⟨rfl, s7, h7, h8, _⟩
        have HF : Hid (∃ s, Ps c 2 st1 W7 (fs.take (i + 1)) s w7 ∧ Ix s w7 (some ⟨g, o, none⟩) fs.length cc fs) := ⟨s7, by rw [HTK.out]; exact HPS.out.def_ HS4.out.2.2.1 HDF.out HOK.out.2 (isDf_ls HDF.out) HG2.out.1 HG2.out.2.1 ⟨HS4i.out.trans HX5.out.1, HX5.out.2⟩ ((HS6.out.trans h7).mono (by omega)) h8, ((HX.out.step HS4i.out.fr).step HX5.out.1.fr).step (HS6.out.trans h7).fr⟩
        clear h7 h8
        go_wp2_with fail
        exact ⟨⟨i + 1, by omega, by go_num, Or.inl rfl, HF.out⟩, by simp [intOf]; omega⟩
     ·have HIN_ : Hid (i = n) := by unfold Hid; omega
      rw [List.take_of_length_le (by rw [HLN.out]; omega)] at hs1
      have hrs := hs1.rs
      rw [HS4.out.2.1, HGM.out, HAT.out] at hrs
      have HRS := mkC hrs
      have HPS := mkC hs1
      have hab1 : s1.ab = ab := hs1.stp.sm.ab.trans HS4.out.1
      have hfb1 : s1.tp.b = fb := hs1.stp.sm.tp.1.trans HS4.out.2.2.2
      have hnf1 : 1 ≤ s1.nf := by rw [← HS5.out.1]; exact hs1.stp.sm.nf
      have HAF := mkC (And.intro hab1 (And.intro hfb1 hnf1))
      clear hs1 hx1 hrs hab1 hfb1 hnf1 hS
      rcases hev with rfl | ⟨_, rfl⟩
      ·have HPU := mkC (pushA (s := s1) (ab := ab) 17 0 0 0 wr HPS.out.stp.inv HAF.out.1 (by have := HSB.out; omega))
       go_wp2_with fail
       refine HPU.out.mono ?_
       rintro e w8 ⟨⟨u, rfl⟩, s8, h7, h8, _⟩
       have HDO := mkC (doneA (s := s8) (ab := ab) true w8 h7.inv (h7.sm.ab.trans HAF.out.1) (by have := HSB.out; omega))
       have H78 := mkC (And.intro h7 h8)
       clear h7 h8
       go_wp2_with fail
       refine HDO.out.mono ?_
       rintro e w9 ⟨⟨u2, rfl⟩, s9, h9, h10⟩
       obtain ⟨fng, nf, fnc, cvp, cn, cvc, v0, v1, v2, e7, hnf1, hnfb, e3, c0, c1, c2, ef, HP⟩ := h9.inv.endF (ab := ab) (fb := fb) (s0 := st1) (by have := HSB.out; omega) (h9.sm.ab.trans (H78.out.1.sm.ab.trans HAF.out.1)) (h9.sm.tp.1.trans (H78.out.1.sm.tp.1.trans HAF.out.2.1)) (Nat.le_trans HAF.out.2.2 (Nat.le_trans H78.out.1.sm.nf h9.sm.nf)) HG.out HS5.out.2.1 HS5.out.2.2.1 ((HRS.out.then_ H78.out.2).then_ h10)
       clear h9 h10
       go_wp2_with fail
       go_region
       all_goals go_wp2_with fail
       all_goals go_ret
       all_goals exact ⟨ab, rfl, HP.out _ _ _, by rw [HAB.out]; exact Nat.le_refl _⟩
      ·obtain ⟨fng, nf, fnc, cvp, cn, cvc, v0, v1, v2, e7, hnf1, hnfb, e3, c0, c1, c2, ef, HP⟩ := HPS.out.stp.inv.endF (ab := ab) (fb := fb) (s0 := st1) (by have := HSB.out; omega) HAF.out.1 HAF.out.2.1 HAF.out.2.2 HG.out HS5.out.2.1 HS5.out.2.2.1 HRS.out
       go_wp2_with fail
       go_region
       all_goals go_wp2_with fail
       all_goals go_ret
       all_goals exact ⟨ab, rfl, HP.out _ _ _, by rw [HAB.out]; exact Nat.le_refl _⟩
set_option maxHeartbeats 2000000 in
theorem l5program_c {c : Cx} (dp : Option Addr) (hdp0 : c.dp = dp) (hT : TxB c) (w : World) (hb0 : Below c.w0.heap.size c.w0 w) (hda : Da c.w0 c.dp c.dn c.dc c.ds) (hn : c.dn ≤ 3000) (hrow : rowOf c.ds = true) :
  Calls Tryz.prog 15 #[.slice dp c.dn c.dc] w fun e w' => ∃ ab, e = .returned (.pointer (some ⟨ab, 0, none⟩)) ∧ PaP c ab w' := by
 have H1 := mkC (l5pass_c dp hdp0 hT none 0 0 [] w hb0 hda hn hrow (nil_own _ _ _ _) rfl (by omega))
 have H2 : Hid (∀ (bp : Option Addr) (bl bc : Nat) (bx : List Bool) (w1 : World), Below c.w0.heap.size c.w0 w1 → w1.ownsRow c.w0.heap.size 4 1 (.slice bp bl bc) bl (bx.map Value.bool) → bx.length = bl → bl ≤ 3000 → Calls Tryz.prog 27 #[.slice dp c.dn c.dc, .slice bp bl bc] w1 fun e w' => ∃ ab, e = .returned (.pointer (some ⟨ab, 0, none⟩)) ∧ PaP c ab w' ∧ w1.heap.size ≤ ab) := fun bp bl bc bx w1 h1 h2 h3 h4 => l5pass_c dp hdp0 hT bp bl bc bx w1 h1 hda hn hrow h2 h3 h4
 clear hT hb0 hda hrow hdp0
 go_enter Tryz.func15, Tryz.ntmps15
 go_wp2_with fail
 refine H1.out.mono ?_
 rintro e w1 ⟨ab1, rfl, ⟨hb1, hlt1, ⟨bp, bl, bc, bx, hbl, e2, hbo, hb3⟩, _⟩, _⟩
 have HC := mkC (H2.out bp bl bc bx w1 hb1 hbo hbl hb3)
 clear hb1 hlt1 hbo hbl hb3
 go_wp2_with fail
 refine HC.out.mono ?_
 rintro e w2 ⟨ab2, rfl, hp, _⟩
 have HP := mkC hp
 clear hp
 go_wp2_with fail
 go_ret
 exact ⟨ab2, rfl, HP.out⟩
theorem skipN_pre {f : List Dt → Option (List Dt)} (hf : ∀ l r, f l = some r → ∃ pre, l = pre ++ r ∧ ∀ x ∈ pre, goodB x = true) : ∀ (n : Nat) (l r : List Dt), skipN f n l = some r → ∃ pre, l = pre ++ r ∧ ∀ x ∈ pre, goodB x = true
 | 0, l, r, h => by
  simp only [skipN] at h
  cases h
  exact ⟨[], rfl, fun x hx => by cases hx⟩
 | n + 1, l, r, h => by
  simp only [skipN] at h
  cases e : f l with
  | none => rw [e] at h; cases h
  | some r' =>
   rw [e] at h
   obtain ⟨p1, h1, h2⟩ := hf l r' e
   obtain ⟨p2, h3, h4⟩ := skipN_pre hf n r' r h
   refine ⟨p1 ++ p2, by rw [h1, h3, List.append_assoc], fun x hx => ?_⟩
   rcases List.mem_append.1 hx with hx | hx
   ·exact h2 x hx
   ·exact h4 x hx
theorem skip_pre : ∀ (k : Nat) (l r : List Dt), skip k l = some r → ∃ pre, l = pre ++ r ∧ ∀ x ∈ pre, goodB x = true := by
 intro k
 induction k with
 | zero =>
  intro l r h
  obtain ⟨d, q, rfl, hg, h1⟩ := skip_some h
  rcases h1 with ⟨_, rfl⟩ | ⟨k', hk, _⟩
  ·exact ⟨[d], rfl, fun x hx => by rw [List.mem_singleton.1 hx]; exact hg⟩
  ·omega
 | succ k ih =>
  intro l r h
  obtain ⟨d, q, rfl, hg, h1⟩ := skip_some h
  rcases h1 with ⟨_, rfl⟩ | ⟨k', hk, _, hq⟩
  ·exact ⟨[d], rfl, fun x hx => by rw [List.mem_singleton.1 hx]; exact hg⟩
  ·obtain rfl : k = k' := by omega
   obtain ⟨p, h2, h3⟩ := skipN_pre ih _ _ _ hq
   refine ⟨d :: p, by rw [h2]; rfl, fun x hx => ?_⟩
   rcases List.mem_cons.1 hx with rfl | hx
   ·exact hg
   ·exact h3 x hx
theorem row_good : ∀ (n : Nat) (l : List Dt), l.length ≤ n → rowOf l = true → ∀ x ∈ l, goodB x = true := by
 intro n
 induction n with
 | zero =>
  intro l h _ x hx
  obtain rfl : l = [] := List.eq_nil_of_length_eq_zero (by omega)
  cases hx
 | succ n ih =>
  intro l h hr x hx
  cases l with
  | nil => cases hx
  | cons d q =>
   obtain ⟨r, h1, h2⟩ := rowOf_next _ hr (by simp)
   obtain ⟨m, h3, h4, h5⟩ := skip_eats 100 _ _ h1
   have h6 : r.length = (d :: q).length - m := by rw [h5, List.length_drop]
   obtain ⟨p, h7, h8⟩ := skip_pre 100 _ _ h1
   rw [h7] at hx
   rcases List.mem_append.1 hx with hx | hx
   ·exact h8 x hx
   ·exact ih r (by omega) h2 x hx
theorem good_short {d : Dt} (h : goodB d = true) : d.text.length ≤ 100 := by
 unfold goodB at h
 split at h
 ·simp at h; have := h.1.2; simp [this]
 ·split at h
  ·simp at h; have := h.1.2; simp [this]
  ·split at h
   ·unfold symTextB at h
    simp only [Bool.and_eq_true, decide_eq_true_eq] at h
    exact h.1.2.1.1.1.2
   ·split at h
    ·simp at h; have := h.1.2; simp [this]
    ·cases h
def bl (x y : List Int) : Bool := Go.Op.bytesLess (strOfNums x).toList (strOfNums y).toList
def posU : List (List Int) → List Int → Nat
 | [], _ => 0
 | y :: l, x => if bl y x = true then posU l x + 1 else 0
def insU (l : List (List Int)) (x : List Int) : List (List Int) := if l[posU l x]? = some x then l else l.take (posU l x) ++ x :: l.drop (posU l x)
def sortU (ns : List (List Int)) : List (List Int) := ns.foldl insU []
def unb (ds : List Dt) : Option (List (List Int)) := if validB ds = true then pgR ds else none
theorem posU_le (x : List Int) : ∀ l : List (List Int), posU l x ≤ l.length
 | [] => Nat.le_refl _
 | y :: l => by
  unfold posU
  split
  ·have := posU_le x l; simp; omega
  ·simp
theorem posU_eq (x : List Int) : ∀ (l : List (List Int)) (a : Nat), a ≤ l.length → (∀ j, j < a → bl (l.getD j []) x = true) → (a < l.length → bl (l.getD a []) x = false) → posU l x = a
 | [], a, h, _, _ => by simp at h; subst h; rfl
 | y :: l, 0, _, _, h2 => by
  have := h2 (by simp)
  simp at this
  unfold posU
  simp [this]
 | y :: l, a + 1, h, h1, h2 => by
  have h3 := h1 0 (by omega)
  simp at h3
  unfold posU
  rw [if_pos h3, posU_eq x l a (by simpa using h) (fun j hj => by simpa using h1 (j + 1) (by omega)) (fun hl => by simpa using h2 (by simpa using hl))]
theorem insU_len (l : List (List Int)) (x : List Int) : (insU l x).length ≤ l.length + 1 := by
 unfold insU
 split
 ·omega
 ·have := posU_le x l
  simp
  omega
structure OutS (B : Nat) (w : World) (v : Value) (xs : List (Value × List Int)) : Prop where
 row : w.ownsRow B 34 1 v xs.length (xs.map Prod.fst)
 txt : ∀ x ∈ xs, OwT w B x.1 x.2 ∧ Rg x.2 ∧ 1 ≤ x.2.length ∧ x.2.length ≤ 100
 nil : xs = [] → v = .slice none 0 0
theorem OutS.weak {B B' : Nat} {w : World} {v : Value} {xs : List (Value × List Int)} (h : OutS B w v xs) (hB : B' ≤ B) : OutS B' w v xs :=
 ⟨owns_weak h.row hB, fun x hx => ⟨owns_weak (h.txt x hx).1 hB, (h.txt x hx).2⟩, h.nil⟩
theorem OutS.below {B : Nat} {w w' : World} {v : Value} {xs : List (Value × List Int)} (h : OutS B w v xs) (hb : Below w.heap.size w w') : OutS B w' v xs :=
 ⟨owns_below h.row hb, fun x hx => ⟨owns_below (h.txt x hx).1 hb, (h.txt x hx).2⟩, h.nil⟩
theorem owt_conv {w : World} {B : Nat} {v : Value} {x : List Int} (h : OwT w B v x) (h1 : 1 ≤ x.length) : ∃ p cc, v = .slice p x.length cc ∧ ∀ w', Below w.heap.size w w' → (convert 34 9 (.slice p x.length cc)).run Tryz.prog w' = .ok (.string (strOfNums x)) w' := by
 obtain ⟨p, cc, e⟩ := owns_form h
 subst e
 refine ⟨p, cc, rfl, fun w' hb => ?_⟩
 have h2 := owns_below h hb
 obtain ⟨_, _, h3⟩ := owns_cells h2
 obtain ⟨g, rfl, _, _, _, h4⟩ := h3 (by omega)
 exact run_convert_bytes_arg (P := Tryz.prog) w' 34 5 Tryz.underlying34 Tryz.underlying5 g 0 x.length cc x rfl (fun i hi => by
  rw [Nat.zero_add, h4 i (by omega), List.getElem?_map, List.getElem?_eq_getElem hi, List.getD_eq_getElem?_getD, List.getElem?_eq_getElem hi]
  rfl) 9 Tryz.underlying9
theorem OutS.at_ {B : Nat} {w : World} {v : Value} {xs : List (Value × List Int)} (h : OutS B w v xs) {j : Nat} (hj : j < xs.length) : ∃ g cc p pc, v = .slice (some ⟨g, 0, none⟩) xs.length cc ∧ g < w.heap.size ∧ w.cell? ⟨g, j, none⟩ = some (.slice p (xs[j]'hj).2.length pc) ∧ ∀ w', Below w.heap.size w w' → (convert 34 9 (.slice p (xs[j]'hj).2.length pc)).run Tryz.prog w' = .ok (.string (strOfNums (xs[j]'hj).2)) w' := by
 obtain ⟨q, cc, e⟩ := owns_form h.row
 have hr := h.row
 rw [e] at hr
 obtain ⟨_, _, h3⟩ := owns_cells hr
 obtain ⟨g, rfl, h4, _, _, h5⟩ := h3 (by omega)
 have ht := h.txt _ (List.getElem_mem hj)
 obtain ⟨p, pc, e2, h6⟩ := owt_conv ht.1 ht.2.2.1
 refine ⟨g, cc, p, pc, e, h4, ?_, h6⟩
 rw [h5 j (by omega), List.getElem?_map, List.getElem?_eq_getElem hj, ← e2]
 rfl
theorem OutS.put {B a : Nat} {w w' : World} {v v' vb : Value} {xs : List (Value × List Int)} {x : List Int} (h : OutS B w v xs) (ha : a ≤ xs.length) (hr : w'.ownsRow B 34 1 v' (a + 1 + (xs.length - a)) ((xs.map Prod.fst).take a ++ [vb] ++ (xs.map Prod.fst).drop a)) (ht : ∀ y ∈ xs, OwT w' B y.1 y.2) (hvb : OwT w' B vb x) (hx : Rg x ∧ 1 ≤ x.length ∧ x.length ≤ 100) : OutS B w' v' (xs.take a ++ (vb, x) :: xs.drop a) := by
 refine ⟨?_, fun y hy => ?_, fun e => by simp at e⟩
 ·have e1 : (xs.take a ++ (vb, x) :: xs.drop a).length = a + 1 + (xs.length - a) := by simp; omega
  have e2 : (xs.take a ++ (vb, x) :: xs.drop a).map Prod.fst = (xs.map Prod.fst).take a ++ [vb] ++ (xs.map Prod.fst).drop a := by simp
  rw [e1, e2]
  exact hr
 ·rcases List.mem_append.1 hy with h1 | h1
  ·have h2 := List.mem_of_mem_take h1
   exact ⟨ht y h2, (h.txt y h2).2⟩
  ·rcases List.mem_cons.1 h1 with rfl | h1
   ·exact ⟨hvb, hx⟩
   ·have h2 := List.mem_of_mem_drop h1
    exact ⟨ht y h2, (h.txt y h2).2⟩
theorem snd_put {a : Nat} {vb : Value} {xs : List (Value × List Int)} {x : List Int} : (xs.take a ++ (vb, x) :: xs.drop a).map Prod.snd = (xs.map Prod.snd).take a ++ x :: (xs.map Prod.snd).drop a := by simp
theorem appSub_at (w : World) {ops : Array Oper} {rest : List Oper} {o : Oper} {a : Act} {Q : Exit → Act → World → Prop} (hgd : o.guard = none) (s x : Operand) (t e : TypeId)
  (ho : o.op = .call { callee := .builtin .append, args := #[s, x], argTypes := #[t, t] }) (z : Value) (size bytes : Nat) (ht : Tryz.prog.underlying t = some (.slice e)) (hi : (Tryz.prog.info? e).map (fun i => (i.zero, i.size, i.bytes)) = some (some z, size, bytes)) (hzs : z.cells.size = size) (hsz : 0 < size)
  (B : Nat) (v : Value) (n : Nat) (xs : List Value) (hs : a.eval s = v) (hown : w.ownsRow B e size v n xs) (ad : Addr) (m c2 : Nat) (ys : List Value) (hx : a.eval x = .slice (some ad) m c2) (hl : ys.length = m * size) (hnews : ∀ j u, ys[j]? = some u → w.cell? (ad.add j) = some u) (h1 : ∀ y ∈ ys, y.oneCell' = true)
  (hlen : n + m ≤ maxLen) (hby : (n + m) * bytes ≤ 140737488355328) (hB : B ≤ w.heap.size)
  (h : ∀ v' w', w'.ownsRow B e size v' (n + m) (xs ++ ys) → Below B w w' → But w w' v → (∀ k, v'.ownBlock = some k → v.ownBlock = some k ∨ w.heap.size ≤ k) → w.heap.size ≤ w'.heap.size → wpList Tryz.prog ops Q rest (a.put o.dst v') w') : wpList Tryz.prog ops Q (o :: rest) a w := by
 obtain ⟨i, hi', hpr⟩ := Option.map_eq_some_iff.1 hi
 simp only [Prod.mk.injEq] at hpr
 refine wpList_append_own_at _ hgd s x t ho B e i z size bytes ht hi' hpr.1 hpr.2.1 hpr.2.2 hzs hsz v n xs hs hown ad m c2 ys hx hl hnews h1 hlen hby hB ?_
 intro v' w' k1 k2 _ k4
 have hbel : Below B w w' := (Below.refl _ _).grown k2 hB (owns_ge hown)
 refine h v' w' k1 hbel (fun k hk hne => k2.block k hk hne) (fun k hk => ?_) hbel.size
 rcases k4 with h5 | h5
 ·exact Or.inl (by rw [← h5]; exact hk)
 ·rw [h5] at hk
  cases hk
  exact Or.inr (Nat.le_refl _)
theorem fst_one {B : Nat} {w : World} {v : Value} {xs : List (Value × List Int)} (h : OutS B w v xs) : ∀ y ∈ xs.map Prod.fst, y.oneCell' = true := fun y hy => by
 obtain ⟨x, hx, rfl⟩ := List.mem_map.1 hy
 obtain ⟨p, cc, e⟩ := owns_form (h.txt x hx).1
 rw [e]
 rfl
theorem OutS.news {B g cc : Nat} {w : World} {xs : List (Value × List Int)} (h : OutS B w (.slice (some ⟨g, 0, none⟩) xs.length cc) xs) (hne : xs ≠ []) (a : Nat) : ∀ j u, ((xs.map Prod.fst).drop a)[j]? = some u → w.cell? ((⟨g, a, none⟩ : Addr).add j) = some u := fun j u hu => by
 obtain ⟨_, _, h3⟩ := owns_cells h.row
 have h0 : 0 < xs.length := List.length_pos_iff.2 hne
 obtain ⟨g', e, _, _, _, h5⟩ := h3 h0
 cases e
 rw [List.getElem?_drop] at hu
 have hj := (List.getElem?_eq_some_iff.1 hu).1
 simp at hj
 have hadd : (⟨g, a, none⟩ : Addr).add j = ⟨g, a + j, none⟩ := by unfold Addr.add; split <;> simp_all
 rw [hadd, h5 (a + j) (by omega)]
 exact hu
def UnP (ds : List Dt) (w w' : World) (e : Ending) : Prop := Below w.heap.size w w' ∧ ((unb ds = none ∧ e = .returned (.slice none 0 0)) ∨ ∃ ns v xs, unb ds = some ns ∧ e = .returned v ∧ OutS w.heap.size w' v xs ∧ xs.map Prod.snd = sortU ns)
def UnS (W0 : World) (ub : List Nm) (i : Nat) (ov : Value) (w : World) : Prop := Below W0.heap.size W0 w ∧ ∃ xs, OutS W0.heap.size w ov xs ∧ xs.map Prod.snd = ((ub.map (·.x)).take i).foldl insU [] ∧ xs.length ≤ i
theorem foldl_snoc {ub : List Nm} {i : Nat} (hi : i < ub.length) (l : List (List Int)) (h : l = ((ub.map (·.x)).take i).foldl insU []) : ((ub.map (·.x)).take (i + 1)).foldl insU [] = insU l (ub[i]'hi).x := by
 have hi' : i < (ub.map (·.x)).length := by simpa using hi
 rw [List.take_succ_eq_append_getElem hi', List.foldl_append, ← h]
 simp
theorem OutS.but {B : Nat} {w w' : World} {v u : Value} {xs : List (Value × List Int)} {B2 n : Nat} {us : List Value} (h : OutS B w v xs) (hu : w.ownsRow B2 34 1 u n us) (ha : Apt v u) (hb : But w w' u) : OutS B w' v xs :=
 ⟨owns_but h.row ha hb, fun x hx => ⟨owns_but (h.txt x hx).1 (apt_ty (h.txt x hx).1 hu (by decide)) hb, (h.txt x hx).2⟩, h.nil⟩
theorem but_below {B : Nat} {w w' : World} (hb : Below B w w') (ht : But w w' (.slice none 0 0)) : Below w.heap.size w w' := ⟨hb.os, hb.tape, hb.output, hb.size, fun k hk => ht k hk (fun e => by cases e)⟩
theorem OutS.ins1 {W0 w5 w6 w7 w8 : World} {ov v6 vb : Value} {xs : List (Value × List Int)} {a : Nat} {x : List Int} (hW : Below W0.heap.size W0 w5) (h5 : OutS W0.heap.size w5 ov xs) (h6 : w6.ownsRow W0.heap.size 34 1 v6 a ((xs.map Prod.fst).take a)) (b6 : Below W0.heap.size w5 w6) (t6 : But w5 w6 (.slice none 0 0)) (l6 : ∀ k, v6.ownBlock = some k → (Value.slice none 0 0).ownBlock = some k ∨ w5.heap.size ≤ k) (h7 : Ow w7 w6.heap.size vb x) (b7 : Below w6.heap.size w6 w7) (b8 : Below W0.heap.size w7 w8) (t8 : But w7 w8 v6) :
  OutS W0.heap.size w8 ov xs ∧ OwT w8 W0.heap.size vb x ∧ Below W0.heap.size W0 w8 := by
 have b56 := but_below b6 t6
 have h57 : OutS W0.heap.size w7 ov xs := (h5.below b56).below b7
 have h67 := owns_below h6 b7
 have hap : Apt ov v6 := fun k hk hu => by
  rcases l6 k hu with h | h
  ·cases h
  ·have := (owns_lt h5.row k hk).1; omega
 have hvw : OwT w7 W0.heap.size vb x := owns_weak h7 (Nat.le_trans hW.size (Nat.le_trans b56.size (Nat.le_refl _)))
 exact ⟨h57.but h67 hap t8, owns_but hvw (apt_ty hvw h67 (by decide)) t8, ((hW.trans b6).trans (b7.mono (Nat.le_trans hW.size b56.size))).trans b8⟩
theorem OutS.ins2 {W0 w8 w9 : World} {ov v8 v9 vb : Value} {xs : List (Value × List Int)} {a : Nat} {x : List Int} (h : OutS W0.heap.size w8 ov xs ∧ OwT w8 W0.heap.size vb x ∧ Below W0.heap.size W0 w8) (ha : a ≤ xs.length) (h8 : w8.ownsRow W0.heap.size 34 1 v8 (a + 1) ((xs.map Prod.fst).take a ++ [vb])) (h9 : w9.ownsRow W0.heap.size 34 1 v9 (a + 1 + (xs.length - a)) ((xs.map Prod.fst).take a ++ [vb] ++ (xs.map Prod.fst).drop a)) (b9 : Below W0.heap.size w8 w9) (t9 : But w8 w9 v8) (hx : Rg x ∧ 1 ≤ x.length ∧ x.length ≤ 100) :
  OutS W0.heap.size w9 v9 (xs.take a ++ (vb, x) :: xs.drop a) ∧ Below W0.heap.size W0 w9 :=
 ⟨h.1.put ha h9 (fun y hy => owns_but (h.1.txt y hy).1 (apt_ty (h.1.txt y hy).1 h8 (by decide)) t9) (owns_but h.2.1 (apt_ty h.2.1 h8 (by decide)) t9) hx, h.2.2.trans b9⟩
theorem UnS.new {W0 w9 : World} {ub : List Nm} {i a : Nat} {v9 vb : Value} {xs : List (Value × List Int)} {x : List Int} (h : OutS W0.heap.size w9 v9 (xs.take a ++ (vb, x) :: xs.drop a) ∧ Below W0.heap.size W0 w9) (hf : ((ub.map (·.x)).take (i + 1)).foldl insU [] = insU (xs.map Prod.snd) x) (hp : posU (xs.map Prod.snd) x = a) (hn : (xs.map Prod.snd)[a]? ≠ some x) (hl : xs.length ≤ i) : UnS W0 ub (i + 1) v9 w9 := by
 have ha : a ≤ xs.length := by have := posU_le x (xs.map Prod.snd); rw [hp] at this; simpa using this
 refine ⟨h.2, _, h.1, ?_, by simp; omega⟩
 rw [snd_put, hf]
 unfold insU
 rw [hp, if_neg hn]
theorem appNone_at (w : World) {ops : Array Oper} {rest : List Oper} {o : Oper} {a : Act} {Q : Exit → Act → World → Prop} (hgd : o.guard = none) (s x : Operand) (t e : TypeId)
  (ho : o.op = .call { callee := .builtin .append, args := #[s, x], argTypes := #[t, t] }) (z : Value) (size bytes : Nat) (ht : Tryz.prog.underlying t = some (.slice e)) (hi : (Tryz.prog.info? e).map (fun i => (i.zero, i.size, i.bytes)) = some (some z, size, bytes))
  (B : Nat) (v : Value) (n : Nat) (xs : List Value) (hs : a.eval s = v) (hown : w.ownsRow B e size v n xs) (hx : a.eval x = .slice none 0 0) (h : wpList Tryz.prog ops Q rest (a.put o.dst v) w) : wpList Tryz.prog ops Q (o :: rest) a w := by
 obtain ⟨i, hi', hpr⟩ := Option.map_eq_some_iff.1 hi
 exact wpList_append_own_none hgd s x t ho B e i size ht hi' v n xs hs hown hx h
theorem nm_conv {c : Cx} {m : Nm} (h : NmI c m) : ∀ w', Below c.w0.heap.size c.w0 w' → (convert 34 9 (.slice m.p m.n m.c)).run Tryz.prog w' = .ok (.string (strOfNums m.x)) w' := fun _ hb => conv_nm h hb
set_option maxRecDepth 20000 in
set_option maxHeartbeats 8000000 in
theorem specUnbound_c (p : Option Addr) (n cc : Nat) (ds : List Dt) (w : World) (hD : Da w p n cc ds) : Calls Tryz.prog 5 #[.slice p n cc] w fun e w' => UnP ds w w' e := by
 have HV := mkC (valid6 p n cc ds w hD)
 cases hv : validB ds with
 | false =>
  rw [hv] at HV
  have HU : Hid (unb ds = none) := by unfold Hid unb; rw [hv]; rfl
  clear hv hD
  go_enter Tryz.func5, Tryz.ntmps5
  go_wp2_with fail
  refine HV.out.mono ?_
  rintro e w1 ⟨rfl, hb1⟩
  have HB1 := mkC hb1
  clear hb1
  go_wp2_with fail
  go_ret
  exact ⟨HB1.out, Or.inl ⟨HU.out, rfl⟩⟩
 | true =>
  rw [hv] at HV
  have hvv : ds.length ≤ 3000 ∧ rowOf ds = true := by unfold validB at hv; simpa using hv
  have hT : TxB ⟨w, p, n, cc, ds⟩ := fun x hx => good_short (row_good _ _ (Nat.le_refl _) hvv.2 x hx)
  have HP : Hid (∀ w1, Below w.heap.size w w1 → Calls Tryz.prog 15 #[.slice p n cc] w1 fun e w' => ∃ ab, e = .returned (.pointer (some ⟨ab, 0, none⟩)) ∧ PaP ⟨w, p, n, cc, ds⟩ ab w') := fun w1 hb => l5program_c (c := ⟨w, p, n, cc, ds⟩) p rfl hT w1 hb hD (by rw [← hD.len]; exact hvv.1) hvv.2
  have HUN : Hid (unb ds = pgR ds) := by unfold Hid unb; rw [hv]; rfl
  clear hv hD hvv hT
  go_enter Tryz.func5, Tryz.ntmps5
  go_wp2_with fail
  refine HV.out.mono ?_
  rintro e w1 ⟨rfl, hb1⟩
  have HC := mkC (HP.out w1 hb1)
  clear hb1
  go_wp2_with fail
  refine HC.out.mono ?_
  rintro e W0 ⟨ab, rfl, hb2, hab, _, hm⟩
  have HB2 : Hid (Below w.heap.size w W0) := hb2
  cases hpg : pgR ds with
  | none =>
   rw [show pgR (Cx.mk w p n cc ds).ds = none from hpg] at hm
   have e8 : W0.cell? ⟨ab, 8, none⟩ = some (.bool true) := hm
   have HU : Hid (unb ds = none) := HUN.out.trans hpg
   clear hb2 hm hpg
   go_wp2_with fail
   go_ret
   exact ⟨HB2.out, Or.inl ⟨HU.out, rfl⟩⟩
  | some ns =>
   rw [show pgR (Cx.mk w p n cc ds).ds = some ns from hpg] at hm
   obtain ⟨e8, up, uc, ub, e9, hub, hubn, hubx, hubl⟩ := hm
   have HU : Hid (unb ds = some ns) := HUN.out.trans hpg
   have HUB := mkC hub
   have HUN2 := mkC hubn
   have HUX := mkC hubx
   obtain ⟨un, hun⟩ : ∃ un, un = ub.length := ⟨_, rfl⟩
   have HUL := mkC hun
   rw [← hun] at e9 hubl
   clear hb2 hub hubn hubx hpg hun HC HP HV HUN
   go_wp2_with fail
   go_loopw [4, 5] (fun ov iv wr => ∃ i : Nat, i ≤ un ∧ iv = .int .i64 (i : Nat) ∧ Hid (UnS W0 ub i ov wr)) (fun _ iv _ => un - (intOf iv).toNat)
   case atStart => exact ⟨0, Nat.zero_le _, rfl, Below.refl _ _, [], ⟨nil_own _ _ _ _, (fun x hx => by cases hx), fun _ => rfl⟩, rfl, Nat.le_refl _⟩
   case round =>
    obtain ⟨i, hi, rfl, hS⟩ := hrel
    obtain ⟨w3, hw3⟩ : ∃ w3, w3 = wr := ⟨_, rfl⟩
    subst hw3
    have y9 := cell_keepC hS.out.1 hab e9
    by_cases hlt : i < un
    ·have hil : i < ub.length := by rw [← HUL.out]; exact hlt
     obtain ⟨ug, rfl, hug, _, _, hucs⟩ := (owns_cells HUB.out).2.2 (by omega)
     have yu0 := hucs i (by omega)
     unfold nmC at yu0
     rw [List.getElem?_map, List.getElem?_eq_getElem hil] at yu0
     have hnm := HUN2.out _ (List.getElem_mem hil)
     have HCV := mkC (nm_conv hnm)
     have HRG := mkC (And.intro hnm.rg (And.intro (show 1 ≤ (ub[i]'hil).x.length by rw [hnm.1.len]; exact hnm.2.1) (show (ub[i]'hil).x.length ≤ 100 by rw [hnm.1.len]; exact hnm.2.2)))
     have HBY := mkC hnm.1
     obtain ⟨hB3, xs, hout, hxn, hxl⟩ := hS.out
     have HFO := mkC (foldl_snoc hil _ hxn)
     generalize ub[i]'hil = m at yu0 HCV HRG HBY HFO hnm
     obtain ⟨mp, mn, mc, mx⟩ := m
     have yu : W0.cell? ⟨ug, i, none⟩ = some (.slice mp mn mc) := yu0
     have HB3 := mkC hB3
     have HOUT := mkC hout
     have HXN := mkC hxn
     have HMN : Hid (1 ≤ mn ∧ mn ≤ 100) := hnm.2
     simp only at HCV HRG HBY HFO
     have HBW : Hid (∀ w', Below w3.heap.size w3 w' → Below W0.heap.size W0 w') := fun w' h => hB3.trans (h.mono hB3.size)
     have HY9 : Hid (∀ w', Below w3.heap.size w3 w' → w'.cell? ⟨ab, 9, none⟩ = some (.slice (some ⟨ug, 0, none⟩) un uc) ∧ w'.cell? ⟨ug, i, none⟩ = some (.slice mp mn mc)) := fun w' h => ⟨cell_keepC (HBW.out w' h) hab e9, cell_keepC (HBW.out w' h) hug yu⟩
     have HK2 : Hid (∀ w', Below w3.heap.size w3 w' → (convert 34 9 (.slice mp mn mc)).run Tryz.prog w' = .ok (.string (strOfNums mx)) w') := fun w' h => HCV.out w' (HB2.out.trans ((HBW.out w' h).mono HB2.out.size))
     clear hS hucs yu0 hnm hB3 hout hxn e9 yu HCV hil
     by_cases hxe : xs = []
     ·subst hxe
      obtain rfl : u4 = .slice none 0 0 := HOUT.out.nil rfl
      have HPO : Hid (posU ((([] : List (Value × List Int))).map Prod.snd) mx = 0) := rfl
      have HNN : Hid (((([] : List (Value × List Int))).map Prod.snd)[0]? ≠ some mx) := by unfold Hid; simp
      go_upto_block 2 with fail
      go_cut [6] from 26 to 47 (fun av wc => av = .int .i64 ((0 : Nat) : Int) ∧ Hid (Below w3.heap.size w3 wc))
      case first =>
       go_wp2_with fail
       go_loopw [6] (fun av wr => av = .int .i64 ((0 : Nat) : Int) ∧ Hid (Below w3.heap.size w3 wr)) (fun _ _ => 0)
       case atStart => exact ⟨rfl, Below.refl _ _⟩
       case round =>
        obtain ⟨rfl, hBa⟩ := hrel
        go_wp2_with fail
        go_region
        all_goals go_wp2_with fail
        all_goals go_meet
        all_goals exact ⟨rfl, below_drewC hBa.out⟩
      case rest =>
       obtain ⟨w4, hw4⟩ : ∃ w4, w4 = wc := ⟨_, rfl⟩
       subst hw4
       obtain ⟨rfl, HB4⟩ := hcut
       obtain ⟨y9a, yua⟩ := HY9.out w4 HB4.out
       have HW5 : Hid (Below W0.heap.size W0 w4.drew) := HBW.out _ (below_drewC HB4.out)
       have HO5 : Hid (OutS W0.heap.size w4.drew (.slice none 0 0) []) := ⟨nil_own _ _ _ _, (fun x hx => by cases hx), fun _ => rfl⟩
       have HB6 : Hid (Below w3.heap.size w3 w4.drew) := below_drewC HB4.out
       obtain ⟨y9b, yub⟩ := HY9.out w4.drew HB6.out
       have HCP := mkC (copyC mp mn mc mx w4.drew (HBY.out.below (HB2.out.trans ((HBW.out _ HB6.out).mono HB2.out.size))) (by have := HMN.out; omega))
       go_wp2_with fail
       go_region
       go_upto_region 16 with (at_builtin; refine appNone_at w4.drew rfl (.tmp 68) (.tmp 71) 24 34 rfl _ 1 24 Tryz.underlying24 infoSl W0.heap.size (.slice none 0 0) 0 [] (by simp [Act.eval]) (nil_own _ _ _ _) (by simp [Act.eval]) ?_)
       go_wp2_with fail
       refine HCP.out.mono ?_
       rintro e w7 ⟨vb, rfl, hvb, hb7⟩
       obtain ⟨vp, vc, hvf⟩ := owns_form hvb
       subst hvf
       have H7 := mkC (And.intro hvb hb7)
       have hB7 : W0.heap.size ≤ w7.heap.size := Nat.le_trans HW5.out.size hb7.size
       have HI8 : Hid (∀ w8, Below W0.heap.size w7 w8 → But w7 w8 (.slice none 0 0) → OutS W0.heap.size w8 (.slice none 0 0) [] ∧ OwT w8 W0.heap.size (.slice vp mx.length vc) mx ∧ Below W0.heap.size W0 w8) := fun w8 h1 h2 => OutS.ins1 (a := 0) (v6 := .slice none 0 0) HW5.out HO5.out (nil_own _ _ _ _) (Below.refl _ _) (fun _ _ _ => rfl) (fun k hk => Or.inl hk) H7.out.1 H7.out.2 h1 h2
       obtain ⟨mxl, hmxl⟩ : ∃ mxl, mxl = mx.length := ⟨_, rfl⟩
       rw [← hmxl] at HI8 ⊢
       clear hvb hb7 y9a yua y9b yub hmxl
       go_upto_region 17 with (at_builtin; refine appW_at w7 rfl (.tmp 73) (.tmp 82) 24 34 rfl _ 1 24 Tryz.underlying24 infoSl rfl (by decide) W0.heap.size (.slice none 0 0) 0 [] (by simp [Act.eval]) (nil_own _ _ _ _) #[.slice vp mxl vc] rfl (by simp [Value.oneCell']) (by simp [Act.eval]) (by unfold maxLen; omega) (by omega) hB7 ?_; intro v' w8 ho hb8 hbt hloc hsz; obtain ⟨p8, c8, hv8⟩ := owns_form ho; subst hv8; have H8 := mkC (HI8.out w8 hb8 hbt); have HR8 : Hid (w8.ownsRow W0.heap.size 34 1 (.slice p8 (0 + 1) c8) (0 + 1) ([] ++ [.slice vp mxl vc])) := ho; clear ho hb8 hbt hloc hsz)
       have HF : Hid (UnS W0 ub (i + 1) (.slice p8 (0 + 1) c8) w8) := UnS.new (a := 0) (OutS.ins2 (a := 0) H8.out (Nat.le_refl _) HR8.out HR8.out (Below.refl _ _) (fun _ _ _ => rfl) HRG.out) HFO.out HPO.out HNN.out (Nat.zero_le _)
       go_wp2_with (at_builtin; refine appNone_at w8 rfl (.tmp 84) (.tmp 87) 24 34 rfl _ 1 24 Tryz.underlying24 infoSl W0.heap.size (.slice p8 (0 + 1) c8) (0 + 1) ([] ++ [.slice vp mxl vc]) (by simp [Act.eval]) HR8.out (by simp [Act.eval]) ?_)
       exact ⟨⟨i + 1, by omega, by go_num, HF.out⟩, by simp [intOf]; omega⟩
     ·have hk0 : 0 < xs.length := List.length_pos_iff.2 hxe
      obtain ⟨g, gc, _, _, hov, hg, _, _⟩ := HOUT.out.at_ hk0
      subst hov
      obtain ⟨k, hk⟩ : ∃ k, k = xs.length := ⟨_, rfl⟩
      have HK := mkC hk
      have hkc : k ≤ gc := by rw [hk]; exact (owns_cells HOUT.out.row).1
      have HXE := mkC hxe
      rw [← hk] at hk0 hxl ⊢
      clear hxe hk
      go_upto_block 2 with fail
      go_cut [6] from 26 to 47 (fun av wc => ∃ a : Nat, a ≤ k ∧ av = .int .i64 (a : Nat) ∧ Hid (Below w3.heap.size w3 wc ∧ posU (xs.map Prod.snd) mx = a))
      case first =>
       go_wp2_with fail
       go_loopw [6] (fun av wr => ∃ a : Nat, a ≤ k ∧ av = .int .i64 (a : Nat) ∧ Hid (Below w3.heap.size w3 wr) ∧ Hid (∀ j, j < a → bl ((xs.map Prod.snd).getD j []) mx = true)) (fun av _ => k - (intOf av).toNat)
       case atStart => exact ⟨0, Nat.zero_le _, rfl, Below.refl _ _, fun j hj => absurd hj (Nat.not_lt_zero j)⟩
       case round =>
        obtain ⟨a, ha, rfl, hBa, hJ⟩ := hrel
        by_cases hak : a < k
        ·have hal : a < xs.length := by rw [← HK.out]; exact hak
         obtain ⟨g', gc', yp, ypc, hov, _, q0, kq⟩ := (HOUT.out.below hBa.out).at_ hal
         cases hov
         have hga : g < wr.heap.size := Nat.lt_of_lt_of_le hg hBa.out.size
         obtain ⟨y9a, yua⟩ := HY9.out wr hBa.out
         have k1 := kq wr.drew (below_drewC (Below.refl _ _))
         have k2 := HK2.out wr.drew (below_drewC hBa.out)
         have hgd : (xs.map Prod.snd).getD a [] = (xs[a]'hal).2 := by rw [List.getD_eq_getElem?_getD, List.getElem?_map, List.getElem?_eq_getElem hal]; rfl
         generalize (xs[a]'hal).2 = y at q0 k1 hgd
         have HGD := mkC hgd
         have HBL : Hid (bl y mx = Go.Op.bytesLess (strOfNums y).toList (strOfNums mx).toList) := rfl
         obtain ⟨s1, hs1⟩ : ∃ s1, s1 = strOfNums y := ⟨_, rfl⟩
         obtain ⟨s2, hs2⟩ : ∃ s2, s2 = strOfNums mx := ⟨_, rfl⟩
         rw [← hs1] at k1 HBL
         rw [← hs2] at k2 HBL
         have t0 : decide ((a : Int) < (k : Int)) = true := decide_eq_true (by omega)
         clear hgd hs1 hs2 kq
         cases hb : bl y mx with
         | true =>
          have t1 : Go.Op.bytesLess s1.toList s2.toList = true := by rw [← HBL.out]; exact hb
          clear HBL
          go_wp2_with fail
          go_region
          all_goals go_wp2
          all_goals exact ⟨⟨a + 1, by omega, by go_num, below_drewC hBa.out, fun j hj => by rcases (show j < a ∨ j = a by omega) with h1 | h1; exact hJ.out j h1; rw [h1, HGD.out]; exact hb⟩, by simp [intOf]; omega⟩
         | false =>
          have t1 : Go.Op.bytesLess s1.toList s2.toList = false := by rw [← HBL.out]; exact hb
          have HPO : Hid (posU (xs.map Prod.snd) mx = a) := posU_eq mx _ a (by simp; omega) hJ.out (fun _ => by rw [HGD.out]; exact hb)
          clear HBL
          go_wp2_with fail
          go_region
          all_goals go_wp2_with fail
          all_goals go_meet
          all_goals exact ⟨a, ha, rfl, below_drewC hBa.out, HPO.out⟩
        ·have t0 : decide ((a : Int) < (k : Int)) = false := decide_eq_false (by omega)
         have HPO : Hid (posU (xs.map Prod.snd) mx = a) := posU_eq mx _ a (by simp; rw [← HK.out]; omega) hJ.out (fun h => absurd h (by simp; rw [← HK.out]; omega))
         go_wp2_with fail
         go_region
         all_goals go_wp2_with fail
         all_goals go_meet
         all_goals exact ⟨a, ha, rfl, below_drewC hBa.out, HPO.out⟩
      case rest =>
       obtain ⟨w4, hw4⟩ : ∃ w4, w4 = wc := ⟨_, rfl⟩
       subst hw4
       obtain ⟨a, hak, rfl, hPo⟩ := hcut
       have HB4 := mkC hPo.out.1
       have HPO := mkC hPo.out.2
       have HO4 := mkC (HOUT.out.below HB4.out)
       obtain ⟨y9a, yua⟩ := HY9.out w4 HB4.out
       rw [← HK.out] at HO4
       have hg4 : g < w4.heap.size := Nat.lt_of_lt_of_le hg HB4.out.size
       clear hPo
       by_cases hak2 : a < k
       ·have hal : a < xs.length := by rw [← HK.out]; exact hak2
        rw [HK.out] at HO4
        obtain ⟨g', gc', yp, ypc, hov, _, q0, kq⟩ := HO4.out.at_ hal
        cases hov
        have k1 := kq w4.drew (below_drewC (Below.refl _ _))
        have k2 := HK2.out w4.drew (below_drewC HB4.out)
        have hgd : (xs.map Prod.snd)[a]? = some (xs[a]'hal).2 := by rw [List.getElem?_map, List.getElem?_eq_getElem hal]; rfl
        have HEQ := mkC (str_eqb HRG.out.1 (HO4.out.txt _ (List.getElem_mem hal)).2.1)
        generalize (xs[a]'hal).2 = y at q0 k1 hgd HEQ
        have HGD := mkC hgd
        obtain ⟨s1, hs1⟩ : ∃ s1, s1 = strOfNums y := ⟨_, rfl⟩
        obtain ⟨s2, hs2⟩ : ∃ s2, s2 = strOfNums mx := ⟨_, rfl⟩
        rw [← hs1] at k1 HEQ
        rw [← hs2] at k2 HEQ
        have t0 : decide ((a : Int) < (k : Int)) = true := decide_eq_true (by omega)
        clear hgd hs1 hs2 kq hal
        by_cases hxy : y = mx
        ·have heq : (s1.toList == s2.toList) = true := by rw [HEQ.out]; exact decide_eq_true hxy
         have HF : Hid (UnS W0 ub (i + 1) (.slice (some ⟨g, 0, none⟩) k gc) w4.drew) := by
          refine ⟨HBW.out _ (below_drewC HB4.out), xs, by rw [HK.out]; exact HO4.out.below (below_drewC (Below.refl _ _)), ?_, by rw [← HK.out]; omega⟩
          rw [HFO.out]
          unfold insU
          rw [HPO.out, HGD.out, hxy, if_pos rfl]
         clear HEQ hxy
         go_wp2_with fail
         go_region
         all_goals go_wp2_with fail
         all_goals exact ⟨⟨i + 1, by omega, by go_num, HF.out⟩, by simp [intOf]; omega⟩
        ·have heq : (s1.toList == s2.toList) = false := by rw [HEQ.out]; exact decide_eq_false hxy
         have HNN : Hid ((xs.map Prod.snd)[a]? ≠ some mx) := by unfold Hid; rw [HGD.out]; exact fun e => hxy (Option.some.inj e)
         clear HEQ hxy
         go_wp2_with fail
         go_region
         have HW5 : Hid (Below W0.heap.size W0 w4.drew) := HBW.out _ (below_drewC HB4.out)
         have HO5 : Hid (OutS W0.heap.size w4.drew (.slice (some ⟨g, 0, none⟩) xs.length gc) xs) := HO4.out.below (below_drewC (Below.refl _ _))
         have HNW0 : Hid (∀ j u, ((xs.map Prod.fst).take a)[j]? = some u → w4.drew.cell? ((⟨g, 0, none⟩ : Addr).add j) = some u) := fun j u hu => HO5.out.news HXE.out 0 j u (by
          rw [List.drop_zero]
          have h1 := (List.getElem?_eq_some_iff.1 hu).1
          rw [List.getElem?_take] at hu
          split at hu
          ·exact hu
          ·cases hu)
         have HLT : Hid (((xs.map Prod.fst).take a).length = a * 1) := by unfold Hid; rw [List.length_take, List.length_map, ← HK.out]; omega
         have hB5 : W0.heap.size ≤ w4.drew.heap.size := HW5.out.size
         have hib : k ≤ 1000000000 := by omega
         go_upto_region 16 with (at_builtin; refine appSub_at w4.drew rfl (.tmp 68) (.tmp 71) 24 34 rfl _ 1 24 Tryz.underlying24 infoSl rfl (by decide) W0.heap.size (.slice none 0 0) 0 [] (by simp [Act.eval]) (nil_own _ _ _ _) ⟨g, 0, none⟩ a gc ((xs.map Prod.fst).take a) (by simp [Act.eval]) HLT.out HNW0.out (fun y hy => fst_one HO5.out y (List.mem_of_mem_take hy)) (by unfold maxLen; omega) (by omega) hB5 ?_; intro v' w6 ho hb6 hbt hloc hsz; rw [Nat.zero_add] at ho; obtain ⟨p6, c6, hv6⟩ := owns_form ho; subst hv6; have H6 : Hid (w6.ownsRow W0.heap.size 34 1 (.slice p6 a c6) a ((xs.map Prod.fst).take a) ∧ Below W0.heap.size w4.drew w6 ∧ But w4.drew w6 (.slice none 0 0) ∧ (∀ k, (Value.slice p6 a c6).ownBlock = some k → (Value.slice none 0 0).ownBlock = some k ∨ w4.drew.heap.size ≤ k)) := And.intro ho (And.intro hb6 (And.intro hbt hloc)); clear ho hb6 hbt hloc hsz)
         have hb46 : Below w4.heap.size w4 w6 := (below_drewC (Below.refl _ _)).trans (but_below H6.out.2.1 H6.out.2.2.1)
         have HB6 : Hid (Below w3.heap.size w3 w6) := HB4.out.trans (hb46.mono HB4.out.size)
         obtain ⟨y9b, yub⟩ := HY9.out w6 HB6.out
         have HCP := mkC (copyC mp mn mc mx w6 (HBY.out.below (HB2.out.trans ((HBW.out w6 HB6.out).mono HB2.out.size))) (by have := HMN.out; omega))
         clear hb46
         go_wp2_with fail
         refine HCP.out.mono ?_
         rintro e w7 ⟨vb, rfl, hvb, hb7⟩
         obtain ⟨vp, vc, hvf⟩ := owns_form hvb
         subst hvf
         have H7 := mkC (And.intro hvb hb7)
         have HR7 := mkC (owns_below H6.out.1 hb7)
         have hB7 : W0.heap.size ≤ w7.heap.size := Nat.le_trans (HBW.out w6 HB6.out).size hb7.size
         have HI8 : Hid (∀ w8, Below W0.heap.size w7 w8 → But w7 w8 (.slice p6 a c6) → OutS W0.heap.size w8 (.slice (some ⟨g, 0, none⟩) xs.length gc) xs ∧ OwT w8 W0.heap.size (.slice vp mx.length vc) mx ∧ Below W0.heap.size W0 w8) := fun w8 h1 h2 => OutS.ins1 HW5.out HO5.out H6.out.1 H6.out.2.1 H6.out.2.2.1 H6.out.2.2.2 H7.out.1 H7.out.2 h1 h2
         obtain ⟨mxl, hmxl⟩ : ∃ mxl, mxl = mx.length := ⟨_, rfl⟩
         rw [← hmxl] at HI8 ⊢
         clear hvb hb7 y9a yua y9b yub hmxl
         go_upto_region 17 with (at_builtin; refine appW_at w7 rfl (.tmp 73) (.tmp 82) 24 34 rfl _ 1 24 Tryz.underlying24 infoSl rfl (by decide) W0.heap.size (.slice p6 a c6) a ((xs.map Prod.fst).take a) (by simp [Act.eval]) HR7.out #[.slice vp mxl vc] rfl (by simp [Value.oneCell']) (by simp [Act.eval]) (by unfold maxLen; omega) (by omega) hB7 ?_; intro v' w8 ho hb8 hbt hloc hsz; obtain ⟨p8, c8, hv8⟩ := owns_form ho; subst hv8; have H8 := mkC (HI8.out w8 hb8 hbt); have HR8 : Hid (w8.ownsRow W0.heap.size 34 1 (.slice p8 (a + 1) c8) (a + 1) ((xs.map Prod.fst).take a ++ [.slice vp mxl vc])) := ho; clear ho hb8 hbt hloc hsz)
         have HLD : Hid (((xs.map Prod.fst).drop a).length = (k - a) * 1) := by unfold Hid; rw [List.length_drop, List.length_map, ← HK.out]; omega
         have hB8 : W0.heap.size ≤ w8.heap.size := H8.out.2.2.size
         have HFIN : Hid (∀ v' w9, w9.ownsRow W0.heap.size 34 1 v' (a + 1 + (k - a)) ((xs.map Prod.fst).take a ++ [.slice vp mxl vc] ++ (xs.map Prod.fst).drop a) → Below W0.heap.size w8 w9 → But w8 w9 (.slice p8 (a + 1) c8) → UnS W0 ub (i + 1) v' w9) := fun v' w9 h1 h2 h3 => UnS.new (OutS.ins2 H8.out (by rw [← HK.out]; exact hak) HR8.out (by rw [← HK.out]; exact h1) h2 h3 HRG.out) HFO.out HPO.out HNN.out (by rw [← HK.out]; exact hxl)
         by_cases hgc : a < gc
         ·go_wp2_with (at_builtin; refine appSub_at w8 rfl (.tmp 84) (.tmp 87) 24 34 rfl _ 1 24 Tryz.underlying24 infoSl rfl (by decide) W0.heap.size (.slice p8 (a + 1) c8) (a + 1) ((xs.map Prod.fst).take a ++ [.slice vp mxl vc]) (by simp [Act.eval]) HR8.out ⟨g, a, none⟩ (k - a) (gc - a) ((xs.map Prod.fst).drop a) (by simp [Act.eval]) HLD.out (H8.out.1.news HXE.out a) (fun y hy => fst_one H8.out.1 y (List.mem_of_mem_drop hy)) (by unfold maxLen; omega) (by omega) hB8 ?_; intro v' w9 ho hb9 hbt hloc hsz; have HF := mkC (HFIN.out v' w9 ho hb9 hbt); clear ho hb9 hbt hloc hsz)
          exact ⟨⟨i + 1, by omega, by go_num, HF.out⟩, by simp [intOf]; omega⟩
         ·exact absurd (Nat.lt_of_lt_of_le hak2 hkc) hgc
       ·have t0 : decide ((a : Int) < (k : Int)) = false := decide_eq_false (by omega)
        have HNN : Hid ((xs.map Prod.snd)[a]? ≠ some mx) := by unfold Hid; rw [List.getElem?_eq_none (by simp; rw [← HK.out]; omega)]; simp
        rw [HK.out] at HO4
        go_wp2_with fail
        go_region
        have HW5 : Hid (Below W0.heap.size W0 w4.drew) := HBW.out _ (below_drewC HB4.out)
        have HO5 : Hid (OutS W0.heap.size w4.drew (.slice (some ⟨g, 0, none⟩) xs.length gc) xs) := HO4.out.below (below_drewC (Below.refl _ _))
        have HNW0 : Hid (∀ j u, ((xs.map Prod.fst).take a)[j]? = some u → w4.drew.cell? ((⟨g, 0, none⟩ : Addr).add j) = some u) := fun j u hu => HO5.out.news HXE.out 0 j u (by
         rw [List.drop_zero]
         have h1 := (List.getElem?_eq_some_iff.1 hu).1
         rw [List.getElem?_take] at hu
         split at hu
         ·exact hu
         ·cases hu)
        have HLT : Hid (((xs.map Prod.fst).take a).length = a * 1) := by unfold Hid; rw [List.length_take, List.length_map, ← HK.out]; omega
        have hB5 : W0.heap.size ≤ w4.drew.heap.size := HW5.out.size
        have hib : k ≤ 1000000000 := by omega
        go_upto_region 16 with (at_builtin; refine appSub_at w4.drew rfl (.tmp 68) (.tmp 71) 24 34 rfl _ 1 24 Tryz.underlying24 infoSl rfl (by decide) W0.heap.size (.slice none 0 0) 0 [] (by simp [Act.eval]) (nil_own _ _ _ _) ⟨g, 0, none⟩ a gc ((xs.map Prod.fst).take a) (by simp [Act.eval]) HLT.out HNW0.out (fun y hy => fst_one HO5.out y (List.mem_of_mem_take hy)) (by unfold maxLen; omega) (by omega) hB5 ?_; intro v' w6 ho hb6 hbt hloc hsz; rw [Nat.zero_add] at ho; obtain ⟨p6, c6, hv6⟩ := owns_form ho; subst hv6; have H6 : Hid (w6.ownsRow W0.heap.size 34 1 (.slice p6 a c6) a ((xs.map Prod.fst).take a) ∧ Below W0.heap.size w4.drew w6 ∧ But w4.drew w6 (.slice none 0 0) ∧ (∀ k, (Value.slice p6 a c6).ownBlock = some k → (Value.slice none 0 0).ownBlock = some k ∨ w4.drew.heap.size ≤ k)) := And.intro ho (And.intro hb6 (And.intro hbt hloc)); clear ho hb6 hbt hloc hsz)
        have hb46 : Below w4.heap.size w4 w6 := (below_drewC (Below.refl _ _)).trans (but_below H6.out.2.1 H6.out.2.2.1)
        have HB6 : Hid (Below w3.heap.size w3 w6) := HB4.out.trans (hb46.mono HB4.out.size)
        obtain ⟨y9b, yub⟩ := HY9.out w6 HB6.out
        have HCP := mkC (copyC mp mn mc mx w6 (HBY.out.below (HB2.out.trans ((HBW.out w6 HB6.out).mono HB2.out.size))) (by have := HMN.out; omega))
        clear hb46
        go_wp2_with fail
        refine HCP.out.mono ?_
        rintro e w7 ⟨vb, rfl, hvb, hb7⟩
        obtain ⟨vp, vc, hvf⟩ := owns_form hvb
        subst hvf
        have H7 := mkC (And.intro hvb hb7)
        have HR7 := mkC (owns_below H6.out.1 hb7)
        have hB7 : W0.heap.size ≤ w7.heap.size := Nat.le_trans (HBW.out w6 HB6.out).size hb7.size
        have HI8 : Hid (∀ w8, Below W0.heap.size w7 w8 → But w7 w8 (.slice p6 a c6) → OutS W0.heap.size w8 (.slice (some ⟨g, 0, none⟩) xs.length gc) xs ∧ OwT w8 W0.heap.size (.slice vp mx.length vc) mx ∧ Below W0.heap.size W0 w8) := fun w8 h1 h2 => OutS.ins1 HW5.out HO5.out H6.out.1 H6.out.2.1 H6.out.2.2.1 H6.out.2.2.2 H7.out.1 H7.out.2 h1 h2
        obtain ⟨mxl, hmxl⟩ : ∃ mxl, mxl = mx.length := ⟨_, rfl⟩
        rw [← hmxl] at HI8 ⊢
        clear hvb hb7 y9a yua y9b yub hmxl
        go_upto_region 17 with (at_builtin; refine appW_at w7 rfl (.tmp 73) (.tmp 82) 24 34 rfl _ 1 24 Tryz.underlying24 infoSl rfl (by decide) W0.heap.size (.slice p6 a c6) a ((xs.map Prod.fst).take a) (by simp [Act.eval]) HR7.out #[.slice vp mxl vc] rfl (by simp [Value.oneCell']) (by simp [Act.eval]) (by unfold maxLen; omega) (by omega) hB7 ?_; intro v' w8 ho hb8 hbt hloc hsz; obtain ⟨p8, c8, hv8⟩ := owns_form ho; subst hv8; have H8 := mkC (HI8.out w8 hb8 hbt); have HR8 : Hid (w8.ownsRow W0.heap.size 34 1 (.slice p8 (a + 1) c8) (a + 1) ((xs.map Prod.fst).take a ++ [.slice vp mxl vc])) := ho; clear ho hb8 hbt hloc hsz)
        have HLD : Hid (((xs.map Prod.fst).drop a).length = (k - a) * 1) := by unfold Hid; rw [List.length_drop, List.length_map, ← HK.out]; omega
        have hB8 : W0.heap.size ≤ w8.heap.size := H8.out.2.2.size
        have HFIN : Hid (∀ v' w9, w9.ownsRow W0.heap.size 34 1 v' (a + 1 + (k - a)) ((xs.map Prod.fst).take a ++ [.slice vp mxl vc] ++ (xs.map Prod.fst).drop a) → Below W0.heap.size w8 w9 → But w8 w9 (.slice p8 (a + 1) c8) → UnS W0 ub (i + 1) v' w9) := fun v' w9 h1 h2 h3 => UnS.new (OutS.ins2 H8.out (by rw [← HK.out]; exact hak) HR8.out (by rw [← HK.out]; exact h1) h2 h3 HRG.out) HFO.out HPO.out HNN.out (by rw [← HK.out]; exact hxl)
        by_cases hgc : a < gc
        ·go_wp2_with (at_builtin; refine appSub_at w8 rfl (.tmp 84) (.tmp 87) 24 34 rfl _ 1 24 Tryz.underlying24 infoSl rfl (by decide) W0.heap.size (.slice p8 (a + 1) c8) (a + 1) ((xs.map Prod.fst).take a ++ [.slice vp mxl vc]) (by simp [Act.eval]) HR8.out ⟨g, a, none⟩ (k - a) (gc - a) ((xs.map Prod.fst).drop a) (by simp [Act.eval]) HLD.out (H8.out.1.news HXE.out a) (fun y hy => fst_one H8.out.1 y (List.mem_of_mem_drop hy)) (by unfold maxLen; omega) (by omega) hB8 ?_; intro v' w9 ho hb9 hbt hloc hsz; have HF := mkC (HFIN.out v' w9 ho hb9 hbt); clear ho hb9 hbt hloc hsz)
         exact ⟨⟨i + 1, by omega, by go_num, HF.out⟩, by simp [intOf]; omega⟩
        ·go_wp2_with (at_builtin; refine appSub_at w8 rfl (.tmp 84) (.tmp 87) 24 34 rfl _ 1 24 Tryz.underlying24 infoSl rfl (by decide) W0.heap.size (.slice p8 (a + 1) c8) (a + 1) ((xs.map Prod.fst).take a ++ [.slice vp mxl vc]) (by simp [Act.eval]) HR8.out ⟨g, 0, none⟩ (k - a) (gc - a) ((xs.map Prod.fst).drop a) (by simp [Act.eval]) HLD.out (fun j u hu => by rw [List.getElem?_eq_none (by rw [HLD.out]; omega)] at hu; cases hu) (fun y hy => fst_one H8.out.1 y (List.mem_of_mem_drop hy)) (by unfold maxLen; omega) (by omega) hB8 ?_; intro v' w9 ho hb9 hbt hloc hsz; have HF := mkC (HFIN.out v' w9 ho hb9 hbt); clear ho hb9 hbt hloc hsz)
         exact ⟨⟨i + 1, by omega, by go_num, HF.out⟩, by simp [intOf]; omega⟩
    ·obtain rfl : i = un := by omega
     obtain ⟨hB3, xs, hout, hxn, _⟩ := hS.out
     have HF : Hid (UnP ds w w3 (.returned u4)) := by
      refine ⟨HB2.out.trans (hB3.mono HB2.out.size), Or.inr ⟨ns, u4, xs, HU.out, rfl, hout.weak HB2.out.size, ?_⟩⟩
      rw [hxn, List.take_of_length_le (by simp; rw [← HUL.out]; exact Nat.le_refl _), HUX.out]
      rfl
     clear hS hB3 hout hxn
     go_wp2_with fail
     go_ret
     exact HF.out
end Cp
end Go.Proofs.YtnnpfoilojicjaaGreatDoor
