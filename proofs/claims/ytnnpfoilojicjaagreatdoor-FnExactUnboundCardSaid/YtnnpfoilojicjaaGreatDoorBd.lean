import Derived.Test.YtnnpfoilojicjaaGreatDoorBf
namespace Go.Proofs.YtnnpfoilojicjaaGreatDoor
open Go.RowKit Ch1
namespace Cp
set_option maxRecDepth 400000 in
set_option maxHeartbeats 60000000 in
theorem l5exprLs_c {c : Cx} {N k : Nat} {st : St} (hE : ExC c k) (i : Nat) (tail : Bool) (w : World) (hT : TxB c) (h : Inv c N w st) (hi : i < c.dn) (ho : Ok (k + 1) (c.ds.drop i)) (hls : isLs (c.ds.drop i) = true) (hN : N + bud (k + 1) (c.ds.drop i) ≤ 1000000000) (hb : st.bo + sz (k + 1) (c.ds.drop i) ≤ 3000) (hcn : ∀ h rest, kidsOf k (c.ds.drop i) = h :: rest → (isSy h = true ∧ bnd (st.gl.map (·.x)) st.sc (nm h) = false)) :
  Calls Tryz.prog 43 #[.pointer (some ⟨st.ab, 0, none⟩), .int .i64 (i : Nat), .bool tail] w fun e w' => (∃ u, e = .returned u) ∧ ExP c N (k + 1) st i w w' := by
 have HCN := mkC hcn
 clear hcn
 have hbu := bud_ge ho
 obtain ⟨db, dof, tp, tn, tc, hdp, he⟩ := h.elAt hi
 have k0 := he.c0
 have k1 := he.c1
 have k2 := he.c2
 have k3 := he.c3
 have hk : (hd (c.ds.drop i)).kind = 3 := by unfold isLs at hls; simpa using hls
 rw [hk] at k0
 have e0 := (cells10 h.blk).1
 rw [hdp] at e0
 have hdn := h.dn
 generalize (hd (c.ds.drop i)).n = dn1 at k1
 obtain ⟨dct, hdct⟩ : ∃ dct, dct = (hd (c.ds.drop i)).count := ⟨_, rfl⟩
 rw [← hdct] at k3
 obtain ⟨W, hW⟩ : ∃ W, W = w.alloc (.cells #[.int .i64 3, .int .i64 dn1, .slice tp tn tc, .int .i64 dct] 47) := ⟨_, rfl⟩
 have HBW : Hid (Below w.heap.size w W) := by unfold Hid; rw [hW]; exact below1 w _
 have HSW := mkC (h.stp HBW.out)
 have hVB : W.heap[w.heap.size]? = some (.cells #[.int .i64 3, .int .i64 dn1, .slice tp tn tc, .int .i64 dct] 47) := by rw [hW]; exact Go.Deep.blk_alloc_new _ _
 have v0 : W.cell? ⟨w.heap.size, 0, none⟩ = some (.int .i64 3) := by simp [World.cell?, hVB]
 have eW := (cells10 HSW.out.inv.blk).1
 rw [hdp] at eW
 have HK := mkC (kidsA (k := k + 1) W HSW.out.inv hi ho hls)
 rw [hdp] at HK
 have HI := mkC h
 have HDP := mkC hdp
 have HE := mkC hE
 have HTX := mkC hT
 have HLS := mkC hls
 have HKM := mkC (kidsOf_mono (Nat.le_succ k) ho)
 have HKB := mkC (kids_bud ho hls)
 have HKS := mkC (kids_sum ho hls)
 have HBU : Hid (10000 ≤ bud (k + 1) (c.ds.drop i) ∧ N + bud (k + 1) (c.ds.drop i) ≤ 1000000000 ∧ st.bo + sz (k + 1) (c.ds.drop i) ≤ 3000) := ⟨hbu.1, hN, hb⟩
 have HWE := mkC hW
 clear h ho he hdp hbu hN hls hVB hW hT hE hb hk hdct
 go_enter Tryz.func43, Tryz.ntmps43
 go_upto_region 1 with fail
 rw [← HWE.out]
 clear k0 k1 k2 k3 e0
 go_wp2_with fail
 refine HK.out.mono ?_
 rintro e w1 ⟨p1, c1, ks, rfl, ho1, hb1, hat1, hpc1, _⟩
 have HS1 := mkC (HSW.out.trans (HSW.out.inv.stp hb1))
 have HIX := mkC (OwI.ix1 HSW.out.inv ho1)
 have HPC : Hid (Pcs c k ks) := hpc1
 have HAT : Hid (Cp.at_ c ks = kidsOf k (c.ds.drop i)) := hat1.trans HKM.out
 have HBL : Hid (Below w.heap.size w w1) := HBW.out.trans (hb1.mono HBW.out.size)
 clear ho1 hb1 hat1 hpc1 HK v0 eW
 cases ks with
 | nil =>
  have HW := mkC (l5wrong_c tail w1 HS1.out.inv (by have := HBU.out; omega))
  have HRN := mkC (lst_nil (gl := st.gl.map (·.x)) (sc := st.sc) HLS.out HAT.out.symm)
  simp only [List.length_nil]
  go_wp2_with fail
  refine HW.out.mono ?_
  rintro e w2 ⟨⟨u, rfl⟩, s2, h1, h2, h3⟩
  have HF : Hid (ExP c N (k + 1) st i w w2) := ⟨s2, (HS1.out.trans h1).mono (by have := HBU.out; omega), by rw [HRN.out]; exact h2, by omega⟩
  clear h1 h2 h3 HW
  go_wp2_with fail
  refine bodyPost_ret (results_none rfl _ _ _) rfl ?_
  exact ⟨⟨_, rfl⟩, HF.out⟩
 | cons x0 xs =>
  obtain ⟨m, hm⟩ : ∃ m, m = xs.length := ⟨_, rfl⟩
  have hlen : (x0 :: xs).length = m + 1 := by rw [hm]; rfl
  rw [hlen] at HIX ⊢
  have HM := mkC hm
  have t0 : ((m : Int) + 1 == 0) = false := by simp; omega
  have hm0 : (0 : Int) < (m : Int) + 1 := by omega
  have hmc : m + 1 ≤ c1 := HIX.out.cap
  have HRC := mkC (lst_cons (gl := st.gl.map (·.x)) (sc := st.sc) HLS.out (HAT.out.symm.trans (show Cp.at_ c (x0 :: xs) = c.ds.drop x0 :: Cp.at_ c xs from rfl)))
  have HCD := mkC (HCN.out _ _ (HAT.out.symm.trans (show Cp.at_ c (x0 :: xs) = c.ds.drop x0 :: Cp.at_ c xs from rfl)))
  clear HCN
  rw [← HAT.out] at HKB HKS
  have hm3 : m + 1 ≤ 3000 := by
   have h1 := len_sum (Pcs.ok HPC.out)
   rw [show (Cp.at_ c (x0 :: xs)).length = (x0 :: xs).length by simp [Cp.at_], hlen] at h1
   have h2 := HKS.out
   have h3 := HBU.out
   omega
  obtain ⟨g, o, rfl, hg, y0⟩ := HIX.out.at_ (i := 0) (by simp)
  simp only [List.getElem_cons_zero, Nat.add_zero] at y0
  have hx0 : x0 < c.dn := (HPC.out x0 (by simp)).1
  have e0 := (cells10 HS1.out.inv.blk).1
  rw [HDP.out] at e0
  have HBD : Hid (Below w1.heap.size w1 w1.drew) := below_drewC (Below.refl _ _)
  have HSD := mkC (HS1.out.inv.stp HBD.out)
  have HSY := mkC (symA (ab := st.ab) x0 w1.drew HSD.out.inv rfl hx0)
  clear hm hlen
  go_upto_region 10 with fail
  go_cut [80] from 55 (fun v wc => TsR c N k st i x0 xs w w1 v wc)
  case first =>
   have hsy : isSy (c.ds.drop x0) = true := HCD.out.1
   obtain ⟨nn, db2, dof2, hdp2, hmx, hnm, hmc2⟩ := HS1.out.inv.nmAt hx0 (HPC.out x0 (by simp)).2 hsy
   have hdd : db2 = db ∧ dof2 = dof := by
    have := HDP.out
    rw [hdp2] at this
    cases this
    exact ⟨rfl, rfl⟩
   obtain ⟨rfl, rfl⟩ := hdd
   have kt := hmc2 w1 HS1.out.inv.bel
   have HME := mkC (l5means_c nn w1.drew HSD.out.inv hnm (by have := HBU.out; omega))
   have HMX := mkC hmx
   rw [hsy] at HSY
   have hbn' : bnd (st.gl.map (·.x)) st.sc nn.x = false := by rw [hmx]; exact HCD.out.2
   have hbn : ¬ bnd (st.gl.map (·.x)) st.sc nn.x = true := by rw [hbn']; decide
   rw [hbn'] at HME
   have HR : Hid (rd (st.gl.map (·.x)) (k + 1) st.sc (c.ds.drop i) = spcR (st.gl.map (·.x)) k (rd (st.gl.map (·.x)) k) st.sc (c.ds.drop x0) (Cp.at_ c xs)) := by
    unfold Hid
    rw [HRC.out, if_pos ⟨hsy, by rw [← HMX.out]; exact hbn'⟩]
   have HSP : Hid (∀ w3, Below w1.drew.heap.size w1.drew w3 → Calls Tryz.prog 84 #[.pointer (some ⟨st.ab, 0, none⟩), .slice (some ⟨g, o, none⟩) (m + 1 : Nat) c1, .bool tail] w3 fun e w4 => ∃ v, e = .returned v ∧ TsR c N k st i x0 xs w w1 v w4) := fun w3 hb3 => by
    have hs3 := HS1.out.trans (HS1.out.inv.stp (HBD.out.trans hb3))
    refine (l5special_c HE.out (some ⟨g, o, none⟩) m c1 x0 xs tail w3 HTX.out _ rfl hs3.inv (HIX.out.step (HS1.out.inv.stp (HBD.out.trans hb3)).fr) HPC.out hsy ?_ ?_).mono ?_
    ·have h1 := HKB.out
     have h2 := HBU.out
     simp only [Cp.at_, List.map_cons, sumB] at h1 ⊢
     omega
    ·have h1 := HKS.out
     have h2 := HBU.out
     simp only [Cp.at_, List.map_cons, sumS] at h1 ⊢
     omega
    ·rintro e w4 ⟨b, rfl, ⟨rfl, h4⟩ | ⟨rfl, h4, h5⟩⟩
     ·exact ⟨_, rfl, true, rfl, Or.inl ⟨rfl, h4.ex hs3 HR.out HKB.out HKS.out⟩⟩
     ·exact ⟨_, rfl, false, rfl, Or.inr ⟨rfl, (HBD.out.trans hb3).trans (h4.mono (HBD.out.trans hb3).size), HR.out.trans h5⟩⟩
   obtain ⟨np, nn1, nc, nx⟩ := nn
   simp only at kt HME
   clear hdp2 hmx hnm hmc2 hsy hbn hbn'
   first
   | (go_region_law (first
    | (refine step_callC _ rfl 41 _ _ rfl #[.pointer (some ⟨st.ab, 0, none⟩), .int .i64 (x0 : Nat)] ?ha (inSym _) (fun v w3 => v = .bool true ∧ w3 = w1.drew) (HSY.out.mono (fun e w3 hh => (by obtain ⟨h1, h2⟩ := hh; exact ⟨_, h1, rfl, h2⟩))) ?_; (case ha => first | (simp [Act.eval]; done) | (simp [Act.eval, Act.put]; done)); rintro v w3 ⟨rfl, rfl⟩)
    | (refine step_callG _ (by rfl) 83 _ _ rfl #[.pointer (some ⟨st.ab, 0, none⟩), .slice np nn1 nc] ?ha (inMeans _) (fun v w3 => v = .bool false ∧ Below w1.drew.heap.size w1.drew w3) (HME.out.mono (fun e w3 hh => (by obtain ⟨h1, h2⟩ := hh; exact ⟨_, h1, rfl, h2⟩))) ?_; (case ha => first | (simp [Act.eval]; done) | (simp [Act.eval, Act.put]; done)); rintro v w3 ⟨rfl, hb3⟩; have HB3 := mkC hb3; clear hb3)
    | (refine step_callG _ (by rfl) 84 _ _ rfl #[.pointer (some ⟨st.ab, 0, none⟩), .slice (some ⟨g, o, none⟩) (m + 1 : Nat) c1, .bool tail] ?ha (inSpecial _) (fun v w4 => TsR c N k st i x0 xs w w1 v w4) (HSP.out w3 HB3.out) ?_; (case ha => first | (simp [Act.eval]; done) | (simp [Act.eval, Act.put]; done)); rintro v w4 hts; obtain ⟨bv, rfl, hts2⟩ := hts; have HTS := mkC hts2; clear hts2)))
   | fail
   all_goals (go_step; go_step; go_meet)
   all_goals exact ⟨bv, rfl, HTS.out⟩
  case rest =>
  obtain ⟨b, rfl, ⟨rfl, hex⟩ | ⟨rfl, hbl, hrd⟩⟩ := hcut
  ·have HF := mkC hex
   clear hex
   go_wp2_with fail
   refine bodyPost_ret (results_none rfl _ _ _) rfl ?_
   exact ⟨⟨_, rfl⟩, HF.out⟩
  ·obtain ⟨w4, hw4⟩ : ∃ w4, w4 = wc := ⟨_, rfl⟩
   subst hw4
   have HS4 := mkC (HS1.out.trans (HS1.out.inv.stp hbl))
   have HS14 := mkC (HS1.out.inv.stp hbl)
   have HRD := mkC hrd
   have HIX4 := mkC (HIX.out.step HS14.out.fr)
   clear hbl hrd y0 e0 t0 hm0
   cases tail
   ·go_wp2_with fail
    go_loopw [8] (fun iv wr => ∃ j : Nat, j ≤ m + 1 ∧ iv = .int .i64 (j : Nat) ∧ Hid (∃ s1, SqP c N k st w4 ((x0 :: xs).take j) s1 wr)) (fun iv _ => m + 1 - (intOf iv).toNat)
    case atStart => exact ⟨0, Nat.zero_le _, rfl, st, SqP.nil ⟨HS4.out.inv, Fr.refl _ _, Sm.refl _⟩ ⟨rfl, rfl, rfl⟩⟩
    case round =>
     obtain ⟨j, hj, rfl, hV⟩ := hrel
     obtain ⟨s1, hs1⟩ := hV.out
     by_cases hin : j < m + 1
     ·have hil : j < (x0 :: xs).length := by simp only [List.length_cons]; have := HM.out; omega
      have HC := mkC (hs1.next HE.out HPC.out hil (by have h1 := HKB.out; have h2 := HBU.out; omega) (by have h1 := HKS.out; have h2 := HBU.out; omega) false)
      obtain ⟨xg, xo, hpe, hxg, yi⟩ := (HIX4.out.step hs1.stp.fr).at_ hil
      cases hpe
      have HS1 := mkC hs1
      have HTK := mkC (take_snoc hil)
      generalize (x0 :: xs)[j]'hil = x at yi HC HTK
      clear hs1
      go_wp2_with fail
      refine HC.out.mono ?_
      rintro e w5 ⟨⟨u, rfl⟩, hx5⟩
      obtain ⟨s5, hs5, _⟩ := HS1.out.more hx5
      rw [← HTK.out] at hs5
      have HF5 := mkC hs5
      clear hx5 hs5 HC yi
      go_wp2_with fail
      exact ⟨⟨j + 1, by omega, by go_num, s5, HF5.out⟩, by simp [intOf]; omega⟩
     ·have hji : m + 1 = j := by omega
      subst hji
      rw [List.take_of_length_le (by simp only [List.length_cons]; have := HM.out; omega)] at hs1
      have HSQ := mkC hs1
      have HPU := mkC (pushA (ab := st.ab) (s := s1) 9 (m : Nat) 0 ((m : Int) + 1) wr hs1.stp.inv hs1.stp.sm.ab (by have h1 := HKB.out; have h2 := HBU.out; omega))
      clear hs1
      go_wp2_with fail
      refine HPU.out.mono ?_
      rintro e w6 ⟨⟨u, rfl⟩, hm6⟩
      obtain ⟨s6, hs6, _⟩ := HSQ.out.emp hm6
      have HF : Hid (ExP c N (k + 1) st i w w6) := by
       refine ⟨s6, (HS4.out.trans hs6.stp).mono (by have h1 := HKB.out; omega), by rw [HRD.out]; exact hs6.rs, by have h1 := hs6.bo; have h2 := HKS.out; omega⟩
      clear hm6 hs6 HPU
      go_wp2_with fail
      go_end0
      exact ⟨⟨_, rfl⟩, HF.out⟩
   ·go_wp2_with fail
    go_loopw [8] (fun iv wr => ∃ j : Nat, j ≤ m + 1 ∧ iv = .int .i64 (j : Nat) ∧ Hid (∃ s1, SqP c N k st w4 ((x0 :: xs).take j) s1 wr)) (fun iv _ => m + 1 - (intOf iv).toNat)
    case atStart => exact ⟨0, Nat.zero_le _, rfl, st, SqP.nil ⟨HS4.out.inv, Fr.refl _ _, Sm.refl _⟩ ⟨rfl, rfl, rfl⟩⟩
    case round =>
     obtain ⟨j, hj, rfl, hV⟩ := hrel
     obtain ⟨s1, hs1⟩ := hV.out
     by_cases hin : j < m + 1
     ·have hil : j < (x0 :: xs).length := by simp only [List.length_cons]; have := HM.out; omega
      have HC := mkC (hs1.next HE.out HPC.out hil (by have h1 := HKB.out; have h2 := HBU.out; omega) (by have h1 := HKS.out; have h2 := HBU.out; omega) false)
      obtain ⟨xg, xo, hpe, hxg, yi⟩ := (HIX4.out.step hs1.stp.fr).at_ hil
      cases hpe
      have HS1 := mkC hs1
      have HTK := mkC (take_snoc hil)
      generalize (x0 :: xs)[j]'hil = x at yi HC HTK
      clear hs1
      go_wp2_with fail
      refine HC.out.mono ?_
      rintro e w5 ⟨⟨u, rfl⟩, hx5⟩
      obtain ⟨s5, hs5, _⟩ := HS1.out.more hx5
      rw [← HTK.out] at hs5
      have HF5 := mkC hs5
      clear hx5 hs5 HC yi
      go_wp2_with fail
      exact ⟨⟨j + 1, by omega, by go_num, s5, HF5.out⟩, by simp [intOf]; omega⟩
     ·have hji : m + 1 = j := by omega
      subst hji
      rw [List.take_of_length_le (by simp only [List.length_cons]; have := HM.out; omega)] at hs1
      have HSQ := mkC hs1
      have HPU := mkC (dropA (ab := st.ab) (s := s1) 10 (m : Nat) ((m : Int) + 1) wr hs1.stp.inv hs1.stp.sm.ab (by have h1 := HKB.out; have h2 := HBU.out; omega))
      clear hs1
      go_wp2_with fail
      refine HPU.out.mono ?_
      rintro e w6 ⟨rfl, hm6⟩
      obtain ⟨s6, hs6, _⟩ := HSQ.out.emp hm6
      have HF : Hid (ExP c N (k + 1) st i w w6) := by
       refine ⟨s6, (HS4.out.trans hs6.stp).mono (by have h1 := HKB.out; omega), by rw [HRD.out]; exact hs6.rs, by have h1 := hs6.bo; have h2 := HKS.out; omega⟩
      clear hm6 hs6 HPU
      go_wp2_with fail
      go_end0
      exact ⟨⟨_, rfl⟩, HF.out⟩
end Cp
end Go.Proofs.YtnnpfoilojicjaaGreatDoor
