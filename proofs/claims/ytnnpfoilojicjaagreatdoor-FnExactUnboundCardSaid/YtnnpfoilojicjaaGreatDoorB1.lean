import Derived.Test.YtnnpfoilojicjaaGreatDoorGx
namespace Go.Proofs.YtnnpfoilojicjaaGreatDoor
open Go.RowKit Ch1
namespace Cp
set_option maxRecDepth 20000 in
set_option maxHeartbeats 8000000 in
theorem l5letf_c {c : Cx} {N k : Nat} {st : St} (hE : ExC c k) (p : Option Addr) (m d x0 : Nat) (bs : List Nat) (w : World) (r : Option (List (List Int))) (hr : r = letR k (rd (st.gl.map (·.x)) k) st.sc false (Cp.at_ c (x0 :: bs))) (h : Inv c N w st) (hx : Ix st w p (m + 2) d (x0 :: bs)) (hp : Pcs c k (x0 :: bs)) (hls : isLs (c.ds.drop x0) = true) (hN : N + sumB k (Cp.at_ c (x0 :: bs)) + 9000 ≤ 1000000000) (hb : st.bo + sumS k (Cp.at_ c (x0 :: bs)) ≤ 3000) :
  Calls Tryz.prog 138 #[.pointer (some ⟨st.ab, 0, none⟩), .slice p (m + 2 : Nat) d, .bool false, .bool false] w fun e w' => (∃ u, e = .returned u) ∧ SpP c N k st (x0 :: bs) r w w' := by
 have HE := mkC hE
 have HX := mkC hx
 have HP := mkC hp
 have HN := mkC hN
 have HB := mkC hb
 have HR := mkC hr
 have HL : Hid (bs.length = m + 1) := by have := hx.len; simp at this; exact this
 have hm3 : m + 2 ≤ 3000 := by
  have h1 := len_sum (Pcs.ok hp)
  have h2 := hx.len
  rw [show (Cp.at_ c (x0 :: bs)).length = (x0 :: bs).length by simp [Cp.at_]] at h1
  omega
 have t0 : decide ((m : Int) + 2 < 2) = false := decide_eq_false (by omega)
 have hmc : m + 2 ≤ d := hx.cap
 have hm0 : (0 : Int) < (m : Int) + 2 := by omega
 obtain ⟨g, o, rfl, hg, y0⟩ := hx.at_ (i := 0) (by simp)
 simp only [List.getElem_cons_zero, Nat.add_zero] at y0
 have hx0 : x0 < c.dn := (hp x0 (by simp)).1
 have HOK0 : Hid (Ok k (c.ds.drop x0)) := (hp x0 (by simp)).2
 have HLS := mkC hls
 obtain ⟨db, dof, hdp, hdc, _, _⟩ := h.dtAt hx0
 have HDP := mkC hdp
 have e0 := (cells10 h.blk).1
 rw [hdp] at e0
 have k0 := (hdc w h.bel).1
 have hk3 : (hd (c.ds.drop x0)).kind = 3 := by unfold isLs at hls; simpa using hls
 rw [hk3] at k0
 have hdn := h.dn
 have HB0 : Hid (Below w.heap.size w w.drew.drew) := below_drewC (below_drewC (Below.refl _ _))
 have HI := mkC h
 have HK := mkC (kidsA (k := k) w.drew.drew (h.stp HB0.out).inv hx0 HOK0.out hls)
 rw [hdp] at HK
 clear h hx hp hE hN hb hr hls hdp hdc hk3
 go_enter Tryz.func138, Tryz.ntmps138
 go_wp2_with fail
 go_region
 go_wp2_with fail
 go_cut [8] from 39 (fun v w1 => ∃ (p1 : Option Addr) (c1 : Nat) (ks : List Nat), v = .slice p1 ks.length c1 ∧ OwI w1 w.heap.size (.slice p1 ks.length c1) ks ∧ Below w.heap.size w w1 ∧ Cp.at_ c ks = kidsOf k (c.ds.drop x0) ∧ Pcs c (k - 1) ks)
 case first =>
  go_region_law (refine step_callC _ rfl 40 _ _ rfl #[.slice (some ⟨db, dof, none⟩) c.dn c.dc, .int .i64 (x0 : Nat)] ?ha (inKids _) (fun v w1 => ∃ (p1 : Option Addr) (c1 : Nat) (ks : List Nat), v = .slice p1 ks.length c1 ∧ OwI w1 w.heap.size (.slice p1 ks.length c1) ks ∧ Below w.heap.size w w1 ∧ Cp.at_ c ks = kidsOf k (c.ds.drop x0) ∧ Pcs c (k - 1) ks) (HK.out.mono (fun e w1 hh => (by obtain ⟨p1, c1, ks, h1, h2, h3, h4, h5, _⟩ := hh; exact ⟨_, h1, p1, c1, ks, rfl, h2, HB0.out.trans h3, h4, h5⟩))) ?_; (case ha => first | (simp [Act.eval]; done) | (simp [Act.eval, Act.put]; done)); rintro v w1 ⟨p1, c1, ks, rfl, hh1⟩; have HH1 := mkC hh1; clear hh1)
  all_goals go_wp2_with fail
  all_goals go_meet
  all_goals exact ⟨_, _, _, rfl, HH1.out⟩
 case rest =>
 obtain ⟨p1, c1, ks, rfl, ho1, hb1, hat1, hpc1⟩ := hcut
 obtain ⟨w1, hw1⟩ : ∃ w1, w1 = wc := ⟨_, rfl⟩
 subst hw1
 have HO1 := mkC ho1
 have HB1 := mkC hb1
 have HAT := mkC hat1
 have HPK := mkC (hpc1.mono (Nat.sub_le k 1))
 clear ho1 hb1 hat1 hpc1
 have HI1 := mkC (HI.out.stp HB1.out)
 have HIX := mkC (OwI.ix1 HI.out HO1.out)
 have HSZ : Hid (sumS k (Cp.at_ c ks) + 1 = sz k (c.ds.drop x0)) := by unfold Hid; rw [HAT.out]; exact kids_sumK HOK0.out HLS.out
 obtain ⟨np, hnp⟩ : ∃ np, np = ks.length := ⟨_, rfl⟩
 have HNP := mkC hnp
 have hnp3 : np ≤ 3000 := by
  have h1 := len_sum (Pcs.ok HPK.out)
  rw [show (Cp.at_ c ks).length = ks.length by simp [Cp.at_]] at h1
  have h2 := HSZ.out
  have h3 := HB.out
  simp only [Cp.at_, List.map_cons, sumS] at h1 h2 h3
  omega
 rw [← hnp]
 clear hnp HK y0 k0 e0 HO1 t0
 go_wp2_with fail
 go_loopw [9, 10, 11] (fun hv iv jv wr => ∃ (i : Nat) (hp_ ip : Option Addr) (hc ic : Nat), i ≤ np ∧ jv = .int .i64 (i : Nat) ∧ hv = .slice hp_ i hc ∧ iv = .slice ip i ic ∧ Hid (∃ hs is_, Prs w1 wr (.slice hp_ i hc) (.slice ip i ic) hs is_ ∧ LtS c k ((Cp.at_ c ks).take i) hs is_ ∧ hs.length = i ∧ is_.length = i)) (fun _ _ jv _ => np - (intOf jv).toNat)
 case atStart => exact ⟨0, none, none, 0, 0, Nat.zero_le _, rfl, rfl, rfl, [], [], ⟨Below.refl _ _, OwI.nil _ _, OwI.nil _ _, (fun _ hk => by cases hk)⟩, LtS.nil c k, rfl, rfl⟩
 case round =>
  obtain ⟨i, hp_, ip, hc, ic, hi, rfl, rfl, rfl, hR⟩ := hrel
  obtain ⟨hs, is_, hprs, hlt, hhl, hil⟩ := hR.out
  have HIr := mkC (HI1.out.inv.stp hprs.bel)
  by_cases hlti : i < np
  ·have hik : i < ks.length := by rw [← HNP.out]; exact hlti
   obtain ⟨g1, o1, rfl, hg1, y1⟩ := HIX.out.at_ hik
   have y1 := cell_keepC hprs.bel hg1 y1
   have HPI := mkC (HPK.out _ (List.getElem_mem hik))
   have hxd : ks[i]'hik < c.dn := HPI.out.1
   obtain ⟨db2, dof2, hdp2, hdc, hcl, hch⟩ := HIr.out.inv.dtAt hxd
   have hdd : db2 = db ∧ dof2 = dof := by
    have := HDP.out
    rw [hdp2] at this
    cases this
    exact ⟨rfl, rfl⟩
   obtain ⟨rfl, rfl⟩ := hdd
   have e0 := (cells10 HIr.out.inv.blk).1
   rw [hdp2] at e0
   have k0 := (hdc wr HIr.out.inv.bel).1
   have k3 := (hdc wr HIr.out.inv.bel).2
   have HTK : Hid ((Cp.at_ c ks).take (i + 1) = (Cp.at_ c ks).take i ++ [c.ds.drop (ks[i]'hik)]) := by
    unfold Hid
    rw [List.take_succ_eq_append_getElem (by simp [Cp.at_]; exact hik)]
    simp [Cp.at_]
   have HMEM : Hid (c.ds.drop (ks[i]'hik) ∈ kidsOf k (c.ds.drop x0)) := by
    unfold Hid
    rw [← HAT.out]
    exact List.mem_map.2 ⟨_, List.getElem_mem hik, rfl⟩
   have HPRS := mkC hprs
   have HLT := mkC hlt
   have HHL := mkC (And.intro hhl hil)
   by_cases hpr : isPr (c.ds.drop (ks[i]'hik)) = true
   ·have hk3 : (hd (c.ds.drop (ks[i]'hik))).kind = 3 := by unfold isPr isLs at hpr; simp at hpr; exact hpr.1
    have hc2 : (hd (c.ds.drop (ks[i]'hik))).count = 2 := by unfold isPr isLs at hpr; simp at hpr; exact hpr.2
    have HLSx : Hid (isLs (c.ds.drop (ks[i]'hik)) = true) := by unfold Hid isLs; simpa using hk3
    rw [hk3] at k0
    rw [hc2] at k3
    have HBd : Hid (Below wr.heap.size wr wr.drew.drew) := below_drewC (below_drewC (Below.refl _ _))
    have HK := mkC (kidsA (k := k) wr.drew.drew (HIr.out.inv.stp HBd.out).inv hxd HPI.out.2 HLSx.out)
    rw [hdp2] at HK
    have HPR := mkC hpr
    have HC2 := mkC hc2
    generalize ks[i]'hik = x at y1 k0 k3 hxd HPI HTK HMEM HLSx HK HPR HC2
    have HKK : Hid (∀ (e : Ending) (w2 : World), KiP c k x wr.drew.drew w2 e → ∃ v, e = .returned v ∧ ∃ (p2 : Option Addr) (c2 b0 b1 : Nat), v = .slice p2 2 c2 ∧ OwI w2 wr.heap.size (.slice p2 2 c2) [b0, b1] ∧ Below wr.heap.size wr w2 ∧ Cp.at_ c [b0, b1] = kidsOf k (c.ds.drop x) ∧ Pcs c (k - 1) [b0, b1]) := fun e w2 hh => by
     obtain ⟨p2, c2, k2, h1, h2, h3, h4, h5, h6⟩ := hh
     rw [HC2.out] at h6
     rcases k2 with _ | ⟨b0, _ | ⟨b1, _ | ⟨b2, t⟩⟩⟩
     ·simp at h6
     ·simp at h6
     ·exact ⟨_, h1, p2, c2, b0, b1, rfl, h2, HBd.out.trans h3, h4, h5⟩
     ·simp at h6; omega
    clear hprs hlt hhl hil hpr hk3 hc2 hdc hcl hch hdp2
    go_wp2_with fail
    go_region
    go_wp2_with fail
    go_cut [12] from 82 to 90 (fun v w2 => ∃ (p2 : Option Addr) (c2 b0 b1 : Nat), v = .slice p2 2 c2 ∧ OwI w2 wr.heap.size (.slice p2 2 c2) [b0, b1] ∧ Below wr.heap.size wr w2 ∧ Cp.at_ c [b0, b1] = kidsOf k (c.ds.drop x) ∧ Pcs c (k - 1) [b0, b1])
    case first =>
     go_region_law (refine step_callC _ rfl 40 _ _ rfl #[.slice (some ⟨db2, dof2, none⟩) c.dn c.dc, .int .i64 (x : Nat)] ?ha (inKids _) (fun v w2 => ∃ (p2 : Option Addr) (c2 b0 b1 : Nat), v = .slice p2 2 c2 ∧ OwI w2 wr.heap.size (.slice p2 2 c2) [b0, b1] ∧ Below wr.heap.size wr w2 ∧ Cp.at_ c [b0, b1] = kidsOf k (c.ds.drop x) ∧ Pcs c (k - 1) [b0, b1]) (HK.out.mono (fun e w2 hh => HKK.out e w2 hh)) ?_; (case ha => first | (simp [Act.eval]; done) | (simp [Act.eval, Act.put]; done)); rintro v w2 ⟨p2, c2, b0, b1, rfl, hh2⟩; have HH2 := mkC hh2; clear hh2)
     all_goals go_wp2_with fail
     all_goals go_meet
     all_goals exact ⟨_, _, _, _, rfl, HH2.out⟩
    case rest =>
    obtain ⟨p2, c2, b0, b1, rfl, ho2, hb2, hat2, hpc2⟩ := hcut
    obtain ⟨w2, hw2⟩ : ∃ w2, w2 = wc := ⟨_, rfl⟩
    subst hw2
    have HO2 := mkC ho2
    have HB2 := mkC hb2
    have HAT2 := mkC hat2
    have HPK2 := mkC (hpc2.mono (Nat.sub_le k 1))
    clear ho2 hb2 hat2 hpc2
    clear y1 k0 k3 e0 HK
    obtain ⟨_, _, hbc⟩ := owns_cells HO2.out
    obtain ⟨g2, rfl, hg2, hg2b, _, hcs2⟩ := hbc (by decide)
    have z0 : w2.cell? ⟨g2, 0, none⟩ = some (.int .i64 (b0 : Nat)) := by rw [hcs2 0 (by decide)]; rfl
    have z1 : w2.cell? ⟨g2, 1, none⟩ = some (.int .i64 (b1 : Nat)) := by rw [hcs2 1 (by decide)]; rfl
    have hcap2 : 2 ≤ c2 := (owns_cells HO2.out).1
    have HP2 := mkC (HPRS.out.keep HB2.out)
    have HH : Hid (w2.ownsRow w1.heap.size 3 1 (.slice hp_ i hc) i (inC hs)) := by unfold Hid; have h1 := HP2.out.ho; unfold OwI at h1; rw [HHL.out.1] at h1; exact h1
    have hBw2 : w1.heap.size ≤ w2.heap.size := HP2.out.bel.size
    have HLTX : Hid (LtS c k ((Cp.at_ c ks).take (i + 1)) (hs ++ [b0]) (is_ ++ [b1])) := by
     unfold Hid
     rw [HTK.out]
     exact HLT.out.snoc HPI.out.2 HPR.out HAT2.out HPK2.out
    have HA1 : Hid (∀ v' w3, w3.ownsRow w1.heap.size 3 1 v' (i + 1) (inC hs ++ [.int .i64 (b0 : Nat)]) → Below w1.heap.size w2 w3 → But w2 w3 (.slice hp_ i hc) → (∀ k, v'.ownBlock = some k → (Value.slice hp_ i hc).ownBlock = some k ∨ w2.heap.size ≤ k) → Prs w1 w3 v' (.slice ip i ic) (hs ++ [b0]) is_ ∧ w3.cell? ⟨g2, 1, none⟩ = some (.int .i64 (b1 : Nat))) := fun v' w3 h1 h2 h3 h4 => by
     refine ⟨HP2.out.addH (by rw [HHL.out.1]; exact h1) h2 h3 h4, ?_⟩
     have hne : some g2 ≠ (Value.slice hp_ i hc).ownBlock := fun e => by
      have h5 := (owns_lt HPRS.out.ho g2 e.symm).1
      omega
     rw [World.cell?_of_block (w := w2) (h3 g2 hg2 hne), hcs2 1 (by decide)]
     rfl
    clear hcs2 hbc
    go_wp2_with (at_builtin; first | (refine appW_at w2 rfl (.tmp 91) (.tmp 95) 77 3 rfl _ 1 8 Tryz.underlying77 info3C rfl (by decide) w1.heap.size (.slice hp_ i hc) i (inC hs) (by simp [Act.eval]) HH.out #[.int .i64 (b0 : Nat)] rfl (by simp [Value.oneCell']) (by simp [Act.eval]) (by unfold maxLen; omega) (by omega) hBw2 ?_; intro v' w3 ho hb3 hbt hloc hsz; obtain ⟨p3, c3, hv3⟩ := owns_form ho; subst hv3; have HA3 := mkC (HA1.out _ w3 ho hb3 hbt hloc).1; have z3 := (HA1.out _ w3 ho hb3 hbt hloc).2; have HI3 : Hid (w3.ownsRow w1.heap.size 3 1 (.slice ip i ic) i (inC is_)) := (by unfold Hid; have h1 := HA3.out.io; unfold OwI at h1; rw [HHL.out.2] at h1; exact h1); have hBw3 : w1.heap.size ≤ w3.heap.size := HA3.out.bel.size; clear ho hb3 hbt hloc z0 z1) | (refine appW_at w3 rfl (.tmp 97) (.tmp 101) 77 3 rfl _ 1 8 Tryz.underlying77 info3C rfl (by decide) w1.heap.size (.slice ip i ic) i (inC is_) (by simp [Act.eval]) HI3.out #[.int .i64 (b1 : Nat)] rfl (by simp [Value.oneCell']) (by simp [Act.eval]) (by unfold maxLen; omega) (by omega) hBw3 ?_; intro v4 w4 ho hb4 hbt hloc hsz4; obtain ⟨p4, c4, hv4⟩ := owns_form ho; subst hv4; have HA4 : Hid (Prs w1 w4 (.slice p3 (i + 1) c3) (.slice p4 (i + 1) c4) (hs ++ [b0]) (is_ ++ [b1])) := HA3.out.addI (by rw [HHL.out.2]; exact ho) hb4 hbt hloc; clear ho hb4 hbt hloc))
    exact ⟨⟨i + 1, p3, p4, c3, c4, by omega, by go_num, rfl, rfl, hs ++ [b0], is_ ++ [b1], HA4.out, HLTX.out, by rw [List.length_append, HHL.out.1]; rfl, by rw [List.length_append, HHL.out.2]; rfl⟩, by simp [intOf]; omega⟩
   ·have hpr' : isPr (c.ds.drop (ks[i]'hik)) = false := by simpa using hpr
    have HRN : Hid (r = none) := by unfold Hid; rw [HR.out]; exact letR_pair HMEM.out hpr'
    have HW := mkC (l5wrong_c false wr.drew (HIr.out.inv.stp (below_drewC (Below.refl _ _))).inv (by have := HN.out; omega))
    have HFN : Hid (∀ w', (∃ st', Stp c (N + 2) st wr.drew st' w' ∧ st'.bad = true ∧ st'.bo = st.bo) → SpP c N k st (x0 :: bs) r w w') := fun w' hh => by
     obtain ⟨st', h1, h2, h3⟩ := hh
     rw [HRN.out]
     exact wrong_sp ⟨st', ((HI1.out.trans HIr.out).trans (HIr.out.inv.stp (below_drewC (Below.refl _ _)))).trans h1, h2, h3⟩
    by_cases hk3 : (hd (c.ds.drop (ks[i]'hik))).kind = 3
    ·have hc2 : ((hd (c.ds.drop (ks[i]'hik))).count == 2) = false := by
      unfold isPr isLs at hpr'
      simp [hk3] at hpr'
      simpa using hpr'
     rw [hk3] at k0
     generalize (hd (c.ds.drop (ks[i]'hik))).count = cnt at k3 hc2
     generalize ks[i]'hik = x at y1 k0 k3 hxd HPI HTK HMEM
     clear hprs hlt hhl hil hpr hpr' hk3 hdc hcl hch hdp2
     go_wp2_with fail
     go_region
     all_goals go_wp2_with fail
     all_goals refine HW.out.mono ?_
     all_goals rintro e wx ⟨⟨u, rfl⟩, h1⟩
     all_goals have HF := mkC (HFN.out _ h1)
     all_goals clear h1 HW
     all_goals go_wp2_with fail
     all_goals refine bodyPost_ret (results_none rfl _ _ _) rfl ?_
     all_goals exact ⟨⟨_, rfl⟩, HF.out⟩
    ·have hc2 : ((hd (c.ds.drop (ks[i]'hik))).kind == 3) = false := by simpa using hk3
     have hc3 : ((hd (c.ds.drop (ks[i]'hik))).kind != 3) = true := by simpa using hk3
     generalize (hd (c.ds.drop (ks[i]'hik))).kind = kd at k0 hc2 hc3
     generalize ks[i]'hik = x at y1 k0 k3 hxd HPI HTK HMEM
     clear hprs hlt hhl hil hpr hpr' hk3 hdc hcl hch hdp2
     go_wp2_with fail
     go_region
     all_goals go_wp2_with fail
     all_goals refine HW.out.mono ?_
     all_goals rintro e wx ⟨⟨u, rfl⟩, h1⟩
     all_goals have HF := mkC (HFN.out _ h1)
     all_goals clear h1 HW
     all_goals go_wp2_with fail
     all_goals refine bodyPost_ret (results_none rfl _ _ _) rfl ?_
     all_goals exact ⟨⟨_, rfl⟩, HF.out⟩
  ·obtain rfl : i = np := by omega
   have HPRS := mkC hprs
   have HLT : Hid (LtS c k (kidsOf k (c.ds.drop x0)) hs is_) := by
    unfold Hid
    rw [← HAT.out]
    rw [List.take_of_length_le (by simp [Cp.at_]; rw [← HNP.out]; exact Nat.le_refl _)] at hlt
    exact hlt
   have HHL := mkC (And.intro hhl hil)
   have HIXH : Hid (Ix st wr hp_ i hc hs) := by
    unfold Hid
    have h1 := hprs.ho
    rw [← hhl] at h1
    have h2 := OwI.ix1 HI1.out.inv h1
    rw [hhl] at h2
    exact h2
   have HIXI : Hid (Ix st wr ip i ic is_) := by
    unfold Hid
    have h1 := hprs.io
    rw [← hil] at h1
    have h2 := OwI.ix1 HI1.out.inv h1
    rw [hil] at h2
    exact h2
   have HNA := mkC (l5names_c hp_ i hc hs wr HIr.out.inv HIXH.out HLT.out.ph hnp3)
   clear hprs hlt hhl hil
   go_wp2_with fail
   refine HNA.out.mono ?_
   rintro e w2 ⟨hb2, ⟨hno, rfl⟩ | ⟨q, qc, ms, rfl, hns, hqo⟩⟩
   ·have HRN : Hid (r = none) := by unfold Hid; rw [HR.out]; exact letR_names HLT.out hno
    have HS2 := mkC ((HI1.out.trans HIr.out).trans (HIr.out.inv.stp hb2))
    have HW := mkC (l5wrong_c false w2 HS2.out.inv (by have := HN.out; omega))
    clear hb2 hno HNA
    go_wp2_with fail
    refine HW.out.mono ?_
    rintro e wx ⟨⟨u, rfl⟩, st', h1, h2, h3⟩
    have HF : Hid (SpP c N k st (x0 :: bs) r w wx) := by
     unfold Hid
     rw [HRN.out]
     exact wrong_sp ⟨st', HS2.out.trans h1, h2, h3⟩
    clear h1 h2 h3 HW
    go_wp2_with fail
    refine bodyPost_ret (results_none rfl _ _ _) rfl ?_
    exact ⟨⟨_, rfl⟩, HF.out⟩
   ·have HS2 := mkC ((HI1.out.trans HIr.out).trans (HIr.out.inv.stp hb2))
    have hhl2 : hs.length = i := HHL.out.1
    rw [hhl2] at hqo ⊢
    have HQO := mkC hqo
    have HML : Hid (ms.length = i) := by unfold Hid; rw [hns.len]; exact hhl2
    have HRS : Hid (r = cat (allO (rd (st.gl.map (·.x)) k st.sc) (Cp.at_ c is_)) (allO (rd (st.gl.map (·.x)) k (st.sc ++ ms.map (·.x))) (Cp.at_ c bs))) := by
     unfold Hid
     rw [HR.out, letR_some HLS.out (by intro e; have := HL.out; rw [e] at this; simp at this) HLT.out hns.some_]
     rfl
    have HNS := mkC hns
    have HIXI2 := mkC (HIXI.out.step (HIr.out.inv.stp hb2).fr)
    have HQX : Hid (Ex st (.slice q i qc)) := fun kk hk hp2 => by
     have h1 := owns_ge HQO.out kk hk
     have h2 := (HIr.out.inv.fp_lt hp2).1
     omega
    have HT := mkC (topA (ab := st.ab) w2 HS2.out.inv rfl (by have := HN.out; omega))
    clear hb2 HNA hqo hns hhl2
    go_wp2_with fail
    refine HT.out.mono ?_
    rintro e w3 ⟨rfl, hb3⟩
    have HS3 := mkC (HS2.out.trans (HS2.out.inv.stp hb3))
    have HQ3 := mkC (owns_below HQO.out hb3)
    have HIXI3 := mkC (HIXI2.out.step (HS2.out.inv.stp hb3).fr)
    obtain ⟨tb, htb⟩ : ∃ tb, tb = st.tp.b := ⟨_, rfl⟩
    have HTB := mkC htb
    obtain ⟨p5, c5, hvv⟩ := owns_form HS3.out.inv.tpI.vars
    have e5 := (cells5 HS3.out.inv.tpI.blk).1
    rw [hvv, ← htb] at e5
    rw [← htb]
    obtain ⟨vn, hvn⟩ : ∃ vn, vn = st.tp.vs.length := ⟨_, rfl⟩
    have HVN := mkC hvn
    rw [← hvn] at e5
    have hvl : vn ≤ 1000000000 := by have h1 := HI.out.tpW.vn; have h2 := HN.out; omega
    have e4 := (cells10 HS3.out.inv.blk).2.2.2.1
    obtain ⟨bo, hbo⟩ : ∃ bo, bo = st.bo := ⟨_, rfl⟩
    have HBO := mkC hbo
    rw [← hbo] at e4
    have hbo3 : bo ≤ 3000 := by have := HB.out; omega
    have HSUM : Hid (sumB k (Cp.at_ c is_) + 40000 * i ≤ bud k (c.ds.drop x0) ∧ sumS k (Cp.at_ c is_) + i ≤ sz k (c.ds.drop x0)) := by
     unfold Hid
     have a1 := kids_sumK HOK0.out HLS.out
     have a2 := HLT.out.sm
     have a3 := sumB_le HLT.out.pi.ok
     have a4 := len_sum HLT.out.ph.ok
     have a5 := HLT.out.lenh
     rw [show (Cp.at_ c hs).length = hs.length by simp [Cp.at_]] at a4
     have a6 := HHL.out.1
     have a7 : bud k (c.ds.drop x0) = 20000 * sz k (c.ds.drop x0) - 10000 := rfl
     rw [a7]
     rw [show (Cp.at_ c is_).length = is_.length by simp [Cp.at_], HHL.out.2] at a3
     omega
    have HNB : Hid (N + bud k (c.ds.drop x0) + 10 + sumB k (Cp.at_ c bs) + 9000 ≤ 1000000000 ∧ st.bo + sz k (c.ds.drop x0) + sumS k (Cp.at_ c bs) ≤ 3000) := by
     unfold Hid
     have h1 := HN.out
     have h2 := HB.out
     simp only [Cp.at_, List.map_cons, sumB, sumS] at h1 h2 ⊢
     omega
    clear hb3 HT htb hvv hvn hbo HIXI2
    have HIN := mkC (l5inits_c HE.out q i qc ms ip ic is_ w3 HS3.out.inv HQ3.out HQX.out HML.out HNS.out.nmi HIXI3.out HLT.out.pi (by have h1 := HNB.out; have h2 := HSUM.out; omega) (by have h1 := HNB.out; have h2 := HSUM.out; omega))
    rw [← HBO.out] at HIN
    go_wp2_with fail
    refine HIN.out.mono ?_
    rintro e w4 ⟨⟨u, rfl⟩, s1, hin⟩
    have HM : Hid (LtM c N k st w3 ms is_ st.sc s1 w4) := hin.m
    clear hin HIN e4 e5
    have hab1 : s1.ab = st.ab := by obtain ⟨us, h1, _⟩ := HM.out.sm; exact h1.ab
    have HBD := mkC (l5body_c (st := s1) HE.out (some ⟨g, o + 1, none⟩) (m + 1) (d - 1) bs false w4 HM.out.inv ?_ (fun x hx => HP.out x (List.mem_cons_of_mem _ hx)) (by have h1 := HNB.out; have h2 := HSUM.out; have h3 := HML.out; omega) (by have h1 := HNB.out; have h2 := HSUM.out; have h3 := HM.out.bo; have h4 := HML.out; omega))
    rotate_left
    ·obtain ⟨d', rfl⟩ : ∃ d', d = d' + 1 := ⟨d - 1, by omega⟩
     have h1 := (HX.out.step (HS3.out.fr.trans HM.out.fr)).tail (p' := some ⟨g, o + 1, none⟩) (fun _ => rfl)
     simpa using h1
    rw [hab1] at HBD
    clear hab1
    go_wp2_with fail
    refine HBD.out.mono ?_
    rintro e w5 ⟨⟨u, rfl⟩, s2, hs2⟩
    have HS5 := mkC hs2
    obtain ⟨us, hu1, hu2⟩ := HM.out.sm
    have htb5 : s2.tp.b = tb := by rw [HTB.out, hs2.stp.sm.tp.1, hu1.tb]
    obtain ⟨p6, c6, hv6⟩ := owns_form hs2.stp.inv.tpI.vars
    have e6 := (cells5 hs2.stp.inv.tpI.blk).1
    have f6 := (cells5 hs2.stp.inv.tpI.blk).2.2.2.2.2
    have g6 := (cells5 hs2.stp.inv.tpI.blk).2.2.2.2.1
    rw [hv6, htb5] at e6
    rw [htb5] at f6 g6
    obtain ⟨sl6, hsl6⟩ : ∃ sl6, sl6 = s2.tp.sl := ⟨_, rfl⟩
    rw [← hsl6] at g6
    have hc6 : s2.tp.vs.length ≤ c6 := by have h1 := hs2.stp.inv.tpI.vars; rw [hv6] at h1; exact (owns_cells h1).1
    have hle : vn ≤ s2.tp.vs.length := by rw [hs2.stp.sm.tp.2.1, hu1.tv, List.length_append, HVN.out]; omega
    have HFIN := mkC (HM.out.fin (x0 := x0) (hs := hs) (w := w) HS3.out.fr HLS.out HOK0.out HLT.out (by rw [HML.out, HHL.out.1]) hs2 hv6)
    rw [← HVN.out, ← HTB.out, ← HRS.out] at HFIN
    have hab5 : s2.ab = st.ab := by rw [hs2.stp.sm.ab, hu1.ab]
    obtain ⟨vn6, hvn6⟩ : ∃ vn6, vn6 = s2.tp.vs.length := ⟨_, rfl⟩
    have hvn6b : vn6 ≤ 1000000000 := by have h1 := hs2.stp.inv.tpW.vn; have h2 := HNB.out; have h3 := HSUM.out; have h4 := HML.out; omega
    rw [← hvn6] at e6 hc6 hle
    clear hs2 hu1 hu2 htb5 hv6 hab5 hsl6 hvn6 HBD
    obtain ⟨s3, h1, h2, h3, h4⟩ := HFIN.out
    have HEM := mkC (fun x y z sl => emitA (ab := st.ab) (s := s3) x y z sl _ h1.inv h1.sm.ab (by have := HN.out; omega))
    have HF3 := mkC (And.intro h1 (And.intro h2 h3))
    clear h1 h2 h3 h4 HFIN
    go_wp2_with fail
    refine (HEM.out _ _ _ _).mono ?_
    rintro e w7 ⟨rfl, s4, hs4, hq4, _⟩
    have HF : Hid (SpP c N k st (x0 :: bs) r w w7) := ⟨s4, (HF3.out.1.trans hs4).mono (by omega), HF3.out.2.1.then_ hq4, by rw [hq4.2.2]; exact HF3.out.2.2⟩
    clear hs4 hq4
    go_wp2_with fail
    go_end0
    exact ⟨⟨_, rfl⟩, HF.out⟩
set_option maxRecDepth 20000 in
set_option maxHeartbeats 8000000 in
theorem l5lett_c {c : Cx} {N k : Nat} {st : St} (hE : ExC c k) (p : Option Addr) (m d x0 : Nat) (bs : List Nat) (w : World) (r : Option (List (List Int))) (hr : r = letR k (rd (st.gl.map (·.x)) k) st.sc false (Cp.at_ c (x0 :: bs))) (h : Inv c N w st) (hx : Ix st w p (m + 2) d (x0 :: bs)) (hp : Pcs c k (x0 :: bs)) (hls : isLs (c.ds.drop x0) = true) (hN : N + sumB k (Cp.at_ c (x0 :: bs)) + 9000 ≤ 1000000000) (hb : st.bo + sumS k (Cp.at_ c (x0 :: bs)) ≤ 3000) :
  Calls Tryz.prog 138 #[.pointer (some ⟨st.ab, 0, none⟩), .slice p (m + 2 : Nat) d, .bool false, .bool true] w fun e w' => (∃ u, e = .returned u) ∧ SpP c N k st (x0 :: bs) r w w' := by
 have HE := mkC hE
 have HX := mkC hx
 have HP := mkC hp
 have HN := mkC hN
 have HB := mkC hb
 have HR := mkC hr
 have HL : Hid (bs.length = m + 1) := by have := hx.len; simp at this; exact this
 have hm3 : m + 2 ≤ 3000 := by
  have h1 := len_sum (Pcs.ok hp)
  have h2 := hx.len
  rw [show (Cp.at_ c (x0 :: bs)).length = (x0 :: bs).length by simp [Cp.at_]] at h1
  omega
 have t0 : decide ((m : Int) + 2 < 2) = false := decide_eq_false (by omega)
 have hmc : m + 2 ≤ d := hx.cap
 have hm0 : (0 : Int) < (m : Int) + 2 := by omega
 obtain ⟨g, o, rfl, hg, y0⟩ := hx.at_ (i := 0) (by simp)
 simp only [List.getElem_cons_zero, Nat.add_zero] at y0
 have hx0 : x0 < c.dn := (hp x0 (by simp)).1
 have HOK0 : Hid (Ok k (c.ds.drop x0)) := (hp x0 (by simp)).2
 have HLS := mkC hls
 obtain ⟨db, dof, hdp, hdc, _, _⟩ := h.dtAt hx0
 have HDP := mkC hdp
 have e0 := (cells10 h.blk).1
 rw [hdp] at e0
 have k0 := (hdc w h.bel).1
 have hk3 : (hd (c.ds.drop x0)).kind = 3 := by unfold isLs at hls; simpa using hls
 rw [hk3] at k0
 have hdn := h.dn
 have HB0 : Hid (Below w.heap.size w w.drew.drew) := below_drewC (below_drewC (Below.refl _ _))
 have HI := mkC h
 have HK := mkC (kidsA (k := k) w.drew.drew (h.stp HB0.out).inv hx0 HOK0.out hls)
 rw [hdp] at HK
 clear h hx hp hE hN hb hr hls hdp hdc hk3
 go_enter Tryz.func138, Tryz.ntmps138
 go_wp2_with fail
 go_region
 go_wp2_with fail
 go_cut [8] from 39 (fun v w1 => ∃ (p1 : Option Addr) (c1 : Nat) (ks : List Nat), v = .slice p1 ks.length c1 ∧ OwI w1 w.heap.size (.slice p1 ks.length c1) ks ∧ Below w.heap.size w w1 ∧ Cp.at_ c ks = kidsOf k (c.ds.drop x0) ∧ Pcs c (k - 1) ks)
 case first =>
  go_region_law (refine step_callC _ rfl 40 _ _ rfl #[.slice (some ⟨db, dof, none⟩) c.dn c.dc, .int .i64 (x0 : Nat)] ?ha (inKids _) (fun v w1 => ∃ (p1 : Option Addr) (c1 : Nat) (ks : List Nat), v = .slice p1 ks.length c1 ∧ OwI w1 w.heap.size (.slice p1 ks.length c1) ks ∧ Below w.heap.size w w1 ∧ Cp.at_ c ks = kidsOf k (c.ds.drop x0) ∧ Pcs c (k - 1) ks) (HK.out.mono (fun e w1 hh => (by obtain ⟨p1, c1, ks, h1, h2, h3, h4, h5, _⟩ := hh; exact ⟨_, h1, p1, c1, ks, rfl, h2, HB0.out.trans h3, h4, h5⟩))) ?_; (case ha => first | (simp [Act.eval]; done) | (simp [Act.eval, Act.put]; done)); rintro v w1 ⟨p1, c1, ks, rfl, hh1⟩; have HH1 := mkC hh1; clear hh1)
  all_goals go_wp2_with fail
  all_goals go_meet
  all_goals exact ⟨_, _, _, rfl, HH1.out⟩
 case rest =>
 obtain ⟨p1, c1, ks, rfl, ho1, hb1, hat1, hpc1⟩ := hcut
 obtain ⟨w1, hw1⟩ : ∃ w1, w1 = wc := ⟨_, rfl⟩
 subst hw1
 have HO1 := mkC ho1
 have HB1 := mkC hb1
 have HAT := mkC hat1
 have HPK := mkC (hpc1.mono (Nat.sub_le k 1))
 clear ho1 hb1 hat1 hpc1
 have HI1 := mkC (HI.out.stp HB1.out)
 have HIX := mkC (OwI.ix1 HI.out HO1.out)
 have HSZ : Hid (sumS k (Cp.at_ c ks) + 1 = sz k (c.ds.drop x0)) := by unfold Hid; rw [HAT.out]; exact kids_sumK HOK0.out HLS.out
 obtain ⟨np, hnp⟩ : ∃ np, np = ks.length := ⟨_, rfl⟩
 have HNP := mkC hnp
 have hnp3 : np ≤ 3000 := by
  have h1 := len_sum (Pcs.ok HPK.out)
  rw [show (Cp.at_ c ks).length = ks.length by simp [Cp.at_]] at h1
  have h2 := HSZ.out
  have h3 := HB.out
  simp only [Cp.at_, List.map_cons, sumS] at h1 h2 h3
  omega
 rw [← hnp]
 clear hnp HK y0 k0 e0 HO1 t0
 go_wp2_with fail
 go_loopw [9, 10, 11] (fun hv iv jv wr => ∃ (i : Nat) (hp_ ip : Option Addr) (hc ic : Nat), i ≤ np ∧ jv = .int .i64 (i : Nat) ∧ hv = .slice hp_ i hc ∧ iv = .slice ip i ic ∧ Hid (∃ hs is_, Prs w1 wr (.slice hp_ i hc) (.slice ip i ic) hs is_ ∧ LtS c k ((Cp.at_ c ks).take i) hs is_ ∧ hs.length = i ∧ is_.length = i)) (fun _ _ jv _ => np - (intOf jv).toNat)
 case atStart => exact ⟨0, none, none, 0, 0, Nat.zero_le _, rfl, rfl, rfl, [], [], ⟨Below.refl _ _, OwI.nil _ _, OwI.nil _ _, (fun _ hk => by cases hk)⟩, LtS.nil c k, rfl, rfl⟩
 case round =>
  obtain ⟨i, hp_, ip, hc, ic, hi, rfl, rfl, rfl, hR⟩ := hrel
  obtain ⟨hs, is_, hprs, hlt, hhl, hil⟩ := hR.out
  have HIr := mkC (HI1.out.inv.stp hprs.bel)
  by_cases hlti : i < np
  ·have hik : i < ks.length := by rw [← HNP.out]; exact hlti
   obtain ⟨g1, o1, rfl, hg1, y1⟩ := HIX.out.at_ hik
   have y1 := cell_keepC hprs.bel hg1 y1
   have HPI := mkC (HPK.out _ (List.getElem_mem hik))
   have hxd : ks[i]'hik < c.dn := HPI.out.1
   obtain ⟨db2, dof2, hdp2, hdc, hcl, hch⟩ := HIr.out.inv.dtAt hxd
   have hdd : db2 = db ∧ dof2 = dof := by
    have := HDP.out
    rw [hdp2] at this
    cases this
    exact ⟨rfl, rfl⟩
   obtain ⟨rfl, rfl⟩ := hdd
   have e0 := (cells10 HIr.out.inv.blk).1
   rw [hdp2] at e0
   have k0 := (hdc wr HIr.out.inv.bel).1
   have k3 := (hdc wr HIr.out.inv.bel).2
   have HTK : Hid ((Cp.at_ c ks).take (i + 1) = (Cp.at_ c ks).take i ++ [c.ds.drop (ks[i]'hik)]) := by
    unfold Hid
    rw [List.take_succ_eq_append_getElem (by simp [Cp.at_]; exact hik)]
    simp [Cp.at_]
   have HMEM : Hid (c.ds.drop (ks[i]'hik) ∈ kidsOf k (c.ds.drop x0)) := by
    unfold Hid
    rw [← HAT.out]
    exact List.mem_map.2 ⟨_, List.getElem_mem hik, rfl⟩
   have HPRS := mkC hprs
   have HLT := mkC hlt
   have HHL := mkC (And.intro hhl hil)
   by_cases hpr : isPr (c.ds.drop (ks[i]'hik)) = true
   ·have hk3 : (hd (c.ds.drop (ks[i]'hik))).kind = 3 := by unfold isPr isLs at hpr; simp at hpr; exact hpr.1
    have hc2 : (hd (c.ds.drop (ks[i]'hik))).count = 2 := by unfold isPr isLs at hpr; simp at hpr; exact hpr.2
    have HLSx : Hid (isLs (c.ds.drop (ks[i]'hik)) = true) := by unfold Hid isLs; simpa using hk3
    rw [hk3] at k0
    rw [hc2] at k3
    have HBd : Hid (Below wr.heap.size wr wr.drew.drew) := below_drewC (below_drewC (Below.refl _ _))
    have HK := mkC (kidsA (k := k) wr.drew.drew (HIr.out.inv.stp HBd.out).inv hxd HPI.out.2 HLSx.out)
    rw [hdp2] at HK
    have HPR := mkC hpr
    have HC2 := mkC hc2
    generalize ks[i]'hik = x at y1 k0 k3 hxd HPI HTK HMEM HLSx HK HPR HC2
    have HKK : Hid (∀ (e : Ending) (w2 : World), KiP c k x wr.drew.drew w2 e → ∃ v, e = .returned v ∧ ∃ (p2 : Option Addr) (c2 b0 b1 : Nat), v = .slice p2 2 c2 ∧ OwI w2 wr.heap.size (.slice p2 2 c2) [b0, b1] ∧ Below wr.heap.size wr w2 ∧ Cp.at_ c [b0, b1] = kidsOf k (c.ds.drop x) ∧ Pcs c (k - 1) [b0, b1]) := fun e w2 hh => by
     obtain ⟨p2, c2, k2, h1, h2, h3, h4, h5, h6⟩ := hh
     rw [HC2.out] at h6
     rcases k2 with _ | ⟨b0, _ | ⟨b1, _ | ⟨b2, t⟩⟩⟩
     ·simp at h6
     ·simp at h6
     ·exact ⟨_, h1, p2, c2, b0, b1, rfl, h2, HBd.out.trans h3, h4, h5⟩
     ·simp at h6; omega
    clear hprs hlt hhl hil hpr hk3 hc2 hdc hcl hch hdp2
    go_wp2_with fail
    go_region
    go_wp2_with fail
    go_cut [12] from 82 to 90 (fun v w2 => ∃ (p2 : Option Addr) (c2 b0 b1 : Nat), v = .slice p2 2 c2 ∧ OwI w2 wr.heap.size (.slice p2 2 c2) [b0, b1] ∧ Below wr.heap.size wr w2 ∧ Cp.at_ c [b0, b1] = kidsOf k (c.ds.drop x) ∧ Pcs c (k - 1) [b0, b1])
    case first =>
     go_region_law (refine step_callC _ rfl 40 _ _ rfl #[.slice (some ⟨db2, dof2, none⟩) c.dn c.dc, .int .i64 (x : Nat)] ?ha (inKids _) (fun v w2 => ∃ (p2 : Option Addr) (c2 b0 b1 : Nat), v = .slice p2 2 c2 ∧ OwI w2 wr.heap.size (.slice p2 2 c2) [b0, b1] ∧ Below wr.heap.size wr w2 ∧ Cp.at_ c [b0, b1] = kidsOf k (c.ds.drop x) ∧ Pcs c (k - 1) [b0, b1]) (HK.out.mono (fun e w2 hh => HKK.out e w2 hh)) ?_; (case ha => first | (simp [Act.eval]; done) | (simp [Act.eval, Act.put]; done)); rintro v w2 ⟨p2, c2, b0, b1, rfl, hh2⟩; have HH2 := mkC hh2; clear hh2)
     all_goals go_wp2_with fail
     all_goals go_meet
     all_goals exact ⟨_, _, _, _, rfl, HH2.out⟩
    case rest =>
    obtain ⟨p2, c2, b0, b1, rfl, ho2, hb2, hat2, hpc2⟩ := hcut
    obtain ⟨w2, hw2⟩ : ∃ w2, w2 = wc := ⟨_, rfl⟩
    subst hw2
    have HO2 := mkC ho2
    have HB2 := mkC hb2
    have HAT2 := mkC hat2
    have HPK2 := mkC (hpc2.mono (Nat.sub_le k 1))
    clear ho2 hb2 hat2 hpc2
    clear y1 k0 k3 e0 HK
    obtain ⟨_, _, hbc⟩ := owns_cells HO2.out
    obtain ⟨g2, rfl, hg2, hg2b, _, hcs2⟩ := hbc (by decide)
    have z0 : w2.cell? ⟨g2, 0, none⟩ = some (.int .i64 (b0 : Nat)) := by rw [hcs2 0 (by decide)]; rfl
    have z1 : w2.cell? ⟨g2, 1, none⟩ = some (.int .i64 (b1 : Nat)) := by rw [hcs2 1 (by decide)]; rfl
    have hcap2 : 2 ≤ c2 := (owns_cells HO2.out).1
    have HP2 := mkC (HPRS.out.keep HB2.out)
    have HH : Hid (w2.ownsRow w1.heap.size 3 1 (.slice hp_ i hc) i (inC hs)) := by unfold Hid; have h1 := HP2.out.ho; unfold OwI at h1; rw [HHL.out.1] at h1; exact h1
    have hBw2 : w1.heap.size ≤ w2.heap.size := HP2.out.bel.size
    have HLTX : Hid (LtS c k ((Cp.at_ c ks).take (i + 1)) (hs ++ [b0]) (is_ ++ [b1])) := by
     unfold Hid
     rw [HTK.out]
     exact HLT.out.snoc HPI.out.2 HPR.out HAT2.out HPK2.out
    have HA1 : Hid (∀ v' w3, w3.ownsRow w1.heap.size 3 1 v' (i + 1) (inC hs ++ [.int .i64 (b0 : Nat)]) → Below w1.heap.size w2 w3 → But w2 w3 (.slice hp_ i hc) → (∀ k, v'.ownBlock = some k → (Value.slice hp_ i hc).ownBlock = some k ∨ w2.heap.size ≤ k) → Prs w1 w3 v' (.slice ip i ic) (hs ++ [b0]) is_ ∧ w3.cell? ⟨g2, 1, none⟩ = some (.int .i64 (b1 : Nat))) := fun v' w3 h1 h2 h3 h4 => by
     refine ⟨HP2.out.addH (by rw [HHL.out.1]; exact h1) h2 h3 h4, ?_⟩
     have hne : some g2 ≠ (Value.slice hp_ i hc).ownBlock := fun e => by
      have h5 := (owns_lt HPRS.out.ho g2 e.symm).1
      omega
     rw [World.cell?_of_block (w := w2) (h3 g2 hg2 hne), hcs2 1 (by decide)]
     rfl
    clear hcs2 hbc
    go_wp2_with (at_builtin; first | (refine appW_at w2 rfl (.tmp 91) (.tmp 95) 77 3 rfl _ 1 8 Tryz.underlying77 info3C rfl (by decide) w1.heap.size (.slice hp_ i hc) i (inC hs) (by simp [Act.eval]) HH.out #[.int .i64 (b0 : Nat)] rfl (by simp [Value.oneCell']) (by simp [Act.eval]) (by unfold maxLen; omega) (by omega) hBw2 ?_; intro v' w3 ho hb3 hbt hloc hsz; obtain ⟨p3, c3, hv3⟩ := owns_form ho; subst hv3; have HA3 := mkC (HA1.out _ w3 ho hb3 hbt hloc).1; have z3 := (HA1.out _ w3 ho hb3 hbt hloc).2; have HI3 : Hid (w3.ownsRow w1.heap.size 3 1 (.slice ip i ic) i (inC is_)) := (by unfold Hid; have h1 := HA3.out.io; unfold OwI at h1; rw [HHL.out.2] at h1; exact h1); have hBw3 : w1.heap.size ≤ w3.heap.size := HA3.out.bel.size; clear ho hb3 hbt hloc z0 z1) | (refine appW_at w3 rfl (.tmp 97) (.tmp 101) 77 3 rfl _ 1 8 Tryz.underlying77 info3C rfl (by decide) w1.heap.size (.slice ip i ic) i (inC is_) (by simp [Act.eval]) HI3.out #[.int .i64 (b1 : Nat)] rfl (by simp [Value.oneCell']) (by simp [Act.eval]) (by unfold maxLen; omega) (by omega) hBw3 ?_; intro v4 w4 ho hb4 hbt hloc hsz4; obtain ⟨p4, c4, hv4⟩ := owns_form ho; subst hv4; have HA4 : Hid (Prs w1 w4 (.slice p3 (i + 1) c3) (.slice p4 (i + 1) c4) (hs ++ [b0]) (is_ ++ [b1])) := HA3.out.addI (by rw [HHL.out.2]; exact ho) hb4 hbt hloc; clear ho hb4 hbt hloc))
    exact ⟨⟨i + 1, p3, p4, c3, c4, by omega, by go_num, rfl, rfl, hs ++ [b0], is_ ++ [b1], HA4.out, HLTX.out, by rw [List.length_append, HHL.out.1]; rfl, by rw [List.length_append, HHL.out.2]; rfl⟩, by simp [intOf]; omega⟩
   ·have hpr' : isPr (c.ds.drop (ks[i]'hik)) = false := by simpa using hpr
    have HRN : Hid (r = none) := by unfold Hid; rw [HR.out]; exact letR_pair HMEM.out hpr'
    have HW := mkC (l5wrong_c true wr.drew (HIr.out.inv.stp (below_drewC (Below.refl _ _))).inv (by have := HN.out; omega))
    have HFN : Hid (∀ w', (∃ st', Stp c (N + 2) st wr.drew st' w' ∧ st'.bad = true ∧ st'.bo = st.bo) → SpP c N k st (x0 :: bs) r w w') := fun w' hh => by
     obtain ⟨st', h1, h2, h3⟩ := hh
     rw [HRN.out]
     exact wrong_sp ⟨st', ((HI1.out.trans HIr.out).trans (HIr.out.inv.stp (below_drewC (Below.refl _ _)))).trans h1, h2, h3⟩
    by_cases hk3 : (hd (c.ds.drop (ks[i]'hik))).kind = 3
    ·have hc2 : ((hd (c.ds.drop (ks[i]'hik))).count == 2) = false := by
      unfold isPr isLs at hpr'
      simp [hk3] at hpr'
      simpa using hpr'
     rw [hk3] at k0
     generalize (hd (c.ds.drop (ks[i]'hik))).count = cnt at k3 hc2
     generalize ks[i]'hik = x at y1 k0 k3 hxd HPI HTK HMEM
     clear hprs hlt hhl hil hpr hpr' hk3 hdc hcl hch hdp2
     go_wp2_with fail
     go_region
     all_goals go_wp2_with fail
     all_goals refine HW.out.mono ?_
     all_goals rintro e wx ⟨⟨u, rfl⟩, h1⟩
     all_goals have HF := mkC (HFN.out _ h1)
     all_goals clear h1 HW
     all_goals go_wp2_with fail
     all_goals refine bodyPost_ret (results_none rfl _ _ _) rfl ?_
     all_goals exact ⟨⟨_, rfl⟩, HF.out⟩
    ·have hc2 : ((hd (c.ds.drop (ks[i]'hik))).kind == 3) = false := by simpa using hk3
     have hc3 : ((hd (c.ds.drop (ks[i]'hik))).kind != 3) = true := by simpa using hk3
     generalize (hd (c.ds.drop (ks[i]'hik))).kind = kd at k0 hc2 hc3
     generalize ks[i]'hik = x at y1 k0 k3 hxd HPI HTK HMEM
     clear hprs hlt hhl hil hpr hpr' hk3 hdc hcl hch hdp2
     go_wp2_with fail
     go_region
     all_goals go_wp2_with fail
     all_goals refine HW.out.mono ?_
     all_goals rintro e wx ⟨⟨u, rfl⟩, h1⟩
     all_goals have HF := mkC (HFN.out _ h1)
     all_goals clear h1 HW
     all_goals go_wp2_with fail
     all_goals refine bodyPost_ret (results_none rfl _ _ _) rfl ?_
     all_goals exact ⟨⟨_, rfl⟩, HF.out⟩
  ·obtain rfl : i = np := by omega
   have HPRS := mkC hprs
   have HLT : Hid (LtS c k (kidsOf k (c.ds.drop x0)) hs is_) := by
    unfold Hid
    rw [← HAT.out]
    rw [List.take_of_length_le (by simp [Cp.at_]; rw [← HNP.out]; exact Nat.le_refl _)] at hlt
    exact hlt
   have HHL := mkC (And.intro hhl hil)
   have HIXH : Hid (Ix st wr hp_ i hc hs) := by
    unfold Hid
    have h1 := hprs.ho
    rw [← hhl] at h1
    have h2 := OwI.ix1 HI1.out.inv h1
    rw [hhl] at h2
    exact h2
   have HIXI : Hid (Ix st wr ip i ic is_) := by
    unfold Hid
    have h1 := hprs.io
    rw [← hil] at h1
    have h2 := OwI.ix1 HI1.out.inv h1
    rw [hil] at h2
    exact h2
   have HNA := mkC (l5names_c hp_ i hc hs wr HIr.out.inv HIXH.out HLT.out.ph hnp3)
   clear hprs hlt hhl hil
   go_wp2_with fail
   refine HNA.out.mono ?_
   rintro e w2 ⟨hb2, ⟨hno, rfl⟩ | ⟨q, qc, ms, rfl, hns, hqo⟩⟩
   ·have HRN : Hid (r = none) := by unfold Hid; rw [HR.out]; exact letR_names HLT.out hno
    have HS2 := mkC ((HI1.out.trans HIr.out).trans (HIr.out.inv.stp hb2))
    have HW := mkC (l5wrong_c true w2 HS2.out.inv (by have := HN.out; omega))
    clear hb2 hno HNA
    go_wp2_with fail
    refine HW.out.mono ?_
    rintro e wx ⟨⟨u, rfl⟩, st', h1, h2, h3⟩
    have HF : Hid (SpP c N k st (x0 :: bs) r w wx) := by
     unfold Hid
     rw [HRN.out]
     exact wrong_sp ⟨st', HS2.out.trans h1, h2, h3⟩
    clear h1 h2 h3 HW
    go_wp2_with fail
    refine bodyPost_ret (results_none rfl _ _ _) rfl ?_
    exact ⟨⟨_, rfl⟩, HF.out⟩
   ·have HS2 := mkC ((HI1.out.trans HIr.out).trans (HIr.out.inv.stp hb2))
    have hhl2 : hs.length = i := HHL.out.1
    rw [hhl2] at hqo ⊢
    have HQO := mkC hqo
    have HML : Hid (ms.length = i) := by unfold Hid; rw [hns.len]; exact hhl2
    have HRS : Hid (r = cat (allO (rd (st.gl.map (·.x)) k st.sc) (Cp.at_ c is_)) (allO (rd (st.gl.map (·.x)) k (st.sc ++ ms.map (·.x))) (Cp.at_ c bs))) := by
     unfold Hid
     rw [HR.out, letR_some HLS.out (by intro e; have := HL.out; rw [e] at this; simp at this) HLT.out hns.some_]
     rfl
    have HNS := mkC hns
    have HIXI2 := mkC (HIXI.out.step (HIr.out.inv.stp hb2).fr)
    have HQX : Hid (Ex st (.slice q i qc)) := fun kk hk hp2 => by
     have h1 := owns_ge HQO.out kk hk
     have h2 := (HIr.out.inv.fp_lt hp2).1
     omega
    have HT := mkC (topA (ab := st.ab) w2 HS2.out.inv rfl (by have := HN.out; omega))
    clear hb2 HNA hqo hns hhl2
    go_wp2_with fail
    refine HT.out.mono ?_
    rintro e w3 ⟨rfl, hb3⟩
    have HS3 := mkC (HS2.out.trans (HS2.out.inv.stp hb3))
    have HQ3 := mkC (owns_below HQO.out hb3)
    have HIXI3 := mkC (HIXI2.out.step (HS2.out.inv.stp hb3).fr)
    obtain ⟨tb, htb⟩ : ∃ tb, tb = st.tp.b := ⟨_, rfl⟩
    have HTB := mkC htb
    obtain ⟨p5, c5, hvv⟩ := owns_form HS3.out.inv.tpI.vars
    have e5 := (cells5 HS3.out.inv.tpI.blk).1
    rw [hvv, ← htb] at e5
    rw [← htb]
    obtain ⟨vn, hvn⟩ : ∃ vn, vn = st.tp.vs.length := ⟨_, rfl⟩
    have HVN := mkC hvn
    rw [← hvn] at e5
    have hvl : vn ≤ 1000000000 := by have h1 := HI.out.tpW.vn; have h2 := HN.out; omega
    have e4 := (cells10 HS3.out.inv.blk).2.2.2.1
    obtain ⟨bo, hbo⟩ : ∃ bo, bo = st.bo := ⟨_, rfl⟩
    have HBO := mkC hbo
    rw [← hbo] at e4
    have hbo3 : bo ≤ 3000 := by have := HB.out; omega
    have HSUM : Hid (sumB k (Cp.at_ c is_) + 40000 * i ≤ bud k (c.ds.drop x0) ∧ sumS k (Cp.at_ c is_) + i ≤ sz k (c.ds.drop x0)) := by
     unfold Hid
     have a1 := kids_sumK HOK0.out HLS.out
     have a2 := HLT.out.sm
     have a3 := sumB_le HLT.out.pi.ok
     have a4 := len_sum HLT.out.ph.ok
     have a5 := HLT.out.lenh
     rw [show (Cp.at_ c hs).length = hs.length by simp [Cp.at_]] at a4
     have a6 := HHL.out.1
     have a7 : bud k (c.ds.drop x0) = 20000 * sz k (c.ds.drop x0) - 10000 := rfl
     rw [a7]
     rw [show (Cp.at_ c is_).length = is_.length by simp [Cp.at_], HHL.out.2] at a3
     omega
    have HNB : Hid (N + bud k (c.ds.drop x0) + 10 + sumB k (Cp.at_ c bs) + 9000 ≤ 1000000000 ∧ st.bo + sz k (c.ds.drop x0) + sumS k (Cp.at_ c bs) ≤ 3000) := by
     unfold Hid
     have h1 := HN.out
     have h2 := HB.out
     simp only [Cp.at_, List.map_cons, sumB, sumS] at h1 h2 ⊢
     omega
    clear hb3 HT htb hvv hvn hbo HIXI2
    have HIN := mkC (l5inits_c HE.out q i qc ms ip ic is_ w3 HS3.out.inv HQ3.out HQX.out HML.out HNS.out.nmi HIXI3.out HLT.out.pi (by have h1 := HNB.out; have h2 := HSUM.out; omega) (by have h1 := HNB.out; have h2 := HSUM.out; omega))
    rw [← HBO.out] at HIN
    go_wp2_with fail
    refine HIN.out.mono ?_
    rintro e w4 ⟨⟨u, rfl⟩, s1, hin⟩
    have HM : Hid (LtM c N k st w3 ms is_ st.sc s1 w4) := hin.m
    clear hin HIN e4 e5
    have hab1 : s1.ab = st.ab := by obtain ⟨us, h1, _⟩ := HM.out.sm; exact h1.ab
    have HBD := mkC (l5body_c (st := s1) HE.out (some ⟨g, o + 1, none⟩) (m + 1) (d - 1) bs true w4 HM.out.inv ?_ (fun x hx => HP.out x (List.mem_cons_of_mem _ hx)) (by have h1 := HNB.out; have h2 := HSUM.out; have h3 := HML.out; omega) (by have h1 := HNB.out; have h2 := HSUM.out; have h3 := HM.out.bo; have h4 := HML.out; omega))
    rotate_left
    ·obtain ⟨d', rfl⟩ : ∃ d', d = d' + 1 := ⟨d - 1, by omega⟩
     have h1 := (HX.out.step (HS3.out.fr.trans HM.out.fr)).tail (p' := some ⟨g, o + 1, none⟩) (fun _ => rfl)
     simpa using h1
    rw [hab1] at HBD
    clear hab1
    go_wp2_with fail
    refine HBD.out.mono ?_
    rintro e w5 ⟨⟨u, rfl⟩, s2, hs2⟩
    have HS5 := mkC hs2
    obtain ⟨us, hu1, hu2⟩ := HM.out.sm
    have htb5 : s2.tp.b = tb := by rw [HTB.out, hs2.stp.sm.tp.1, hu1.tb]
    obtain ⟨p6, c6, hv6⟩ := owns_form hs2.stp.inv.tpI.vars
    have e6 := (cells5 hs2.stp.inv.tpI.blk).1
    have f6 := (cells5 hs2.stp.inv.tpI.blk).2.2.2.2.2
    have g6 := (cells5 hs2.stp.inv.tpI.blk).2.2.2.2.1
    rw [hv6, htb5] at e6
    rw [htb5] at f6 g6
    obtain ⟨sl6, hsl6⟩ : ∃ sl6, sl6 = s2.tp.sl := ⟨_, rfl⟩
    rw [← hsl6] at g6
    have hc6 : s2.tp.vs.length ≤ c6 := by have h1 := hs2.stp.inv.tpI.vars; rw [hv6] at h1; exact (owns_cells h1).1
    have hle : vn ≤ s2.tp.vs.length := by rw [hs2.stp.sm.tp.2.1, hu1.tv, List.length_append, HVN.out]; omega
    have HFIN := mkC (HM.out.fin (x0 := x0) (hs := hs) (w := w) HS3.out.fr HLS.out HOK0.out HLT.out (by rw [HML.out, HHL.out.1]) hs2 hv6)
    rw [← HVN.out, ← HTB.out, ← HRS.out] at HFIN
    have hab5 : s2.ab = st.ab := by rw [hs2.stp.sm.ab, hu1.ab]
    obtain ⟨vn6, hvn6⟩ : ∃ vn6, vn6 = s2.tp.vs.length := ⟨_, rfl⟩
    have hvn6b : vn6 ≤ 1000000000 := by have h1 := hs2.stp.inv.tpW.vn; have h2 := HNB.out; have h3 := HSUM.out; have h4 := HML.out; omega
    rw [← hvn6] at e6 hc6 hle
    clear hs2 hu1 hu2 htb5 hv6 hab5 hsl6 hvn6 HBD
    go_wp2_with fail
    go_end0
    obtain ⟨s3, h1, h2, h3, _⟩ := HFIN.out
    exact ⟨⟨_, rfl⟩, s3, h1.mono (by omega), h2, h3⟩
set_option maxRecDepth 20000 in
set_option maxHeartbeats 8000000 in
theorem l5letrf_c {c : Cx} {N k : Nat} {st : St} (hE : ExC c k) (p : Option Addr) (m d x0 : Nat) (bs : List Nat) (w : World) (r : Option (List (List Int))) (hr : r = letR k (rd (st.gl.map (·.x)) k) st.sc true (Cp.at_ c (x0 :: bs))) (h : Inv c N w st) (hx : Ix st w p (m + 2) d (x0 :: bs)) (hp : Pcs c k (x0 :: bs)) (hls : isLs (c.ds.drop x0) = true) (hN : N + sumB k (Cp.at_ c (x0 :: bs)) + 9000 ≤ 1000000000) (hb : st.bo + sumS k (Cp.at_ c (x0 :: bs)) ≤ 3000) :
  Calls Tryz.prog 138 #[.pointer (some ⟨st.ab, 0, none⟩), .slice p (m + 2 : Nat) d, .bool true, .bool false] w fun e w' => (∃ u, e = .returned u) ∧ SpP c N k st (x0 :: bs) r w w' := by
 have HE := mkC hE
 have HX := mkC hx
 have HP := mkC hp
 have HN := mkC hN
 have HB := mkC hb
 have HR := mkC hr
 have HL : Hid (bs.length = m + 1) := by have := hx.len; simp at this; exact this
 have hm3 : m + 2 ≤ 3000 := by
  have h1 := len_sum (Pcs.ok hp)
  have h2 := hx.len
  rw [show (Cp.at_ c (x0 :: bs)).length = (x0 :: bs).length by simp [Cp.at_]] at h1
  omega
 have t0 : decide ((m : Int) + 2 < 2) = false := decide_eq_false (by omega)
 have hmc : m + 2 ≤ d := hx.cap
 have hm0 : (0 : Int) < (m : Int) + 2 := by omega
 obtain ⟨g, o, rfl, hg, y0⟩ := hx.at_ (i := 0) (by simp)
 simp only [List.getElem_cons_zero, Nat.add_zero] at y0
 have hx0 : x0 < c.dn := (hp x0 (by simp)).1
 have HOK0 : Hid (Ok k (c.ds.drop x0)) := (hp x0 (by simp)).2
 have HLS := mkC hls
 obtain ⟨db, dof, hdp, hdc, _, _⟩ := h.dtAt hx0
 have HDP := mkC hdp
 have e0 := (cells10 h.blk).1
 rw [hdp] at e0
 have k0 := (hdc w h.bel).1
 have hk3 : (hd (c.ds.drop x0)).kind = 3 := by unfold isLs at hls; simpa using hls
 rw [hk3] at k0
 have hdn := h.dn
 have HB0 : Hid (Below w.heap.size w w.drew.drew) := below_drewC (below_drewC (Below.refl _ _))
 have HI := mkC h
 have HK := mkC (kidsA (k := k) w.drew.drew (h.stp HB0.out).inv hx0 HOK0.out hls)
 rw [hdp] at HK
 clear h hx hp hE hN hb hr hls hdp hdc hk3
 go_enter Tryz.func138, Tryz.ntmps138
 go_wp2_with fail
 go_region
 go_wp2_with fail
 go_cut [8] from 39 (fun v w1 => ∃ (p1 : Option Addr) (c1 : Nat) (ks : List Nat), v = .slice p1 ks.length c1 ∧ OwI w1 w.heap.size (.slice p1 ks.length c1) ks ∧ Below w.heap.size w w1 ∧ Cp.at_ c ks = kidsOf k (c.ds.drop x0) ∧ Pcs c (k - 1) ks)
 case first =>
  go_region_law (refine step_callC _ rfl 40 _ _ rfl #[.slice (some ⟨db, dof, none⟩) c.dn c.dc, .int .i64 (x0 : Nat)] ?ha (inKids _) (fun v w1 => ∃ (p1 : Option Addr) (c1 : Nat) (ks : List Nat), v = .slice p1 ks.length c1 ∧ OwI w1 w.heap.size (.slice p1 ks.length c1) ks ∧ Below w.heap.size w w1 ∧ Cp.at_ c ks = kidsOf k (c.ds.drop x0) ∧ Pcs c (k - 1) ks) (HK.out.mono (fun e w1 hh => (by obtain ⟨p1, c1, ks, h1, h2, h3, h4, h5, _⟩ := hh; exact ⟨_, h1, p1, c1, ks, rfl, h2, HB0.out.trans h3, h4, h5⟩))) ?_; (case ha => first | (simp [Act.eval]; done) | (simp [Act.eval, Act.put]; done)); rintro v w1 ⟨p1, c1, ks, rfl, hh1⟩; have HH1 := mkC hh1; clear hh1)
  all_goals go_wp2_with fail
  all_goals go_meet
  all_goals exact ⟨_, _, _, rfl, HH1.out⟩
 case rest =>
 obtain ⟨p1, c1, ks, rfl, ho1, hb1, hat1, hpc1⟩ := hcut
 obtain ⟨w1, hw1⟩ : ∃ w1, w1 = wc := ⟨_, rfl⟩
 subst hw1
 have HO1 := mkC ho1
 have HB1 := mkC hb1
 have HAT := mkC hat1
 have HPK := mkC (hpc1.mono (Nat.sub_le k 1))
 clear ho1 hb1 hat1 hpc1
 have HI1 := mkC (HI.out.stp HB1.out)
 have HIX := mkC (OwI.ix1 HI.out HO1.out)
 have HSZ : Hid (sumS k (Cp.at_ c ks) + 1 = sz k (c.ds.drop x0)) := by unfold Hid; rw [HAT.out]; exact kids_sumK HOK0.out HLS.out
 obtain ⟨np, hnp⟩ : ∃ np, np = ks.length := ⟨_, rfl⟩
 have HNP := mkC hnp
 have hnp3 : np ≤ 3000 := by
  have h1 := len_sum (Pcs.ok HPK.out)
  rw [show (Cp.at_ c ks).length = ks.length by simp [Cp.at_]] at h1
  have h2 := HSZ.out
  have h3 := HB.out
  simp only [Cp.at_, List.map_cons, sumS] at h1 h2 h3
  omega
 rw [← hnp]
 clear hnp HK y0 k0 e0 HO1 t0
 go_wp2_with fail
 go_loopw [9, 10, 11] (fun hv iv jv wr => ∃ (i : Nat) (hp_ ip : Option Addr) (hc ic : Nat), i ≤ np ∧ jv = .int .i64 (i : Nat) ∧ hv = .slice hp_ i hc ∧ iv = .slice ip i ic ∧ Hid (∃ hs is_, Prs w1 wr (.slice hp_ i hc) (.slice ip i ic) hs is_ ∧ LtS c k ((Cp.at_ c ks).take i) hs is_ ∧ hs.length = i ∧ is_.length = i)) (fun _ _ jv _ => np - (intOf jv).toNat)
 case atStart => exact ⟨0, none, none, 0, 0, Nat.zero_le _, rfl, rfl, rfl, [], [], ⟨Below.refl _ _, OwI.nil _ _, OwI.nil _ _, (fun _ hk => by cases hk)⟩, LtS.nil c k, rfl, rfl⟩
 case round =>
  obtain ⟨i, hp_, ip, hc, ic, hi, rfl, rfl, rfl, hR⟩ := hrel
  obtain ⟨hs, is_, hprs, hlt, hhl, hil⟩ := hR.out
  have HIr := mkC (HI1.out.inv.stp hprs.bel)
  by_cases hlti : i < np
  ·have hik : i < ks.length := by rw [← HNP.out]; exact hlti
   obtain ⟨g1, o1, rfl, hg1, y1⟩ := HIX.out.at_ hik
   have y1 := cell_keepC hprs.bel hg1 y1
   have HPI := mkC (HPK.out _ (List.getElem_mem hik))
   have hxd : ks[i]'hik < c.dn := HPI.out.1
   obtain ⟨db2, dof2, hdp2, hdc, hcl, hch⟩ := HIr.out.inv.dtAt hxd
   have hdd : db2 = db ∧ dof2 = dof := by
    have := HDP.out
    rw [hdp2] at this
    cases this
    exact ⟨rfl, rfl⟩
   obtain ⟨rfl, rfl⟩ := hdd
   have e0 := (cells10 HIr.out.inv.blk).1
   rw [hdp2] at e0
   have k0 := (hdc wr HIr.out.inv.bel).1
   have k3 := (hdc wr HIr.out.inv.bel).2
   have HTK : Hid ((Cp.at_ c ks).take (i + 1) = (Cp.at_ c ks).take i ++ [c.ds.drop (ks[i]'hik)]) := by
    unfold Hid
    rw [List.take_succ_eq_append_getElem (by simp [Cp.at_]; exact hik)]
    simp [Cp.at_]
   have HMEM : Hid (c.ds.drop (ks[i]'hik) ∈ kidsOf k (c.ds.drop x0)) := by
    unfold Hid
    rw [← HAT.out]
    exact List.mem_map.2 ⟨_, List.getElem_mem hik, rfl⟩
   have HPRS := mkC hprs
   have HLT := mkC hlt
   have HHL := mkC (And.intro hhl hil)
   by_cases hpr : isPr (c.ds.drop (ks[i]'hik)) = true
   ·have hk3 : (hd (c.ds.drop (ks[i]'hik))).kind = 3 := by unfold isPr isLs at hpr; simp at hpr; exact hpr.1
    have hc2 : (hd (c.ds.drop (ks[i]'hik))).count = 2 := by unfold isPr isLs at hpr; simp at hpr; exact hpr.2
    have HLSx : Hid (isLs (c.ds.drop (ks[i]'hik)) = true) := by unfold Hid isLs; simpa using hk3
    rw [hk3] at k0
    rw [hc2] at k3
    have HBd : Hid (Below wr.heap.size wr wr.drew.drew) := below_drewC (below_drewC (Below.refl _ _))
    have HK := mkC (kidsA (k := k) wr.drew.drew (HIr.out.inv.stp HBd.out).inv hxd HPI.out.2 HLSx.out)
    rw [hdp2] at HK
    have HPR := mkC hpr
    have HC2 := mkC hc2
    generalize ks[i]'hik = x at y1 k0 k3 hxd HPI HTK HMEM HLSx HK HPR HC2
    have HKK : Hid (∀ (e : Ending) (w2 : World), KiP c k x wr.drew.drew w2 e → ∃ v, e = .returned v ∧ ∃ (p2 : Option Addr) (c2 b0 b1 : Nat), v = .slice p2 2 c2 ∧ OwI w2 wr.heap.size (.slice p2 2 c2) [b0, b1] ∧ Below wr.heap.size wr w2 ∧ Cp.at_ c [b0, b1] = kidsOf k (c.ds.drop x) ∧ Pcs c (k - 1) [b0, b1]) := fun e w2 hh => by
     obtain ⟨p2, c2, k2, h1, h2, h3, h4, h5, h6⟩ := hh
     rw [HC2.out] at h6
     rcases k2 with _ | ⟨b0, _ | ⟨b1, _ | ⟨b2, t⟩⟩⟩
     ·simp at h6
     ·simp at h6
     ·exact ⟨_, h1, p2, c2, b0, b1, rfl, h2, HBd.out.trans h3, h4, h5⟩
     ·simp at h6; omega
    clear hprs hlt hhl hil hpr hk3 hc2 hdc hcl hch hdp2
    go_wp2_with fail
    go_region
    go_wp2_with fail
    go_cut [12] from 82 to 90 (fun v w2 => ∃ (p2 : Option Addr) (c2 b0 b1 : Nat), v = .slice p2 2 c2 ∧ OwI w2 wr.heap.size (.slice p2 2 c2) [b0, b1] ∧ Below wr.heap.size wr w2 ∧ Cp.at_ c [b0, b1] = kidsOf k (c.ds.drop x) ∧ Pcs c (k - 1) [b0, b1])
    case first =>
     go_region_law (refine step_callC _ rfl 40 _ _ rfl #[.slice (some ⟨db2, dof2, none⟩) c.dn c.dc, .int .i64 (x : Nat)] ?ha (inKids _) (fun v w2 => ∃ (p2 : Option Addr) (c2 b0 b1 : Nat), v = .slice p2 2 c2 ∧ OwI w2 wr.heap.size (.slice p2 2 c2) [b0, b1] ∧ Below wr.heap.size wr w2 ∧ Cp.at_ c [b0, b1] = kidsOf k (c.ds.drop x) ∧ Pcs c (k - 1) [b0, b1]) (HK.out.mono (fun e w2 hh => HKK.out e w2 hh)) ?_; (case ha => first | (simp [Act.eval]; done) | (simp [Act.eval, Act.put]; done)); rintro v w2 ⟨p2, c2, b0, b1, rfl, hh2⟩; have HH2 := mkC hh2; clear hh2)
     all_goals go_wp2_with fail
     all_goals go_meet
     all_goals exact ⟨_, _, _, _, rfl, HH2.out⟩
    case rest =>
    obtain ⟨p2, c2, b0, b1, rfl, ho2, hb2, hat2, hpc2⟩ := hcut
    obtain ⟨w2, hw2⟩ : ∃ w2, w2 = wc := ⟨_, rfl⟩
    subst hw2
    have HO2 := mkC ho2
    have HB2 := mkC hb2
    have HAT2 := mkC hat2
    have HPK2 := mkC (hpc2.mono (Nat.sub_le k 1))
    clear ho2 hb2 hat2 hpc2
    clear y1 k0 k3 e0 HK
    obtain ⟨_, _, hbc⟩ := owns_cells HO2.out
    obtain ⟨g2, rfl, hg2, hg2b, _, hcs2⟩ := hbc (by decide)
    have z0 : w2.cell? ⟨g2, 0, none⟩ = some (.int .i64 (b0 : Nat)) := by rw [hcs2 0 (by decide)]; rfl
    have z1 : w2.cell? ⟨g2, 1, none⟩ = some (.int .i64 (b1 : Nat)) := by rw [hcs2 1 (by decide)]; rfl
    have hcap2 : 2 ≤ c2 := (owns_cells HO2.out).1
    have HP2 := mkC (HPRS.out.keep HB2.out)
    have HH : Hid (w2.ownsRow w1.heap.size 3 1 (.slice hp_ i hc) i (inC hs)) := by unfold Hid; have h1 := HP2.out.ho; unfold OwI at h1; rw [HHL.out.1] at h1; exact h1
    have hBw2 : w1.heap.size ≤ w2.heap.size := HP2.out.bel.size
    have HLTX : Hid (LtS c k ((Cp.at_ c ks).take (i + 1)) (hs ++ [b0]) (is_ ++ [b1])) := by
     unfold Hid
     rw [HTK.out]
     exact HLT.out.snoc HPI.out.2 HPR.out HAT2.out HPK2.out
    have HA1 : Hid (∀ v' w3, w3.ownsRow w1.heap.size 3 1 v' (i + 1) (inC hs ++ [.int .i64 (b0 : Nat)]) → Below w1.heap.size w2 w3 → But w2 w3 (.slice hp_ i hc) → (∀ k, v'.ownBlock = some k → (Value.slice hp_ i hc).ownBlock = some k ∨ w2.heap.size ≤ k) → Prs w1 w3 v' (.slice ip i ic) (hs ++ [b0]) is_ ∧ w3.cell? ⟨g2, 1, none⟩ = some (.int .i64 (b1 : Nat))) := fun v' w3 h1 h2 h3 h4 => by
     refine ⟨HP2.out.addH (by rw [HHL.out.1]; exact h1) h2 h3 h4, ?_⟩
     have hne : some g2 ≠ (Value.slice hp_ i hc).ownBlock := fun e => by
      have h5 := (owns_lt HPRS.out.ho g2 e.symm).1
      omega
     rw [World.cell?_of_block (w := w2) (h3 g2 hg2 hne), hcs2 1 (by decide)]
     rfl
    clear hcs2 hbc
    go_wp2_with (at_builtin; first | (refine appW_at w2 rfl (.tmp 91) (.tmp 95) 77 3 rfl _ 1 8 Tryz.underlying77 info3C rfl (by decide) w1.heap.size (.slice hp_ i hc) i (inC hs) (by simp [Act.eval]) HH.out #[.int .i64 (b0 : Nat)] rfl (by simp [Value.oneCell']) (by simp [Act.eval]) (by unfold maxLen; omega) (by omega) hBw2 ?_; intro v' w3 ho hb3 hbt hloc hsz; obtain ⟨p3, c3, hv3⟩ := owns_form ho; subst hv3; have HA3 := mkC (HA1.out _ w3 ho hb3 hbt hloc).1; have z3 := (HA1.out _ w3 ho hb3 hbt hloc).2; have HI3 : Hid (w3.ownsRow w1.heap.size 3 1 (.slice ip i ic) i (inC is_)) := (by unfold Hid; have h1 := HA3.out.io; unfold OwI at h1; rw [HHL.out.2] at h1; exact h1); have hBw3 : w1.heap.size ≤ w3.heap.size := HA3.out.bel.size; clear ho hb3 hbt hloc z0 z1) | (refine appW_at w3 rfl (.tmp 97) (.tmp 101) 77 3 rfl _ 1 8 Tryz.underlying77 info3C rfl (by decide) w1.heap.size (.slice ip i ic) i (inC is_) (by simp [Act.eval]) HI3.out #[.int .i64 (b1 : Nat)] rfl (by simp [Value.oneCell']) (by simp [Act.eval]) (by unfold maxLen; omega) (by omega) hBw3 ?_; intro v4 w4 ho hb4 hbt hloc hsz4; obtain ⟨p4, c4, hv4⟩ := owns_form ho; subst hv4; have HA4 : Hid (Prs w1 w4 (.slice p3 (i + 1) c3) (.slice p4 (i + 1) c4) (hs ++ [b0]) (is_ ++ [b1])) := HA3.out.addI (by rw [HHL.out.2]; exact ho) hb4 hbt hloc; clear ho hb4 hbt hloc))
    exact ⟨⟨i + 1, p3, p4, c3, c4, by omega, by go_num, rfl, rfl, hs ++ [b0], is_ ++ [b1], HA4.out, HLTX.out, by rw [List.length_append, HHL.out.1]; rfl, by rw [List.length_append, HHL.out.2]; rfl⟩, by simp [intOf]; omega⟩
   ·have hpr' : isPr (c.ds.drop (ks[i]'hik)) = false := by simpa using hpr
    have HRN : Hid (r = none) := by unfold Hid; rw [HR.out]; exact letR_pair HMEM.out hpr'
    have HW := mkC (l5wrong_c false wr.drew (HIr.out.inv.stp (below_drewC (Below.refl _ _))).inv (by have := HN.out; omega))
    have HFN : Hid (∀ w', (∃ st', Stp c (N + 2) st wr.drew st' w' ∧ st'.bad = true ∧ st'.bo = st.bo) → SpP c N k st (x0 :: bs) r w w') := fun w' hh => by
     obtain ⟨st', h1, h2, h3⟩ := hh
     rw [HRN.out]
     exact wrong_sp ⟨st', ((HI1.out.trans HIr.out).trans (HIr.out.inv.stp (below_drewC (Below.refl _ _)))).trans h1, h2, h3⟩
    by_cases hk3 : (hd (c.ds.drop (ks[i]'hik))).kind = 3
    ·have hc2 : ((hd (c.ds.drop (ks[i]'hik))).count == 2) = false := by
      unfold isPr isLs at hpr'
      simp [hk3] at hpr'
      simpa using hpr'
     rw [hk3] at k0
     generalize (hd (c.ds.drop (ks[i]'hik))).count = cnt at k3 hc2
     generalize ks[i]'hik = x at y1 k0 k3 hxd HPI HTK HMEM
     clear hprs hlt hhl hil hpr hpr' hk3 hdc hcl hch hdp2
     go_wp2_with fail
     go_region
     all_goals go_wp2_with fail
     all_goals refine HW.out.mono ?_
     all_goals rintro e wx ⟨⟨u, rfl⟩, h1⟩
     all_goals have HF := mkC (HFN.out _ h1)
     all_goals clear h1 HW
     all_goals go_wp2_with fail
     all_goals refine bodyPost_ret (results_none rfl _ _ _) rfl ?_
     all_goals exact ⟨⟨_, rfl⟩, HF.out⟩
    ·have hc2 : ((hd (c.ds.drop (ks[i]'hik))).kind == 3) = false := by simpa using hk3
     have hc3 : ((hd (c.ds.drop (ks[i]'hik))).kind != 3) = true := by simpa using hk3
     generalize (hd (c.ds.drop (ks[i]'hik))).kind = kd at k0 hc2 hc3
     generalize ks[i]'hik = x at y1 k0 k3 hxd HPI HTK HMEM
     clear hprs hlt hhl hil hpr hpr' hk3 hdc hcl hch hdp2
     go_wp2_with fail
     go_region
     all_goals go_wp2_with fail
     all_goals refine HW.out.mono ?_
     all_goals rintro e wx ⟨⟨u, rfl⟩, h1⟩
     all_goals have HF := mkC (HFN.out _ h1)
     all_goals clear h1 HW
     all_goals go_wp2_with fail
     all_goals refine bodyPost_ret (results_none rfl _ _ _) rfl ?_
     all_goals exact ⟨⟨_, rfl⟩, HF.out⟩
  ·obtain rfl : i = np := by omega
   have HPRS := mkC hprs
   have HLT : Hid (LtS c k (kidsOf k (c.ds.drop x0)) hs is_) := by
    unfold Hid
    rw [← HAT.out]
    rw [List.take_of_length_le (by simp [Cp.at_]; rw [← HNP.out]; exact Nat.le_refl _)] at hlt
    exact hlt
   have HHL := mkC (And.intro hhl hil)
   have HIXH : Hid (Ix st wr hp_ i hc hs) := by
    unfold Hid
    have h1 := hprs.ho
    rw [← hhl] at h1
    have h2 := OwI.ix1 HI1.out.inv h1
    rw [hhl] at h2
    exact h2
   have HIXI : Hid (Ix st wr ip i ic is_) := by
    unfold Hid
    have h1 := hprs.io
    rw [← hil] at h1
    have h2 := OwI.ix1 HI1.out.inv h1
    rw [hil] at h2
    exact h2
   have HNA := mkC (l5names_c hp_ i hc hs wr HIr.out.inv HIXH.out HLT.out.ph hnp3)
   clear hprs hlt hhl hil
   go_wp2_with fail
   refine HNA.out.mono ?_
   rintro e w2 ⟨hb2, ⟨hno, rfl⟩ | ⟨q, qc, ms, rfl, hns, hqo⟩⟩
   ·have HRN : Hid (r = none) := by unfold Hid; rw [HR.out]; exact letR_names HLT.out hno
    have HS2 := mkC ((HI1.out.trans HIr.out).trans (HIr.out.inv.stp hb2))
    have HW := mkC (l5wrong_c false w2 HS2.out.inv (by have := HN.out; omega))
    clear hb2 hno HNA
    go_wp2_with fail
    refine HW.out.mono ?_
    rintro e wx ⟨⟨u, rfl⟩, st', h1, h2, h3⟩
    have HF : Hid (SpP c N k st (x0 :: bs) r w wx) := by
     unfold Hid
     rw [HRN.out]
     exact wrong_sp ⟨st', HS2.out.trans h1, h2, h3⟩
    clear h1 h2 h3 HW
    go_wp2_with fail
    refine bodyPost_ret (results_none rfl _ _ _) rfl ?_
    exact ⟨⟨_, rfl⟩, HF.out⟩
   ·have HS2 := mkC ((HI1.out.trans HIr.out).trans (HIr.out.inv.stp hb2))
    have hhl2 : hs.length = i := HHL.out.1
    rw [hhl2] at hqo ⊢
    have HQO := mkC hqo
    have HML : Hid (ms.length = i) := by unfold Hid; rw [hns.len]; exact hhl2
    have HRS : Hid (r = cat (allO (rd (st.gl.map (·.x)) k (st.sc ++ ms.map (·.x))) (Cp.at_ c is_)) (allO (rd (st.gl.map (·.x)) k (st.sc ++ ms.map (·.x))) (Cp.at_ c bs))) := by
     unfold Hid
     rw [HR.out, letR_some HLS.out (by intro e; have := HL.out; rw [e] at this; simp at this) HLT.out hns.some_]
     rfl
    have HNS := mkC hns
    have HIXI2 := mkC (HIXI.out.step (HIr.out.inv.stp hb2).fr)
    have HQX : Hid (Ex st (.slice q i qc)) := fun kk hk hp2 => by
     have h1 := owns_ge HQO.out kk hk
     have h2 := (HIr.out.inv.fp_lt hp2).1
     omega
    have HT := mkC (topA (ab := st.ab) w2 HS2.out.inv rfl (by have := HN.out; omega))
    clear hb2 HNA hqo hns hhl2
    go_wp2_with fail
    refine HT.out.mono ?_
    rintro e w3 ⟨rfl, hb3⟩
    have HS3 := mkC (HS2.out.trans (HS2.out.inv.stp hb3))
    have HQ3 := mkC (owns_below HQO.out hb3)
    have HIXI3 := mkC (HIXI2.out.step (HS2.out.inv.stp hb3).fr)
    obtain ⟨tb, htb⟩ : ∃ tb, tb = st.tp.b := ⟨_, rfl⟩
    have HTB := mkC htb
    obtain ⟨p5, c5, hvv⟩ := owns_form HS3.out.inv.tpI.vars
    have e5 := (cells5 HS3.out.inv.tpI.blk).1
    rw [hvv, ← htb] at e5
    rw [← htb]
    obtain ⟨vn, hvn⟩ : ∃ vn, vn = st.tp.vs.length := ⟨_, rfl⟩
    have HVN := mkC hvn
    rw [← hvn] at e5
    have hvl : vn ≤ 1000000000 := by have h1 := HI.out.tpW.vn; have h2 := HN.out; omega
    have e4 := (cells10 HS3.out.inv.blk).2.2.2.1
    obtain ⟨bo, hbo⟩ : ∃ bo, bo = st.bo := ⟨_, rfl⟩
    have HBO := mkC hbo
    rw [← hbo] at e4
    have hbo3 : bo ≤ 3000 := by have := HB.out; omega
    have HSUM : Hid (sumB k (Cp.at_ c is_) + 40000 * i ≤ bud k (c.ds.drop x0) ∧ sumS k (Cp.at_ c is_) + i ≤ sz k (c.ds.drop x0)) := by
     unfold Hid
     have a1 := kids_sumK HOK0.out HLS.out
     have a2 := HLT.out.sm
     have a3 := sumB_le HLT.out.pi.ok
     have a4 := len_sum HLT.out.ph.ok
     have a5 := HLT.out.lenh
     rw [show (Cp.at_ c hs).length = hs.length by simp [Cp.at_]] at a4
     have a6 := HHL.out.1
     have a7 : bud k (c.ds.drop x0) = 20000 * sz k (c.ds.drop x0) - 10000 := rfl
     rw [a7]
     rw [show (Cp.at_ c is_).length = is_.length by simp [Cp.at_], HHL.out.2] at a3
     omega
    have HNB : Hid (N + bud k (c.ds.drop x0) + 10 + sumB k (Cp.at_ c bs) + 9000 ≤ 1000000000 ∧ st.bo + sz k (c.ds.drop x0) + sumS k (Cp.at_ c bs) ≤ 3000) := by
     unfold Hid
     have h1 := HN.out
     have h2 := HB.out
     simp only [Cp.at_, List.map_cons, sumB, sumS] at h1 h2 ⊢
     omega
    clear hb3 HT htb hvv hvn hbo HIXI2
    go_wp2_with fail
    clear e4 e5
    go_loopw [18] (fun jv wr => ∃ j : Nat, j ≤ i ∧ jv = .int .i64 (j : Nat) ∧ Hid (∃ s us, Inv c (N + 2 * j) wr s ∧ Fr st s w3 wr ∧ SmV st s us ∧ us.map (·.m) = ms.take j ∧ s.bo = st.bo + j ∧ s.bad = st.bad ∧ s.ub = st.ub)) (fun jv _ => i - (intOf jv).toNat)
    case atStart => exact ⟨0, Nat.zero_le _, rfl, st, [], HS3.out.inv, Fr.refl _ _, (Sm.refl st).v, by simp, rfl, rfl, rfl⟩
    case round =>
     obtain ⟨j, hj, rfl, hV⟩ := hrel
     by_cases hjn : j < i
     ·obtain ⟨s, us, hsi, hsf, hsv, hum, hsb, hsd, hsu⟩ := hV.out
      have HSV := mkC (And.intro hsf (And.intro hsv (And.intro hum (And.intro hsb (And.intro hsd hsu)))))
      have HPU := mkC (pushA (s := s) 5 1 0 0 wr hsi hsv.ab (by have h1 := HNB.out; have h2 := HSUM.out; omega))
      clear hsi hsf hsv hum hsb hsd hsu
      go_wp2_with fail
      refine HPU.out.mono ?_
      rintro e w4 ⟨⟨u, rfl⟩, s4, hs4, hq4, _⟩
      have HS4 := mkC hs4
      have HQ4 := mkC hq4
      have HQR := mkC (Ex.keep HQ3.out HQX.out (HSV.out.1.trans hs4.fr))
      have hjm : j < ms.length := by rw [HML.out]; exact hjn
      obtain ⟨qg, rfl, _, yq⟩ := owN_cell HQR.out.1 HML.out hjm
      have hqc : i ≤ qc := (owns_cells HQR.out.1).1
      have HMJ := mkC (HNS.out.nmi _ (List.getElem_mem hjm))
      have HMT : Hid (ms.take (j + 1) = ms.take j ++ [ms[j]'hjm]) := List.take_succ_eq_append_getElem hjm
      have htb : s4.tp.b = tb := by rw [HTB.out, hs4.sm.tp.1, HSV.out.2.1.tb]
      have ysl := (cells5 hs4.inv.tpI.blk).2.2.2.2.1
      rw [htb] at ysl
      have hab4 : s4.ab = st.ab := by rw [hs4.sm.ab, HSV.out.2.1.ab]
      have HBI := mkC (fun slot => l5bind_c (st := s4) (ms[j]'hjm) slot true w4.drew (hs4.inv.stp (below_drewC (Below.refl _ _))).inv HMJ.out (by have h1 := HNB.out; have h2 := HSUM.out; omega) (by have h1 := HNB.out; have h2 := HSUM.out; have h3 := HSV.out.2.2.2.1; rw [hq4.2.2]; omega))
      rw [hab4] at HBI
      unfold nmV at yq
      generalize ms[j]'hjm = mj at yq HMJ HMT HBI
      obtain ⟨mp, mn, mc, mx⟩ := mj
      simp only at yq HBI
      generalize s4.tp.sl = sl4 at ysl
      have HFN : Hid (∀ slot s5 w5, Inv c (N + 2 * j + 1 + 1) w5 s5 → Fr s4 s5 w4.drew w5 → Bd s4 s5 ⟨mp, mn, mc, mx⟩ slot → ∃ s us, Inv c (N + 2 * (j + 1)) w5 s ∧ Fr st s w3 w5 ∧ SmV st s us ∧ us.map (·.m) = ms.take (j + 1) ∧ s.bo = st.bo + (j + 1) ∧ s.bad = st.bad ∧ s.ub = st.ub) := fun slot s5 w5 h1 h2 h3 => by
       refine ⟨s5, us ++ [⟨⟨mp, mn, mc, mx⟩, slot, s4.bo⟩], h1.mono (by omega), ((HSV.out.1.trans HS4.out.fr).trans (HS4.out.inv.stp (below_drewC (Below.refl _ _))).fr).trans h2, (HSV.out.2.1.then_ HS4.out.sm).trans h3.v, ?_, ?_, ?_, ?_⟩
       ·rw [List.map_append, HSV.out.2.2.1, HMT.out]; rfl
       ·rw [h3.bo, HQ4.out.2.2, HSV.out.2.2.2.1]; omega
       ·rw [h3.bad, HQ4.out.1, HSV.out.2.2.2.2.1]
       ·rw [h3.ub, HQ4.out.2.1, HSV.out.2.2.2.2.2]
      clear hs4 hq4 HPU htb hab4
      go_wp2_with fail
      go_region_law (refine step_callC _ rfl 172 _ _ rfl #[.pointer (some ⟨st.ab, 0, none⟩), .slice mp mn mc, .int .i64 (IntKind.i64.wrap (sl4 - 1)), .bool true] ?ha (inBind _) (fun v w5 => ∃ s5, Inv c (N + 2 * j + 1 + 1) w5 s5 ∧ Fr s4 s5 w4.drew w5 ∧ Bd s4 s5 ⟨mp, mn, mc, mx⟩ (IntKind.i64.wrap (sl4 - 1))) ((HBI.out _).mono (fun e w5 hh => (by obtain ⟨h1, s5, h2⟩ := hh; exact ⟨_, h1, s5, h2⟩))) ?_; (case ha => first | (simp [Act.eval]; done) | (simp [Act.eval, Act.put]; done)); rintro v w5 ⟨s5, h51, h52, h53⟩; have HFI := mkC (HFN.out _ s5 w5 h51 h52 h53); clear h51 h52 h53)
      all_goals go_wp2_with fail
      all_goals exact ⟨⟨j + 1, by omega, by go_num, HFI.out⟩, by simp [intOf]; omega⟩
     ·have hji : i = j := by omega
      subst hji
      obtain ⟨s0, us, hsi, hsf, hsv, hum, hsb, hsd, hsu⟩ := hV.out
      rw [List.take_of_length_le (by rw [HML.out]; exact Nat.le_refl _)] at hum
      have HS0 := mkC (And.intro hsi (And.intro hsf (And.intro hsv (And.intro hum (And.intro hsb (And.intro hsd hsu))))))
      have HIX0 := mkC (HIXI3.out.step hsf)
      have HUL : Hid (us.length = i) := by unfold Hid; rw [← HML.out, ← hum, List.length_map]
      clear hsi hsf hsv hum hsb hsd hsu
      obtain ⟨W4, hW4⟩ : ∃ W4, W4 = wr := ⟨_, rfl⟩
      subst hW4
      go_wp2_with fail
      go_loopw [19] (fun jv wr => ∃ j : Nat, j ≤ i ∧ jv = .int .i64 (j : Nat) ∧ Hid (∃ s, SqP c (N + 2 * i + 9) k s0 W4 (is_.take j) s wr)) (fun jv _ => i - (intOf jv).toNat)
      case atStart => exact ⟨0, Nat.zero_le _, rfl, s0, SqP.nil ⟨HS0.out.1.mono (by omega), Fr.refl _ _, Sm.refl _⟩ ⟨rfl, rfl, rfl⟩⟩
      case round =>
       obtain ⟨j, hj, rfl, hV⟩ := hrel
       obtain ⟨s, hs⟩ := hV.out
       by_cases hjn : j < i
       ·have hjl : j < is_.length := by rw [HHL.out.2]; exact hjn
        have htb : s.tp.b = tb := by rw [HTB.out, hs.stp.sm.tp.1, HS0.out.2.2.1.tb]
        have hab : s.ab = st.ab := by rw [hs.stp.sm.ab, HS0.out.2.2.1.ab]
        have hsl : s.tp.vs.length = vn + i := by rw [hs.stp.sm.tp.2.1, HS0.out.2.2.1.tv, List.length_append, HVN.out, HUL.out]
        obtain ⟨vp, vc, hvv, hvc, _, hva⟩ := hs.stp.inv.tpI.vrAt
        obtain ⟨vg, rfl, _, hvcs⟩ := hva (by omega)
        have e5 := (cells5 hs.stp.inv.tpI.blk).1
        rw [hvv, htb, hsl] at e5
        have ev := (hvcs (vn + j) (by omega)).2.1
        generalize (s.tp.vs[vn + j]'(by omega)).slot = slt at ev
        have HPU := mkC (pushA (s := s) 1 slt 0 0 wr hs.stp.inv hab (by have h1 := HNB.out; have h2 := HSUM.out; have h3 := sums_at (c := c) (k := k) hjl; omega))
        have HS := mkC hs
        have hvi : vn + i ≤ 1000010000 := by omega
        clear hs htb hab hsl hvv hva hvcs
        go_wp2_with fail
        refine HPU.out.mono ?_
        rintro e w5 ⟨⟨u, rfl⟩, hm5⟩
        obtain ⟨s5, hs5, hab5, _, _⟩ := HS.out.emp hm5
        have hbb5 : s0.ab = st.ab := HS0.out.2.2.1.ab
        have HC := mkC (hs5.next HE.out HLT.out.pi hjl (by have h1 := HNB.out; have h2 := HSUM.out; omega) (by have h1 := HNB.out; have h2 := HSUM.out; have h3 := HS0.out.2.2.2.2.1; omega) false)
        rw [hbb5] at HC
        obtain ⟨ig, io, rfl, hig, yi⟩ := (HIX0.out.step hs5.stp.fr).at_ hjl
        have HS5 := mkC hs5
        have HTK := mkC (take_snoc hjl)
        have HSM : Hid (N + 2 * i + sumB k (Cp.at_ c (is_.take (j + 1))) + 9000 ≤ 1000000000) := by
         unfold Hid
         have h1 := sums_at (c := c) (k := k) hjl
         have h2 := HNB.out
         have h3 := HSUM.out
         rw [take_snoc hjl, at_snoc, sumB_app]
         simp only [sumB]
         omega
        generalize is_[j]'hjl = x at yi HC HTK
        clear hm5 hs5 hab5 HPU e5 ev
        go_wp2_with fail
        refine HC.out.mono ?_
        rintro e w6 ⟨⟨u, rfl⟩, hx6⟩
        obtain ⟨s6, hs6, _, hab6, _⟩ := (HS5.out : SqP c (N + 2 * i + 10) k s0 W4 (is_.take j) s5 w5).more10 hx6
        rw [← HTK.out] at hs6
        rw [hbb5] at hab6
        have HS6 := mkC hs6
        have HDR := mkC (dropA (s := s6) 7 0 2 w6 hs6.stp.inv hab6 (by have := HSM.out; omega))
        clear hx6 hs6 hab6 HC yi hbb5
        go_wp2_with fail
        refine HDR.out.mono ?_
        rintro e w7 ⟨rfl, hm7⟩
        obtain ⟨s7, hs7, _⟩ := HS6.out.emp hm7
        have HF7 := mkC (hs7.up (M := N + 2 * i + 9) (by omega))
        clear hm7 hs7 HDR
        go_wp2_with fail
        exact ⟨⟨j + 1, by omega, by go_num, s7, HF7.out⟩, by simp [intOf]; omega⟩
       ·have hji : i = j := by omega
        subst hji
        rw [List.take_of_length_le (by rw [HHL.out.2]; exact Nat.le_refl _)] at hs
        obtain ⟨w4, hw4⟩ : ∃ w4, w4 = wr := ⟨_, rfl⟩
        subst hw4
        obtain ⟨s1, hs1⟩ : ∃ s1, s1 = s := ⟨_, rfl⟩
        subst hs1
        have HM : Hid (LtM c N k st w3 ms is_ (st.sc ++ ms.map (·.x)) s1 w4) := by
         refine ⟨hs.stp.inv.mono (by have := HML.out; omega), HS0.out.2.1.trans hs.stp.fr, ⟨us, HS0.out.2.2.1.then_ hs.stp.sm, HS0.out.2.2.2.1⟩, ?_, ?_⟩
         ·have h1 := hs.rs
          rw [HS0.out.2.2.1.gl, HS0.out.2.2.1.sc, map_mx HS0.out.2.2.2.1] at h1
          exact h1.base HS0.out.2.2.2.2.2.1 HS0.out.2.2.2.2.2.2
         ·have h1 := hs.bo
          have h2 := HS0.out.2.2.2.2.1
          have h3 := HML.out
          omega
        clear hs
        have hab1 : s1.ab = st.ab := by obtain ⟨us, h1, _⟩ := HM.out.sm; exact h1.ab
        have HBD := mkC (l5body_c (st := s1) HE.out (some ⟨g, o + 1, none⟩) (m + 1) (d - 1) bs false w4 HM.out.inv ?_ (fun x hx => HP.out x (List.mem_cons_of_mem _ hx)) (by have h1 := HNB.out; have h2 := HSUM.out; have h3 := HML.out; omega) (by have h1 := HNB.out; have h2 := HSUM.out; have h3 := HM.out.bo; have h4 := HML.out; omega))
        rotate_left
        ·obtain ⟨d', rfl⟩ : ∃ d', d = d' + 1 := ⟨d - 1, by omega⟩
         have h1 := (HX.out.step (HS3.out.fr.trans HM.out.fr)).tail (p' := some ⟨g, o + 1, none⟩) (fun _ => rfl)
         simpa using h1
        rw [hab1] at HBD
        clear hab1
        go_wp2_with fail
        refine HBD.out.mono ?_
        rintro e w5 ⟨⟨u, rfl⟩, s2, hs2⟩
        have HS5 := mkC hs2
        obtain ⟨us, hu1, hu2⟩ := HM.out.sm
        have htb5 : s2.tp.b = tb := by rw [HTB.out, hs2.stp.sm.tp.1, hu1.tb]
        obtain ⟨p6, c6, hv6⟩ := owns_form hs2.stp.inv.tpI.vars
        have e6 := (cells5 hs2.stp.inv.tpI.blk).1
        have f6 := (cells5 hs2.stp.inv.tpI.blk).2.2.2.2.2
        have g6 := (cells5 hs2.stp.inv.tpI.blk).2.2.2.2.1
        rw [hv6, htb5] at e6
        rw [htb5] at f6 g6
        obtain ⟨sl6, hsl6⟩ : ∃ sl6, sl6 = s2.tp.sl := ⟨_, rfl⟩
        rw [← hsl6] at g6
        have hc6 : s2.tp.vs.length ≤ c6 := by have h1 := hs2.stp.inv.tpI.vars; rw [hv6] at h1; exact (owns_cells h1).1
        have hle : vn ≤ s2.tp.vs.length := by rw [hs2.stp.sm.tp.2.1, hu1.tv, List.length_append, HVN.out]; omega
        have HFIN := mkC (HM.out.fin (x0 := x0) (hs := hs) (w := w) HS3.out.fr HLS.out HOK0.out HLT.out (by rw [HML.out, HHL.out.1]) hs2 hv6)
        rw [← HVN.out, ← HTB.out, ← HRS.out] at HFIN
        have hab5 : s2.ab = st.ab := by rw [hs2.stp.sm.ab, hu1.ab]
        obtain ⟨vn6, hvn6⟩ : ∃ vn6, vn6 = s2.tp.vs.length := ⟨_, rfl⟩
        have hvn6b : vn6 ≤ 1000000000 := by have h1 := hs2.stp.inv.tpW.vn; have h2 := HNB.out; have h3 := HSUM.out; have h4 := HML.out; omega
        rw [← hvn6] at e6 hc6 hle
        clear hs2 hu1 hu2 htb5 hv6 hab5 hsl6 hvn6 HBD
        obtain ⟨s3, h1, h2, h3, h4⟩ := HFIN.out
        have HEM := mkC (fun x y z sl => emitA (ab := st.ab) (s := s3) x y z sl _ h1.inv h1.sm.ab (by have := HN.out; omega))
        have HF3 := mkC (And.intro h1 (And.intro h2 h3))
        clear h1 h2 h3 h4 HFIN
        go_wp2_with fail
        refine (HEM.out _ _ _ _).mono ?_
        rintro e w7 ⟨rfl, s4, hs4, hq4, _⟩
        have HF : Hid (SpP c N k st (x0 :: bs) r w w7) := ⟨s4, (HF3.out.1.trans hs4).mono (by omega), HF3.out.2.1.then_ hq4, by rw [hq4.2.2]; exact HF3.out.2.2⟩
        clear hs4 hq4
        go_wp2_with fail
        go_end0
        exact ⟨⟨_, rfl⟩, HF.out⟩
set_option maxRecDepth 20000 in
set_option maxHeartbeats 8000000 in
theorem l5letrt_c {c : Cx} {N k : Nat} {st : St} (hE : ExC c k) (p : Option Addr) (m d x0 : Nat) (bs : List Nat) (w : World) (r : Option (List (List Int))) (hr : r = letR k (rd (st.gl.map (·.x)) k) st.sc true (Cp.at_ c (x0 :: bs))) (h : Inv c N w st) (hx : Ix st w p (m + 2) d (x0 :: bs)) (hp : Pcs c k (x0 :: bs)) (hls : isLs (c.ds.drop x0) = true) (hN : N + sumB k (Cp.at_ c (x0 :: bs)) + 9000 ≤ 1000000000) (hb : st.bo + sumS k (Cp.at_ c (x0 :: bs)) ≤ 3000) :
  Calls Tryz.prog 138 #[.pointer (some ⟨st.ab, 0, none⟩), .slice p (m + 2 : Nat) d, .bool true, .bool true] w fun e w' => (∃ u, e = .returned u) ∧ SpP c N k st (x0 :: bs) r w w' := by
 have HE := mkC hE
 have HX := mkC hx
 have HP := mkC hp
 have HN := mkC hN
 have HB := mkC hb
 have HR := mkC hr
 have HL : Hid (bs.length = m + 1) := by have := hx.len; simp at this; exact this
 have hm3 : m + 2 ≤ 3000 := by
  have h1 := len_sum (Pcs.ok hp)
  have h2 := hx.len
  rw [show (Cp.at_ c (x0 :: bs)).length = (x0 :: bs).length by simp [Cp.at_]] at h1
  omega
 have t0 : decide ((m : Int) + 2 < 2) = false := decide_eq_false (by omega)
 have hmc : m + 2 ≤ d := hx.cap
 have hm0 : (0 : Int) < (m : Int) + 2 := by omega
 obtain ⟨g, o, rfl, hg, y0⟩ := hx.at_ (i := 0) (by simp)
 simp only [List.getElem_cons_zero, Nat.add_zero] at y0
 have hx0 : x0 < c.dn := (hp x0 (by simp)).1
 have HOK0 : Hid (Ok k (c.ds.drop x0)) := (hp x0 (by simp)).2
 have HLS := mkC hls
 obtain ⟨db, dof, hdp, hdc, _, _⟩ := h.dtAt hx0
 have HDP := mkC hdp
 have e0 := (cells10 h.blk).1
 rw [hdp] at e0
 have k0 := (hdc w h.bel).1
 have hk3 : (hd (c.ds.drop x0)).kind = 3 := by unfold isLs at hls; simpa using hls
 rw [hk3] at k0
 have hdn := h.dn
 have HB0 : Hid (Below w.heap.size w w.drew.drew) := below_drewC (below_drewC (Below.refl _ _))
 have HI := mkC h
 have HK := mkC (kidsA (k := k) w.drew.drew (h.stp HB0.out).inv hx0 HOK0.out hls)
 rw [hdp] at HK
 clear h hx hp hE hN hb hr hls hdp hdc hk3
 go_enter Tryz.func138, Tryz.ntmps138
 go_wp2_with fail
 go_region
 go_wp2_with fail
 go_cut [8] from 39 (fun v w1 => ∃ (p1 : Option Addr) (c1 : Nat) (ks : List Nat), v = .slice p1 ks.length c1 ∧ OwI w1 w.heap.size (.slice p1 ks.length c1) ks ∧ Below w.heap.size w w1 ∧ Cp.at_ c ks = kidsOf k (c.ds.drop x0) ∧ Pcs c (k - 1) ks)
 case first =>
  go_region_law (refine step_callC _ rfl 40 _ _ rfl #[.slice (some ⟨db, dof, none⟩) c.dn c.dc, .int .i64 (x0 : Nat)] ?ha (inKids _) (fun v w1 => ∃ (p1 : Option Addr) (c1 : Nat) (ks : List Nat), v = .slice p1 ks.length c1 ∧ OwI w1 w.heap.size (.slice p1 ks.length c1) ks ∧ Below w.heap.size w w1 ∧ Cp.at_ c ks = kidsOf k (c.ds.drop x0) ∧ Pcs c (k - 1) ks) (HK.out.mono (fun e w1 hh => (by obtain ⟨p1, c1, ks, h1, h2, h3, h4, h5, _⟩ := hh; exact ⟨_, h1, p1, c1, ks, rfl, h2, HB0.out.trans h3, h4, h5⟩))) ?_; (case ha => first | (simp [Act.eval]; done) | (simp [Act.eval, Act.put]; done)); rintro v w1 ⟨p1, c1, ks, rfl, hh1⟩; have HH1 := mkC hh1; clear hh1)
  all_goals go_wp2_with fail
  all_goals go_meet
  all_goals exact ⟨_, _, _, rfl, HH1.out⟩
 case rest =>
 obtain ⟨p1, c1, ks, rfl, ho1, hb1, hat1, hpc1⟩ := hcut
 obtain ⟨w1, hw1⟩ : ∃ w1, w1 = wc := ⟨_, rfl⟩
 subst hw1
 have HO1 := mkC ho1
 have HB1 := mkC hb1
 have HAT := mkC hat1
 have HPK := mkC (hpc1.mono (Nat.sub_le k 1))
 clear ho1 hb1 hat1 hpc1
 have HI1 := mkC (HI.out.stp HB1.out)
 have HIX := mkC (OwI.ix1 HI.out HO1.out)
 have HSZ : Hid (sumS k (Cp.at_ c ks) + 1 = sz k (c.ds.drop x0)) := by unfold Hid; rw [HAT.out]; exact kids_sumK HOK0.out HLS.out
 obtain ⟨np, hnp⟩ : ∃ np, np = ks.length := ⟨_, rfl⟩
 have HNP := mkC hnp
 have hnp3 : np ≤ 3000 := by
  have h1 := len_sum (Pcs.ok HPK.out)
  rw [show (Cp.at_ c ks).length = ks.length by simp [Cp.at_]] at h1
  have h2 := HSZ.out
  have h3 := HB.out
  simp only [Cp.at_, List.map_cons, sumS] at h1 h2 h3
  omega
 rw [← hnp]
 clear hnp HK y0 k0 e0 HO1 t0
 go_wp2_with fail
 go_loopw [9, 10, 11] (fun hv iv jv wr => ∃ (i : Nat) (hp_ ip : Option Addr) (hc ic : Nat), i ≤ np ∧ jv = .int .i64 (i : Nat) ∧ hv = .slice hp_ i hc ∧ iv = .slice ip i ic ∧ Hid (∃ hs is_, Prs w1 wr (.slice hp_ i hc) (.slice ip i ic) hs is_ ∧ LtS c k ((Cp.at_ c ks).take i) hs is_ ∧ hs.length = i ∧ is_.length = i)) (fun _ _ jv _ => np - (intOf jv).toNat)
 case atStart => exact ⟨0, none, none, 0, 0, Nat.zero_le _, rfl, rfl, rfl, [], [], ⟨Below.refl _ _, OwI.nil _ _, OwI.nil _ _, (fun _ hk => by cases hk)⟩, LtS.nil c k, rfl, rfl⟩
 case round =>
  obtain ⟨i, hp_, ip, hc, ic, hi, rfl, rfl, rfl, hR⟩ := hrel
  obtain ⟨hs, is_, hprs, hlt, hhl, hil⟩ := hR.out
  have HIr := mkC (HI1.out.inv.stp hprs.bel)
  by_cases hlti : i < np
  ·have hik : i < ks.length := by rw [← HNP.out]; exact hlti
   obtain ⟨g1, o1, rfl, hg1, y1⟩ := HIX.out.at_ hik
   have y1 := cell_keepC hprs.bel hg1 y1
   have HPI := mkC (HPK.out _ (List.getElem_mem hik))
   have hxd : ks[i]'hik < c.dn := HPI.out.1
   obtain ⟨db2, dof2, hdp2, hdc, hcl, hch⟩ := HIr.out.inv.dtAt hxd
   have hdd : db2 = db ∧ dof2 = dof := by
    have := HDP.out
    rw [hdp2] at this
    cases this
    exact ⟨rfl, rfl⟩
   obtain ⟨rfl, rfl⟩ := hdd
   have e0 := (cells10 HIr.out.inv.blk).1
   rw [hdp2] at e0
   have k0 := (hdc wr HIr.out.inv.bel).1
   have k3 := (hdc wr HIr.out.inv.bel).2
   have HTK : Hid ((Cp.at_ c ks).take (i + 1) = (Cp.at_ c ks).take i ++ [c.ds.drop (ks[i]'hik)]) := by
    unfold Hid
    rw [List.take_succ_eq_append_getElem (by simp [Cp.at_]; exact hik)]
    simp [Cp.at_]
   have HMEM : Hid (c.ds.drop (ks[i]'hik) ∈ kidsOf k (c.ds.drop x0)) := by
    unfold Hid
    rw [← HAT.out]
    exact List.mem_map.2 ⟨_, List.getElem_mem hik, rfl⟩
   have HPRS := mkC hprs
   have HLT := mkC hlt
   have HHL := mkC (And.intro hhl hil)
   by_cases hpr : isPr (c.ds.drop (ks[i]'hik)) = true
   ·have hk3 : (hd (c.ds.drop (ks[i]'hik))).kind = 3 := by unfold isPr isLs at hpr; simp at hpr; exact hpr.1
    have hc2 : (hd (c.ds.drop (ks[i]'hik))).count = 2 := by unfold isPr isLs at hpr; simp at hpr; exact hpr.2
    have HLSx : Hid (isLs (c.ds.drop (ks[i]'hik)) = true) := by unfold Hid isLs; simpa using hk3
    rw [hk3] at k0
    rw [hc2] at k3
    have HBd : Hid (Below wr.heap.size wr wr.drew.drew) := below_drewC (below_drewC (Below.refl _ _))
    have HK := mkC (kidsA (k := k) wr.drew.drew (HIr.out.inv.stp HBd.out).inv hxd HPI.out.2 HLSx.out)
    rw [hdp2] at HK
    have HPR := mkC hpr
    have HC2 := mkC hc2
    generalize ks[i]'hik = x at y1 k0 k3 hxd HPI HTK HMEM HLSx HK HPR HC2
    have HKK : Hid (∀ (e : Ending) (w2 : World), KiP c k x wr.drew.drew w2 e → ∃ v, e = .returned v ∧ ∃ (p2 : Option Addr) (c2 b0 b1 : Nat), v = .slice p2 2 c2 ∧ OwI w2 wr.heap.size (.slice p2 2 c2) [b0, b1] ∧ Below wr.heap.size wr w2 ∧ Cp.at_ c [b0, b1] = kidsOf k (c.ds.drop x) ∧ Pcs c (k - 1) [b0, b1]) := fun e w2 hh => by
     obtain ⟨p2, c2, k2, h1, h2, h3, h4, h5, h6⟩ := hh
     rw [HC2.out] at h6
     rcases k2 with _ | ⟨b0, _ | ⟨b1, _ | ⟨b2, t⟩⟩⟩
     ·simp at h6
     ·simp at h6
     ·exact ⟨_, h1, p2, c2, b0, b1, rfl, h2, HBd.out.trans h3, h4, h5⟩
     ·simp at h6; omega
    clear hprs hlt hhl hil hpr hk3 hc2 hdc hcl hch hdp2
    go_wp2_with fail
    go_region
    go_wp2_with fail
    go_cut [12] from 82 to 90 (fun v w2 => ∃ (p2 : Option Addr) (c2 b0 b1 : Nat), v = .slice p2 2 c2 ∧ OwI w2 wr.heap.size (.slice p2 2 c2) [b0, b1] ∧ Below wr.heap.size wr w2 ∧ Cp.at_ c [b0, b1] = kidsOf k (c.ds.drop x) ∧ Pcs c (k - 1) [b0, b1])
    case first =>
     go_region_law (refine step_callC _ rfl 40 _ _ rfl #[.slice (some ⟨db2, dof2, none⟩) c.dn c.dc, .int .i64 (x : Nat)] ?ha (inKids _) (fun v w2 => ∃ (p2 : Option Addr) (c2 b0 b1 : Nat), v = .slice p2 2 c2 ∧ OwI w2 wr.heap.size (.slice p2 2 c2) [b0, b1] ∧ Below wr.heap.size wr w2 ∧ Cp.at_ c [b0, b1] = kidsOf k (c.ds.drop x) ∧ Pcs c (k - 1) [b0, b1]) (HK.out.mono (fun e w2 hh => HKK.out e w2 hh)) ?_; (case ha => first | (simp [Act.eval]; done) | (simp [Act.eval, Act.put]; done)); rintro v w2 ⟨p2, c2, b0, b1, rfl, hh2⟩; have HH2 := mkC hh2; clear hh2)
     all_goals go_wp2_with fail
     all_goals go_meet
     all_goals exact ⟨_, _, _, _, rfl, HH2.out⟩
    case rest =>
    obtain ⟨p2, c2, b0, b1, rfl, ho2, hb2, hat2, hpc2⟩ := hcut
    obtain ⟨w2, hw2⟩ : ∃ w2, w2 = wc := ⟨_, rfl⟩
    subst hw2
    have HO2 := mkC ho2
    have HB2 := mkC hb2
    have HAT2 := mkC hat2
    have HPK2 := mkC (hpc2.mono (Nat.sub_le k 1))
    clear ho2 hb2 hat2 hpc2
    clear y1 k0 k3 e0 HK
    obtain ⟨_, _, hbc⟩ := owns_cells HO2.out
    obtain ⟨g2, rfl, hg2, hg2b, _, hcs2⟩ := hbc (by decide)
    have z0 : w2.cell? ⟨g2, 0, none⟩ = some (.int .i64 (b0 : Nat)) := by rw [hcs2 0 (by decide)]; rfl
    have z1 : w2.cell? ⟨g2, 1, none⟩ = some (.int .i64 (b1 : Nat)) := by rw [hcs2 1 (by decide)]; rfl
    have hcap2 : 2 ≤ c2 := (owns_cells HO2.out).1
    have HP2 := mkC (HPRS.out.keep HB2.out)
    have HH : Hid (w2.ownsRow w1.heap.size 3 1 (.slice hp_ i hc) i (inC hs)) := by unfold Hid; have h1 := HP2.out.ho; unfold OwI at h1; rw [HHL.out.1] at h1; exact h1
    have hBw2 : w1.heap.size ≤ w2.heap.size := HP2.out.bel.size
    have HLTX : Hid (LtS c k ((Cp.at_ c ks).take (i + 1)) (hs ++ [b0]) (is_ ++ [b1])) := by
     unfold Hid
     rw [HTK.out]
     exact HLT.out.snoc HPI.out.2 HPR.out HAT2.out HPK2.out
    have HA1 : Hid (∀ v' w3, w3.ownsRow w1.heap.size 3 1 v' (i + 1) (inC hs ++ [.int .i64 (b0 : Nat)]) → Below w1.heap.size w2 w3 → But w2 w3 (.slice hp_ i hc) → (∀ k, v'.ownBlock = some k → (Value.slice hp_ i hc).ownBlock = some k ∨ w2.heap.size ≤ k) → Prs w1 w3 v' (.slice ip i ic) (hs ++ [b0]) is_ ∧ w3.cell? ⟨g2, 1, none⟩ = some (.int .i64 (b1 : Nat))) := fun v' w3 h1 h2 h3 h4 => by
     refine ⟨HP2.out.addH (by rw [HHL.out.1]; exact h1) h2 h3 h4, ?_⟩
     have hne : some g2 ≠ (Value.slice hp_ i hc).ownBlock := fun e => by
      have h5 := (owns_lt HPRS.out.ho g2 e.symm).1
      omega
     rw [World.cell?_of_block (w := w2) (h3 g2 hg2 hne), hcs2 1 (by decide)]
     rfl
    clear hcs2 hbc
    go_wp2_with (at_builtin; first | (refine appW_at w2 rfl (.tmp 91) (.tmp 95) 77 3 rfl _ 1 8 Tryz.underlying77 info3C rfl (by decide) w1.heap.size (.slice hp_ i hc) i (inC hs) (by simp [Act.eval]) HH.out #[.int .i64 (b0 : Nat)] rfl (by simp [Value.oneCell']) (by simp [Act.eval]) (by unfold maxLen; omega) (by omega) hBw2 ?_; intro v' w3 ho hb3 hbt hloc hsz; obtain ⟨p3, c3, hv3⟩ := owns_form ho; subst hv3; have HA3 := mkC (HA1.out _ w3 ho hb3 hbt hloc).1; have z3 := (HA1.out _ w3 ho hb3 hbt hloc).2; have HI3 : Hid (w3.ownsRow w1.heap.size 3 1 (.slice ip i ic) i (inC is_)) := (by unfold Hid; have h1 := HA3.out.io; unfold OwI at h1; rw [HHL.out.2] at h1; exact h1); have hBw3 : w1.heap.size ≤ w3.heap.size := HA3.out.bel.size; clear ho hb3 hbt hloc z0 z1) | (refine appW_at w3 rfl (.tmp 97) (.tmp 101) 77 3 rfl _ 1 8 Tryz.underlying77 info3C rfl (by decide) w1.heap.size (.slice ip i ic) i (inC is_) (by simp [Act.eval]) HI3.out #[.int .i64 (b1 : Nat)] rfl (by simp [Value.oneCell']) (by simp [Act.eval]) (by unfold maxLen; omega) (by omega) hBw3 ?_; intro v4 w4 ho hb4 hbt hloc hsz4; obtain ⟨p4, c4, hv4⟩ := owns_form ho; subst hv4; have HA4 : Hid (Prs w1 w4 (.slice p3 (i + 1) c3) (.slice p4 (i + 1) c4) (hs ++ [b0]) (is_ ++ [b1])) := HA3.out.addI (by rw [HHL.out.2]; exact ho) hb4 hbt hloc; clear ho hb4 hbt hloc))
    exact ⟨⟨i + 1, p3, p4, c3, c4, by omega, by go_num, rfl, rfl, hs ++ [b0], is_ ++ [b1], HA4.out, HLTX.out, by rw [List.length_append, HHL.out.1]; rfl, by rw [List.length_append, HHL.out.2]; rfl⟩, by simp [intOf]; omega⟩
   ·have hpr' : isPr (c.ds.drop (ks[i]'hik)) = false := by simpa using hpr
    have HRN : Hid (r = none) := by unfold Hid; rw [HR.out]; exact letR_pair HMEM.out hpr'
    have HW := mkC (l5wrong_c true wr.drew (HIr.out.inv.stp (below_drewC (Below.refl _ _))).inv (by have := HN.out; omega))
    have HFN : Hid (∀ w', (∃ st', Stp c (N + 2) st wr.drew st' w' ∧ st'.bad = true ∧ st'.bo = st.bo) → SpP c N k st (x0 :: bs) r w w') := fun w' hh => by
     obtain ⟨st', h1, h2, h3⟩ := hh
     rw [HRN.out]
     exact wrong_sp ⟨st', ((HI1.out.trans HIr.out).trans (HIr.out.inv.stp (below_drewC (Below.refl _ _)))).trans h1, h2, h3⟩
    by_cases hk3 : (hd (c.ds.drop (ks[i]'hik))).kind = 3
    ·have hc2 : ((hd (c.ds.drop (ks[i]'hik))).count == 2) = false := by
      unfold isPr isLs at hpr'
      simp [hk3] at hpr'
      simpa using hpr'
     rw [hk3] at k0
     generalize (hd (c.ds.drop (ks[i]'hik))).count = cnt at k3 hc2
     generalize ks[i]'hik = x at y1 k0 k3 hxd HPI HTK HMEM
     clear hprs hlt hhl hil hpr hpr' hk3 hdc hcl hch hdp2
     go_wp2_with fail
     go_region
     all_goals go_wp2_with fail
     all_goals refine HW.out.mono ?_
     all_goals rintro e wx ⟨⟨u, rfl⟩, h1⟩
     all_goals have HF := mkC (HFN.out _ h1)
     all_goals clear h1 HW
     all_goals go_wp2_with fail
     all_goals refine bodyPost_ret (results_none rfl _ _ _) rfl ?_
     all_goals exact ⟨⟨_, rfl⟩, HF.out⟩
    ·have hc2 : ((hd (c.ds.drop (ks[i]'hik))).kind == 3) = false := by simpa using hk3
     have hc3 : ((hd (c.ds.drop (ks[i]'hik))).kind != 3) = true := by simpa using hk3
     generalize (hd (c.ds.drop (ks[i]'hik))).kind = kd at k0 hc2 hc3
     generalize ks[i]'hik = x at y1 k0 k3 hxd HPI HTK HMEM
     clear hprs hlt hhl hil hpr hpr' hk3 hdc hcl hch hdp2
     go_wp2_with fail
     go_region
     all_goals go_wp2_with fail
     all_goals refine HW.out.mono ?_
     all_goals rintro e wx ⟨⟨u, rfl⟩, h1⟩
     all_goals have HF := mkC (HFN.out _ h1)
     all_goals clear h1 HW
     all_goals go_wp2_with fail
     all_goals refine bodyPost_ret (results_none rfl _ _ _) rfl ?_
     all_goals exact ⟨⟨_, rfl⟩, HF.out⟩
  ·obtain rfl : i = np := by omega
   have HPRS := mkC hprs
   have HLT : Hid (LtS c k (kidsOf k (c.ds.drop x0)) hs is_) := by
    unfold Hid
    rw [← HAT.out]
    rw [List.take_of_length_le (by simp [Cp.at_]; rw [← HNP.out]; exact Nat.le_refl _)] at hlt
    exact hlt
   have HHL := mkC (And.intro hhl hil)
   have HIXH : Hid (Ix st wr hp_ i hc hs) := by
    unfold Hid
    have h1 := hprs.ho
    rw [← hhl] at h1
    have h2 := OwI.ix1 HI1.out.inv h1
    rw [hhl] at h2
    exact h2
   have HIXI : Hid (Ix st wr ip i ic is_) := by
    unfold Hid
    have h1 := hprs.io
    rw [← hil] at h1
    have h2 := OwI.ix1 HI1.out.inv h1
    rw [hil] at h2
    exact h2
   have HNA := mkC (l5names_c hp_ i hc hs wr HIr.out.inv HIXH.out HLT.out.ph hnp3)
   clear hprs hlt hhl hil
   go_wp2_with fail
   refine HNA.out.mono ?_
   rintro e w2 ⟨hb2, ⟨hno, rfl⟩ | ⟨q, qc, ms, rfl, hns, hqo⟩⟩
   ·have HRN : Hid (r = none) := by unfold Hid; rw [HR.out]; exact letR_names HLT.out hno
    have HS2 := mkC ((HI1.out.trans HIr.out).trans (HIr.out.inv.stp hb2))
    have HW := mkC (l5wrong_c true w2 HS2.out.inv (by have := HN.out; omega))
    clear hb2 hno HNA
    go_wp2_with fail
    refine HW.out.mono ?_
    rintro e wx ⟨⟨u, rfl⟩, st', h1, h2, h3⟩
    have HF : Hid (SpP c N k st (x0 :: bs) r w wx) := by
     unfold Hid
     rw [HRN.out]
     exact wrong_sp ⟨st', HS2.out.trans h1, h2, h3⟩
    clear h1 h2 h3 HW
    go_wp2_with fail
    refine bodyPost_ret (results_none rfl _ _ _) rfl ?_
    exact ⟨⟨_, rfl⟩, HF.out⟩
   ·have HS2 := mkC ((HI1.out.trans HIr.out).trans (HIr.out.inv.stp hb2))
    have hhl2 : hs.length = i := HHL.out.1
    rw [hhl2] at hqo ⊢
    have HQO := mkC hqo
    have HML : Hid (ms.length = i) := by unfold Hid; rw [hns.len]; exact hhl2
    have HRS : Hid (r = cat (allO (rd (st.gl.map (·.x)) k (st.sc ++ ms.map (·.x))) (Cp.at_ c is_)) (allO (rd (st.gl.map (·.x)) k (st.sc ++ ms.map (·.x))) (Cp.at_ c bs))) := by
     unfold Hid
     rw [HR.out, letR_some HLS.out (by intro e; have := HL.out; rw [e] at this; simp at this) HLT.out hns.some_]
     rfl
    have HNS := mkC hns
    have HIXI2 := mkC (HIXI.out.step (HIr.out.inv.stp hb2).fr)
    have HQX : Hid (Ex st (.slice q i qc)) := fun kk hk hp2 => by
     have h1 := owns_ge HQO.out kk hk
     have h2 := (HIr.out.inv.fp_lt hp2).1
     omega
    have HT := mkC (topA (ab := st.ab) w2 HS2.out.inv rfl (by have := HN.out; omega))
    clear hb2 HNA hqo hns hhl2
    go_wp2_with fail
    refine HT.out.mono ?_
    rintro e w3 ⟨rfl, hb3⟩
    have HS3 := mkC (HS2.out.trans (HS2.out.inv.stp hb3))
    have HQ3 := mkC (owns_below HQO.out hb3)
    have HIXI3 := mkC (HIXI2.out.step (HS2.out.inv.stp hb3).fr)
    obtain ⟨tb, htb⟩ : ∃ tb, tb = st.tp.b := ⟨_, rfl⟩
    have HTB := mkC htb
    obtain ⟨p5, c5, hvv⟩ := owns_form HS3.out.inv.tpI.vars
    have e5 := (cells5 HS3.out.inv.tpI.blk).1
    rw [hvv, ← htb] at e5
    rw [← htb]
    obtain ⟨vn, hvn⟩ : ∃ vn, vn = st.tp.vs.length := ⟨_, rfl⟩
    have HVN := mkC hvn
    rw [← hvn] at e5
    have hvl : vn ≤ 1000000000 := by have h1 := HI.out.tpW.vn; have h2 := HN.out; omega
    have e4 := (cells10 HS3.out.inv.blk).2.2.2.1
    obtain ⟨bo, hbo⟩ : ∃ bo, bo = st.bo := ⟨_, rfl⟩
    have HBO := mkC hbo
    rw [← hbo] at e4
    have hbo3 : bo ≤ 3000 := by have := HB.out; omega
    have HSUM : Hid (sumB k (Cp.at_ c is_) + 40000 * i ≤ bud k (c.ds.drop x0) ∧ sumS k (Cp.at_ c is_) + i ≤ sz k (c.ds.drop x0)) := by
     unfold Hid
     have a1 := kids_sumK HOK0.out HLS.out
     have a2 := HLT.out.sm
     have a3 := sumB_le HLT.out.pi.ok
     have a4 := len_sum HLT.out.ph.ok
     have a5 := HLT.out.lenh
     rw [show (Cp.at_ c hs).length = hs.length by simp [Cp.at_]] at a4
     have a6 := HHL.out.1
     have a7 : bud k (c.ds.drop x0) = 20000 * sz k (c.ds.drop x0) - 10000 := rfl
     rw [a7]
     rw [show (Cp.at_ c is_).length = is_.length by simp [Cp.at_], HHL.out.2] at a3
     omega
    have HNB : Hid (N + bud k (c.ds.drop x0) + 10 + sumB k (Cp.at_ c bs) + 9000 ≤ 1000000000 ∧ st.bo + sz k (c.ds.drop x0) + sumS k (Cp.at_ c bs) ≤ 3000) := by
     unfold Hid
     have h1 := HN.out
     have h2 := HB.out
     simp only [Cp.at_, List.map_cons, sumB, sumS] at h1 h2 ⊢
     omega
    clear hb3 HT htb hvv hvn hbo HIXI2
    go_wp2_with fail
    clear e4 e5
    go_loopw [18] (fun jv wr => ∃ j : Nat, j ≤ i ∧ jv = .int .i64 (j : Nat) ∧ Hid (∃ s us, Inv c (N + 2 * j) wr s ∧ Fr st s w3 wr ∧ SmV st s us ∧ us.map (·.m) = ms.take j ∧ s.bo = st.bo + j ∧ s.bad = st.bad ∧ s.ub = st.ub)) (fun jv _ => i - (intOf jv).toNat)
    case atStart => exact ⟨0, Nat.zero_le _, rfl, st, [], HS3.out.inv, Fr.refl _ _, (Sm.refl st).v, by simp, rfl, rfl, rfl⟩
    case round =>
     obtain ⟨j, hj, rfl, hV⟩ := hrel
     by_cases hjn : j < i
     ·obtain ⟨s, us, hsi, hsf, hsv, hum, hsb, hsd, hsu⟩ := hV.out
      have HSV := mkC (And.intro hsf (And.intro hsv (And.intro hum (And.intro hsb (And.intro hsd hsu)))))
      have HPU := mkC (pushA (s := s) 5 1 0 0 wr hsi hsv.ab (by have h1 := HNB.out; have h2 := HSUM.out; omega))
      clear hsi hsf hsv hum hsb hsd hsu
      go_wp2_with fail
      refine HPU.out.mono ?_
      rintro e w4 ⟨⟨u, rfl⟩, s4, hs4, hq4, _⟩
      have HS4 := mkC hs4
      have HQ4 := mkC hq4
      have HQR := mkC (Ex.keep HQ3.out HQX.out (HSV.out.1.trans hs4.fr))
      have hjm : j < ms.length := by rw [HML.out]; exact hjn
      obtain ⟨qg, rfl, _, yq⟩ := owN_cell HQR.out.1 HML.out hjm
      have hqc : i ≤ qc := (owns_cells HQR.out.1).1
      have HMJ := mkC (HNS.out.nmi _ (List.getElem_mem hjm))
      have HMT : Hid (ms.take (j + 1) = ms.take j ++ [ms[j]'hjm]) := List.take_succ_eq_append_getElem hjm
      have htb : s4.tp.b = tb := by rw [HTB.out, hs4.sm.tp.1, HSV.out.2.1.tb]
      have ysl := (cells5 hs4.inv.tpI.blk).2.2.2.2.1
      rw [htb] at ysl
      have hab4 : s4.ab = st.ab := by rw [hs4.sm.ab, HSV.out.2.1.ab]
      have HBI := mkC (fun slot => l5bind_c (st := s4) (ms[j]'hjm) slot true w4.drew (hs4.inv.stp (below_drewC (Below.refl _ _))).inv HMJ.out (by have h1 := HNB.out; have h2 := HSUM.out; omega) (by have h1 := HNB.out; have h2 := HSUM.out; have h3 := HSV.out.2.2.2.1; rw [hq4.2.2]; omega))
      rw [hab4] at HBI
      unfold nmV at yq
      generalize ms[j]'hjm = mj at yq HMJ HMT HBI
      obtain ⟨mp, mn, mc, mx⟩ := mj
      simp only at yq HBI
      generalize s4.tp.sl = sl4 at ysl
      have HFN : Hid (∀ slot s5 w5, Inv c (N + 2 * j + 1 + 1) w5 s5 → Fr s4 s5 w4.drew w5 → Bd s4 s5 ⟨mp, mn, mc, mx⟩ slot → ∃ s us, Inv c (N + 2 * (j + 1)) w5 s ∧ Fr st s w3 w5 ∧ SmV st s us ∧ us.map (·.m) = ms.take (j + 1) ∧ s.bo = st.bo + (j + 1) ∧ s.bad = st.bad ∧ s.ub = st.ub) := fun slot s5 w5 h1 h2 h3 => by
       refine ⟨s5, us ++ [⟨⟨mp, mn, mc, mx⟩, slot, s4.bo⟩], h1.mono (by omega), ((HSV.out.1.trans HS4.out.fr).trans (HS4.out.inv.stp (below_drewC (Below.refl _ _))).fr).trans h2, (HSV.out.2.1.then_ HS4.out.sm).trans h3.v, ?_, ?_, ?_, ?_⟩
       ·rw [List.map_append, HSV.out.2.2.1, HMT.out]; rfl
       ·rw [h3.bo, HQ4.out.2.2, HSV.out.2.2.2.1]; omega
       ·rw [h3.bad, HQ4.out.1, HSV.out.2.2.2.2.1]
       ·rw [h3.ub, HQ4.out.2.1, HSV.out.2.2.2.2.2]
      clear hs4 hq4 HPU htb hab4
      go_wp2_with fail
      go_region_law (refine step_callC _ rfl 172 _ _ rfl #[.pointer (some ⟨st.ab, 0, none⟩), .slice mp mn mc, .int .i64 (IntKind.i64.wrap (sl4 - 1)), .bool true] ?ha (inBind _) (fun v w5 => ∃ s5, Inv c (N + 2 * j + 1 + 1) w5 s5 ∧ Fr s4 s5 w4.drew w5 ∧ Bd s4 s5 ⟨mp, mn, mc, mx⟩ (IntKind.i64.wrap (sl4 - 1))) ((HBI.out _).mono (fun e w5 hh => (by obtain ⟨h1, s5, h2⟩ := hh; exact ⟨_, h1, s5, h2⟩))) ?_; (case ha => first | (simp [Act.eval]; done) | (simp [Act.eval, Act.put]; done)); rintro v w5 ⟨s5, h51, h52, h53⟩; have HFI := mkC (HFN.out _ s5 w5 h51 h52 h53); clear h51 h52 h53)
      all_goals go_wp2_with fail
      all_goals exact ⟨⟨j + 1, by omega, by go_num, HFI.out⟩, by simp [intOf]; omega⟩
     ·have hji : i = j := by omega
      subst hji
      obtain ⟨s0, us, hsi, hsf, hsv, hum, hsb, hsd, hsu⟩ := hV.out
      rw [List.take_of_length_le (by rw [HML.out]; exact Nat.le_refl _)] at hum
      have HS0 := mkC (And.intro hsi (And.intro hsf (And.intro hsv (And.intro hum (And.intro hsb (And.intro hsd hsu))))))
      have HIX0 := mkC (HIXI3.out.step hsf)
      have HUL : Hid (us.length = i) := by unfold Hid; rw [← HML.out, ← hum, List.length_map]
      clear hsi hsf hsv hum hsb hsd hsu
      obtain ⟨W4, hW4⟩ : ∃ W4, W4 = wr := ⟨_, rfl⟩
      subst hW4
      go_wp2_with fail
      go_loopw [19] (fun jv wr => ∃ j : Nat, j ≤ i ∧ jv = .int .i64 (j : Nat) ∧ Hid (∃ s, SqP c (N + 2 * i + 9) k s0 W4 (is_.take j) s wr)) (fun jv _ => i - (intOf jv).toNat)
      case atStart => exact ⟨0, Nat.zero_le _, rfl, s0, SqP.nil ⟨HS0.out.1.mono (by omega), Fr.refl _ _, Sm.refl _⟩ ⟨rfl, rfl, rfl⟩⟩
      case round =>
       obtain ⟨j, hj, rfl, hV⟩ := hrel
       obtain ⟨s, hs⟩ := hV.out
       by_cases hjn : j < i
       ·have hjl : j < is_.length := by rw [HHL.out.2]; exact hjn
        have htb : s.tp.b = tb := by rw [HTB.out, hs.stp.sm.tp.1, HS0.out.2.2.1.tb]
        have hab : s.ab = st.ab := by rw [hs.stp.sm.ab, HS0.out.2.2.1.ab]
        have hsl : s.tp.vs.length = vn + i := by rw [hs.stp.sm.tp.2.1, HS0.out.2.2.1.tv, List.length_append, HVN.out, HUL.out]
        obtain ⟨vp, vc, hvv, hvc, _, hva⟩ := hs.stp.inv.tpI.vrAt
        obtain ⟨vg, rfl, _, hvcs⟩ := hva (by omega)
        have e5 := (cells5 hs.stp.inv.tpI.blk).1
        rw [hvv, htb, hsl] at e5
        have ev := (hvcs (vn + j) (by omega)).2.1
        generalize (s.tp.vs[vn + j]'(by omega)).slot = slt at ev
        have HPU := mkC (pushA (s := s) 1 slt 0 0 wr hs.stp.inv hab (by have h1 := HNB.out; have h2 := HSUM.out; have h3 := sums_at (c := c) (k := k) hjl; omega))
        have HS := mkC hs
        have hvi : vn + i ≤ 1000010000 := by omega
        clear hs htb hab hsl hvv hva hvcs
        go_wp2_with fail
        refine HPU.out.mono ?_
        rintro e w5 ⟨⟨u, rfl⟩, hm5⟩
        obtain ⟨s5, hs5, hab5, _, _⟩ := HS.out.emp hm5
        have hbb5 : s0.ab = st.ab := HS0.out.2.2.1.ab
        have HC := mkC (hs5.next HE.out HLT.out.pi hjl (by have h1 := HNB.out; have h2 := HSUM.out; omega) (by have h1 := HNB.out; have h2 := HSUM.out; have h3 := HS0.out.2.2.2.2.1; omega) false)
        rw [hbb5] at HC
        obtain ⟨ig, io, rfl, hig, yi⟩ := (HIX0.out.step hs5.stp.fr).at_ hjl
        have HS5 := mkC hs5
        have HTK := mkC (take_snoc hjl)
        have HSM : Hid (N + 2 * i + sumB k (Cp.at_ c (is_.take (j + 1))) + 9000 ≤ 1000000000) := by
         unfold Hid
         have h1 := sums_at (c := c) (k := k) hjl
         have h2 := HNB.out
         have h3 := HSUM.out
         rw [take_snoc hjl, at_snoc, sumB_app]
         simp only [sumB]
         omega
        generalize is_[j]'hjl = x at yi HC HTK
        clear hm5 hs5 hab5 HPU e5 ev
        go_wp2_with fail
        refine HC.out.mono ?_
        rintro e w6 ⟨⟨u, rfl⟩, hx6⟩
        obtain ⟨s6, hs6, _, hab6, _⟩ := (HS5.out : SqP c (N + 2 * i + 10) k s0 W4 (is_.take j) s5 w5).more10 hx6
        rw [← HTK.out] at hs6
        rw [hbb5] at hab6
        have HS6 := mkC hs6
        have HDR := mkC (dropA (s := s6) 7 0 2 w6 hs6.stp.inv hab6 (by have := HSM.out; omega))
        clear hx6 hs6 hab6 HC yi hbb5
        go_wp2_with fail
        refine HDR.out.mono ?_
        rintro e w7 ⟨rfl, hm7⟩
        obtain ⟨s7, hs7, _⟩ := HS6.out.emp hm7
        have HF7 := mkC (hs7.up (M := N + 2 * i + 9) (by omega))
        clear hm7 hs7 HDR
        go_wp2_with fail
        exact ⟨⟨j + 1, by omega, by go_num, s7, HF7.out⟩, by simp [intOf]; omega⟩
       ·have hji : i = j := by omega
        subst hji
        rw [List.take_of_length_le (by rw [HHL.out.2]; exact Nat.le_refl _)] at hs
        obtain ⟨w4, hw4⟩ : ∃ w4, w4 = wr := ⟨_, rfl⟩
        subst hw4
        obtain ⟨s1, hs1⟩ : ∃ s1, s1 = s := ⟨_, rfl⟩
        subst hs1
        have HM : Hid (LtM c N k st w3 ms is_ (st.sc ++ ms.map (·.x)) s1 w4) := by
         refine ⟨hs.stp.inv.mono (by have := HML.out; omega), HS0.out.2.1.trans hs.stp.fr, ⟨us, HS0.out.2.2.1.then_ hs.stp.sm, HS0.out.2.2.2.1⟩, ?_, ?_⟩
         ·have h1 := hs.rs
          rw [HS0.out.2.2.1.gl, HS0.out.2.2.1.sc, map_mx HS0.out.2.2.2.1] at h1
          exact h1.base HS0.out.2.2.2.2.2.1 HS0.out.2.2.2.2.2.2
         ·have h1 := hs.bo
          have h2 := HS0.out.2.2.2.2.1
          have h3 := HML.out
          omega
        clear hs
        have hab1 : s1.ab = st.ab := by obtain ⟨us, h1, _⟩ := HM.out.sm; exact h1.ab
        have HBD := mkC (l5body_c (st := s1) HE.out (some ⟨g, o + 1, none⟩) (m + 1) (d - 1) bs true w4 HM.out.inv ?_ (fun x hx => HP.out x (List.mem_cons_of_mem _ hx)) (by have h1 := HNB.out; have h2 := HSUM.out; have h3 := HML.out; omega) (by have h1 := HNB.out; have h2 := HSUM.out; have h3 := HM.out.bo; have h4 := HML.out; omega))
        rotate_left
        ·obtain ⟨d', rfl⟩ : ∃ d', d = d' + 1 := ⟨d - 1, by omega⟩
         have h1 := (HX.out.step (HS3.out.fr.trans HM.out.fr)).tail (p' := some ⟨g, o + 1, none⟩) (fun _ => rfl)
         simpa using h1
        rw [hab1] at HBD
        clear hab1
        go_wp2_with fail
        refine HBD.out.mono ?_
        rintro e w5 ⟨⟨u, rfl⟩, s2, hs2⟩
        have HS5 := mkC hs2
        obtain ⟨us, hu1, hu2⟩ := HM.out.sm
        have htb5 : s2.tp.b = tb := by rw [HTB.out, hs2.stp.sm.tp.1, hu1.tb]
        obtain ⟨p6, c6, hv6⟩ := owns_form hs2.stp.inv.tpI.vars
        have e6 := (cells5 hs2.stp.inv.tpI.blk).1
        have f6 := (cells5 hs2.stp.inv.tpI.blk).2.2.2.2.2
        have g6 := (cells5 hs2.stp.inv.tpI.blk).2.2.2.2.1
        rw [hv6, htb5] at e6
        rw [htb5] at f6 g6
        obtain ⟨sl6, hsl6⟩ : ∃ sl6, sl6 = s2.tp.sl := ⟨_, rfl⟩
        rw [← hsl6] at g6
        have hc6 : s2.tp.vs.length ≤ c6 := by have h1 := hs2.stp.inv.tpI.vars; rw [hv6] at h1; exact (owns_cells h1).1
        have hle : vn ≤ s2.tp.vs.length := by rw [hs2.stp.sm.tp.2.1, hu1.tv, List.length_append, HVN.out]; omega
        have HFIN := mkC (HM.out.fin (x0 := x0) (hs := hs) (w := w) HS3.out.fr HLS.out HOK0.out HLT.out (by rw [HML.out, HHL.out.1]) hs2 hv6)
        rw [← HVN.out, ← HTB.out, ← HRS.out] at HFIN
        have hab5 : s2.ab = st.ab := by rw [hs2.stp.sm.ab, hu1.ab]
        obtain ⟨vn6, hvn6⟩ : ∃ vn6, vn6 = s2.tp.vs.length := ⟨_, rfl⟩
        have hvn6b : vn6 ≤ 1000000000 := by have h1 := hs2.stp.inv.tpW.vn; have h2 := HNB.out; have h3 := HSUM.out; have h4 := HML.out; omega
        rw [← hvn6] at e6 hc6 hle
        clear hs2 hu1 hu2 htb5 hv6 hab5 hsl6 hvn6 HBD
        go_wp2_with fail
        go_end0
        obtain ⟨s3, h1, h2, h3, _⟩ := HFIN.out
        exact ⟨⟨_, rfl⟩, s3, h1.mono (by omega), h2, h3⟩
theorem l5let_c {c : Cx} {N k : Nat} {st : St} (hE : ExC c k) (p : Option Addr) (n d : Nat) (xs : List Nat) (lr tail : Bool) (w : World) (r : Option (List (List Int))) (hr : r = letR k (rd (st.gl.map (·.x)) k) st.sc lr (Cp.at_ c xs)) (h : Inv c N w st) (hx : Ix st w p n d xs) (hp : Pcs c k xs) (hN : N + sumB k (Cp.at_ c xs) + 9000 ≤ 1000000000) (hb : st.bo + sumS k (Cp.at_ c xs) ≤ 3000) :
  Calls Tryz.prog 138 #[.pointer (some ⟨st.ab, 0, none⟩), .slice p n d, .bool lr, .bool tail] w fun e w' => (∃ u, e = .returned u) ∧ SpP c N k st xs r w w' := by
 by_cases hn : n < 2
 ·rw [hr, letR_short (by rw [hx.len]; exact hn)]
  exact l5letw_c p n d xs lr tail w h hn (by omega)
 ·obtain ⟨m, rfl⟩ : ∃ m, n = m + 2 := ⟨n - 2, by omega⟩
  cases xs with
  | nil => have := hx.len; simp at this
  | cons x0 bs =>
   by_cases hls : isLs (c.ds.drop x0) = true
   ·cases lr <;> cases tail
    ·exact l5letf_c hE p m d x0 bs w r hr h hx hp hls hN hb
    ·exact l5lett_c hE p m d x0 bs w r hr h hx hp hls hN hb
    ·exact l5letrf_c hE p m d x0 bs w r hr h hx hp hls hN hb
    ·exact l5letrt_c hE p m d x0 bs w r hr h hx hp hls hN hb
   ·rw [hr, letR_bad (by simpa using hls)]
    exact l5letn_c p (m + 2) d x0 bs lr tail w h hx hp (by omega) (by simpa using hls) (by omega)
theorem infoFu : (Tryz.prog.info? 88).map (fun i => (i.zero, i.size, i.bytes)) = some (some (.agg #[.int .i64 0, .slice none 0 0, .slice none 0 0]), 3, 56) := by kernel_rfl
theorem infoFp : (Tryz.prog.info? 82).map (fun i => (i.zero, i.size, i.bytes)) = some (some (.pointer none), 1, 8) := by kernel_rfl
theorem Inv.addFn {c : Cx} {N : Nat} {w w1 : World} {st : St} (h : Inv c N w st) {v' a b d : Value} (ho : w1.ownsRow c.w0.heap.size 88 3 v' (st.nf + 1) (st.fx ++ [a, b, d])) (hb : Below c.w0.heap.size w w1) (hbt : But w w1 st.fnv) (hl : ∀ j, v'.ownBlock = some j → st.fnv.ownBlock = some j ∨ w.heap.size ≤ j) :
  Stp c (N + 1) st w { st with fnv := v', fx := st.fx ++ [a, b, d], nf := st.nf + 1 } (w1.setCell ⟨st.ab, 7, none⟩ v') := by
 have hab := (Array.getElem?_eq_some_iff.1 h.blk).1
 have hab1 : w1.heap[st.ab]? = some _ := (hbt _ hab (owns_ne h.fn h.blk (by decide))).trans h.blk
 have hch : ∀ j, j < w.heap.size → j ≠ st.ab → st.fnv.ownBlock ≠ some j → (w1.setCell ⟨st.ab, 7, none⟩ v').heap[j]? = w.heap[j]? := fun j hj h1 h2 => (set_keep v' h1).trans (hbt j hj (fun e => h2 e.symm))
 obtain ⟨row, hfn, hcs⟩ := h.keepA h.fn (by decide) (by decide) (by decide) (by decide) (by decide) (by decide) hch
 have hbel : Below c.w0.heap.size w (w1.setCell ⟨st.ab, 7, none⟩ v') := Below.setCell hb (p := ⟨st.ab, 7, none⟩) h.ab0 v'
 refine ⟨⟨h.bel.trans hbel, h.dat, h.dn, h.ab0, (set_ab hab1 v').2.2.2.2.1, row h.gl (apt_ty h.gl h.fn (by decide)) (by decide), h.gln, row h.ub (apt_ty h.ub h.fn (by decide)) (by decide), h.ubn, h.gu, row h.bx (apt_ty h.bx h.fn (by decide)) (by decide), row h.op (apt_ty h.op h.fn (by decide)) (by decide), hfn, h.apt, row h.cs (apt_ty h.cs h.fn (by decide)) (by decide), hcs, owns_set ho hab1 (by decide) v', ?_, h.b1, h.b2, (h.mono (Nat.le_succ N)).fnw, ?_⟩, ⟨?_, ?_, ?_⟩, ⟨rfl, rfl, rfl, rfl, (Sm.refl st).fn, Nat.le_refl _, Nat.le_refl _, Nat.le_succ _⟩⟩
 ·show (st.fx ++ [a, b, d]).length = (st.nf + 1) * 3
  have := h.fxl
  simp only [List.length_append, List.length_cons, List.length_nil]
  omega
 ·have h1 := (h.mono (Nat.le_succ N)).len
  exact ⟨h1.1, h1.2.1, by show st.nf + 1 ≤ N + 1; have := h.len.2.2.1; omega, h1.2.2.2.1, h1.2.2.2.2⟩
 ·rw [set_size]; exact hb.size
 ·intro j hj hn
  exact hch j hj (fun e => hn (Or.inl e)) (fun e => hn (Or.inr (Or.inr (Or.inr (Or.inr (Or.inr (Or.inl e)))))))
 ·exact fp_of rfl rfl (fun k hk => Or.inl hk) (fun k hk => Or.inl hk) (fun k hk => Or.inl hk) hl (fun k hk => Or.inl hk)
theorem Inv.setFu {c : Cx} {N g cc : Nat} {w : World} {st : St} (h : Inv c N w st) (hv : st.fnv = .slice (some ⟨g, 0, none⟩) st.nf cc) (i : Nat) (a b d : Value) :
  ∃ fx', Stp c N st w { st with fx := fx' } (((w.setCell ⟨g, i * 3, none⟩ a).setCell ⟨g, i * 3 + 1, none⟩ b).setCell ⟨g, i * 3 + 2, none⟩ d) := by
 have hgb : st.fnv.ownBlock = some g := by rw [hv]; rfl
 have hg0 := owns_ge h.fn g hgb
 have hbel : Below c.w0.heap.size w (((w.setCell ⟨g, i * 3, none⟩ a).setCell ⟨g, i * 3 + 1, none⟩ b).setCell ⟨g, i * 3 + 2, none⟩ d) := Below.setCell (Below.setCell (Below.setCell (Below.refl _ _) (p := ⟨g, i * 3, none⟩) hg0 _) (p := ⟨g, i * 3 + 1, none⟩) hg0 _) (p := ⟨g, i * 3 + 2, none⟩) hg0 _
 have hkp : ∀ k, k ≠ g → (((w.setCell ⟨g, i * 3, none⟩ a).setCell ⟨g, i * 3 + 1, none⟩ b).setCell ⟨g, i * 3 + 2, none⟩ d).heap[k]? = w.heap[k]? := fun k hk => ((set_keep d hk).trans (set_keep b hk)).trans (set_keep a hk)
 have hch : ∀ k, k < w.heap.size → k ≠ st.ab → st.fnv.ownBlock ≠ some k → (((w.setCell ⟨g, i * 3, none⟩ a).setCell ⟨g, i * 3 + 1, none⟩ b).setCell ⟨g, i * 3 + 2, none⟩ d).heap[k]? = w.heap[k]? := fun k hk h1 h2 => hkp k (fun e => h2 (by rw [hgb, e]))
 obtain ⟨row, hfn, hcs⟩ := h.keepA h.fn (by decide) (by decide) (by decide) (by decide) (by decide) (by decide) hch
 have hab : st.ab ≠ g := fun e => owns_ne h.fn h.blk (by decide) (by rw [hgb, e])
 have hfx := h.fn
 rw [hv] at hfx
 have hf3 := owns_put (k := i * 3 + 2) (owns_put (k := i * 3 + 1) (owns_put (k := i * 3) hfx a) b) d
 rw [← hv] at hf3
 refine ⟨((st.fx.set (i * 3) a).set (i * 3 + 1) b).set (i * 3 + 2) d, ⟨h.bel.trans hbel, h.dat, h.dn, h.ab0, (hkp _ hab).trans h.blk, row h.gl (apt_ty h.gl h.fn (by decide)) (by decide), h.gln, row h.ub (apt_ty h.ub h.fn (by decide)) (by decide), h.ubn, h.gu, row h.bx (apt_ty h.bx h.fn (by decide)) (by decide), row h.op (apt_ty h.op h.fn (by decide)) (by decide), hfn, h.apt, row h.cs (apt_ty h.cs h.fn (by decide)) (by decide), hcs, hf3, ?_, h.b1, h.b2, h.fnw, h.len⟩, ⟨?_, ?_, ?_⟩, ⟨rfl, rfl, rfl, rfl, (Sm.refl st).fn, Nat.le_refl _, Nat.le_refl _, Nat.le_refl _⟩⟩
 ·show (List.set _ _ _).length = st.nf * 3
  simp only [List.length_set]
  exact h.fxl
 ·simp only [set_size]; exact Nat.le_refl _
 ·intro k hk hn
  exact hkp k (fun e => hn (Or.inr (Or.inr (Or.inr (Or.inr (Or.inr (Or.inl (by rw [hgb, e]))))))))
 ·exact fp_of rfl rfl (fun k hk => Or.inl hk) (fun k hk => Or.inl hk) (fun k hk => Or.inl hk) (fun k hk => Or.inl hk) (fun k hk => Or.inl hk)
def St.push (st : St) (v' : Value) (f : Fn5) : St := { st with opv := v', lo := st.lo ++ [st.tp], tp := f }
theorem push_all (st : St) (v' : Value) (f : Fn5) : (st.push v' f).all = st.all ++ [f] := rfl
def fn0 (b : Nat) (n : Int) : Fn5 := ⟨b, .slice none 0 0, [], .slice none 0 0, [], n, .slice none 0 0, [], 0, n⟩
theorem Inv.open_ {c : Cx} {N : Nat} {w w2 : World} {st : St} {n : Int} (h : Inv c N w st) {v' : Value}
  (ho : w2.ownsRow c.w0.heap.size 82 1 v' (st.all.length + 1) (fnC st.all ++ [.pointer (some ⟨w.heap.size, 0, none⟩)])) (hb : Below c.w0.heap.size (w.alloc (.cells #[.slice none 0 0, .slice none 0 0, .int .i64 n, .slice none 0 0, .int .i64 n] 86)) w2) (hbt : But (w.alloc (.cells #[.slice none 0 0, .slice none 0 0, .int .i64 n, .slice none 0 0, .int .i64 n] 86)) w2 st.opv) (hl : ∀ j, v'.ownBlock = some j → st.opv.ownBlock = some j ∨ w.heap.size ≤ j) :
  Inv c (N + 1) (w2.setCell ⟨st.ab, 5, none⟩ v') (st.push v' (fn0 w.heap.size n)) ∧ Fr st (st.push v' (fn0 w.heap.size n)) w (w2.setCell ⟨st.ab, 5, none⟩ v') := by
 obtain ⟨w1, hw1⟩ : ∃ w1, w1 = w.alloc (.cells #[.slice none 0 0, .slice none 0 0, .int .i64 n, .slice none 0 0, .int .i64 n] 86) := ⟨_, rfl⟩
 have hblk1 : w1.heap[w.heap.size]? = some (.cells #[.slice none 0 0, .slice none 0 0, .int .i64 n, .slice none 0 0, .int .i64 n] 86) := by rw [hw1]; exact Go.Deep.blk_alloc_new _ _
 have hsz1 : w1.heap.size = w.heap.size + 1 := by rw [hw1]; simp
 have hbl1 : Below w.heap.size w w1 := by rw [hw1]; exact below1 w _
 rw [← hw1] at hb hbt
 have h1 := (h.stp hbl1).inv
 have hab := (Array.getElem?_eq_some_iff.1 h1.blk).1
 have hab2 : w2.heap[st.ab]? = some _ := (hbt _ hab (owns_ne h1.op h1.blk (by decide))).trans h1.blk
 have hch : ∀ j, j < w1.heap.size → j ≠ st.ab → st.opv.ownBlock ≠ some j → (w2.setCell ⟨st.ab, 5, none⟩ v').heap[j]? = w1.heap[j]? := fun j hj h3 h2 => (set_keep v' h3).trans (hbt j hj (fun e => h2 e.symm))
 obtain ⟨row, hfn, hcs⟩ := h1.keepA h1.op (by decide) (by decide) (by decide) (by decide) (by decide) (by decide) hch
 have hbel : Below c.w0.heap.size w1 (w2.setCell ⟨st.ab, 5, none⟩ v') := Below.setCell hb (p := ⟨st.ab, 5, none⟩) h.ab0 v'
 have hfb : (w2.setCell ⟨st.ab, 5, none⟩ v').heap[w.heap.size]? = some (.cells #[.slice none 0 0, .slice none 0 0, .int .i64 n, .slice none 0 0, .int .i64 n] 86) := by
  rw [hch w.heap.size (by omega) (fun e => by have := (Array.getElem?_eq_some_iff.1 h.blk).1; omega) (fun e => by have := (owns_lt h.op _ e).1; omega)]
  exact hblk1
 have hB0 := h.bel.size
 have hfi : FnI c (w2.setCell ⟨st.ab, 5, none⟩ v') (fn0 w.heap.size n) := ⟨hfb, hB0, nil_own _ _ _ _, nil_own _ _ _ _, nil_own _ _ _ _, rfl, (fun _ hv => by cases hv)⟩
 refine ⟨⟨h1.bel.trans hbel, h.dat, h.dn, h.ab0, (set_ab hab2 v').2.2.1, row h1.gl (apt_ty h1.gl h1.op (by decide)) (by decide), h.gln, row h1.ub (apt_ty h1.ub h1.op (by decide)) (by decide), h.ubn, h.gu, row h1.bx (apt_ty h1.bx h1.op (by decide)) (by decide), ?_, ?_, ?_, row h1.cs (apt_ty h1.cs h1.op (by decide)) (by decide), hcs, row h1.fn (apt_ty h1.fn h1.op (by decide)) (by decide), h.fxl, h.b1, h.b2, ?_, ?_⟩, ⟨?_, ?_, ?_⟩⟩
 ·rw [push_all]
  show World.ownsRow _ _ _ _ v' (st.all ++ [fn0 w.heap.size n]).length (fnC (st.all ++ [fn0 w.heap.size n]))
  have e : fnC (st.all ++ [fn0 w.heap.size n]) = fnC st.all ++ [.pointer (some ⟨w.heap.size, 0, none⟩)] := by simp [fnC, fn0]
  rw [e, List.length_append]
  exact owns_set ho hab2 (by decide) v'
 ·rw [push_all]
  intro f hf
  rcases List.mem_append.1 hf with h2 | h2
  ·exact hfn f h2
  ·rw [List.mem_singleton.1 h2]; exact hfi
 ·rw [push_all, List.pairwise_append]
  refine ⟨h.apt, by simp, fun f hf g hg => ?_⟩
  rw [List.mem_singleton.1 hg]
  refine ⟨fun e => ?_, (fun k hk h2 => by cases h2), (fun k hk h2 => by cases h2), (fun k hk h2 => by cases h2)⟩
  have h2 := (h.fns f hf).lt (Or.inl rfl)
  have h3 : f.b = w.heap.size := e
  omega
 ·rw [push_all]
  intro f hf
  rcases List.mem_append.1 hf with h2 | h2
  ·exact (h.fnw f h2).mono (Nat.le_refl _) (Nat.le_succ N)
  ·rw [List.mem_singleton.1 h2]
   exact ⟨(fun _ hv => by cases hv), (fun _ hv => by cases hv), List.nodup_nil, Nat.zero_le _, Nat.zero_le _⟩
 ·have h2 := (h.mono (Nat.le_succ N)).len
  refine ⟨?_, h2.2.1, h2.2.2.1, h2.2.2.2.1, h2.2.2.2.2⟩
  rw [push_all, List.length_append]
  have := h.len.1
  simp
  omega
 ·rw [set_size]; have := hb.size; omega
 ·intro k hk hn
  rw [hch k (by omega) (fun e => hn (Or.inl e)) (fun e => hn (Or.inr (Or.inr (Or.inr (Or.inl e)))))]
  exact hbl1.block k hk
 ·intro k hk
  rcases hk with h2 | ⟨f, hf, h2⟩ | h2 | h2 | h2 | h2 | h2
  ·exact Or.inl (Or.inl h2)
  ·rw [push_all] at hf
   rcases List.mem_append.1 hf with h3 | h3
   ·exact Or.inl (Or.inr (Or.inl ⟨f, h3, h2⟩))
   ·rw [List.mem_singleton.1 h3] at h2
    rcases h2 with h4 | h4 | h4 | h4
    ·exact Or.inr (by rw [h4]; exact Nat.le_refl _)
    ·cases h4
    ·cases h4
    ·cases h4
  ·exact Or.inl (Or.inr (Or.inr (Or.inl h2)))
  ·rcases hl k h2 with h3 | h3
   ·exact Or.inl (Or.inr (Or.inr (Or.inr (Or.inl h3))))
   ·exact Or.inr h3
  ·exact Or.inl (Or.inr (Or.inr (Or.inr (Or.inr (Or.inl h2)))))
  ·exact Or.inl (Or.inr (Or.inr (Or.inr (Or.inr (Or.inr (Or.inl h2))))))
  ·exact Or.inl (Or.inr (Or.inr (Or.inr (Or.inr (Or.inr (Or.inr h2))))))
structure Fz (c : Cx) (st : St) (w : World) (f : Fn5) : Prop where
 I : FnI c w f
 no : ∀ k, Fb f k → ¬ Fp st k
theorem Fz.keep {c : Cx} {st st' : St} {w w' : World} {f : Fn5} (h : Fz c st w f) (hf : Fr st st' w w') : Fz c st' w' f :=
 ⟨h.I.kept (fun k hk => hf.keep k (h.I.lt hk) (h.no k hk)), fun k hk hp => by
  rcases hf.foot k hp with h1 | h1
  ·exact h.no k hk h1
  ·have := h.I.lt hk; omega⟩
def St.pop (st : St) (v' : Value) (lo : List Fn5) (t : Fn5) : St := { st with opv := v', lo := lo, tp := t }
theorem Inv.pop {c : Cx} {N cc : Nat} {w : World} {s : St} {p : Option Addr} (h : Inv c N w s) {lo : List Fn5} {t : Fn5} (hl : s.lo = lo ++ [t]) (hv : s.opv = .slice p (s.lo.length + 1) cc) :
  Inv c N (w.setCell ⟨s.ab, 5, none⟩ (.slice p s.lo.length cc)) (s.pop (.slice p s.lo.length cc) lo t) ∧ Fr s (s.pop (.slice p s.lo.length cc) lo t) w (w.setCell ⟨s.ab, 5, none⟩ (.slice p s.lo.length cc)) ∧ Fz c (s.pop (.slice p s.lo.length cc) lo t) (w.setCell ⟨s.ab, 5, none⟩ (.slice p s.lo.length cc)) s.tp := by
 have hall : (s.pop (.slice p s.lo.length cc) lo t).all = s.lo := hl.symm
 have hsub : ∀ f ∈ s.lo, f ∈ s.all := fun f hf => List.mem_append.2 (Or.inl hf)
 have hch : ∀ k, k < w.heap.size → k ≠ s.ab → (Value.slice none 0 0).ownBlock ≠ some k → (w.setCell ⟨s.ab, 5, none⟩ (.slice p s.lo.length cc)).heap[k]? = w.heap[k]? := fun k hk h1 _ => set_keep _ h1
 obtain ⟨row, hfn, hcs⟩ := h.keepA (nil_own w _ 9 1) (by decide) (by decide) (by decide) (by decide) (by decide) (by decide) hch
 have hbel : Below c.w0.heap.size w (w.setCell ⟨s.ab, 5, none⟩ (.slice p s.lo.length cc)) := Below.setCell (Below.refl _ _) (p := ⟨s.ab, 5, none⟩) h.ab0 _
 have hop := h.op
 rw [hv, all_len] at hop
 have hop2 := owns_cut hop (Nat.le_succ s.lo.length)
 have eop : (fnC s.all).take (s.lo.length * 1) = fnC s.lo := by
  unfold fnC St.all
  rw [Nat.mul_one, List.map_append, List.take_append_of_le_length (by simp), List.take_of_length_le (by simp)]
 rw [eop] at hop2
 have hob : ∀ k, (Value.slice p s.lo.length cc).ownBlock = some k → s.opv.ownBlock = some k := fun k hk => by
  rw [hv]
  cases p with
  | none => cases hk
  | some a => exact hk
 have hpfp : ∀ k, Fp (s.pop (.slice p s.lo.length cc) lo t) k → k = s.ab ∨ (∃ f ∈ s.lo, Fb f k) ∨ s.bxv.ownBlock = some k ∨ s.opv.ownBlock = some k ∨ s.csv.ownBlock = some k ∨ s.fnv.ownBlock = some k ∨ s.ubv.ownBlock = some k := fun k hk => by
  rcases hk with h2 | ⟨f, hf, h2⟩ | h2 | h2 | h2 | h2 | h2
  ·exact Or.inl h2
  ·rw [hall] at hf
   exact Or.inr (Or.inl ⟨f, hf, h2⟩)
  ·exact Or.inr (Or.inr (Or.inl h2))
  ·exact Or.inr (Or.inr (Or.inr (Or.inl (hob k h2))))
  ·exact Or.inr (Or.inr (Or.inr (Or.inr (Or.inl h2))))
  ·exact Or.inr (Or.inr (Or.inr (Or.inr (Or.inr (Or.inl h2)))))
  ·exact Or.inr (Or.inr (Or.inr (Or.inr (Or.inr (Or.inr h2)))))
 refine ⟨⟨h.bel.trans hbel, h.dat, h.dn, h.ab0, (set_ab h.blk _).2.2.1, row h.gl (apt_nil _) (by decide), h.gln, row h.ub (apt_nil _) (by decide), h.ubn, h.gu, row h.bx (apt_nil _) (by decide), ?_, ?_, ?_, row h.cs (apt_nil _) (by decide), hcs, row h.fn (apt_nil _) (by decide), h.fxl, h.b1, h.b2, ?_, ?_⟩, ⟨by rw [set_size]; exact Nat.le_refl _, fun k hk hn => hch k hk (fun e => hn (Or.inl e)) (fun e => by cases e), fun k hk => Or.inl ?_⟩, ⟨hfn _ (by simp [St.all]), fun k hk hp => ?_⟩⟩
 ·rw [hall]
  exact owns_set hop2 h.blk (by decide) _
 ·rw [hall]
  exact fun f hf => hfn f (hsub f hf)
 ·rw [hall]
  have := h.apt
  unfold St.all at this
  exact (List.pairwise_append.1 this).1
 ·rw [hall]
  exact fun f hf => h.fnw f (hsub f hf)
 ·have h2 := h.len
  refine ⟨?_, h2.2.1, h2.2.2.1, h2.2.2.2.1, h2.2.2.2.2⟩
  rw [hall]
  have := h2.1
  rw [all_len] at this
  omega
 ·rcases hpfp k hk with h2 | ⟨f, hf, h2⟩ | h2 | h2 | h2 | h2 | h2
  ·exact Or.inl h2
  ·exact Or.inr (Or.inl ⟨f, hsub f hf, h2⟩)
  ·exact Or.inr (Or.inr (Or.inl h2))
  ·exact Or.inr (Or.inr (Or.inr (Or.inl h2)))
  ·exact Or.inr (Or.inr (Or.inr (Or.inr (Or.inl h2))))
  ·exact Or.inr (Or.inr (Or.inr (Or.inr (Or.inr (Or.inl h2)))))
  ·exact Or.inr (Or.inr (Or.inr (Or.inr (Or.inr (Or.inr h2)))))
 ·rcases hpfp k hp with h2 | ⟨f, hf, h2⟩ | h2 | h2 | h2 | h2 | h2
  ·subst h2
   exact ab_ne_fb h (f := s.tp) (by simp [St.all]) hk
  ·have hap := h.apt
   unfold St.all at hap
   exact Fb.apart (h.fns f (hsub f hf)) h.tpI ((List.pairwise_append.1 hap).2.2 f hf s.tp (by simp)) h2 hk
  ·exact Fb.row h.tpI h.bx (by decide) (by decide) (by decide) (by decide) h2 hk
  ·exact Fb.row h.tpI h.op (by decide) (by decide) (by decide) (by decide) h2 hk
  ·exact Fb.row h.tpI h.cs (by decide) (by decide) (by decide) (by decide) h2 hk
  ·exact Fb.row h.tpI h.fn (by decide) (by decide) (by decide) (by decide) h2 hk
  ·exact Fb.row h.tpI h.ub (by decide) (by decide) (by decide) (by decide) h2 hk
def Fn5.slotAt (f : Fn5) (j : Nat) (x : Vr) : Fn5 := { f with vs := f.vs.set j x }
theorem vrC_set (vs : List Vr) (j : Nat) (hj : j < vs.length) (sl : Int) : (vrC vs).set (j * 3 + 1) (.int .i64 sl) = vrC (vs.set j ⟨(vs[j]'hj).m, sl, (vs[j]'hj).bound⟩) := by
 induction vs generalizing j with
 | nil => simp at hj
 | cons v vs ih =>
  have e : vrC (v :: vs) = nmV v.m :: .int .i64 v.slot :: .int .i64 (v.bound : Nat) :: vrC vs := by simp [vrC]
  cases j with
  | zero => rw [e]; simp [vrC]
  | succ j =>
   have hj' : j < vs.length := by simpa using hj
   rw [e, show (j + 1) * 3 + 1 = (j * 3 + 1) + 1 + 1 + 1 by omega]
   simp only [List.set_cons_succ, List.getElem_cons_succ]
   rw [ih j hj']
   simp [vrC]
theorem Inv.setVs {c : Cx} {N g cc j : Nat} {w : World} {st : St} (h : Inv c N w st) (hv : st.tp.vv = .slice (some ⟨g, 0, none⟩) st.tp.vs.length cc) (hj : j < st.tp.vs.length) (sl : Int) :
  Inv c N (w.setCell ⟨g, j * 3 + 1, none⟩ (.int .i64 sl)) (st.top (st.tp.slotAt j ⟨(st.tp.vs[j]'hj).m, sl, (st.tp.vs[j]'hj).bound⟩)) ∧ Fr st (st.top (st.tp.slotAt j ⟨(st.tp.vs[j]'hj).m, sl, (st.tp.vs[j]'hj).bound⟩)) w (w.setCell ⟨g, j * 3 + 1, none⟩ (.int .i64 sl)) := by
 have hf := h.tpI
 have hgb : st.tp.vv.ownBlock = some g := by rw [hv]; rfl
 have hg0 := owns_ge hf.vars g hgb
 have hb : Below c.w0.heap.size w (w.setCell ⟨g, j * 3 + 1, none⟩ (.int .i64 sl)) := Below.setCell (Below.refl _ _) (p := ⟨g, j * 3 + 1, none⟩) hg0 _
 have hkp : ∀ k, k ≠ g → (w.setCell ⟨g, j * 3 + 1, none⟩ (.int .i64 sl)).heap[k]? = w.heap[k]? := fun k hk => set_keep _ hk
 have hbne : st.tp.b ≠ g := fun e => owns_ne hf.vars hf.blk (by decide) (by rw [hgb, e])
 have row : ∀ {n size : Nat} {e : TypeId} {u : Value} {xs : List Value}, w.ownsRow c.w0.heap.size e size u n xs → e ≠ 193 → (w.setCell ⟨g, j * 3 + 1, none⟩ (.int .i64 sl)).ownsRow c.w0.heap.size e size u n xs := fun hu he => owns_of_heap hu (fun k hk => hkp k (fun e => apt_ty hu hf.vars he k hk (by rw [hgb, e])))
 have hvr := hf.vars
 rw [hv] at hvr
 have hv2 := owns_put (k := j * 3 + 1) hvr (.int .i64 sl)
 rw [vrC_set _ _ hj, ← hv] at hv2
 refine h.putT (N' := N) (f' := st.tp.slotAt j ⟨(st.tp.vs[j]'hj).m, sl, (st.tp.vs[j]'hj).bound⟩) hb (fun k hk hn => hkp k (fun e => hn (Or.inr (Or.inl (by rw [hgb, e]))))) ⟨(hkp _ hbne).trans hf.blk, hf.b0, ?_, row hf.free (by decide), row hf.code (by decide), hf.clen, ?_⟩ rfl (fun j hj => Or.inl hj) (fun j hj => Or.inl hj) (fun j hj => Or.inl hj) ?_ (Nat.le_refl _)
 ·show World.ownsRow _ _ _ _ st.tp.vv (st.tp.vs.set j _).length (vrC (st.tp.vs.set j _))
  rw [List.length_set]
  exact hv2
 ·intro v hv3
  rcases List.mem_or_eq_of_mem_set hv3 with h1 | h1
  ·exact hf.nms v h1
  ·rw [h1]
   have := hf.nms (st.tp.vs[j]'hj) (List.getElem_mem hj)
   exact this
 ·have hw := h.tpW
  refine ⟨fun v hv3 => ?_, hw.fb, hw.nd, hw.cn, ?_⟩
  ·rcases List.mem_or_eq_of_mem_set hv3 with h1 | h1
   ·exact hw.vb v h1
   ·rw [h1]
    have := hw.vb (st.tp.vs[j]'hj) (List.getElem_mem hj)
    exact this
  ·show (st.tp.vs.set j _).length ≤ N
   rw [List.length_set]; exact hw.vn
structure Pu (st s : St) (fb : Nat) (ms : List Nm) : Prop where
 ab : s.ab = st.ab
 gl : s.gl = st.gl
 glv : s.glv = st.glv
 len : s.lo.length = st.lo.length + 1
 fn : ∀ (i : Nat) (f f' : Fn5), st.all[i]? = some f → s.lo[i]? = some f' → f'.b = f.b ∧ f'.vs = f.vs ∧ f.cn ≤ f'.cn
 tb : s.tp.b = fb
 tv : s.tp.vs.map (·.m) = ms
 bx : st.bx.length ≤ s.bx.length
 bo : st.bo ≤ s.bo
 nf : st.nf ≤ s.nf
theorem Pu.open_ {st : St} (v' : Value) (b : Nat) (n : Int) : Pu st (st.push v' (fn0 b n)) b [] := by
 refine ⟨rfl, rfl, rfl, by simp [St.push], fun i f f' h1 h2 => ?_, rfl, rfl, Nat.le_refl _, Nat.le_refl _, Nat.le_refl _⟩
 have h2' : st.all[i]? = some f' := h2
 rw [h1] at h2'
 cases h2'
 exact ⟨rfl, rfl, Nat.le_refl _⟩
theorem Pu.then_ {st s s' : St} {fb : Nat} {ms : List Nm} (h : Pu st s fb ms) (k : Sm s s') : Pu st s' fb ms := by
 refine ⟨k.ab.trans h.ab, k.gl.trans h.gl, k.glv.trans h.glv, k.len.trans h.len, fun i f f' h1 h2 => ?_, k.tp.1.trans h.tb, by rw [k.tp.2.1]; exact h.tv, Nat.le_trans h.bx k.bx, Nat.le_trans h.bo k.bo, Nat.le_trans h.nf k.nf⟩
 have hi : i < s.lo.length := by
  have := (List.getElem?_eq_some_iff.1 h1).1
  rw [all_len] at this
  rw [h.len]; exact this
 have hi' : i < s'.lo.length := by rw [k.len]; exact hi
 obtain ⟨q1, q2, q3⟩ := h.fn i f _ h1 (List.getElem?_eq_getElem hi)
 obtain ⟨r1, r2, r3⟩ := k.fn i (s.lo[i]'hi) f' (by rw [all_lo hi]; exact List.getElem?_eq_getElem hi) (by rw [all_lo hi']; exact h2)
 exact ⟨r1.trans q1, r2.trans q2, Nat.le_trans q3 r3⟩
theorem Pu.bind {st s s' : St} {fb : Nat} {ms : List Nm} {m : Nm} {slot : Int} (h : Pu st s fb ms) (k : Bd s s' m slot) : Pu st s' fb (ms ++ [m]) := by
 obtain ⟨v', hv⟩ := k.tp
 refine ⟨k.ab.trans h.ab, k.gl.trans h.gl, k.glv.trans h.glv, by rw [k.lo]; exact h.len, fun i f f' h1 h2 => ?_, by rw [hv]; exact h.tb, ?_, Nat.le_trans h.bx k.bx, by rw [k.bo]; have := h.bo; omega, by rw [k.nf]; exact h.nf⟩
 ·rw [k.lo] at h2
  exact h.fn i f f' h1 h2
 ·rw [hv]
  show (s.tp.vs ++ [_]).map (fun v : Vr => v.m) = _
  rw [List.map_append, h.tv]
  rfl
theorem Pu.setVs {st s : St} {fb : Nat} {ms : List Nm} (h : Pu st s fb ms) {j : Nat} (hj : j < s.tp.vs.length) (sl : Int) : Pu st (s.top (s.tp.slotAt j ⟨(s.tp.vs[j]'hj).m, sl, (s.tp.vs[j]'hj).bound⟩)) fb ms := by
 refine ⟨h.ab, h.gl, h.glv, h.len, h.fn, h.tb, ?_, h.bx, h.bo, h.nf⟩
 show (s.tp.vs.set j _).map (fun v : Vr => v.m) = ms
 rw [List.map_set, ← h.tv]
 apply List.ext_getElem?
 intro i
 rw [List.getElem?_set]
 split
 ·rename_i e
  subst e
  simp [hj]
 ·rfl
theorem Pu.sc {st s : St} {fb : Nat} {ms : List Nm} (h : Pu st s fb ms) : s.sc = st.sc ++ ms.map (·.x) := by
 have e : s.lo.map (fun f => f.vs.map (fun v => v.m.x)) = st.all.map (fun f => f.vs.map (fun v => v.m.x)) := by
  apply List.ext_getElem?
  intro i
  rw [List.getElem?_map, List.getElem?_map]
  by_cases hi : i < st.all.length
  ·have hi' : i < s.lo.length := by rw [all_len] at hi; rw [h.len]; exact hi
   rw [List.getElem?_eq_getElem hi, List.getElem?_eq_getElem hi']
   simp only [Option.map_some]
   rw [(h.fn i _ _ (List.getElem?_eq_getElem hi) (List.getElem?_eq_getElem hi')).2.1]
  ·have hi' : ¬ i < s.lo.length := by rw [all_len] at hi; rw [h.len]; exact hi
   rw [List.getElem?_eq_none (by omega), List.getElem?_eq_none (by omega)]
 have e2 : s.lo.flatMap (fun f => f.vs.map (fun v => v.m.x)) = st.all.flatMap (fun f => f.vs.map (fun v => v.m.x)) := by
  show (List.map _ _).flatten = (List.map _ _).flatten
  rw [e]
 have e3 : s.tp.vs.map (fun v => v.m.x) = ms.map (·.x) := map_mx h.tv
 unfold St.sc
 rw [show s.all = s.lo ++ [s.tp] from rfl, List.flatMap_append, e2]
 simp [e3]
theorem Pu.pop {st s : St} {fb : Nat} {ms : List Nm} (h : Pu st s fb ms) {lo : List Fn5} {t : Fn5} (hl : s.lo = lo ++ [t]) (v' : Value) : Sm st (s.pop v' lo t) := by
 have hall : (s.pop v' lo t).all = s.lo := hl.symm
 refine ⟨h.ab, h.gl, h.glv, ?_, fun i f f' h1 h2 => ?_, h.bx, h.bo, h.nf⟩
 ·show lo.length = st.lo.length
  have h1 := h.len
  rw [hl, List.length_append] at h1
  simpa using h1
 ·rw [hall] at h2
  exact h.fn i f f' h1 h2
theorem lamR_short {k : Nat} {F : List (List Int) → List Dt → Option (List (List Int))} {sc : List (List Int)} {c : Cx} {xs : List Nat} (h : xs.length < 2) : lamR k F sc (at_ c xs) = none := by
 rcases xs with _ | ⟨a, _ | ⟨b, t⟩⟩
 ·rfl
 ·simp [lamR, at_]
 ·simp at h; omega
theorem lamR_bad {k : Nat} {F : List (List Int) → List Dt → Option (List (List Int))} {sc : List (List Int)} {c : Cx} {x : Nat} {bs : List Nat} (h : isLs (c.ds.drop x) = false) : lamR k F sc (at_ c (x :: bs)) = none := by
 simp [lamR, at_, h]
theorem lamR_names {k : Nat} {F : List (List Int) → List Dt → Option (List (List Int))} {sc : List (List Int)} {c : Cx} {x : Nat} {bs : List Nat} (hn : nmsOf (kidsOf k (c.ds.drop x)) = none) : lamR k F sc (at_ c (x :: bs)) = none := by
 have e : at_ c (x :: bs) = c.ds.drop x :: at_ c bs := rfl
 rw [e]
 unfold lamR
 simp only
 split
 ·rw [hn]
 ·rfl
theorem lamR_some {k : Nat} {F : List (List Int) → List Dt → Option (List (List Int))} {sc : List (List Int)} {c : Cx} {x : Nat} {bs : List Nat} {ns : List (List Int)} (hl : isLs (c.ds.drop x) = true) (hb : bs ≠ []) (hn : nmsOf (kidsOf k (c.ds.drop x)) = some ns) : lamR k F sc (at_ c (x :: bs)) = allO (F (sc ++ ns)) (at_ c bs) := by
 have e : at_ c (x :: bs) = c.ds.drop x :: at_ c bs := rfl
 rw [e]
 unfold lamR
 simp only
 rw [if_pos ⟨hl, by cases bs with | nil => exact absurd rfl hb | cons a t => simp [at_]⟩, hn]
theorem owns_lower {w : World} {B B' n size : Nat} {e : TypeId} {v : Value} {xs : List Value} (h : w.ownsRow B e size v n xs) (hB : B' ≤ B) : w.ownsRow B' e size v n xs := by
 obtain ⟨h1, h2 | ⟨g, cap, cur, rfl, hg, r⟩⟩ := h
 ·exact ⟨h1, Or.inl h2⟩
 ·exact ⟨h1, Or.inr ⟨g, cap, cur, rfl, by omega, r⟩⟩
theorem inNames (args : Array Value) (w : World) : (callFunc 171 args).run Tryz.prog w = .ok (.enter 171 args) w := by kernel_rfl
theorem inPush (args : Array Value) (w : World) : (callFunc 45 args).run Tryz.prog w = .ok (.enter 45 args) w := by kernel_rfl
def LaN (c : Cx) (k x0 : Nat) (w w2 : World) (q : Option Addr) (n qc : Nat) (ok : Bool) : Prop := Below w.heap.size w w2 ∧ ((ok = false ∧ nmsOf (kidsOf k (c.ds.drop x0)) = none) ∨ (ok = true ∧ ∃ ms : List Nm, nmsOf (kidsOf k (c.ds.drop x0)) = some (ms.map (·.x)) ∧ (∀ m ∈ ms, NmI c m) ∧ ms.length = n ∧ n + 1 ≤ sz k (c.ds.drop x0) ∧ w2.ownsRow w.heap.size 34 1 (.slice q n qc) n (nmC ms)))
theorem names_la {c : Cx} {N k x0 : Nat} {st : St} {w w1 : World} {p1 : Option Addr} {c1 : Nat} {ks : List Nat} (h : Inv c N w st) (hok : Ok k (c.ds.drop x0)) (hls : isLs (c.ds.drop x0) = true) (hsz : sz k (c.ds.drop x0) ≤ 3000) (ho : OwI w1 w.heap.size (.slice p1 ks.length c1) ks) (hb : Below w.heap.size w w1) (hat : at_ c ks = kidsOf k (c.ds.drop x0)) (hp : Pcs c (k - 1) ks) :
  Calls Tryz.prog 171 #[.pointer (some ⟨st.ab, 0, none⟩), .slice p1 ks.length c1] w1 fun e w2 => ∃ v, e = .returned v ∧ ∃ (q : Option Addr) (n qc : Nat) (ok : Bool), v = .tuple #[.slice q n qc, .bool ok] ∧ LaN c k x0 w w2 q n qc ok := by
 have hsum := kids_sumK hok hls
 have hpk := hp.mono (Nat.sub_le k 1)
 have hlen := len_sum hpk.ok
 rw [hat] at hlen
 have hl2 : (kidsOf k (c.ds.drop x0)).length = ks.length := by rw [← hat]; simp [at_]
 refine (l5names_c p1 ks.length c1 ks w1 (h.stp hb).inv (OwI.ix1 h ho) hpk (by omega)).mono ?_
 rintro e w2 ⟨hb2, ⟨hno, rfl⟩ | ⟨q, qc, ms, rfl, hns, hqo⟩⟩
 ·refine ⟨_, rfl, none, 0, 0, false, rfl, hb.trans (hb2.mono hb.size), Or.inl ⟨rfl, ?_⟩⟩
  rw [← hat]; exact hno
 ·refine ⟨_, rfl, q, ks.length, qc, true, rfl, hb.trans (hb2.mono hb.size), Or.inr ⟨rfl, ms, ?_, hns.nmi, hns.len, by omega, owns_lower hqo hb.size⟩⟩
  rw [← hat]; exact hns.some_
structure LaS (c : Cx) (N : Nat) (st : St) (w : World) (fb : Nat) (ms : List Nm) (s : St) (w' : World) : Prop where
 inv : Inv c N w' s
 fr : Fr st s w w'
 pu : Pu st s fb ms
 bad : s.bad = st.bad
 ub : s.ub = st.ub
theorem LaS.emp {c : Cx} {N fb : Nat} {st s : St} {w w1 w2 : World} {ms : List Nm} (h : LaS c N st w fb ms s w1) (hm : EmP c N s w1 w2) : ∃ s2, LaS c (N + 1) st w fb ms s2 w2 ∧ s2.bo = s.bo ∧ s.nf ≤ s2.nf := by
 obtain ⟨s2, h1, h2, _⟩ := hm
 exact ⟨s2, ⟨h1.inv, h.fr.trans h1.fr, h.pu.then_ h1.sm, h2.1.trans h.bad, h2.2.1.trans h.ub⟩, h2.2.2, h1.sm.nf⟩
theorem LaS.bind {c : Cx} {N fb : Nat} {st s s2 : St} {w w1 w2 : World} {ms : List Nm} {m : Nm} {slot : Int} (h : LaS c N st w fb ms s w1) (h1 : Inv c (N + 1) w2 s2) (h2 : Fr s s2 w1 w2) (h3 : Bd s s2 m slot) : LaS c (N + 1) st w fb (ms ++ [m]) s2 w2 :=
 ⟨h1, h.fr.trans h2, h.pu.bind h3, h3.bad.trans h.bad, h3.ub.trans h.ub⟩
theorem LaS.below {c : Cx} {N fb : Nat} {st s : St} {w w1 w2 : World} {ms : List Nm} (h : LaS c N st w fb ms s w1) (hb : Below w1.heap.size w1 w2) : LaS c N st w fb ms s w2 :=
 ⟨(h.inv.stp hb).inv, h.fr.trans (h.inv.stp hb).fr, h.pu, h.bad, h.ub⟩
theorem LaS.up {c : Cx} {N M fb : Nat} {st s : St} {w w1 : World} {ms : List Nm} (h : LaS c N st w fb ms s w1) (hb : N ≤ M) : LaS c M st w fb ms s w1 :=
 ⟨h.inv.mono hb, h.fr, h.pu, h.bad, h.ub⟩
theorem LaS.setVs {c : Cx} {N fb g cc j : Nat} {st s : St} {w w1 : World} {ms : List Nm} (h : LaS c N st w fb ms s w1) (hv : s.tp.vv = .slice (some ⟨g, 0, none⟩) s.tp.vs.length cc) (hj : j < s.tp.vs.length) (sl : Int) : ∃ s2, LaS c N st w fb ms s2 (w1.setCell ⟨g, j * 3 + 1, none⟩ (.int .i64 sl)) ∧ s2.bo = s.bo ∧ s2.nf = s.nf :=
 ⟨_, ⟨(h.inv.setVs hv hj sl).1, h.fr.trans (h.inv.setVs hv hj sl).2, h.pu.setVs hj sl, h.bad, h.ub⟩, rfl, rfl⟩
theorem LaS.vl {c : Cx} {N fb : Nat} {st s : St} {w w1 : World} {ms : List Nm} (h : LaS c N st w fb ms s w1) : s.tp.vs.length = ms.length := by
 rw [← h.pu.tv, List.length_map]
theorem LaS.sq {c : Cx} {N k fb : Nat} {st s s2 : St} {w w1 w2 : World} {ms : List Nm} {xs : List Nat} (h : LaS c N st w fb ms s w1) (hq : SqP c N k s w1 xs s2 w2) : Inv c (N + sumB k (at_ c xs)) w2 s2 ∧ Fr st s2 w w2 ∧ Pu st s2 fb ms ∧ RsP (allO (rd (st.gl.map (·.x)) k (st.sc ++ ms.map (·.x))) (at_ c xs)) st s2 ∧ s2.bo ≤ s.bo + sumS k (at_ c xs) := by
 refine ⟨hq.stp.inv, h.fr.trans hq.stp.fr, h.pu.then_ hq.stp.sm, ?_, hq.bo⟩
 have h1 := hq.rs
 rw [h.pu.gl, h.pu.sc] at h1
 exact h1.base h.bad h.ub
theorem lo_split {st s : St} {fb : Nat} {ms : List Nm} (h : Pu st s fb ms) : ∃ lo t, s.lo = lo ++ [t] := by
 have := h.len
 rcases List.eq_nil_or_concat s.lo with e | ⟨lo, t, e⟩
 ·rw [e] at this; simp at this
 ·exact ⟨lo, t, by rw [e, List.concat_eq_append]⟩
theorem nodup_le {L : Nat} {l : List Nat} (hn : l.Nodup) (hb : ∀ x ∈ l, x < L) : l.length ≤ L := by
 induction L generalizing l with
 | zero =>
  cases l with
  | nil => exact Nat.le_refl _
  | cons a t => exact absurd (hb a (by simp)) (Nat.not_lt_zero a)
 | succ L ih =>
  have h1 := ih (l := l.filter (fun x => decide (x ≠ L))) (hn.filter _) (fun x hx => by
   have h2 := (List.mem_filter.1 hx)
   have h3 := hb x h2.1
   have h4 : x ≠ L := by simpa using h2.2
   omega)
  have h2 : l.length ≤ (l.filter (fun x => decide (x ≠ L))).length + 1 := by
   clear h1 hb ih
   induction l with
   | nil => simp
   | cons a t iht =>
    have hn2 := List.nodup_cons.1 hn
    by_cases ha : a = L
    ·subst ha
     have e : t.filter (fun x => decide (x ≠ a)) = t := List.filter_eq_self.2 (fun x hx => by
      have : x ≠ a := fun e => hn2.1 (by rw [← e]; exact hx)
      simpa using this)
     rw [List.filter_cons_of_neg (by simp), e]
     simp
    ·rw [List.filter_cons_of_pos (by simpa using ha)]
     have := iht hn2.2
     simp only [List.length_cons]
     omega
  omega
set_option maxRecDepth 20000 in
set_option maxHeartbeats 1000000 in
theorem l5lamw_c {c : Cx} {N k : Nat} {st : St} (p : Option Addr) (n d : Nat) (xs : List Nat) (tail : Bool) (w : World) (h : Inv c N w st) (hn : n < 2) (hN : N + 9000 ≤ 1000000000) :
  Calls Tryz.prog 137 #[.pointer (some ⟨st.ab, 0, none⟩), .slice p n d, .bool tail] w fun e w' => (∃ u, e = .returned u) ∧ SpP c N k st xs none w w' := by
 have t0 : decide ((n : Int) < 2) = true := decide_eq_true (by omega)
 have HI := mkC h
 have HW := mkC (l5wrong_c tail w.drew (h.stp (below_drewC (Below.refl _ _))).inv (by omega))
 clear h hn
 go_enter Tryz.func137, Tryz.ntmps137
 go_wp2_with fail
 go_region
 all_goals go_wp2_with fail
 all_goals refine HW.out.mono ?_
 all_goals rintro e w1 ⟨⟨u, rfl⟩, st', h1, h2, h3⟩
 all_goals have HF := mkC (wrong_sp (k := k) (xs := xs) (w := w) ⟨st', (HI.out.stp (below_drewC (Below.refl _ _))).trans h1, h2, h3⟩)
 all_goals clear h1 h2 h3 HW
 all_goals go_wp2_with fail
 all_goals refine bodyPost_ret (results_none rfl _ _ _) rfl ?_
 all_goals exact ⟨⟨_, rfl⟩, HF.out⟩
set_option maxRecDepth 20000 in
set_option maxHeartbeats 1000000 in
theorem l5lamn_c {c : Cx} {N k : Nat} {st : St} (p : Option Addr) (n d x0 : Nat) (bs : List Nat) (tail : Bool) (w : World) (h : Inv c N w st) (hx : Ix st w p n d (x0 :: bs)) (hp : Pcs c k (x0 :: bs)) (hn : 2 ≤ n) (hs : isLs (c.ds.drop x0) = false) (hN : N + 9000 ≤ 1000000000) :
  Calls Tryz.prog 137 #[.pointer (some ⟨st.ab, 0, none⟩), .slice p n d, .bool tail] w fun e w' => (∃ u, e = .returned u) ∧ SpP c N k st (x0 :: bs) none w w' := by
 have t0 : decide ((n : Int) < 2) = false := decide_eq_false (by omega)
 have hn0 : 0 < n := by omega
 obtain ⟨g, o, rfl, hg, y0⟩ := hx.at_ (i := 0) (by simp)
 simp only [List.getElem_cons_zero, Nat.add_zero] at y0
 have hx0 : x0 < c.dn := (hp x0 (by simp)).1
 obtain ⟨db, dof, hdp, hdc, _, _⟩ := h.dtAt hx0
 have e0 := (cells10 h.blk).1
 rw [hdp] at e0
 have k0 := (hdc w h.bel).1
 have t1 : ((hd (c.ds.drop x0)).kind == 3) = false := by unfold isLs at hs; simpa using hs
 generalize (hd (c.ds.drop x0)).kind = kd at k0 t1
 have HI := mkC h
 have HW := mkC (l5wrong_c tail w.drew (h.stp (below_drewC (Below.refl _ _))).inv (by omega))
 clear h hx hp hn hs hdc
 go_enter Tryz.func137, Tryz.ntmps137
 go_wp2_with fail
 go_region
 all_goals go_wp2_with fail
 all_goals refine HW.out.mono ?_
 all_goals rintro e w1 ⟨⟨u, rfl⟩, st', h1, h2, h3⟩
 all_goals have HF := mkC (wrong_sp (k := k) (xs := x0 :: bs) (w := w) ⟨st', (HI.out.stp (below_drewC (Below.refl _ _))).trans h1, h2, h3⟩)
 all_goals clear h1 h2 h3 HW
 all_goals go_wp2_with fail
 all_goals refine bodyPost_ret (results_none rfl _ _ _) rfl ?_
 all_goals exact ⟨⟨_, rfl⟩, HF.out⟩
end Cp
end Go.Proofs.YtnnpfoilojicjaaGreatDoor
