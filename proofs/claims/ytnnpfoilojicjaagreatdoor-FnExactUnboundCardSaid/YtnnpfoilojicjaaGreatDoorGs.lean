import Derived.Test.YtnnpfoilojicjaaGreatDoorGm
namespace Go.Proofs.YtnnpfoilojicjaaGreatDoor
open Go.RowKit Ch1
namespace Cp
theorem rawA {c : Cx} {N ab : Nat} {st : St} (lev : Nat) (p : Option Addr) (n cc : Nat) (s : Int) (x : Nat) (w : World) (h : Inv c N w st) (hab : st.ab = ab) (hlev : lev < st.all.length) (hx : x < st.bx.length) (hN : N ≤ 1000000000) :
  Calls Tryz.prog 131 #[.pointer (some ⟨ab, 0, none⟩), .int .i64 (lev : Nat), .agg #[.slice p n cc, .int .i64 s, .int .i64 (x : Nat)]] w fun e w' => (∃ u, e = .returned u) ∧ DoP c N st w w' := by subst hab; exact l5raw_c lev p n cc s x w h hlev hx hN
structure StM (c : Cx) (N k : Nat) (st : St) (w : World) (x1 : Nat) (r : Option (List (List Int))) (j : Nat) (s : St) (w' : World) : Prop where
 stp : Stp c (N + 3 + bud k (c.ds.drop x1) + j) st w s w'
 rs : RsP r st s
 bo : s.bo ≤ st.bo + sz k (c.ds.drop x1)
theorem set_more {c : Cx} {N k x1 : Nat} {st s1 : St} {w w1 w2 : World} {l : List (List Int)} (h1 : Stp c (N + 3) st w s1 w1) (hr : RsP (some l) st s1) (hb : s1.bo = st.bo) (hx : ExP c (N + 3) k s1 x1 w1 w2) : ∃ s2, StM c N k st w x1 (cat (some l) (rd (st.gl.map (·.x)) k st.sc (c.ds.drop x1))) 0 s2 w2 ∧ s2.ab = st.ab ∧ Fr s1 s2 w1 w2 := by
 obtain ⟨s2, h4, h5, h6⟩ := hx
 rw [h1.sm.gl, h1.sm.sc] at h5
 exact ⟨s2, ⟨(h1.trans h4).mono (by omega), hr.cat h5, by omega⟩, h4.sm.ab.trans h1.sm.ab, h4.fr⟩
theorem StM.emit {c : Cx} {N k x1 j m : Nat} {st s1 s2 : St} {w w1 w2 : World} {r : Option (List (List Int))} (h : StM c N k st w x1 r j s1 w1) (h2 : Stp c (N + 3 + bud k (c.ds.drop x1) + j + m) s1 w1 s2 w2) (hq : Qt s1 s2) : StM c N k st w x1 r (j + m) s2 w2 := by
 refine ⟨h.stp.trans (h2.mono (by omega)), h.rs.then_ hq, ?_⟩
 rw [hq.2.2]
 exact h.bo
theorem StM.emp {c : Cx} {N k x1 j : Nat} {st s1 : St} {w w1 w2 : World} {r : Option (List (List Int))} (h : StM c N k st w x1 r j s1 w1) (hx : EmP c (N + 3 + bud k (c.ds.drop x1) + j) s1 w1 w2) : ∃ s2, StM c N k st w x1 r (j + 1) s2 w2 ∧ s2.ab = st.ab := by
 obtain ⟨s2, h1, h2, _⟩ := hx
 exact ⟨s2, h.emit h1 h2, h1.sm.ab.trans h.stp.sm.ab⟩
theorem StM.dop {c : Cx} {N k x1 j : Nat} {st s1 : St} {w w1 w2 : World} {r : Option (List (List Int))} (h : StM c N k st w x1 r j s1 w1) (hx : DoP c (N + 3 + bud k (c.ds.drop x1) + j) s1 w1 w2) : ∃ s2, StM c N k st w x1 r (j + 1) s2 w2 ∧ s2.ab = st.ab := by
 obtain ⟨s2, h1, h2⟩ := hx
 exact ⟨s2, h.emit h1 h2, h1.sm.ab.trans h.stp.sm.ab⟩
theorem StM.sp {c : Cx} {N k x0 x1 j : Nat} {st s1 : St} {w w1 : World} {r : Option (List (List Int))} (h : StM c N k st w x1 r j s1 w1) (hj : j ≤ 8000) : SpP c N k st [x0, x1] r w w1 := by
 refine ⟨s1, h.stp.mono ?_, h.rs, ?_⟩
 ·simp [Cp.at_, sumB]
  omega
 ·have := h.bo
  simp [Cp.at_, sumS]
  omega
set_option maxRecDepth 20000 in
set_option maxHeartbeats 2000000 in
theorem l5set2_c {c : Cx} {N k : Nat} {st : St} (hE : ExC c k) (p : Option Addr) (d x0 x1 : Nat) (tail : Bool) (w : World) (h : Inv c N w st) (hx : Ix st w p 2 d [x0, x1]) (hp : Pcs c k [x0, x1]) (hs : isSy (c.ds.drop x0) = true) (r : Option (List (List Int))) (hr : Hid (r = cat (some (lack (st.gl.map (·.x)) st.sc (nm (c.ds.drop x0)))) (rd (st.gl.map (·.x)) k st.sc (c.ds.drop x1)))) (hN : N + sumB k (Cp.at_ c [x0, x1]) + 9000 ≤ 1000000000) (hb : st.bo + sumS k (Cp.at_ c [x0, x1]) ≤ 3000) :
  Calls Tryz.prog 139 #[.pointer (some ⟨st.ab, 0, none⟩), .slice p 2 d, .bool tail] w fun e w' => (∃ u, e = .returned u) ∧ SpP c N k st [x0, x1] r w w' := by
 have HE := mkC hE
 have HI := mkC h
 have HX := mkC hx
 have P1 := mkC (hp x1 (by simp))
 obtain ⟨g, o, rfl, hg, y0⟩ := hx.at_ (i := 0) (by simp)
 simp only [List.getElem_cons_zero, Nat.add_zero] at y0
 have HS := mkC (l5sym_c x0 w h (hp x0 (by simp)).1)
 rw [hs] at HS
 have hx0 : x0 < c.dn := (hp x0 (by simp)).1
 obtain ⟨m, db, dof, hdp, hmx, hm, hmc⟩ := h.nmAt hx0 (hp x0 (by simp)).2 hs
 have HM := mkC hm
 have HMC := mkC hmc
 have HMX := mkC hmx
 have e0 := (cells10 h.blk).1
 rw [hdp] at e0
 have y2 := hmc w h.bel
 have hdn := h.dn
 have HN : Hid (N + bud k (c.ds.drop x1) + 9000 ≤ 1000000000) := by
  unfold Hid
  simp [Cp.at_, sumB] at hN
  omega
 have hN9 : N + 9000 ≤ 1000000000 := by omega
 have HB : Hid (st.bo + sz k (c.ds.drop x1) ≤ 3000) := by
  unfold Hid
  simp [Cp.at_, sumS] at hb
  omega
 have HSD := mkC (h.stp (below_drewC (Below.refl _ w)))
 have HFI := mkC (l5find_c m w.drew HSD.out.inv hm (by omega))
 have HGL : Hid (∀ W, Inv c N W st → Calls Tryz.prog 42 #[.pointer (some ⟨st.ab, 0, none⟩), .slice m.p m.n m.c] W fun e w' => (∃ z : Int, e = .returned (.int .i64 z) ∧ IxP (st.gl.map (·.x)) m.x z) ∧ Below W.heap.size W w') := fun W hW => l5global_c m W hW hm
 obtain ⟨mp, mn, mc, mx⟩ := m
 simp only at y2 HFI HGL
 clear h hx hp hE hN hb hm hmc hmx
 go_enter Tryz.func139, Tryz.ntmps139
 go_wp2_with fail
 refine HS.out.mono ?_
 rintro e w ⟨rfl, rfl⟩
 go_wp2_with fail
 go_region
 go_wp2_with fail
 refine HFI.out.mono ?_
 rintro e w1 ⟨⟨z, vp, vn, vc, vs, vb, rfl, hfd⟩, hb1⟩
 have HB1 : Hid (Below w.heap.size w w1) := (below_drewC (Below.refl _ w)).trans hb1
 have HFD := mkC hfd
 have HZ := mkC hfd.iff
 clear hfd hb1 HFI HSD
 obtain ⟨W, hW⟩ : ∃ W, W = w1.alloc (.cells #[.slice vp vn vc, .int .i64 vs, .int .i64 vb] 193) := ⟨_, rfl⟩
 have HBW : Hid (Below w.heap.size w W) := by unfold Hid; rw [hW]; exact HB1.out.trans ((below1 _ _).mono HB1.out.size)
 have HSW := mkC (HI.out.stp HBW.out)
 have HVB : Hid (W.heap[w1.heap.size]? = some (.cells #[.slice vp vn vc, .int .i64 vs, .int .i64 vb] 193)) := by unfold Hid; rw [hW]; exact Go.Deep.blk_alloc_new _ _
 have hw1W : w1.heap.size < W.heap.size := by rw [hW]; simp
 have HNF : Hid (¬ Fp st w1.heap.size) := (HI.out.stp HB1.out).inv.no_fp (Nat.le_refl _)
 have HWE := mkC hW
 have HG := mkC (HGL.out W HSW.out.inv)
 clear hW HGL
 go_wp2_with fail
 rw [← HWE.out]
 refine HG.out.mono ?_
 rintro e w2 ⟨⟨z2, rfl, hix⟩, hb2⟩
 have HS2 := mkC (HSW.out.trans (HSW.out.inv.stp hb2))
 have HIX := mkC hix.iff
 have HVB2 : Hid (w2.heap[w1.heap.size]? = some (.cells #[.slice vp vn vc, .int .i64 vs, .int .i64 vb] 193)) := (hb2.block _ hw1W).trans HVB.out
 have hw12 : w1.heap.size < w2.heap.size := Nat.lt_of_lt_of_le hw1W hb2.size
 clear hix hb2 HG
 by_cases hz : 0 ≤ z
 ·rcases HFD.out with ⟨h1, _⟩ | ⟨lev, j, f, v, h1, h2, h3, h4, _, _, rfl, rfl, rfl, rfl, rfl⟩
  ·omega
  ·subst h1
   have hlev : lev < st.all.length := (List.getElem?_eq_some_iff.1 h2).1
   have hbd : v.bound < st.bx.length := (HI.out.fnw f (List.mem_of_getElem? h2)).vb v (List.mem_of_getElem? h3)
   have HLK : Hid (lack (st.gl.map (·.x)) st.sc (nm (c.ds.drop x0)) = []) := by
    have h1 := HZ.out
    rw [decide_eq_true hz] at h1
    unfold Hid lack bnd
    rw [← HMX.out, ← h1]; rfl
   clear HZ HFD h2 h3 h4 HIX
   obtain ⟨⟨vp, vn, vc, vx⟩, vs, vb⟩ := v
   simp only at hbd HVB HVB2 HWE ⊢
   have q2 := (cells3C HVB2.out).2.2.1
   have hbx3 := HS2.out.inv.b2
   obtain ⟨bp, bc, hbv, hba⟩ := HS2.out.inv.bxAt
   have e2 := (cells10 HS2.out.inv.blk).2.2.1
   rw [hbv] at e2
   obtain ⟨bg, rfl, hbg, ⟨cur, hcur⟩, hbc⟩ := hba (by omega)
   have ef : w2.frozen? ⟨bg, vb, none⟩ = false := by simp [World.frozen?, hcur]
   have e3 := hbc vb hbd
   generalize st.bx[vb]'hbd = bit at e3
   have HSQ := mkC (HS2.out.trans (HS2.out.inv.setBx (j := vb) hbv true))
   have HSX := mkC (HSQ.out.trans (HSQ.out.inv.stp (below_drewC (Below.refl _ _))))
   obtain ⟨W3, hW3⟩ : ∃ W3, W3 = (w2.setCell ⟨bg, vb, none⟩ (.bool true)).drew := ⟨_, rfl⟩
   rw [← hW3] at HSX
   have hgne : w1.heap.size ≠ bg := fun e => HNF.out (by rw [e]; exact Or.inr (Or.inr (Or.inl (by rw [hbv]; rfl))))
   have HVB3 : Hid (W3.heap[w1.heap.size]? = some (.cells #[.slice vp vn vc, .int .i64 vs, .int .i64 (vb : Nat)] 193)) := by unfold Hid; rw [hW3]; exact (show (w2.setCell ⟨bg, vb, none⟩ (.bool true)).heap[w1.heap.size]? = _ from (set_keep _ hgne).trans HVB2.out)
   have HR := mkC (rawA (N := N) (ab := st.ab) lev vp vn vc vs vb W3 HSX.out.inv rfl hlev (by show vb < (st.bx.set vb true).length; rw [List.length_set]; exact hbd) (by omega))
   have r0 := (cells3C HVB3.out).1
   have r1 := (cells3C HVB3.out).2.1
   have r2 := (cells3C HVB3.out).2.2.1
   obtain ⟨bl, hbl⟩ : ∃ bl, bl = st.bx.length := ⟨_, rfl⟩
   rw [← hbl] at e2 hbd hbx3
   have HW3 := mkC hW3
   clear hbv hba hbc hbl hW3 hcur
   go_wp2_with fail
   go_region
   rw [← HW3.out]
   go_wp2_with fail
   refine HR.out.mono ?_
   rintro e wa ⟨⟨u, rfl⟩, sa, hsa, hqa⟩
   have HSa : Hid (Stp c (N + 3) st w sa wa) := (HSX.out.trans hsa).mono (by omega)
   have HRa : Hid (RsP (some []) st sa) := (show Qt st sa from ⟨hqa.1, hqa.2.1, hqa.2.2⟩).rs
   have HBa : Hid (sa.bo = st.bo) := hqa.2.2
   obtain ⟨g', o', e', _, ya⟩ := (HX.out.step HSa.out.fr).at_ (i := 1) (by simp)
   cases e'
   simp only [List.getElem_cons_succ, List.getElem_cons_zero] at ya
   have HC := mkC (exA (ab := st.ab) HE.out false wa HSa.out.inv HSa.out.sm.ab P1.out (by have := HN.out; omega) (by have := HB.out; have := HBa.out; omega))
   clear hsa hqa q2 e2 e3 r0 r1 r2 ef HR
   go_wp2_with fail
   refine HC.out.mono ?_
   rintro e wb ⟨⟨u, rfl⟩, hxb⟩
   obtain ⟨sb, hsb, habb, hfb⟩ := set_more HSa.out HRa.out HBa.out hxb
   have Hb : Hid (StM c N k st w x1 r 0 sb wb) := by unfold Hid; rw [hr.out, HLK.out]; exact hsb
   have HD := mkC (dropA (s := sb) 7 0 2 wb Hb.out.stp.inv habb (by have := HN.out; omega))
   clear hxb hsb habb hfb HC ya
   go_wp2_with fail
   refine HD.out.mono ?_
   rintro e wc ⟨rfl, hmc⟩
   obtain ⟨sc, hsc, habc⟩ := Hb.out.emp hmc
   have Hc := mkC hsc
   have HPU := mkC (pushA (s := sc) 17 0 0 0 wc Hc.out.stp.inv habc (by have := HN.out; omega))
   clear hmc hsc habc HD
   go_wp2_with fail
   refine HPU.out.mono ?_
   rintro e wd ⟨⟨u, rfl⟩, hmd⟩
   obtain ⟨sd, hsd, habd⟩ := Hc.out.emp hmd
   have Hd := mkC hsd
   have HDN := mkC (doneA (s := sd) tail wd Hd.out.stp.inv habd (by have := HN.out; omega))
   clear hmd hsd habd HPU
   go_wp2_with fail
   refine HDN.out.mono ?_
   rintro e we ⟨⟨u, rfl⟩, hme⟩
   obtain ⟨se, hse, _⟩ := Hd.out.dop hme
   have HF : Hid (SpP c N k st [x0, x1] r w we) := hse.sp (by omega)
   clear hme hse HDN
   go_wp2_with fail
   go_end0
   exact ⟨⟨_, rfl⟩, HF.out⟩
 ·have HSC : Hid (st.sc.contains mx = false) := by
   have h1 := HZ.out
   rw [decide_eq_false hz] at h1
   exact h1.symm
  clear HZ HFD
  have tz : decide (0 ≤ z) = false := decide_eq_false hz
  clear hz
  by_cases hz2 : 0 ≤ z2
  ·have HLK : Hid (lack (st.gl.map (·.x)) st.sc (nm (c.ds.drop x0)) = []) := by
    have h1 := HIX.out
    rw [decide_eq_true hz2] at h1
    unfold Hid lack bnd
    rw [← HMX.out, ← h1, HSC.out]; rfl
   have tz2 : decide (z2 < 0) = false := decide_eq_false (by omega)
   clear HIX hz2
   have HSa : Hid (Stp c (N + 3) st w st w2) := HS2.out.mono (by omega)
   have HRa : Hid (RsP (some []) st st) := (show Qt st st from ⟨rfl, rfl, rfl⟩).rs
   obtain ⟨g', o', e', _, ya⟩ := (HX.out.step HSa.out.fr).at_ (i := 1) (by simp)
   cases e'
   simp only [List.getElem_cons_succ, List.getElem_cons_zero] at ya
   have HC := mkC (exA (ab := st.ab) HE.out false w2 HSa.out.inv rfl P1.out (by have := HN.out; omega) (by have := HB.out; omega))
   go_wp2_with fail
   refine HC.out.mono ?_
   rintro e wb ⟨⟨u, rfl⟩, hxb⟩
   obtain ⟨sb, hsb, habb, hfb⟩ := set_more HSa.out HRa.out rfl hxb
   have Hb : Hid (StM c N k st w x1 r 0 sb wb) := by unfold Hid; rw [hr.out, HLK.out]; exact hsb
   have HD := mkC (dropA (s := sb) 4 z2 1 wb Hb.out.stp.inv habb (by have := HN.out; omega))
   clear hxb hsb habb hfb HC ya
   go_wp2_with fail
   refine HD.out.mono ?_
   rintro e wc ⟨rfl, hmc⟩
   obtain ⟨sc, hsc, habc⟩ := Hb.out.emp hmc
   have Hc := mkC hsc
   have HPU := mkC (pushA (s := sc) 17 0 0 0 wc Hc.out.stp.inv habc (by have := HN.out; omega))
   clear hmc hsc habc HD
   go_wp2_with fail
   refine HPU.out.mono ?_
   rintro e wd ⟨⟨u, rfl⟩, hmd⟩
   obtain ⟨sd, hsd, habd⟩ := Hc.out.emp hmd
   have Hd := mkC hsd
   have HDN := mkC (doneA (s := sd) tail wd Hd.out.stp.inv habd (by have := HN.out; omega))
   clear hmd hsd habd HPU
   go_wp2_with fail
   refine HDN.out.mono ?_
   rintro e we ⟨⟨u, rfl⟩, hme⟩
   obtain ⟨se, hse, _⟩ := Hd.out.dop hme
   have HF : Hid (SpP c N k st [x0, x1] r w we) := hse.sp (by omega)
   clear hme hse HDN
   go_wp2_with fail
   go_end0
   exact ⟨⟨_, rfl⟩, HF.out⟩
  ·have HLK : Hid (lack (st.gl.map (·.x)) st.sc (nm (c.ds.drop x0)) = [mx]) := by
    have h1 := HIX.out
    rw [decide_eq_false hz2] at h1
    unfold Hid lack bnd
    rw [← HMX.out, ← h1, HSC.out]; rfl
   have tz2 : decide (z2 < 0) = true := decide_eq_true (by omega)
   clear HIX hz2
   have e9 := (cells10 HS2.out.inv.blk).2.2.2.2.2.2.2.2.1
   obtain ⟨up, uc, huv⟩ := owns_form HS2.out.inv.ub
   rw [huv] at e9
   have hub : st.ub.length ≤ N := HS2.out.inv.len.2.2.2.1
   have HOW := mkC HS2.out.inv.ub
   have HUV := mkC huv
   have HBK := mkC HS2.out.inv.blk
   have hB : c.w0.heap.size ≤ w2.heap.size := HS2.out.inv.bel.size
   have HADD : Hid (∀ v' w3, w3.ownsRow c.w0.heap.size 34 1 v' (st.ub.length + 1) (nmC st.ub ++ [.slice mp mn mc]) → Below c.w0.heap.size w2 w3 → But w2 w3 st.ubv → (∀ k, v'.ownBlock = some k → st.ubv.ownBlock = some k ∨ w2.heap.size ≤ k) → ∃ st3, Stp c (N + 1) st w st3 (w3.setCell ⟨st.ab, 9, none⟩ v') ∧ RsP (some [mx]) st st3 ∧ st3.ab = st.ab ∧ st3.bo = st.bo) := fun v' w3 h1 h2 h3 h4 => by
    have h5 := HS2.out.inv.addUb HM.out h1 h2 h3 h4
    exact ⟨_, HS2.out.trans ⟨h5.1, h5.2, ⟨rfl, rfl, rfl, rfl, (Sm.refl st).fn, Nat.le_refl _, Nat.le_refl _, Nat.le_refl _⟩⟩, ⟨rfl, by simp⟩, rfl, rfl⟩
   obtain ⟨n, hn⟩ : ∃ n, n = st.ub.length := ⟨_, rfl⟩
   have HNN := mkC hn
   rw [← hn] at e9 hub huv
   have HOW2 : Hid (w2.ownsRow c.w0.heap.size 34 1 (.slice up n uc) n (nmC st.ub)) := by unfold Hid; have h1 := HOW.out; rw [huv, ← hn] at h1; exact h1
   clear huv hn HOW
   have ya : True := trivial
   go_wp2_with (at_builtin; refine appW_at w2 rfl (.tmp 69) (.tmp 71) 24 34 rfl _ 1 24 Tryz.underlying24 infoSl rfl (by decide) c.w0.heap.size (.slice up n uc) n (nmC st.ub) (by simp [Act.eval]) HOW2.out #[.slice mp mn mc] rfl (by simp [Value.oneCell']) (by simp [Act.eval]) (by unfold maxLen; omega) (by omega) hB ?_; intro v' w3 ho hb3 hbt hloc hsz; obtain ⟨p2, c2, hv2⟩ := owns_form ho; subst hv2; have HAD := mkC (HADD.out _ w3 (by rw [← HNN.out]; exact ho) hb3 (by rw [HUV.out, ← HNN.out]; exact hbt) (by rw [HUV.out, ← HNN.out]; exact hloc)); have q9 := (cells10 ((hbt _ (Array.getElem?_eq_some_iff.1 HBK.out).1 (owns_ne HOW2.out HBK.out (by decide))).trans HBK.out)).2.2.2.2.2.2.2.2.1; have q5 := (cells10 ((hbt _ (Array.getElem?_eq_some_iff.1 HBK.out).1 (owns_ne HOW2.out HBK.out (by decide))).trans HBK.out)).2.2.2.2.2.2.2.2.2; obtain ⟨st3, hs3, hr3, hab3, hbo3⟩ := HAD.out; have HSa : Hid (Stp c (N + 3) st w st3 (w3.setCell ⟨st.ab, 9, none⟩ (.slice p2 (n + 1) c2))) := hs3.mono (by omega); have HRa : Hid (RsP (some [mx]) st st3) := hr3; have HBa : Hid (st3.bo = st.bo) := hbo3; obtain ⟨g', o', e', _, ya⟩ := (HX.out.step HSa.out.fr).at_ (i := 1) (by simp); cases e'; simp only [List.getElem_cons_succ, List.getElem_cons_zero] at ya; have HC := mkC (exA (ab := st.ab) HE.out false _ HSa.out.inv hab3 P1.out (by have := HN.out; omega) (by have := HB.out; have := HBa.out; omega)); clear ho hb3 hbt hloc e9 hs3 hr3 hab3 hbo3 HAD HADD)
   refine HC.out.mono ?_
   rintro e wb ⟨⟨u, rfl⟩, hxb⟩
   obtain ⟨sb, hsb, habb, hfb⟩ := set_more HSa.out HRa.out HBa.out hxb
   have Hb : Hid (StM c N k st w x1 r 0 sb wb) := by unfold Hid; rw [hr.out, HLK.out]; exact hsb
   have HD := mkC (dropA (s := sb) 4 z2 1 wb Hb.out.stp.inv habb (by have := HN.out; omega))
   clear hxb hsb habb hfb HC ya
   go_wp2_with fail
   refine HD.out.mono ?_
   rintro e wc ⟨rfl, hmc⟩
   obtain ⟨sc, hsc, habc⟩ := Hb.out.emp hmc
   have Hc := mkC hsc
   have HPU := mkC (pushA (s := sc) 17 0 0 0 wc Hc.out.stp.inv habc (by have := HN.out; omega))
   clear hmc hsc habc HD
   go_wp2_with fail
   refine HPU.out.mono ?_
   rintro e wd ⟨⟨u, rfl⟩, hmd⟩
   obtain ⟨sd, hsd, habd⟩ := Hc.out.emp hmd
   have Hd := mkC hsd
   have HDN := mkC (doneA (s := sd) tail wd Hd.out.stp.inv habd (by have := HN.out; omega))
   clear hmd hsd habd HPU
   go_wp2_with fail
   refine HDN.out.mono ?_
   rintro e we ⟨⟨u, rfl⟩, hme⟩
   obtain ⟨se, hse, _⟩ := Hd.out.dop hme
   have HF : Hid (SpP c N k st [x0, x1] r w we) := hse.sp (by omega)
   clear hme hse HDN
   go_wp2_with fail
   go_end0
   exact ⟨⟨_, rfl⟩, HF.out⟩
theorem l5set_c {c : Cx} {N k : Nat} {st : St} (hE : ExC c k) (p : Option Addr) (n d : Nat) (xs : List Nat) (tail : Bool) (w : World) (h : Inv c N w st) (hx : Ix st w p n d xs) (hp : Pcs c k xs) (hN : N + sumB k (Cp.at_ c xs) + 9000 ≤ 1000000000) (hb : st.bo + sumS k (Cp.at_ c xs) ≤ 3000) :
  Calls Tryz.prog 139 #[.pointer (some ⟨st.ab, 0, none⟩), .slice p n d, .bool tail] w fun e w' => (∃ u, e = .returned u) ∧ SpP c N k st xs (setR (st.gl.map (·.x)) (rd (st.gl.map (·.x)) k) st.sc (Cp.at_ c xs)) w w' := by
 have hl := hx.len
 have hn3 : n ≤ 3000 := by
  have h1 := len_sum (Pcs.ok hp)
  rw [show (Cp.at_ c xs).length = xs.length by simp [Cp.at_]] at h1
  omega
 by_cases hn : n = 2
 ·subst hn
  match xs, hl, hx, hp, hN, hb with
  | [x0, x1], _, hx, hp, hN, hb =>
   by_cases hs : isSy (c.ds.drop x0) = true
   ·have e : setR (st.gl.map (·.x)) (rd (st.gl.map (·.x)) k) st.sc (Cp.at_ c [x0, x1]) = cat (some (lack (st.gl.map (·.x)) st.sc (nm (c.ds.drop x0)))) (rd (st.gl.map (·.x)) k st.sc (c.ds.drop x1)) := by
     simp [Cp.at_, setR, hs]
    exact l5set2_c hE p d x0 x1 tail w h hx hp hs _ e hN hb
   ·have e : setR (st.gl.map (·.x)) (rd (st.gl.map (·.x)) k) st.sc (Cp.at_ c [x0, x1]) = none := by
     simp [Cp.at_, setR, hs]
    rw [e]
    exact l5setn_c p d x0 x1 tail w h hx hp (by simpa using hs) (by omega)
 ·have e : setR (st.gl.map (·.x)) (rd (st.gl.map (·.x)) k) st.sc (Cp.at_ c xs) = none := by
   match xs, hl with
   | [], _ => rfl
   | [a], _ => rfl
   | [a, b], hl => exact absurd hl.symm hn
   | a :: b :: q :: r, _ => rfl
  rw [e]
  exact l5setw_c p n d xs tail w h hn hn3 (by omega)
theorem owN_cell {w : World} {B n cc : Nat} {p : Option Addr} {ms : List Nm} (h : w.ownsRow B 34 1 (.slice p n cc) n (nmC ms)) (hl : ms.length = n) {i : Nat} (hi : i < ms.length) : ∃ g, p = some ⟨g, 0, none⟩ ∧ g < w.heap.size ∧ w.cell? ⟨g, i, none⟩ = some (nmV (ms[i]'hi)) := by
 obtain ⟨_, _, hc⟩ := owns_cells h
 obtain ⟨g, e, h1, _, _, h4⟩ := hc (by omega)
 refine ⟨g, e, h1, ?_⟩
 rw [h4 i (by omega)]
 unfold nmC
 rw [List.getElem?_map, List.getElem?_eq_getElem hi]
 rfl
structure Ns (c : Cx) (xs : List Nat) (ms : List Nm) : Prop where
 nmi : ∀ m ∈ ms, NmI c m
 x : ms.map (·.x) = (at_ c xs).map nm
 sy : ∀ l ∈ at_ c xs, isSy l = true
 nd : (ms.map (·.x)).Nodup
theorem Ns.len {c : Cx} {xs : List Nat} {ms : List Nm} (h : Ns c xs ms) : ms.length = xs.length := by
 have := congrArg List.length h.x
 simpa [at_] using this
theorem Ns.snoc {c : Cx} {xs : List Nat} {ms : List Nm} {i : Nat} {m : Nm} (h : Ns c xs ms) (hm : NmI c m) (hx : m.x = nm (c.ds.drop i)) (hs : isSy (c.ds.drop i) = true) (hn : m.x ∉ ms.map (·.x)) : Ns c (xs ++ [i]) (ms ++ [m]) := by
 refine ⟨fun y hy => ?_, ?_, fun l hl => ?_, ?_⟩
 ·rcases List.mem_append.1 hy with h1 | h1
  ·exact h.nmi y h1
  ·rw [List.mem_singleton.1 h1]; exact hm
 ·rw [at_snoc, List.map_append, List.map_append, h.x]
  simp [hx]
 ·rw [at_snoc] at hl
  rcases List.mem_append.1 hl with h1 | h1
  ·exact h.sy l h1
  ·rw [List.mem_singleton.1 h1]; exact hs
 ·rw [List.map_append, List.nodup_append]
  refine ⟨h.nd, by simp, fun a ha b hb e => ?_⟩
  simp at hb
  subst e
  subst hb
  exact hn ha
theorem Ns.some_ {c : Cx} {xs : List Nat} {ms : List Nm} (h : Ns c xs ms) : nmsOf (at_ c xs) = some (ms.map (·.x)) := by
 unfold nmsOf
 rw [if_pos ⟨List.all_eq_true.2 h.sy, by rw [← h.x]; exact h.nd⟩, h.x]
theorem nms_nosy {c : Cx} {xs : List Nat} {i : Nat} (hi : i < xs.length) (hs : isSy (c.ds.drop (xs[i]'hi)) = false) : nmsOf (at_ c xs) = none := by
 unfold nmsOf
 rw [if_neg]
 rintro ⟨h, _⟩
 have := List.all_eq_true.1 h (c.ds.drop (xs[i]'hi)) (List.mem_map.2 ⟨_, List.getElem_mem hi, rfl⟩)
 rw [hs] at this
 cases this
theorem nms_twice {c : Cx} {xs : List Nat} {i j : Nat} (hi : i < xs.length) (hj : j < i) (he : nm (c.ds.drop (xs[j]'(by omega))) = nm (c.ds.drop (xs[i]'hi))) : nmsOf (at_ c xs) = none := by
 unfold nmsOf
 rw [if_neg]
 rintro ⟨_, h⟩
 have h1 := List.pairwise_iff_getElem.1 h j i (by simp [at_]; omega) (by simp [at_]; omega) hj
 apply h1
 simpa [at_] using he
def NaP (c : Cx) (xs : List Nat) (w w' : World) (e : Ending) : Prop := Below w.heap.size w w' ∧ ((nmsOf (at_ c xs) = none ∧ e = .returned (.tuple #[.slice none 0 0, .bool false])) ∨ ∃ (p : Option Addr) (cc : Nat) (ms : List Nm), e = .returned (.tuple #[.slice p xs.length cc, .bool true]) ∧ Ns c xs ms ∧ w'.ownsRow w.heap.size 34 1 (.slice p xs.length cc) xs.length (nmC ms))
set_option maxRecDepth 20000 in
set_option maxHeartbeats 2000000 in
theorem l5names_c {c : Cx} {N k : Nat} {st : St} (p : Option Addr) (n d : Nat) (xs : List Nat) (w : World) (h : Inv c N w st) (hx : Ix st w p n d xs) (hp : Pcs c k xs) (hn3 : n ≤ 3000) :
  Calls Tryz.prog 171 #[.pointer (some ⟨st.ab, 0, none⟩), .slice p n d] w fun e w' => NaP c xs w w' e := by
 have HI := mkC h
 have HX := mkC hx
 have HP := mkC hp
 have HL : Hid (xs.length = n) := hx.len
 have hab := (Array.getElem?_eq_some_iff.1 h.blk).1
 have hdn := h.dn
 clear h hx hp
 go_enter Tryz.func171, Tryz.ntmps171
 go_wp2_with fail
 go_loopw [6, 7] (fun ov iv wr => ∃ (i : Nat) (q : Option Addr) (qc : Nat), i ≤ n ∧ iv = .int .i64 (i : Nat) ∧ ov = .slice q i qc ∧ Hid (Below w.heap.size w wr) ∧ Hid (∃ ms, Ns c (xs.take i) ms ∧ wr.ownsRow w.heap.size 34 1 (.slice q i qc) i (nmC ms))) (fun _ iv _ => n - (intOf iv).toNat)
 case atStart => exact ⟨0, none, 0, Nat.zero_le _, rfl, rfl, Below.refl _ _, [], ⟨by simp, by simp [Cp.at_], by simp [Cp.at_], by simp⟩, nil_own _ _ _ _⟩
 case round =>
  obtain ⟨i, q, qc, hi, rfl, rfl, hB, hM⟩ := hrel
  by_cases hlt : i < n
  ·have hil : i < xs.length := by rw [HL.out]; exact hlt
   obtain ⟨g, o, rfl, hg, y00⟩ := HX.out.at_ hil
   have y0 := cell_keepC hB.out hg y00
   have HPI := mkC (HP.out _ (List.getElem_mem hil))
   have HSr := mkC (HI.out.stp hB.out)
   have HS := mkC (symA (ab := st.ab) (xs[i]'hil) wr HSr.out.inv rfl HPI.out.1)
   clear y00
   by_cases hs : isSy (c.ds.drop (xs[i]'hil)) = true
   ·rw [hs] at HS
    obtain ⟨ms, hms, how⟩ := hM.out
    obtain ⟨m, db, dof, hdp, hmx, hm, hmc⟩ := HSr.out.inv.nmAt HPI.out.1 HPI.out.2 hs
    have hxd : xs[i]'hil < c.dn := HPI.out.1
    have HMS := mkC hms
    have HOW := mkC how
    have HM := mkC hm
    have HMC := mkC hmc
    have HMX := mkC hmx
    have hml : ms.length = i := by rw [hms.len, List.length_take]; omega
    have HDP := mkC hdp
    have HTW : Hid (∀ (j : Nat) (hj : j < ms.length), (ms[j]'hj).x = m.x → nmsOf (Cp.at_ c xs) = none) := fun j hj he => by
     refine nms_twice (j := j) hil (by omega) ?_
     have h1 := congrArg (fun l => l[j]?) hms.x
     simp only [List.getElem?_map, List.getElem?_eq_getElem hj, Option.map_some, Cp.at_] at h1
     rw [List.getElem?_take_of_lt (by omega), List.getElem?_eq_getElem (show j < xs.length by omega)] at h1
     simp only [Option.map_some, Option.some.injEq] at h1
     rw [← h1, he, hmx]
    have HSN : Hid (m.x ∉ ms.map (·.x) → Ns c (xs.take (i + 1)) (ms ++ [m])) := fun hn => by
     rw [take_snoc hil]
     exact hms.snoc hm hmx hs hn
    generalize xs[i]'hil = x at y0 HS hs hxd HMC HPI hmx HMX
    clear hms how hm hmc hmx hdp
    go_wp2_with fail
    refine HS.out.mono ?_
    rintro e wx ⟨rfl, rfl⟩
    have hgx : g < wx.heap.size := Nat.lt_of_lt_of_le hg hB.out.size
    go_wp2_with fail
    go_loopw [8] (fun kv w2 => ∃ kk : Nat, kk ≤ i ∧ kv = .int .i64 (kk : Nat) ∧ Hid (Below wx.heap.size wx w2) ∧ Hid (∀ j, j < kk → (ms.map (·.x))[j]? ≠ some m.x)) (fun kv _ => i - (intOf kv).toNat)
    case atStart => exact ⟨0, Nat.zero_le _, rfl, Below.refl _ _, fun j hj => absurd hj (Nat.not_lt_zero j)⟩
    case round =>
     obtain ⟨kk, hkk, rfl, hB2, hJ⟩ := hrel
     have HBW : Hid (Below w.heap.size w wr) := hB.out.trans (hB2.out.mono hB.out.size)
     have HSW := mkC (HI.out.stp HBW.out)
     have e0 := (cells10 HSW.out.inv.blk).1
     rw [HDP.out] at e0
     have y1 := cell_keepC hB2.out hgx y0
     have y2 := HMC.out wr HSW.out.inv.bel
     by_cases hkl : kk < i
     ·have hkm : kk < ms.length := by omega
      obtain ⟨qg, rfl, hqg, yq0⟩ := owN_cell HOW.out hml hkm
      have yq := cell_keepC hB2.out hqg yq0
      have hqc : i ≤ qc := (owns_cells HOW.out).1
      have hgm := HMS.out.nmi _ (List.getElem_mem hkm)
      have hbw : Below c.w0.heap.size c.w0 wr.drew := below_drewC HSW.out.inv.bel
      have k1 := conv_nm hgm hbw
      have k2 := conv_nm HM.out hbw
      have HEQ := mkC (str_eqb HM.out.rg hgm.rg)
      have HTK := mkC (HTW.out kk hkm)
      have HXK : Hid ((ms.map (·.x))[kk]? = some (ms[kk]'hkm).x) := by unfold Hid; rw [List.getElem?_map, List.getElem?_eq_getElem hkm]; rfl
      unfold nmV at yq
      generalize ms[kk]'hkm = qm at yq k1 HEQ HXK HTK
      obtain ⟨qp, qn, qc2, qx⟩ := qm
      simp only at yq k1 HEQ HXK HTK
      obtain ⟨s1, hs1⟩ : ∃ s1, s1 = strOfNums qx := ⟨_, rfl⟩
      obtain ⟨s2, hs2⟩ : ∃ s2, s2 = strOfNums m.x := ⟨_, rfl⟩
      rw [← hs1] at k1 HEQ
      rw [← hs2] at k2 HEQ
      clear hgm hbw hs1 hs2 yq0
      by_cases hxe : qx = m.x
      ·have heq : (s1.toList == s2.toList) = true := by rw [HEQ.out]; exact decide_eq_true hxe
       clear HEQ
       go_wp2_with fail
       go_region
       all_goals go_wp2
       all_goals refine bodyPost_ret (v := .tuple #[.slice none 0 0, .bool false]) (by simp [results, Tryz.results171, go_sem]) rfl ?_
       all_goals exact ⟨below_drewC HBW.out, Or.inl ⟨HTK.out hxe, rfl⟩⟩
      ·have heq : (s1.toList == s2.toList) = false := by rw [HEQ.out]; exact decide_eq_false hxe
       clear HEQ
       go_wp2_with fail
       go_region
       all_goals go_wp2
       all_goals exact ⟨⟨kk + 1, by omega, by go_num, below_drewC hB2.out, fun j hj => by rcases (show j < kk ∨ j = kk by omega) with h1 | h1; exact hJ.out j h1; rw [h1, HXK.out]; exact fun e => hxe (Option.some.inj e)⟩, by simp [intOf]; omega⟩
     ·have HNO : Hid (m.x ∉ ms.map (·.x)) := fun hmem => by
       obtain ⟨j, hj, he⟩ := List.getElem_of_mem hmem
       refine hJ.out j (by rw [List.length_map] at hj; omega) ?_
       rw [List.getElem?_eq_getElem hj, he]
      have HOD : Hid (wr.drew.ownsRow w.heap.size 34 1 (.slice q i qc) i (nmC ms)) := owns_below HOW.out (below_drewC hB2.out)
      have hBd : w.heap.size ≤ wr.drew.heap.size := HBW.out.size
      have HF : Hid (∀ p3 c3 w3, w3.ownsRow w.heap.size 34 1 (.slice p3 (i + 1) c3) (i + 1) (nmC ms ++ [.slice m.p m.n m.c]) → Below w.heap.size wr.drew w3 → Below w.heap.size w w3 ∧ ∃ ms, Ns c (xs.take (i + 1)) ms ∧ w3.ownsRow w.heap.size 34 1 (.slice p3 (i + 1) c3) (i + 1) (nmC ms)) := fun p3 c3 w3 h1 h2 => ⟨(below_drewC HBW.out).trans h2, ms ++ [m], HSN.out HNO.out, by
       have e : nmC (ms ++ [m]) = nmC ms ++ [.slice m.p m.n m.c] := by simp [nmC, nmV]
       rw [e]; exact h1⟩
      obtain ⟨mp, mn, mc, mx⟩ := m
      simp only at y2 HF
      go_wp2_with fail
      go_region_law (refine appW_stepC wr.drew rfl (.tmp 45) (.tmp 57) 24 34 rfl _ 1 24 Tryz.underlying24 infoSl rfl (by decide) w.heap.size (.slice q i qc) i (nmC ms) ?hs HOD.out #[.slice mp mn mc] rfl (by simp [Value.oneCell']) ?hx (by unfold maxLen; omega) (by omega) hBd ?_; (case hs => first | (simp [Act.eval]; done) | (simp [Act.eval, Act.put]; done)); (case hx => first | (simp [Act.eval]; done) | (simp [Act.eval, Act.put]; done)); intro p3 c3 w3 ho3 hb3 hbt3 hloc3; have HFI := mkC (HF.out p3 c3 w3 ho3 hb3); clear ho3 hb3 hbt3 hloc3)
      all_goals go_wp2_with fail
      all_goals exact ⟨⟨i + 1, p3, c3, by omega, by go_num, rfl, HFI.out.1, HFI.out.2⟩, by simp [intOf]; omega⟩
   ·have hs' : isSy (c.ds.drop (xs[i]'hil)) = false := by simpa using hs
    rw [hs'] at HS
    have HNO := mkC (nms_nosy (c := c) hil hs')
    generalize xs[i]'hil = x at y0 HS
    clear hs hs'
    go_wp2_with fail
    refine HS.out.mono ?_
    rintro e wx ⟨rfl, rfl⟩
    go_wp2_with fail
    refine bodyPost_ret (v := .tuple #[.slice none 0 0, .bool false]) (by simp [results, Tryz.results171, go_sem]) rfl ?_
    exact ⟨hB.out, Or.inl ⟨HNO.out, rfl⟩⟩
  ·obtain rfl : i = n := by omega
   have HF : Hid (∃ (p : Option Addr) (cc : Nat) (ms : List Nm), (Ending.returned (.tuple #[.slice q i qc, .bool true]) : Ending) = .returned (.tuple #[.slice p xs.length cc, .bool true]) ∧ Ns c xs ms ∧ wr.ownsRow w.heap.size 34 1 (.slice p xs.length cc) xs.length (nmC ms)) := by
    obtain ⟨ms, h1, h2⟩ := hM.out
    rw [List.take_of_length_le (by rw [HL.out]; exact Nat.le_refl _)] at h1
    exact ⟨q, qc, ms, by rw [HL.out], h1, by rw [HL.out]; exact h2⟩
   go_wp2_with fail
   refine bodyPost_ret (v := .tuple #[.slice q i qc, .bool true]) (by simp [results, Tryz.results171, go_sem]) rfl ?_
   exact ⟨hB.out, Or.inr HF.out⟩
theorem Inv.setBo {c : Cx} {N : Nat} {w : World} {st : St} (h : Inv c N w st) (hb : st.bo + 1 ≤ st.bx.length) : Inv c N (w.setCell ⟨st.ab, 4, none⟩ (.int .i64 ((st.bo + 1 : Nat) : Int))) { st with bo := st.bo + 1 } ∧ Fr st { st with bo := st.bo + 1 } w (w.setCell ⟨st.ab, 4, none⟩ (.int .i64 ((st.bo + 1 : Nat) : Int))) := by
 have hch : ∀ k, k < w.heap.size → k ≠ st.ab → (Value.slice none 0 0).ownBlock ≠ some k → (w.setCell ⟨st.ab, 4, none⟩ (.int .i64 ((st.bo + 1 : Nat) : Int))).heap[k]? = w.heap[k]? := fun k hk h1 _ => set_keep _ h1
 obtain ⟨row, hfn, hcs⟩ := h.keepA (nil_own w _ 9 1) (by decide) (by decide) (by decide) (by decide) (by decide) (by decide) hch
 have hbel : Below c.w0.heap.size w (w.setCell ⟨st.ab, 4, none⟩ (.int .i64 ((st.bo + 1 : Nat) : Int))) := Below.setCell (Below.refl _ _) (p := ⟨st.ab, 4, none⟩) h.ab0 _
 refine ⟨⟨h.bel.trans hbel, h.dat, h.dn, h.ab0, (set_ab h.blk _).2.1, row h.gl (apt_nil _) (by decide), h.gln, row h.ub (apt_nil _) (by decide), h.ubn, h.gu, row h.bx (apt_nil _) (by decide), row h.op (apt_nil _) (by decide), hfn, h.apt, row h.cs (apt_nil _) (by decide), hcs, row h.fn (apt_nil _) (by decide), h.fxl, hb, h.b2, h.fnw, h.len⟩, by rw [set_size]; exact Nat.le_refl _, fun k hk hn => hch k hk (fun e => hn (Or.inl e)) (fun e => by cases e), fun k hk => Or.inl hk⟩
theorem Inv.addBx {c : Cx} {N : Nat} {w w2 : World} {st : St} (h : Inv c N w st) (hbo : st.bo = st.bx.length) (h3 : st.bx.length + 1 ≤ 3000) {v' : Value} {x : Bool} (ho : w2.ownsRow c.w0.heap.size 4 1 v' (st.bx.length + 1) (st.bx.map Value.bool ++ [.bool x])) (hb : Below c.w0.heap.size (w.setCell ⟨st.ab, 4, none⟩ (.int .i64 ((st.bo + 1 : Nat) : Int))) w2) (hbt : But (w.setCell ⟨st.ab, 4, none⟩ (.int .i64 ((st.bo + 1 : Nat) : Int))) w2 st.bxv) (hl : ∀ k, v'.ownBlock = some k → st.bxv.ownBlock = some k ∨ w.heap.size ≤ k) :
  Inv c N (w2.setCell ⟨st.ab, 2, none⟩ v') { st with bo := st.bo + 1, bxv := v', bx := st.bx ++ [x] } ∧ Fr st { st with bo := st.bo + 1, bxv := v', bx := st.bx ++ [x] } w (w2.setCell ⟨st.ab, 2, none⟩ v') := by
 have hab := (Array.getElem?_eq_some_iff.1 h.blk).1
 have hne := owns_ne h.bx h.blk (by decide)
 have hab1 : w2.heap[st.ab]? = some _ := (hbt _ (by rw [set_size]; exact hab) hne).trans (set_ab h.blk _).2.1
 have hch : ∀ k, k < w.heap.size → k ≠ st.ab → st.bxv.ownBlock ≠ some k → (w2.setCell ⟨st.ab, 2, none⟩ v').heap[k]? = w.heap[k]? := fun k hk h1 h2 => ((set_keep v' h1).trans (hbt k (by rw [set_size]; exact hk) (fun e => h2 e.symm))).trans (set_keep _ h1)
 obtain ⟨row, hfn, hcs⟩ := h.keepA h.bx (by decide) (by decide) (by decide) (by decide) (by decide) (by decide) hch
 have hbel : Below c.w0.heap.size w (w2.setCell ⟨st.ab, 2, none⟩ v') := Below.setCell ((Below.setCell (Below.refl _ _) (p := ⟨st.ab, 4, none⟩) h.ab0 _).trans hb) (p := ⟨st.ab, 2, none⟩) h.ab0 v'
 refine ⟨⟨h.bel.trans hbel, h.dat, h.dn, h.ab0, (set_ab hab1 v').1, row h.gl (apt_ty h.gl h.bx (by decide)) (by decide), h.gln, row h.ub (apt_ty h.ub h.bx (by decide)) (by decide), h.ubn, h.gu, ?_, row h.op (apt_ty h.op h.bx (by decide)) (by decide), hfn, h.apt, row h.cs (apt_ty h.cs h.bx (by decide)) (by decide), hcs, row h.fn (apt_ty h.fn h.bx (by decide)) (by decide), h.fxl, ?_, ?_, ?_, h.len⟩, ?_, ?_, ?_⟩
 ·show World.ownsRow _ _ _ _ v' (st.bx ++ [x]).length ((st.bx ++ [x]).map Value.bool)
  rw [List.length_append, List.map_append]
  exact owns_set ho hab1 (by decide) v'
 ·show st.bo + 1 ≤ (st.bx ++ [x]).length
  simp; omega
 ·show (st.bx ++ [x]).length ≤ 3000
  simp; omega
 ·show ∀ f ∈ st.all, FnW (st.bx ++ [x]).length N f
  exact fun f hf => (h.fnw f hf).mono (by simp) (Nat.le_refl _)
 ·rw [set_size]
  have := hb.size
  rw [set_size] at this
  exact this
 ·intro k hk hn
  exact hch k hk (fun e => hn (Or.inl e)) (fun e => hn (Or.inr (Or.inr (Or.inl e))))
 ·exact fp_of rfl rfl hl (fun k hk => Or.inl hk) (fun k hk => Or.inl hk) (fun k hk => Or.inl hk) (fun k hk => Or.inl hk)
def Fn5.addV (f : Fn5) (v' : Value) (v : Vr) : Fn5 := { f with vv := v', vs := f.vs ++ [v] }
theorem Inv.addV {c : Cx} {N : Nat} {w w2 : World} {st : St} (h : Inv c N w st) {v' : Value} {v : Vr} (hm : NmI c v.m) (hbd : v.bound < st.bx.length) (ho : w2.ownsRow c.w0.heap.size 193 3 v' (st.tp.vs.length + 1) (vrC st.tp.vs ++ [nmV v.m, .int .i64 v.slot, .int .i64 (v.bound : Nat)])) (hb : Below c.w0.heap.size w w2) (hbt : But w w2 st.tp.vv) (hl : ∀ k, v'.ownBlock = some k → st.tp.vv.ownBlock = some k ∨ w.heap.size ≤ k) :
  Inv c (N + 1) (w2.setCell ⟨st.tp.b, 0, none⟩ v') (st.top (st.tp.addV v' v)) ∧ Fr st (st.top (st.tp.addV v' v)) w (w2.setCell ⟨st.tp.b, 0, none⟩ v') := by
 have hf := h.tpI
 have hbl := (Array.getElem?_eq_some_iff.1 hf.blk).1
 have hb2 : w2.heap[st.tp.b]? = some _ := (hbt _ hbl (owns_ne hf.vars hf.blk (by decide))).trans hf.blk
 have row : ∀ {n size : Nat} {e : TypeId} {u : Value} {xs : List Value}, w2.ownsRow c.w0.heap.size e size u n xs → e ≠ 86 → (w2.setCell ⟨st.tp.b, 0, none⟩ v').ownsRow c.w0.heap.size e size u n xs := fun hv he => owns_set hv hb2 (fun e => he e.symm) v'
 refine h.putT (Below.setCell hb (p := ⟨st.tp.b, 0, none⟩) hf.b0 v') (fun k hk hn => ?_) ⟨(set_fn hb2 v').1, hf.b0, ?_, row (owns_but hf.free (apt_ty hf.free hf.vars (by decide)) hbt) (by decide), row (owns_but hf.code (apt_ty hf.code hf.vars (by decide)) hbt) (by decide), hf.clen, ?_⟩ rfl hl (fun k hk => Or.inl hk) (fun k hk => Or.inl hk) ?_ (Nat.le_succ N)
 ·have h1 : k ≠ st.tp.b := fun e => hn (Or.inl e)
  exact (set_keep _ h1).trans (hbt k hk (fun e => hn (Or.inr (Or.inl e.symm))))
 ·show World.ownsRow _ _ _ _ v' (st.tp.vs ++ [v]).length (vrC (st.tp.vs ++ [v]))
  have e : vrC (st.tp.vs ++ [v]) = vrC st.tp.vs ++ [nmV v.m, .int .i64 v.slot, .int .i64 (v.bound : Nat)] := by simp [vrC]
  rw [e, List.length_append]
  exact row ho (by decide)
 ·intro u hu
  rcases List.mem_append.1 hu with h1 | h1
  ·exact hf.nms u h1
  ·rw [List.mem_singleton.1 h1]; exact hm
 ·have hw := h.tpW
  refine ⟨fun u hu => ?_, hw.fb, hw.nd, Nat.le_succ_of_le hw.cn, ?_⟩
  ·rcases List.mem_append.1 hu with h1 | h1
   ·exact hw.vb u h1
   ·rw [List.mem_singleton.1 h1]; exact hbd
  ·show (st.tp.vs ++ [v]).length ≤ N + 1
   have := hw.vn
   simp
   omega
theorem info4C : (Tryz.prog.info? 4).map (fun i => (i.zero, i.size, i.bytes)) = some (some (.bool false), 1, 1) := by kernel_rfl
structure Bd (st st' : St) (m : Nm) (slot : Int) : Prop where
 ab : st'.ab = st.ab
 gl : st'.gl = st.gl
 glv : st'.glv = st.glv
 lo : st'.lo = st.lo
 bad : st'.bad = st.bad
 ub : st'.ub = st.ub
 bo : st'.bo = st.bo + 1
 nf : st'.nf = st.nf
 bx : st.bx.length ≤ st'.bx.length
 tp : ∃ v', st'.tp = st.tp.addV v' ⟨m, slot, st.bo⟩
set_option maxRecDepth 20000 in
set_option maxHeartbeats 2000000 in
theorem l5bind_c {c : Cx} {N : Nat} {st : St} (m : Nm) (slot : Int) (lr : Bool) (w : World) (h : Inv c N w st) (hm : NmI c m) (hN : N ≤ 1000000000) (hb : st.bo + 1 ≤ 3000) :
  Calls Tryz.prog 172 #[.pointer (some ⟨st.ab, 0, none⟩), .slice m.p m.n m.c, .int .i64 slot, .bool lr] w fun e w' => e = .returned (.int .i64 (st.bo : Nat)) ∧ ∃ st', Inv c (N + 1) w' st' ∧ Fr st st' w w' ∧ Bd st st' m slot := by
 have HI := mkC h
 have HM := mkC hm
 have e4 := (cells10 h.blk).2.2.2.1
 have ef := (cells10 h.blk).2.2.2.2.2.2.2.2.2
 obtain ⟨bp, bc, hbv⟩ := owns_form h.bx
 have e2 := (cells10 h.blk).2.2.1
 rw [hbv] at e2
 have HBV := mkC hbv
 have hb1 := h.b1
 have hb2 := h.b2
 obtain ⟨bo, hbo⟩ : ∃ bo, bo = st.bo := ⟨_, rfl⟩
 obtain ⟨bl, hbl⟩ : ∃ bl, bl = st.bx.length := ⟨_, rfl⟩
 have HBO := mkC hbo
 have HBL := mkC hbl
 rw [← hbo, ← hbl] at hb1
 rw [← hbo] at hb e4
 rw [← hbl] at hb2 e2 hbv
 rw [← hbo]
 by_cases hlt : bo < bl
 ·have t1 : decide (bl ≤ bo) = false := decide_eq_false (by omega)
  have hS := h.setBo (by omega)
  obtain ⟨W1, hW1⟩ : ∃ W1, W1 = w.setCell ⟨st.ab, 4, none⟩ (.int .i64 ((bo : Int) + 1)) := ⟨_, rfl⟩
  rw [← hbo, show ((bo + 1 : Nat) : Int) = (bo : Int) + 1 by omega, ← hW1] at hS
  obtain ⟨s1, hs1⟩ : ∃ s1 : St, s1 = { st with bo := bo + 1 } := ⟨_, rfl⟩
  rw [← hs1] at hS
  have HI1 := mkC hS.1
  have HF1 := mkC hS.2
  have HBD : Hid (∀ v', Bd st (s1.top (s1.tp.addV v' ⟨m, slot, bo⟩)) m slot) := fun v' => by
   rw [hs1, hbo]
   exact ⟨rfl, rfl, rfl, rfl, rfl, rfl, rfl, rfl, Nat.le_refl _, v', rfl⟩
  have HLT : Hid (bo < s1.bx.length) := by unfold Hid; rw [hs1]; show bo < st.bx.length; omega
  have hab1 : s1.ab = st.ab := by rw [hs1]
  have HW1 := mkC hW1
  clear h hm hS hs1 hbo hbl hbv hW1
  go_enter Tryz.func172, Tryz.ntmps172
  go_wp2_with fail
  rw [← HW1.out]
  have HT := mkC (topA (s := s1) W1 HI1.out hab1 hN)
  refine HT.out.mono ?_
  rintro e w4 ⟨rfl, hb4⟩
  have HI4 := mkC (HI1.out.below hb4).1
  have HF4 := mkC (HF1.out.trans (HI1.out.below hb4).2)
  have HT2 := mkC (topA (s := s1) w4 HI4.out hab1 hN)
  clear hb4 HT
  go_wp2_with fail
  refine HT2.out.mono ?_
  rintro e w5 ⟨rfl, hb5⟩
  have HI5 := mkC (HI4.out.below hb5).1
  have HF5 := mkC (HF4.out.trans (HI4.out.below hb5).2)
  clear hb5 HT2 HI4 HF4
  obtain ⟨vp, vc, hvv⟩ := owns_form HI5.out.tpI.vars
  have e0 := (cells5 HI5.out.tpI.blk).1
  rw [hvv] at e0
  have HOW := mkC HI5.out.tpI.vars
  have HVV := mkC hvv
  have HBK := mkC HI5.out.tpI.blk
  have hvl : s1.tp.vs.length ≤ N := HI5.out.tpW.vn
  have hB5 : c.w0.heap.size ≤ w5.heap.size := HI5.out.bel.size
  obtain ⟨vn, hvn⟩ : ∃ vn, vn = s1.tp.vs.length := ⟨_, rfl⟩
  have HVN := mkC hvn
  rw [← hvn] at e0 hvl hvv
  have HOW2 : Hid (w5.ownsRow c.w0.heap.size 193 3 (.slice vp vn vc) vn (vrC s1.tp.vs)) := by unfold Hid; have h1 := HOW.out; rw [hvv, ← hvn] at h1; exact h1
  clear hvv hvn HOW
  go_wp2_with (at_builtin; refine appW_at w5 rfl (.tmp 44) (.tmp 49) 83 193 rfl _ 3 40 Tryz.underlying83 infoVr rfl (by decide) c.w0.heap.size (.slice vp vn vc) vn (vrC s1.tp.vs) (by simp [Act.eval]) HOW2.out #[.slice m.p m.n m.c, .int .i64 slot, .int .i64 (bo : Nat)] rfl (by simp [Value.oneCell']) (by simp [Act.eval]) (by unfold maxLen; omega) (by omega) hB5 ?_; intro v' w6 ho hb6 hbt hloc hsz; obtain ⟨p2, c2, hv2⟩ := owns_form ho; subst hv2; have HFI : Hid (Inv c (N + 1) (w6.setCell ⟨s1.tp.b, 0, none⟩ (.slice p2 (vn + 1) c2)) (s1.top (s1.tp.addV (.slice p2 (vn + 1) c2) ⟨m, slot, bo⟩)) ∧ Fr s1 (s1.top (s1.tp.addV (.slice p2 (vn + 1) c2) ⟨m, slot, bo⟩)) w5 (w6.setCell ⟨s1.tp.b, 0, none⟩ (.slice p2 (vn + 1) c2))) := HI5.out.addV (v := ⟨m, slot, bo⟩) HM.out HLT.out (by rw [← HVN.out]; exact ho) hb6 (by rw [HVV.out, ← HVN.out]; exact hbt) (by rw [HVV.out, ← HVN.out]; exact hloc); have q0 := (cells5 ((hbt _ (Array.getElem?_eq_some_iff.1 HBK.out).1 (owns_ne HOW2.out HBK.out (by decide))).trans HBK.out)).1; have q5 := (cells5 ((hbt _ (Array.getElem?_eq_some_iff.1 HBK.out).1 (owns_ne HOW2.out HBK.out (by decide))).trans HBK.out)).2.2.2.2.2; clear ho hb6 hbt hloc e0)
  go_ret
  exact ⟨rfl, _, HFI.out.1, HF5.out.trans HFI.out.2, HBD.out _⟩
 ·obtain rfl : bo = bl := by omega
  have t1 : decide (bo ≤ bo) = true := decide_eq_true (Nat.le_refl _)
  obtain ⟨W0, hW0⟩ : ∃ W0, W0 = w.setCell ⟨st.ab, 4, none⟩ (.int .i64 ((bo : Int) + 1)) := ⟨_, rfl⟩
  have HW0 := mkC hW0
  have HBX : Hid (W0.ownsRow c.w0.heap.size 4 1 (.slice bp bo bc) bo (st.bx.map Value.bool)) := by
   unfold Hid
   have h1 := owns_set h.bx h.blk (by decide) (j := 4) (.int .i64 ((bo : Int) + 1))
   rw [hbv, ← hbl, ← hW0] at h1
   exact h1
  have HBK0 := mkC (set_ab h.blk (.int .i64 ((bo : Int) + 1))).2.1
  rw [← hW0] at HBK0
  have hB0 : c.w0.heap.size ≤ W0.heap.size := by rw [hW0, set_size]; exact h.bel.size
  have HADD : Hid (∀ v' w2, w2.ownsRow c.w0.heap.size 4 1 v' (bo + 1) (st.bx.map Value.bool ++ [.bool lr]) → Below c.w0.heap.size W0 w2 → But W0 w2 (.slice bp bo bc) → (∀ k, v'.ownBlock = some k → (Value.slice bp bo bc).ownBlock = some k ∨ W0.heap.size ≤ k) → Inv c N (w2.setCell ⟨st.ab, 2, none⟩ v') { st with bo := bo + 1, bxv := v', bx := st.bx ++ [lr] } ∧ Fr st { st with bo := bo + 1, bxv := v', bx := st.bx ++ [lr] } w (w2.setCell ⟨st.ab, 2, none⟩ v')) := fun v' w2 h1 h2 h3 h4 => by
   have e1 : ((st.bo + 1 : Nat) : Int) = (bo : Int) + 1 := by omega
   have h5 := HI.out.addBx (w2 := w2) (v' := v') (x := lr) (by omega) (by omega) (by rw [← hbl]; exact h1) (by rw [e1, ← hW0]; exact h2) (by rw [e1, ← hW0, HBV.out, ← hbl]; exact h3) (by rw [HBV.out, ← hbl]; rw [hW0, set_size] at h4; exact h4)
   rw [← hbo] at h5
   exact h5
  clear h hm hbv hW0 hbo hbl
  go_enter Tryz.func172, Tryz.ntmps172
  go_wp2_with (at_builtin; rw [← HW0.out]; refine appW_at W0 rfl (.tmp 32) (.tmp 34) 40 4 rfl _ 1 1 Tryz.underlying40 info4C rfl (by decide) c.w0.heap.size (.slice bp bo bc) bo (st.bx.map Value.bool) (by simp [Act.eval]) HBX.out #[.bool lr] rfl (by simp [Value.oneCell']) (by simp [Act.eval, HW0.out]) (by unfold maxLen; omega) (by omega) hB0 ?_; intro v' w3 ho hb3 hbt hloc hsz; obtain ⟨p3, c3, hv3⟩ := owns_form ho; subst hv3; have HAD := mkC (HADD.out _ w3 ho hb3 hbt hloc); have r2 := (cells10 ((hbt _ (Array.getElem?_eq_some_iff.1 HBK0.out).1 (owns_ne HBX.out HBK0.out (by decide))).trans HBK0.out)).2.2.1; have r5 := (cells10 ((hbt _ (Array.getElem?_eq_some_iff.1 HBK0.out).1 (owns_ne HBX.out HBK0.out (by decide))).trans HBK0.out)).2.2.2.2.2.2.2.2.2; clear ho hb3 hbt hloc)
  obtain ⟨W1, hW1⟩ : ∃ W1, W1 = w3.setCell ⟨st.ab, 2, none⟩ (.slice p3 (bo + 1) c3) := ⟨_, rfl⟩
  obtain ⟨s1, hs1⟩ : ∃ s1 : St, s1 = { st with bo := bo + 1, bxv := .slice p3 (bo + 1) c3, bx := st.bx ++ [lr] } := ⟨_, rfl⟩
  have hS := HAD.out
  rw [← hs1, ← hW1] at hS
  have HI1 := mkC hS.1
  have HF1 := mkC hS.2
  have HBD : Hid (∀ v', Bd st (s1.top (s1.tp.addV v' ⟨m, slot, bo⟩)) m slot) := fun v' => by
   rw [hs1, HBO.out]
   exact ⟨rfl, rfl, rfl, rfl, rfl, rfl, rfl, rfl, (show st.bx.length ≤ (st.bx ++ [lr]).length by simp), v', rfl⟩
  have HLT : Hid (bo < s1.bx.length) := by unfold Hid; rw [hs1]; show bo < (st.bx ++ [lr]).length; have := HBL.out; simp; omega
  have hab1 : s1.ab = st.ab := by rw [hs1]
  rw [← hW1]
  clear hS hs1 hW1 HAD HADD r2 r5
  have HT := mkC (topA (s := s1) W1 HI1.out hab1 hN)
  refine HT.out.mono ?_
  rintro e w4 ⟨rfl, hb4⟩
  have HI4 := mkC (HI1.out.below hb4).1
  have HF4 := mkC (HF1.out.trans (HI1.out.below hb4).2)
  have HT2 := mkC (topA (s := s1) w4 HI4.out hab1 hN)
  clear hb4 HT
  go_wp2_with fail
  refine HT2.out.mono ?_
  rintro e w5 ⟨rfl, hb5⟩
  have HI5 := mkC (HI4.out.below hb5).1
  have HF5 := mkC (HF4.out.trans (HI4.out.below hb5).2)
  clear hb5 HT2 HI4 HF4
  obtain ⟨vp, vc, hvv⟩ := owns_form HI5.out.tpI.vars
  have e0 := (cells5 HI5.out.tpI.blk).1
  rw [hvv] at e0
  have HOW := mkC HI5.out.tpI.vars
  have HVV := mkC hvv
  have HBK := mkC HI5.out.tpI.blk
  have hvl : s1.tp.vs.length ≤ N := HI5.out.tpW.vn
  have hB5 : c.w0.heap.size ≤ w5.heap.size := HI5.out.bel.size
  obtain ⟨vn, hvn⟩ : ∃ vn, vn = s1.tp.vs.length := ⟨_, rfl⟩
  have HVN := mkC hvn
  rw [← hvn] at e0 hvl hvv
  have HOW2 : Hid (w5.ownsRow c.w0.heap.size 193 3 (.slice vp vn vc) vn (vrC s1.tp.vs)) := by unfold Hid; have h1 := HOW.out; rw [hvv, ← hvn] at h1; exact h1
  clear hvv hvn HOW
  go_wp2_with (at_builtin; refine appW_at w5 rfl (.tmp 44) (.tmp 49) 83 193 rfl _ 3 40 Tryz.underlying83 infoVr rfl (by decide) c.w0.heap.size (.slice vp vn vc) vn (vrC s1.tp.vs) (by simp [Act.eval]) HOW2.out #[.slice m.p m.n m.c, .int .i64 slot, .int .i64 (bo : Nat)] rfl (by simp [Value.oneCell']) (by simp [Act.eval]) (by unfold maxLen; omega) (by omega) hB5 ?_; intro v' w6 ho hb6 hbt hloc hsz; obtain ⟨p2, c2, hv2⟩ := owns_form ho; subst hv2; have HFI : Hid (Inv c (N + 1) (w6.setCell ⟨s1.tp.b, 0, none⟩ (.slice p2 (vn + 1) c2)) (s1.top (s1.tp.addV (.slice p2 (vn + 1) c2) ⟨m, slot, bo⟩)) ∧ Fr s1 (s1.top (s1.tp.addV (.slice p2 (vn + 1) c2) ⟨m, slot, bo⟩)) w5 (w6.setCell ⟨s1.tp.b, 0, none⟩ (.slice p2 (vn + 1) c2))) := HI5.out.addV (v := ⟨m, slot, bo⟩) HM.out HLT.out (by rw [← HVN.out]; exact ho) hb6 (by rw [HVV.out, ← HVN.out]; exact hbt) (by rw [HVV.out, ← HVN.out]; exact hloc); have q0 := (cells5 ((hbt _ (Array.getElem?_eq_some_iff.1 HBK.out).1 (owns_ne HOW2.out HBK.out (by decide))).trans HBK.out)).1; have q5 := (cells5 ((hbt _ (Array.getElem?_eq_some_iff.1 HBK.out).1 (owns_ne HOW2.out HBK.out (by decide))).trans HBK.out)).2.2.2.2.2; clear ho hb6 hbt hloc e0)
  go_ret
  exact ⟨rfl, _, HFI.out.1, HF5.out.trans HFI.out.2, HBD.out _⟩
def BoP (st : St) (w w' : World) (e : Ending) : Prop := (∃ (lev : Nat) (p : Option Addr) (n cc : Nat) (s : Int) (b : Nat), e = .returned (.tuple #[.int .i64 (lev : Nat), .agg #[.slice p n cc, .int .i64 s, .int .i64 (b : Nat)]]) ∧ lev < st.all.length ∧ b < st.bx.length) ∧ Below w.heap.size w w'
set_option maxRecDepth 20000 in
set_option maxHeartbeats 4000000 in
theorem l5bound_c {c : Cx} {N : Nat} {st : St} (x : Nat) (w : World) (h : Inv c N w st) (hx : x < st.bx.length) (hN : N ≤ 1000000000) : Calls Tryz.prog 173 #[.pointer (some ⟨st.ab, 0, none⟩), .int .i64 (x : Nat)] w fun e w' => BoP st w w' e := by
 obtain ⟨W, hW⟩ : ∃ W, W = w.alloc (.cells #[.slice none 0 0, .int .i64 0, .int .i64 0] 193) := ⟨_, rfl⟩
 have HBW : Hid (Below w.heap.size w W) := by unfold Hid; rw [hW]; exact below1 w _
 have HI := mkC (h.below HBW.out).1
 have HRB : Hid (W.heap[w.heap.size]? = some (.cells #[.slice none 0 0, .int .i64 0, .int .i64 0] 193)) := by unfold Hid; rw [hW]; exact Go.Deep.blk_alloc_new _ _
 obtain ⟨g, oc, hop, hg, _, _, hcc⟩ := HI.out.opAt
 have e5 := (cells10 HI.out.blk).2.2.2.2.1
 rw [hop] at e5
 have HCC := mkC hcc
 have hlen := h.len.1
 have hl2 : st.all.length = st.lo.length + 1 := all_len st
 obtain ⟨k, hk⟩ : ∃ k, k = st.lo.length := ⟨_, rfl⟩
 rw [← hk] at e5 hl2
 have hkN : k ≤ 1000000000 := by omega
 have HWE := mkC hW
 obtain ⟨r0, r1, r2, f0, f1, f2⟩ : W.cell? ⟨w.heap.size, 0, none⟩ = some (.slice none 0 0) ∧ W.cell? ⟨w.heap.size, 1, none⟩ = some (.int .i64 0) ∧ W.cell? ⟨w.heap.size, 2, none⟩ = some (.int .i64 0) ∧ W.frozen? ⟨w.heap.size, 0, none⟩ = false ∧ W.frozen? ⟨w.heap.size, 1, none⟩ = false ∧ W.frozen? ⟨w.heap.size, 2, none⟩ = false := by
  refine ⟨?_, ?_, ?_, ?_, ?_, ?_⟩ <;> simp [World.cell?, World.frozen?, HRB.out]
 clear h hop hcc hk hW hlen
 go_enter Tryz.func173, Tryz.ntmps173
 go_wp2_with fail
 rw [← HWE.out]
 go_loop [6] (fun lv => ∃ lev : Nat, lev ≤ k + 1 ∧ lv = .int .i64 (lev : Nat)) (fun lv => k + 1 - (intOf lv).toNat)
 case atStart => exact ⟨0, Nat.zero_le _, rfl⟩
 case round =>
  obtain ⟨lev, hlv, rfl⟩ := hrel
  by_cases hlt : lev < k + 1
  ·have hlev : lev < st.all.length := by omega
   have y6 := HCC.out lev hlev
   have hfi := HI.out.fns _ (List.getElem_mem hlev)
   have hfw := HI.out.fnw _ (List.getElem_mem hlev)
   have y7 := (cells5 hfi.blk).1
   obtain ⟨vp, vc, hvv, hvc1, hvc2, hva⟩ := hfi.vrAt
   rw [hvv] at y7
   have hvn : (st.all[lev]'hlev).vs.length ≤ 1000000000 := Nat.le_trans hfw.vn hN
   have HVA := mkC hva
   have HVB := mkC hfw.vb
   clear hfi hfw hvv hva
   generalize st.all[lev]'hlev = f at y6 y7 hvn HVA HVB hvc1
   obtain ⟨n, hn⟩ : ∃ n, n = f.vs.length := ⟨_, rfl⟩
   have HN' := mkC hn
   rw [← hn] at y7 hvn hvc1
   clear hn
   go_wp2_with fail
   go_loop [8] (fun iv => ∃ j : Nat, j ≤ n ∧ iv = .int .i64 (j : Nat)) (fun iv => n - (intOf iv).toNat)
   case atStart => exact ⟨0, Nat.zero_le _, rfl⟩
   case round =>
    obtain ⟨j, hj, rfl⟩ := hrel
    by_cases hjn : j < n
    ·have hjl : j < f.vs.length := by rw [← HN'.out]; omega
     obtain ⟨vg, rfl, hvg, hvcells⟩ := HVA.out (by omega)
     obtain ⟨z0, z1, z2⟩ := hvcells j hjl
     have HQB := mkC (HVB.out _ (List.getElem_mem hjl))
     unfold nmV at z0
     generalize f.vs[j]'hjl = v at z0 z1 z2 HQB
     obtain ⟨⟨qp, qn, qc, qx⟩, qs, qb⟩ := v
     simp only at z0 z1 z2 HQB
     clear hvcells
     by_cases hxe : qb = x
     ·have heq : ((qb : Int) == (x : Int)) = true := by simp [hxe]
      clear hxe
      go_wp2_with fail
      go_region
      all_goals go_wp2
      all_goals
       have hfin : ((((W.setCell ⟨w.heap.size, 0, none⟩ (.slice qp qn qc)).setCell ⟨w.heap.size, 1, none⟩ (.int .i64 qs)).setCell ⟨w.heap.size, 2, none⟩ (.int .i64 (qb : Nat))).drew).heap[w.heap.size]? = some _ := set3 HRB.out (.slice qp qn qc) (.int .i64 qs) (.int .i64 (qb : Nat))
       have hbf : Below w.heap.size w (((W.setCell ⟨w.heap.size, 0, none⟩ (.slice qp qn qc)).setCell ⟨w.heap.size, 1, none⟩ (.int .i64 qs)).setCell ⟨w.heap.size, 2, none⟩ (.int .i64 (qb : Nat))).drew := below_drewC (Below.setCell (p := ⟨w.heap.size, 2, none⟩) (Below.setCell (p := ⟨w.heap.size, 1, none⟩) (Below.setCell (p := ⟨w.heap.size, 0, none⟩) HBW.out (Nat.le_refl _) _) (Nat.le_refl _) _) (Nat.le_refl _) _)
       generalize (((W.setCell ⟨w.heap.size, 0, none⟩ (.slice qp qn qc)).setCell ⟨w.heap.size, 1, none⟩ (.int .i64 qs)).setCell ⟨w.heap.size, 2, none⟩ (.int .i64 (qb : Nat))).drew = X at hfin hbf ⊢
       obtain ⟨c0, c1, c2, _⟩ := cells3C hfin
       exact bodyPost_ret (v := .tuple #[.int .i64 (lev : Nat), .agg #[.slice qp qn qc, .int .i64 qs, .int .i64 (qb : Nat)]]) (by simp [results, Tryz.results173, go_sem, c0, c1, c2]) rfl ⟨⟨_, _, _, _, _, _, rfl, hlev, HQB.out⟩, hbf⟩
     ·have heq : ((qb : Int) == (x : Int)) = false := by simp; omega
      clear hxe
      go_wp2_with fail
      exact ⟨⟨j + 1, by omega, by go_num⟩, by simp [intOf]; omega⟩
    ·obtain rfl : j = n := by omega
     go_wp2_with fail
     exact ⟨⟨lev + 1, by omega, by go_num⟩, by simp [intOf]; omega⟩
  ·obtain rfl : lev = k + 1 := by omega
   go_wp2_with fail
   have hfin := set3 HRB.out (.slice none 0 0) (.int .i64 0) (.int .i64 0)
   have hbf : Below w.heap.size w (((W.setCell ⟨w.heap.size, 0, none⟩ (.slice none 0 0)).setCell ⟨w.heap.size, 1, none⟩ (.int .i64 0)).setCell ⟨w.heap.size, 2, none⟩ (.int .i64 0)) := Below.setCell (p := ⟨w.heap.size, 2, none⟩) (Below.setCell (p := ⟨w.heap.size, 1, none⟩) (Below.setCell (p := ⟨w.heap.size, 0, none⟩) HBW.out (Nat.le_refl _) _) (Nat.le_refl _) _) (Nat.le_refl _) _
   generalize (((W.setCell ⟨w.heap.size, 0, none⟩ (.slice none 0 0)).setCell ⟨w.heap.size, 1, none⟩ (.int .i64 0)).setCell ⟨w.heap.size, 2, none⟩ (.int .i64 0)) = X at hfin hbf ⊢
   obtain ⟨c0, c1, c2, _⟩ := cells3C hfin
   exact bodyPost_ret (v := .tuple #[.int .i64 0, .agg #[.slice none 0 0, .int .i64 0, .int .i64 0]]) (by simp [results, Tryz.results173, go_sem, c0, c1, c2]) rfl ⟨⟨0, none, 0, 0, 0, 0, rfl, by omega, by omega⟩, hbf⟩
theorem Inv.growBx {c : Cx} {N : Nat} {w w2 : World} {st : St} (h : Inv c N w st) (h3 : st.bx.length + 1 ≤ 3000) {v' : Value} {x : Bool} (ho : w2.ownsRow c.w0.heap.size 4 1 v' (st.bx.length + 1) (st.bx.map Value.bool ++ [.bool x])) (hb : Below c.w0.heap.size w w2) (hbt : But w w2 st.bxv) (hl : ∀ k, v'.ownBlock = some k → st.bxv.ownBlock = some k ∨ w.heap.size ≤ k) :
  Stp c N st w { st with bxv := v', bx := st.bx ++ [x] } (w2.setCell ⟨st.ab, 2, none⟩ v') := by
 have hab := (Array.getElem?_eq_some_iff.1 h.blk).1
 have hne := owns_ne h.bx h.blk (by decide)
 have hab1 : w2.heap[st.ab]? = some _ := (hbt _ hab hne).trans h.blk
 have hch : ∀ k, k < w.heap.size → k ≠ st.ab → st.bxv.ownBlock ≠ some k → (w2.setCell ⟨st.ab, 2, none⟩ v').heap[k]? = w.heap[k]? := fun k hk h1 h2 => (set_keep v' h1).trans (hbt k hk (fun e => h2 e.symm))
 obtain ⟨row, hfn, hcs⟩ := h.keepA h.bx (by decide) (by decide) (by decide) (by decide) (by decide) (by decide) hch
 have hbel : Below c.w0.heap.size w (w2.setCell ⟨st.ab, 2, none⟩ v') := Below.setCell hb (p := ⟨st.ab, 2, none⟩) h.ab0 v'
 refine ⟨⟨h.bel.trans hbel, h.dat, h.dn, h.ab0, (set_ab hab1 v').1, row h.gl (apt_ty h.gl h.bx (by decide)) (by decide), h.gln, row h.ub (apt_ty h.ub h.bx (by decide)) (by decide), h.ubn, h.gu, ?_, row h.op (apt_ty h.op h.bx (by decide)) (by decide), hfn, h.apt, row h.cs (apt_ty h.cs h.bx (by decide)) (by decide), hcs, row h.fn (apt_ty h.fn h.bx (by decide)) (by decide), h.fxl, ?_, ?_, ?_, h.len⟩, ⟨?_, ?_, ?_⟩, ⟨rfl, rfl, rfl, rfl, (Sm.refl st).fn, by simp, Nat.le_refl _, Nat.le_refl _⟩⟩
 ·show World.ownsRow _ _ _ _ v' (st.bx ++ [x]).length ((st.bx ++ [x]).map Value.bool)
  rw [List.length_append, List.map_append]
  exact owns_set ho hab1 (by decide) v'
 ·show st.bo ≤ (st.bx ++ [x]).length
  have := h.b1
  simp; omega
 ·show (st.bx ++ [x]).length ≤ 3000
  simp; omega
 ·show ∀ f ∈ st.all, FnW (st.bx ++ [x]).length N f
  exact fun f hf => (h.fnw f hf).mono (by simp) (Nat.le_refl _)
 ·rw [set_size]; exact hb.size
 ·intro k hk hn
  exact hch k hk (fun e => hn (Or.inl e)) (fun e => hn (Or.inr (Or.inr (Or.inl e))))
 ·exact fp_of rfl rfl hl (fun k hk => Or.inl hk) (fun k hk => Or.inl hk) (fun k hk => Or.inl hk) (fun k hk => Or.inl hk)
theorem Inv.setBoN {c : Cx} {N : Nat} {w : World} {st : St} (h : Inv c N w st) (n : Nat) (hn1 : st.bo ≤ n) (hb : n ≤ st.bx.length) : Stp c N st w { st with bo := n } (w.setCell ⟨st.ab, 4, none⟩ (.int .i64 (n : Int))) := by
 have hch : ∀ k, k < w.heap.size → k ≠ st.ab → (Value.slice none 0 0).ownBlock ≠ some k → (w.setCell ⟨st.ab, 4, none⟩ (.int .i64 (n : Int))).heap[k]? = w.heap[k]? := fun k hk h1 _ => set_keep _ h1
 obtain ⟨row, hfn, hcs⟩ := h.keepA (nil_own w _ 9 1) (by decide) (by decide) (by decide) (by decide) (by decide) (by decide) hch
 have hbel : Below c.w0.heap.size w (w.setCell ⟨st.ab, 4, none⟩ (.int .i64 (n : Int))) := Below.setCell (Below.refl _ _) (p := ⟨st.ab, 4, none⟩) h.ab0 _
 exact ⟨⟨h.bel.trans hbel, h.dat, h.dn, h.ab0, (set_ab h.blk _).2.1, row h.gl (apt_nil _) (by decide), h.gln, row h.ub (apt_nil _) (by decide), h.ubn, h.gu, row h.bx (apt_nil _) (by decide), row h.op (apt_nil _) (by decide), hfn, h.apt, row h.cs (apt_nil _) (by decide), hcs, row h.fn (apt_nil _) (by decide), h.fxl, hb, h.b2, h.fnw, h.len⟩, ⟨by rw [set_size]; exact Nat.le_refl _, fun k hk hn => hch k hk (fun e => hn (Or.inl e)) (fun e => by cases e), fun k hk => Or.inl hk⟩, ⟨rfl, rfl, rfl, rfl, (Sm.refl st).fn, Nat.le_refl _, hn1, Nat.le_refl _⟩⟩
def Fn5.addVs (f : Fn5) (v' : Value) (us : List Vr) : Fn5 := { f with vv := v', vs := f.vs ++ us }
theorem Inv.addVs {c : Cx} {N : Nat} {w w2 : World} {st : St} (h : Inv c N w st) {v' : Value} {us : List Vr} (hm : ∀ u ∈ us, NmI c u.m) (hbd : ∀ u ∈ us, u.bound < st.bx.length) (ho : w2.ownsRow c.w0.heap.size 193 3 v' (st.tp.vs.length + us.length) (vrC st.tp.vs ++ vrC us)) (hb : Below c.w0.heap.size w w2) (hbt : But w w2 st.tp.vv) (hl : ∀ k, v'.ownBlock = some k → st.tp.vv.ownBlock = some k ∨ w.heap.size ≤ k) :
  Inv c (N + us.length) (w2.setCell ⟨st.tp.b, 0, none⟩ v') (st.top (st.tp.addVs v' us)) ∧ Fr st (st.top (st.tp.addVs v' us)) w (w2.setCell ⟨st.tp.b, 0, none⟩ v') := by
 have hf := h.tpI
 have hbl := (Array.getElem?_eq_some_iff.1 hf.blk).1
 have hb2 : w2.heap[st.tp.b]? = some _ := (hbt _ hbl (owns_ne hf.vars hf.blk (by decide))).trans hf.blk
 have row : ∀ {n size : Nat} {e : TypeId} {u : Value} {xs : List Value}, w2.ownsRow c.w0.heap.size e size u n xs → e ≠ 86 → (w2.setCell ⟨st.tp.b, 0, none⟩ v').ownsRow c.w0.heap.size e size u n xs := fun hv he => owns_set hv hb2 (fun e => he e.symm) v'
 refine h.putT (Below.setCell hb (p := ⟨st.tp.b, 0, none⟩) hf.b0 v') (fun k hk hn => ?_) ⟨(set_fn hb2 v').1, hf.b0, ?_, row (owns_but hf.free (apt_ty hf.free hf.vars (by decide)) hbt) (by decide), row (owns_but hf.code (apt_ty hf.code hf.vars (by decide)) hbt) (by decide), hf.clen, ?_⟩ rfl hl (fun k hk => Or.inl hk) (fun k hk => Or.inl hk) ?_ (Nat.le_add_right _ _)
 ·have h1 : k ≠ st.tp.b := fun e => hn (Or.inl e)
  exact (set_keep _ h1).trans (hbt k hk (fun e => hn (Or.inr (Or.inl e.symm))))
 ·show World.ownsRow _ _ _ _ v' (st.tp.vs ++ us).length (vrC (st.tp.vs ++ us))
  have e : vrC (st.tp.vs ++ us) = vrC st.tp.vs ++ vrC us := by simp [vrC]
  rw [e, List.length_append]
  exact row ho (by decide)
 ·intro u hu
  rcases List.mem_append.1 hu with h1 | h1
  ·exact hf.nms u h1
  ·exact hm u h1
 ·have hw := h.tpW
  refine ⟨fun u hu => ?_, hw.fb, hw.nd, Nat.le_trans hw.cn (Nat.le_add_right _ _), ?_⟩
  ·rcases List.mem_append.1 hu with h1 | h1
   ·exact hw.vb u h1
   ·exact hbd u h1
  ·show (st.tp.vs ++ us).length ≤ N + us.length
   have := hw.vn
   simp
   omega
def Fn5.cutV (f : Fn5) (v' : Value) (k : Nat) : Fn5 := { f with vv := v', vs := f.vs.take k }
end Cp
end Go.Proofs.YtnnpfoilojicjaaGreatDoor
