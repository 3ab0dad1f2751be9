import Derived.Test.YtnnpfoilojicjaaGreatDoorGh
namespace Go.Proofs.YtnnpfoilojicjaaGreatDoor
open Go.RowKit Ch1
namespace Cp
theorem SqP.spm {c : Cx} {N k m : Nat} {st st' : St} {w w' : World} {xs : List Nat} (h : SqP c (N + m) k st w xs st' w') (hm : m ≤ 9000) : SpP c N k st xs (allO (rd (st.gl.map (·.x)) k st.sc) (at_ c xs)) w w' := ⟨st', h.stp.mono (by omega), h.rs, h.bo⟩
set_option maxRecDepth 20000 in
set_option maxHeartbeats 2000000 in
theorem l5if2f_c {c : Cx} {N k : Nat} {st : St} (hE : ExC c k) (p : Option Addr) (d x0 x1 : Nat) (w : World) (h : Inv c N w st) (hx : Ix st w p 2 d [x0, x1]) (hp : Pcs c k [x0, x1]) (hN : N + sumB k (Cp.at_ c [x0, x1]) + 9000 ≤ 1000000000) (hb : st.bo + sumS k (Cp.at_ c [x0, x1]) ≤ 3000) :
  Calls Tryz.prog 136 #[.pointer (some ⟨st.ab, 0, none⟩), .slice p 2 d, .bool false] w fun e w' => (∃ u, e = .returned u) ∧ SpP c N k st [x0, x1] (allO (rd (st.gl.map (·.x)) k st.sc) (Cp.at_ c [x0, x1])) w w' := by
 have HE := mkC hE
 have HI := mkC h
 have HX0 := mkC hx
 obtain ⟨g, o, rfl, hg, y0⟩ := hx.at_ (i := 0) (by simp)
 simp only [List.getElem_cons_zero, Nat.add_zero] at y0
 have P0 := mkC (hp x0 (by simp))
 have P1 := mkC (hp x1 (by simp))
 have HNB : Hid (sumB k (Cp.at_ c [x0]) = bud k (c.ds.drop x0) + 10 ∧ sumB k (Cp.at_ c [x0, x1]) = bud k (c.ds.drop x0) + 10 + (bud k (c.ds.drop x1) + 10)) := by
  refine ⟨?_, ?_⟩
  ·simp [Cp.at_, sumB]
  ·simp [Cp.at_, sumB]
 have HNS : Hid (sumS k (Cp.at_ c [x0]) = sz k (c.ds.drop x0) ∧ sumS k (Cp.at_ c [x0, x1]) = sz k (c.ds.drop x0) + sz k (c.ds.drop x1)) := by
  refine ⟨?_, ?_⟩
  ·simp [Cp.at_, sumS]
  ·simp [Cp.at_, sumS]
 have HNB2 := mkC hN
 have HNS2 := mkC hb
 have HC := mkC (exA (ab := st.ab) hE false w h rfl P0.out (by have h1 := HNB.out; have h2 := HNB2.out; omega) (by have h1 := HNS.out; have h2 := HNS2.out; omega))
 clear h hx hp hE hN hb
 go_enter Tryz.func136, Tryz.ntmps136
 go_wp2_with fail
 refine HC.out.mono ?_
 rintro e w1 ⟨⟨u, rfl⟩, hx1⟩
 obtain ⟨s1, hs1, _, hab1, hf1⟩ := (SqP.nil (k := k) ⟨HI.out, Fr.refl _ _, Sm.refl _⟩ ⟨rfl, rfl, rfl⟩ : SqP c N k st w [] st w).more hx1
 have H1 : Hid (SqP c N k st w [x0] s1 w1) := hs1
 have HX1 := mkC (HX0.out.step hf1)
 have HD := mkC (dropA (s := s1) 13 0 1 w1 H1.out.stp.inv hab1 (by have h1 := HNB.out; have h2 := HNB2.out; omega))
 clear hx1 hs1 hf1 y0 HC
 go_wp2_with fail
 refine HD.out.mono ?_
 rintro e w2 ⟨rfl, s2, h2, hq2, hc2⟩
 have H2 : Hid (SqP c (N + 1) k st w [x0] s2 w2) := H1.out.emit h2 hq2
 have HX2 := mkC (HX1.out.step h2.fr)
 have HAB2 : Hid (s2.ab = st.ab) := h2.sm.ab.trans hab1
 obtain ⟨no, hno⟩ : ∃ no, no = s1.tp.cn := ⟨_, rfl⟩
 have HNO2 : Hid (no < s2.tp.cn) := by unfold Hid; omega
 rw [← hno]
 have HT := mkC (topA (s := s2) w2 H2.out.stp.inv HAB2.out (by have h1 := HNB.out; have h2 := HNB2.out; omega))
 clear h2 hq2 hc2 hno HD hab1
 go_wp2_with fail
 refine HT.out.mono ?_
 rintro e w3 ⟨rfl, hb3⟩
 have hS3 := H2.out.stp.inv.stp hb3
 have H3 : Hid (SqP c (N + 1) k st w [x0] s2 w3) := H2.out.emit (m := 0) hS3 ⟨rfl, rfl, rfl⟩
 have HX3 := mkC (HX2.out.step hS3.fr)
 have z4 := (cells5 H3.out.stp.inv.tpI.blk).2.2.2.2.1
 obtain ⟨g1, o1, e1, _, y1⟩ := HX3.out.at_ (i := 1) (by simp)
 cases e1
 simp only [List.getElem_cons_succ, List.getElem_cons_zero] at y1
 have HC1 := mkC (exA (ab := st.ab) HE.out false w3 H3.out.stp.inv HAB2.out P1.out (by have h1 := HNB.out; have h2 := HNB2.out; omega) (by have h1 := HNS.out; have h2 := HNS2.out; have h3 := H3.out.bo; omega))
 clear hb3 hS3 HT
 go_wp2_with fail
 refine HC1.out.mono ?_
 rintro e w4 ⟨⟨u, rfl⟩, hx4⟩
 obtain ⟨s4, hs4, hcn4, hab4, hf4⟩ := H3.out.more hx4
 have H4 : Hid (SqP c (N + 1) k st w [x0, x1] s4 w4) := hs4
 have HX4 := mkC (HX3.out.step hf4)
 have HAB4 := mkC hab4
 have HNO4 : Hid (no < s4.tp.cn) := by have := HNO2.out; unfold Hid; omega
 clear hx4 hs4 hcn4 hab4 hf4 z4 y1 HC1
 go_wp2_with fail
 refine (emitA _ _ _ _ w4 H4.out.stp.inv HAB4.out (by have h1 := HNB.out; have h2 := HNB2.out; omega)).mono ?_
 rintro e w5 ⟨rfl, s5, h5, hq5, hc5⟩
 have H5 : Hid (SqP c (N + 1 + 1) k st w [x0, x1] s5 w5) := H4.out.emit h5 hq5
 have HX5 := mkC (HX4.out.step h5.fr)
 have HAB5 : Hid (s5.ab = st.ab) := h5.sm.ab.trans HAB4.out
 have HNO5 : Hid (no < s5.tp.cn) := by have := HNO4.out; unfold Hid; omega
 obtain ⟨ov, hov⟩ : ∃ ov, ov = s4.tp.cn := ⟨_, rfl⟩
 have HOV5 : Hid (ov < s5.tp.cn) := by unfold Hid; omega
 rw [← hov]
 clear h5 hq5 hc5 hov
 have HA := mkC (aimA (s := s5) no w5 H5.out.stp.inv HAB5.out HNO5.out (by have h1 := HNB.out; have h2 := HNB2.out; omega))
 go_wp2_with fail
 refine HA.out.mono ?_
 rintro e w6 ⟨⟨u, rfl⟩, s6, h6, hq6⟩
 have H6 : Hid (SqP c (N + 1 + 1) k st w [x0, x1] s6 w6) := H5.out.emit (m := 0) h6 hq6
 have HX6 := mkC (HX5.out.step h6.fr)
 have HAB6 : Hid (s6.ab = st.ab) := h6.sm.ab.trans HAB5.out
 have HOV6 : Hid (ov < s6.tp.cn) := Nat.lt_of_lt_of_le HOV5.out h6.sm.tp.2.2
 have HT6 := mkC (topA (s := s6) w6 H6.out.stp.inv HAB6.out (by have h1 := HNB.out; have h2 := HNB2.out; omega))
 clear h6 hq6 HA
 go_wp2_with fail
 refine HT6.out.mono ?_
 rintro e w7 ⟨rfl, hb7⟩
 have hS7 := H6.out.stp.inv.stp hb7
 have c4 := (cells5 hS7.inv.tpI.blk).2.2.2.2.1
 have cf := (cells5 hS7.inv.tpI.blk).2.2.2.2.2
 have hS8 := hS7.trans (hS7.inv.setSl s2.tp.sl)
 obtain ⟨s8, hs8⟩ : ∃ s8, s8 = s6.top (s6.tp.slots s2.tp.sl) := ⟨_, rfl⟩
 have H8 : Hid (SqP c (N + 1 + 1) k st w [x0, x1] s8 (w7.setCell ⟨s6.tp.b, 4, none⟩ (.int .i64 s2.tp.sl))) := by unfold Hid; rw [hs8]; exact H6.out.emit (m := 0) hS8 ⟨rfl, rfl, rfl⟩
 have HX8 : Hid (Ix s8 (w7.setCell ⟨s6.tp.b, 4, none⟩ (.int .i64 s2.tp.sl)) (some ⟨g, o, none⟩) 2 d [x0, x1]) := by unfold Hid; rw [hs8]; exact HX6.out.step hS8.fr
 have HAB8 : Hid (s8.ab = st.ab) := by unfold Hid; rw [hs8]; exact HAB6.out
 have HOV8 : Hid (ov < s8.tp.cn) := by unfold Hid; rw [hs8]; exact HOV6.out
 clear hb7 hS7 hS8 hs8 HT6
 have HP2 := mkC (pushA (s := s8) 17 0 0 0 _ H8.out.stp.inv HAB8.out (by have h1 := HNB.out; have h2 := HNB2.out; omega))
 go_wp2_with fail
 refine HP2.out.mono ?_
 rintro e wa ⟨⟨u, rfl⟩, sa, ha, hqa, hca⟩
 have Ha : Hid (SqP c (N + 1 + 1 + 1) k st w [x0, x1] sa wa) := H8.out.emit ha hqa
 have HABa : Hid (sa.ab = st.ab) := ha.sm.ab.trans HAB8.out
 have HOVa : Hid (ov < sa.tp.cn) := Nat.lt_of_lt_of_le HOV8.out ha.sm.tp.2.2
 have HDN := mkC (doneA (s := sa) false wa Ha.out.stp.inv HABa.out (by have h1 := HNB.out; have h2 := HNB2.out; omega))
 clear ha hqa hca c4 cf HP2
 go_wp2_with fail
 refine HDN.out.mono ?_
 rintro e w9 ⟨⟨u, rfl⟩, s9, h9, hq9⟩
 have H9 : Hid (SqP c (N + 1 + 1 + 1 + 1) k st w [x0, x1] s9 w9) := Ha.out.emit h9 hq9
 have HAB9 : Hid (s9.ab = st.ab) := h9.sm.ab.trans HABa.out
 have HOV9 : Hid (ov < s9.tp.cn) := Nat.lt_of_lt_of_le HOVa.out h9.sm.tp.2.2
 clear h9 hq9 HDN
 have HAE := mkC (aimA (s := s9) ov w9 H9.out.stp.inv HAB9.out HOV9.out (by have h1 := HNB.out; have h2 := HNB2.out; omega))
 go_wp2_with fail
 refine HAE.out.mono ?_
 rintro e wz ⟨⟨u, rfl⟩, sE, hE9, hqE⟩
 have HF := mkC ((H9.out.emit (m := 0) hE9 hqE).spm (m := 4) (by omega))
 clear hE9 hqE
 go_wp2_with fail
 go_end0
 exact ⟨⟨_, rfl⟩, HF.out⟩
set_option maxRecDepth 20000 in
set_option maxHeartbeats 2000000 in
theorem l5if2t_c {c : Cx} {N k : Nat} {st : St} (hE : ExC c k) (p : Option Addr) (d x0 x1 : Nat) (w : World) (h : Inv c N w st) (hx : Ix st w p 2 d [x0, x1]) (hp : Pcs c k [x0, x1]) (hN : N + sumB k (Cp.at_ c [x0, x1]) + 9000 ≤ 1000000000) (hb : st.bo + sumS k (Cp.at_ c [x0, x1]) ≤ 3000) :
  Calls Tryz.prog 136 #[.pointer (some ⟨st.ab, 0, none⟩), .slice p 2 d, .bool true] w fun e w' => (∃ u, e = .returned u) ∧ SpP c N k st [x0, x1] (allO (rd (st.gl.map (·.x)) k st.sc) (Cp.at_ c [x0, x1])) w w' := by
 have HE := mkC hE
 have HI := mkC h
 have HX0 := mkC hx
 obtain ⟨g, o, rfl, hg, y0⟩ := hx.at_ (i := 0) (by simp)
 simp only [List.getElem_cons_zero, Nat.add_zero] at y0
 have P0 := mkC (hp x0 (by simp))
 have P1 := mkC (hp x1 (by simp))
 have HNB : Hid (sumB k (Cp.at_ c [x0]) = bud k (c.ds.drop x0) + 10 ∧ sumB k (Cp.at_ c [x0, x1]) = bud k (c.ds.drop x0) + 10 + (bud k (c.ds.drop x1) + 10)) := by
  refine ⟨?_, ?_⟩
  ·simp [Cp.at_, sumB]
  ·simp [Cp.at_, sumB]
 have HNS : Hid (sumS k (Cp.at_ c [x0]) = sz k (c.ds.drop x0) ∧ sumS k (Cp.at_ c [x0, x1]) = sz k (c.ds.drop x0) + sz k (c.ds.drop x1)) := by
  refine ⟨?_, ?_⟩
  ·simp [Cp.at_, sumS]
  ·simp [Cp.at_, sumS]
 have HNB2 := mkC hN
 have HNS2 := mkC hb
 have HC := mkC (exA (ab := st.ab) hE false w h rfl P0.out (by have h1 := HNB.out; have h2 := HNB2.out; omega) (by have h1 := HNS.out; have h2 := HNS2.out; omega))
 clear h hx hp hE hN hb
 go_enter Tryz.func136, Tryz.ntmps136
 go_wp2_with fail
 refine HC.out.mono ?_
 rintro e w1 ⟨⟨u, rfl⟩, hx1⟩
 obtain ⟨s1, hs1, _, hab1, hf1⟩ := (SqP.nil (k := k) ⟨HI.out, Fr.refl _ _, Sm.refl _⟩ ⟨rfl, rfl, rfl⟩ : SqP c N k st w [] st w).more hx1
 have H1 : Hid (SqP c N k st w [x0] s1 w1) := hs1
 have HX1 := mkC (HX0.out.step hf1)
 have HD := mkC (dropA (s := s1) 13 0 1 w1 H1.out.stp.inv hab1 (by have h1 := HNB.out; have h2 := HNB2.out; omega))
 clear hx1 hs1 hf1 y0 HC
 go_wp2_with fail
 refine HD.out.mono ?_
 rintro e w2 ⟨rfl, s2, h2, hq2, hc2⟩
 have H2 : Hid (SqP c (N + 1) k st w [x0] s2 w2) := H1.out.emit h2 hq2
 have HX2 := mkC (HX1.out.step h2.fr)
 have HAB2 : Hid (s2.ab = st.ab) := h2.sm.ab.trans hab1
 obtain ⟨no, hno⟩ : ∃ no, no = s1.tp.cn := ⟨_, rfl⟩
 have HNO2 : Hid (no < s2.tp.cn) := by unfold Hid; omega
 rw [← hno]
 have HT := mkC (topA (s := s2) w2 H2.out.stp.inv HAB2.out (by have h1 := HNB.out; have h2 := HNB2.out; omega))
 clear h2 hq2 hc2 hno HD hab1
 go_wp2_with fail
 refine HT.out.mono ?_
 rintro e w3 ⟨rfl, hb3⟩
 have hS3 := H2.out.stp.inv.stp hb3
 have H3 : Hid (SqP c (N + 1) k st w [x0] s2 w3) := H2.out.emit (m := 0) hS3 ⟨rfl, rfl, rfl⟩
 have HX3 := mkC (HX2.out.step hS3.fr)
 have z4 := (cells5 H3.out.stp.inv.tpI.blk).2.2.2.2.1
 obtain ⟨g1, o1, e1, _, y1⟩ := HX3.out.at_ (i := 1) (by simp)
 cases e1
 simp only [List.getElem_cons_succ, List.getElem_cons_zero] at y1
 have HC1 := mkC (exA (ab := st.ab) HE.out true w3 H3.out.stp.inv HAB2.out P1.out (by have h1 := HNB.out; have h2 := HNB2.out; omega) (by have h1 := HNS.out; have h2 := HNS2.out; have h3 := H3.out.bo; omega))
 clear hb3 hS3 HT
 go_wp2_with fail
 refine HC1.out.mono ?_
 rintro e w4 ⟨⟨u, rfl⟩, hx4⟩
 obtain ⟨s4, hs4, hcn4, hab4, hf4⟩ := H3.out.more hx4
 have H4 : Hid (SqP c (N + 1) k st w [x0, x1] s4 w4) := hs4
 have HX4 := mkC (HX3.out.step hf4)
 have HAB4 := mkC hab4
 have HNO4 : Hid (no < s4.tp.cn) := by have := HNO2.out; unfold Hid; omega
 clear hx4 hs4 hcn4 hab4 hf4 z4 y1 HC1
 obtain ⟨s5, hs5⟩ : ∃ s5, s5 = s4 := ⟨_, rfl⟩
 obtain ⟨w5, hw5⟩ : ∃ w5, w5 = w4 := ⟨_, rfl⟩
 have H5 : Hid (SqP c (N + 1 + 1) k st w [x0, x1] s5 w5) := by unfold Hid; rw [hs5, hw5]; exact H4.out.emit (m := 1) ⟨H4.out.stp.inv.mono (by omega), Fr.refl _ _, Sm.refl _⟩ ⟨rfl, rfl, rfl⟩
 have HX5 : Hid (Ix s5 w5 (some ⟨g, o, none⟩) 2 d [x0, x1]) := by unfold Hid; rw [hs5, hw5]; exact HX4.out
 have HAB5 : Hid (s5.ab = st.ab) := by unfold Hid; rw [hs5]; exact HAB4.out
 have HNO5 : Hid (no < s5.tp.cn) := by unfold Hid; rw [hs5]; exact HNO4.out
 rw [← hw5]
 clear hs5 hw5
 have HA := mkC (aimA (s := s5) no w5 H5.out.stp.inv HAB5.out HNO5.out (by have h1 := HNB.out; have h2 := HNB2.out; omega))
 go_wp2_with fail
 refine HA.out.mono ?_
 rintro e w6 ⟨⟨u, rfl⟩, s6, h6, hq6⟩
 have H6 : Hid (SqP c (N + 1 + 1) k st w [x0, x1] s6 w6) := H5.out.emit (m := 0) h6 hq6
 have HX6 := mkC (HX5.out.step h6.fr)
 have HAB6 : Hid (s6.ab = st.ab) := h6.sm.ab.trans HAB5.out
 have HT6 := mkC (topA (s := s6) w6 H6.out.stp.inv HAB6.out (by have h1 := HNB.out; have h2 := HNB2.out; omega))
 clear h6 hq6 HA
 go_wp2_with fail
 refine HT6.out.mono ?_
 rintro e w7 ⟨rfl, hb7⟩
 have hS7 := H6.out.stp.inv.stp hb7
 have c4 := (cells5 hS7.inv.tpI.blk).2.2.2.2.1
 have cf := (cells5 hS7.inv.tpI.blk).2.2.2.2.2
 have hS8 := hS7.trans (hS7.inv.setSl s2.tp.sl)
 obtain ⟨s8, hs8⟩ : ∃ s8, s8 = s6.top (s6.tp.slots s2.tp.sl) := ⟨_, rfl⟩
 have H8 : Hid (SqP c (N + 1 + 1) k st w [x0, x1] s8 (w7.setCell ⟨s6.tp.b, 4, none⟩ (.int .i64 s2.tp.sl))) := by unfold Hid; rw [hs8]; exact H6.out.emit (m := 0) hS8 ⟨rfl, rfl, rfl⟩
 have HX8 : Hid (Ix s8 (w7.setCell ⟨s6.tp.b, 4, none⟩ (.int .i64 s2.tp.sl)) (some ⟨g, o, none⟩) 2 d [x0, x1]) := by unfold Hid; rw [hs8]; exact HX6.out.step hS8.fr
 have HAB8 : Hid (s8.ab = st.ab) := by unfold Hid; rw [hs8]; exact HAB6.out
 clear hb7 hS7 hS8 hs8 HT6
 have HP2 := mkC (pushA (s := s8) 17 0 0 0 _ H8.out.stp.inv HAB8.out (by have h1 := HNB.out; have h2 := HNB2.out; omega))
 go_wp2_with fail
 refine HP2.out.mono ?_
 rintro e wa ⟨⟨u, rfl⟩, sa, ha, hqa, hca⟩
 have Ha : Hid (SqP c (N + 1 + 1 + 1) k st w [x0, x1] sa wa) := H8.out.emit ha hqa
 have HABa : Hid (sa.ab = st.ab) := ha.sm.ab.trans HAB8.out
 have HDN := mkC (doneA (s := sa) true wa Ha.out.stp.inv HABa.out (by have h1 := HNB.out; have h2 := HNB2.out; omega))
 clear ha hqa hca c4 cf HP2
 go_wp2_with fail
 refine HDN.out.mono ?_
 rintro e w9 ⟨⟨u, rfl⟩, s9, h9, hq9⟩
 have H9 : Hid (SqP c (N + 1 + 1 + 1 + 1) k st w [x0, x1] s9 w9) := Ha.out.emit h9 hq9
 have HAB9 : Hid (s9.ab = st.ab) := h9.sm.ab.trans HABa.out
 clear h9 hq9 HDN
 have HF := mkC (H9.out.spm (m := 4) (by omega))
 go_wp2_with fail
 go_end0
 exact ⟨⟨_, rfl⟩, HF.out⟩
set_option maxRecDepth 20000 in
set_option maxHeartbeats 2000000 in
theorem l5if3f_c {c : Cx} {N k : Nat} {st : St} (hE : ExC c k) (p : Option Addr) (d x0 x1 x2 : Nat) (w : World) (h : Inv c N w st) (hx : Ix st w p 3 d [x0, x1, x2]) (hp : Pcs c k [x0, x1, x2]) (hN : N + sumB k (Cp.at_ c [x0, x1, x2]) + 9000 ≤ 1000000000) (hb : st.bo + sumS k (Cp.at_ c [x0, x1, x2]) ≤ 3000) :
  Calls Tryz.prog 136 #[.pointer (some ⟨st.ab, 0, none⟩), .slice p 3 d, .bool false] w fun e w' => (∃ u, e = .returned u) ∧ SpP c N k st [x0, x1, x2] (allO (rd (st.gl.map (·.x)) k st.sc) (Cp.at_ c [x0, x1, x2])) w w' := by
 have HE := mkC hE
 have HI := mkC h
 have HX0 := mkC hx
 obtain ⟨g, o, rfl, hg, y0⟩ := hx.at_ (i := 0) (by simp)
 simp only [List.getElem_cons_zero, Nat.add_zero] at y0
 have P0 := mkC (hp x0 (by simp))
 have P1 := mkC (hp x1 (by simp))
 have P2 := mkC (hp x2 (by simp))
 have HNB : Hid (sumB k (Cp.at_ c [x0]) = bud k (c.ds.drop x0) + 10 ∧ sumB k (Cp.at_ c [x0, x1]) = bud k (c.ds.drop x0) + 10 + (bud k (c.ds.drop x1) + 10) ∧ sumB k (Cp.at_ c [x0, x1, x2]) = bud k (c.ds.drop x0) + 10 + (bud k (c.ds.drop x1) + 10) + (bud k (c.ds.drop x2) + 10)) := by
  refine ⟨?_, ?_, ?_⟩
  ·simp [Cp.at_, sumB]
  ·simp [Cp.at_, sumB]
  ·simp [Cp.at_, sumB]; omega
 have HNS : Hid (sumS k (Cp.at_ c [x0]) = sz k (c.ds.drop x0) ∧ sumS k (Cp.at_ c [x0, x1]) = sz k (c.ds.drop x0) + sz k (c.ds.drop x1) ∧ sumS k (Cp.at_ c [x0, x1, x2]) = sz k (c.ds.drop x0) + sz k (c.ds.drop x1) + sz k (c.ds.drop x2)) := by
  refine ⟨?_, ?_, ?_⟩
  ·simp [Cp.at_, sumS]
  ·simp [Cp.at_, sumS]
  ·simp [Cp.at_, sumS]; omega
 have HNB2 := mkC hN
 have HNS2 := mkC hb
 have HC := mkC (exA (ab := st.ab) hE false w h rfl P0.out (by have h1 := HNB.out; have h2 := HNB2.out; omega) (by have h1 := HNS.out; have h2 := HNS2.out; omega))
 clear h hx hp hE hN hb
 go_enter Tryz.func136, Tryz.ntmps136
 go_wp2_with fail
 refine HC.out.mono ?_
 rintro e w1 ⟨⟨u, rfl⟩, hx1⟩
 obtain ⟨s1, hs1, _, hab1, hf1⟩ := (SqP.nil (k := k) ⟨HI.out, Fr.refl _ _, Sm.refl _⟩ ⟨rfl, rfl, rfl⟩ : SqP c N k st w [] st w).more hx1
 have H1 : Hid (SqP c N k st w [x0] s1 w1) := hs1
 have HX1 := mkC (HX0.out.step hf1)
 have HD := mkC (dropA (s := s1) 13 0 1 w1 H1.out.stp.inv hab1 (by have h1 := HNB.out; have h2 := HNB2.out; omega))
 clear hx1 hs1 hf1 y0 HC
 go_wp2_with fail
 refine HD.out.mono ?_
 rintro e w2 ⟨rfl, s2, h2, hq2, hc2⟩
 have H2 : Hid (SqP c (N + 1) k st w [x0] s2 w2) := H1.out.emit h2 hq2
 have HX2 := mkC (HX1.out.step h2.fr)
 have HAB2 : Hid (s2.ab = st.ab) := h2.sm.ab.trans hab1
 obtain ⟨no, hno⟩ : ∃ no, no = s1.tp.cn := ⟨_, rfl⟩
 have HNO2 : Hid (no < s2.tp.cn) := by unfold Hid; omega
 rw [← hno]
 have HT := mkC (topA (s := s2) w2 H2.out.stp.inv HAB2.out (by have h1 := HNB.out; have h2 := HNB2.out; omega))
 clear h2 hq2 hc2 hno HD hab1
 go_wp2_with fail
 refine HT.out.mono ?_
 rintro e w3 ⟨rfl, hb3⟩
 have hS3 := H2.out.stp.inv.stp hb3
 have H3 : Hid (SqP c (N + 1) k st w [x0] s2 w3) := H2.out.emit (m := 0) hS3 ⟨rfl, rfl, rfl⟩
 have HX3 := mkC (HX2.out.step hS3.fr)
 have z4 := (cells5 H3.out.stp.inv.tpI.blk).2.2.2.2.1
 obtain ⟨g1, o1, e1, _, y1⟩ := HX3.out.at_ (i := 1) (by simp)
 cases e1
 simp only [List.getElem_cons_succ, List.getElem_cons_zero] at y1
 have HC1 := mkC (exA (ab := st.ab) HE.out false w3 H3.out.stp.inv HAB2.out P1.out (by have h1 := HNB.out; have h2 := HNB2.out; omega) (by have h1 := HNS.out; have h2 := HNS2.out; have h3 := H3.out.bo; omega))
 clear hb3 hS3 HT
 go_wp2_with fail
 refine HC1.out.mono ?_
 rintro e w4 ⟨⟨u, rfl⟩, hx4⟩
 obtain ⟨s4, hs4, hcn4, hab4, hf4⟩ := H3.out.more hx4
 have H4 : Hid (SqP c (N + 1) k st w [x0, x1] s4 w4) := hs4
 have HX4 := mkC (HX3.out.step hf4)
 have HAB4 := mkC hab4
 have HNO4 : Hid (no < s4.tp.cn) := by have := HNO2.out; unfold Hid; omega
 clear hx4 hs4 hcn4 hab4 hf4 z4 y1 HC1
 go_wp2_with fail
 refine (emitA _ _ _ _ w4 H4.out.stp.inv HAB4.out (by have h1 := HNB.out; have h2 := HNB2.out; omega)).mono ?_
 rintro e w5 ⟨rfl, s5, h5, hq5, hc5⟩
 have H5 : Hid (SqP c (N + 1 + 1) k st w [x0, x1] s5 w5) := H4.out.emit h5 hq5
 have HX5 := mkC (HX4.out.step h5.fr)
 have HAB5 : Hid (s5.ab = st.ab) := h5.sm.ab.trans HAB4.out
 have HNO5 : Hid (no < s5.tp.cn) := by have := HNO4.out; unfold Hid; omega
 obtain ⟨ov, hov⟩ : ∃ ov, ov = s4.tp.cn := ⟨_, rfl⟩
 have HOV5 : Hid (ov < s5.tp.cn) := by unfold Hid; omega
 rw [← hov]
 clear h5 hq5 hc5 hov
 have HA := mkC (aimA (s := s5) no w5 H5.out.stp.inv HAB5.out HNO5.out (by have h1 := HNB.out; have h2 := HNB2.out; omega))
 go_wp2_with fail
 refine HA.out.mono ?_
 rintro e w6 ⟨⟨u, rfl⟩, s6, h6, hq6⟩
 have H6 : Hid (SqP c (N + 1 + 1) k st w [x0, x1] s6 w6) := H5.out.emit (m := 0) h6 hq6
 have HX6 := mkC (HX5.out.step h6.fr)
 have HAB6 : Hid (s6.ab = st.ab) := h6.sm.ab.trans HAB5.out
 have HOV6 : Hid (ov < s6.tp.cn) := Nat.lt_of_lt_of_le HOV5.out h6.sm.tp.2.2
 have HT6 := mkC (topA (s := s6) w6 H6.out.stp.inv HAB6.out (by have h1 := HNB.out; have h2 := HNB2.out; omega))
 clear h6 hq6 HA
 go_wp2_with fail
 refine HT6.out.mono ?_
 rintro e w7 ⟨rfl, hb7⟩
 have hS7 := H6.out.stp.inv.stp hb7
 have c4 := (cells5 hS7.inv.tpI.blk).2.2.2.2.1
 have cf := (cells5 hS7.inv.tpI.blk).2.2.2.2.2
 have hS8 := hS7.trans (hS7.inv.setSl s2.tp.sl)
 obtain ⟨s8, hs8⟩ : ∃ s8, s8 = s6.top (s6.tp.slots s2.tp.sl) := ⟨_, rfl⟩
 have H8 : Hid (SqP c (N + 1 + 1) k st w [x0, x1] s8 (w7.setCell ⟨s6.tp.b, 4, none⟩ (.int .i64 s2.tp.sl))) := by unfold Hid; rw [hs8]; exact H6.out.emit (m := 0) hS8 ⟨rfl, rfl, rfl⟩
 have HX8 : Hid (Ix s8 (w7.setCell ⟨s6.tp.b, 4, none⟩ (.int .i64 s2.tp.sl)) (some ⟨g, o, none⟩) 3 d [x0, x1, x2]) := by unfold Hid; rw [hs8]; exact HX6.out.step hS8.fr
 have HAB8 : Hid (s8.ab = st.ab) := by unfold Hid; rw [hs8]; exact HAB6.out
 have HOV8 : Hid (ov < s8.tp.cn) := by unfold Hid; rw [hs8]; exact HOV6.out
 clear hb7 hS7 hS8 hs8 HT6
 obtain ⟨g2, o2, e2, _, y2⟩ := HX8.out.at_ (i := 2) (by simp)
 cases e2
 simp only [List.getElem_cons_succ, List.getElem_cons_zero] at y2
 have HC2 := mkC (exA (ab := st.ab) HE.out false _ H8.out.stp.inv HAB8.out P2.out (by have h1 := HNB.out; have h2 := HNB2.out; omega) (by have h1 := HNS.out; have h2 := HNS2.out; have h3 := H8.out.bo; omega))
 go_wp2_with fail
 refine HC2.out.mono ?_
 rintro e w9 ⟨⟨u, rfl⟩, hx9⟩
 obtain ⟨s9, hs9, hcn9, hab9, _⟩ := H8.out.more hx9
 have H9 : Hid (SqP c (N + 1 + 1) k st w [x0, x1, x2] s9 w9) := hs9
 have HAB9 := mkC hab9
 have HOV9 : Hid (ov < s9.tp.cn) := Nat.lt_of_lt_of_le HOV8.out hcn9
 clear hx9 hs9 hcn9 hab9 y2 c4 cf HC2
 have HAE := mkC (aimA (s := s9) ov w9 H9.out.stp.inv HAB9.out HOV9.out (by have h1 := HNB.out; have h2 := HNB2.out; omega))
 go_wp2_with fail
 refine HAE.out.mono ?_
 rintro e wz ⟨⟨u, rfl⟩, sE, hE9, hqE⟩
 have HF := mkC ((H9.out.emit (m := 0) hE9 hqE).spm (m := 2) (by omega))
 clear hE9 hqE
 go_wp2_with fail
 go_end0
 exact ⟨⟨_, rfl⟩, HF.out⟩
set_option maxRecDepth 20000 in
set_option maxHeartbeats 2000000 in
theorem l5if3t_c {c : Cx} {N k : Nat} {st : St} (hE : ExC c k) (p : Option Addr) (d x0 x1 x2 : Nat) (w : World) (h : Inv c N w st) (hx : Ix st w p 3 d [x0, x1, x2]) (hp : Pcs c k [x0, x1, x2]) (hN : N + sumB k (Cp.at_ c [x0, x1, x2]) + 9000 ≤ 1000000000) (hb : st.bo + sumS k (Cp.at_ c [x0, x1, x2]) ≤ 3000) :
  Calls Tryz.prog 136 #[.pointer (some ⟨st.ab, 0, none⟩), .slice p 3 d, .bool true] w fun e w' => (∃ u, e = .returned u) ∧ SpP c N k st [x0, x1, x2] (allO (rd (st.gl.map (·.x)) k st.sc) (Cp.at_ c [x0, x1, x2])) w w' := by
 have HE := mkC hE
 have HI := mkC h
 have HX0 := mkC hx
 obtain ⟨g, o, rfl, hg, y0⟩ := hx.at_ (i := 0) (by simp)
 simp only [List.getElem_cons_zero, Nat.add_zero] at y0
 have P0 := mkC (hp x0 (by simp))
 have P1 := mkC (hp x1 (by simp))
 have P2 := mkC (hp x2 (by simp))
 have HNB : Hid (sumB k (Cp.at_ c [x0]) = bud k (c.ds.drop x0) + 10 ∧ sumB k (Cp.at_ c [x0, x1]) = bud k (c.ds.drop x0) + 10 + (bud k (c.ds.drop x1) + 10) ∧ sumB k (Cp.at_ c [x0, x1, x2]) = bud k (c.ds.drop x0) + 10 + (bud k (c.ds.drop x1) + 10) + (bud k (c.ds.drop x2) + 10)) := by
  refine ⟨?_, ?_, ?_⟩
  ·simp [Cp.at_, sumB]
  ·simp [Cp.at_, sumB]
  ·simp [Cp.at_, sumB]; omega
 have HNS : Hid (sumS k (Cp.at_ c [x0]) = sz k (c.ds.drop x0) ∧ sumS k (Cp.at_ c [x0, x1]) = sz k (c.ds.drop x0) + sz k (c.ds.drop x1) ∧ sumS k (Cp.at_ c [x0, x1, x2]) = sz k (c.ds.drop x0) + sz k (c.ds.drop x1) + sz k (c.ds.drop x2)) := by
  refine ⟨?_, ?_, ?_⟩
  ·simp [Cp.at_, sumS]
  ·simp [Cp.at_, sumS]
  ·simp [Cp.at_, sumS]; omega
 have HNB2 := mkC hN
 have HNS2 := mkC hb
 have HC := mkC (exA (ab := st.ab) hE false w h rfl P0.out (by have h1 := HNB.out; have h2 := HNB2.out; omega) (by have h1 := HNS.out; have h2 := HNS2.out; omega))
 clear h hx hp hE hN hb
 go_enter Tryz.func136, Tryz.ntmps136
 go_wp2_with fail
 refine HC.out.mono ?_
 rintro e w1 ⟨⟨u, rfl⟩, hx1⟩
 obtain ⟨s1, hs1, _, hab1, hf1⟩ := (SqP.nil (k := k) ⟨HI.out, Fr.refl _ _, Sm.refl _⟩ ⟨rfl, rfl, rfl⟩ : SqP c N k st w [] st w).more hx1
 have H1 : Hid (SqP c N k st w [x0] s1 w1) := hs1
 have HX1 := mkC (HX0.out.step hf1)
 have HD := mkC (dropA (s := s1) 13 0 1 w1 H1.out.stp.inv hab1 (by have h1 := HNB.out; have h2 := HNB2.out; omega))
 clear hx1 hs1 hf1 y0 HC
 go_wp2_with fail
 refine HD.out.mono ?_
 rintro e w2 ⟨rfl, s2, h2, hq2, hc2⟩
 have H2 : Hid (SqP c (N + 1) k st w [x0] s2 w2) := H1.out.emit h2 hq2
 have HX2 := mkC (HX1.out.step h2.fr)
 have HAB2 : Hid (s2.ab = st.ab) := h2.sm.ab.trans hab1
 obtain ⟨no, hno⟩ : ∃ no, no = s1.tp.cn := ⟨_, rfl⟩
 have HNO2 : Hid (no < s2.tp.cn) := by unfold Hid; omega
 rw [← hno]
 have HT := mkC (topA (s := s2) w2 H2.out.stp.inv HAB2.out (by have h1 := HNB.out; have h2 := HNB2.out; omega))
 clear h2 hq2 hc2 hno HD hab1
 go_wp2_with fail
 refine HT.out.mono ?_
 rintro e w3 ⟨rfl, hb3⟩
 have hS3 := H2.out.stp.inv.stp hb3
 have H3 : Hid (SqP c (N + 1) k st w [x0] s2 w3) := H2.out.emit (m := 0) hS3 ⟨rfl, rfl, rfl⟩
 have HX3 := mkC (HX2.out.step hS3.fr)
 have z4 := (cells5 H3.out.stp.inv.tpI.blk).2.2.2.2.1
 obtain ⟨g1, o1, e1, _, y1⟩ := HX3.out.at_ (i := 1) (by simp)
 cases e1
 simp only [List.getElem_cons_succ, List.getElem_cons_zero] at y1
 have HC1 := mkC (exA (ab := st.ab) HE.out true w3 H3.out.stp.inv HAB2.out P1.out (by have h1 := HNB.out; have h2 := HNB2.out; omega) (by have h1 := HNS.out; have h2 := HNS2.out; have h3 := H3.out.bo; omega))
 clear hb3 hS3 HT
 go_wp2_with fail
 refine HC1.out.mono ?_
 rintro e w4 ⟨⟨u, rfl⟩, hx4⟩
 obtain ⟨s4, hs4, hcn4, hab4, hf4⟩ := H3.out.more hx4
 have H4 : Hid (SqP c (N + 1) k st w [x0, x1] s4 w4) := hs4
 have HX4 := mkC (HX3.out.step hf4)
 have HAB4 := mkC hab4
 have HNO4 : Hid (no < s4.tp.cn) := by have := HNO2.out; unfold Hid; omega
 clear hx4 hs4 hcn4 hab4 hf4 z4 y1 HC1
 obtain ⟨s5, hs5⟩ : ∃ s5, s5 = s4 := ⟨_, rfl⟩
 obtain ⟨w5, hw5⟩ : ∃ w5, w5 = w4 := ⟨_, rfl⟩
 have H5 : Hid (SqP c (N + 1 + 1) k st w [x0, x1] s5 w5) := by unfold Hid; rw [hs5, hw5]; exact H4.out.emit (m := 1) ⟨H4.out.stp.inv.mono (by omega), Fr.refl _ _, Sm.refl _⟩ ⟨rfl, rfl, rfl⟩
 have HX5 : Hid (Ix s5 w5 (some ⟨g, o, none⟩) 3 d [x0, x1, x2]) := by unfold Hid; rw [hs5, hw5]; exact HX4.out
 have HAB5 : Hid (s5.ab = st.ab) := by unfold Hid; rw [hs5]; exact HAB4.out
 have HNO5 : Hid (no < s5.tp.cn) := by unfold Hid; rw [hs5]; exact HNO4.out
 rw [← hw5]
 clear hs5 hw5
 have HA := mkC (aimA (s := s5) no w5 H5.out.stp.inv HAB5.out HNO5.out (by have h1 := HNB.out; have h2 := HNB2.out; omega))
 go_wp2_with fail
 refine HA.out.mono ?_
 rintro e w6 ⟨⟨u, rfl⟩, s6, h6, hq6⟩
 have H6 : Hid (SqP c (N + 1 + 1) k st w [x0, x1] s6 w6) := H5.out.emit (m := 0) h6 hq6
 have HX6 := mkC (HX5.out.step h6.fr)
 have HAB6 : Hid (s6.ab = st.ab) := h6.sm.ab.trans HAB5.out
 have HT6 := mkC (topA (s := s6) w6 H6.out.stp.inv HAB6.out (by have h1 := HNB.out; have h2 := HNB2.out; omega))
 clear h6 hq6 HA
 go_wp2_with fail
 refine HT6.out.mono ?_
 rintro e w7 ⟨rfl, hb7⟩
 have hS7 := H6.out.stp.inv.stp hb7
 have c4 := (cells5 hS7.inv.tpI.blk).2.2.2.2.1
 have cf := (cells5 hS7.inv.tpI.blk).2.2.2.2.2
 have hS8 := hS7.trans (hS7.inv.setSl s2.tp.sl)
 obtain ⟨s8, hs8⟩ : ∃ s8, s8 = s6.top (s6.tp.slots s2.tp.sl) := ⟨_, rfl⟩
 have H8 : Hid (SqP c (N + 1 + 1) k st w [x0, x1] s8 (w7.setCell ⟨s6.tp.b, 4, none⟩ (.int .i64 s2.tp.sl))) := by unfold Hid; rw [hs8]; exact H6.out.emit (m := 0) hS8 ⟨rfl, rfl, rfl⟩
 have HX8 : Hid (Ix s8 (w7.setCell ⟨s6.tp.b, 4, none⟩ (.int .i64 s2.tp.sl)) (some ⟨g, o, none⟩) 3 d [x0, x1, x2]) := by unfold Hid; rw [hs8]; exact HX6.out.step hS8.fr
 have HAB8 : Hid (s8.ab = st.ab) := by unfold Hid; rw [hs8]; exact HAB6.out
 clear hb7 hS7 hS8 hs8 HT6
 obtain ⟨g2, o2, e2, _, y2⟩ := HX8.out.at_ (i := 2) (by simp)
 cases e2
 simp only [List.getElem_cons_succ, List.getElem_cons_zero] at y2
 have HC2 := mkC (exA (ab := st.ab) HE.out true _ H8.out.stp.inv HAB8.out P2.out (by have h1 := HNB.out; have h2 := HNB2.out; omega) (by have h1 := HNS.out; have h2 := HNS2.out; have h3 := H8.out.bo; omega))
 go_wp2_with fail
 refine HC2.out.mono ?_
 rintro e w9 ⟨⟨u, rfl⟩, hx9⟩
 obtain ⟨s9, hs9, hcn9, hab9, _⟩ := H8.out.more hx9
 have H9 : Hid (SqP c (N + 1 + 1) k st w [x0, x1, x2] s9 w9) := hs9
 have HAB9 := mkC hab9
 clear hx9 hs9 hcn9 hab9 y2 c4 cf HC2
 have HF := mkC (H9.out.spm (m := 2) (by omega))
 go_wp2_with fail
 go_end0
 exact ⟨⟨_, rfl⟩, HF.out⟩
set_option maxRecDepth 20000 in
set_option maxHeartbeats 2000000 in
theorem l5if_c {c : Cx} {N k : Nat} {st : St} (hE : ExC c k) (p : Option Addr) (n d : Nat) (xs : List Nat) (tail : Bool) (w : World) (r : Option (List (List Int))) (hr : r = if xs.length = 2 ∨ xs.length = 3 then allO (rd (st.gl.map (·.x)) k st.sc) (Cp.at_ c xs) else none) (h : Inv c N w st) (hx : Ix st w p n d xs) (hp : Pcs c k xs) (hN : N + sumB k (Cp.at_ c xs) + 9000 ≤ 1000000000) (hb : st.bo + sumS k (Cp.at_ c xs) ≤ 3000) :
  Calls Tryz.prog 136 #[.pointer (some ⟨st.ab, 0, none⟩), .slice p n d, .bool tail] w fun e w' => (∃ u, e = .returned u) ∧ SpP c N k st xs r w w' := by
 have hl := hx.len
 by_cases hin : xs.length = 2 ∨ xs.length = 3
 ·rw [if_pos hin] at hr
  subst hr
  rcases hin with h2 | h3
  ·match xs, h2 with
   | [x0, x1], _ =>
    obtain rfl : 2 = n := hl
    cases tail
    ·exact l5if2f_c hE p d x0 x1 w h hx hp hN hb
    ·exact l5if2t_c hE p d x0 x1 w h hx hp hN hb
  ·match xs, h3 with
   | [x0, x1, x2], _ =>
    obtain rfl : 3 = n := hl
    cases tail
    ·exact l5if3f_c hE p d x0 x1 x2 w h hx hp hN hb
    ·exact l5if3t_c hE p d x0 x1 x2 w h hx hp hN hb
 ·rw [if_neg hin] at hr
  subst hr
  have hn3 : n ≤ 3000 := by
   have h1 := len_sum (Pcs.ok hp)
   rw [show (Cp.at_ c xs).length = xs.length by simp [Cp.at_]] at h1
   omega
  have HW := mkC (l5wrong_c tail w h (by omega))
  rw [hl] at hin
  clear h hx hp hE hN hb
  by_cases h2 : n < 2
  ·have t1 : decide ((n : Int) < 2) = true := by simp; omega
   clear hin hl
   go_enter Tryz.func136, Tryz.ntmps136
   go_wp2_with fail
   refine HW.out.mono ?_
   rintro e w1 ⟨⟨u, rfl⟩, hw1⟩
   have HF := mkC (wrong_sp (k := k) (xs := xs) hw1)
   clear hw1
   go_wp2_with fail
   refine bodyPost_ret (results_none rfl _ _ _) rfl ?_
   exact ⟨⟨_, rfl⟩, HF.out⟩
  ·have t1 : decide ((n : Int) < 2) = false := by simp; omega
   have t2 : decide ((3 : Int) < (n : Int)) = true := by simp; omega
   clear hin h2 hl
   go_enter Tryz.func136, Tryz.ntmps136
   go_wp2_with fail
   refine HW.out.mono ?_
   rintro e w1 ⟨⟨u, rfl⟩, hw1⟩
   have HF := mkC (wrong_sp (k := k) (xs := xs) hw1)
   clear hw1
   go_wp2_with fail
   refine bodyPost_ret (results_none rfl _ _ _) rfl ?_
   exact ⟨⟨_, rfl⟩, HF.out⟩
theorem boolA {c : Cx} {N ab : Nat} {s : St} (z : Int) (w : World) (h : Inv c N w s) (hab : s.ab = ab) (hN : N + 2 ≤ 1000000000) : Calls Tryz.prog 175 #[.pointer (some ⟨ab, 0, none⟩), .int .i64 z] w fun e w' => (∃ u, e = .returned u) ∧ CoP c N s w w' := by subst hab; exact l5bool_c z w h hN
theorem Inv.but {c : Cx} {N B n s : Nat} {w w' : World} {st : St} {v : Value} {xs : List Value} (h : Inv c N w st) (hb : Below c.w0.heap.size w w') (ho : w.ownsRow B 3 s v n xs) (hx : Ex st v) (hbt : But w w' v) : Inv c N w' st := by
 refine { h with bel := h.bel.trans hb, blk := ?_, gl := owns_but h.gl (apt_ty h.gl ho (by decide)) hbt, ub := owns_but h.ub (apt_ty h.ub ho (by decide)) hbt, bx := owns_but h.bx (apt_ty h.bx ho (by decide)) hbt, op := owns_but h.op (apt_ty h.op ho (by decide)) hbt, fns := ?_, cs := owns_but h.cs (apt_ty h.cs ho (by decide)) hbt, csi := ?_, fn := owns_but h.fn (apt_ty h.fn ho (by decide)) hbt }
 ·exact (hbt _ (Array.getElem?_eq_some_iff.1 h.blk).1 (fun e => hx _ e.symm (Or.inl rfl))).trans h.blk
 ·exact fun f hf => (h.fns f hf).kept (fun k e => hbt k ((h.fns f hf).lt e) (fun e2 => hx k e2.symm (Or.inr (Or.inl ⟨f, hf, e⟩))))
 ·exact fun k hk => ⟨owns_but (h.csi k hk).row (apt_ty (h.csi k hk).row ho (by decide)) hbt, fun x hx2 => ⟨owns_but ((h.csi k hk).txt x hx2).1 (apt_ty ((h.csi k hk).txt x hx2).1 ho (by decide)) hbt, ((h.csi k hk).txt x hx2).2⟩, (h.csi k hk).len⟩
structure Lw (st : St) (w : World) (B : Nat) (v : Value) (n : Nat) (ns : List Nat) : Prop where
 own : w.ownsRow B 3 1 v n (inC ns)
 ex : Ex st v
 lt : ∀ x ∈ ns, x < st.tp.cn
 len : ns.length = n
theorem Lw.nil (st : St) (w : World) (B : Nat) : Lw st w B (.slice none 0 0) 0 [] := ⟨nil_own w B 3 1, (fun _ hk => by cases hk), (fun _ h => by cases h), rfl⟩
theorem Lw.step {st st' : St} {w w' : World} {B n : Nat} {v : Value} {ns : List Nat} (h : Lw st w B v n ns) (hf : Fr st st' w w') (hc : st.tp.cn ≤ st'.tp.cn) : Lw st' w' B v n ns :=
 ⟨(Ex.keep h.own h.ex hf).1, (Ex.keep h.own h.ex hf).2, fun x hx => Nat.lt_of_lt_of_le (h.lt x hx) hc, h.len⟩
theorem Lw.stp {c : Cx} {N : Nat} {st st' : St} {w w' : World} {B n : Nat} {v : Value} {ns : List Nat} (h : Lw st w B v n ns) (hf : Stp c N st w st' w') : Lw st' w' B v n ns := h.step hf.fr hf.sm.tp.2.2
theorem Lw.snoc {c : Cx} {N B n x : Nat} {st : St} {w w' : World} {v v' : Value} {ns : List Nat} (h : Lw st w B v n ns) (hi : Inv c N w st) (hx : x < st.tp.cn) (ho : w'.ownsRow B 3 1 v' (n + 1) (inC ns ++ [.int .i64 (x : Nat)])) (hl : ∀ k, v'.ownBlock = some k → v.ownBlock = some k ∨ w.heap.size ≤ k) : Lw st w' B v' (n + 1) (ns ++ [x]) := by
 refine ⟨?_, fun k hk hp => ?_, fun y hy => ?_, by rw [List.length_append, h.len]; rfl⟩
 ·have e : inC (ns ++ [x]) = inC ns ++ [.int .i64 (x : Nat)] := by simp [inC]
  rw [e]; exact ho
 ·rcases hl k hk with h1 | h1
  ·exact h.ex k h1 hp
  ·have := (hi.fp_lt hp).1; omega
 ·rcases List.mem_append.1 hy with h1 | h1
  ·exact h.lt y h1
  ·rw [List.mem_singleton.1 h1]; exact hx
theorem Lw.cell {st : St} {w : World} {B n : Nat} {p : Option Addr} {cc : Nat} {ns : List Nat} (h : Lw st w B (.slice p n cc) n ns) {i : Nat} (hi : i < ns.length) : ∃ g, p = some ⟨g, 0, none⟩ ∧ n ≤ cc ∧ w.cell? ⟨g, i, none⟩ = some (.int .i64 ((ns[i]'hi : Nat) : Int)) := by
 have hl := h.len
 subst hl
 have ho : OwI w B (.slice p ns.length cc) ns := h.own
 obtain ⟨p', c', e, h2, _, h4⟩ := ho.form
 cases e
 obtain ⟨g, e, _, _, h5⟩ := h4 (by omega)
 refine ⟨g, e, h2, ?_⟩
 rw [h5 i hi, List.getD_eq_getElem?_getD, List.getElem?_eq_getElem hi]
 rfl
theorem SqP.own {c : Cx} {N k n : Nat} {st s1 : St} {w w1 w2 : World} {xs ns : List Nat} {v : Value} (h : SqP c N k st w xs s1 w1) (hL : Lw s1 w1 w.heap.size v n ns) (h0 : c.w0.heap.size ≤ w.heap.size) (hb : Below w.heap.size w1 w2) (hbt : But w1 w2 v) : SqP c N k st w xs s1 w2 := by
 refine ⟨⟨h.stp.inv.but (hb.mono h0) hL.own hL.ex hbt, ⟨Nat.le_trans h.stp.fr.size hb.size, fun j hj hn => ?_, h.stp.fr.foot⟩, h.stp.sm⟩, h.rs, h.bo⟩
 rw [hb.block j hj]
 exact h.stp.fr.keep j hj hn
theorem SqP.cop {c : Cx} {N k : Nat} {st s1 : St} {w w1 w2 : World} {xs : List Nat} (h : SqP c N k st w xs s1 w1) (hx : CoP c (N + sumB k (at_ c xs)) s1 w1 w2) : ∃ s2, SqP c (N + 2) k st w xs s2 w2 ∧ s2.ab = st.ab ∧ s1.tp.cn ≤ s2.tp.cn := by
 obtain ⟨s2, h1, h2⟩ := hx
 exact ⟨s2, h.emit h1 h2, h1.sm.ab.trans h.stp.sm.ab, h1.sm.tp.2.2⟩
theorem SqP.dop {c : Cx} {N k : Nat} {st s1 : St} {w w1 w2 : World} {xs : List Nat} (h : SqP c N k st w xs s1 w1) (hx : DoP c (N + sumB k (at_ c xs)) s1 w1 w2) : ∃ s2, SqP c (N + 1) k st w xs s2 w2 ∧ s2.ab = st.ab ∧ s1.tp.cn ≤ s2.tp.cn := by
 obtain ⟨s2, h1, h2⟩ := hx
 exact ⟨s2, h.emit h1 h2, h1.sm.ab.trans h.stp.sm.ab, h1.sm.tp.2.2⟩
theorem SqP.emp {c : Cx} {N k : Nat} {st s1 : St} {w w1 w2 : World} {xs : List Nat} (h : SqP c N k st w xs s1 w1) (hx : EmP c (N + sumB k (at_ c xs)) s1 w1 w2) : ∃ s2, SqP c (N + 1) k st w xs s2 w2 ∧ s2.ab = st.ab ∧ s2.tp.cn = s1.tp.cn + 1 ∧ Stp c (N + sumB k (at_ c xs) + 1) s1 w1 s2 w2 := by
 obtain ⟨s2, h1, h2, h3⟩ := hx
 exact ⟨s2, h.emit h1 h2, h1.sm.ab.trans h.stp.sm.ab, h3, h1⟩
set_option maxRecDepth 20000 in
set_option maxHeartbeats 1000000 in
theorem l5and0_c {c : Cx} {N k : Nat} {st : St} (p : Option Addr) (d : Nat) (tail : Bool) (w : World) (h : Inv c N w st) (hN : N + 9000 ≤ 1000000000) :
  Calls Tryz.prog 141 #[.pointer (some ⟨st.ab, 0, none⟩), .slice p 0 d, .bool tail] w fun e w' => (∃ u, e = .returned u) ∧ SpP c N k st [] (some []) w w' := by
 have H0 : Hid (SqP c N k st w [] st w) := SqP.nil ⟨h, Fr.refl _ _, Sm.refl _⟩ ⟨rfl, rfl, rfl⟩
 have HB := mkC (boolA (ab := st.ab) 1 w H0.out.stp.inv rfl (by simp [Cp.at_, sumB]; omega))
 clear h
 go_enter Tryz.func141, Tryz.ntmps141
 go_wp2_with fail
 refine HB.out.mono ?_
 rintro e w1 ⟨⟨u, rfl⟩, hc⟩
 obtain ⟨s1, hs1, hab1, _⟩ := H0.out.cop hc
 have H1 := mkC hs1
 have HD := mkC (doneA (s := s1) tail w1 H1.out.stp.inv hab1 (by simp [Cp.at_, sumB]; omega))
 clear hc hs1 hab1 HB
 go_wp2_with fail
 refine HD.out.mono ?_
 rintro e w2 ⟨⟨u, rfl⟩, hd⟩
 have HF : Hid (SpP c N k st [] (some []) w w2) := by
  obtain ⟨s2, hs2, _⟩ := H1.out.dop hd
  exact (show SqP c (N + 3) k st w [] s2 w2 from hs2).spm (by omega)
 clear hd HD
 go_wp2_with fail
 refine bodyPost_ret (results_none rfl _ _ _) rfl ?_
 exact ⟨⟨_, rfl⟩, HF.out⟩
set_option maxRecDepth 20000 in
set_option maxHeartbeats 2000000 in
theorem l5and1f_c {c : Cx} {N k : Nat} {st : St} (hE : ExC c k) (p : Option Addr) (m d : Nat) (xs : List Nat) (w : World) (h : Inv c N w st) (hx : Ix st w p (m + 1) d xs) (hp : Pcs c k xs) (hN : N + sumB k (Cp.at_ c xs) + 9000 ≤ 1000000000) (hb : st.bo + sumS k (Cp.at_ c xs) ≤ 3000) :
  Calls Tryz.prog 141 #[.pointer (some ⟨st.ab, 0, none⟩), .slice p (m + 1 : Nat) d, .bool false] w fun e w' => (∃ u, e = .returned u) ∧ SpP c N k st xs (allO (rd (st.gl.map (·.x)) k st.sc) (Cp.at_ c xs)) w w' := by
 have HE := mkC hE
 have HI := mkC h
 have HX := mkC hx
 have HP := mkC hp
 have HN := mkC hN
 have HB := mkC hb
 have hn3 : m + 1 ≤ 3000 := by
  have h1 := len_sum (Pcs.ok hp)
  have h2 := hx.len
  rw [show (Cp.at_ c xs).length = xs.length by simp [Cp.at_]] at h1
  omega
 have HL : Hid (xs.length = m + 1) := hx.len
 have HW0 : Hid (c.w0.heap.size ≤ w.heap.size) := h.bel.size
 have hw1 : IntKind.i64.wrap (((m + 1 : Nat) : Int) - 1) = (m : Int) := by rw [show ((m + 1 : Nat) : Int) - 1 = (m : Int) by omega]; simp [IntKind.wrap, IntKind.bits, IntKind.signed]; omega
 have t0 : ((m : Int) + 1 == 0) = false := by simp; omega
 obtain ⟨g, o, rfl, hg, hy00⟩ := hx.at_ (i := 0) (by rw [hx.len]; omega)
 clear hy00 h hx hp hE hN hb
 go_enter Tryz.func141, Tryz.ntmps141
 go_wp2_with fail
 go_loopw [7, 8] (fun nv iv wr => ∃ (i : Nat) (q : Option Addr) (qc : Nat), i ≤ m ∧ iv = .int .i64 (i : Nat) ∧ nv = .slice q i qc ∧ Hid (∃ s1 ns, SqP c N k st w (xs.take i) s1 wr ∧ Lw s1 wr w.heap.size (.slice q i qc) i ns)) (fun _ iv _ => m - (intOf iv).toNat)
 case atStart => exact ⟨0, none, 0, Nat.zero_le _, rfl, rfl, st, [], SqP.nil ⟨HI.out, Fr.refl _ _, Sm.refl _⟩ ⟨rfl, rfl, rfl⟩, Lw.nil _ _ _⟩
 case round =>
  obtain ⟨i, q, qc, hi, rfl, rfl, hS⟩ := hrel
  obtain ⟨s1, ns, hs1, hL1⟩ := hS.out
  have hil : i < xs.length := by rw [HL.out]; omega
  by_cases hlt : i < m
  ·obtain ⟨g', o', e, _, y0⟩ := (HX.out.step hs1.stp.fr).at_ hil
   cases e
   have HS1 := mkC hs1
   have HL1 := mkC hL1
   have HC := mkC (hs1.next HE.out HP.out hil (by have := HN.out; omega) HB.out false)
   have HSM := mkC (sums_at (c := c) (k := k) hil)
   have HTK := mkC (take_snoc hil)
   generalize xs[i]'hil = x at y0 HC HSM HTK
   clear hs1 hL1
   go_wp2_with fail
   refine HC.out.mono ?_
   rintro e w2 ⟨⟨u, rfl⟩, s2, h4, h5, h6⟩
   have HX2 := mkC (And.intro h4 (And.intro h5 h6))
   have HL2 := mkC (HL1.out.stp h4)
   have hab2 : s2.ab = st.ab := h4.sm.ab.trans HS1.out.stp.sm.ab
   have HD := mkC (dropA (s := s2) 13 0 1 w2 h4.inv hab2 (by have := HSM.out.1; have := HN.out; omega))
   clear h4 h5 h6 y0 hab2 HC
   go_wp2_with (first | (go_at_call 44; refine HD.out.mono ?_; rintro e w3 ⟨rfl, s3, h7, h8, h9⟩; have HS3 : Hid (SqP c N k st w (xs.take (i + 1)) s3 w3) := (by unfold Hid; rw [HTK.out]; exact HS1.out.snoc HX2.out (h7.mono (by omega)) h8); have HL3 := mkC (HL2.out.stp h7); have HC3 : Hid (s2.tp.cn < s3.tp.cn) := (by unfold Hid; omega); have HOW := mkC HL3.out.own; have HB3 : w.heap.size ≤ w3.heap.size := HS3.out.stp.fr.size; clear h7 h8 h9; generalize s2.tp.cn = pl at HC3) | (at_builtin; refine appW_at w3 rfl (.tmp 33) (.tmp 36) 77 3 rfl _ 1 8 Tryz.underlying77 info3C rfl (by decide) w.heap.size (.slice q i qc) i (inC ns) (by simp [Act.eval]) HOW.out #[.int .i64 (pl : Nat)] rfl (by simp [Value.oneCell']) (by simp [Act.eval]) (by unfold maxLen; omega) (by omega) HB3 ?_; intro v' w4 ho hb4 hbt hloc hsz; obtain ⟨p2, c2, hv2⟩ := owns_form ho; subst hv2; have HF : Hid (∃ s1 ns, SqP c N k st w (xs.take (i + 1)) s1 w4 ∧ Lw s1 w4 w.heap.size (.slice p2 (i + 1) c2) (i + 1) ns) := ⟨s3, ns ++ [pl], HS3.out.own HL3.out HW0.out hb4 hbt, HL3.out.snoc HS3.out.stp.inv HC3.out ho hloc⟩; clear ho hb4 hbt hloc))
   exact ⟨⟨i + 1, p2, c2, by omega, by go_num, rfl, HF.out⟩, by simp [intOf]; omega⟩
  ·obtain rfl : i = m := by omega
   have HS1 := mkC hs1
   have HL1 := mkC hL1
   have HSM := mkC (sums_at (c := c) (k := k) hil)
   have HTK : Hid (xs.take i ++ [xs[i]'hil] = xs) := by
    unfold Hid
    rw [← take_snoc hil, List.take_of_length_le (by rw [HL.out]; exact Nat.le_refl _)]
   have HT := mkC (topA (ab := st.ab) wr hs1.stp.inv hs1.stp.sm.ab (by have := HSM.out.1; have := HN.out; omega))
   clear hs1 hL1
   go_wp2_with fail
   refine HT.out.mono ?_
   rintro e w1 ⟨rfl, hb1⟩
   have hS1 := HS1.out.stp.inv.stp hb1
   have H1 : Hid (SqP c N k st w (xs.take i) s1 w1) := HS1.out.emit (m := 0) hS1 ⟨rfl, rfl, rfl⟩
   have HL2 := mkC (HL1.out.stp hS1)
   have z4 := (cells5 hS1.inv.tpI.blk).2.2.2.2.1
   obtain ⟨g', o', e, _, y0⟩ := (HX.out.step H1.out.stp.fr).at_ hil
   cases e
   have HC := mkC (H1.out.next HE.out HP.out hil (by have := HN.out; omega) HB.out false)
   generalize xs[i]'hil = x at y0 HC HSM HTK
   obtain ⟨sl0, hsl0⟩ : ∃ sl0, sl0 = s1.tp.sl := ⟨_, rfl⟩
   rw [← hsl0] at z4
   clear hb1 hS1 HT hsl0
   go_wp2_with fail
   refine HC.out.mono ?_
   rintro e w2 ⟨⟨u, rfl⟩, hx2⟩
   have hx2' := hx2
   obtain ⟨s2, hs2, hcn2, hab2, hf2⟩ := H1.out.more hx2
   rw [HTK.out] at hs2
   have H2 : Hid (SqP c N k st w xs s2 w2) := hs2
   have HL3 := mkC (HL2.out.step hf2 hcn2)
   have HAB2 := mkC hab2
   clear hx2 hx2' hs2 hcn2 hab2 hf2 z4 y0 HC
   by_cases hm0 : i = 0
   ·have t1 : ((i : Int) + 1 == 1) = true := by simp; omega
    have HF := mkC H2.out.sp
    go_wp2_with fail
    refine bodyPost_ret (results_none rfl _ _ _) rfl ?_
    exact ⟨⟨_, rfl⟩, HF.out⟩
   ·have t1 : ((i : Int) + 1 == 1) = false := by simp; omega
    have HM := fun a => mkC (emitA (ab := st.ab) 12 0 0 a w2 H2.out.stp.inv HAB2.out (by have := HN.out; omega))
    go_wp2_with fail
    refine (HM _).out.mono ?_
    rintro e w3 ⟨rfl, hm3⟩
    obtain ⟨s3, hs3, hab3, hcn3, hst3⟩ := H2.out.emp hm3
    obtain ⟨ov, hov⟩ : ∃ ov, ov = s2.tp.cn := ⟨_, rfl⟩
    have HV3 : Hid (∃ s3, SqP c (N + 1) k st w xs s3 w3 ∧ Lw s3 w3 w.heap.size (.slice q i qc) i ns ∧ ov < s3.tp.cn) := ⟨s3, hs3, HL3.out.stp hst3, by omega⟩
    rw [← hov]
    clear hm3 hs3 hab3 hcn3 hst3 hov HM
    go_wp2_with fail
    go_loopw [11] (fun jv wr => ∃ j : Nat, j ≤ i ∧ jv = .int .i64 (j : Nat) ∧ Hid (∃ s3, SqP c (N + 1) k st w xs s3 wr ∧ Lw s3 wr w.heap.size (.slice q i qc) i ns ∧ ov < s3.tp.cn)) (fun jv _ => i - (intOf jv).toNat)
    case atStart => exact ⟨0, Nat.zero_le _, rfl, HV3.out⟩
    case round =>
     obtain ⟨j, hj, rfl, hV⟩ := hrel
     obtain ⟨s3, hs3, hL3, hov3⟩ := hV.out
     by_cases hjl : j < i
     ·have hjn : j < ns.length := by rw [hL3.len]; exact hjl
      obtain ⟨qg, rfl, hqc, y7⟩ := hL3.cell hjn
      have HA := mkC (aimA (ab := st.ab) (ns[j]'hjn) wr hs3.stp.inv hs3.stp.sm.ab (hL3.lt _ (List.getElem_mem hjn)) (by have := HN.out; omega))
      have HS3 := mkC (And.intro hs3 (And.intro hL3 hov3))
      generalize ns[j]'hjn = pl at y7 HA
      clear hs3 hL3 hov3
      go_wp2_with fail
      refine HA.out.mono ?_
      rintro e w5 ⟨⟨u, rfl⟩, s5, h5, hq5⟩
      have HF : Hid (∃ s3, SqP c (N + 1) k st w xs s3 w5 ∧ Lw s3 w5 w.heap.size (.slice (some ⟨qg, 0, none⟩) i qc) i ns ∧ ov < s3.tp.cn) := ⟨s5, HS3.out.1.emit (m := 0) h5 hq5, HS3.out.2.1.stp h5, Nat.lt_of_lt_of_le HS3.out.2.2 h5.sm.tp.2.2⟩
      clear h5 hq5 y7 HA
      go_wp2_with fail
      exact ⟨⟨j + 1, by omega, by go_num, HF.out⟩, by simp [intOf]; omega⟩
     ·obtain rfl : j = i := by omega
      have H3 := mkC hs3
      have HAB3 : Hid (s3.ab = st.ab) := hs3.stp.sm.ab
      have HOV3 := mkC hov3
      have HT3 := mkC (topA (s := s3) wr H3.out.stp.inv HAB3.out (by have := HN.out; omega))
      clear hs3 hL3 hov3
      go_wp2_with fail
      refine HT3.out.mono ?_
      rintro e w7 ⟨rfl, hb7⟩
      have hS7 := H3.out.stp.inv.stp hb7
      have c4 := (cells5 hS7.inv.tpI.blk).2.2.2.2.1
      have cf := (cells5 hS7.inv.tpI.blk).2.2.2.2.2
      have hS8 := hS7.trans (hS7.inv.setSl sl0)
      obtain ⟨s8, hs8⟩ : ∃ s8, s8 = s3.top (s3.tp.slots sl0) := ⟨_, rfl⟩
      have H8 : Hid (SqP c (N + 1) k st w xs s8 (w7.setCell ⟨s3.tp.b, 4, none⟩ (.int .i64 sl0))) := by unfold Hid; rw [hs8]; exact H3.out.emit (m := 0) hS8 ⟨rfl, rfl, rfl⟩
      have HAB8 : Hid (s8.ab = st.ab) := by unfold Hid; rw [hs8]; exact HAB3.out
      have HOV8 : Hid (ov < s8.tp.cn) := by unfold Hid; rw [hs8]; exact HOV3.out
      have HBO := mkC (boolA (s := s8) 0 _ H8.out.stp.inv HAB8.out (by have := HN.out; omega))
      clear hb7 hS7 hS8 hs8 HT3
      go_wp2_with fail
      refine HBO.out.mono ?_
      rintro e w9 ⟨⟨u, rfl⟩, hc9⟩
      obtain ⟨s9, hs9, hab9, hcn9⟩ := H8.out.cop hc9
      have H9 := mkC hs9
      have HOV9 : Hid (ov < s9.tp.cn) := Nat.lt_of_lt_of_le HOV8.out hcn9
      have HDN := mkC (doneA (s := s9) false w9 H9.out.stp.inv hab9 (by have := HN.out; omega))
      clear hc9 hs9 hab9 hcn9 c4 cf HBO
      go_wp2_with fail
      refine HDN.out.mono ?_
      rintro e wa ⟨⟨u, rfl⟩, hda⟩
      obtain ⟨sa, hsa, haba, hcna⟩ := H9.out.dop hda
      have Ha := mkC hsa
      have HAE := mkC (aimA (s := sa) ov wa Ha.out.stp.inv haba (Nat.lt_of_lt_of_le HOV9.out hcna) (by have := HN.out; omega))
      clear hda hsa haba hcna HDN
      go_wp2_with fail
      refine HAE.out.mono ?_
      rintro e wz ⟨⟨u, rfl⟩, sE, hE9, hqE⟩
      have HF := mkC ((show SqP c (N + 4) k st w xs sE wz from Ha.out.emit (m := 0) hE9 hqE).spm (m := 4) (by omega))
      clear hE9 hqE HAE
      go_wp2_with fail
      go_end0
      exact ⟨⟨_, rfl⟩, HF.out⟩
set_option maxRecDepth 20000 in
set_option maxHeartbeats 2000000 in
theorem l5and1t_c {c : Cx} {N k : Nat} {st : St} (hE : ExC c k) (p : Option Addr) (m d : Nat) (xs : List Nat) (w : World) (h : Inv c N w st) (hx : Ix st w p (m + 1) d xs) (hp : Pcs c k xs) (hN : N + sumB k (Cp.at_ c xs) + 9000 ≤ 1000000000) (hb : st.bo + sumS k (Cp.at_ c xs) ≤ 3000) :
  Calls Tryz.prog 141 #[.pointer (some ⟨st.ab, 0, none⟩), .slice p (m + 1 : Nat) d, .bool true] w fun e w' => (∃ u, e = .returned u) ∧ SpP c N k st xs (allO (rd (st.gl.map (·.x)) k st.sc) (Cp.at_ c xs)) w w' := by
 have HE := mkC hE
 have HI := mkC h
 have HX := mkC hx
 have HP := mkC hp
 have HN := mkC hN
 have HB := mkC hb
 have hn3 : m + 1 ≤ 3000 := by
  have h1 := len_sum (Pcs.ok hp)
  have h2 := hx.len
  rw [show (Cp.at_ c xs).length = xs.length by simp [Cp.at_]] at h1
  omega
 have HL : Hid (xs.length = m + 1) := hx.len
 have HW0 : Hid (c.w0.heap.size ≤ w.heap.size) := h.bel.size
 have hw1 : IntKind.i64.wrap (((m + 1 : Nat) : Int) - 1) = (m : Int) := by rw [show ((m + 1 : Nat) : Int) - 1 = (m : Int) by omega]; simp [IntKind.wrap, IntKind.bits, IntKind.signed]; omega
 have t0 : ((m : Int) + 1 == 0) = false := by simp; omega
 obtain ⟨g, o, rfl, hg, hy00⟩ := hx.at_ (i := 0) (by rw [hx.len]; omega)
 clear hy00 h hx hp hE hN hb
 go_enter Tryz.func141, Tryz.ntmps141
 go_wp2_with fail
 go_loopw [7, 8] (fun nv iv wr => ∃ (i : Nat) (q : Option Addr) (qc : Nat), i ≤ m ∧ iv = .int .i64 (i : Nat) ∧ nv = .slice q i qc ∧ Hid (∃ s1 ns, SqP c N k st w (xs.take i) s1 wr ∧ Lw s1 wr w.heap.size (.slice q i qc) i ns)) (fun _ iv _ => m - (intOf iv).toNat)
 case atStart => exact ⟨0, none, 0, Nat.zero_le _, rfl, rfl, st, [], SqP.nil ⟨HI.out, Fr.refl _ _, Sm.refl _⟩ ⟨rfl, rfl, rfl⟩, Lw.nil _ _ _⟩
 case round =>
  obtain ⟨i, q, qc, hi, rfl, rfl, hS⟩ := hrel
  obtain ⟨s1, ns, hs1, hL1⟩ := hS.out
  have hil : i < xs.length := by rw [HL.out]; omega
  by_cases hlt : i < m
  ·obtain ⟨g', o', e, _, y0⟩ := (HX.out.step hs1.stp.fr).at_ hil
   cases e
   have HS1 := mkC hs1
   have HL1 := mkC hL1
   have HC := mkC (hs1.next HE.out HP.out hil (by have := HN.out; omega) HB.out false)
   have HSM := mkC (sums_at (c := c) (k := k) hil)
   have HTK := mkC (take_snoc hil)
   generalize xs[i]'hil = x at y0 HC HSM HTK
   clear hs1 hL1
   go_wp2_with fail
   refine HC.out.mono ?_
   rintro e w2 ⟨⟨u, rfl⟩, s2, h4, h5, h6⟩
   have HX2 := mkC (And.intro h4 (And.intro h5 h6))
   have HL2 := mkC (HL1.out.stp h4)
   have hab2 : s2.ab = st.ab := h4.sm.ab.trans HS1.out.stp.sm.ab
   have HD := mkC (dropA (s := s2) 13 0 1 w2 h4.inv hab2 (by have := HSM.out.1; have := HN.out; omega))
   clear h4 h5 h6 y0 hab2 HC
   go_wp2_with (first | (go_at_call 44; refine HD.out.mono ?_; rintro e w3 ⟨rfl, s3, h7, h8, h9⟩; have HS3 : Hid (SqP c N k st w (xs.take (i + 1)) s3 w3) := (by unfold Hid; rw [HTK.out]; exact HS1.out.snoc HX2.out (h7.mono (by omega)) h8); have HL3 := mkC (HL2.out.stp h7); have HC3 : Hid (s2.tp.cn < s3.tp.cn) := (by unfold Hid; omega); have HOW := mkC HL3.out.own; have HB3 : w.heap.size ≤ w3.heap.size := HS3.out.stp.fr.size; clear h7 h8 h9; generalize s2.tp.cn = pl at HC3) | (at_builtin; refine appW_at w3 rfl (.tmp 33) (.tmp 36) 77 3 rfl _ 1 8 Tryz.underlying77 info3C rfl (by decide) w.heap.size (.slice q i qc) i (inC ns) (by simp [Act.eval]) HOW.out #[.int .i64 (pl : Nat)] rfl (by simp [Value.oneCell']) (by simp [Act.eval]) (by unfold maxLen; omega) (by omega) HB3 ?_; intro v' w4 ho hb4 hbt hloc hsz; obtain ⟨p2, c2, hv2⟩ := owns_form ho; subst hv2; have HF : Hid (∃ s1 ns, SqP c N k st w (xs.take (i + 1)) s1 w4 ∧ Lw s1 w4 w.heap.size (.slice p2 (i + 1) c2) (i + 1) ns) := ⟨s3, ns ++ [pl], HS3.out.own HL3.out HW0.out hb4 hbt, HL3.out.snoc HS3.out.stp.inv HC3.out ho hloc⟩; clear ho hb4 hbt hloc))
   exact ⟨⟨i + 1, p2, c2, by omega, by go_num, rfl, HF.out⟩, by simp [intOf]; omega⟩
  ·obtain rfl : i = m := by omega
   have HS1 := mkC hs1
   have HL1 := mkC hL1
   have HSM := mkC (sums_at (c := c) (k := k) hil)
   have HTK : Hid (xs.take i ++ [xs[i]'hil] = xs) := by
    unfold Hid
    rw [← take_snoc hil, List.take_of_length_le (by rw [HL.out]; exact Nat.le_refl _)]
   have HT := mkC (topA (ab := st.ab) wr hs1.stp.inv hs1.stp.sm.ab (by have := HSM.out.1; have := HN.out; omega))
   clear hs1 hL1
   go_wp2_with fail
   refine HT.out.mono ?_
   rintro e w1 ⟨rfl, hb1⟩
   have hS1 := HS1.out.stp.inv.stp hb1
   have H1 : Hid (SqP c N k st w (xs.take i) s1 w1) := HS1.out.emit (m := 0) hS1 ⟨rfl, rfl, rfl⟩
   have HL2 := mkC (HL1.out.stp hS1)
   have z4 := (cells5 hS1.inv.tpI.blk).2.2.2.2.1
   obtain ⟨g', o', e, _, y0⟩ := (HX.out.step H1.out.stp.fr).at_ hil
   cases e
   have HC := mkC (H1.out.next HE.out HP.out hil (by have := HN.out; omega) HB.out true)
   generalize xs[i]'hil = x at y0 HC HSM HTK
   obtain ⟨sl0, hsl0⟩ : ∃ sl0, sl0 = s1.tp.sl := ⟨_, rfl⟩
   rw [← hsl0] at z4
   clear hb1 hS1 HT hsl0
   go_wp2_with fail
   refine HC.out.mono ?_
   rintro e w2 ⟨⟨u, rfl⟩, hx2⟩
   have hx2' := hx2
   obtain ⟨s2, hs2, hcn2, hab2, hf2⟩ := H1.out.more hx2
   rw [HTK.out] at hs2
   have H2 : Hid (SqP c N k st w xs s2 w2) := hs2
   have HL3 := mkC (HL2.out.step hf2 hcn2)
   have HAB2 := mkC hab2
   clear hx2 hx2' hs2 hcn2 hab2 hf2 z4 y0 HC
   by_cases hm0 : i = 0
   ·have t1 : ((i : Int) + 1 == 1) = true := by simp; omega
    have HF := mkC H2.out.sp
    go_wp2_with fail
    refine bodyPost_ret (results_none rfl _ _ _) rfl ?_
    exact ⟨⟨_, rfl⟩, HF.out⟩
   ·have t1 : ((i : Int) + 1 == 1) = false := by simp; omega
    have HV3 : Hid (∃ s3, SqP c (N + 1) k st w xs s3 w2 ∧ Lw s3 w2 w.heap.size (.slice q i qc) i ns ∧ 0 ≤ s3.tp.cn) := ⟨s2, H2.out.emit (m := 1) ⟨H2.out.stp.inv.mono (by omega), Fr.refl _ _, Sm.refl _⟩ ⟨rfl, rfl, rfl⟩, HL3.out, Nat.zero_le _⟩
    go_wp2_with fail
    go_loopw [11] (fun jv wr => ∃ j : Nat, j ≤ i ∧ jv = .int .i64 (j : Nat) ∧ Hid (∃ s3, SqP c (N + 1) k st w xs s3 wr ∧ Lw s3 wr w.heap.size (.slice q i qc) i ns ∧ 0 ≤ s3.tp.cn)) (fun jv _ => i - (intOf jv).toNat)
    case atStart => exact ⟨0, Nat.zero_le _, rfl, HV3.out⟩
    case round =>
     obtain ⟨j, hj, rfl, hV⟩ := hrel
     obtain ⟨s3, hs3, hL3, hov3⟩ := hV.out
     by_cases hjl : j < i
     ·have hjn : j < ns.length := by rw [hL3.len]; exact hjl
      obtain ⟨qg, rfl, hqc, y7⟩ := hL3.cell hjn
      have HA := mkC (aimA (ab := st.ab) (ns[j]'hjn) wr hs3.stp.inv hs3.stp.sm.ab (hL3.lt _ (List.getElem_mem hjn)) (by have := HN.out; omega))
      have HS3 := mkC (And.intro hs3 (And.intro hL3 hov3))
      generalize ns[j]'hjn = pl at y7 HA
      clear hs3 hL3 hov3
      go_wp2_with fail
      refine HA.out.mono ?_
      rintro e w5 ⟨⟨u, rfl⟩, s5, h5, hq5⟩
      have HF : Hid (∃ s3, SqP c (N + 1) k st w xs s3 w5 ∧ Lw s3 w5 w.heap.size (.slice (some ⟨qg, 0, none⟩) i qc) i ns ∧ 0 ≤ s3.tp.cn) := ⟨s5, HS3.out.1.emit (m := 0) h5 hq5, HS3.out.2.1.stp h5, Nat.zero_le _⟩
      clear h5 hq5 y7 HA
      go_wp2_with fail
      exact ⟨⟨j + 1, by omega, by go_num, HF.out⟩, by simp [intOf]; omega⟩
     ·obtain rfl : j = i := by omega
      have H3 := mkC hs3
      have HAB3 : Hid (s3.ab = st.ab) := hs3.stp.sm.ab
      have HOV3 := mkC hov3
      have HT3 := mkC (topA (s := s3) wr H3.out.stp.inv HAB3.out (by have := HN.out; omega))
      clear hs3 hL3 hov3
      go_wp2_with fail
      refine HT3.out.mono ?_
      rintro e w7 ⟨rfl, hb7⟩
      have hS7 := H3.out.stp.inv.stp hb7
      have c4 := (cells5 hS7.inv.tpI.blk).2.2.2.2.1
      have cf := (cells5 hS7.inv.tpI.blk).2.2.2.2.2
      have hS8 := hS7.trans (hS7.inv.setSl sl0)
      obtain ⟨s8, hs8⟩ : ∃ s8, s8 = s3.top (s3.tp.slots sl0) := ⟨_, rfl⟩
      have H8 : Hid (SqP c (N + 1) k st w xs s8 (w7.setCell ⟨s3.tp.b, 4, none⟩ (.int .i64 sl0))) := by unfold Hid; rw [hs8]; exact H3.out.emit (m := 0) hS8 ⟨rfl, rfl, rfl⟩
      have HAB8 : Hid (s8.ab = st.ab) := by unfold Hid; rw [hs8]; exact HAB3.out
      have HOV8 : Hid (0 ≤ s8.tp.cn) := by unfold Hid; rw [hs8]; exact HOV3.out
      have HBO := mkC (boolA (s := s8) 0 _ H8.out.stp.inv HAB8.out (by have := HN.out; omega))
      clear hb7 hS7 hS8 hs8 HT3
      go_wp2_with fail
      refine HBO.out.mono ?_
      rintro e w9 ⟨⟨u, rfl⟩, hc9⟩
      obtain ⟨s9, hs9, hab9, hcn9⟩ := H8.out.cop hc9
      have H9 := mkC hs9
      have HOV9 : Hid (0 ≤ s9.tp.cn) := Nat.le_trans HOV8.out hcn9
      have HDN := mkC (doneA (s := s9) true w9 H9.out.stp.inv hab9 (by have := HN.out; omega))
      clear hc9 hs9 hab9 hcn9 c4 cf HBO
      go_wp2_with fail
      refine HDN.out.mono ?_
      rintro e wa ⟨⟨u, rfl⟩, hda⟩
      obtain ⟨sa, hsa, haba, hcna⟩ := H9.out.dop hda
      have HF := mkC ((show SqP c (N + 4) k st w xs sa wa from hsa).spm (m := 4) (by omega))
      clear hda hsa haba hcna HDN
      go_wp2_with fail
      go_end0
      exact ⟨⟨_, rfl⟩, HF.out⟩
theorem l5and_c {c : Cx} {N k : Nat} {st : St} (hE : ExC c k) (p : Option Addr) (n d : Nat) (xs : List Nat) (tail : Bool) (w : World) (h : Inv c N w st) (hx : Ix st w p n d xs) (hp : Pcs c k xs) (hN : N + sumB k (Cp.at_ c xs) + 9000 ≤ 1000000000) (hb : st.bo + sumS k (Cp.at_ c xs) ≤ 3000) :
  Calls Tryz.prog 141 #[.pointer (some ⟨st.ab, 0, none⟩), .slice p n d, .bool tail] w fun e w' => (∃ u, e = .returned u) ∧ SpP c N k st xs (allO (rd (st.gl.map (·.x)) k st.sc) (Cp.at_ c xs)) w w' := by
 cases n with
 | zero =>
  obtain rfl : xs = [] := List.eq_nil_of_length_eq_zero hx.len
  exact l5and0_c p d tail w h (by omega)
 | succ m =>
  cases tail
  ·exact l5and1f_c hE p m d xs w h hx hp hN hb
  ·exact l5and1t_c hE p m d xs w h hx hp hN hb
theorem at_snoc (c : Cx) (xs : List Nat) (i : Nat) : at_ c (xs ++ [i]) = at_ c xs ++ [c.ds.drop i] := by simp [at_]
theorem SqP.more10 {c : Cx} {N k i : Nat} {st s1 : St} {w w1 w2 : World} {xs : List Nat} (h : SqP c (N + 10) k st w xs s1 w1) (hx : ExP c (N + 10 + sumB k (at_ c xs)) k s1 i w1 w2) : ∃ s2, SqP c N k st w (xs ++ [i]) s2 w2 ∧ s1.tp.cn ≤ s2.tp.cn ∧ s2.ab = st.ab ∧ Fr s1 s2 w1 w2 := by
 obtain ⟨s2, h4, h5, h6⟩ := hx
 have e : at_ c (xs ++ [i]) = at_ c xs ++ [c.ds.drop i] := by simp [at_]
 refine ⟨s2, ⟨?_, ?_, ?_⟩, h4.sm.tp.2.2, h4.sm.ab.trans h.stp.sm.ab, h4.fr⟩
 ·rw [e, sumB_app]
  exact (h.stp.trans h4).mono (by simp [sumB]; omega)
 ·rw [e, allO_app, allO_one]
  rw [h.stp.sm.gl, h.stp.sm.sc] at h5
  exact h.rs.cat h5
 ·rw [e, sumS_app]
  have := h.bo
  simp [sumS]
  omega
theorem SqP.up {c : Cx} {N M k : Nat} {st s1 : St} {w w1 : World} {xs : List Nat} (h : SqP c N k st w xs s1 w1) (hM : N ≤ M) : SqP c M k st w xs s1 w1 := ⟨h.stp.mono (by omega), h.rs, h.bo⟩
set_option maxRecDepth 20000 in
set_option maxHeartbeats 1000000 in
theorem l5or0_c {c : Cx} {N k : Nat} {st : St} (p : Option Addr) (d : Nat) (tail : Bool) (w : World) (h : Inv c N w st) (hN : N + 9000 ≤ 1000000000) :
  Calls Tryz.prog 142 #[.pointer (some ⟨st.ab, 0, none⟩), .slice p 0 d, .bool tail] w fun e w' => (∃ u, e = .returned u) ∧ SpP c N k st [] (some []) w w' := by
 have H0 : Hid (SqP c N k st w [] st w) := SqP.nil ⟨h, Fr.refl _ _, Sm.refl _⟩ ⟨rfl, rfl, rfl⟩
 have HB := mkC (boolA (ab := st.ab) 0 w H0.out.stp.inv rfl (by simp [Cp.at_, sumB]; omega))
 clear h
 go_enter Tryz.func142, Tryz.ntmps142
 go_wp2_with fail
 refine HB.out.mono ?_
 rintro e w1 ⟨⟨u, rfl⟩, hc⟩
 obtain ⟨s1, hs1, hab1, _⟩ := H0.out.cop hc
 have H1 := mkC hs1
 have HD := mkC (doneA (s := s1) tail w1 H1.out.stp.inv hab1 (by simp [Cp.at_, sumB]; omega))
 clear hc hs1 hab1 HB
 go_wp2_with fail
 refine HD.out.mono ?_
 rintro e w2 ⟨⟨u, rfl⟩, hd⟩
 have HF : Hid (SpP c N k st [] (some []) w w2) := by
  obtain ⟨s2, hs2, _⟩ := H1.out.dop hd
  exact (show SqP c (N + 3) k st w [] s2 w2 from hs2).spm (by omega)
 clear hd HD
 go_wp2_with fail
 refine bodyPost_ret (results_none rfl _ _ _) rfl ?_
 exact ⟨⟨_, rfl⟩, HF.out⟩
set_option maxRecDepth 20000 in
set_option maxHeartbeats 2000000 in
theorem l5or1f_c {c : Cx} {N k : Nat} {st : St} (hE : ExC c k) (p : Option Addr) (m d : Nat) (xs : List Nat) (w : World) (h : Inv c N w st) (hx : Ix st w p (m + 1) d xs) (hp : Pcs c k xs) (hN : N + sumB k (Cp.at_ c xs) + 9000 ≤ 1000000000) (hb : st.bo + sumS k (Cp.at_ c xs) ≤ 3000) :
  Calls Tryz.prog 142 #[.pointer (some ⟨st.ab, 0, none⟩), .slice p (m + 1 : Nat) d, .bool false] w fun e w' => (∃ u, e = .returned u) ∧ SpP c N k st xs (allO (rd (st.gl.map (·.x)) k st.sc) (Cp.at_ c xs)) w w' := by
 have HE := mkC hE
 have HI := mkC h
 have HX := mkC hx
 have HP := mkC hp
 have HN := mkC hN
 have HB := mkC hb
 have hn3 : m + 1 ≤ 3000 := by
  have h1 := len_sum (Pcs.ok hp)
  have h2 := hx.len
  rw [show (Cp.at_ c xs).length = xs.length by simp [Cp.at_]] at h1
  omega
 have HL : Hid (xs.length = m + 1) := hx.len
 have HW0 : Hid (c.w0.heap.size ≤ w.heap.size) := h.bel.size
 have hw1 : IntKind.i64.wrap (((m + 1 : Nat) : Int) - 1) = (m : Int) := by rw [show ((m + 1 : Nat) : Int) - 1 = (m : Int) by omega]; simp [IntKind.wrap, IntKind.bits, IntKind.signed]; omega
 have t0 : ((m : Int) + 1 == 0) = false := by simp; omega
 obtain ⟨g, o, rfl, hg, hy00⟩ := hx.at_ (i := 0) (by rw [hx.len]; omega)
 clear hy00 h hx hp hE hN hb
 go_enter Tryz.func142, Tryz.ntmps142
 go_wp2_with fail
 go_loopw [7, 8] (fun nv iv wr => ∃ (i : Nat) (q : Option Addr) (qc : Nat), i ≤ m ∧ iv = .int .i64 (i : Nat) ∧ nv = .slice q i qc ∧ Hid (∃ s1 ns, SqP c (N + 10) k st w (xs.take i) s1 wr ∧ Lw s1 wr w.heap.size (.slice q i qc) i ns)) (fun _ iv _ => m - (intOf iv).toNat)
 case atStart => exact ⟨0, none, 0, Nat.zero_le _, rfl, rfl, st, [], SqP.nil ⟨HI.out.mono (by omega), Fr.refl _ _, Sm.refl _⟩ ⟨rfl, rfl, rfl⟩, Lw.nil _ _ _⟩
 case round =>
  obtain ⟨i, q, qc, hi, rfl, rfl, hS⟩ := hrel
  obtain ⟨s1, ns, hs1, hL1⟩ := hS.out
  have hil : i < xs.length := by rw [HL.out]; omega
  by_cases hlt : i < m
  ·obtain ⟨g', o', e, _, y0⟩ := (HX.out.step hs1.stp.fr).at_ hil
   cases e
   have HS1 := mkC hs1
   have HL1 := mkC hL1
   have HC := mkC (hs1.next HE.out HP.out hil (by have := HN.out; omega) HB.out false)
   have HTK := mkC (take_snoc hil)
   have HSM : Hid (N + sumB k (Cp.at_ c (xs.take (i + 1))) + 9000 ≤ 1000000000) := by
    unfold Hid
    have h1 := sums_at (c := c) (k := k) hil
    have h2 := HN.out
    rw [take_snoc hil, at_snoc, sumB_app]
    simp only [sumB]
    omega
   generalize xs[i]'hil = x at y0 HC HTK
   clear hs1 hL1
   go_wp2_with fail
   refine HC.out.mono ?_
   rintro e w2 ⟨⟨u, rfl⟩, hx2⟩
   obtain ⟨s2, hs2, hcn2, hab2, hf2⟩ := HS1.out.more10 hx2
   rw [← HTK.out] at hs2
   have H2 : Hid (SqP c N k st w (xs.take (i + 1)) s2 w2) := hs2
   have HL2 := mkC (HL1.out.step hf2 hcn2)
   have HT := mkC (topA (s := s2) w2 H2.out.stp.inv hab2 (by have := HSM.out; omega))
   have HAB2 := mkC hab2
   clear hx2 hs2 hcn2 hab2 hf2 y0 HC
   go_wp2_with fail
   refine HT.out.mono ?_
   rintro e w3 ⟨rfl, hb3⟩
   have hS3 := H2.out.stp.inv.stp hb3
   have H3 : Hid (SqP c N k st w (xs.take (i + 1)) s2 w3) := H2.out.emit (m := 0) hS3 ⟨rfl, rfl, rfl⟩
   have HL3 := mkC (HL2.out.stp hS3)
   have z4 := (cells5 hS3.inv.tpI.blk).2.2.2.2.1
   obtain ⟨sl0, hsl0⟩ : ∃ sl0, sl0 = s2.tp.sl := ⟨_, rfl⟩
   rw [← hsl0] at z4
   have HPU := fun a => mkC (pushA (s := s2) 1 a 0 0 w3 H3.out.stp.inv HAB2.out (by have := HSM.out; omega))
   clear hb3 hS3 HT hsl0
   go_wp2_with fail
   refine (HPU _).out.mono ?_
   rintro e w4 ⟨⟨u, rfl⟩, hm4⟩
   obtain ⟨s4, hs4, hab4, _, hst4⟩ := H3.out.emp hm4
   have H4 := mkC hs4
   have HL4 := mkC (HL3.out.stp hst4)
   have HDR := mkC (dropA (s := s4) 13 0 1 w4 H4.out.stp.inv hab4 (by have := HSM.out; omega))
   clear hm4 hs4 hab4 hst4 z4 HPU
   go_wp2_with fail
   refine HDR.out.mono ?_
   rintro e w5 ⟨rfl, hm5⟩
   obtain ⟨s5, hs5, hab5, hcn5, hst5⟩ := H4.out.emp hm5
   have H5 : Hid (SqP c (N + 2) k st w (xs.take (i + 1)) s5 w5) := hs5
   have HL5 := mkC (HL4.out.stp hst5)
   obtain ⟨no, hno⟩ : ∃ no, no = s4.tp.cn := ⟨_, rfl⟩
   have HNO5 : Hid (no < s5.tp.cn) := by unfold Hid; omega
   have HAB5 := mkC hab5
   rw [← hno]
   clear hm5 hs5 hab5 hcn5 hst5 hno HDR
   have HM := fun a => mkC (emitA (ab := st.ab) 12 0 0 a w5 H5.out.stp.inv HAB5.out (by have := HSM.out; omega))
   go_wp2_with (first | (go_at_call 85; refine (HM _).out.mono ?_; rintro e w6 ⟨rfl, hm6⟩; obtain ⟨s6, hs6, hab6, hcn6, hst6⟩ := H5.out.emp hm6; have H6 : Hid (SqP c (N + 3) k st w (xs.take (i + 1)) s6 w6) := hs6; have HL6 := mkC (HL5.out.stp hst6); have HC6 : Hid (s5.tp.cn < s6.tp.cn ∧ no < s6.tp.cn ∧ s6.ab = st.ab) := (by have := HNO5.out; exact ⟨by omega, by omega, hab6⟩); have HOW := mkC HL6.out.own; have HB6 : w.heap.size ≤ w6.heap.size := H6.out.stp.fr.size; clear hm6 hs6 hab6 hcn6 hst6 HM; generalize s5.tp.cn = pl at HC6) | (at_builtin; refine appW_at w6 rfl (.tmp 47) (.tmp 51) 77 3 rfl _ 1 8 Tryz.underlying77 info3C rfl (by decide) w.heap.size (.slice q i qc) i (inC ns) (by simp [Act.eval]) HOW.out #[.int .i64 (pl : Nat)] rfl (by simp [Value.oneCell']) (by simp [Act.eval]) (by unfold maxLen; omega) (by omega) HB6 ?_; intro v' w7 ho hb7 hbt hloc hsz; obtain ⟨p2, c2, hv2⟩ := owns_form ho; subst hv2; have H7 : Hid (SqP c (N + 3) k st w (xs.take (i + 1)) s6 w7) := H6.out.own HL6.out HW0.out hb7 hbt; have HL7 : Hid (Lw s6 w7 w.heap.size (.slice p2 (i + 1) c2) (i + 1) (ns ++ [pl])) := HL6.out.snoc H6.out.stp.inv HC6.out.1 ho hloc; have HA := mkC (aimA (s := s6) no w7 H7.out.stp.inv HC6.out.2.2 HC6.out.2.1 (by have := HSM.out; omega)); clear ho hb7 hbt hloc))
   refine HA.out.mono ?_
   rintro e w8 ⟨⟨u, rfl⟩, s8, h8, hq8⟩
   have H8 : Hid (SqP c (N + 3) k st w (xs.take (i + 1)) s8 w8) := H7.out.emit (m := 0) h8 hq8
   have HL8 := mkC (HL7.out.stp h8)
   have HAB8 : Hid (s8.ab = st.ab) := h8.sm.ab.trans HC6.out.2.2
   have HT8 := mkC (topA (s := s8) w8 H8.out.stp.inv HAB8.out (by have := HSM.out; omega))
   clear h8 hq8 HA
   go_wp2_with fail
   refine HT8.out.mono ?_
   rintro e w9 ⟨rfl, hb9⟩
   have hS9 := H8.out.stp.inv.stp hb9
   have c4 := (cells5 hS9.inv.tpI.blk).2.2.2.2.1
   have cf := (cells5 hS9.inv.tpI.blk).2.2.2.2.2
   have hSa := hS9.trans (hS9.inv.setSl sl0)
   obtain ⟨sa, hsa⟩ : ∃ sa, sa = s8.top (s8.tp.slots sl0) := ⟨_, rfl⟩
   have Ha : Hid (SqP c (N + 3) k st w (xs.take (i + 1)) sa (w9.setCell ⟨s8.tp.b, 4, none⟩ (.int .i64 sl0))) := by unfold Hid; rw [hsa]; exact H8.out.emit (m := 0) hSa ⟨rfl, rfl, rfl⟩
   have HLa : Hid (Lw sa (w9.setCell ⟨s8.tp.b, 4, none⟩ (.int .i64 sl0)) w.heap.size (.slice p2 (i + 1) c2) (i + 1) (ns ++ [pl])) := by unfold Hid; rw [hsa]; exact HL8.out.stp hSa
   have HABa : Hid (sa.ab = st.ab) := by unfold Hid; rw [hsa]; exact HAB8.out
   have HDb := mkC (dropA (s := sa) 16 0 1 _ Ha.out.stp.inv HABa.out (by have := HSM.out; omega))
   clear hb9 hS9 hSa hsa HT8
   go_wp2_with fail
   refine HDb.out.mono ?_
   rintro e wb ⟨rfl, hmb⟩
   obtain ⟨sb, hsb, _, _, hstb⟩ := Ha.out.emp hmb
   have HF : Hid (∃ s1 ns, SqP c (N + 10) k st w (xs.take (i + 1)) s1 wb ∧ Lw s1 wb w.heap.size (.slice p2 (i + 1) c2) (i + 1) ns) := ⟨sb, ns ++ [pl], (show SqP c (N + 4) k st w (xs.take (i + 1)) sb wb from hsb).up (by omega), HLa.out.stp hstb⟩
   clear hmb hsb hstb HDb c4 cf
   go_wp2_with fail
   exact ⟨⟨i + 1, p2, c2, by omega, by go_num, rfl, HF.out⟩, by simp [intOf]; omega⟩
  ·obtain rfl : i = m := by omega
   have HS1 := mkC hs1
   have HL1 := mkC hL1
   have HTK : Hid (xs.take i ++ [xs[i]'hil] = xs) := by
    unfold Hid
    rw [← take_snoc hil, List.take_of_length_le (by rw [HL.out]; exact Nat.le_refl _)]
   obtain ⟨g', o', e, _, y0⟩ := (HX.out.step hs1.stp.fr).at_ hil
   cases e
   have HC := mkC (hs1.next HE.out HP.out hil (by have := HN.out; omega) HB.out false)
   generalize xs[i]'hil = x at y0 HC HTK
   clear hs1 hL1
   go_wp2_with fail
   refine HC.out.mono ?_
   rintro e w2 ⟨⟨u, rfl⟩, hx2⟩
   obtain ⟨s2, hs2, hcn2, hab2, hf2⟩ := HS1.out.more10 hx2
   rw [HTK.out] at hs2
   have HV3 : Hid (∃ s3, SqP c N k st w xs s3 w2 ∧ Lw s3 w2 w.heap.size (.slice q i qc) i ns) := ⟨s2, hs2, HL1.out.step hf2 hcn2⟩
   clear hx2 hs2 hcn2 hab2 hf2 y0 HC
   go_wp2_with fail
   go_loopw [11] (fun jv wr => ∃ j : Nat, j ≤ i ∧ jv = .int .i64 (j : Nat) ∧ Hid (∃ s3, SqP c N k st w xs s3 wr ∧ Lw s3 wr w.heap.size (.slice q i qc) i ns)) (fun jv _ => i - (intOf jv).toNat)
   case atStart => exact ⟨0, Nat.zero_le _, rfl, HV3.out⟩
   case round =>
    obtain ⟨j, hj, rfl, hV⟩ := hrel
    obtain ⟨s3, hs3, hL3⟩ := hV.out
    by_cases hjl : j < i
    ·have hjn : j < ns.length := by rw [hL3.len]; exact hjl
     obtain ⟨qg, rfl, hqc, y7⟩ := hL3.cell hjn
     have HA := mkC (aimA (ab := st.ab) (ns[j]'hjn) wr hs3.stp.inv hs3.stp.sm.ab (hL3.lt _ (List.getElem_mem hjn)) (by have := HN.out; omega))
     have HS3 := mkC (And.intro hs3 hL3)
     generalize ns[j]'hjn = pl at y7 HA
     clear hs3 hL3
     go_wp2_with fail
     refine HA.out.mono ?_
     rintro e w5 ⟨⟨u, rfl⟩, s5, h5, hq5⟩
     have HF : Hid (∃ s3, SqP c N k st w xs s3 w5 ∧ Lw s3 w5 w.heap.size (.slice (some ⟨qg, 0, none⟩) i qc) i ns) := ⟨s5, HS3.out.1.emit (m := 0) h5 hq5, HS3.out.2.stp h5⟩
     clear h5 hq5 y7 HA
     go_wp2_with fail
     exact ⟨⟨j + 1, by omega, by go_num, HF.out⟩, by simp [intOf]; omega⟩
    ·obtain rfl : j = i := by omega
     have HF := mkC hs3.sp
     clear hs3 hL3
     go_wp2_with fail
     go_end0
     exact ⟨⟨_, rfl⟩, HF.out⟩
set_option maxRecDepth 20000 in
set_option maxHeartbeats 2000000 in
theorem l5or1t_c {c : Cx} {N k : Nat} {st : St} (hE : ExC c k) (p : Option Addr) (m d : Nat) (xs : List Nat) (w : World) (h : Inv c N w st) (hx : Ix st w p (m + 1) d xs) (hp : Pcs c k xs) (hN : N + sumB k (Cp.at_ c xs) + 9000 ≤ 1000000000) (hb : st.bo + sumS k (Cp.at_ c xs) ≤ 3000) :
  Calls Tryz.prog 142 #[.pointer (some ⟨st.ab, 0, none⟩), .slice p (m + 1 : Nat) d, .bool true] w fun e w' => (∃ u, e = .returned u) ∧ SpP c N k st xs (allO (rd (st.gl.map (·.x)) k st.sc) (Cp.at_ c xs)) w w' := by
 have HE := mkC hE
 have HI := mkC h
 have HX := mkC hx
 have HP := mkC hp
 have HN := mkC hN
 have HB := mkC hb
 have hn3 : m + 1 ≤ 3000 := by
  have h1 := len_sum (Pcs.ok hp)
  have h2 := hx.len
  rw [show (Cp.at_ c xs).length = xs.length by simp [Cp.at_]] at h1
  omega
 have HL : Hid (xs.length = m + 1) := hx.len
 have HW0 : Hid (c.w0.heap.size ≤ w.heap.size) := h.bel.size
 have hw1 : IntKind.i64.wrap (((m + 1 : Nat) : Int) - 1) = (m : Int) := by rw [show ((m + 1 : Nat) : Int) - 1 = (m : Int) by omega]; simp [IntKind.wrap, IntKind.bits, IntKind.signed]; omega
 have t0 : ((m : Int) + 1 == 0) = false := by simp; omega
 obtain ⟨g, o, rfl, hg, hy00⟩ := hx.at_ (i := 0) (by rw [hx.len]; omega)
 clear hy00 h hx hp hE hN hb
 go_enter Tryz.func142, Tryz.ntmps142
 go_wp2_with fail
 go_loopw [7, 8] (fun nv iv wr => ∃ (i : Nat), i ≤ m ∧ iv = .int .i64 (i : Nat) ∧ nv = .slice none 0 0 ∧ Hid (∃ s1, SqP c (N + 10) k st w (xs.take i) s1 wr)) (fun _ iv _ => m - (intOf iv).toNat)
 case atStart => exact ⟨0, Nat.zero_le _, rfl, rfl, st, SqP.nil ⟨HI.out.mono (by omega), Fr.refl _ _, Sm.refl _⟩ ⟨rfl, rfl, rfl⟩⟩
 case round =>
  obtain ⟨i, hi, rfl, rfl, hS⟩ := hrel
  obtain ⟨s1, hs1⟩ := hS.out
  have hil : i < xs.length := by rw [HL.out]; omega
  by_cases hlt : i < m
  ·obtain ⟨g', o', e, _, y0⟩ := (HX.out.step hs1.stp.fr).at_ hil
   cases e
   have HS1 := mkC hs1
   have HC := mkC (hs1.next HE.out HP.out hil (by have := HN.out; omega) HB.out false)
   have HTK := mkC (take_snoc hil)
   have HSM : Hid (N + sumB k (Cp.at_ c (xs.take (i + 1))) + 9000 ≤ 1000000000) := by
    unfold Hid
    have h1 := sums_at (c := c) (k := k) hil
    have h2 := HN.out
    rw [take_snoc hil, at_snoc, sumB_app]
    simp only [sumB]
    omega
   generalize xs[i]'hil = x at y0 HC HTK
   clear hs1
   go_wp2_with fail
   refine HC.out.mono ?_
   rintro e w2 ⟨⟨u, rfl⟩, hx2⟩
   obtain ⟨s2, hs2, hcn2, hab2, hf2⟩ := HS1.out.more10 hx2
   rw [← HTK.out] at hs2
   have H2 : Hid (SqP c N k st w (xs.take (i + 1)) s2 w2) := hs2
   have HT := mkC (topA (s := s2) w2 H2.out.stp.inv hab2 (by have := HSM.out; omega))
   have HAB2 := mkC hab2
   clear hx2 hs2 hcn2 hab2 hf2 y0 HC
   go_wp2_with fail
   refine HT.out.mono ?_
   rintro e w3 ⟨rfl, hb3⟩
   have hS3 := H2.out.stp.inv.stp hb3
   have H3 : Hid (SqP c N k st w (xs.take (i + 1)) s2 w3) := H2.out.emit (m := 0) hS3 ⟨rfl, rfl, rfl⟩
   have z4 := (cells5 hS3.inv.tpI.blk).2.2.2.2.1
   obtain ⟨sl0, hsl0⟩ : ∃ sl0, sl0 = s2.tp.sl := ⟨_, rfl⟩
   rw [← hsl0] at z4
   have HPU := fun a => mkC (pushA (s := s2) 1 a 0 0 w3 H3.out.stp.inv HAB2.out (by have := HSM.out; omega))
   clear hb3 hS3 HT hsl0
   go_wp2_with fail
   refine (HPU _).out.mono ?_
   rintro e w4 ⟨⟨u, rfl⟩, hm4⟩
   obtain ⟨s4, hs4, hab4, _, hst4⟩ := H3.out.emp hm4
   have H4 := mkC hs4
   have HDR := mkC (dropA (s := s4) 13 0 1 w4 H4.out.stp.inv hab4 (by have := HSM.out; omega))
   clear hm4 hs4 hab4 hst4 z4 HPU
   go_wp2_with fail
   refine HDR.out.mono ?_
   rintro e w5 ⟨rfl, hm5⟩
   obtain ⟨s5, hs5, hab5, hcn5, hst5⟩ := H4.out.emp hm5
   have H5 : Hid (SqP c (N + 2) k st w (xs.take (i + 1)) s5 w5) := hs5
   obtain ⟨no, hno⟩ : ∃ no, no = s4.tp.cn := ⟨_, rfl⟩
   have HNO5 : Hid (no < s5.tp.cn) := by unfold Hid; omega
   have HAB5 := mkC hab5
   rw [← hno]
   clear hm5 hs5 hab5 hcn5 hst5 hno HDR
   have HM := mkC (dropA (ab := st.ab) 11 0 1 w5 H5.out.stp.inv HAB5.out (by have := HSM.out; omega))
   go_wp2_with fail
   refine HM.out.mono ?_
   rintro e w7 ⟨rfl, hm6⟩
   obtain ⟨s6, hs6, hab6, hcn6, hst6⟩ := H5.out.emp hm6
   have H7 : Hid (SqP c (N + 3) k st w (xs.take (i + 1)) s6 w7) := hs6
   have HC6 : Hid (s5.tp.cn < s6.tp.cn ∧ no < s6.tp.cn ∧ s6.ab = st.ab) := (by have := HNO5.out; exact ⟨by omega, by omega, hab6⟩)
   have HA := mkC (aimA (s := s6) no w7 H7.out.stp.inv HC6.out.2.2 HC6.out.2.1 (by have := HSM.out; omega))
   generalize s5.tp.cn = pl at HC6
   clear hm6 hs6 hab6 hcn6 hst6 HM
   go_wp2_with fail
   refine HA.out.mono ?_
   rintro e w8 ⟨⟨u, rfl⟩, s8, h8, hq8⟩
   have H8 : Hid (SqP c (N + 3) k st w (xs.take (i + 1)) s8 w8) := H7.out.emit (m := 0) h8 hq8
   have HAB8 : Hid (s8.ab = st.ab) := h8.sm.ab.trans HC6.out.2.2
   have HT8 := mkC (topA (s := s8) w8 H8.out.stp.inv HAB8.out (by have := HSM.out; omega))
   clear h8 hq8 HA
   go_wp2_with fail
   refine HT8.out.mono ?_
   rintro e w9 ⟨rfl, hb9⟩
   have hS9 := H8.out.stp.inv.stp hb9
   have c4 := (cells5 hS9.inv.tpI.blk).2.2.2.2.1
   have cf := (cells5 hS9.inv.tpI.blk).2.2.2.2.2
   have hSa := hS9.trans (hS9.inv.setSl sl0)
   obtain ⟨sa, hsa⟩ : ∃ sa, sa = s8.top (s8.tp.slots sl0) := ⟨_, rfl⟩
   have Ha : Hid (SqP c (N + 3) k st w (xs.take (i + 1)) sa (w9.setCell ⟨s8.tp.b, 4, none⟩ (.int .i64 sl0))) := by unfold Hid; rw [hsa]; exact H8.out.emit (m := 0) hSa ⟨rfl, rfl, rfl⟩
   have HABa : Hid (sa.ab = st.ab) := by unfold Hid; rw [hsa]; exact HAB8.out
   have HDb := mkC (dropA (s := sa) 16 0 1 _ Ha.out.stp.inv HABa.out (by have := HSM.out; omega))
   clear hb9 hS9 hSa hsa HT8
   go_wp2_with fail
   refine HDb.out.mono ?_
   rintro e wb ⟨rfl, hmb⟩
   obtain ⟨sb, hsb, _, _, hstb⟩ := Ha.out.emp hmb
   have HF : Hid (∃ s1, SqP c (N + 10) k st w (xs.take (i + 1)) s1 wb) := ⟨sb, (show SqP c (N + 4) k st w (xs.take (i + 1)) sb wb from hsb).up (by omega)⟩
   clear hmb hsb hstb HDb c4 cf
   go_wp2_with fail
   exact ⟨⟨i + 1, by omega, by go_num, rfl, HF.out⟩, by simp [intOf]; omega⟩
  ·obtain rfl : i = m := by omega
   have HS1 := mkC hs1
   have HTK : Hid (xs.take i ++ [xs[i]'hil] = xs) := by
    unfold Hid
    rw [← take_snoc hil, List.take_of_length_le (by rw [HL.out]; exact Nat.le_refl _)]
   obtain ⟨g', o', e, _, y0⟩ := (HX.out.step hs1.stp.fr).at_ hil
   cases e
   have HC := mkC (hs1.next HE.out HP.out hil (by have := HN.out; omega) HB.out true)
   generalize xs[i]'hil = x at y0 HC HTK
   clear hs1
   go_wp2_with fail
   refine HC.out.mono ?_
   rintro e w2 ⟨⟨u, rfl⟩, hx2⟩
   obtain ⟨s2, hs2, hcn2, hab2, hf2⟩ := HS1.out.more10 hx2
   rw [HTK.out] at hs2
   have HV3 : Hid (∃ s3, SqP c N k st w xs s3 w2) := ⟨s2, hs2⟩
   clear hx2 hs2 hcn2 hab2 hf2 y0 HC
   go_wp2_with fail
   go_loopw [11] (fun jv wr => jv = .int .i64 0 ∧ Hid (∃ s3, SqP c N k st w xs s3 wr)) (fun _ _ => 0)
   case atStart => exact ⟨rfl, HV3.out⟩
   case round =>
    obtain ⟨rfl, hV⟩ := hrel
    obtain ⟨s3, hs3⟩ := hV.out
    have HF := mkC hs3.sp
    clear hs3
    go_wp2_with fail
    go_end0
    exact ⟨⟨_, rfl⟩, HF.out⟩
theorem l5or_c {c : Cx} {N k : Nat} {st : St} (hE : ExC c k) (p : Option Addr) (n d : Nat) (xs : List Nat) (tail : Bool) (w : World) (h : Inv c N w st) (hx : Ix st w p n d xs) (hp : Pcs c k xs) (hN : N + sumB k (Cp.at_ c xs) + 9000 ≤ 1000000000) (hb : st.bo + sumS k (Cp.at_ c xs) ≤ 3000) :
  Calls Tryz.prog 142 #[.pointer (some ⟨st.ab, 0, none⟩), .slice p n d, .bool tail] w fun e w' => (∃ u, e = .returned u) ∧ SpP c N k st xs (allO (rd (st.gl.map (·.x)) k st.sc) (Cp.at_ c xs)) w w' := by
 cases n with
 | zero =>
  obtain rfl : xs = [] := List.eq_nil_of_length_eq_zero hx.len
  exact l5or0_c p d tail w h (by omega)
 | succ m =>
  cases tail
  ·exact l5or1f_c hE p m d xs w h hx hp hN hb
  ·exact l5or1t_c hE p m d xs w h hx hp hN hb
theorem Inv.nmAt {c : Cx} {N k i : Nat} {w : World} {st : St} (h : Inv c N w st) (hi : i < c.dn) (ho : Ok k (c.ds.drop i)) (hs : isSy (c.ds.drop i) = true) : ∃ (m : Nm) (b o : Nat), c.dp = some ⟨b, o, none⟩ ∧ m.x = nm (c.ds.drop i) ∧ NmI c m ∧ ∀ w', Below c.w0.heap.size c.w0 w' → w'.cell? ⟨b, o + i * 4 + 2, none⟩ = some (.slice m.p m.n m.c) := by
 obtain ⟨b, o, e, hlt, hc⟩ := h.dat.cells (by omega)
 obtain ⟨tp, tn, tc, he⟩ := hc i hi
 have hg : goodB (c.ds.getD i dt0) = true := by
  obtain ⟨d, q, h1, h2⟩ := ho.ne
  have h3 := hd_drop c.ds i
  rw [h1] at h3
  rw [← h3]
  exact h2
 have hk : (c.ds.getD i dt0).kind = 2 := by
  unfold isSy at hs
  rw [hd_drop] at hs
  simpa using hs
 have hl := he.by_.len
 have h5 : 1 ≤ (c.ds.getD i dt0).text.length ∧ (c.ds.getD i dt0).text.length ≤ 100 := by
  unfold goodB symTextB at hg
  rw [if_neg (by omega), if_neg (by omega), if_pos hk] at hg
  simp only [Bool.and_eq_true, decide_eq_true_eq] at hg
  exact ⟨hg.1.2.1.1.1.1, hg.1.2.1.1.1.2⟩
 refine ⟨⟨tp, tn, tc, (c.ds.getD i dt0).text⟩, b, o, e, ?_, ⟨he.by_, (show 1 ≤ tn by omega), (show tn ≤ 100 by omega)⟩, fun w' hb => ?_⟩
 ·unfold nm
  rw [hd_drop]
 ·rw [hb.cell (p := ⟨b, o + i * 4 + 2, none⟩) hlt]
  exact he.c2
theorem Inv.setBx {c : Cx} {N j g bc : Nat} {w : World} {st : St} (h : Inv c N w st) (hv : st.bxv = .slice (some ⟨g, 0, none⟩) st.bx.length bc) (x : Bool) : Stp c N st w { st with bx := st.bx.set j x } (w.setCell ⟨g, j, none⟩ (.bool x)) := by
 have hgb : st.bxv.ownBlock = some g := by rw [hv]; rfl
 have hg0 := owns_ge h.bx g hgb
 have hch : ∀ k, k < w.heap.size → k ≠ st.ab → st.bxv.ownBlock ≠ some k → (w.setCell ⟨g, j, none⟩ (.bool x)).heap[k]? = w.heap[k]? := fun k hk h1 h2 => set_keep _ (fun e => h2 (by rw [hgb, e]))
 obtain ⟨row, hfn, hcs⟩ := h.keepA h.bx (by decide) (by decide) (by decide) (by decide) (by decide) (by decide) hch
 have hbel : Below c.w0.heap.size w (w.setCell ⟨g, j, none⟩ (.bool x)) := Below.setCell (Below.refl _ _) (p := ⟨g, j, none⟩) hg0 _
 have hab : st.ab ≠ g := fun e => owns_ne h.bx h.blk (by decide) (by rw [hgb, e])
 have hbx := h.bx
 rw [hv] at hbx
 have hb2 := owns_put (k := j) hbx (.bool x)
 refine ⟨⟨h.bel.trans hbel, h.dat, h.dn, h.ab0, (set_keep _ hab).trans h.blk, row h.gl (apt_ty h.gl h.bx (by decide)) (by decide), h.gln, row h.ub (apt_ty h.ub h.bx (by decide)) (by decide), h.ubn, h.gu, ?_, row h.op (apt_ty h.op h.bx (by decide)) (by decide), hfn, h.apt, row h.cs (apt_ty h.cs h.bx (by decide)) (by decide), hcs, row h.fn (apt_ty h.fn h.bx (by decide)) (by decide), h.fxl, ?_, ?_, ?_, h.len⟩, ⟨?_, ?_, ?_⟩, ?_⟩
 ·show World.ownsRow _ _ _ _ st.bxv (st.bx.set j x).length ((st.bx.set j x).map Value.bool)
  rw [List.length_set, List.map_set, hv]
  exact hb2
 ·show st.bo ≤ (st.bx.set j x).length
  rw [List.length_set]; exact h.b1
 ·show (st.bx.set j x).length ≤ 3000
  rw [List.length_set]; exact h.b2
 ·show ∀ f ∈ st.all, FnW (st.bx.set j x).length N f
  rw [List.length_set]; exact h.fnw
 ·rw [set_size]; exact Nat.le_refl _
 ·intro k hk hn
  exact set_keep _ (fun e => hn (Or.inr (Or.inr (Or.inl (by rw [hgb, e])))))
 ·exact fp_of rfl rfl (fun k hk => Or.inl hk) (fun k hk => Or.inl hk) (fun k hk => Or.inl hk) (fun k hk => Or.inl hk) (fun k hk => Or.inl hk)
 ·exact ⟨rfl, rfl, rfl, rfl, (Sm.refl st).fn, by simp, Nat.le_refl _, Nat.le_refl _⟩
theorem symA {c : Cx} {N ab : Nat} {s : St} (i : Nat) (w : World) (h : Inv c N w s) (hab : s.ab = ab) (hi : i < c.dn) : Calls Tryz.prog 41 #[.pointer (some ⟨ab, 0, none⟩), .int .i64 (i : Nat)] w fun e w' => e = .returned (.bool (isSy (c.ds.drop i))) ∧ w' = w := by subst hab; exact l5sym_c i w h hi
set_option maxRecDepth 20000 in
set_option maxHeartbeats 1000000 in
theorem l5setw_c {c : Cx} {N k : Nat} {st : St} (p : Option Addr) (n d : Nat) (xs : List Nat) (tail : Bool) (w : World) (h : Inv c N w st) (hn : n ≠ 2) (_hn3 : n ≤ 3000) (hN : N + 9000 ≤ 1000000000) :
  Calls Tryz.prog 139 #[.pointer (some ⟨st.ab, 0, none⟩), .slice p n d, .bool tail] w fun e w' => (∃ u, e = .returned u) ∧ SpP c N k st xs none w w' := by
 have t0 : ((n : Int) == 2) = false := by simp; omega
 have HW := mkC (l5wrong_c tail w h (by omega))
 clear h
 go_enter Tryz.func139, Tryz.ntmps139
 go_wp2_with fail
 refine HW.out.mono ?_
 rintro e w1 ⟨⟨u, rfl⟩, h1⟩
 have HF := mkC (wrong_sp (k := k) (xs := xs) h1)
 clear h1 HW
 go_wp2_with fail
 refine bodyPost_ret (results_none rfl _ _ _) rfl ?_
 exact ⟨⟨_, rfl⟩, HF.out⟩
set_option maxRecDepth 20000 in
set_option maxHeartbeats 1000000 in
theorem l5setn_c {c : Cx} {N k : Nat} {st : St} (p : Option Addr) (d x0 x1 : Nat) (tail : Bool) (w : World) (h : Inv c N w st) (hx : Ix st w p 2 d [x0, x1]) (hp : Pcs c k [x0, x1]) (hs : isSy (c.ds.drop x0) = false) (hN : N + 9000 ≤ 1000000000) :
  Calls Tryz.prog 139 #[.pointer (some ⟨st.ab, 0, none⟩), .slice p 2 d, .bool tail] w fun e w' => (∃ u, e = .returned u) ∧ SpP c N k st [x0, x1] none w w' := by
 obtain ⟨g, o, rfl, hg, y0⟩ := hx.at_ (i := 0) (by simp)
 simp only [List.getElem_cons_zero, Nat.add_zero] at y0
 have HS := mkC (l5sym_c x0 w h (hp x0 (by simp)).1)
 rw [hs] at HS
 have HW := mkC (l5wrong_c tail w h (by omega))
 clear h hx hp
 go_enter Tryz.func139, Tryz.ntmps139
 go_wp2_with fail
 refine HS.out.mono ?_
 rintro e w1 ⟨rfl, rfl⟩
 go_wp2_with fail
 refine HW.out.mono ?_
 rintro e w1 ⟨⟨u, rfl⟩, h1⟩
 have HF := mkC (wrong_sp (k := k) (xs := [x0, x1]) h1)
 clear h1 HW
 go_wp2_with fail
 refine bodyPost_ret (results_none rfl _ _ _) rfl ?_
 exact ⟨⟨_, rfl⟩, HF.out⟩
end Cp
end Go.Proofs.YtnnpfoilojicjaaGreatDoor
