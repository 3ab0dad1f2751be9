import Derived.Test.YtnnpfoilojicjaaGreatDoorB1
namespace Go.Proofs.YtnnpfoilojicjaaGreatDoor
open Go.RowKit Ch1
namespace Cp
set_option maxRecDepth 20000 in
set_option maxHeartbeats 8000000 in
theorem l5lam_c (tl : Bool) {c : Cx} {N k : Nat} {st : St} (hE : ExC c k) (p : Option Addr) (m d x0 : Nat) (bs : List Nat) (w : World) (r : Option (List (List Int))) (hr : r = lamR k (rd (st.gl.map (·.x)) k) st.sc (Cp.at_ c (x0 :: bs))) (h : Inv c N w st) (hx : Ix st w p (m + 2) d (x0 :: bs)) (hp : Pcs c k (x0 :: bs)) (hls : isLs (c.ds.drop x0) = true) (hN : N + sumB k (Cp.at_ c (x0 :: bs)) + 9000 ≤ 1000000000) (hb : st.bo + sumS k (Cp.at_ c (x0 :: bs)) ≤ 3000) :
  Calls Tryz.prog 137 #[.pointer (some ⟨st.ab, 0, none⟩), .slice p (m + 2 : Nat) d, .bool tl] w fun e w' => (∃ u, e = .returned u) ∧ SpP c N k st (x0 :: bs) r w w' := by
 have HE := mkC hE
 have HX := mkC hx
 have HP := mkC hp
 have HNB : Hid (N + bud k (c.ds.drop x0) + 10 + sumB k (Cp.at_ c bs) + 9000 ≤ 1000000000 ∧ st.bo + sz k (c.ds.drop x0) + sumS k (Cp.at_ c bs) ≤ 3000) := by
  unfold Hid
  simp only [Cp.at_, List.map_cons, sumB, sumS] at hN hb ⊢
  omega
 have HBU : Hid (20000 * sz k (c.ds.drop x0) = bud k (c.ds.drop x0) + 10000) := by
  unfold Hid bud
  have := sz_pos (hp x0 (by simp)).2
  omega
 have HR := mkC hr
 have HL : Hid (bs.length = m + 1) := by have := hx.len; simp at this; exact this
 have hm3 : m + 2 ≤ 3000 := by
  have h1 := len_sum (Pcs.ok hp)
  have h2 := hx.len
  rw [show (Cp.at_ c (x0 :: bs)).length = (x0 :: bs).length by simp [Cp.at_]] at h1
  omega
 have t0 : decide ((m : Int) + 2 < 2) = false := decide_eq_false (by omega)
 have hmc : m + 2 ≤ d := hx.cap
 have hm0 : (0 : Int) < (m : Int) + 2 := by omega
 obtain ⟨g, o, rfl, hg, y0⟩ := hx.at_ (i := 0) (by simp)
 simp only [List.getElem_cons_zero, Nat.add_zero] at y0
 have hx0 : x0 < c.dn := (hp x0 (by simp)).1
 have HOK0 : Hid (Ok k (c.ds.drop x0)) := (hp x0 (by simp)).2
 have HLS := mkC hls
 obtain ⟨db, dof, hdp, hdc, _, _⟩ := h.dtAt hx0
 have e0 := (cells10 h.blk).1
 rw [hdp] at e0
 have k0 := (hdc w h.bel).1
 have hk3 : (hd (c.ds.drop x0)).kind = 3 := by unfold isLs at hls; simpa using hls
 rw [hk3] at k0
 have hdn := h.dn
 have HB0 : Hid (Below w.heap.size w w.drew.drew) := below_drewC (below_drewC (Below.refl _ _))
 have HI := mkC h
 have HK := mkC (kidsA (k := k) w.drew.drew (h.stp HB0.out).inv hx0 HOK0.out hls)
 rw [hdp] at HK
 have HNA : Hid (∀ (w1 : World) (p1 : Option Addr) (c1 : Nat) (ks : List Nat), OwI w1 w.heap.size (.slice p1 ks.length c1) ks ∧ Below w.heap.size w w1 ∧ Cp.at_ c ks = kidsOf k (c.ds.drop x0) ∧ Pcs c (k - 1) ks → Calls Tryz.prog 171 #[.pointer (some ⟨st.ab, 0, none⟩), .slice p1 ks.length c1] w1 fun e w2 => ∃ v, e = .returned v ∧ ∃ (q : Option Addr) (n qc : Nat) (ok : Bool), v = .tuple #[.slice q n qc, .bool ok] ∧ LaN c k x0 w w2 q n qc ok) := fun w1 p1 c1 ks hh => names_la HI.out HOK0.out HLS.out (by have := HNB.out; omega) hh.1 hh.2.1 hh.2.2.1 hh.2.2.2
 clear h hx hp hE hN hb hr hls hdp hdc hk3
 go_enter Tryz.func137, Tryz.ntmps137
 go_wp2_with fail
 go_region
 go_wp2_with fail
 go_cut [6, 7] from 36 (fun nv ov w2 => ∃ (q : Option Addr) (n qc : Nat) (ok : Bool), nv = .slice q n qc ∧ ov = .bool ok ∧ LaN c k x0 w w2 q n qc ok)
 case first =>
  go_region_law (first
   | (refine step_callC _ rfl 40 _ _ rfl #[.slice (some ⟨db, dof, none⟩) c.dn c.dc, .int .i64 (x0 : Nat)] ?ha (inKids _) (fun v w1 => ∃ (p1 : Option Addr) (c1 : Nat) (ks : List Nat), v = .slice p1 ks.length c1 ∧ OwI w1 w.heap.size (.slice p1 ks.length c1) ks ∧ Below w.heap.size w w1 ∧ Cp.at_ c ks = kidsOf k (c.ds.drop x0) ∧ Pcs c (k - 1) ks) (HK.out.mono (fun e w1 hh => (by obtain ⟨p1, c1, ks, h1, h2, h3, h4, h5, _⟩ := hh; exact ⟨_, h1, p1, c1, ks, rfl, h2, HB0.out.trans h3, h4, h5⟩))) ?_; (case ha => first | (simp [Act.eval]; done) | (simp [Act.eval, Act.put]; done)); rintro v w1 ⟨p1, c1, ks, rfl, hh1⟩; have HH1 := mkC hh1; clear hh1)
   | (refine step_callC _ rfl 171 _ _ rfl #[.pointer (some ⟨st.ab, 0, none⟩), .slice p1 ks.length c1] ?ha (inNames _) (fun v w2 => ∃ (q : Option Addr) (n qc : Nat) (ok : Bool), v = .tuple #[.slice q n qc, .bool ok] ∧ LaN c k x0 w w2 q n qc ok) (HNA.out w1 p1 c1 ks HH1.out) ?_; (case ha => first | (simp [Act.eval]; done) | (simp [Act.eval, Act.put]; done)); rintro v w2 ⟨q, n, qc, ok, rfl, hh2⟩; have HH2 := mkC hh2; clear hh2))
  all_goals go_wp2_with fail
  all_goals go_meet
  all_goals exact ⟨_, _, _, _, rfl, rfl, HH2.out⟩
 case rest =>
 obtain ⟨q, np, qc, ok, rfl, rfl, hb2, hla⟩ := hcut
 obtain ⟨w2, hw2⟩ : ∃ w2, w2 = wc := ⟨_, rfl⟩
 subst hw2
 have HS2 := mkC (HI.out.stp hb2)
 clear HK HNA y0 k0 e0 t0 hb2
 rcases hla with ⟨rfl, hno⟩ | ⟨rfl, ms, hns, hnm, hml, hnz, hqo⟩
 ·have HRN : Hid (r = none) := by unfold Hid; rw [HR.out]; exact lamR_names hno
  have HW := mkC (l5wrong_c tl w2 HS2.out.inv (by have := HNB.out; omega))
  clear hno
  go_wp2_with fail
  refine HW.out.mono ?_
  rintro e wx ⟨⟨u, rfl⟩, st', h1, h2, h3⟩
  have HF : Hid (SpP c N k st (x0 :: bs) r w wx) := by
   unfold Hid
   rw [HRN.out]
   exact wrong_sp ⟨st', HS2.out.trans h1, h2, h3⟩
  clear h1 h2 h3 HW
  go_wp2_with fail
  refine bodyPost_ret (results_none rfl _ _ _) rfl ?_
  exact ⟨⟨_, rfl⟩, HF.out⟩
 have HRS : Hid (r = allO (rd (st.gl.map (·.x)) k (st.sc ++ ms.map (·.x))) (Cp.at_ c bs)) := by
  unfold Hid
  rw [HR.out, lamR_some HLS.out (by intro e; have := HL.out; rw [e] at this; simp at this) hns]
 have HNM := mkC hnm
 have HML := mkC hml
 have HNZ := mkC hnz
 have HQO := mkC hqo
 have HQX : Hid (Ex st (.slice q np qc)) := fun kk hk hp2 => by
  have h1 := owns_ge HQO.out kk hk
  have h2 := (HI.out.fp_lt hp2).1
  omega
 have hnp3 : np ≤ 3000 := by have := HNB.out; omega
 clear hns hnm hml hnz hqo
 obtain ⟨fp, fc, hfv⟩ := owns_form HS2.out.inv.fn
 have e7 := (cells10 HS2.out.inv.blk).2.2.2.2.2.2.1
 rw [hfv] at e7
 obtain ⟨nf, hnf⟩ : ∃ nf, nf = st.nf := ⟨_, rfl⟩
 rw [← hnf] at e7
 have hnfb : nf ≤ 1000000000 := by have h1 := HI.out.len.2.2.1; have h2 := HNB.out; omega
 have HNF := mkC hnf
 have HFO : Hid (w2.ownsRow c.w0.heap.size 88 3 (.slice fp nf fc) nf st.fx) := by unfold Hid; have h1 := HS2.out.inv.fn; rw [hfv, ← hnf] at h1; exact h1
 have HBK := mkC HS2.out.inv.blk
 have hB0 : c.w0.heap.size ≤ w2.heap.size := HS2.out.inv.bel.size
 have HADF : Hid (∀ v' w3, w3.ownsRow c.w0.heap.size 88 3 v' (nf + 1) (st.fx ++ [.int .i64 0, .slice none 0 0, .slice none 0 0]) → Below c.w0.heap.size w2 w3 → But w2 w3 (.slice fp nf fc) → (∀ k, v'.ownBlock = some k → (Value.slice fp nf fc).ownBlock = some k ∨ w2.heap.size ≤ k) → ∃ s1, Stp c (N + 1) st w2 s1 (w3.setCell ⟨st.ab, 7, none⟩ v') ∧ Qt st s1 ∧ s1.nf = nf + 1) := fun v' w3 h1 h2 h3 h4 => by
  have h5 := HS2.out.inv.addFn (w1 := w3) (v' := v') (a := .int .i64 0) (b := .slice none 0 0) (d := .slice none 0 0) (by rw [← HNF.out]; exact h1) h2 (by rw [hfv, ← HNF.out]; exact h3) (by rw [hfv, ← HNF.out]; exact h4)
  exact ⟨_, h5, ⟨rfl, rfl, rfl⟩, by show st.nf + 1 = nf + 1; rw [← HNF.out]⟩
 clear hfv hnf
 go_upto_region 7 with (at_builtin; refine appW_at w2 rfl (.tmp 63) (.tmp 65) 43 88 rfl _ 3 56 Tryz.underlying43 infoFu rfl (by decide) c.w0.heap.size (.slice fp nf fc) nf st.fx (by simp [Act.eval]) HFO.out #[.int .i64 0, .slice none 0 0, .slice none 0 0] rfl (by simp [Value.oneCell']) (by simp [Act.eval]) (by unfold maxLen; omega) (by omega) hB0 ?_; intro v' w3 ho hb3 hbt hloc hsz; obtain ⟨p3, c3, hv3⟩ := owns_form ho; subst hv3; have HAD := mkC (HADF.out _ w3 ho hb3 hbt hloc); have r7 := (cells10 ((hbt _ (Array.getElem?_eq_some_iff.1 HBK.out).1 (owns_ne HFO.out HBK.out (by decide))).trans HBK.out)).2.2.2.2.2.2.1; have rf := (cells10 ((hbt _ (Array.getElem?_eq_some_iff.1 HBK.out).1 (owns_ne HFO.out HBK.out (by decide))).trans HBK.out)).2.2.2.2.2.2.2.2.2; clear ho hb3 hbt hloc e7)
 obtain ⟨W4, hW4⟩ : ∃ W4, W4 = w3.setCell ⟨st.ab, 7, none⟩ (.slice p3 (nf + 1) c3) := ⟨_, rfl⟩
 rw [← hW4] at HAD ⊢
 obtain ⟨s1, hs1, hq1, hnf1⟩ := HAD.out
 have HS1 := mkC hs1
 have HQ1 := mkC (And.intro hq1 hnf1)
 have hab1 : s1.ab = st.ab := hs1.sm.ab
 clear hW4 HAD HADF r7 rf HBK HFO hq1 hnf1
 go_upto_region 8 with fail
 obtain ⟨W5, hW5⟩ : ∃ W5, W5 = W4.alloc (.cells #[.slice none 0 0, .slice none 0 0, .int .i64 (np : Nat), .slice none 0 0, .int .i64 (np : Nat)] 86) := ⟨_, rfl⟩
 rw [← hW5]
 have hB5 : Below W4.heap.size W4 W5 := by rw [hW5]; exact below1 _ _
 have HI5 := mkC (hs1.inv.stp hB5)
 obtain ⟨og, oc, hov, hogs, hog0, hogc, hocs⟩ := HI5.out.inv.opAt
 have e5 := (cells10 HI5.out.inv.blk).2.2.2.2.1
 rw [hov, hab1] at e5
 have HOO : Hid (W5.ownsRow c.w0.heap.size 82 1 (.slice (some ⟨og, 0, none⟩) (s1.lo.length + 1) oc) (s1.lo.length + 1) (fnC s1.all)) := by unfold Hid; have h1 := HI5.out.inv.op; rw [hov, all_len] at h1; exact h1
 have hol : s1.lo.length + 1 ≤ 1000000000 := by have h1 := HI5.out.inv.len.1; rw [all_len] at h1; have h2 := HNB.out; omega
 have HBK := mkC HI5.out.inv.blk
 rw [hab1] at HBK
 have hB0 : c.w0.heap.size ≤ W5.heap.size := HI5.out.inv.bel.size
 have HADO : Hid (∀ v' w6, w6.ownsRow c.w0.heap.size 82 1 v' (s1.lo.length + 1 + 1) (fnC s1.all ++ [.pointer (some ⟨W4.heap.size, 0, none⟩)]) → Below c.w0.heap.size W5 w6 → But W5 w6 (.slice (some ⟨og, 0, none⟩) (s1.lo.length + 1) oc) → (∀ k, v'.ownBlock = some k → (Value.slice (some ⟨og, 0, none⟩) (s1.lo.length + 1) oc).ownBlock = some k ∨ W5.heap.size ≤ k) → ∃ s, LaS c (N + 2) st w2 W4.heap.size [] s (w6.setCell ⟨st.ab, 5, none⟩ v') ∧ s.bo = st.bo ∧ s.nf = nf + 1) := fun v' w6 h1 h2 h3 h4 => by
  have h5 := HS1.out.inv.open_ (w2 := w6) (n := (np : Nat)) (v' := v') (by rw [all_len]; exact h1) (by rw [← hW5]; exact h2) (by rw [← hW5, hov]; exact h3) (fun j hj => by
   rcases h4 j hj with h6 | h6
   ·exact Or.inl (by rw [hov]; exact h6)
   ·exact Or.inr (Nat.le_trans hB5.size h6))
  rw [hab1] at h5
  have h7 := Pu.open_ (st := s1) v' W4.heap.size (np : Nat)
  refine ⟨_, ⟨h5.1, HS1.out.fr.trans h5.2, ?_, HQ1.out.1.1, HQ1.out.1.2.1⟩, HQ1.out.1.2.2, HQ1.out.2⟩
  refine ⟨h7.ab.trans HS1.out.sm.ab, h7.gl.trans HS1.out.sm.gl, h7.glv.trans HS1.out.sm.glv, by rw [h7.len, HS1.out.sm.len], fun i f f' h8 h9 => ?_, h7.tb, h7.tv, Nat.le_trans HS1.out.sm.bx h7.bx, Nat.le_trans HS1.out.sm.bo h7.bo, Nat.le_trans HS1.out.sm.nf h7.nf⟩
  have hi : i < s1.all.length := by
   have := (List.getElem?_eq_some_iff.1 h8).1
   rw [all_len] at this ⊢
   rw [HS1.out.sm.len]; exact this
  obtain ⟨a1, a2, a3⟩ := HS1.out.sm.fn i f _ h8 (List.getElem?_eq_getElem hi)
  obtain ⟨b1, b2, b3⟩ := h7.fn i _ f' (List.getElem?_eq_getElem hi) h9
  exact ⟨b1.trans a1, b2.trans a2, Nat.le_trans a3 b3⟩
 obtain ⟨fb, hfb⟩ : ∃ fb, fb = W4.heap.size := ⟨_, rfl⟩
 rw [← hfb] at HADO ⊢
 obtain ⟨ol, hol2⟩ : ∃ ol, ol = s1.lo.length := ⟨_, rfl⟩
 rw [← hol2] at HADO HOO e5 hol
 clear hs1 hab1 hW5 hB5 hov hogs hog0 hogc hocs hfb hol2
 go_wp2_with (at_builtin; refine appW_at W5 rfl (.tmp 79) (.tmp 81) 41 82 rfl _ 1 8 Tryz.underlying41 infoFp rfl (by decide) c.w0.heap.size (.slice (some ⟨og, 0, none⟩) (ol + 1) oc) (ol + 1) (fnC s1.all) (by simp [Act.eval]) HOO.out #[.pointer (some ⟨fb, 0, none⟩)] rfl (by simp [Value.oneCell']) (by simp [Act.eval]) (by unfold maxLen; omega) (by omega) hB0 ?_; intro v' w6 ho hb6 hbt hloc hsz; obtain ⟨p6, c6, hv6⟩ := owns_form ho; subst hv6; have HAD := mkC (HADO.out _ w6 ho hb6 hbt hloc); have r5 := (cells10 ((hbt _ (Array.getElem?_eq_some_iff.1 HBK.out).1 (owns_ne HOO.out HBK.out (by decide))).trans HBK.out)).2.2.2.2.1; have rf := (cells10 ((hbt _ (Array.getElem?_eq_some_iff.1 HBK.out).1 (owns_ne HOO.out HBK.out (by decide))).trans HBK.out)).2.2.2.2.2.2.2.2.2; clear ho hb6 hbt hloc e5)
 obtain ⟨W6, hW6⟩ : ∃ W6, W6 = w6.setCell ⟨st.ab, 5, none⟩ (.slice p6 (ol + 1 + 1) c6) := ⟨_, rfl⟩
 rw [← hW6] at HAD ⊢
 clear hW6 HADO r5 rf HBK HOO HS1 HQ1
 go_loopw [10] (fun jv wr => ∃ j : Nat, j ≤ np ∧ jv = .int .i64 (j : Nat) ∧ Hid (∃ s, LaS c (N + 2 + j) st w2 fb (ms.take j) s wr ∧ s.bo = st.bo + j ∧ nf + 1 ≤ s.nf)) (fun jv _ => np - (intOf jv).toNat)
 case atStart =>
  obtain ⟨s, h1, h2, h3⟩ := HAD.out
  exact ⟨0, Nat.zero_le _, rfl, s, by simpa using h1, by rw [h2]; rfl, by omega⟩
 case round =>
  obtain ⟨j, hj, rfl, hV⟩ := hrel
  obtain ⟨s, hs, hsb, hsn⟩ := hV.out
  by_cases hjn : j < np
  ·have HQR := mkC (Ex.keep HQO.out HQX.out hs.fr)
   have hjm : j < ms.length := by rw [HML.out]; exact hjn
   obtain ⟨qg, rfl, _, yq⟩ := owN_cell HQR.out.1 HML.out hjm
   have hqc : np ≤ qc := (owns_cells HQR.out.1).1
   have HMJ := mkC (HNM.out _ (List.getElem_mem hjm))
   have HMT : Hid (ms.take (j + 1) = ms.take j ++ [ms[j]'hjm]) := List.take_succ_eq_append_getElem hjm
   have hab : s.ab = st.ab := hs.pu.ab
   have HBI := mkC (l5bind_c (st := s) (ms[j]'hjm) (j : Nat) false wr hs.inv HMJ.out (by have h1 := HNB.out; have h2 := HNZ.out; have h3 := HBU.out; omega) (by have h1 := HNB.out; have h2 := HNZ.out; omega))
   rw [hab] at HBI
   unfold nmV at yq
   generalize ms[j]'hjm = mj at yq HMJ HMT HBI
   obtain ⟨mp, mn, mc, mx⟩ := mj
   simp only at yq HBI
   have HFN : Hid (∀ s5 w5, Inv c (N + 2 + j + 1) w5 s5 → Fr s s5 wr w5 → Bd s s5 ⟨mp, mn, mc, mx⟩ (j : Nat) → ∃ s, LaS c (N + 2 + (j + 1)) st w2 fb (ms.take (j + 1)) s w5 ∧ s.bo = st.bo + (j + 1) ∧ nf + 1 ≤ s.nf) := fun s5 w5 h1 h2 h3 => by
    refine ⟨s5, ?_, by rw [h3.bo, hsb]; omega, by rw [h3.nf]; exact hsn⟩
    rw [HMT.out]
    exact (hs.bind h1 h2 h3)
   clear hs hsb hsn hab
   go_wp2_with fail
   refine HBI.out.mono ?_
   rintro e w5 ⟨rfl, s5, h51, h52, h53⟩
   have HFI := mkC (HFN.out s5 w5 h51 h52 h53)
   clear h51 h52 h53
   go_wp2_with fail
   exact ⟨⟨j + 1, by omega, by go_num, HFI.out⟩, by simp [intOf]; omega⟩
  ·have hji : np = j := by omega
   subst hji
   obtain ⟨W7, hW7⟩ : ∃ W7, W7 = wr := ⟨_, rfl⟩
   subst hW7
   rw [List.take_of_length_le (by rw [HML.out]; exact Nat.le_refl _)] at hs
   have HS7 := mkC (And.intro hs (And.intro hsb hsn))
   clear hs hsb hsn
   go_wp2_with fail
   go_loopw [11] (fun jv wr => ∃ j : Nat, j ≤ np ∧ jv = .int .i64 (j : Nat) ∧ Hid (∃ s, LaS c (N + 2 + np + 2 * j) st w2 fb ms s wr ∧ s.bo = st.bo + np ∧ nf + 1 ≤ s.nf)) (fun jv _ => np - (intOf jv).toNat)
   case atStart => exact ⟨0, Nat.zero_le _, rfl, s, HS7.out⟩
   case round =>
    obtain ⟨j, hj, rfl, hV⟩ := hrel
    obtain ⟨s, hs, hsb, hsn⟩ := hV.out
    by_cases hjn : j < np
    ·have htb : s.tp.b = fb := hs.pu.tb
     have hab : s.ab = st.ab := hs.pu.ab
     have hsl : s.tp.vs.length = np := by rw [hs.vl, HML.out]
     obtain ⟨vp, vc, hvv, hvc, _, hva⟩ := hs.inv.tpI.vrAt
     obtain ⟨vg, rfl, _, hvcs⟩ := hva (by omega)
     have e0 := (cells5 hs.inv.tpI.blk).1
     rw [hvv, htb, hsl] at e0
     have hjs : j < s.tp.vs.length := by omega
     have ev := (hvcs j hjs).2.2
     have hbd := hs.inv.tpW.vb _ (List.getElem_mem hjs)
     generalize (s.tp.vs[j]'hjs).bound = vb at ev hbd
     obtain ⟨bp, bc, hbv, hba⟩ := hs.inv.bxAt
     have hb2 := hs.inv.b2
     have e2 := (cells10 hs.inv.blk).2.2.1
     rw [hbv, hab] at e2
     obtain ⟨bg, rfl, _, _, hbc⟩ := hba (by omega)
     have e3 := hbc vb hbd
     generalize s.bx[vb]'hbd = bit at e3
     obtain ⟨bl, hbl⟩ : ∃ bl, bl = s.bx.length := ⟨_, rfl⟩
     rw [← hbl] at e2 hbd hb2
     have HBd := mkC (below_drewC (Below.refl wr.heap.size wr))
     have HS := mkC (And.intro (hs.below HBd.out) (And.intro hsb hsn))
     have HPU := mkC (pushA (s := s) 1 (j : Nat) 0 0 wr.drew (hs.below HBd.out).inv hab (by have h1 := HNB.out; have h2 := HNZ.out; have h3 := HBU.out; omega))
     clear hs hsb hsn htb hab hsl hvv hva hvcs hjs hbv hba hbc hbl
     cases bit
     ·go_wp2_with fail
      go_region
      all_goals go_wp2_with fail
      all_goals exact ⟨⟨j + 1, by omega, by go_num, s, HS.out.1.up (by omega), HS.out.2⟩, by simp [intOf]; omega⟩
     ·go_wp2_with fail
      go_region
      go_wp2_with fail
      refine HPU.out.mono ?_
      rintro e w8 ⟨⟨u, rfl⟩, hm8⟩
      obtain ⟨s8, hs8, hbo8, hnf8⟩ := HS.out.1.emp hm8
      have HS8 := mkC (And.intro hs8 (And.intro hbo8 hnf8))
      have HPU2 := mkC (pushA (s := s8) 5 0 0 1 w8 hs8.inv hs8.pu.ab (by have h1 := HNB.out; have h2 := HNZ.out; have h3 := HBU.out; omega))
      clear hm8 hs8 hbo8 hnf8 HPU e0 ev e2 e3
      go_wp2_with fail
      refine HPU2.out.mono ?_
      rintro e w9 ⟨⟨u, rfl⟩, hm9⟩
      obtain ⟨s9, hs9, hbo9, hnf9⟩ := HS8.out.1.emp hm9
      have htb9 : s9.tp.b = fb := hs9.pu.tb
      have hsl9 : s9.tp.vs.length = np := by rw [hs9.vl, HML.out]
      obtain ⟨vp9, vc9, hvv9, hvc9, _, hva9⟩ := hs9.inv.tpI.vrAt
      obtain ⟨vg9, rfl, _, hvcs9⟩ := hva9 (by omega)
      have hj9 : j < s9.tp.vs.length := by omega
      have e0 := (cells5 hs9.inv.tpI.blk).1
      rw [hvv9, htb9, hsl9] at e0
      have e4 := (cells5 hs9.inv.tpI.blk).2.2.2.2.1
      rw [htb9] at e4
      have ev := (hvcs9 j hj9).2.1
      generalize (s9.tp.vs[j]'hj9).slot = sl8 at ev
      obtain ⟨_, cur, hcur⟩ := owns_lt hs9.inv.tpI.vars vg9 (by rw [hvv9]; rfl)
      have ef : w9.frozen? ⟨vg9, j * 3 + 1, none⟩ = false := by simp [World.frozen?, hcur]
      have HFI : Hid (∀ sl, ∃ s, LaS c (N + 2 + np + 2 * (j + 1)) st w2 fb ms s (w9.drew.setCell ⟨vg9, j * 3 + 1, none⟩ (.int .i64 sl)) ∧ s.bo = st.bo + np ∧ nf + 1 ≤ s.nf) := fun sl => by
       obtain ⟨s10, h1, h2, h3⟩ := (hs9.below (below_drewC (Below.refl w9.heap.size w9))).setVs hvv9 hj9 sl
       exact ⟨s10, h1.up (by omega), by rw [h2, hbo9, HS8.out.2.1, HS.out.2.1], by rw [h3]; exact Nat.le_trans (Nat.le_trans HS.out.2.2 HS8.out.2.2) hnf9⟩
      generalize s9.tp.sl = sl9 at e4
      have hnc9 : np ≤ vc9 := by omega
      clear hm9 hs9 hbo9 hnf9 htb9 hsl9 hvv9 hva9 hvcs9 hj9 hcur HPU2
      go_wp2_with fail
      go_region
      all_goals go_wp2_with fail
      all_goals exact ⟨⟨j + 1, by omega, by go_num, HFI.out _⟩, by simp [intOf]; omega⟩
    ·have hji : np = j := by omega
     subst hji
     obtain ⟨W8, hW8⟩ : ∃ W8, W8 = wr := ⟨_, rfl⟩
     subst hW8
     have hab : s.ab = st.ab := hs.pu.ab
     have HBD := mkC (l5body_c (st := s) HE.out (some ⟨g, o + 1, none⟩) (m + 1) (d - 1) bs true W8 hs.inv ?_ (fun x hx => HP.out x (List.mem_cons_of_mem _ hx)) (by have h1 := HNB.out; have h2 := HNZ.out; have h3 := HBU.out; omega) (by have h1 := HNB.out; have h2 := HNZ.out; omega))
     rotate_left
     ·obtain ⟨d', rfl⟩ : ∃ d', d = d' + 1 := ⟨d - 1, by omega⟩
      have h1 := ((HX.out.step HS2.out.fr).step hs.fr).tail (p' := some ⟨g, o + 1, none⟩) (fun _ => rfl)
      simpa using h1
     rw [hab] at HBD
     have HS8 := mkC (And.intro hs (And.intro hsb hsn))
     clear hab hs hsb hsn
     go_wp2_with fail
     refine HBD.out.mono ?_
     rintro e w10 ⟨⟨u, rfl⟩, s10, hq10⟩
     obtain ⟨hi10, hf10, hp10, hr10, hb10⟩ := HS8.out.1.sq hq10
     have hn10 : nf + 1 ≤ s10.nf := Nat.le_trans HS8.out.2.2 hq10.stp.sm.nf
     obtain ⟨lo, t, hlo⟩ := lo_split hp10
     obtain ⟨og, oc, hov, _, _, _, _⟩ := hi10.opAt
     have e5 := (cells10 hi10.blk).2.2.2.2.1
     have ef := (cells10 hi10.blk).2.2.2.2.2.2.2.2.2
     rw [hp10.ab] at e5 ef
     rw [hov] at e5
     have hpop := (hi10.stp (below_drewC (Below.refl w10.heap.size w10))).inv.pop hlo hov
     rw [hp10.ab] at hpop
     have HPO : Hid (∃ s11, Stp c (N + 2 + 3 * np + sumB k (Cp.at_ c bs)) st w s11 (w10.drew.setCell ⟨st.ab, 5, none⟩ (.slice (some ⟨og, 0, none⟩) s10.lo.length oc)) ∧ RsP r st s11 ∧ s11.bo ≤ st.bo + np + sumS k (Cp.at_ c bs) ∧ nf + 1 ≤ s11.nf ∧ Fz c s11 (w10.drew.setCell ⟨st.ab, 5, none⟩ (.slice (some ⟨og, 0, none⟩) s10.lo.length oc)) s10.tp ∧ s10.tp.b = fb ∧ s10.tp.fs.length ≤ 3000 ∧ ∀ x ∈ s10.tp.fs, x < s11.bx.length) := by
      refine ⟨_, ⟨hpop.1.mono (by omega), ((HS2.out.fr.trans hf10).trans (hi10.stp (below_drewC (Below.refl w10.heap.size w10))).fr).trans hpop.2.1, hp10.pop hlo _⟩, ?_, ?_, hn10, hpop.2.2, hp10.tb, ?_, hi10.tpW.fb⟩
      ·rw [HRS.out]
       exact hr10.then_ ⟨rfl, rfl, rfl⟩
      ·show s10.bo ≤ _
       have := HS8.out.2.1
       omega
      ·have h1 := nodup_le hi10.tpW.nd hi10.tpW.fb
       have h2 := hi10.b2
       omega
     obtain ⟨L, hL⟩ : ∃ L, L = s10.lo.length := ⟨_, rfl⟩
     have hLb : L ≤ 1000000000 := by have h1 := hi10.len.1; rw [all_len] at h1; have h2 := HNB.out; have h3 := HNZ.out; have h4 := HBU.out; omega
     have hLc : L + 1 ≤ oc := by have h1 := hi10.op; rw [hov, all_len] at h1; rw [hL]; exact (owns_cells h1).1
     rw [← hL] at HPO e5
     generalize s10.tp = f at HPO
     clear hq10 hi10 hf10 hp10 hr10 hb10 hn10 hlo hov hpop hL HBD
     go_wp2_with fail
     go_region
     obtain ⟨W11, hW11⟩ : ∃ W11, W11 = (w10.setCell ⟨st.ab, 5, none⟩ (.slice (some ⟨og, 0, none⟩) L oc)).drew := ⟨_, rfl⟩
     have hW11b : W11 = w10.drew.setCell ⟨st.ab, 5, none⟩ (.slice (some ⟨og, 0, none⟩) L oc) := hW11.trans rfl
     rw [← hW11b] at HPO
     rw [← hW11]
     clear hW11b
     obtain ⟨s11, hs11, hr11, hb11, hn11, hfz11, hfb11, hfl11, hfx11⟩ := HPO.out
     obtain ⟨NN, hNN⟩ : ∃ NN, NN = N + 2 + 3 * np + sumB k (Cp.at_ c bs) := ⟨_, rfl⟩
     rw [← hNN] at hs11
     have HNN : Hid (NN + 4000 ≤ 1000000000 ∧ NN + 4000 ≤ N + sumB k (Cp.at_ c (x0 :: bs)) + 9000) := by
      unfold Hid
      have h1 := HNB.out
      have h2 := HNZ.out
      have h3 := HBU.out
      simp only [Cp.at_, List.map_cons, sumB] at h1 hNN ⊢
      omega
     have HBO2 : Hid (s11.bo ≤ st.bo + sumS k (Cp.at_ c (x0 :: bs))) := by
      unfold Hid
      have h1 := HNZ.out
      simp only [Cp.at_, List.map_cons, sumS] at hb11 ⊢
      omega
     have HS11 := mkC (And.intro hs11 (And.intro hr11 hn11))
     have HFZ11 := mkC (And.intro hfz11 (And.intro hfb11 hfx11))
     have hab11 : s11.ab = st.ab := hs11.sm.ab
     have HAB := mkC hab11
     obtain ⟨fl, hfl⟩ : ∃ fl, fl = f.fs.length := ⟨_, rfl⟩
     have HFL := mkC hfl
     rw [← hfl] at hfl11
     clear hs11 hr11 hb11 hn11 hfz11 hfb11 hfx11 hab11 hfl hNN hW11 HPO e5 ef hLb hLc
     go_wp2_with fail
     go_loopw [12, 13] (fun bv iv wr => ∃ (i : Nat) (bp : Option Addr) (bc : Nat), i ≤ fl ∧ iv = .int .i64 (i : Nat) ∧ bv = .slice bp i bc ∧ Hid (Below W11.heap.size W11 wr ∧ ∃ bits, wr.ownsRow W11.heap.size 4 1 (.slice bp i bc) i bits)) (fun _ iv _ => fl - (intOf iv).toNat)
     case atStart => exact ⟨0, none, 0, Nat.zero_le _, rfl, rfl, Below.refl _ _, [], nil_own _ _ _ _⟩
     case round =>
      obtain ⟨i, bp, bc, hi, rfl, rfl, hV⟩ := hrel
      obtain ⟨hbw, bits, hbo⟩ := hV.out
      have HBW := mkC hbw
      have HBO := mkC hbo
      have HST := mkC (HS11.out.1.inv.stp hbw)
      have HFZ := mkC (HFZ11.out.1.keep HST.out.fr)
      have e1 := (cells5 HFZ.out.I.blk).2.1
      obtain ⟨fvp, fvc, hfv⟩ := owns_form HFZ.out.I.free
      rw [hfv, HFZ11.out.2.1, ← HFL.out] at e1
      have hfvo := HFZ.out.I.free
      rw [hfv, ← HFL.out] at hfvo
      have hBd : W11.heap.size ≤ wr.drew.heap.size := hbw.size
      by_cases hif : i < fl
      ·have hil : i < f.fs.length := by rw [← HFL.out]; exact hif
       obtain ⟨hfc1, _, hfcs⟩ := owns_cells hfvo
       obtain ⟨fg, rfl, _, _, _, hfcl⟩ := hfcs (by omega)
       have ei : wr.cell? ⟨fg, i, none⟩ = some (.int .i64 ((f.fs[i]'hil : Nat) : Int)) := by
        rw [hfcl i (by omega)]
        unfold inC
        rw [List.getElem?_map, List.getElem?_eq_getElem hil]
        rfl
       have hxb := HFZ11.out.2.2 _ (List.getElem_mem hil)
       generalize f.fs[i]'hil = x at ei hxb
       obtain ⟨bp2, bc2, hbv, hba⟩ := HST.out.inv.bxAt
       have hb2 := HST.out.inv.b2
       have e2 := (cells10 HST.out.inv.blk).2.2.1
       rw [hbv, HAB.out] at e2
       obtain ⟨bg, rfl, _, _, hbc⟩ := hba (by omega)
       have e3 := hbc x hxb
       generalize s11.bx[x]'hxb = bit at e3
       obtain ⟨bl, hbl⟩ : ∃ bl, bl = s11.bx.length := ⟨_, rfl⟩
       rw [← hbl] at e2 hxb hb2
       have HF : Hid (∀ p3 c3 w13 (bt : List Value), w13.ownsRow W11.heap.size 4 1 (.slice p3 (i + 1) c3) (i + 1) bt → Below W11.heap.size wr.drew w13 → Below W11.heap.size W11 w13 ∧ ∃ bits, w13.ownsRow W11.heap.size 4 1 (.slice p3 (i + 1) c3) (i + 1) bits) := fun p3 c3 w13 bt h1 h2 => ⟨(below_drewC HBW.out).trans h2, bt, h1⟩
       clear hbw hbo hfv hfvo hfcs hfcl hil hbv hba hbc hbl
       cases bit
       ·have HOD : Hid (wr.drew.ownsRow W11.heap.size 4 1 (.slice bp i bc) i bits) := owns_below HBO.out (below_drewC (Below.refl _ _))
        go_wp2_with fail
        go_region_law (refine appW_stepC wr.drew rfl (.tmp 162) (.tmp 176) 40 4 rfl _ 1 1 Tryz.underlying40 info4C rfl (by decide) W11.heap.size (.slice bp i bc) i bits ?hs HOD.out #[.bool false] rfl (by simp [Value.oneCell']) ?hx (by unfold maxLen; omega) (by omega) hBd ?_; (case hs => first | (simp [Act.eval]; done) | (simp [Act.eval, Act.put]; done)); (case hx => first | (simp [Act.eval]; done) | (simp [Act.eval, Act.put]; done)); intro p3 c3 w13 ho3 hb3 hbt3 hloc3; have HFI := mkC (HF.out p3 c3 w13 _ ho3 hb3); clear ho3 hb3 hbt3 hloc3)
        all_goals go_wp2_with fail
        all_goals exact ⟨⟨i + 1, p3, c3, by omega, by go_num, rfl, HFI.out⟩, by simp [intOf]; omega⟩
       ·have HOD : Hid (wr.drew.ownsRow W11.heap.size 4 1 (.slice bp i bc) i bits) := owns_below HBO.out (below_drewC (Below.refl _ _))
        go_wp2_with fail
        go_region_law (refine appW_stepC wr.drew rfl (.tmp 162) (.tmp 176) 40 4 rfl _ 1 1 Tryz.underlying40 info4C rfl (by decide) W11.heap.size (.slice bp i bc) i bits ?hs HOD.out #[.bool true] rfl (by simp [Value.oneCell']) ?hx (by unfold maxLen; omega) (by omega) hBd ?_; (case hs => first | (simp [Act.eval]; done) | (simp [Act.eval, Act.put]; done)); (case hx => first | (simp [Act.eval]; done) | (simp [Act.eval, Act.put]; done)); intro p3 c3 w13 ho3 hb3 hbt3 hloc3; have HFI := mkC (HF.out p3 c3 w13 _ ho3 hb3); clear ho3 hb3 hbt3 hloc3)
        all_goals go_wp2_with fail
        all_goals exact ⟨⟨i + 1, p3, c3, by omega, by go_num, rfl, HFI.out⟩, by simp [intOf]; omega⟩
      ·have hji : fl = i := by omega
       subst hji
       obtain ⟨W12, hW12⟩ : ∃ W12, W12 = wr := ⟨_, rfl⟩
       subst hW12
       have e2 := (cells5 HFZ.out.I.blk).2.2.1
       have e3 := (cells5 HFZ.out.I.blk).2.2.2.1
       obtain ⟨cvp, cvc, hcv⟩ := owns_form HFZ.out.I.code
       rw [HFZ11.out.2.1] at e2 e3
       rw [hcv] at e3
       obtain ⟨fnp, fnc, hfn⟩ := owns_form HST.out.inv.fn
       have e7 := (cells10 HST.out.inv.blk).2.2.2.2.2.2.1
       rw [hfn, HAB.out] at e7
       have hfno := HST.out.inv.fn
       rw [hfn] at hfno
       obtain ⟨_, _, hfns⟩ := owns_cells hfno
       have hnf11 := HS11.out.2.2
       obtain ⟨fng, rfl, _, _, ⟨cur, hcur⟩, hfncl⟩ := hfns (by omega)
       have hfxl := HST.out.inv.fxl
       have c0 := hfncl (nf * 3) (by omega)
       have c1 := hfncl (nf * 3 + 1) (by omega)
       have c2 := hfncl (nf * 3 + 2) (by omega)
       rw [List.getElem?_eq_getElem (by omega)] at c0 c1 c2
       have ef : ∀ o, W12.frozen? ⟨fng, o, none⟩ = false := fun o => by simp [World.frozen?, hcur]
       generalize s11.fx[nf * 3]'(by omega) = v0 at c0
       generalize s11.fx[nf * 3 + 1]'(by omega) = v1 at c1
       generalize s11.fx[nf * 3 + 2]'(by omega) = v2 at c2
       have hnb : s11.nf ≤ 1000000000 := by have h1 := HST.out.inv.len.2.2.1; have h2 := HNN.out; omega
       have HFU : Hid (∀ a b dd, ∃ s12, Stp c NN st w s12 (((W12.drew.setCell ⟨fng, nf * 3, none⟩ a).setCell ⟨fng, nf * 3 + 1, none⟩ b).setCell ⟨fng, nf * 3 + 2, none⟩ dd) ∧ RsP r st s12 ∧ s12.bo ≤ st.bo + sumS k (Cp.at_ c (x0 :: bs)) ∧ Fz c s12 (((W12.drew.setCell ⟨fng, nf * 3, none⟩ a).setCell ⟨fng, nf * 3 + 1, none⟩ b).setCell ⟨fng, nf * 3 + 2, none⟩ dd) f ∧ ∀ x ∈ f.fs, x < s12.bx.length) := fun a b dd => by
        have hbd := below_drewC (Below.refl W12.heap.size W12)
        obtain ⟨fx', h1⟩ := (HST.out.inv.stp hbd).inv.setFu hfn nf a b dd
        exact ⟨_, HS11.out.1.trans (HST.out.trans ((HST.out.inv.stp hbd).trans h1)), HS11.out.2.1.then_ ⟨rfl, rfl, rfl⟩, HBO2.out, (HFZ.out.keep (HST.out.inv.stp hbd).fr).keep h1.fr, HFZ11.out.2.2⟩
       obtain ⟨nf11, hnn11⟩ : ∃ nf11, nf11 = s11.nf := ⟨_, rfl⟩
       rw [← hnn11] at e7 hnf11 hnb
       obtain ⟨fcn, hfcn⟩ : ∃ fcn, fcn = f.cn := ⟨_, rfl⟩
       rw [← hfcn] at e3
       have hflc : fl ≤ fvc := (owns_cells hfvo).1
       clear hbw hbo hfv hfvo hcv hfn hfno hfns hfncl hcur hfxl hnn11 hfcn HBO HBW
       go_wp2_with fail
       go_region
       obtain ⟨W13, hW13⟩ : ∃ W13, W13 = (((W12.setCell ⟨fng, nf * 3, none⟩ (.int .i64 f.pa)).setCell ⟨fng, nf * 3 + 1, none⟩ (.slice bp fl bc)).setCell ⟨fng, nf * 3 + 2, none⟩ (.slice cvp fcn cvc)).drew := ⟨_, rfl⟩
       have HFW := mkC (HFU.out (.int .i64 f.pa) (.slice bp fl bc) (.slice cvp fcn cvc))
       have hW13b : W13 = ((W12.drew.setCell ⟨fng, nf * 3, none⟩ (.int .i64 f.pa)).setCell ⟨fng, nf * 3 + 1, none⟩ (.slice bp fl bc)).setCell ⟨fng, nf * 3 + 2, none⟩ (.slice cvp fcn cvc) := hW13.trans rfl
       rw [← hW13b] at HFW
       rw [← hW13]
       clear hW13b
       obtain ⟨s12, hs12, hr12, hb12, hfz12, hfx12⟩ := HFW.out
       have HS12 := mkC (And.intro hs12 (And.intro hr12 (And.intro hb12 (And.intro hfz12 hfx12))))
       have hab12 : s12.ab = st.ab := hs12.sm.ab
       have HAB12 := mkC hab12
       clear hs12 hr12 hb12 hfz12 hfx12 hab12 hW13 HFW HFU e1 e2 e3 e7 c0 c1 c2 ef
       go_wp2_with fail
       go_loopw [14] (fun iv wr => ∃ i : Nat, i ≤ fl ∧ iv = .int .i64 (i : Nat) ∧ Hid (∃ s, Stp c (NN + i) s12 W13 s wr ∧ Qt s12 s)) (fun iv _ => fl - (intOf iv).toNat)
       case atStart => exact ⟨0, Nat.zero_le _, rfl, s12, ⟨HS12.out.1.inv, Fr.refl _ _, Sm.refl _⟩, ⟨rfl, rfl, rfl⟩⟩
       case round =>
        obtain ⟨i, hi, rfl, hV⟩ := hrel
        obtain ⟨s, hs, hq⟩ := hV.out
        have hfz := HS12.out.2.2.2.1.keep hs.fr
        have e1 := (cells5 hfz.I.blk).2.1
        obtain ⟨fvp, fvc, hfv⟩ := owns_form hfz.I.free
        rw [hfv, HFZ11.out.2.1, ← HFL.out] at e1
        have hfvo := hfz.I.free
        rw [hfv, ← HFL.out] at hfvo
        have hab : s.ab = st.ab := by rw [hs.sm.ab, HAB12.out]
        have HS := mkC (And.intro hs hq)
        by_cases hif : i < fl
        ·have hil : i < f.fs.length := by rw [← HFL.out]; exact hif
         obtain ⟨hfc1, _, hfcs⟩ := owns_cells hfvo
         obtain ⟨fg, rfl, _, _, _, hfcl⟩ := hfcs (by omega)
         have ei : wr.cell? ⟨fg, i, none⟩ = some (.int .i64 ((f.fs[i]'hil : Nat) : Int)) := by
          rw [hfcl i (by omega)]
          unfold inC
          rw [List.getElem?_map, List.getElem?_eq_getElem hil]
          rfl
         have hxb := Nat.lt_of_lt_of_le (HS12.out.2.2.2.2 _ (List.getElem_mem hil)) hs.sm.bx
         have HBo := mkC (l5bound_c (st := s) (f.fs[i]'hil) wr hs.inv hxb (by have := HNN.out; omega))
         rw [hab] at HBo
         generalize f.fs[i]'hil = x at ei HBo
         have HAS := mkC hab
         clear hs hq hfz hfv hfvo hfcs hfcl hil hxb hab
         go_wp2_with fail
         refine HBo.out.mono ?_
         rintro e w13 ⟨⟨lev, vp, vn, vc, vs, vb, rfl, hlev, hvb⟩, hb13⟩
         obtain ⟨W, hW⟩ : ∃ W, W = w13.alloc (.cells #[.slice vp vn vc, .int .i64 vs, .int .i64 (vb : Nat)] 193) := ⟨_, rfl⟩
         have hbW : Below wr.heap.size wr W := by rw [hW]; exact hb13.trans ((below1 _ _).mono hb13.size)
         have HSW := mkC (HS.out.1.trans (HS.out.1.inv.stp hbW))
         have HRW := mkC (l5raw_c (N := NN + i) lev vp vn vc vs vb W HSW.out.inv hlev hvb (by have := HNN.out; omega))
         rw [HAS.out] at HRW
         have HWE := mkC hW
         clear hW hbW hb13 hlev hvb HBo
         go_wp2_with fail
         rw [← HWE.out]
         refine HRW.out.mono ?_
         rintro e w14 ⟨⟨u, rfl⟩, s14, hs14, hq14⟩
         have HF : Hid (∃ s, Stp c (NN + (i + 1)) s12 W13 s w14 ∧ Qt s12 s) := ⟨s14, (HSW.out.trans hs14).mono (by omega), HS.out.2.trans hq14⟩
         clear hs14 hq14 HRW
         go_wp2_with fail
         exact ⟨⟨i + 1, by omega, by go_num, HF.out⟩, by simp [intOf]; omega⟩
        ·have hji : fl = i := by omega
         subst hji
         have hbd := below_drewC (Below.refl wr.heap.size wr)
         have HPU := mkC (pushA (s := s) 8 (nf : Nat) (fl : Nat) (fl : Nat) wr.drew (hs.inv.stp hbd).inv hab (by have := HNN.out; omega))
         have HSD := mkC (hs.trans (hs.inv.stp hbd))
         have hflc2 : fl ≤ fvc := (owns_cells hfvo).1
         clear hs hq hfz hfv hfvo hab hbd
         go_wp2_with fail
         go_region_law (refine step_callC _ rfl 45 _ _ rfl #[.pointer (some ⟨st.ab, 0, none⟩), .int .i64 8, .int .i64 (nf : Nat), .int .i64 (fl : Nat), .int .i64 (fl : Nat)] ?ha (inPush _) (fun v w15 => EmP c (NN + fl) s wr.drew w15) (HPU.out.mono (fun e w15 hh => (by obtain ⟨⟨u, h1⟩, h2⟩ := hh; exact ⟨u, h1, h2⟩))) ?_; (case ha => first | (simp [Act.eval]; done) | (simp [Act.eval, Act.put]; done)); rintro v w15 ⟨s15, hs15, hq15, _⟩; have HS15 := mkC (And.intro (HSD.out.trans hs15) (HS.out.2.trans hq15)); clear hs15 hq15)
         all_goals
          have HDO := mkC (doneA (ab := st.ab) tl w15 HS15.out.1.inv (by rw [HS15.out.1.sm.ab, HAB12.out]) (by have := HNN.out; omega))
          go_wp2_with fail
          refine HDO.out.mono ?_
          rintro e w16 ⟨⟨u, rfl⟩, s16, hs16, hq16⟩
          have HF : Hid (SpP c N k st (x0 :: bs) r w w16) := ⟨s16, ((HS12.out.1.trans HS15.out.1).trans hs16).mono (by have := HNN.out; omega), (HS12.out.2.1.then_ HS15.out.2).then_ hq16, by rw [hq16.2.2, HS15.out.2.2.2]; exact HS12.out.2.2.1⟩
          clear hs16 hq16
          go_wp2_with fail
          go_end0
          exact ⟨⟨_, rfl⟩, HF.out⟩
end Cp
end Go.Proofs.YtnnpfoilojicjaaGreatDoor
