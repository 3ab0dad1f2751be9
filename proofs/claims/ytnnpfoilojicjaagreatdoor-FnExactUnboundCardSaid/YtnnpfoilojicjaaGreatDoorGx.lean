import Derived.Test.YtnnpfoilojicjaaGreatDoorGs
import Derived.Laws.AppendOwnNone
namespace Go.Proofs.YtnnpfoilojicjaaGreatDoor
open Go.RowKit Ch1
namespace Cp
theorem appRow_at (w : World) {ops : Array Oper} {rest : List Oper} {o : Oper} {a : Act} {Q : Exit → Act → World → Prop} (hgd : o.guard = none) (s x : Operand) (t e : TypeId)
  (ho : o.op = .call { callee := .builtin .append, args := #[s, x], argTypes := #[t, t] }) (z : Value) (size bytes : Nat) (ht : Tryz.prog.underlying t = some (.slice e)) (hi : (Tryz.prog.info? e).map (fun i => (i.zero, i.size, i.bytes)) = some (some z, size, bytes)) (hzs : z.cells.size = size) (hsz : 0 < size)
  (B : Nat) (v : Value) (n : Nat) (xs : List Value) (hs : a.eval s = v) (hown : w.ownsRow B e size v n xs) (B2 : Nat) (u : Value) (m : Nat) (ys : List Value) (hx : a.eval x = u) (hou : w.ownsRow B2 e size u m ys) (h1 : ∀ y ∈ ys, y.oneCell' = true)
  (hlen : n + m ≤ maxLen) (hby : (n + m) * bytes ≤ 140737488355328) (hB : B ≤ w.heap.size)
  (h : ∀ v' w', w'.ownsRow B e size v' (n + m) (xs ++ ys) → Below B w w' → But w w' v → (∀ k, v'.ownBlock = some k → v.ownBlock = some k ∨ w.heap.size ≤ k) → w.heap.size ≤ w'.heap.size → wpList Tryz.prog ops Q rest (a.put o.dst v') w') : wpList Tryz.prog ops Q (o :: rest) a w := by
 obtain ⟨i, hi', hpr⟩ := Option.map_eq_some_iff.1 hi
 simp only [Prod.mk.injEq] at hpr
 have hou' := hou
 obtain ⟨hyl, ⟨rfl, h0⟩ | ⟨g, cap, cur, rfl, hg, hh, _⟩⟩ := hou'
 ·subst h0
  obtain rfl : ys = [] := List.eq_nil_of_length_eq_zero (by rw [hyl]; simp)
  refine wpList_append_own_none hgd s x t ho B e i size ht hi' v n xs hs hown hx ?_
  refine h v w (by rw [List.append_nil]; exact hown) (Below.refl _ _) (fun _ _ _ => rfl) (fun _ hk => Or.inl hk) (Nat.le_refl _)
 ·refine wpList_append_own_at _ hgd s x t ho B e i z size bytes ht hi' hpr.1 hpr.2.1 hpr.2.2 hzs hsz v n xs hs hown ⟨g, 0, none⟩ m cap ys hx hyl (hou.cells (g := g) rfl) h1 hlen hby hB ?_
  intro v' w' k1 k2 _ k4
  have hbel : Below B w w' := (Below.refl _ _).grown k2 hB (owns_ge hown)
  refine h v' w' k1 hbel (fun k hk hne => k2.block k hk hne) (fun k hk => ?_) hbel.size
  rcases k4 with h5 | h5
  ·exact Or.inl (by rw [← h5]; exact hk)
  ·rw [h5] at hk
   cases hk
   exact Or.inr (Nat.le_refl _)
theorem vrC_one (us : List Vr) : ∀ y ∈ vrC us, y.oneCell' = true := by
 intro y hy
 simp only [vrC, List.mem_flatMap] at hy
 obtain ⟨u, _, hu⟩ := hy
 simp only [List.mem_cons, List.not_mem_nil, or_false] at hu
 rcases hu with rfl | rfl | rfl <;> simp [Value.oneCell', nmV]
theorem Inv.butV {c : Cx} {N B n s : Nat} {w w' : World} {st : St} {v : Value} {xs : List Value} (h : Inv c N w st) (hb : Below c.w0.heap.size w w') (ho : w.ownsRow B 193 s v n xs) (hx : Ex st v) (hbt : But w w' v) : Inv c N w' st := by
 refine { h with bel := h.bel.trans hb, blk := ?_, gl := owns_but h.gl (apt_ty h.gl ho (by decide)) hbt, ub := owns_but h.ub (apt_ty h.ub ho (by decide)) hbt, bx := owns_but h.bx (apt_ty h.bx ho (by decide)) hbt, op := owns_but h.op (apt_ty h.op ho (by decide)) hbt, fns := ?_, cs := owns_but h.cs (apt_ty h.cs ho (by decide)) hbt, csi := ?_, fn := owns_but h.fn (apt_ty h.fn ho (by decide)) hbt }
 ·exact (hbt _ (Array.getElem?_eq_some_iff.1 h.blk).1 (fun e => hx _ e.symm (Or.inl rfl))).trans h.blk
 ·exact fun f hf => (h.fns f hf).kept (fun k e => hbt k ((h.fns f hf).lt e) (fun e2 => hx k e2.symm (Or.inr (Or.inl ⟨f, hf, e⟩))))
 ·exact fun k hk => ⟨owns_but (h.csi k hk).row (apt_ty (h.csi k hk).row ho (by decide)) hbt, fun x hx2 => ⟨owns_but ((h.csi k hk).txt x hx2).1 (apt_ty ((h.csi k hk).txt x hx2).1 ho (by decide)) hbt, ((h.csi k hk).txt x hx2).2⟩, (h.csi k hk).len⟩
structure Vw (st : St) (w : World) (B : Nat) (v : Value) (us : List Vr) : Prop where
 own : w.ownsRow B 193 3 v us.length (vrC us)
 ex : Ex st v
theorem Vw.step {c : Cx} {N : Nat} {st st' : St} {w w' : World} {B : Nat} {v : Value} {us : List Vr} (h : Vw st w B v us) (hf : Stp c N st w st' w') : Vw st' w' B v us := ⟨(Ex.keep h.own h.ex hf.fr).1, (Ex.keep h.own h.ex hf.fr).2⟩
theorem Vw.snoc {c : Cx} {N B : Nat} {st : St} {w w' : World} {v v' : Value} {us : List Vr} {u : Vr} (h : Vw st w B v us) (hi : Inv c N w st) (ho : w'.ownsRow B 193 3 v' (us.length + 1) (vrC us ++ [nmV u.m, .int .i64 u.slot, .int .i64 (u.bound : Nat)])) (hl : ∀ k, v'.ownBlock = some k → v.ownBlock = some k ∨ w.heap.size ≤ k) : Vw st w' B v' (us ++ [u]) := by
 refine ⟨?_, fun k hk hp => ?_⟩
 ·have e : vrC (us ++ [u]) = vrC us ++ [nmV u.m, .int .i64 u.slot, .int .i64 (u.bound : Nat)] := by simp [vrC]
  rw [e, List.length_append]; exact ho
 ·rcases hl k hk with h1 | h1
  ·exact h.ex k h1 hp
  ·have := (hi.fp_lt hp).1; omega
theorem SqP.ownV {c : Cx} {N k : Nat} {st s1 : St} {w w1 w2 : World} {xs : List Nat} {v : Value} {us : List Vr} (h : SqP c N k st w xs s1 w1) (hL : Vw s1 w1 w.heap.size v us) (h0 : c.w0.heap.size ≤ w.heap.size) (hb : Below w.heap.size w1 w2) (hbt : But w1 w2 v) : SqP c N k st w xs s1 w2 := by
 refine ⟨⟨h.stp.inv.butV (hb.mono h0) hL.own hL.ex hbt, ⟨Nat.le_trans h.stp.fr.size hb.size, fun j hj hn => ?_, h.stp.fr.foot⟩, h.stp.sm⟩, h.rs, h.bo⟩
 rw [hb.block j hj]
 exact h.stp.fr.keep j hj hn
structure InL (c : Cx) (N k : Nat) (st : St) (w : World) (ms : List Nm) (xs : List Nat) (st' : St) (w' : World) : Prop where
 inv : Inv c (N + 10 + sumB k (at_ c xs) + ms.length) w' st'
 fr : Fr st st' w w'
 rs : RsP (allO (rd (st.gl.map (·.x)) k st.sc) (at_ c xs)) st st'
 bo : st'.bo ≤ st.bo + ms.length + sumS k (at_ c xs)
 sh : ∃ s v' us, st' = s.top (s.tp.addVs v' us) ∧ Sm st s ∧ us.map (·.m) = ms
theorem RsP.base {a b d : St} {r : Option (List (List Int))} (hb : b.bad = a.bad) (hu : b.ub = a.ub) (h : RsP r b d) : RsP r a d := by
 cases r with
 | none => exact h
 | some ns => exact ⟨h.1.trans hb, by rw [h.2, hu]⟩
set_option maxRecDepth 20000 in
set_option maxHeartbeats 4000000 in
theorem l5inits_c {c : Cx} {N k B : Nat} {st : St} (hE : ExC c k) (q : Option Addr) (n qc : Nat) (ms : List Nm) (p : Option Addr) (d : Nat) (xs : List Nat) (w : World) (h : Inv c N w st) (hq : w.ownsRow B 34 1 (.slice q n qc) n (nmC ms)) (hqx : Ex st (.slice q n qc)) (hml : ms.length = n) (hm : ∀ m ∈ ms, NmI c m) (hx : Ix st w p n d xs) (hp : Pcs c k xs) (hN : N + sumB k (Cp.at_ c xs) + 9000 ≤ 1000000000) (hb : st.bo + n + sumS k (Cp.at_ c xs) ≤ 3000) :
  Calls Tryz.prog 174 #[.pointer (some ⟨st.ab, 0, none⟩), .slice q n qc, .slice p n d, .int .i64 (st.bo : Nat)] w fun e w' => (∃ u, e = .returned u) ∧ ∃ st', InL c N k st w ms xs st' w' := by
 have HE := mkC hE
 have HI := mkC h
 have HQ := mkC (And.intro hq hqx)
 have HM := mkC hm
 have HX := mkC hx
 have HP := mkC hp
 have HN := mkC hN
 have HB := mkC hb
 have HL : Hid (xs.length = n) := hx.len
 have HML := mkC hml
 obtain ⟨bo, hbo⟩ : ∃ bo, bo = st.bo := ⟨_, rfl⟩
 have HBO := mkC hbo
 have hbn : bo + n ≤ 3000 := by omega
 have HT := mkC (topA (ab := st.ab) w h rfl (by omega))
 rw [← hbo]
 clear h hq hqx hm hx hp hE hN hb hml hbo
 go_enter Tryz.func174, Tryz.ntmps174
 go_wp2_with fail
 refine HT.out.mono ?_
 rintro e w1 ⟨rfl, hb1⟩
 have HS1 := mkC (HI.out.stp hb1)
 obtain ⟨tb, htb⟩ : ∃ tb, tb = st.tp.b := ⟨_, rfl⟩
 have HTB := mkC htb
 rw [← htb]
 clear hb1 HT htb
 go_wp2_with fail
 go_loopw [9] (fun iv wr => ∃ i : Nat, i ≤ n ∧ iv = .int .i64 (i : Nat) ∧ Hid (∃ s1, Stp c N st w s1 wr ∧ Qt st s1 ∧ bo + i ≤ s1.bx.length)) (fun iv _ => n - (intOf iv).toNat)
 case atStart => exact ⟨0, Nat.zero_le _, rfl, st, HS1.out, ⟨rfl, rfl, rfl⟩, by have h1 := HI.out.b1; have h2 := HBO.out; omega⟩
 case round =>
  obtain ⟨i, hi, rfl, hS⟩ := hrel
  obtain ⟨s1, hs1, hq1, hbx1⟩ := hS.out
  have hab1 : s1.ab = st.ab := hs1.sm.ab
  obtain ⟨bp, bc, hbv⟩ := owns_form hs1.inv.bx
  have e2 := (cells10 hs1.inv.blk).2.2.1
  rw [hbv, hab1] at e2
  have e4 := (cells10 hs1.inv.blk).2.2.2.1
  have ef := (cells10 hs1.inv.blk).2.2.2.2.2.2.2.2.2
  rw [hab1] at e4 ef
  have hb2 := hs1.inv.b2
  obtain ⟨bl, hbl⟩ : ∃ bl, bl = s1.bx.length := ⟨_, rfl⟩
  have HS := mkC (And.intro hs1 (And.intro hq1 hbx1))
  have HBL := mkC hbl
  have HBV := mkC hbv
  have HAB := mkC hab1
  have hbo1 : s1.bo = bo := by rw [hq1.2.2]; exact HBO.out.symm
  rw [hbo1] at e4
  rw [← hbl] at e2 hb2 hbx1
  by_cases hlt : i < n
  ·by_cases hlb : bo + i < bl
   ·have t1 : decide ((bl : Int) ≤ (bo : Int) + (i : Int)) = false := decide_eq_false (by omega)
    have HF : Hid (∃ s1, Stp c N st w s1 wr ∧ Qt st s1 ∧ bo + (i + 1) ≤ s1.bx.length) := ⟨s1, hs1, hq1, by omega⟩
    clear hs1 hq1 hbv hbl hab1 hbo1 e4
    go_wp2_with fail
    exact ⟨⟨i + 1, by omega, by go_num, HF.out⟩, by simp [intOf]; omega⟩
   ·have t1 : decide ((bl : Int) ≤ (bo : Int) + (i : Int)) = true := decide_eq_true (by omega)
    have HBX : Hid (wr.ownsRow c.w0.heap.size 4 1 (.slice bp bl bc) bl (s1.bx.map Value.bool)) := by
     unfold Hid
     have h1 := hs1.inv.bx
     rw [hbv, ← hbl] at h1
     exact h1
    have hB0 : c.w0.heap.size ≤ wr.heap.size := hs1.inv.bel.size
    have HADD : Hid (∀ v' w2, w2.ownsRow c.w0.heap.size 4 1 v' (bl + 1) (s1.bx.map Value.bool ++ [.bool false]) → Below c.w0.heap.size wr w2 → But wr w2 (.slice bp bl bc) → (∀ k, v'.ownBlock = some k → (Value.slice bp bl bc).ownBlock = some k ∨ wr.heap.size ≤ k) → ∃ s1, Stp c N st w s1 (w2.setCell ⟨st.ab, 2, none⟩ v') ∧ Qt st s1 ∧ bo + (i + 1) ≤ s1.bx.length) := fun v' w2 h1 h2 h3 h4 => by
     have h5 := HS.out.1.inv.growBx (w2 := w2) (v' := v') (x := false) (by rw [← HBL.out]; omega) (by rw [← HBL.out]; exact h1) h2 (by rw [HBV.out, ← HBL.out]; exact h3) (by rw [HBV.out, ← HBL.out]; exact h4)
     rw [HAB.out] at h5
     refine ⟨_, HS.out.1.trans h5, ⟨HS.out.2.1.1, HS.out.2.1.2.1, HS.out.2.1.2.2⟩, ?_⟩
     show bo + (i + 1) ≤ (s1.bx ++ [false]).length
     have := HS.out.2.2
     rw [List.length_append, ← HBL.out]
     simp
     omega
    have HBK := mkC hs1.inv.blk
    rw [hab1] at HBK
    clear hs1 hq1 hbv hbl hab1 hbo1 e4
    go_wp2_with (at_builtin; refine appW_at wr rfl (.tmp 33) (.tmp 34) 40 4 rfl _ 1 1 Tryz.underlying40 info4C rfl (by decide) c.w0.heap.size (.slice bp bl bc) bl (s1.bx.map Value.bool) (by simp [Act.eval]) HBX.out #[.bool false] rfl (by simp [Value.oneCell']) (by simp [Act.eval]) (by unfold maxLen; omega) (by omega) hB0 ?_; intro v' w3 ho hb3 hbt hloc hsz; obtain ⟨p3, c3, hv3⟩ := owns_form ho; subst hv3; have HAD := mkC (HADD.out _ w3 ho hb3 hbt hloc); have r2 := (cells10 ((hbt _ (Array.getElem?_eq_some_iff.1 HBK.out).1 (owns_ne HBX.out HBK.out (by decide))).trans HBK.out)).2.2.1; have r5 := (cells10 ((hbt _ (Array.getElem?_eq_some_iff.1 HBK.out).1 (owns_ne HBX.out HBK.out (by decide))).trans HBK.out)).2.2.2.2.2.2.2.2.2; clear ho hb3 hbt hloc e2 ef)
    exact ⟨⟨i + 1, by omega, by go_num, HAD.out⟩, by simp [intOf]; omega⟩
  ·obtain rfl : i = n := by omega
   have hS2 := hs1.trans (hs1.inv.setBoN (bo + i) (by omega) (by omega))
   obtain ⟨W2, hW2⟩ : ∃ W2, W2 = wr.setCell ⟨st.ab, 4, none⟩ (.int .i64 ((bo : Int) + (i : Int))) := ⟨_, rfl⟩
   obtain ⟨s2, hs2⟩ : ∃ s2 : St, s2 = { s1 with bo := bo + i } := ⟨_, rfl⟩
   rw [← hs2, hab1, show ((bo + i : Nat) : Int) = (bo : Int) + (i : Int) by omega, ← hW2] at hS2
   have HS2 := mkC hS2
   have HQ2 : Hid (s2.bad = st.bad ∧ s2.ub = st.ub ∧ s2.bo = bo + i ∧ bo + i ≤ s2.bx.length ∧ s2.ab = st.ab) := by
    unfold Hid; rw [hs2]; exact ⟨hq1.1, hq1.2.1, rfl, by show bo + i ≤ s1.bx.length; omega, hab1⟩
   have HW2 := mkC hW2
   clear hs1 hq1 hbv hbl hab1 hbo1 hS2 hs2 hW2
   go_wp2_with fail
   rw [← HW2.out]
   go_loopw [10, 11] (fun vv jv wr => ∃ (j : Nat) (vp : Option Addr) (vc : Nat), j ≤ i ∧ jv = .int .i64 (j : Nat) ∧ vv = .slice vp j vc ∧ Hid (∃ s3 us, SqP c (N + 10) k s2 W2 (xs.take j) s3 wr ∧ Vw s3 wr W2.heap.size (.slice vp j vc) us ∧ us.length = j ∧ us.map (·.m) = ms.take j ∧ ∀ u ∈ us, u.bound < s2.bx.length)) (fun _ jv _ => i - (intOf jv).toNat)
   case atStart => exact ⟨0, none, 0, Nat.zero_le _, rfl, rfl, s2, [], SqP.nil ⟨HS2.out.inv.mono (by omega), Fr.refl _ _, Sm.refl _⟩ ⟨rfl, rfl, rfl⟩, ⟨nil_own _ _ _ _, (fun _ hk => by cases hk)⟩, rfl, by simp, by simp⟩
   case round =>
    obtain ⟨j, vp, vc, hj, rfl, rfl, hV⟩ := hrel
    obtain ⟨s3, us, hs3, hvw, hul, hum, hub⟩ := hV.out
    by_cases hjn : j < i
    ·have hjl : j < xs.length := by rw [HL.out]; exact hjn
     have hab2 : s2.ab = st.ab := HQ2.out.2.2.2.2
     obtain ⟨g, o, rfl, hg, y0⟩ := ((HX.out.step HS2.out.fr).step hs3.stp.fr).at_ hjl
     have HS3 := mkC hs3
     have HVW := mkC hvw
     have HUS := mkC (And.intro hul (And.intro hum hub))
     have HC := mkC (hs3.next HE.out HP.out hjl (by have := HN.out; omega) (by have h1 := HB.out; have h2 := HQ2.out.2.2.1; have h3 := HBO.out; omega) false)
     rw [hab2] at HC
     have HTK := mkC (take_snoc hjl)
     have HSM : Hid (N + sumB k (Cp.at_ c (xs.take (j + 1))) + 9000 ≤ 1000000000) := by
      unfold Hid
      have h1 := sums_at (c := c) (k := k) hjl
      have h2 := HN.out
      rw [take_snoc hjl, at_snoc, sumB_app]
      simp only [sumB]
      omega
     generalize xs[j]'hjl = x at y0 HC HTK
     clear hs3 hvw hul hum hub
     go_wp2_with fail
     refine HC.out.mono ?_
     rintro e w4 ⟨⟨u, rfl⟩, hx4⟩
     obtain ⟨s4, hs4, hcn4, hab4, hf4⟩ := HS3.out.more10 hx4
     rw [← HTK.out] at hs4
     rw [hab2] at hab4
     have H4 : Hid (SqP c N k s2 W2 (xs.take (j + 1)) s4 w4) := hs4
     have HV4 : Hid (Vw s4 w4 W2.heap.size (.slice vp j vc) us) := ⟨(Ex.keep HVW.out.own HVW.out.ex hf4).1, (Ex.keep HVW.out.own HVW.out.ex hf4).2⟩
     have e2 := (cells10 hs4.stp.inv.blk).2.2.1
     obtain ⟨bp, bc, hbv, hba⟩ := hs4.stp.inv.bxAt
     have hbd : bo + j < s4.bx.length := by have h1 := HQ2.out.2.2.2.1; have h2 := hs4.stp.sm.bx; omega
     have hb2 := hs4.stp.inv.b2
     rw [hbv, hab4] at e2
     obtain ⟨bg, rfl, hbg, _, hbc⟩ := hba (by omega)
     have e3 := hbc (bo + j) hbd
     generalize s4.bx[bo + j]'hbd = bit at e3
     obtain ⟨bl, hbl⟩ : ∃ bl, bl = s4.bx.length := ⟨_, rfl⟩
     rw [← hbl] at e2 hbd hb2
     have HAB4 := mkC hab4
     clear hx4 hs4 hcn4 hab4 hf4 hbv hba hbc hbl y0 HC hab2
     cases bit
     ·obtain ⟨s5, hs5⟩ : ∃ s5, s5 = s4 := ⟨_, rfl⟩
      obtain ⟨w5, hw5⟩ : ∃ w5, w5 = w4 := ⟨_, rfl⟩
      have H5 : Hid (SqP c (N + 1) k s2 W2 (xs.take (j + 1)) s5 w5) := by unfold Hid; rw [hs5, hw5]; exact H4.out.up (by omega)
      have HV5 : Hid (Vw s5 w5 W2.heap.size (.slice vp j vc) us) := by unfold Hid; rw [hs5, hw5]; exact HV4.out
      go_wp2_with fail
      subst hw5
      clear hs5 e2 e3
      have HQ5 := mkC (Ex.keep HQ.out.1 HQ.out.2 (HS2.out.fr.trans H5.out.stp.fr))
      have hjm : j < ms.length := by rw [HML.out]; exact hjn
      obtain ⟨qg, rfl, _, yq⟩ := owN_cell HQ5.out.1 HML.out hjm
      have hqc : i ≤ qc := (owns_cells HQ5.out.1).1
      have HMJ := mkC (HM.out _ (List.getElem_mem hjm))
      have HMT : Hid (ms.take (j + 1) = ms.take j ++ [ms[j]'hjm]) := List.take_succ_eq_append_getElem hjm
      have htb : s5.tp.b = tb := by rw [HTB.out]; exact (HS2.out.sm.trans H5.out.stp.sm).tp.1
      have ysl := (cells5 H5.out.stp.inv.tpI.blk).2.2.2.2.1
      rw [htb] at ysl
      unfold nmV at yq
      generalize ms[j]'hjm = mj at yq HMJ HMT
      obtain ⟨mp, mn, mc, mx⟩ := mj
      simp only at yq
      generalize s5.tp.sl = sl5 at ysl
      have HBd := mkC (below_drewC (Below.refl w5.heap.size w5))
      have H5d : Hid (SqP c (N + 1) k s2 W2 (xs.take (j + 1)) s5 w5.drew) := H5.out.emit (m := 0) (H5.out.stp.inv.stp HBd.out) ⟨rfl, rfl, rfl⟩
      have HV5d : Hid (Vw s5 w5.drew W2.heap.size (.slice vp j vc) us) := HV5.out.step (H5.out.stp.inv.stp HBd.out)
      have HOD : Hid (w5.drew.ownsRow W2.heap.size 193 3 (.slice vp j vc) j (vrC us)) := by unfold Hid; have h1 := HV5d.out.own; rw [HUS.out.1] at h1; exact h1
      have hB5 : W2.heap.size ≤ w5.drew.heap.size := H5d.out.stp.fr.size
      have HF : Hid (∀ (slot : Int) p3 c3 w6, w6.ownsRow W2.heap.size 193 3 (.slice p3 (j + 1) c3) (j + 1) (vrC us ++ [.slice mp mn mc, .int .i64 slot, .int .i64 ((bo : Int) + (j : Int))]) → Below W2.heap.size w5.drew w6 → But w5.drew w6 (.slice vp j vc) → (∀ k, (Value.slice p3 (j + 1) c3).ownBlock = some k → (Value.slice vp j vc).ownBlock = some k ∨ w5.drew.heap.size ≤ k) → ∃ s3 us, SqP c (N + 10) k s2 W2 (xs.take (j + 1)) s3 w6 ∧ Vw s3 w6 W2.heap.size (.slice p3 (j + 1) c3) us ∧ us.length = j + 1 ∧ us.map (·.m) = ms.take (j + 1) ∧ ∀ u ∈ us, u.bound < s2.bx.length) := fun slot p3 c3 w6 h1 h2 h3 h4 => by
       refine ⟨s5, us ++ [⟨⟨mp, mn, mc, mx⟩, slot, bo + j⟩], (H5d.out.ownV HV5d.out HS2.out.inv.bel.size h2 h3).up (by omega), HV5d.out.snoc H5d.out.stp.inv (by rw [HUS.out.1]; exact h1) h4, by rw [List.length_append, HUS.out.1]; rfl, ?_, fun u hu => ?_⟩
       ·rw [List.map_append, HUS.out.2.1, HMT.out]; rfl
       ·rcases List.mem_append.1 hu with h5 | h5
        ·exact HUS.out.2.2 u h5
        ·rw [List.mem_singleton.1 h5]
         have := HQ2.out.2.2.2.1
         show bo + j < s2.bx.length
         omega
      have hj3 : j ≤ 3000 := by omega
      have HWR : Hid (IntKind.i64.wrap ((bo : Int) + (j : Int)) = (bo : Int) + (j : Int)) := by unfold Hid; simp [IntKind.wrap, IntKind.bits, IntKind.signed]; omega
      clear htb
      go_region_law (refine appW_stepC w5.drew rfl (.tmp 70) (.tmp 84) 83 193 rfl _ 3 40 Tryz.underlying83 infoVr rfl (by decide) W2.heap.size (.slice vp j vc) j (vrC us) ?hs HOD.out #[.slice mp mn mc, .int .i64 (IntKind.i64.wrap (sl5 - 1)), .int .i64 (IntKind.i64.wrap ((bo : Int) + (j : Int)))] rfl (by simp [Value.oneCell']) ?hx (by unfold maxLen; omega) (by omega) hB5 ?_; (case hs => first | (simp [Act.eval]; done) | (simp [Act.eval, Act.put]; done)); (case hx => first | (simp [Act.eval]; done) | (simp [Act.eval, Act.put]; done)); intro p3 c3 w6 ho3 hb3 hbt3 hloc3; rw [HWR.out] at ho3; have HFI := mkC (HF.out _ p3 c3 w6 ho3 hb3 hbt3 hloc3); clear ho3 hb3 hbt3 hloc3)
      all_goals go_wp2_with fail
      all_goals exact ⟨⟨j + 1, p3, c3, by omega, by go_num, rfl, HFI.out⟩, by simp [intOf]; omega⟩
     ·have HPU := mkC (pushA (s := s4) 5 0 0 1 w4 H4.out.stp.inv HAB4.out (by have := HSM.out; omega))
      go_wp2_with fail
      refine HPU.out.mono ?_
      rintro e w5 ⟨⟨u, rfl⟩, hm5⟩
      obtain ⟨s5, hs5, _, _, hst5⟩ := H4.out.emp hm5
      have H5 : Hid (SqP c (N + 1) k s2 W2 (xs.take (j + 1)) s5 w5) := hs5
      have HV5 := mkC (HV4.out.step hst5)
      clear hm5 hs5 hst5 HPU e2 e3
      go_wp2_with fail
      have HQ5 := mkC (Ex.keep HQ.out.1 HQ.out.2 (HS2.out.fr.trans H5.out.stp.fr))
      have hjm : j < ms.length := by rw [HML.out]; exact hjn
      obtain ⟨qg, rfl, _, yq⟩ := owN_cell HQ5.out.1 HML.out hjm
      have hqc : i ≤ qc := (owns_cells HQ5.out.1).1
      have HMJ := mkC (HM.out _ (List.getElem_mem hjm))
      have HMT : Hid (ms.take (j + 1) = ms.take j ++ [ms[j]'hjm]) := List.take_succ_eq_append_getElem hjm
      have htb : s5.tp.b = tb := by rw [HTB.out]; exact (HS2.out.sm.trans H5.out.stp.sm).tp.1
      have ysl := (cells5 H5.out.stp.inv.tpI.blk).2.2.2.2.1
      rw [htb] at ysl
      unfold nmV at yq
      generalize ms[j]'hjm = mj at yq HMJ HMT
      obtain ⟨mp, mn, mc, mx⟩ := mj
      simp only at yq
      generalize s5.tp.sl = sl5 at ysl
      have HBd := mkC (below_drewC (Below.refl w5.heap.size w5))
      have H5d : Hid (SqP c (N + 1) k s2 W2 (xs.take (j + 1)) s5 w5.drew) := H5.out.emit (m := 0) (H5.out.stp.inv.stp HBd.out) ⟨rfl, rfl, rfl⟩
      have HV5d : Hid (Vw s5 w5.drew W2.heap.size (.slice vp j vc) us) := HV5.out.step (H5.out.stp.inv.stp HBd.out)
      have HOD : Hid (w5.drew.ownsRow W2.heap.size 193 3 (.slice vp j vc) j (vrC us)) := by unfold Hid; have h1 := HV5d.out.own; rw [HUS.out.1] at h1; exact h1
      have hB5 : W2.heap.size ≤ w5.drew.heap.size := H5d.out.stp.fr.size
      have HF : Hid (∀ (slot : Int) p3 c3 w6, w6.ownsRow W2.heap.size 193 3 (.slice p3 (j + 1) c3) (j + 1) (vrC us ++ [.slice mp mn mc, .int .i64 slot, .int .i64 ((bo : Int) + (j : Int))]) → Below W2.heap.size w5.drew w6 → But w5.drew w6 (.slice vp j vc) → (∀ k, (Value.slice p3 (j + 1) c3).ownBlock = some k → (Value.slice vp j vc).ownBlock = some k ∨ w5.drew.heap.size ≤ k) → ∃ s3 us, SqP c (N + 10) k s2 W2 (xs.take (j + 1)) s3 w6 ∧ Vw s3 w6 W2.heap.size (.slice p3 (j + 1) c3) us ∧ us.length = j + 1 ∧ us.map (·.m) = ms.take (j + 1) ∧ ∀ u ∈ us, u.bound < s2.bx.length) := fun slot p3 c3 w6 h1 h2 h3 h4 => by
       refine ⟨s5, us ++ [⟨⟨mp, mn, mc, mx⟩, slot, bo + j⟩], (H5d.out.ownV HV5d.out HS2.out.inv.bel.size h2 h3).up (by omega), HV5d.out.snoc H5d.out.stp.inv (by rw [HUS.out.1]; exact h1) h4, by rw [List.length_append, HUS.out.1]; rfl, ?_, fun u hu => ?_⟩
       ·rw [List.map_append, HUS.out.2.1, HMT.out]; rfl
       ·rcases List.mem_append.1 hu with h5 | h5
        ·exact HUS.out.2.2 u h5
        ·rw [List.mem_singleton.1 h5]
         have := HQ2.out.2.2.2.1
         show bo + j < s2.bx.length
         omega
      have hj3 : j ≤ 3000 := by omega
      have HWR : Hid (IntKind.i64.wrap ((bo : Int) + (j : Int)) = (bo : Int) + (j : Int)) := by unfold Hid; simp [IntKind.wrap, IntKind.bits, IntKind.signed]; omega
      clear htb
      go_region_law (refine appW_stepC w5.drew rfl (.tmp 70) (.tmp 84) 83 193 rfl _ 3 40 Tryz.underlying83 infoVr rfl (by decide) W2.heap.size (.slice vp j vc) j (vrC us) ?hs HOD.out #[.slice mp mn mc, .int .i64 (IntKind.i64.wrap (sl5 - 1)), .int .i64 (IntKind.i64.wrap ((bo : Int) + (j : Int)))] rfl (by simp [Value.oneCell']) ?hx (by unfold maxLen; omega) (by omega) hB5 ?_; (case hs => first | (simp [Act.eval]; done) | (simp [Act.eval, Act.put]; done)); (case hx => first | (simp [Act.eval]; done) | (simp [Act.eval, Act.put]; done)); intro p3 c3 w6 ho3 hb3 hbt3 hloc3; rw [HWR.out] at ho3; have HFI := mkC (HF.out _ p3 c3 w6 ho3 hb3 hbt3 hloc3); clear ho3 hb3 hbt3 hloc3)
      all_goals go_wp2_with fail
      all_goals exact ⟨⟨j + 1, p3, c3, by omega, by go_num, rfl, HFI.out⟩, by simp [intOf]; omega⟩
    ·obtain rfl : j = i := by omega
     rw [List.take_of_length_le (by rw [HL.out]; exact Nat.le_refl _)] at hs3
     rw [List.take_of_length_le (by rw [HML.out]; exact Nat.le_refl _)] at hum
     have htb : s3.tp.b = tb := by rw [HTB.out]; exact (HS2.out.sm.trans hs3.stp.sm).tp.1
     obtain ⟨p5, c5, hvv⟩ := owns_form hs3.stp.inv.tpI.vars
     have e0 := (cells5 hs3.stp.inv.tpI.blk).1
     rw [hvv, htb] at e0
     have hvl : s3.tp.vs.length ≤ 1000000000 := by have h1 := hs3.stp.inv.tpW.vn; have h2 := HN.out; omega
     have HBK := mkC hs3.stp.inv.tpI.blk
     rw [htb] at HBK
     have hB0 : c.w0.heap.size ≤ wr.heap.size := hs3.stp.inv.bel.size
     have HSRC : Hid (wr.ownsRow W2.heap.size 193 3 (.slice vp j vc) j (vrC us)) := by unfold Hid; have h1 := hvw.own; rw [hul] at h1; exact h1
     obtain ⟨vn, hvn⟩ : ∃ vn, vn = s3.tp.vs.length := ⟨_, rfl⟩
     have HOW : Hid (wr.ownsRow c.w0.heap.size 193 3 (.slice p5 vn c5) vn (vrC s3.tp.vs)) := by unfold Hid; have h1 := hs3.stp.inv.tpI.vars; rw [hvv, ← hvn] at h1; exact h1
     have HF : Hid (∀ v' w6, w6.ownsRow c.w0.heap.size 193 3 v' (vn + j) (vrC s3.tp.vs ++ vrC us) → Below c.w0.heap.size wr w6 → But wr w6 (.slice p5 vn c5) → (∀ k, v'.ownBlock = some k → (Value.slice p5 vn c5).ownBlock = some k ∨ wr.heap.size ≤ k) → ∃ st', InL c N k st w ms xs st' (w6.setCell ⟨tb, 0, none⟩ v')) := fun v' w6 h1 h2 h3 h4 => by
      have h5 := hs3.stp.inv.addVs (w2 := w6) (v' := v') (us := us) (fun u hu => HM.out _ (by rw [← hum]; exact List.mem_map.2 ⟨u, hu, rfl⟩)) (fun u hu => Nat.lt_of_lt_of_le (hub u hu) hs3.stp.sm.bx) (by rw [← hvn, hul]; exact h1) h2 (by rw [hvv, ← hvn]; exact h3) (by rw [hvv, ← hvn]; exact h4)
      rw [htb] at h5
      have hml : ms.length = us.length := by rw [← hum, List.length_map]
      refine ⟨_, ⟨by rw [hml]; exact h5.1, (HS2.out.fr.trans hs3.stp.fr).trans h5.2, ?_, ?_, s3, v', us, rfl, HS2.out.sm.trans hs3.stp.sm, hum⟩⟩
      ·have h6 := hs3.rs
       rw [HS2.out.sm.gl, HS2.out.sm.sc] at h6
       exact (h6.base HQ2.out.1 HQ2.out.2.1).then_ ⟨rfl, rfl, rfl⟩
      ·show s3.bo ≤ _
       have h7 := hs3.bo
       have h8 := HQ2.out.2.2.1
       have h9 := HBO.out
       have h10 := HML.out
       omega
     rw [← hvn] at e0 hvl
     clear hs3 hvw hul hum hub htb hvv hvn
     go_wp2_with (at_builtin; refine appRow_at wr rfl (.tmp 90) (.tmp 91) 83 193 rfl _ 3 40 Tryz.underlying83 infoVr rfl (by decide) c.w0.heap.size (.slice p5 vn c5) vn (vrC s3.tp.vs) (by simp [Act.eval]) HOW.out W2.heap.size (.slice vp j vc) j (vrC us) (by simp [Act.eval]) HSRC.out (vrC_one us) (by unfold maxLen; omega) (by omega) hB0 ?_; intro v' w6 ho hb6 hbt hloc hsz; obtain ⟨p6, c6, hv6⟩ := owns_form ho; subst hv6; have HFI := mkC (HF.out _ w6 ho hb6 hbt hloc); have q0 := (cells5 ((hbt _ (Array.getElem?_eq_some_iff.1 HBK.out).1 (owns_ne HOW.out HBK.out (by decide))).trans HBK.out)).1; have q5 := (cells5 ((hbt _ (Array.getElem?_eq_some_iff.1 HBK.out).1 (owns_ne HOW.out HBK.out (by decide))).trans HBK.out)).2.2.2.2.2; clear ho hb6 hbt hloc e0)
     go_end0
     exact ⟨⟨_, rfl⟩, HFI.out⟩
theorem Inv.dtAt {c : Cx} {N i : Nat} {w : World} {st : St} (h : Inv c N w st) (hi : i < c.dn) : ∃ (b o : Nat), c.dp = some ⟨b, o, none⟩ ∧ (∀ w', Below c.w0.heap.size c.w0 w' → w'.cell? ⟨b, o + i * 4, none⟩ = some (.int .i64 (hd (c.ds.drop i)).kind) ∧ w'.cell? ⟨b, o + i * 4 + 3, none⟩ = some (.int .i64 (hd (c.ds.drop i)).count)) ∧ -9223372036854775808 ≤ (hd (c.ds.drop i)).count ∧ (hd (c.ds.drop i)).count ≤ 9223372036854775807 := by
 obtain ⟨b, o, e, hlt, hc⟩ := h.dat.cells (by omega)
 obtain ⟨tp, tn, tc, he⟩ := hc i hi
 rw [hd_drop]
 refine ⟨b, o, e, fun w' hb => ⟨?_, ?_⟩, he.lo, he.hi⟩
 ·rw [hb.cell (p := ⟨b, o + i * 4, none⟩) hlt]
  exact he.c0
 ·rw [hb.cell (p := ⟨b, o + i * 4 + 3, none⟩) hlt]
  exact he.c3
def KiP (c : Cx) (k i : Nat) (w w' : World) (e : Ending) : Prop := ∃ (p : Option Addr) (cc : Nat) (ks : List Nat), e = .returned (.slice p ks.length cc) ∧ OwI w' w.heap.size (.slice p ks.length cc) ks ∧ Below w.heap.size w w' ∧ at_ c ks = kidsOf k (c.ds.drop i) ∧ Pcs c (k - 1) ks ∧ ((ks.length : Nat) : Int) = (hd (c.ds.drop i)).count
theorem Pcs.mono {c : Cx} {j k : Nat} {xs : List Nat} (h : Pcs c j xs) (hk : j ≤ k) : Pcs c k xs := fun i hi => ⟨(h i hi).1, (h i hi).2.mono hk⟩
theorem Ok.lt {c : Cx} {N k i : Nat} {w : World} {st : St} (h : Inv c N w st) (ho : Ok k (c.ds.drop i)) : i < c.dn := by
 obtain ⟨d, q, e, _⟩ := ho.ne
 have := congrArg List.length e
 rw [List.length_drop, List.length_cons, h.dat.len] at this
 omega
theorem kidsA {c : Cx} {N k i : Nat} {st : St} (w : World) (h : Inv c N w st) (hi : i < c.dn) (ho : Ok k (c.ds.drop i)) (hl : isLs (c.ds.drop i) = true) : Calls Tryz.prog 40 #[.slice c.dp c.dn c.dc, .int .i64 (i : Nat)] w fun e w' => KiP c k i w w' e := by
 cases k with
 | zero => rw [ok_zero ho] at hl; cases hl
 | succ k =>
  obtain ⟨h0, ⟨q, hq⟩, hlen, hat⟩ := kids_of ho hl
  have eh := hd_drop c.ds i
  have et : (c.ds.drop i).tail = c.ds.drop (i + 1) := by rw [List.tail_drop]
  rw [et] at hq hat
  have h0' := h0
  rw [eh] at h0 hq
  refine (kids26 k c.dp c.dn c.dc i c.ds q w (h.dat.below h.bel) h.dn hi h0 hq).mono ?_
  rintro e w' ⟨v, ks, rfl, ho2, hkl, hks, hb⟩
  obtain ⟨p, cc, rfl, _⟩ := ho2.form
  rw [← eh] at hkl
  have hjt : ∀ j (hj : j < ks.length), c.ds.drop (ks[j]'hj) = (kidsOf k (c.ds.drop i)).getD j [] := fun j hj => by
   have a1 := (hks j hj).2
   have a2 := (hat j (by rw [← hkl]; exact hj)).1
   rw [a1] at a2
   have a3 : ks.getD j 0 = ks[j]'hj := by rw [List.getD_eq_getElem?_getD, List.getElem?_eq_getElem hj]; rfl
   rw [a3] at a2
   exact Option.some.inj a2
  refine ⟨p, cc, ks, rfl, ho2, hb, ?_, ?_, ?_⟩
  ·rw [kidsOf_mono (Nat.le_succ k) ho]
   apply List.ext_getElem
   ·rw [hlen, ← hkl]; simp [Cp.at_]
   ·intro j h1 h2
    have h3 : j < ks.length := by simpa [Cp.at_] using h1
    have h4 := hjt j h3
    rw [List.getD_eq_getElem?_getD, List.getElem?_eq_getElem h2] at h4
    simpa [Cp.at_] using h4
  ·intro x hx
   obtain ⟨j, hj, rfl⟩ := List.getElem_of_mem hx
   have h5 := (hat j (by rw [← hkl]; exact hj)).2
   rw [← hjt j hj] at h5
   exact ⟨Ok.lt h h5, h5⟩
  ·rw [hkl]; exact Int.toNat_of_nonneg h0'
theorem sumS_mono {j k : Nat} (h : j ≤ k) {ls : List (List Dt)} (ho : ∀ l ∈ ls, Ok j l) : sumS k ls = sumS j ls := by
 induction ls with
 | nil => rfl
 | cons l ls ih =>
  simp only [sumS]
  rw [sz_mono h (ho l (List.mem_cons_self ..)), ih (fun x hx => ho x (List.mem_cons_of_mem _ hx))]
theorem kids_sumK {k : Nat} {l : List Dt} (h : Ok k l) (hl : isLs l = true) : sumS k (kidsOf k l) + 1 = sz k l := by
 cases k with
 | zero => rw [ok_zero h] at hl; cases hl
 | succ k =>
  have h1 := kids_sum h hl
  have h2 := (kids_ok h).1
  rw [kidsOf_mono (Nat.le_succ k) h] at h2 ⊢
  rw [sumS_mono (Nat.le_succ k) (j := k) h2]
  exact h1
structure SmV (st st' : St) (us : List Vr) : Prop where
 ab : st'.ab = st.ab
 gl : st'.gl = st.gl
 glv : st'.glv = st.glv
 len : st'.lo.length = st.lo.length
 fn : ∀ (i : Nat) (f f' : Fn5), st.lo[i]? = some f → st'.lo[i]? = some f' → f'.b = f.b ∧ f'.vs = f.vs ∧ f.cn ≤ f'.cn
 tb : st'.tp.b = st.tp.b
 tv : st'.tp.vs = st.tp.vs ++ us
 tc : st.tp.cn ≤ st'.tp.cn
 bx : st.bx.length ≤ st'.bx.length
 bo : st.bo ≤ st'.bo
 nf : st.nf ≤ st'.nf
theorem all_lo {st : St} {i : Nat} (hi : i < st.lo.length) : st.all[i]? = st.lo[i]? := by simp [St.all, List.getElem?_append_left hi]
theorem Sm.v {st st' : St} (h : Sm st st') : SmV st st' [] := by
 refine ⟨h.ab, h.gl, h.glv, h.len, fun i f f' h1 h2 => ?_, h.tp.1, by rw [h.tp.2.1, List.append_nil], h.tp.2.2, h.bx, h.bo, h.nf⟩
 have hi := (List.getElem?_eq_some_iff.1 h1).1
 have hi' := (List.getElem?_eq_some_iff.1 h2).1
 rw [← all_lo hi] at h1
 rw [← all_lo hi'] at h2
 exact h.fn i f f' h1 h2
theorem SmV.trans {a b d : St} {us vs : List Vr} (h : SmV a b us) (k : SmV b d vs) : SmV a d (us ++ vs) := by
 refine ⟨k.ab.trans h.ab, k.gl.trans h.gl, k.glv.trans h.glv, k.len.trans h.len, fun i f f' h1 h2 => ?_, k.tb.trans h.tb, by rw [k.tv, h.tv, List.append_assoc], Nat.le_trans h.tc k.tc, Nat.le_trans h.bx k.bx, Nat.le_trans h.bo k.bo, Nat.le_trans h.nf k.nf⟩
 have hi : i < b.lo.length := by
  have := (List.getElem?_eq_some_iff.1 h1).1
  rw [h.len]; exact this
 obtain ⟨q1, q2, q3⟩ := h.fn i f _ h1 (List.getElem?_eq_getElem hi)
 obtain ⟨r1, r2, r3⟩ := k.fn i _ f' (List.getElem?_eq_getElem hi) h2
 exact ⟨r1.trans q1, r2.trans q2, Nat.le_trans q3 r3⟩
theorem SmV.then_ {a b d : St} {us : List Vr} (h : SmV a b us) (k : Sm b d) : SmV a d us := by
 have := h.trans k.v
 rwa [List.append_nil] at this
theorem Bd.v {a b : St} {m : Nm} {slot : Int} (h : Bd a b m slot) : SmV a b [⟨m, slot, a.bo⟩] := by
 obtain ⟨v', hv⟩ := h.tp
 refine ⟨h.ab, h.gl, h.glv, by rw [h.lo], fun i f f' h1 h2 => ?_, by rw [hv]; rfl, by rw [hv]; rfl, by rw [hv]; exact Nat.le_refl _, h.bx, by rw [h.bo]; omega, Nat.le_of_eq h.nf.symm⟩
 rw [h.lo, h1] at h2
 cases h2
 exact ⟨rfl, rfl, Nat.le_refl _⟩
theorem vs_add {s : St} {v' : Value} {us : List Vr} : SmV s (s.top (s.tp.addVs v' us)) us :=
 ⟨rfl, rfl, rfl, rfl, fun i f f' h1 h2 => by
  have h2' : s.lo[i]? = some f' := h2
  rw [h1] at h2'
  cases h2'
  exact ⟨rfl, rfl, Nat.le_refl _⟩, rfl, rfl, Nat.le_refl _, Nat.le_refl _, Nat.le_refl _, Nat.le_refl _⟩
theorem SmV.sc {st st' : St} {us : List Vr} (h : SmV st st' us) : st'.sc = st.sc ++ us.map (fun v => v.m.x) := by
 have e : st'.lo.map (fun f => f.vs.map (fun v => v.m.x)) = st.lo.map (fun f => f.vs.map (fun v => v.m.x)) := by
  apply List.ext_getElem?
  intro i
  rw [List.getElem?_map, List.getElem?_map]
  by_cases hi : i < st.lo.length
  ·have hi' : i < st'.lo.length := by rw [h.len]; exact hi
   rw [List.getElem?_eq_getElem hi, List.getElem?_eq_getElem hi']
   simp only [Option.map_some]
   rw [(h.fn i _ _ (List.getElem?_eq_getElem hi) (List.getElem?_eq_getElem hi')).2.1]
  ·have hi' : ¬ i < st'.lo.length := by rw [h.len]; exact hi
   rw [List.getElem?_eq_none (by omega), List.getElem?_eq_none (by omega)]
 have e2 : st'.lo.flatMap (fun f => f.vs.map (fun v => v.m.x)) = st.lo.flatMap (fun f => f.vs.map (fun v => v.m.x)) := by
  show (List.map _ _).flatten = (List.map _ _).flatten
  rw [e]
 unfold St.sc St.all
 rw [List.flatMap_append, List.flatMap_append, e2]
 simp [h.tv]
theorem SmV.cut {st st' : St} {us : List Vr} (h : SmV st st' us) (v : Value) : Sm st (st'.top (st'.tp.cutV v st.tp.vs.length)) := by
 refine ⟨h.ab, h.gl, h.glv, h.len, fun i f f' h1 h2 => ?_, h.bx, h.bo, h.nf⟩
 by_cases hi : i < st.lo.length
 ·rw [all_lo hi] at h1
  have hi' : i < (st'.top (st'.tp.cutV v st.tp.vs.length)).lo.length := by show i < st'.lo.length; rw [h.len]; exact hi
  rw [all_lo hi'] at h2
  exact h.fn i f f' h1 h2
 ·have hl := (List.getElem?_eq_some_iff.1 h1).1
  rw [all_len] at hl
  obtain rfl : i = st.lo.length := by omega
  rw [St.all_top] at h1
  rw [← h.len] at h2
  have e2 : (st'.top (st'.tp.cutV v st.tp.vs.length)).all[st'.lo.length]? = some (st'.tp.cutV v st.tp.vs.length) := by simp [St.all, St.top]
  rw [e2] at h2
  cases h1
  cases h2
  refine ⟨h.tb, ?_, h.tc⟩
  show st'.tp.vs.take st.tp.vs.length = st.tp.vs
  rw [h.tv]
  simp
theorem owns_cut {w : World} {B n size cc k : Nat} {e : TypeId} {p : Option Addr} {xs : List Value} (h : w.ownsRow B e size (.slice p n cc) n xs) (hk : k ≤ n) : w.ownsRow B e size (.slice p k cc) k (xs.take (k * size)) := by
 obtain ⟨hl, ⟨hv, h0⟩ | ⟨g, cap, cur, hv, hg, hh, h1, h2, h3, h4⟩⟩ := h
 ·cases hv
  obtain rfl : k = 0 := by omega
  exact ⟨by simp, Or.inl ⟨rfl, rfl⟩⟩
 ·cases hv
  have hks : k * size ≤ n * size := Nat.mul_le_mul_right _ hk
  refine ⟨by rw [List.length_take, hl]; omega, Or.inr ⟨g, _, cur, rfl, hg, hh, by omega, h2, h3, ?_⟩⟩
  rw [← h4, List.take_take]
  congr 1
  omega
theorem vrC_take (vs : List Vr) (k : Nat) : (vrC vs).take (k * 3) = vrC (vs.take k) := by
 induction vs generalizing k with
 | nil => simp [vrC]
 | cons v vs ih =>
  cases k with
  | zero => simp [vrC]
  | succ k =>
   have e : vrC (v :: vs) = nmV v.m :: .int .i64 v.slot :: .int .i64 (v.bound : Nat) :: vrC vs := by simp [vrC]
   have e2 : vrC ((v :: vs).take (k + 1)) = nmV v.m :: .int .i64 v.slot :: .int .i64 (v.bound : Nat) :: vrC (vs.take k) := by simp [vrC]
   rw [e, e2, show (k + 1) * 3 = k * 3 + 1 + 1 + 1 by omega]
   simp only [List.take_succ_cons]
   rw [ih]
theorem Inv.cutV {c : Cx} {N k cc : Nat} {w : World} {st : St} {p : Option Addr} (h : Inv c N w st) (hv : st.tp.vv = .slice p st.tp.vs.length cc) (hk : k ≤ st.tp.vs.length) :
  Inv c N (w.setCell ⟨st.tp.b, 0, none⟩ (.slice p k cc)) (st.top (st.tp.cutV (.slice p k cc) k)) ∧ Fr st (st.top (st.tp.cutV (.slice p k cc) k)) w (w.setCell ⟨st.tp.b, 0, none⟩ (.slice p k cc)) := by
 have hf := h.tpI
 have hb : Below c.w0.heap.size w (w.setCell ⟨st.tp.b, 0, none⟩ (.slice p k cc)) := Below.setCell (Below.refl _ _) (p := ⟨st.tp.b, 0, none⟩) hf.b0 _
 refine h.putT (N' := N) (f' := st.tp.cutV (.slice p k cc) k) hb (fun j hj hn => set_keep _ (fun e => hn (Or.inl e))) ⟨(set_fn hf.blk _).1, hf.b0, ?_, owns_set hf.free hf.blk (by decide) _, owns_set hf.code hf.blk (by decide) _, hf.clen, fun v hv => hf.nms v (List.mem_of_mem_take hv)⟩ rfl (fun j hj => Or.inl ?_) (fun j hj => Or.inl hj) (fun j hj => Or.inl hj) ?_ (Nat.le_refl _)
 ·show World.ownsRow _ _ _ _ (.slice p k cc) (st.tp.vs.take k).length (vrC (st.tp.vs.take k))
  have h1 := hf.vars
  rw [hv] at h1
  have h2 := owns_cut h1 hk
  rw [vrC_take] at h2
  rw [List.length_take, Nat.min_eq_left hk]
  exact owns_set h2 hf.blk (by decide) _
 ·rw [hv]
  cases p with
  | none => cases hj
  | some a => exact hj
 ·have hw := h.tpW
  refine ⟨fun v hv => hw.vb v (List.mem_of_mem_take hv), hw.fb, hw.nd, hw.cn, ?_⟩
  show (st.tp.vs.take k).length ≤ N
  rw [List.length_take]
  have := hw.vn
  omega
structure Prs (w0 w : World) (hv iv : Value) (hs is_ : List Nat) : Prop where
 bel : Below w0.heap.size w0 w
 ho : OwI w w0.heap.size hv hs
 io : OwI w w0.heap.size iv is_
 ap : Apt hv iv
theorem Prs.keep {w0 w w' : World} {hv iv : Value} {hs is_ : List Nat} (h : Prs w0 w hv iv hs is_) (hb : Below w.heap.size w w') : Prs w0 w' hv iv hs is_ := ⟨h.bel.trans (hb.mono h.bel.size), h.ho.below hb, h.io.below hb, h.ap⟩
theorem Prs.addH {w0 w w' : World} {hv iv v' : Value} {hs is_ : List Nat} {x : Nat} (h : Prs w0 w hv iv hs is_) (ho : w'.ownsRow w0.heap.size 3 1 v' (hs.length + 1) (inC hs ++ [.int .i64 (x : Nat)])) (hb : Below w0.heap.size w w') (hbt : But w w' hv) (hl : ∀ k, v'.ownBlock = some k → hv.ownBlock = some k ∨ w.heap.size ≤ k) : Prs w0 w' v' iv (hs ++ [x]) is_ := by
 refine ⟨h.bel.trans hb, ?_, owns_but h.io h.ap.symm hbt, fun k hk hi => ?_⟩
 ·unfold OwI
  rw [List.length_append, List.map_append]
  exact ho
 ·rcases hl k hk with h1 | h1
  ·exact h.ap k h1 hi
  ·have := (owns_lt h.io k hi).1; omega
theorem Prs.addI {w0 w w' : World} {hv iv v' : Value} {hs is_ : List Nat} {x : Nat} (h : Prs w0 w hv iv hs is_) (ho : w'.ownsRow w0.heap.size 3 1 v' (is_.length + 1) (inC is_ ++ [.int .i64 (x : Nat)])) (hb : Below w0.heap.size w w') (hbt : But w w' iv) (hl : ∀ k, v'.ownBlock = some k → iv.ownBlock = some k ∨ w.heap.size ≤ k) : Prs w0 w' hv v' hs (is_ ++ [x]) := by
 refine ⟨h.bel.trans hb, owns_but h.ho h.ap hbt, ?_, fun k hk hi => ?_⟩
 ·unfold OwI
  rw [List.length_append, List.map_append]
  exact ho
 ·rcases hl k hi with h1 | h1
  ·exact h.ap k hk h1
  ·have := (owns_lt h.ho k hk).1; omega
structure LtS (c : Cx) (k : Nat) (ls : List (List Dt)) (hs is_ : List Nat) : Prop where
 ah : at_ c hs = ls.map (fun b => (kidsOf k b).getD 0 [])
 ai : at_ c is_ = ls.map (fun b => (kidsOf k b).getD 1 [])
 pr : ls.all isPr = true
 ph : Pcs c k hs
 pi : Pcs c k is_
 sm : sumS k (at_ c hs) + sumS k (at_ c is_) + ls.length = sumS k ls
theorem LtS.nil (c : Cx) (k : Nat) : LtS c k [] [] [] := ⟨rfl, rfl, rfl, (fun _ h => by cases h), (fun _ h => by cases h), rfl⟩
theorem LtS.lenh {c : Cx} {k : Nat} {ls : List (List Dt)} {hs is_ : List Nat} (h : LtS c k ls hs is_) : hs.length = ls.length := by
 have := congrArg List.length h.ah
 simpa [at_] using this
theorem LtS.snoc {c : Cx} {k : Nat} {ls : List (List Dt)} {hs is_ : List Nat} {l : List Dt} {b0 b1 : Nat} (h : LtS c k ls hs is_) (ho : Ok k l) (hp : isPr l = true) (he : at_ c [b0, b1] = kidsOf k l) (hb : Pcs c k [b0, b1]) : LtS c k (ls ++ [l]) (hs ++ [b0]) (is_ ++ [b1]) := by
 have hls : isLs l = true := by unfold isPr at hp; simp only [Bool.and_eq_true] at hp; exact hp.1
 have hsum := kids_sumK ho hls
 rw [← he] at hsum
 refine ⟨?_, ?_, ?_, fun i hi => ?_, fun i hi => ?_, ?_⟩
 ·rw [at_snoc, List.map_append, h.ah]
  simp [← he, at_]
 ·rw [at_snoc, List.map_append, h.ai]
  simp [← he, at_]
 ·rw [List.all_append, h.pr]
  simp [hp]
 ·rcases List.mem_append.1 hi with h1 | h1
  ·exact h.ph i h1
  ·rw [List.mem_singleton.1 h1]; exact hb b0 (by simp)
 ·rcases List.mem_append.1 hi with h1 | h1
  ·exact h.pi i h1
  ·rw [List.mem_singleton.1 h1]; exact hb b1 (by simp)
 ·rw [at_snoc, at_snoc, sumS_app, sumS_app, sumS_app, List.length_append]
  have h1 := h.sm
  simp only [at_, List.map_cons, List.map_nil, sumS] at hsum h1 ⊢
  simp only [List.length_cons, List.length_nil]
  omega
theorem letR_short {k : Nat} {F : List (List Int) → List Dt → Option (List (List Int))} {sc : List (List Int)} {r : Bool} {c : Cx} {xs : List Nat} (h : xs.length < 2) : letR k F sc r (at_ c xs) = none := by
 rcases xs with _ | ⟨a, _ | ⟨b, t⟩⟩
 ·rfl
 ·simp [letR, at_]
 ·simp at h; omega
theorem letR_bad {k : Nat} {F : List (List Int) → List Dt → Option (List (List Int))} {sc : List (List Int)} {r : Bool} {c : Cx} {x : Nat} {bs : List Nat} (h : isLs (c.ds.drop x) = false) : letR k F sc r (at_ c (x :: bs)) = none := by
 simp [letR, at_, h]
theorem letR_pair {k : Nat} {F : List (List Int) → List Dt → Option (List (List Int))} {sc : List (List Int)} {r : Bool} {c : Cx} {x : Nat} {bs : List Nat} {l : List Dt} (hm : l ∈ kidsOf k (c.ds.drop x)) (h : isPr l = false) : letR k F sc r (at_ c (x :: bs)) = none := by
 have e : at_ c (x :: bs) = c.ds.drop x :: at_ c bs := rfl
 rw [e]
 unfold letR
 simp only
 rw [if_neg]
 rintro ⟨_, _, h2⟩
 have := List.all_eq_true.1 h2 l hm
 rw [h] at this
 cases this
theorem letR_names {k : Nat} {F : List (List Int) → List Dt → Option (List (List Int))} {sc : List (List Int)} {r : Bool} {c : Cx} {x : Nat} {bs hs is_ : List Nat} (h : LtS c k (kidsOf k (c.ds.drop x)) hs is_) (hn : nmsOf (at_ c hs) = none) : letR k F sc r (at_ c (x :: bs)) = none := by
 have e : at_ c (x :: bs) = c.ds.drop x :: at_ c bs := rfl
 rw [e]
 unfold letR
 simp only
 split
 ·rw [← h.ah, hn]
 ·rfl
theorem letR_some {k : Nat} {F : List (List Int) → List Dt → Option (List (List Int))} {sc : List (List Int)} {r : Bool} {c : Cx} {x : Nat} {bs hs is_ : List Nat} {ns : List (List Int)} (hl : isLs (c.ds.drop x) = true) (hb : bs ≠ []) (h : LtS c k (kidsOf k (c.ds.drop x)) hs is_) (hn : nmsOf (at_ c hs) = some ns) : letR k F sc r (at_ c (x :: bs)) = cat (allO (F (if r = true then sc ++ ns else sc)) (at_ c is_)) (allO (F (sc ++ ns)) (at_ c bs)) := by
 have e : at_ c (x :: bs) = c.ds.drop x :: at_ c bs := rfl
 rw [e]
 unfold letR
 simp only
 rw [if_pos ⟨hl, by cases bs with | nil => exact absurd rfl hb | cons a t => simp [at_], h.pr⟩, ← h.ah, ← h.ai, hn]
theorem OwI.ix1 {c : Cx} {N : Nat} {st : St} {w w' : World} {p : Option Addr} {cc : Nat} {xs : List Nat} (hi : Inv c N w st) (h : OwI w' w.heap.size (.slice p xs.length cc) xs) : Ix st w' p xs.length cc xs := by
 obtain ⟨p', cc', e, hx⟩ := OwI.ix hi h
 cases e
 exact hx
theorem inKids (args : Array Value) (w : World) : (callFunc 40 args).run Tryz.prog w = .ok (.enter 40 args) w := by kernel_rfl
theorem inBind (args : Array Value) (w : World) : (callFunc 172 args).run Tryz.prog w = .ok (.enter 172 args) w := by kernel_rfl
structure LtM (c : Cx) (N k : Nat) (st : St) (w : World) (ms : List Nm) (is_ : List Nat) (sc : List (List Int)) (st' : St) (w' : World) : Prop where
 inv : Inv c (N + 100 + sumB k (at_ c is_) + 20 * ms.length) w' st'
 fr : Fr st st' w w'
 sm : ∃ us, SmV st st' us ∧ us.map (·.m) = ms
 rs : RsP (allO (rd (st.gl.map (·.x)) k sc) (at_ c is_)) st st'
 bo : st'.bo ≤ st.bo + ms.length + sumS k (at_ c is_)
theorem InL.m {c : Cx} {N k : Nat} {st st' : St} {w w' : World} {ms : List Nm} {xs : List Nat} (h : InL c N k st w ms xs st' w') : LtM c N k st w ms xs st.sc st' w' := by
 obtain ⟨s, v', us, rfl, h2, h3⟩ := h.sh
 refine ⟨h.inv.mono (by omega), h.fr, ⟨us, ?_, h3⟩, h.rs, h.bo⟩
 have := h2.v.trans (vs_add (s := s) (v' := v') (us := us))
 simpa using this
theorem map_mx {us : List Vr} {ms : List Nm} (h : us.map (·.m) = ms) : us.map (fun v => v.m.x) = ms.map (·.x) := by
 rw [← h, List.map_map]
 rfl
theorem LtM.fin {c : Cx} {N k cc : Nat} {st s1 s2 : St} {w w1 w2 w3 : World} {x0 : Nat} {bs hs is_ : List Nat} {ms : List Nm} {sc : List (List Int)} {p : Option Addr} (h0 : Fr st st w w1) (h : LtM c N k st w1 ms is_ sc s1 w2) (hls : isLs (c.ds.drop x0) = true) (hok : Ok k (c.ds.drop x0)) (hL : LtS c k (kidsOf k (c.ds.drop x0)) hs is_) (hml : ms.length = hs.length)
  (hb : SqP c (N + 100 + sumB k (at_ c is_) + 20 * ms.length) k s1 w2 bs s2 w3) (hv : s2.tp.vv = .slice p s2.tp.vs.length cc) :
  ∃ s3, Stp c (N + sumB k (at_ c (x0 :: bs)) + 8000) st w s3 (w3.setCell ⟨st.tp.b, 0, none⟩ (.slice p st.tp.vs.length cc)) ∧ RsP (cat (allO (rd (st.gl.map (·.x)) k sc) (at_ c is_)) (allO (rd (st.gl.map (·.x)) k (st.sc ++ ms.map (·.x))) (at_ c bs))) st s3 ∧ s3.bo ≤ st.bo + sumS k (at_ c (x0 :: bs)) ∧ s3.tp.b = st.tp.b := by
 obtain ⟨us, hu1, hu2⟩ := h.sm
 have hsm := hu1.then_ hb.stp.sm
 have hle : st.tp.vs.length ≤ s2.tp.vs.length := by rw [hsm.tv, List.length_append]; omega
 have hc := hb.stp.inv.cutV hv hle
 rw [hsm.tb] at hc
 have hsum := kids_sumK hok hls
 have hlen := hL.lenh
 have hsm2 := hL.sm
 have hB := sumB_le hL.pi.ok
 have e1 : sumB k (at_ c (x0 :: bs)) = bud k (c.ds.drop x0) + 10 + sumB k (at_ c bs) := rfl
 have e2 : sumS k (at_ c (x0 :: bs)) = sz k (c.ds.drop x0) + sumS k (at_ c bs) := rfl
 have e3 : bud k (c.ds.drop x0) = 20000 * sz k (c.ds.drop x0) - 10000 := rfl
 have hh := len_sum hL.ph.ok
 rw [show (at_ c hs).length = hs.length by simp [at_]] at hh
 refine ⟨_, ⟨hc.1.mono ?_, ((h0.trans h.fr).trans hb.stp.fr).trans hc.2, hsm.cut _⟩, ?_, ?_, hsm.tb⟩
 ·rw [e1]
  omega
 ·have h5 := hb.rs
  rw [hu1.gl, hu1.sc, map_mx hu2] at h5
  exact (h.rs.cat h5).then_ ⟨rfl, rfl, rfl⟩
 ·show s2.bo ≤ _
  have h6 := hb.bo
  have h7 := h.bo
  rw [e2]
  omega
set_option maxRecDepth 20000 in
set_option maxHeartbeats 1000000 in
theorem l5letw_c {c : Cx} {N k : Nat} {st : St} (p : Option Addr) (n d : Nat) (xs : List Nat) (lr tail : Bool) (w : World) (h : Inv c N w st) (hn : n < 2) (hN : N + 9000 ≤ 1000000000) :
  Calls Tryz.prog 138 #[.pointer (some ⟨st.ab, 0, none⟩), .slice p n d, .bool lr, .bool tail] w fun e w' => (∃ u, e = .returned u) ∧ SpP c N k st xs none w w' := by
 have t0 : decide ((n : Int) < 2) = true := decide_eq_true (by omega)
 have HI := mkC h
 have HW := mkC (l5wrong_c tail w.drew (h.stp (below_drewC (Below.refl _ _))).inv (by omega))
 clear h hn
 go_enter Tryz.func138, Tryz.ntmps138
 go_wp2_with fail
 go_region
 all_goals go_wp2_with fail
 all_goals refine HW.out.mono ?_
 all_goals rintro e w1 ⟨⟨u, rfl⟩, st', h1, h2, h3⟩
 all_goals have HF := mkC (wrong_sp (k := k) (xs := xs) (w := w) ⟨st', (HI.out.stp (below_drewC (Below.refl _ _))).trans h1, h2, h3⟩)
 all_goals clear h1 h2 h3 HW
 all_goals go_wp2_with fail
 all_goals refine bodyPost_ret (results_none rfl _ _ _) rfl ?_
 all_goals exact ⟨⟨_, rfl⟩, HF.out⟩
set_option maxRecDepth 20000 in
set_option maxHeartbeats 1000000 in
theorem l5letn_c {c : Cx} {N k : Nat} {st : St} (p : Option Addr) (n d x0 : Nat) (bs : List Nat) (lr tail : Bool) (w : World) (h : Inv c N w st) (hx : Ix st w p n d (x0 :: bs)) (hp : Pcs c k (x0 :: bs)) (hn : 2 ≤ n) (hs : isLs (c.ds.drop x0) = false) (hN : N + 9000 ≤ 1000000000) :
  Calls Tryz.prog 138 #[.pointer (some ⟨st.ab, 0, none⟩), .slice p n d, .bool lr, .bool tail] w fun e w' => (∃ u, e = .returned u) ∧ SpP c N k st (x0 :: bs) none w w' := by
 have t0 : decide ((n : Int) < 2) = false := decide_eq_false (by omega)
 have hn0 : 0 < n := by omega
 obtain ⟨g, o, rfl, hg, y0⟩ := hx.at_ (i := 0) (by simp)
 simp only [List.getElem_cons_zero, Nat.add_zero] at y0
 have hx0 : x0 < c.dn := (hp x0 (by simp)).1
 obtain ⟨db, dof, hdp, hdc, _, _⟩ := h.dtAt hx0
 have e0 := (cells10 h.blk).1
 rw [hdp] at e0
 have k0 := (hdc w h.bel).1
 have t1 : ((hd (c.ds.drop x0)).kind == 3) = false := by unfold isLs at hs; simpa using hs
 generalize (hd (c.ds.drop x0)).kind = kd at k0 t1
 have HI := mkC h
 have HW := mkC (l5wrong_c tail w.drew (h.stp (below_drewC (Below.refl _ _))).inv (by omega))
 clear h hx hp hn hs hdc
 go_enter Tryz.func138, Tryz.ntmps138
 go_wp2_with fail
 go_region
 all_goals go_wp2_with fail
 all_goals refine HW.out.mono ?_
 all_goals rintro e w1 ⟨⟨u, rfl⟩, st', h1, h2, h3⟩
 all_goals have HF := mkC (wrong_sp (k := k) (xs := x0 :: bs) (w := w) ⟨st', (HI.out.stp (below_drewC (Below.refl _ _))).trans h1, h2, h3⟩)
 all_goals clear h1 h2 h3 HW
 all_goals go_wp2_with fail
 all_goals refine bodyPost_ret (results_none rfl _ _ _) rfl ?_
 all_goals exact ⟨⟨_, rfl⟩, HF.out⟩
end Cp
end Go.Proofs.YtnnpfoilojicjaaGreatDoor
