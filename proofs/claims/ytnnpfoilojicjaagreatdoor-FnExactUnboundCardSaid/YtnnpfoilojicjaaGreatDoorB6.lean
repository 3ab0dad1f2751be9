import Derived.Test.YtnnpfoilojicjaaGreatDoorB5
import Derived.Test.YtnnpfoilojicjaaGreatDoorB3
import Derived.Test.YtnnpfoilojicjaaGreatDoorJ3
namespace Go.Proofs.YtnnpfoilojicjaaGreatDoor
open Go.RowKit Ch1
namespace Cp
theorem inPrimOf (args : Array Value) (w : World) : (callFunc 134 args).run Tryz.prog w = .ok (.enter 134 args) w := by kernel_rfl
theorem inNext (args : Array Value) (w : World) : (callFunc 78 args).run Tryz.prog w = .ok (.enter 78 args) w := by kernel_rfl
theorem inConst (args : Array Value) (w : World) : (callFunc 81 args).run Tryz.prog w = .ok (.enter 81 args) w := by kernel_rfl
theorem SpP.pre {c : Cx} {N k : Nat} {st : St} {xs : List Nat} {r : Option (List (List Int))} {w w2 w3 : World} (hs : Stp c N st w st w2) (h : SpP c N k st xs r w2 w3) : SpP c N k st xs r w w3 := by
 obtain ⟨s', h1, h2, h3⟩ := h
 exact ⟨s', hs.trans h1, h2, h3⟩
theorem Da.sub {w : World} {b o n cc i m : Nat} {ds : List Dt} (h : Da w (some ⟨b, o, none⟩) n cc ds) (hm : i + m ≤ n) : Da w (some ⟨b, o + i * 4, none⟩) m (cc - i) ((ds.drop i).take m) := by
 have hl := h.len
 have hc := h.cap
 have hbg := h.big
 refine ⟨by rw [List.length_take, List.length_drop]; omega, by omega, by omega, fun h0 => ?_⟩
 obtain ⟨b', o', e, hlt, hcl⟩ := h.cells (by omega)
 cases e
 refine ⟨b, o + i * 4, rfl, hlt, fun j hj => ?_⟩
 obtain ⟨tp, tn, tc, he⟩ := hcl (i + j) (by omega)
 refine ⟨tp, tn, tc, ?_⟩
 have e1 : ((ds.drop i).take m).getD j dt0 = ds.getD (i + j) dt0 := by
  rw [List.getD_eq_getElem?_getD, List.getElem?_take_of_lt hj, List.getElem?_drop, ← List.getD_eq_getElem?_getD]
 rw [e1, show o + i * 4 + j * 4 = o + (i + j) * 4 by omega]
 exact he
theorem spc_prim {gl : List (List Int)} {k : Nat} {F : List (List Int) → List Dt → Option (List (List Int))} {sc : List (List Int)} {h : List Dt} {rest : List (List Dt)} {ar : Nat} (hp : primN (nm h) = some ar) : spcR gl k F sc h rest = if rest.length = ar then allO (F sc) rest else none := by
 unfold spcR
 rw [hp]
theorem spc_none {gl : List (List Int)} {k : Nat} {F : List (List Int) → List Dt → Option (List (List Int))} {sc : List (List Int)} {h : List Dt} {rest : List (List Dt)} (hp : primN (nm h) = none) : spcR gl k F sc h rest =
  if nm h = wQuote then (if rest.length = 1 then some [] else none)
  else if nm h = wIf then (if rest.length = 2 ∨ rest.length = 3 then allO (F sc) rest else none)
  else if nm h = wLambda then lamR k F sc rest
  else if nm h = wLet then letR k F sc false rest
  else if nm h = wLetrec then letR k F sc true rest
  else if nm h = wSet then setR gl F sc rest
  else if nm h = wBegin then (if rest = [] then none else allO (F sc) rest)
  else if nm h = wAnd then allO (F sc) rest
  else if nm h = wOr then allO (F sc) rest
  else if nm h = wDefine then none
  else allO (F sc) (h :: rest) := by
 unfold spcR
 rw [hp]
def TxB (c : Cx) : Prop := ∀ x ∈ c.ds, x.text.length ≤ 100
set_option maxRecDepth 200000 in
set_option maxHeartbeats 8000000 in
theorem l5spq_c {c : Cx} {N k : Nat} {st : St} (hE : ExC c k) (p : Option Addr) (d x0 x1 : Nat) (tail : Bool) (w : World) (hT : TxB c) (r : Option (List (List Int))) (hr : r = spcR (st.gl.map (·.x)) k (rd (st.gl.map (·.x)) k) st.sc (c.ds.drop x0) (Cp.at_ c [x1])) (h : Inv c N w st) (hx : Ix st w p 2 d (x0 :: [x1])) (hp : Pcs c k (x0 :: [x1])) (hs : isSy (c.ds.drop x0) = true) (hq : nm (c.ds.drop x0) = wQuote) (hN : N + sumB k (Cp.at_ c [x1]) + 9000 ≤ 1000000000) (hb : st.bo + sumS k (Cp.at_ c [x1]) ≤ 3000) :
  Calls Tryz.prog 84 #[.pointer (some ⟨st.ab, 0, none⟩), .slice p (2 : Nat) d, .bool tail] w fun e w' => ∃ b, e = .returned (.bool b) ∧ ((b = true ∧ SpP c N k st [x1] r w w') ∨ (b = false ∧ Below w.heap.size w w' ∧ r = allO (rd (st.gl.map (·.x)) k st.sc) (Cp.at_ c (x0 :: [x1])))) := by
 have HE := mkC hE
 have HTX := mkC hT
 have HR := mkC hr
 have HQW := mkC hq
 have HX := mkC hx
 have HP := mkC hp
 have HN := mkC hN
 have HB := mkC hb
 have hx0 : x0 < c.dn := (hp x0 (by simp)).1
 obtain ⟨m, db, dof, hdp, hmx, hm, hmc⟩ := h.nmAt hx0 (hp x0 (by simp)).2 hs
 have HM := mkC hm
 have HDP := mkC hdp
 have HMX := mkC hmx
 have hdc : 2 ≤ d := hx.cap
 have hn0 : (0 : Int) < (1 : Int) + 1 := by omega
 obtain ⟨g, o, rfl, hg, y0⟩ := hx.at_ (i := 0) (by simp)
 simp only [List.getElem_cons_zero, Nat.add_zero] at y0
 have e0 := (cells10 h.blk).1
 rw [hdp] at e0
 have k2 := hmc w h.bel
 have kc := conv_nm hm (below_drewC h.bel)
 have HB0 : Hid (Below w.heap.size w w.drew.drew) := below_drewC (below_drewC (Below.refl _ _))
 have HPO := mkC (l3primOf_c m w.drew.drew (below_drewC (below_drewC h.bel)) hm)
 have HI := mkC h
 have hdn := h.dn
 obtain ⟨s, hsx⟩ : ∃ s, s = strOfNums m.x := ⟨_, rfl⟩
 rw [← hsx] at kc
 have HSX := mkC hsx
 obtain ⟨mp, mn, mc, mx⟩ := m
 simp only at k2 kc HPO HMX HSX
 have hxl : ([x1] : List Nat).length = 1 := rfl
 have HXL := mkC hxl
 clear hq h hx hp hE hN hb hs hdp hmc hm hmx hsx hT hr hxl
 go_enter Tryz.func84, Tryz.ntmps84
 go_wp2_with fail
 go_region
 go_upto_region 2 with fail
 go_cut [8] from 25 (fun v wc => wc = w.drew ∧ ∃ (p1 : Option Addr) (d1 : Nat), v = .slice p1 1 d1 ∧ Ix st w p1 1 d1 [x1])
 case first =>
  have HT : Hid (∀ p1, (0 < 1 → p1 = some ⟨g, o + 1, none⟩) → Ix st w p1 1 (d - 1) [x1]) := fun p1 hp1 => by
   obtain ⟨d', rfl⟩ : ∃ d', d = d' + 1 := ⟨d - 1, by omega⟩
   have h1 := HX.out.tail (p' := p1) hp1
   simpa using h1
  go_wp2_with fail
  go_meet
  exact ⟨rfl, _, _, rfl, HT.out _ (fun _ => rfl)⟩
 case rest =>
 obtain ⟨hwc, p1, d1, rfl, hx1⟩ := hcut
 subst hwc
 have HX1 := mkC hx1
 clear hx1
 go_upto_region 3 with fail
 go_cut [9] from 27 (fun v w2 => ∃ z : Int, v = .int .i64 z ∧ PoP mx z ∧ Below w.heap.size w w2)
 case first =>
  go_region_law (refine step_callC _ rfl 134 _ _ rfl #[.slice mp mn mc] ?ha (inPrimOf _) (fun v w2 => ∃ z : Int, v = .int .i64 z ∧ PoP mx z ∧ Below w.heap.size w w2) (HPO.out.mono (fun e w2 hh => (by obtain ⟨⟨z, h1, h2⟩, h3⟩ := hh; exact ⟨_, h1, z, rfl, h2, HB0.out.trans h3⟩))) ?_; (case ha => first | (simp [Act.eval]; done) | (simp [Act.eval, Act.put]; done)); rintro v w2 ⟨z, rfl, hh2⟩; have HH2 := mkC hh2; clear hh2)
  all_goals go_wp2_with fail
  all_goals go_meet
  all_goals exact ⟨_, rfl, HH2.out⟩
 case rest =>
 obtain ⟨z, rfl, hpo, hb2⟩ := hcut
 obtain ⟨w2, hw2⟩ : ∃ w2, w2 = wc := ⟨_, rfl⟩
 subst hw2
 have HS2 := mkC (HI.out.stp hb2)
 have HBL2 := mkC hb2
 have HX2 := mkC (HX1.out.step HS2.out.fr)
 clear HPO e0 y0 k2 kc hb2
 have HPX : Hid (Pcs c k [x1]) := fun x hx => HP.out x (List.mem_cons_of_mem _ hx)
 have HLN : Hid ((Cp.at_ c [x1]).length = 1) := rfl
 have HMQ : Hid (mx = wQuote) := HMX.out.trans HQW.out
 rcases hpo with ⟨rfl, hpn⟩ | ⟨j, hj, rfl, hpn⟩
 ·have HRN : Hid (r = some []) := by
   unfold Hid
   rw [HR.out, spc_none (by rw [HQW.out]; decide), if_pos HQW.out, if_pos HLN.out]
  have qQuote : (s.toList == [113, 117, 111, 116, 101]) = true := by rw [HSX.out, str_lit HM.out.rg (W := wQuote) (by unfold Rg; decide) (by decide)]; exact decide_eq_true HMQ.out
  clear hpn
  obtain ⟨rr, hrr⟩ := (HPX.out x1 (by simp)).2
  have hx1n : x1 < c.dn := (HPX.out x1 (by simp)).1
  have hdl := HS2.out.inv.dat.len
  obtain ⟨mm, hmm1, hmm2, _, hop, hoj⟩ := skip_place hrr (by omega)
  have hbd2 := below_drewC (Below.refl w2.heap.size w2)
  have HDA := mkC (HS2.out.inv.dat.below (below_drewC HS2.out.inv.bel))
  have HNX := mkC (next23 c.dp c.dn c.dc x1 mm c.ds w2.drew HDA.out HS2.out.inv.dn hmm1 (by omega) hop hoj)
  rw [HDP.out] at HDA HNX
  obtain ⟨xg, xo, rfl, hxg, yi⟩ := HX2.out.at_ (i := 0) (by simp)
  simp only [List.getElem_cons_zero, Nat.add_zero] at yi
  have HCO := mkC (l5const_c (some ⟨db, dof + x1 * 4, none⟩) mm (c.dc - x1) ((c.ds.drop x1).take mm) w2.drew (HS2.out.inv.stp hbd2).inv (Da.sub HDA.out (by omega)) (by omega) (fun x hx => HTX.out x (List.mem_of_mem_drop (List.mem_of_mem_take hx))) (by have := HN.out; omega))
  have e0 := (cells10 HS2.out.inv.blk).1
  rw [HDP.out] at e0
  have hdcap := HS2.out.inv.dat.cap
  have hmd : x1 + mm ≤ c.dn := by omega
  have hi1 : (0 : Int) ≤ (x1 : Int) := by omega
  have hi2 : (x1 : Int) ≤ (x1 : Int) + (mm : Int) := by omega
  have hi3 : (x1 : Int) + (mm : Int) ≤ (c.dc : Int) := by omega
  clear hrr hop hoj hdl hbd2
  go_upto_region 20 with fail
  go_cut [6] from 82 (fun _ w3 => CoP c N st w2 w3)
  case first =>
   go_region_law (first
    | (refine step_callC _ rfl 78 _ _ rfl #[.slice (some ⟨db, dof, none⟩) c.dn c.dc, .int .i64 (x1 : Nat)] ?ha (inNext _) (fun v w3 => v = .int .i64 ((x1 + mm : Nat) : Int) ∧ w3 = w2.drew) (HNX.out.mono (fun e w3 hh => (by obtain ⟨h1, h2⟩ := hh; exact ⟨_, h1, rfl, h2⟩))) ?_; (case ha => first | (simp [Act.eval]; done) | (simp [Act.eval, Act.put]; done)); rintro v w3 ⟨rfl, rfl⟩)
    | (refine step_callC _ rfl 81 _ _ rfl #[.pointer (some ⟨st.ab, 0, none⟩), .slice (some ⟨db, dof + x1 * 4, none⟩) mm (c.dc - x1)] ?ha (inConst _) (fun v w3 => CoP c N st w2.drew w3) (HCO.out.mono (fun e w3 hh => (by obtain ⟨⟨u, h1⟩, h2⟩ := hh; exact ⟨u, h1, h2⟩))) ?_; (case ha => first | (simp [Act.eval]; omega) | (simp [Act.eval, Act.put]; omega)); rintro v w4 hh4; have HC4 := mkC hh4; clear hh4))
   all_goals (go_step; go_step; go_meet)
   all_goals (obtain ⟨s4, h1, h2⟩ := HC4.out)
   all_goals exact ⟨s4, (HS2.out.inv.stp (below_drewC (Below.refl _ _))).trans h1, h2⟩
  case rest =>
  obtain ⟨s4, h1, h2⟩ := hcut
  have HS4 := mkC (And.intro h1 h2)
  have HDO := mkC (doneA (ab := st.ab) tail wc h1.inv h1.sm.ab (by have := HN.out; omega))
  clear h1 h2 HCO HNX yi e0
  go_wp2_with fail
  refine HDO.out.mono ?_
  rintro e w6 ⟨⟨u, rfl⟩, s6, hs6, hq6⟩
  have HF : Hid (SpP c N k st [x1] r w w6) := by
   unfold Hid
   rw [HRN.out]
   exact ⟨s6, ((HS2.out.trans HS4.out.1).trans hs6).mono (by omega), (HS4.out.2.trans hq6).rs, by rw [hq6.2.2, HS4.out.2.2.2]; exact Nat.le_add_right _ _⟩
  clear hs6 hq6 HDO
  go_wp2_with fail
  go_ret
  exact ⟨true, rfl, Or.inl ⟨rfl, HF.out⟩⟩
 ·rw [HMQ.out] at hpn
  rw [show primN wQuote = none by decide] at hpn
  cases hpn
end Cp
end Go.Proofs.YtnnpfoilojicjaaGreatDoor
