import Derived.Test.YtnnpfoilojicjaaGreatDoorO4
import Derived.Test.YtnnpfoilojicjaaGreatDoorBl
namespace Go.Proofs.YtnnpfoilojicjaaGreatDoor
open Go.RowKit Ch1
namespace Cp
theorem glsF_app (b : List (List Dt)) : ∀ (a : List (List Dt)) (gl : List (List Int)), glsF gl (a ++ b) = (glsF gl a).bind (fun g => glsF g b)
 | [], gl => rfl
 | x :: a, gl => by
  simp only [List.cons_append, glsF]
  split
  ·split
   ·exact glsF_app b a _
   ·rfl
  ·exact glsF_app b a _
theorem glsF_bad {a b : List (List Dt)} {x : List Dt} {g : List (List Int)} (h : glsF [] a = some g) (hd : isDf x = true) (ho : okDf x = false) : glsF [] (a ++ x :: b) = none := by
 rw [glsF_app, h]
 show glsF g (x :: b) = none
 simp only [glsF]
 rw [if_pos hd, ho]
 rfl
theorem glsF_skip {a : List (List Dt)} {x : List Dt} {g : List (List Int)} (h : glsF [] a = some g) (hd : isDf x = false) : glsF [] (a ++ [x]) = some g := by
 rw [glsF_app, h]
 show glsF g [x] = some g
 simp only [glsF]
 rw [hd]
 rfl
theorem glsF_add {a : List (List Dt)} {x : List Dt} {g : List (List Int)} (h : glsF [] a = some g) (hd : isDf x = true) (ho : okDf x = true) : glsF [] (a ++ [x]) = some (addN g (nm ((kidsOf 100 x).getD 1 []))) := by
 rw [glsF_app, h]
 show glsF g [x] = _
 simp only [glsF]
 rw [if_pos hd, if_pos ho]
theorem addN_len (g : List (List Int)) (x : List Int) : (addN g x).length ≤ g.length + 1 := by
 unfold addN
 split
 ·omega
 ·simp
def R1 (c : Cx) (db dof : Nat) (S : Nat → Prop) (s : Sg) (w : World) (p : Option Addr) (n cc : Nat) (es : List Pe) (i : Nat) (wr : World) : Prop := ∃ G : List Pv, glsF [] (at_ c ((es.take i).map (·.1))) = some (G.map (·.x)) ∧ G.length ≤ i ∧ PgI c 0 wr { s with gls := G } ∧ FrP s { s with gls := G } w wr ∧ EsR c db dof S 100 wr p n cc es
theorem infoFm : (Tryz.prog.info? 111).map (fun i => (i.zero, i.size, i.bytes)) = some (some (.agg #[.pointer none, .nilFunc]), 2, 16) := by kernel_rfl
theorem inFormP (args : Array Value) (w : World) : (callFunc 63 args).run Tryz.prog w = .ok (.enter 63 args) w := by kernel_rfl
theorem PgI.addFm {c : Cx} {N : Nat} {w w1 : World} {s : Sg} (h : PgI c N w s) {v' : Value} {xs : List Value} (hl3 : s.fmn + 1 ≤ 3000) (ho : w1.ownsRow c.w0.heap.size 111 2 v' (s.fmn + 1) xs) (hb : Below c.w0.heap.size w w1) (hbt : But w w1 s.fmv) (hl : ∀ k, v'.ownBlock = some k → s.fmv.ownBlock = some k ∨ w.heap.size ≤ k) :
  PgI c N (w1.setCell ⟨s.pb, 5, none⟩ v') { s with fmv := v', fmn := s.fmn + 1, fm := xs } ∧ FrP s { s with fmv := v', fmn := s.fmn + 1, fm := xs } w (w1.setCell ⟨s.pb, 5, none⟩ v') := by
 have hab := (Array.getElem?_eq_some_iff.1 h.blk).1
 have hab1 : w1.heap[s.pb]? = some _ := (hbt _ hab (owns_ne h.fmo h.blk (by decide))).trans h.blk
 have hch : ∀ k, k < w.heap.size → k ≠ s.pb → s.fmv.ownBlock ≠ some k → (w1.setCell ⟨s.pb, 5, none⟩ v').heap[k]? = w.heap[k]? := fun k hk h1 h2 => (set_keep v' h1).trans (hbt k hk (fun e => h2 e.symm))
 have hob : ∀ {k : Nat} {o : Obj}, w.heap[k]? = some o → (∀ a, o ≠ .cells a 59) → (∀ a, o ≠ .cells a 111) → (w1.setCell ⟨s.pb, 5, none⟩ v').heap[k]? = some o := fun {k o} hk h1 h2 => by
  refine (hch k (Array.getElem?_eq_some_iff.1 hk).1 (fun e => ?_) (fun e => ?_)).trans hk
  ·rw [e, h.blk] at hk
   exact h1 _ (Option.some.inj hk).symm
  ·obtain ⟨_, cur, hc⟩ := owns_lt h.fmo k e
   rw [hc] at hk
   exact h2 _ (Option.some.inj hk).symm
 have row : ∀ {n size : Nat} {e : TypeId} {v : Value} {xs : List Value}, w.ownsRow c.w0.heap.size e size v n xs → e ≠ 111 → e ≠ 59 → (w1.setCell ⟨s.pb, 5, none⟩ v').ownsRow c.w0.heap.size e size v n xs := fun hr h9 hp => owns_of_heap hr (fun j hj => by
  obtain ⟨_, cur, hc⟩ := owns_lt hr j hj
  rw [hc]
  exact hob hc (fun a e => by cases e; exact hp rfl) (fun a e => by cases e; exact h9 rfl))
 refine ⟨⟨h.bel.trans (Below.setCell hb (p := ⟨s.pb, 5, none⟩) h.pb0 v'), h.pb0, (set_pg hab1 v').2.2.2, ?_, ?_, h.gm0, h.nd, fun v hv => ⟨?_, (h.vrs v hv).2⟩, row h.sco (by decide) (by decide), row h.ubo (by decide) (by decide), h.ubr, owns_set ho hab1 (by decide) v', ?_⟩, ⟨?_, ?_, ?_⟩⟩
 ·obtain ⟨es, clk, h1, h2⟩ := h.wor
  exact ⟨es, clk, hob h1 (fun a e => by cases e) (fun a e => by cases e), h2⟩
 ·obtain ⟨es, clk, h1, h2⟩ := h.glo
  exact ⟨es, clk, hob h1 (fun a e => by cases e) (fun a e => by cases e), h2⟩
 ·obtain ⟨n, g, bx, h1⟩ := (h.vrs v hv).1
  exact ⟨n, g, bx, hob h1 (fun a e => by cases e) (fun a e => by cases e)⟩
 ·have h1 := h.len
  exact ⟨h1.1, h1.2.1, h1.2.2.1, hl3, h1.2.2.2.2⟩
 ·rw [set_size]; exact hb.size
 ·intro k hk hn
  exact hch k hk (fun e => hn (Or.inl e)) (fun e => hn (Or.inr (Or.inr (Or.inr (Or.inr (Or.inl e))))))
 ·intro k hk
  rcases hk with hk | hk | hk | hk | hk | hk
  ·exact Or.inl (Or.inl hk)
  ·exact Or.inl (Or.inr (Or.inl hk))
  ·exact Or.inl (Or.inr (Or.inr (Or.inl hk)))
  ·exact Or.inl (Or.inr (Or.inr (Or.inr (Or.inl hk))))
  ·rcases hl k hk with h1 | h1
   ·exact Or.inl (Or.inr (Or.inr (Or.inr (Or.inr (Or.inl h1)))))
   ·exact Or.inr h1
  ·exact Or.inl (Or.inr (Or.inr (Or.inr (Or.inr (Or.inr hk)))))
def R2 (c : Cx) (db dof : Nat) (S : Nat → Prop) (s0 : Sg) (w0 : World) (p : Option Addr) (n cc : Nat) (es : List Pe) (j : Nat) (wr : World) : Prop := ∃ (s' : Sg) (ns : List (List Int)), allO (topR (s0.gls.map (·.x))) (at_ c ((es.take j).map (·.1))) = some ns ∧ PgI c (sumB 100 (at_ c ((es.take j).map (·.1)))) wr s' ∧ s'.pb = s0.pb ∧ s'.gls = s0.gls ∧ s'.sc = [] ∧ s'.fmn = j ∧ s'.ub = ns ∧ EsR c db dof S 100 wr p n cc es ∧ FrP s0 s' w0 wr
def PgQ (c : Cx) (s : Sg) (o : Option (List (List Int))) (w w' : World) (r : Ending) : Prop := match o with
 | none => r = gramE ∧ Below c.w0.heap.size c.w0 w'
 | some ns => ∃ (u : Value) (s' : Sg), r = .returned u ∧ PgI c 1000000000 w' s' ∧ s'.pb = s.pb ∧ s'.ub = ns ∧ FrP s s' w w'
theorem R2.step {c : Cx} {db dof : Nat} {S : Nat → Prop} {s0 s' s'' : Sg} {p : Option Addr} {n cc j : Nat} {es : List Pe} {e : Pe} {ns ns2 : List (List Int)} {w0 wr W W2 w3 : World} {v' : Value} {xs : List Value} (hsn : es.take (j + 1) = es.take j ++ [e]) (hj : j + 1 ≤ 3000) (h1 : allO (topR (s0.gls.map (·.x))) (at_ c ((es.take j).map (·.1))) = some ns) (h2 : topR (s0.gls.map (·.x)) (c.ds.drop e.1) = some ns2) (h3 : s'.pb = s0.pb ∧ s'.gls = s0.gls ∧ s'.sc = [] ∧ s'.fmn = j ∧ s'.ub = ns) (hes : EsR c db dof S 100 wr p n cc es) (hf0 : FrP s0 s' w0 wr) (hp : PgI c (sumB 100 (at_ c ((es.take j).map (·.1)))) wr s') (hW : Below wr.heap.size wr W)
  (g1 : PgI c (sumB 100 (at_ c ((es.take j).map (·.1))) + bud 100 (c.ds.drop e.1)) W2 s'') (g2 : FrP s' s'' W W2) (g3 : SmP s' s'') (g4 : s''.ub = s'.ub ++ ns2) (ho : w3.ownsRow c.w0.heap.size 111 2 v' (j + 1) xs) (hb : Below c.w0.heap.size W2 w3) (hbt : But W2 w3 s'.fmv) (hl : ∀ k, v'.ownBlock = some k → s'.fmv.ownBlock = some k ∨ W2.heap.size ≤ k) : R2 c db dof S s0 w0 p n cc es (j + 1) (w3.setCell ⟨s0.pb, 5, none⟩ v') := by
 have hfm : s''.fmn = j := g3.fmn.trans h3.2.2.2.1
 have q := g1.addFm (v' := v') (xs := xs) (by omega) (by rw [hfm]; exact ho) hb (by rw [g3.fmv]; exact hbt) (by rw [g3.fmv]; exact hl)
 rw [show s''.pb = s0.pb from g3.pb.trans h3.1] at q
 have hatS : Cp.at_ c ((es.take (j + 1)).map (·.1)) = Cp.at_ c ((es.take j).map (·.1)) ++ [c.ds.drop e.1] := by
  rw [hsn]
  simp [Cp.at_]
 have hp1 := hp.below hW
 refine ⟨_, ns ++ ns2, ?_, q.1.mono ?_, rfl, g3.gls.trans h3.2.1, g3.sc.trans h3.2.2.1, by show s''.fmn + 1 = j + 1; rw [hfm], by show s''.ub = ns ++ ns2; rw [g4, h3.2.2.2.2], (((hes.below hW).frp hp1.1 g2).frp g1 q.2), ((hf0.trans hp1.2).trans g2).trans q.2⟩
 ·rw [hatS, allO_app, allO_one, h1, h2]
  rfl
 ·rw [hatS, sumB_app]
  simp only [sumB]
  omega
theorem forms_bud {c : Cx} (hl : c.ds.length ≤ 3000) (hrow : rowOf c.ds = true) (hok : ∀ l ∈ frm c.ds, Ok 100 l) : sumB 100 (frm c.ds) ≤ 100000000 := by
 have h1 := frm_sum _ c.ds (Nat.le_refl _) hrow
 have h2 := sumB_le (k := 100) (ls := frm c.ds) hok
 omega
set_option maxRecDepth 20000 in
set_option maxHeartbeats 8000000 in
theorem read_c {c : Cx} {db dof : Nat} (hx : PgX c db dof) (hE : ExpC c db dof 100) {S : Nat → Prop} {s : Sg} (w : World) (p : Option Addr) (n cc : Nat) (es : List Pe) (h : PgI c 0 w s) (hg : s.gls = []) (hsc : s.sc = []) (hub : s.ub = []) (hfm : s.fmn = 0) (hes : EsR c db dof S 100 w p n cc es) (hat : Cp.at_ c (es.map (·.1)) = frm c.ds) (hn3 : n ≤ 3000) (hrow : rowOf c.ds = true) :
  Calls Tryz.prog 33 #[.pointer (some ⟨s.pb, 0, none⟩), .slice p n cc] w fun r w' => PgQ c s (pgR c.ds) w w' r := by
 have HX := mkC hx
 have HE := mkC hE
 have HI := mkC h
 have HL : Hid (es.length = n) := hes.1
 have HAT := mkC hat
 have HSC := mkC hsc
 have HUB := mkC hub
 have HFM := mkC hfm
 have HBUD : Hid (sumB 100 (frm c.ds) ≤ 100000000) := forms_bud (by rw [hx.da.len]; exact hx.dn) hrow (fun l hl => by
  rw [← hat] at hl
  obtain ⟨i, hi, rfl⟩ := List.mem_map.1 hl
  obtain ⟨e, he, rfl⟩ := List.mem_map.1 hi
  exact (hes.2.2.2 e he).ok.2.1)
 have hs0 : ({ s with gls := [] } : Sg) = s := by rw [← hg]
 have HST : Hid (R1 c db dof S s w p n cc es 0 w) := ⟨[], rfl, Nat.le_refl _, by rw [hs0]; exact h, by rw [hs0]; exact FrP.refl _ _, hes⟩
 clear hs0
 clear hx hE h hg hsc hub hfm hes hat hrow
 go_enter Tryz.func33, Tryz.ntmps33
 go_wp2_with fail
 go_loopw [10] (fun iv wr => ∃ i : Nat, i ≤ n ∧ iv = .int .i64 (i : Nat) ∧ Hid (R1 c db dof S s w p n cc es i wr)) (fun iv _ => n - (intOf iv).toNat)
 case atStart => exact ⟨0, Nat.zero_le _, rfl, HST.out⟩
 case round =>
  obtain ⟨i, hi, rfl, hR⟩ := hrel
  obtain ⟨G, hgl, hGl, hpg, hfr, hes⟩ := hR.out
  by_cases hlt : i < n
  ·have hil : i < es.length := by rw [HL.out]; exact hlt
   obtain ⟨g, o, cur, rfl, hg, hcl⟩ := hes.2.2.1 (by omega)
   obtain ⟨y0, y1⟩ := hcl i hil
   have hgl_ := (Array.getElem?_eq_some_iff.1 hg).1
   have hncc := hes.2.1
   have hpt := hes.2.2.2 _ (List.getElem_mem hil)
   have hsp := es_split hil
   have hsn := es_snoc hil
   generalize es[i]'hil = e at y0 y1 hpt hsp hsn
   have hatT : frm c.ds = Cp.at_ c ((es.take i).map (·.1)) ++ c.ds.drop e.1 :: Cp.at_ c ((es.drop (i + 1)).map (·.1)) := by
    rw [← HAT.out]
    conv => lhs; rw [hsp]
    simp [Cp.at_]
   have hatS : Cp.at_ c ((es.take (i + 1)).map (·.1)) = Cp.at_ c ((es.take i).map (·.1)) ++ [c.ds.drop e.1] := by
    rw [hsn]
    simp [Cp.at_]
   obtain ⟨so, sn, sc, hdv⟩ : ∃ so sn sc, e.2.1 = .slice (some ⟨db, so, none⟩) sn sc := ⟨_, _, _, hpt.ok.1⟩
   obtain ⟨ep, eN, eC, els, hev, hels, hkid, hel3, _⟩ := hpt.esr2 HX.out
   obtain ⟨W2, hW2⟩ : ∃ W2, W2 = wr.alloc (.cells #[.slice (some ⟨db, so, none⟩) sn sc, .slice ep eN eC] 102) := ⟨_, rfl⟩
   have hb2 : Below wr.heap.size wr W2 := by rw [hW2]; exact below1 _ _
   have hbox : W2.heap[wr.heap.size]? = some (.cells #[.slice (some ⟨db, so, none⟩) sn sc, .slice ep eN eC] 102) := by rw [hW2]; exact Go.Deep.blk_alloc_new _ _
   have hp2 := hpg.below hb2
   have hID := isDefinition_c HX.out W2 hp2.1.bel (hpt.below hb2)
   rw [hdv, hev] at hID
   rw [hdv] at y0
   rw [hev] at y1
   have HW2 := mkC hW2
   have HID := mkC hID
   have hNB : ∀ w1, Below W2.heap.size W2 w1 → Below wr.heap.size wr w1 := fun w1 hb => hb2.trans (hb.mono hb2.size)
   cases hd : isDf (c.ds.drop e.1) with
   | false =>
    rw [hd] at HID
    have HNX : Hid (∀ w1, Below W2.heap.size W2 w1 → R1 c db dof S s w (some ⟨g, o, none⟩) n cc es (i + 1) w1) := fun w1 hb1 => by
     have q := hpg.below (hNB w1 hb1)
     exact ⟨G, by rw [hatS]; exact glsF_skip hgl hd, by omega, q.1, hfr.trans q.2, hes.below (hNB w1 hb1)⟩
    clear hR hgl hGl hpg hfr hes hcl hg hpt hsp hsn hatT hatS hdv hev hels hkid hb2 hbox hp2 hID hNB hd hW2
    go_wp2_with fail
    rw [← HW2.out]
    refine HID.out.mono ?_
    rintro r w3 ⟨rfl, hb3⟩
    have HN3 := mkC (HNX.out w3 hb3)
    clear hb3 HNX HID
    go_wp2_with fail
    exact ⟨⟨i + 1, by omega, by go_num, HN3.out⟩, by simp [intOf]; omega⟩
   | true =>
    rw [hd] at HID
    have hlen : els.length = eN := hels.1
    have hklen : (kidsOf 100 (c.ds.drop e.1)).length = eN := by rw [← hkid, ← hlen]; simp [Cp.at_]
    have HBX : Hid (∀ w1, Below W2.heap.size W2 w1 → w1.cell? ⟨wr.heap.size, 0, none⟩ = some (.slice (some ⟨db, so, none⟩) sn sc) ∧ w1.cell? ⟨wr.heap.size, 1, none⟩ = some (.slice ep eN eC) ∧ wr.heap.size < w1.heap.size) := fun w1 hb1 => by
     have q := (hb1.block _ (Array.getElem?_eq_some_iff.1 hbox).1).trans hbox
     exact ⟨(cells2 q).1, (cells2 q).2.1, (Array.getElem?_eq_some_iff.1 q).1⟩
    have HBC : Hid (∀ w1, Below W2.heap.size W2 w1 → Below c.w0.heap.size c.w0 w1) := fun w1 hb1 => hp2.1.bel.trans (hb1.mono hp2.1.bel.size)
    by_cases he3 : eN = 3
    ·subst he3
     obtain ⟨x0, x1, x2, rfl⟩ : ∃ x0 x1 x2, els = [x0, x1, x2] := by
      match els, hlen with
      | [x0, x1, x2], _ => exact ⟨x0, x1, x2, rfl⟩
     obtain ⟨eg, eo, ecur, rfl, heg, hecl⟩ := hels.2.2.1 (by omega)
     have hegl := (Array.getElem?_eq_some_iff.1 heg).1
     have hecc := hels.2.1
     have hp1 := hels.2.2.2 x1 (by simp)
     obtain ⟨a10, a11⟩ := hecl 1 (by simp)
     obtain ⟨s1, n1, c1, hd1⟩ : ∃ so sn sc, x1.2.1 = .slice (some ⟨db, so, none⟩) sn sc := ⟨_, _, _, hp1.ok.1⟩
     obtain ⟨q1, m1, d1, he1⟩ := hp1.row
     simp only [List.getElem_cons_succ, List.getElem_cons_zero, Nat.one_mul] at a10 a11
     rw [hd1] at a10
     rw [he1] at a11
     have hk1 : (kidsOf 100 (c.ds.drop e.1)).getD 1 [] = c.ds.drop x1.1 := by rw [← hkid]; rfl
     have HEL : Hid (∀ w1, Below W2.heap.size W2 w1 → w1.cell? ⟨eg, eo + 2, none⟩ = some (.slice (some ⟨db, s1, none⟩) n1 c1) ∧ w1.cell? ⟨eg, eo + 2 + 1, none⟩ = some (.slice q1 m1 d1) ∧ eg < w1.heap.size) := fun w1 hb1 => ⟨cell_keepC (hNB w1 hb1) hegl a10, cell_keepC (hNB w1 hb1) hegl a11, Nat.lt_of_lt_of_le hegl (hNB w1 hb1).size⟩
     have HNM : Hid (∀ w1, Below W2.heap.size W2 w1 → Calls Tryz.prog 61 #[.agg #[.slice (some ⟨db, s1, none⟩) n1 c1, .slice q1 m1 d1]] w1 fun r w' => r = .returned (.string (strOfNums (nm (c.ds.drop x1.1)))) ∧ Below w1.heap.size w1 w') := fun w1 hb1 => by
      have q := name_c HX.out w1 (HBC.out w1 hb1) (hp1.below (hNB w1 hb1))
      rw [hd1, he1] at q
      exact q
     have hrg := nm_rg HX.out hp1
     cases hsy : isSy (c.ds.drop x1.1) with
     | false =>
      have hnn : nm (c.ds.drop x1.1) = [] := Classical.byContradiction (fun hne => by rw [sy_of_nm hp1.ok.2.1 hne] at hsy; cases hsy)
      have hbad : okDf (c.ds.drop e.1) = false := by unfold okDf; rw [hk1, hsy, Bool.and_false]
      have HBAD : Hid (pgR c.ds = none) := by unfold Hid pgR; rw [hatT, glsF_bad hgl hd hbad]
      rw [hnn] at HNM
      have t1 : ((strOfNums []).toList == []) = true := by rw [ByteArray.toList_eq, strOfNums_data]; rfl
      generalize strOfNums [] = st at HNM t1
      clear hR hgl hGl hpg hfr hes hcl hg hpt hsp hsn hatT hatS hdv hev hels hkid hb2 hbox hp2 hID hNB hd hW2 hlen hklen heg hecl hp1 hd1 he1 a10 a11 hk1 hrg hsy hnn hbad
      go_wp2_with fail
      rw [← HW2.out]
      refine HID.out.mono ?_
      rintro r w3 ⟨rfl, hb3⟩
      obtain ⟨z0, z1, z2⟩ := HBX.out w3 hb3
      obtain ⟨v0, v1, v2⟩ := HEL.out w3 hb3
      have HB3 := mkC hb3
      clear hb3 HID
      go_wp2_with fail
      refine (HNM.out w3 HB3.out).mono ?_
      rintro r w4 ⟨rfl, hb4⟩
      have HB4 := mkC (HBC.out w4 (HB3.out.trans (hb4.mono HB3.out.size)))
      clear hb4
      go_wp2_with fail
      refine (needGrammar_f w4).mono ?_
      rintro r w5 ⟨rfl, hw5⟩
      have hw5' := hw5.symm
      clear hw5
      subst hw5'
      refine ⟨rfl, ?_⟩
      rw [HBAD.out]
      exact ⟨rfl, HB4.out⟩
     | true =>
      have hne := nm_of_sy hp1.ok.2.1 hsy
      have hgood : okDf (c.ds.drop e.1) = true := by unfold okDf; rw [hk1, hsy, Bool.and_true]; exact decide_eq_true hklen
      obtain ⟨st, hst⟩ : ∃ st, st = strOfNums (nm (c.ds.drop x1.1)) := ⟨_, rfl⟩
      have t1 : (st.toList == []) = false := by
       rw [hst, ByteArray.toList_eq, strOfNums_data]
       cases hq : nm (c.ds.drop x1.1) with
       | nil => exact absurd hq hne
       | cons a r => rfl
      have HDE : Hid (∀ w1, Below W2.heap.size W2 w1 → Calls Tryz.prog 62 #[.pointer (some ⟨s.pb, 0, none⟩), .string st] w1 fun r w' => (∃ u, r = .returned u) ∧ R1 c db dof S s w (some ⟨g, o, none⟩) n cc es (i + 1) w') := fun w1 hb1 => by
       have q := hpg.below (hNB w1 hb1)
       rw [hst]
       refine (define_c (nm (c.ds.drop x1.1)) w1 q.1 hrg (by show G.length + 1 ≤ 3000; omega)).mono ?_
       rintro r w' ⟨hu, gls', g1, g2, g3⟩
       have g3' : gls'.map (·.x) = addN (G.map (·.x)) (nm (c.ds.drop x1.1)) := g3
       refine ⟨hu, gls', ?_, ?_, g1, (hfr.trans q.2).trans g2, ((hes.below (hNB w1 hb1)).frp q.1 g2)⟩
       ·rw [hatS, glsF_add hgl hd hgood, hk1, g3']
       ·have q1 := congrArg List.length g3'
        have q2 := addN_len (G.map (·.x)) (nm (c.ds.drop x1.1))
        rw [List.length_map] at q1 q2
        omega
      rw [← hst] at HNM
      clear hR hgl hGl hpg hfr hes hcl hg hpt hsp hsn hatT hatS hdv hev hels hkid hb2 hbox hp2 hID hNB hd hW2 hlen hklen heg hecl hp1 hd1 he1 a10 a11 hk1 hrg hsy hne hgood hst
      go_wp2_with fail
      rw [← HW2.out]
      refine HID.out.mono ?_
      rintro r w3 ⟨rfl, hb3⟩
      obtain ⟨z0, z1, z2⟩ := HBX.out w3 hb3
      obtain ⟨v0, v1, v2⟩ := HEL.out w3 hb3
      have HB3 := mkC hb3
      clear hb3 HID
      go_wp2_with fail
      refine (HNM.out w3 HB3.out).mono ?_
      rintro r w4 ⟨rfl, hb4⟩
      have HB4 := mkC (HB3.out.trans (hb4.mono HB3.out.size))
      obtain ⟨z0', z1', z2'⟩ := HBX.out w4 HB4.out
      obtain ⟨v0', v1', v2'⟩ := HEL.out w4 HB4.out
      clear hb4 z0 z1 z2 v0 v1 v2
      go_wp2_with fail
      refine (needGrammar_t w4).mono ?_
      rintro r w5 ⟨⟨u, rfl⟩, hw5⟩
      have hw5' := hw5.symm
      clear hw5
      subst hw5'
      go_wp2_with fail
      refine (HNM.out w4 HB4.out).mono ?_
      rintro r w6 ⟨rfl, hb6⟩
      have HD6 := mkC (HDE.out w6 (HB4.out.trans (hb6.mono HB4.out.size)))
      clear hb6 HDE HNM HBX HEL HBC
      go_wp2_with fail
      refine HD6.out.mono ?_
      rintro r w7 ⟨⟨u7, rfl⟩, hr7⟩
      have HR7 := mkC hr7
      clear hr7 HD6
      go_wp2_with fail
      exact ⟨⟨i + 1, by omega, by go_num, HR7.out⟩, by simp [intOf]; omega⟩
    ·have hbad : okDf (c.ds.drop e.1) = false := by unfold okDf; rw [hklen, decide_eq_false he3, Bool.false_and]
     have HBAD : Hid (pgR c.ds = none) := by unfold Hid pgR; rw [hatT, glsF_bad hgl hd hbad]
     have t1 : ((eN : Int) == 3) = false := by simp; omega
     clear hR hgl hGl hpg hfr hes hcl hg hpt hsp hsn hatT hatS hdv hev hels hkid hb2 hbox hp2 hID hNB hd hW2 hlen hklen hbad he3
     go_wp2_with fail
     rw [← HW2.out]
     refine HID.out.mono ?_
     rintro r w3 ⟨rfl, hb3⟩
     obtain ⟨z0, z1, z2⟩ := HBX.out w3 hb3
     have HB3 := mkC (HBC.out w3 hb3)
     clear hb3 HID
     go_wp2_with fail
     refine (needGrammar_f w3).mono ?_
     rintro r w5 ⟨rfl, hw5⟩
     have hw5' := hw5.symm
     clear hw5
     subst hw5'
     refine ⟨rfl, ?_⟩
     rw [HBAD.out]
     exact ⟨rfl, HB3.out⟩
  ·have hin_ : i = n := by omega
   subst hin_
   have ht : es.take i = es := List.take_of_length_le (by rw [HL.out]; exact Nat.le_refl _)
   rw [ht, HAT.out] at hgl
   obtain ⟨s0, hs0⟩ : ∃ s0 : Sg, s0 = { s with gls := G } := ⟨_, rfl⟩
   rw [← hs0] at hpg hfr
   have hpb0 : s0.pb = s.pb := by rw [hs0]
   have hg0 : s0.gls = G := by rw [hs0]
   have hsc0 : s0.sc = [] := by rw [hs0]; exact HSC.out
   have hub0 : s0.ub = [] := by rw [hs0]; exact HUB.out
   have hfm0 : s0.fmn = 0 := by rw [hs0]; exact HFM.out
   rw [← hg0] at hgl
   have HGL := mkC hgl
   have HR20 : Hid (R2 c db dof S s0 wr p i cc es 0 wr) := ⟨s0, [], rfl, hpg, rfl, rfl, hsc0, hfm0, hub0, hes, FrP.refl _ _⟩
   have HFR0 := mkC hfr
   obtain ⟨wG, hwG⟩ : ∃ wG, wG = wr := ⟨_, rfl⟩
   rw [← hwG] at HFR0
   have HR20 : Hid (R2 c db dof S s0 wG p i cc es 0 wr) := by rw [hwG]; exact HR20.out
   clear hwG
   have HPG : Hid (pgR c.ds = allO (topR (s0.gls.map (·.x))) (frm c.ds)) := by unfold Hid pgR; rw [hgl]
   have HPB := mkC hpb0
   rw [← hpb0]
   clear hR hgl hGl hpg hfr hes ht hs0 hg0 hsc0 hub0 hfm0 hpb0 HI HST
   go_wp2_with fail
   go_loopw [39] (fun iv wq => ∃ j : Nat, j ≤ i ∧ iv = .int .i64 (j : Nat) ∧ Hid (R2 c db dof S s0 wG p i cc es j wq)) (fun iv _ => i - (intOf iv).toNat)
   case atStart => exact ⟨0, Nat.zero_le _, rfl, HR20.out⟩
   case round =>
    obtain ⟨j, hj, rfl, hR⟩ := hrel
    obtain ⟨s', ns, hal, hpg, hf1, hf2, hf3, hf4, hf5, hes, hf0⟩ := hR.out
    rename World => wq
    by_cases hlt : j < i
    ·have hjl : j < es.length := by rw [HL.out]; exact hlt
     obtain ⟨g, o, cur, rfl, hg, hcl⟩ := hes.2.2.1 (by omega)
     obtain ⟨y0, y1⟩ := hcl j hjl
     have hgl_ := (Array.getElem?_eq_some_iff.1 hg).1
     have hncc := hes.2.1
     have hpt := hes.2.2.2 _ (List.getElem_mem hjl)
     have hsp := es_split hjl
     have hsn := es_snoc hjl
     generalize es[j]'hjl = e at y0 y1 hpt hsp hsn
     have hatT : frm c.ds = Cp.at_ c ((es.take j).map (·.1)) ++ c.ds.drop e.1 :: Cp.at_ c ((es.drop (j + 1)).map (·.1)) := by
      rw [← HAT.out]
      conv => lhs; rw [hsp]
      simp [Cp.at_]
     have hsumT : sumB 100 (Cp.at_ c ((es.take j).map (·.1))) + (bud 100 (c.ds.drop e.1) + 10 + sumB 100 (Cp.at_ c ((es.drop (j + 1)).map (·.1)))) ≤ 100000000 := by
      have q := HBUD.out
      rw [hatT, sumB_app] at q
      exact q
     obtain ⟨so, sn, sc, hdv⟩ : ∃ so sn sc, e.2.1 = .slice (some ⟨db, so, none⟩) sn sc := ⟨_, _, _, hpt.ok.1⟩
     obtain ⟨ep, eN, eC, hev⟩ := hpt.row
     have hdf : isDf (c.ds.drop e.1) = true → okDf (c.ds.drop e.1) = true := glsF_ok _ _ _ HGL.out _ (by rw [hatT]; exact List.mem_append_right _ (List.mem_cons_self ..))
     obtain ⟨fp, fc, hfv⟩ := owns_form hpg.fmo
     rw [hf4] at hfv
     obtain ⟨W2, hW2⟩ : ∃ W2, W2 = wq.alloc (.cells #[.slice (some ⟨db, so, none⟩) sn sc, .slice ep eN eC] 102) := ⟨_, rfl⟩
     have hb2 : Below wq.heap.size wq W2 := by rw [hW2]; exact below1 _ _
     have hbox : W2.heap[wq.heap.size]? = some (.cells #[.slice (some ⟨db, so, none⟩) sn sc, .slice ep eN eC] 102) := by rw [hW2]; exact Go.Deep.blk_alloc_new _ _
     have hNB : ∀ w1, Below W2.heap.size W2 w1 → Below wq.heap.size wq w1 := fun w1 hb => hb2.trans (hb.mono hb2.size)
     have HFC : Hid (∀ W, Below W2.heap.size W2 W → Calls Tryz.prog 63 #[.pointer (some ⟨s0.pb, 0, none⟩), .agg #[.slice (some ⟨db, so, none⟩) sn sc, .slice ep eN eC]] W fun r w2 => (∃ v, r = .returned v ∧ ∃ q f bd cp, v = .agg #[.pointer q, .func f bd cp] ∧ (w2.ownsRow c.w0.heap.size 111 2 (.slice fp j fc) j s'.fm ∧ w2.cell? ⟨s0.pb, 5, none⟩ = some (.slice fp j fc) ∧ s0.pb < w2.heap.size ∧ c.w0.heap.size ≤ w2.heap.size ∧ ∀ p' c' w3 xs, w3.ownsRow c.w0.heap.size 111 2 (.slice p' (j + 1) c') (j + 1) xs → Below c.w0.heap.size w2 w3 → But w2 w3 (.slice fp j fc) → (∀ k, (Value.slice p' (j + 1) c').ownBlock = some k → (Value.slice fp j fc).ownBlock = some k ∨ w2.heap.size ≤ k) → R2 c db dof S s0 wG (some ⟨g, o, none⟩) i cc es (j + 1) (w3.setCell ⟨s0.pb, 5, none⟩ (.slice p' (j + 1) c')) ∧ w3.cell? ⟨s0.pb, 5, none⟩ = some (.slice fp j fc) ∧ w3.frozen? ⟨s0.pb, 5, none⟩ = false)) ∨ (∃ ch, r = .panicked ch ∧ .panicked ch = gramE ∧ pgR c.ds = none ∧ Below c.w0.heap.size c.w0 w2)) := fun W hbW => by
      have hp1 := hpg.below (hNB W hbW)
      have q := form_c HX.out HE.out W hp1.1 (hpt.below (hNB W hbW)) hf3 hdf (by omega)
      rw [hdv, hev, hf1, hf2] at q
      refine q.mono ?_
      intro r w2 hr
      cases e1 : topR (s0.gls.map (·.x)) (c.ds.drop e.1) with
      | none =>
       rw [e1] at hr
       obtain ⟨rfl, hb⟩ := hr
       exact Or.inr ⟨_, rfl, rfl, by rw [HPG.out, hatT, allO_none e1], hb⟩
      | some ns2 =>
       rw [e1] at hr
       obtain ⟨u, s'', rfl, ⟨q, f, bd, cp, rfl⟩, g1, g2, g3, g4⟩ := hr
       have hfm := g1.fmo
       rw [g3.fmv, g3.fmn, g3.fm, hfv, hf4] at hfm
       have hblk := g1.blk
       rw [g3.pb, hf1, g3.fmv, hfv] at hblk
       refine Or.inl ⟨_, rfl, q, f, bd, cp, rfl, hfm, (cells6 hblk).2.2.2.2.2.1, (Array.getElem?_eq_some_iff.1 hblk).1, g1.bel.size, fun p' c' w3 xs k1 k2 k3 k4 => ?_⟩
       have hblk3 := (k3 _ (Array.getElem?_eq_some_iff.1 hblk).1 (owns_ne hfm hblk (by decide))).trans hblk
       refine ⟨R2.step hsn (by omega) hal e1 ⟨hf1, hf2, hf3, hf4, hf5⟩ hes hf0 hpg (hNB W hbW) g1 g2 g3 g4 k1 k2 (by rw [hfv]; exact k3) (by rw [hfv]; exact k4), (cells6 hblk3).2.2.2.2.2.1, (cells6 hblk3).2.2.2.2.2.2 5⟩
     have hpb2 := (hpg.below hb2).1.blk
     rw [hf1, hfv] at hpb2
     have x5 := (cells6 hpb2).2.2.2.2.2.1
     have xl := (Array.getElem?_eq_some_iff.1 hpb2).1
     have x0 := (cells2 hbox).1
     have x1 := (cells2 hbox).2.1
     rw [hdv] at y0
     rw [hev] at y1
     have HW2 := mkC hW2
     have HBD : Hid (Below W2.heap.size W2 W2.drew) := below_drewC (Below.refl _ _)
     clear hR hal hpg hf1 hf2 hf3 hf4 hf5 hf0 hes hcl hg hpt hsp hsn hatT hsumT hdv hev hdf hfv hb2 hbox hNB hpb2 hW2 HR20
     go_upto_region 10 with fail
     rw [← HW2.out]
     clear y0 y1
     go_wp2_with fail
     go_region_law (first
      | (refine step_callQ _ rfl 63 _ _ rfl #[.pointer (some ⟨s0.pb, 0, none⟩), .agg #[.slice (some ⟨db, so, none⟩) sn sc, .slice ep eN eC]] ?ha (inFormP _) _ _ (HFC.out _ HBD.out) ?hq ?_; (case ha => first | (simp [Act.eval]; done) | (simp [Act.eval, Act.put]; done)); (case hq => exact fun ch w' hh => ⟨rfl, (by rw [hh.2.1]; exact ⟨hh.1, hh.2.2⟩)⟩); rintro v w2 ⟨q, f, bd, cp, rfl, hfo, z5, zl, zc, hgo⟩; have HFO := mkC hfo; have HGO := mkC hgo; clear hfo hgo)
      | (refine appW_stepC _ rfl (.tmp 47) (.tmp 51) 57 111 rfl _ 2 16 Tryz.underlying57 infoFm rfl (by decide) c.w0.heap.size (.slice fp j fc) j s'.fm ?hs HFO.out #[.pointer q, .func f bd cp] rfl (by simp [Value.oneCell']) ?hx (by unfold maxLen; omega) (by omega) zc ?_; (case hs => first | (simp [Act.eval]; done) | (simp [Act.eval, Act.put]; done)); (case hx => first | (simp [Act.eval]; done) | (simp [Act.eval, Act.put]; done)); intro p6 c6 w6 ho6 hb6 hbt6 hloc6; obtain ⟨hr6, v5, vf⟩ := HGO.out p6 c6 w6 _ ho6 hb6 hbt6 hloc6; have HR6 := mkC hr6; clear ho6 hb6 hbt6 hloc6 hr6))
     all_goals go_wp2_with fail
     all_goals exact ⟨⟨j + 1, by omega, by go_num, HR6.out⟩, by simp [intOf]; omega⟩
    ·have hjn : j = i := by omega
     subst hjn
     have HF : Hid (PgQ c s (pgR c.ds) w wq (.returned (.tuple #[]))) := by
      have ht : es.take j = es := List.take_of_length_le (by rw [HL.out]; exact Nat.le_refl _)
      rw [ht, HAT.out] at hal hpg
      unfold Hid
      rw [HPG.out, hal]
      exact ⟨_, s', rfl, hpg.mono (by have := HBUD.out; omega), hf1.trans HPB.out, hf5, HFR0.out.trans hf0⟩
     clear hR hal hpg hf1 hf2 hf3 hf4 hf5 hf0 hes
     go_wp2_with fail
     go_end0
     exact HF.out
theorem run_putW {w : World} {m : Nat} {l : List (List Int × Value)} (h : MpS w m l) (hr : ∀ p ∈ l, Rg p.1) {x : List Int} (hx : Rg x) (hn : findS l x = none) (v : Value) :
  ∃ w', (Instr.mapUpdate 54 (.map (some m)) (.string (strOfNums x)) v).run Tryz.prog w = .ok () w' ∧ MpS w' m (l ++ [(x, v)]) ∧ (∀ k, k ≠ m → w'.heap[k]? = w.heap[k]?) ∧ w'.heap.size = w.heap.size ∧ w'.os = w.os ∧ w'.tape = w.tape ∧ w'.output = w.output := by
 obtain ⟨es, clk, h1, h2⟩ := h
 obtain ⟨r, h3, h4⟩ := findNow_s hx es.toList l 0 hr h2
 have hk : MapKept.IsKey .string (.string (strOfNums x)) := by first | exact trivial | simp [MapKept.IsKey]
 rw [hn] at h4
 obtain rfl : r = none := by cases r with
  | none => rfl
  | some p => cases h4
 refine ⟨{ w with heap := w.heap.setIfInBounds m (.map (es.push ⟨.string (strOfNums x), v, clk⟩) (clk + 1)) }, ?_, ⟨_, _, (MapKept.heap_set h1).1, ?_⟩, fun k hk => (MapKept.heap_set h1).2 k hk, by simp, rfl, rfl, rfl⟩
 ·simp [Instr.mapUpdate, run_underlying Tryz.underlying54, MapKept.run_getObj_map h1, MapKept.run_checkKey Tryz.underlying9 hk, MapKept.run_findKey Tryz.underlying9 h3, MapKept.run_setObj_map _ h1, Result.andThen]
 ·simp [h2]
theorem nil_row (w : World) (B : Nat) (e : TypeId) (size : Nat) : w.ownsRow B e size (.slice none 0 0) 0 [] := nil_own _ _ _ _
theorem words_put {w : World} {m pb : Nat} (h : MpS w m []) : ∃ U1 U2 U3 U4 U5 U6 U7 U8 U9 U10 : World, (Instr.mapUpdate 54 (.map (some m)) (.string ⟨#[113, 117, 111, 116, 101]⟩) (mtV pb 49)).run Tryz.prog w = .ok () U1 ∧ (Instr.mapUpdate 54 (.map (some m)) (.string ⟨#[105, 102]⟩) (mtV pb 50)).run Tryz.prog U1 = .ok () U2 ∧ (Instr.mapUpdate 54 (.map (some m)) (.string ⟨#[108, 97, 109, 98, 100, 97]⟩) (mtV pb 51)).run Tryz.prog U2 = .ok () U3 ∧ (Instr.mapUpdate 54 (.map (some m)) (.string ⟨#[108, 101, 116]⟩) (mtV pb 52)).run Tryz.prog U3 = .ok () U4 ∧ (Instr.mapUpdate 54 (.map (some m)) (.string ⟨#[108, 101, 116, 114, 101, 99]⟩) (mtV pb 53)).run Tryz.prog U4 = .ok () U5 ∧ (Instr.mapUpdate 54 (.map (some m)) (.string ⟨#[115, 101, 116, 33]⟩) (mtV pb 54)).run Tryz.prog U5 = .ok () U6 ∧ (Instr.mapUpdate 54 (.map (some m)) (.string ⟨#[98, 101, 103, 105, 110]⟩) (mtV pb 55)).run Tryz.prog U6 = .ok () U7 ∧ (Instr.mapUpdate 54 (.map (some m)) (.string ⟨#[97, 110, 100]⟩) (mtV pb 56)).run Tryz.prog U7 = .ok () U8 ∧ (Instr.mapUpdate 54 (.map (some m)) (.string ⟨#[111, 114]⟩) (mtV pb 57)).run Tryz.prog U8 = .ok () U9 ∧ (Instr.mapUpdate 54 (.map (some m)) (.string ⟨#[100, 101, 102, 105, 110, 101]⟩) (mtV pb 58)).run Tryz.prog U9 = .ok () U10 ∧ MpS U10 m (wordsM pb) ∧ (∀ k, k ≠ m → U10.heap[k]? = w.heap[k]?) ∧ U10.heap.size = w.heap.size ∧ U10.os = w.os ∧ U10.tape = w.tape ∧ U10.output = w.output := by
 obtain ⟨U1, u1, m1, k1, z1, o1, t1, p1⟩ := run_putW (l := []) h (fun p hp => words_rg pb p (List.mem_of_mem_take (i := 0) (by exact hp))) (x := wQuote) (by unfold Rg; decide) rfl (mtV pb 49)
 obtain ⟨U2, u2, m2, k2, z2, o2, t2, p2⟩ := run_putW (l := [(wQuote, mtV pb 49)]) m1 (fun p hp => words_rg pb p (List.mem_of_mem_take (i := 1) (by exact hp))) (x := wIf) (by unfold Rg; decide) rfl (mtV pb 50)
 obtain ⟨U3, u3, m3, k3, z3, o3, t3, p3⟩ := run_putW (l := [(wQuote, mtV pb 49), (wIf, mtV pb 50)]) m2 (fun p hp => words_rg pb p (List.mem_of_mem_take (i := 2) (by exact hp))) (x := wLambda) (by unfold Rg; decide) rfl (mtV pb 51)
 obtain ⟨U4, u4, m4, k4, z4, o4, t4, p4⟩ := run_putW (l := [(wQuote, mtV pb 49), (wIf, mtV pb 50), (wLambda, mtV pb 51)]) m3 (fun p hp => words_rg pb p (List.mem_of_mem_take (i := 3) (by exact hp))) (x := wLet) (by unfold Rg; decide) rfl (mtV pb 52)
 obtain ⟨U5, u5, m5, k5, z5, o5, t5, p5⟩ := run_putW (l := [(wQuote, mtV pb 49), (wIf, mtV pb 50), (wLambda, mtV pb 51), (wLet, mtV pb 52)]) m4 (fun p hp => words_rg pb p (List.mem_of_mem_take (i := 4) (by exact hp))) (x := wLetrec) (by unfold Rg; decide) rfl (mtV pb 53)
 obtain ⟨U6, u6, m6, k6, z6, o6, t6, p6⟩ := run_putW (l := [(wQuote, mtV pb 49), (wIf, mtV pb 50), (wLambda, mtV pb 51), (wLet, mtV pb 52), (wLetrec, mtV pb 53)]) m5 (fun p hp => words_rg pb p (List.mem_of_mem_take (i := 5) (by exact hp))) (x := wSet) (by unfold Rg; decide) rfl (mtV pb 54)
 obtain ⟨U7, u7, m7, k7, z7, o7, t7, p7⟩ := run_putW (l := [(wQuote, mtV pb 49), (wIf, mtV pb 50), (wLambda, mtV pb 51), (wLet, mtV pb 52), (wLetrec, mtV pb 53), (wSet, mtV pb 54)]) m6 (fun p hp => words_rg pb p (List.mem_of_mem_take (i := 6) (by exact hp))) (x := wBegin) (by unfold Rg; decide) rfl (mtV pb 55)
 obtain ⟨U8, u8, m8, k8, z8, o8, t8, p8⟩ := run_putW (l := [(wQuote, mtV pb 49), (wIf, mtV pb 50), (wLambda, mtV pb 51), (wLet, mtV pb 52), (wLetrec, mtV pb 53), (wSet, mtV pb 54), (wBegin, mtV pb 55)]) m7 (fun p hp => words_rg pb p (List.mem_of_mem_take (i := 7) (by exact hp))) (x := wAnd) (by unfold Rg; decide) rfl (mtV pb 56)
 obtain ⟨U9, u9, m9, k9, z9, o9, t9, p9⟩ := run_putW (l := [(wQuote, mtV pb 49), (wIf, mtV pb 50), (wLambda, mtV pb 51), (wLet, mtV pb 52), (wLetrec, mtV pb 53), (wSet, mtV pb 54), (wBegin, mtV pb 55), (wAnd, mtV pb 56)]) m8 (fun p hp => words_rg pb p (List.mem_of_mem_take (i := 8) (by exact hp))) (x := wOr) (by unfold Rg; decide) rfl (mtV pb 57)
 obtain ⟨U10, u10, m10, k10, z10, o10, t10, p10⟩ := run_putW (l := [(wQuote, mtV pb 49), (wIf, mtV pb 50), (wLambda, mtV pb 51), (wLet, mtV pb 52), (wLetrec, mtV pb 53), (wSet, mtV pb 54), (wBegin, mtV pb 55), (wAnd, mtV pb 56), (wOr, mtV pb 57)]) m9 (fun p hp => words_rg pb p (List.mem_of_mem_take (i := 9) (by exact hp))) (x := wDefine) (by unfold Rg; decide) rfl (mtV pb 58)
 exact ⟨U1, U2, U3, U4, U5, U6, U7, U8, U9, U10, u1, u2, u3, u4, u5, u6, u7, u8, u9, u10, m10, fun k hk => ((((((((((k10 k hk).trans (k9 k hk)).trans (k8 k hk)).trans (k7 k hk)).trans (k6 k hk)).trans (k5 k hk)).trans (k4 k hk)).trans (k3 k hk)).trans (k2 k hk)).trans (k1 k hk)), (((((((((z10.trans z9).trans z8).trans z7).trans z6).trans z5).trans z4).trans z3).trans z2).trans z1), (((((((((o10.trans o9).trans o8).trans o7).trans o6).trans o5).trans o4).trans o3).trans o2).trans o1), (((((((((t10.trans t9).trans t8).trans t7).trans t6).trans t5).trans t4).trans t3).trans t2).trans t1), (((((((((p10.trans p9).trans p8).trans p7).trans p6).trans p5).trans p4).trans p3).trans p2).trans p1)⟩
set_option maxRecDepth 20000 in
set_option maxHeartbeats 4000000 in
theorem newProgram_c {c : Cx} (w : World) (hb : Below c.w0.heap.size c.w0 w) : Calls Tryz.prog 32 #[] w fun r w' => ∃ s : Sg, r = .returned (.pointer (some ⟨s.pb, 0, none⟩)) ∧ PgI c 0 w' s ∧ s.gls = [] ∧ s.sc = [] ∧ s.ub = [] ∧ s.fmn = 0 ∧ Below w.heap.size w w' ∧ s.pb = w.heap.size + 1 ∧ w.heap.size ≤ s.wm := by
 have hmm := @run_makeMap Tryz.prog
 have hs0 : MpS (((w.alloc (.map #[] 0)).alloc (.cells #[.map none, .map (some w.heap.size), .slice none 0 0, .int .i64 0, .slice none 0 0, .slice none 0 0] 59)).alloc (.map #[] 0)) (w.heap.size + 1 + 1) [] := by
  refine ⟨#[], 0, ?_, rfl⟩
  have q := Go.Deep.blk_alloc_new ((w.alloc (.map #[] 0)).alloc (.cells #[.map none, .map (some w.heap.size), .slice none 0 0, .int .i64 0, .slice none 0 0, .slice none 0 0] 59)) (.map #[] 0)
  simp only [World.size_alloc] at q
  exact q
 have hgm : (((w.alloc (.map #[] 0)).alloc (.cells #[.map none, .map (some w.heap.size), .slice none 0 0, .int .i64 0, .slice none 0 0, .slice none 0 0] 59)).alloc (.map #[] 0)).heap[w.heap.size]? = some (.map #[] 0) := by
  rw [(below1 _ _).block _ (by simp; omega), (below1 _ _).block _ (by simp)]
  exact Go.Deep.blk_alloc_new _ _
 have hpb : (((w.alloc (.map #[] 0)).alloc (.cells #[.map none, .map (some w.heap.size), .slice none 0 0, .int .i64 0, .slice none 0 0, .slice none 0 0] 59)).alloc (.map #[] 0)).heap[w.heap.size + 1]? = some (.cells #[.map none, .map (some w.heap.size), .slice none 0 0, .int .i64 0, .slice none 0 0, .slice none 0 0] 59) := by
  rw [(below1 _ _).block _ (by simp)]
  have q := Go.Deep.blk_alloc_new (w.alloc (.map #[] 0)) (.cells #[.map none, .map (some w.heap.size), .slice none 0 0, .int .i64 0, .slice none 0 0, .slice none 0 0] 59)
  simp only [World.size_alloc] at q
  exact q
 have hb3 : Below w.heap.size w (((w.alloc (.map #[] 0)).alloc (.cells #[.map none, .map (some w.heap.size), .slice none 0 0, .int .i64 0, .slice none 0 0, .slice none 0 0] 59)).alloc (.map #[] 0)) := (((Below.refl _ w).alloc (Nat.le_refl _) _).alloc (by simp) _).alloc (by simp; omega) _
 have hsz3 : (((w.alloc (.map #[] 0)).alloc (.cells #[.map none, .map (some w.heap.size), .slice none 0 0, .int .i64 0, .slice none 0 0, .slice none 0 0] 59)).alloc (.map #[] 0)).heap.size = w.heap.size + 3 := by simp
 obtain ⟨W3, hW3⟩ : ∃ W3, W3 = ((w.alloc (.map #[] 0)).alloc (.cells #[.map none, .map (some w.heap.size), .slice none 0 0, .int .i64 0, .slice none 0 0, .slice none 0 0] 59)).alloc (.map #[] 0) := ⟨_, rfl⟩
 rw [← hW3] at hs0 hgm hpb hb3 hsz3
 obtain ⟨U1, U2, U3, U4, U5, U6, U7, U8, U9, U10, u1, u2, u3, u4, u5, u6, u7, u8, u9, u10, hmp, hk, hsz, ho, htp, hou⟩ := words_put (pb := w.heap.size + 1) hs0
 have hpb10 := (hk (w.heap.size + 1) (by omega)).trans hpb
 have hgm10 := (hk w.heap.size (by omega)).trans hgm
 have x0 := (cells6 hpb10).1
 have xf := (cells6 hpb10).2.2.2.2.2.2
 have hb10 : Below w.heap.size w U10 := ⟨ho.trans hb3.os, htp.trans hb3.tape, hou.trans hb3.output, by rw [hsz]; exact hb3.size, fun k hk' => (hk k (by omega)).trans (hb3.block k hk')⟩
 have HF : Hid (∃ s : Sg, Ending.returned (.pointer (some ⟨w.heap.size + 1, 0, none⟩)) = .returned (.pointer (some ⟨s.pb, 0, none⟩)) ∧ PgI c 0 (U10.setCell ⟨w.heap.size + 1, 0, none⟩ (.map (some (w.heap.size + 1 + 1)))) s ∧ s.gls = [] ∧ s.sc = [] ∧ s.ub = [] ∧ s.fmn = 0 ∧ Below w.heap.size w (U10.setCell ⟨w.heap.size + 1, 0, none⟩ (.map (some (w.heap.size + 1 + 1)))) ∧ s.pb = w.heap.size + 1 ∧ w.heap.size ≤ s.wm) := by
  have hbs := hb10.setCell (p := ⟨w.heap.size + 1, 0, none⟩) (Nat.le_succ _) (.map (some (w.heap.size + 1 + 1)))
  have hcw := hb.size
  have hset : ∀ k, k ≠ w.heap.size + 1 → (U10.setCell ⟨w.heap.size + 1, 0, none⟩ (.map (some (w.heap.size + 1 + 1)))).heap[k]? = U10.heap[k]? := fun k hk' => set_keep _ hk'
  refine ⟨⟨w.heap.size + 1, w.heap.size + 1 + 1, w.heap.size, [], .slice none 0 0, [], 0, .slice none 0 0, [], .slice none 0 0, 0, []⟩, rfl, ⟨hb.trans (hbs.mono hb.size), by show c.w0.heap.size ≤ w.heap.size + 1; omega, ?_, ?_, ?_, hcw, by simp, (fun v hv => by cases hv), nil_row _ _ _ _, nil_row _ _ _ _, fun x hx => (by cases hx), nil_row _ _ _ _, ⟨Nat.zero_le _, Nat.le_refl _, Nat.le_refl _, Nat.zero_le _, Nat.le_refl _⟩⟩, rfl, rfl, rfl, rfl, hbs, rfl, by show w.heap.size ≤ w.heap.size + 1 + 1; omega⟩
  ·simp [World.setCell, Array.getElem?_modify, hpb10]
  ·obtain ⟨es, clk, h1, h2⟩ := hmp
   exact ⟨es, clk, (hset _ (show w.heap.size + 1 + 1 ≠ w.heap.size + 1 by omega)).trans h1, h2⟩
  ·exact ⟨#[], 0, (hset _ (show w.heap.size ≠ w.heap.size + 1 by omega)).trans hgm10, rfl⟩
 rw [hW3] at u1
 unfold mtV at u1 u2 u3 u4 u5 u6 u7 u8 u9 u10
 clear hb hs0 hgm hpb hb3 hsz3 hmp hk hsz ho htp hou hpb10 hgm10 hb10 hW3
 go_enter Tryz.func32, Tryz.ntmps32
 go_wp2_with fail
 go_ret
 exact HF.out
end Cp
end Go.Proofs.YtnnpfoilojicjaaGreatDoor
