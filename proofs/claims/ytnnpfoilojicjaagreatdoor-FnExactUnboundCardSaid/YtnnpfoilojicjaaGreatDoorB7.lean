import Derived.Test.YtnnpfoilojicjaaGreatDoorB6
import Derived.Test.YtnnpfoilojicjaaGreatDoorB3
namespace Go.Proofs.YtnnpfoilojicjaaGreatDoor
open Go.RowKit Ch1
namespace Cp
structure Dv (c : Cx) (ab : Nat) (w : World) : Prop where
 bel : Below c.w0.heap.size c.w0 w
 dat : Da c.w0 c.dp c.dn c.dc c.ds
 dn : c.dn ≤ 3000
 cell : w.cell? ⟨ab, 0, none⟩ = some (.slice c.dp c.dn c.dc)
theorem Inv.dv {c : Cx} {N : Nat} {w : World} {st : St} (h : Inv c N w st) : Dv c st.ab w := ⟨h.bel, h.dat, h.dn, (cells10 h.blk).1⟩
theorem Dv.elAt {c : Cx} {ab i : Nat} {w : World} (h : Dv c ab w) (hi : i < c.dn) : ∃ (b o : Nat) (tp : Option Addr) (tn tc : Nat), c.dp = some ⟨b, o, none⟩ ∧ El w b (o + i * 4) (hd (c.ds.drop i)) tp tn tc ∧ By c.w0 tp tn tc (nm (c.ds.drop i)) := by
 obtain ⟨b, o, e, hlt, hc⟩ := h.dat.cells (by omega)
 obtain ⟨tp, tn, tc, he⟩ := hc i hi
 unfold nm
 rw [hd_drop]
 exact ⟨b, o, tp, tn, tc, e, he.below hlt h.bel, he.by_⟩
theorem Dv.nmAt {c : Cx} {ab k i : Nat} {w : World} (h : Dv c ab w) (hi : i < c.dn) (ho : Ok k (c.ds.drop i)) (hs : isSy (c.ds.drop i) = true) : ∃ (m : Nm) (b o : Nat), c.dp = some ⟨b, o, none⟩ ∧ m.x = nm (c.ds.drop i) ∧ NmI c m ∧ ∀ w', Below c.w0.heap.size c.w0 w' → w'.cell? ⟨b, o + i * 4 + 2, none⟩ = some (.slice m.p m.n m.c) := by
 obtain ⟨b, o, e, hlt, hc⟩ := h.dat.cells (by omega)
 obtain ⟨tp, tn, tc, he⟩ := hc i hi
 have hg : goodB (c.ds.getD i dt0) = true := by
  obtain ⟨d, q, h1, h2⟩ := ho.ne
  have h3 := hd_drop c.ds i
  rw [h1] at h3
  rw [← h3]
  exact h2
 have hk : (c.ds.getD i dt0).kind = 2 := by
  unfold isSy at hs
  rw [hd_drop] at hs
  simpa using hs
 have hl := he.by_.len
 have h5 : 1 ≤ (c.ds.getD i dt0).text.length ∧ (c.ds.getD i dt0).text.length ≤ 100 := by
  unfold goodB symTextB at hg
  rw [if_neg (by omega), if_neg (by omega), if_pos hk] at hg
  simp only [Bool.and_eq_true, decide_eq_true_eq] at hg
  exact ⟨hg.1.2.1.1.1.1, hg.1.2.1.1.1.2⟩
 refine ⟨⟨tp, tn, tc, (c.ds.getD i dt0).text⟩, b, o, e, ?_, ⟨he.by_, (show 1 ≤ tn by omega), (show tn ≤ 100 by omega)⟩, fun w' hb => ?_⟩
 ·unfold nm
  rw [hd_drop]
 ·rw [hb.cell (p := ⟨b, o + i * 4 + 2, none⟩) hlt]
  exact he.c2
set_option maxHeartbeats 1000000 in
theorem l5sym_d {c : Cx} {ab : Nat} (i : Nat) (w : World) (h : Dv c ab w) (hi : i < c.dn) : Calls Tryz.prog 41 #[.pointer (some ⟨ab, 0, none⟩), .int .i64 (i : Nat)] w fun e w' => e = .returned (.bool (isSy (c.ds.drop i))) ∧ w' = w := by
 have e0 := h.cell
 obtain ⟨b, o, tp, tn, tc, hp, he, _⟩ := h.elAt hi
 have k0 := he.c0
 rw [hp] at e0
 have hdn := h.dn
 have HK : Hid (isSy (c.ds.drop i) = ((hd (c.ds.drop i)).kind == 2)) := by unfold Hid isSy; rw [Bool.eq_iff_iff]; simp
 generalize (hd (c.ds.drop i)).kind = kd at k0 HK
 rw [HK.out]
 clear h he HK hp
 go_enter Tryz.func41, Tryz.ntmps41
 go_wp2
 go_ret
 exact ⟨rfl, rfl⟩
set_option maxRecDepth 20000 in
set_option maxHeartbeats 1000000 in
theorem l5is_d {c : Cx} {ab k : Nat} (i : Nat) (w : World) (h : Dv c ab w) (hi : i < c.dn) (ho : Ok k (c.ds.drop i)) : Calls Tryz.prog 79 #[.pointer (some ⟨ab, 0, none⟩), .int .i64 (i : Nat), .string ⟨#[100, 101, 102, 105, 110, 101]⟩] w fun e w' => e = .returned (.bool (isSy (c.ds.drop i) && decide (nm (c.ds.drop i) = wDefine))) ∧ w' = w := by
 have HS := mkC (l5sym_d i w h hi)
 by_cases hs : isSy (c.ds.drop i) = true
 ·obtain ⟨m, db, dof, hdp, hmx, hm, hmc⟩ := h.nmAt hi ho hs
  have e0 := h.cell
  rw [hdp] at e0
  have hdn := h.dn
  have k2 := hmc w h.bel
  have kc := conv_nm hm h.bel
  have HEQ := mkC (str_lit hm.rg (W := wDefine) (by unfold Rg; decide) (L := [100, 101, 102, 105, 110, 101]) (by decide))
  rw [hs] at HS ⊢
  rw [← hmx]
  obtain ⟨s, hsx⟩ : ∃ s, s = strOfNums m.x := ⟨_, rfl⟩
  rw [← hsx] at kc HEQ
  obtain ⟨mp, mn, mc, mx⟩ := m
  simp only at k2 kc HEQ ⊢
  clear h ho hs hdp hmx hm hmc hsx
  by_cases hq : mx = wDefine
  ·have q1 : (s.toList == [100, 101, 102, 105, 110, 101]) = true := by rw [HEQ.out]; exact decide_eq_true hq
   rw [decide_eq_true hq]
   clear hq HEQ
   go_enter Tryz.func79, Tryz.ntmps79
   go_wp2_with fail
   refine HS.out.mono ?_
   rintro e w1 ⟨rfl, rfl⟩
   go_wp2_with fail
   go_ret
   exact ⟨rfl, rfl⟩
  ·have q1 : (s.toList == [100, 101, 102, 105, 110, 101]) = false := by rw [HEQ.out]; exact decide_eq_false hq
   rw [decide_eq_false hq]
   clear hq HEQ
   go_enter Tryz.func79, Tryz.ntmps79
   go_wp2_with fail
   refine HS.out.mono ?_
   rintro e w1 ⟨rfl, rfl⟩
   go_wp2_with fail
   go_ret
   exact ⟨rfl, rfl⟩
 ·have hs' : isSy (c.ds.drop i) = false := by simpa using hs
  rw [hs'] at HS ⊢
  clear h ho hs hs'
  go_enter Tryz.func79, Tryz.ntmps79
  go_wp2_with fail
  refine HS.out.mono ?_
  rintro e w1 ⟨rfl, rfl⟩
  go_wp2_with fail
  go_ret
  exact ⟨rfl, rfl⟩
theorem isDf_no {l : List Dt} (h : isLs l = false) : isDf l = false := by
 unfold isDf kidsOf
 rw [if_neg (by rw [h]; decide)]
theorem isDf_zero {l : List Dt} (h : (hd l).count ≤ 0) : isDf l = false := by
 unfold isDf kidsOf
 split
 ·rename_i h1
  rfl
 ·rename_i x t h1
  split at h1
  ·rw [show (hd l).count.toNat = 0 by omega] at h1
   cases h1
  ·cases h1
theorem isDf_pos {l : List Dt} (h : isLs l = true) (hc : 0 < (hd l).count) : isDf l = (isSy l.tail && decide (nm l.tail = wDefine)) := by
 unfold isDf kidsOf
 rw [if_pos h]
 obtain ⟨n, hn⟩ : ∃ n, (hd l).count.toNat = n + 1 := ⟨(hd l).count.toNat - 1, by omega⟩
 rw [hn]
 rfl
set_option maxRecDepth 20000 in
set_option maxHeartbeats 1000000 in
theorem l5define_d {c : Cx} {ab : Nat} (i : Nat) (w : World) (h : Dv c ab w) (hi : i < c.dn) (ho : Ok 100 (c.ds.drop i)) : Calls Tryz.prog 39 #[.pointer (some ⟨ab, 0, none⟩), .int .i64 (i : Nat)] w fun e w' => e = .returned (.bool (isDf (c.ds.drop i))) ∧ w' = w := by
 have e0 := h.cell
 obtain ⟨b, o, tp, tn, tc, hp, he, _⟩ := h.elAt hi
 have k0 := he.c0
 have k3 := he.c3
 rw [hp] at e0
 have hdn := h.dn
 by_cases hls : isLs (c.ds.drop i) = true
 ·have hk : (hd (c.ds.drop i)).kind = 3 := by unfold isLs at hls; simpa using hls
  rw [hk] at k0
  by_cases hc : 0 < (hd (c.ds.drop i)).count
  ·have t1 : decide (0 < (hd (c.ds.drop i)).count) = true := decide_eq_true hc
   have et : (c.ds.drop i).tail = c.ds.drop (i + 1) := by rw [List.tail_drop]
   rw [isDf_pos hls hc, et]
   obtain ⟨_, _, hlen, hat⟩ := kids_of (k := 99) ho hls
   have h0 := hat 0 (by omega)
   rw [et] at h0
   have hok : Ok 99 (c.ds.drop (i + 1)) := by
    have h1 : c.ds.drop (i + 1) = (kidsOf 99 (c.ds.drop i)).getD 0 [] := by
     have := h0.1
     simp only [skipN] at this
     exact Option.some.inj this
    rw [h1]
    exact h0.2
   have hi1 : i + 1 < c.dn := by
    obtain ⟨d, q, e, _⟩ := hok.ne
    have := congrArg List.length e
    rw [List.length_drop, List.length_cons, h.dat.len] at this
    omega
   have HIS := mkC (l5is_d (i + 1) w h hi1 hok)
   generalize (isSy (c.ds.drop (i + 1)) && decide (nm (c.ds.drop (i + 1)) = wDefine)) = bb at HIS
   generalize (hd (c.ds.drop i)).count = cnt at k3 t1
   clear h ho he hp hls hk hc et hlen hat h0 hok
   go_enter Tryz.func39, Tryz.ntmps39
   go_wp2_with fail
   refine HIS.out.mono ?_
   rintro e w1 ⟨rfl, rfl⟩
   go_wp2_with fail
   go_ret
   exact ⟨rfl, rfl⟩
  ·have t1 : decide (0 < (hd (c.ds.drop i)).count) = false := decide_eq_false hc
   rw [isDf_zero (by omega)]
   generalize (hd (c.ds.drop i)).count = cnt at k3 t1
   clear h ho he hp hls hk hc
   go_enter Tryz.func39, Tryz.ntmps39
   go_wp2_with fail
   go_ret
   exact ⟨rfl, rfl⟩
 ·have hls' : isLs (c.ds.drop i) = false := by simpa using hls
  have t1 : ((hd (c.ds.drop i)).kind == 3) = false := by unfold isLs at hls'; simpa using hls'
  rw [isDf_no hls']
  generalize (hd (c.ds.drop i)).kind = kd at k0 t1
  clear h ho he hp hls hls'
  go_enter Tryz.func39, Tryz.ntmps39
  go_wp2_with fail
  go_ret
  exact ⟨rfl, rfl⟩
structure In0 (c : Cx) (w : World) (ab : Nat) (glv : Value) (gl : List Nm) (bxv : Value) (bx : List Bool) (bad : Bool) : Prop where
 bel : Below c.w0.heap.size c.w0 w
 dat : Da c.w0 c.dp c.dn c.dc c.ds
 dn : c.dn ≤ 3000
 ab0 : c.w0.heap.size ≤ ab
 blk : w.heap[ab]? = some (.cells #[.slice c.dp c.dn c.dc, glv, bxv, .slice none 0 0, .int .i64 0, .slice none 0 0, .slice none 0 0, .slice none 0 0, .bool bad, .slice none 0 0] 45)
 glo : w.ownsRow c.w0.heap.size 34 1 glv gl.length (nmC gl)
 gln : ∀ m ∈ gl, NmI c m
 glb : gl.length ≤ 3000
 bxo : w.ownsRow c.w0.heap.size 4 1 bxv bx.length (bx.map Value.bool)
 b2 : bx.length ≤ 3000
theorem In0.dv {c : Cx} {w : World} {ab : Nat} {glv : Value} {gl : List Nm} {bxv : Value} {bx : List Bool} {bad : Bool} (h : In0 c w ab glv gl bxv bx bad) : Dv c ab w := ⟨h.bel, h.dat, h.dn, (cells10 h.blk).1⟩
theorem In0.below {c : Cx} {w w' : World} {ab : Nat} {glv : Value} {gl : List Nm} {bxv : Value} {bx : List Bool} {bad : Bool} (h : In0 c w ab glv gl bxv bx bad) (hb : Below w.heap.size w w') : In0 c w' ab glv gl bxv bx bad :=
 ⟨h.bel.trans (hb.mono h.bel.size), h.dat, h.dn, h.ab0, (hb.block _ (Array.getElem?_eq_some_iff.1 h.blk).1).trans h.blk, owns_below h.glo hb, h.gln, h.glb, owns_below h.bxo hb, h.b2⟩
theorem In0.glAt {c : Cx} {w : World} {ab : Nat} {glv : Value} {gl : List Nm} {bxv : Value} {bx : List Bool} {bad : Bool} (h : In0 c w ab glv gl bxv bx bad) : ∃ p gc, glv = .slice p gl.length gc ∧ (0 < gl.length → ∃ g, p = some ⟨g, 0, none⟩ ∧ g < w.heap.size ∧ ∀ i (hi : i < gl.length), w.cell? ⟨g, i, none⟩ = some (nmV (gl[i]'hi))) := by
 obtain ⟨p, gc, ho⟩ := owns_form h.glo
 have hg := h.glo
 rw [ho] at hg
 obtain ⟨_, _, hc⟩ := owns_cells hg
 refine ⟨p, gc, ho, fun h0 => ?_⟩
 obtain ⟨g, e, h1, _, _, h4⟩ := hc h0
 refine ⟨g, e, h1, fun i hi => ?_⟩
 rw [h4 i (by omega)]
 unfold nmC
 rw [List.getElem?_map, List.getElem?_eq_getElem hi]
 rfl
set_option maxRecDepth 20000 in
set_option maxHeartbeats 2000000 in
theorem l5global_d {c : Cx} {ab : Nat} {glv bxv : Value} {gl : List Nm} {bx : List Bool} {bad : Bool} (m : Nm) (w : World) (h : In0 c w ab glv gl bxv bx bad) (hm : NmI c m) : Calls Tryz.prog 42 #[.pointer (some ⟨ab, 0, none⟩), .slice m.p m.n m.c] w fun e w' => (∃ z : Int, e = .returned (.int .i64 z) ∧ IxP (gl.map (·.x)) m.x z) ∧ Below w.heap.size w w' := by
 have HI := mkC h
 have HM := mkC hm
 obtain ⟨p, gc, hgv, hga⟩ := h.glAt
 have e1 := (cells10 h.blk).2.1
 rw [hgv] at e1
 have hab := (Array.getElem?_eq_some_iff.1 h.blk).1
 have hgl := h.glb
 have HGA := mkC hga
 obtain ⟨n, hn⟩ : ∃ n, n = gl.length := ⟨_, rfl⟩
 have HN := mkC hn
 rw [← hn] at e1 hgl
 clear h hm hgv hga hn
 go_enter Tryz.func42, Tryz.ntmps42
 go_wp2_with fail
 go_loopw [5] (fun iv wr => ∃ i : Nat, i ≤ n ∧ iv = .int .i64 (i : Nat) ∧ Hid (Below w.heap.size w wr) ∧ Hid (∀ j, j < i → (gl.map (·.x))[j]? ≠ some m.x)) (fun iv _ => n - (intOf iv).toNat)
 case atStart => exact ⟨0, Nat.zero_le _, rfl, Below.refl _ _, fun j hj => absurd hj (Nat.not_lt_zero j)⟩
 case round =>
  obtain ⟨i, hi, rfl, hB, hJ⟩ := hrel
  have y1 := cell_keepC hB.out hab e1
  by_cases hlt : i < n
  ·have hil : i < gl.length := by rw [← HN.out]; exact hlt
   obtain ⟨g, rfl, hg, hcc⟩ := HGA.out (by omega)
   have y2 := cell_keepC hB.out hg (hcc i hil)
   have hgm := HI.out.gln _ (List.getElem_mem hil)
   have hbw : Below c.w0.heap.size c.w0 wr.drew := below_drewC (HI.out.bel.trans (hB.out.mono HI.out.bel.size))
   have k1 := conv_nm hgm hbw
   have k2 := conv_nm HM.out hbw
   have HEQ := mkC (str_eqb HM.out.rg hgm.rg)
   have HX : Hid ((gl.map (·.x))[i]? = some (gl[i]'hil).x) := by unfold Hid; rw [List.getElem?_map, List.getElem?_eq_getElem hil]; rfl
   unfold nmV at y2
   generalize gl[i]'hil = q at y2 k1 HEQ HX
   obtain ⟨qp, qn, qc, qx⟩ := q
   simp only at y2 k1 HEQ HX
   obtain ⟨s1, hs1⟩ : ∃ s1, s1 = strOfNums qx := ⟨_, rfl⟩
   obtain ⟨s2, hs2⟩ : ∃ s2, s2 = strOfNums m.x := ⟨_, rfl⟩
   rw [← hs1] at k1 HEQ
   rw [← hs2] at k2 HEQ
   clear hgm hbw hcc hs1 hs2
   by_cases hxe : qx = m.x
   ·have heq : (s1.toList == s2.toList) = true := by rw [HEQ.out]; exact decide_eq_true hxe
    clear HEQ
    go_wp2_with fail
    go_region
    all_goals go_wp2
    all_goals go_ret
    all_goals exact ⟨⟨_, rfl, Or.inr ⟨i, by rw [List.length_map]; exact hil, rfl, by rw [HX.out, hxe]⟩⟩, below_drewC hB.out⟩
   ·have heq : (s1.toList == s2.toList) = false := by rw [HEQ.out]; exact decide_eq_false hxe
    clear HEQ
    go_wp2_with fail
    go_region
    all_goals go_wp2
    all_goals exact ⟨⟨i + 1, by omega, by go_num, below_drewC hB.out, fun j hj => by rcases (show j < i ∨ j = i by omega) with h1 | h1; exact hJ.out j h1; rw [h1, HX.out]; exact fun e => hxe (Option.some.inj e)⟩, by simp [intOf]; omega⟩
  ·have HNO : Hid (m.x ∉ gl.map (·.x)) := fun hmem => by
    obtain ⟨j, hj, he⟩ := List.getElem_of_mem hmem
    refine hJ.out j (by rw [List.length_map] at hj; have := HN.out; omega) ?_
    rw [List.getElem?_eq_getElem hj, he]
   go_wp2_with fail
   go_ret
   exact ⟨⟨_, rfl, Or.inl ⟨rfl, HNO.out⟩⟩, hB.out⟩
theorem frm_sum : ∀ (n : Nat) (l : List Dt), l.length ≤ n → rowOf l = true → sumS 100 (frm l) = l.length := by
 intro n
 induction n with
 | zero =>
  intro l h _
  obtain rfl : l = [] := List.eq_nil_of_length_eq_zero (by omega)
  rfl
 | succ n ih =>
  intro l h hr
  cases l with
  | nil => rfl
  | cons d q =>
   obtain ⟨r, h1, h2⟩ := rowOf_next _ hr (by simp)
   rw [frm_some h1]
   obtain ⟨m, h3, h4, h5⟩ := skip_eats 100 _ _ h1
   have h6 : r.length = (d :: q).length - m := by rw [h5, List.length_drop]
   have h7 := ih r (by omega) h2
   simp only [sumS, sz, h1, Option.getD_some]
   omega
def FmP (c : Cx) (w w' : World) (e : Ending) : Prop := ∃ (p : Option Addr) (cc : Nat) (fs : List Nat), e = .returned (.slice p fs.length cc) ∧ OwI w' w.heap.size (.slice p fs.length cc) fs ∧ Below w.heap.size w w' ∧ at_ c fs = frm c.ds ∧ Pcs c 100 fs ∧ fs.length ≤ c.dn
set_option maxHeartbeats 1000000 in
theorem l1forms_d {c : Cx} (w : World) (hb0 : Below c.w0.heap.size c.w0 w) (hda : Da c.w0 c.dp c.dn c.dc c.ds) (hn : c.dn ≤ 3000) (hrow : rowOf c.ds = true) :
  Calls Tryz.prog 38 #[.slice c.dp c.dn c.dc] w fun e w' => FmP c w w' e := by
 obtain ⟨w0, p, n, cc, ds⟩ := c
 simp only at hb0 hda hn hrow ⊢
 have HD : Hid (Da w p n cc ds) := hda.below hb0
 have hlen : Hid (ds.length = n) := hda.len
 have HR : Hid (rowOf ds = true) := hrow
 clear hda hrow hb0
 go_enter Tryz.func38, Tryz.ntmps38
 go_wp2
 go_loopw [3, 4] (fun v at_ wr => ∃ (a : Nat) (fs : List Nat), a ≤ n ∧ at_ = .int .i64 a ∧ fs.length ≤ a ∧ Hid (rowOf (ds.drop a) = true) ∧ Hid (OwI wr w.heap.size v fs) ∧ Hid (frm ds = fs.map (fun p => ds.drop p) ++ frm (ds.drop a)) ∧ Hid (∀ x ∈ fs, x < n ∧ Ok 100 (ds.drop x)) ∧ Hid (Below w.heap.size w wr)) (fun _ at_ _ => n - (intOf at_).toNat)
 case atStart => exact ⟨0, [], Nat.zero_le _, rfl, Nat.le_refl _, HR, OwI.nil _ _, rfl, (fun t ht => by cases ht), Below.refl _ _⟩
 case round =>
  obtain ⟨a, fs, ha, rfl, hfl, hro, hO, hrt, hks, hb⟩ := hrel
  by_cases hlt : a < n
  ·obtain ⟨q, hq, hq2⟩ := rowOf_next _ hro.out (fun e => by have := congrArg List.length e; rw [List.length_drop, hlen.out] at this; simp at this; omega)
   have HT0 := frm_some hq
   have HOK : Hid (Ok 100 (ds.drop a)) := ⟨q, hq⟩
   obtain ⟨m, hm1, hm2, rfl, hop, hjj⟩ := skip_place hq (by rw [hlen.out]; exact ha)
   rw [hlen.out] at hm2
   have HT : Hid (frm ds = (fs ++ [a]).map (fun p => ds.drop p) ++ frm (ds.drop (a + m))) := by
    unfold Hid; rw [hrt.out, HT0]; simp
   have HQ2 : Hid (rowOf (ds.drop (a + m)) = true) := hq2
   have HOP : Hid (opn m (ds.drop a) = -1 ∧ ∀ t, t < m → 0 ≤ opn t (ds.drop a) ∧ 0 ≤ ((ds.drop a).getD t dt0).count) := ⟨hop, hjj⟩
   have hsz := hb.out.size
   clear hq hq2 hop hjj HT0
   go_wp2_with (first | (at_builtin; refine appI_law _ rfl (.tmp 12) (.tmp 14) rfl w.heap.size _ fs a (by simp [Act.eval]) hO.out (by simp [Act.eval]) (by omega) hsz ?_; intro v' w1 ho hg; have HO1 : Hid (OwI w1 w.heap.size v' (fs ++ [a])) := ho; have HB1 : Hid (Below w.heap.size w w1) := hb.out.trans hg; clear ho hg) | (go_at_call 78; refine (next23 _ n cc a m ds _ (by exact HD.out.below HB1.out) hn hm1 hm2 HOP.out.1 HOP.out.2).mono ?_; rintro e w2 ⟨rfl, hw2⟩; have hw3 := hw2.symm; clear hw2; subst hw3))
   refine ⟨⟨a + m, fs ++ [a], hm2, by go_num, by simp; omega, HQ2, HO1, HT, fun x hx => ?_, HB1⟩, by simp [intOf]; omega⟩
   rcases List.mem_append.1 hx with h | h
   ·exact hks.out x h
   ·rw [List.mem_singleton.1 h]; exact ⟨hlt, HOK.out⟩
  ·obtain rfl : a = n := by omega
   have HF : Hid (frm ds = fs.map (fun p => ds.drop p)) := by
    unfold Hid
    rw [hrt.out, List.drop_eq_nil_of_le (by rw [hlen.out]; exact Nat.le_refl _)]
    exact List.append_nil _
   go_wp2
   go_ret
   obtain ⟨p', c', hv, _⟩ := hO.out.form
   refine ⟨p', c', fs, by rw [hv]; rfl, ?_, hb.out, HF.out.symm, hks.out, hfl⟩
   rw [← hv]
   exact hO.out
theorem kidsD {c : Cx} {ab k i : Nat} (w : World) (h : Dv c ab w) (hi : i < c.dn) (ho : Ok k (c.ds.drop i)) (hl : isLs (c.ds.drop i) = true) : Calls Tryz.prog 40 #[.slice c.dp c.dn c.dc, .int .i64 (i : Nat)] w fun e w' => KiP c k i w w' e := by
 cases k with
 | zero => rw [ok_zero ho] at hl; cases hl
 | succ k =>
  obtain ⟨h0, ⟨q, hq⟩, hlen, hat⟩ := kids_of ho hl
  have eh := hd_drop c.ds i
  have et : (c.ds.drop i).tail = c.ds.drop (i + 1) := by rw [List.tail_drop]
  rw [et] at hq hat
  have h0' := h0
  rw [eh] at h0 hq
  refine (kids26 k c.dp c.dn c.dc i c.ds q w (h.dat.below h.bel) h.dn hi h0 hq).mono ?_
  rintro e w' ⟨v, ks, rfl, ho2, hkl, hks, hb⟩
  obtain ⟨p, cc, rfl, _⟩ := ho2.form
  rw [← eh] at hkl
  have hjt : ∀ j (hj : j < ks.length), c.ds.drop (ks[j]'hj) = (kidsOf k (c.ds.drop i)).getD j [] := fun j hj => by
   have a1 := (hks j hj).2
   have a2 := (hat j (by rw [← hkl]; exact hj)).1
   rw [a1] at a2
   have a3 : ks.getD j 0 = ks[j]'hj := by rw [List.getD_eq_getElem?_getD, List.getElem?_eq_getElem hj]; rfl
   rw [a3] at a2
   exact Option.some.inj a2
  refine ⟨p, cc, ks, rfl, ho2, hb, ?_, ?_, ?_⟩
  ·rw [kidsOf_mono (Nat.le_succ k) ho]
   apply List.ext_getElem
   ·rw [hlen, ← hkl]; simp [Cp.at_]
   ·intro j h1 h2
    have h3 : j < ks.length := by simpa [Cp.at_] using h1
    have h4 := hjt j h3
    rw [List.getD_eq_getElem?_getD, List.getElem?_eq_getElem h2] at h4
    simpa [Cp.at_] using h4
  ·intro x hx
   obtain ⟨j, hj, rfl⟩ := List.getElem_of_mem hx
   have h5 := (hat j (by rw [← hkl]; exact hj)).2
   rw [← hjt j hj] at h5
   refine ⟨?_, h5⟩
   obtain ⟨d, q', e', _⟩ := h5.ne
   have := congrArg List.length e'
   rw [List.length_drop, List.length_cons, h.dat.len] at this
   omega
  ·rw [hkl]; exact Int.toNat_of_nonneg h0'
def stepG (o : Option (List (List Int))) (x : List Dt) : Option (List (List Int)) := match o with
 | none => none
 | some g => if isDf x = true then (if okDf x = true then some (addN g (nm ((kidsOf 100 x).getD 1 []))) else none) else some g
theorem glsF_snoc (x : List Dt) : ∀ (a : List (List Dt)) (gl : List (List Int)), glsF gl (a ++ [x]) = stepG (glsF gl a) x
 | [], gl => by
  simp only [List.nil_append, glsF, stepG]
 | y :: a, gl => by
  simp only [List.cons_append, glsF]
  split
  ·split
   ·exact glsF_snoc x a _
   ·rfl
  ·exact glsF_snoc x a _
def GlR (o : Option (List (List Int))) (gl : List Nm) (bad : Bool) : Prop := match o with
 | none => bad = true
 | some g => bad = false ∧ gl.map (·.x) = g
theorem GlR.no {o : Option (List (List Int))} {gl : List Nm} {bad : Bool} {x : List Dt} (h : GlR o gl bad) (hx : isDf x = false) : GlR (stepG o x) gl bad := by
 cases o with
 | none => exact h
 | some g => unfold stepG; simp only [hx, Bool.false_eq_true, if_false]; exact h
theorem GlR.wrong {o : Option (List (List Int))} {gl : List Nm} {x : List Dt} (hx : isDf x = true) (hk : okDf x = false) : GlR (stepG o x) gl true := by
 cases o with
 | none => rfl
 | some g => unfold stepG; simp only [hx, hk, Bool.false_eq_true, if_false, if_true]; rfl
theorem GlR.old {o : Option (List (List Int))} {gl : List Nm} {bad : Bool} {x : List Dt} (h : GlR o gl bad) (hx : isDf x = true) (hk : okDf x = true) (hc : (gl.map (·.x)).contains (nm ((kidsOf 100 x).getD 1 [])) = true) : GlR (stepG o x) gl bad := by
 cases o with
 | none => exact h
 | some g =>
  unfold stepG addN
  simp only [hx, hk, if_true]
  rw [← h.2, hc]
  exact ⟨h.1, rfl⟩
theorem GlR.more {o : Option (List (List Int))} {gl : List Nm} {bad : Bool} {x : List Dt} {m : Nm} (h : GlR o gl bad) (hx : isDf x = true) (hk : okDf x = true) (hm : m.x = nm ((kidsOf 100 x).getD 1 [])) (hc : (gl.map (·.x)).contains (nm ((kidsOf 100 x).getD 1 [])) = false) : GlR (stepG o x) (gl ++ [m]) bad := by
 cases o with
 | none => exact h
 | some g =>
  unfold stepG addN
  simp only [hx, hk, if_true]
  rw [← h.2, hc]
  exact ⟨h.1, by simp [hm]⟩
theorem set_ab1 {w : World} {k : Nat} {a0 a1 a2 a3 a4 a5 a6 a7 a8 a9 : Value} {t : TypeId} (e : w.heap[k]? = some (.cells #[a0, a1, a2, a3, a4, a5, a6, a7, a8, a9] t)) (v : Value) : (w.setCell ⟨k, 1, none⟩ v).heap[k]? = some (.cells #[a0, v, a2, a3, a4, a5, a6, a7, a8, a9] t) := by
 simp [World.setCell, Array.getElem?_modify, e]
theorem In0.setBad {c : Cx} {w : World} {ab : Nat} {glv : Value} {gl : List Nm} {bxv : Value} {bx : List Bool} {bad : Bool} (h : In0 c w ab glv gl bxv bx bad) : In0 c (w.setCell ⟨ab, 8, none⟩ (.bool true)) ab glv gl bxv bx true :=
 ⟨Below.setCell h.bel (p := ⟨ab, 8, none⟩) h.ab0 _, h.dat, h.dn, h.ab0, (set_ab h.blk _).2.2.2.2.2.1, owns_set h.glo h.blk (by decide) _, h.gln, h.glb, owns_set h.bxo h.blk (by decide) _, h.b2⟩
theorem In0.addGl {c : Cx} {w w1 : World} {ab : Nat} {glv : Value} {gl : List Nm} {bxv : Value} {bx : List Bool} {bad : Bool} (h : In0 c w ab glv gl bxv bx bad) {v' : Value} {m : Nm} (hm : NmI c m) (hl : gl.length + 1 ≤ 3000) (ho : w1.ownsRow c.w0.heap.size 34 1 v' (gl.length + 1) (nmC gl ++ [nmV m])) (hb : Below c.w0.heap.size w w1) (hbt : But w w1 glv) : In0 c (w1.setCell ⟨ab, 1, none⟩ v') ab v' (gl ++ [m]) bxv bx bad := by
 have hab := (Array.getElem?_eq_some_iff.1 h.blk).1
 have hab1 : w1.heap[ab]? = some _ := (hbt _ hab (owns_ne h.glo h.blk (by decide))).trans h.blk
 refine ⟨Below.setCell (h.bel.trans hb) (p := ⟨ab, 1, none⟩) h.ab0 _, h.dat, h.dn, h.ab0, set_ab1 hab1 _, ?_, ?_, by simp; omega, owns_set (owns_but h.bxo (apt_ty h.bxo h.glo (by decide)) hbt) hab1 (by decide) _, h.b2⟩
 ·rw [List.length_append]
  unfold nmC at ho ⊢
  rw [List.map_append]
  exact owns_set ho hab1 (by decide) v'
 ·intro x hx
  rcases List.mem_append.1 hx with hx | hx
  ·exact h.gln x hx
  ·rw [List.mem_singleton.1 hx]; exact hm
theorem keep1 {w w1 : World} {B ab j : Nat} {v : Value} {fs : List Nat} {a : Array Value} (ho : OwI w B v fs) (hblk : w.heap[ab]? = some (.cells a 45)) {B2 n : Nat} {glv : Value} {xs : List Value} (hg : w.ownsRow B2 34 1 glv n xs) (hbt : But w w1 glv) (x : Value) : OwI (w1.setCell ⟨ab, j, none⟩ x) B v fs := by
 have hab := (Array.getElem?_eq_some_iff.1 hblk).1
 have hab1 : w1.heap[ab]? = some _ := (hbt _ hab (owns_ne hg hblk (by decide))).trans hblk
 exact owns_set (owns_but ho (apt_ty ho hg (by decide)) hbt) hab1 (by decide) x
def P1 (c : Cx) (B ab : Nat) (bxv : Value) (bx : List Bool) (p : Option Addr) (cc : Nat) (fs : List Nat) (i : Nat) (w : World) : Prop := ∃ glv gl bad, In0 c w ab glv gl bxv bx bad ∧ GlR (glsF [] (at_ c (fs.take i))) gl bad ∧ gl.length ≤ i ∧ OwI w B (.slice p fs.length cc) fs
theorem at_snocP {c : Cx} {fs : List Nat} {i : Nat} (hi : i < fs.length) : at_ c (fs.take (i + 1)) = at_ c (fs.take i) ++ [c.ds.drop (fs[i]'hi)] := by
 rw [take_snoc hi, at_snoc]
def St.first (ab : Nat) (glv : Value) (gl : List Nm) (bxv : Value) (bx : List Bool) (opv : Value) (fb : Nat) : St := ⟨ab, glv, gl, bxv, bx, 0, opv, [], fn0 fb 0, .slice none 0 0, [], .slice none 0 0, [], 0, false, .slice none 0 0, []⟩
theorem first_all (ab : Nat) (glv : Value) (gl : List Nm) (bxv : Value) (bx : List Bool) (opv : Value) (fb : Nat) : (St.first ab glv gl bxv bx opv fb).all = [fn0 fb 0] := rfl
theorem In0.open_ {c : Cx} {w w2 : World} {ab : Nat} {glv : Value} {gl : List Nm} {bxv : Value} {bx : List Bool} (h : In0 c w ab glv gl bxv bx false) {v' : Value}
  (ho : w2.ownsRow c.w0.heap.size 82 1 v' 1 [.pointer (some ⟨w.heap.size, 0, none⟩)]) (hb : Below c.w0.heap.size (w.alloc (.cells #[.slice none 0 0, .slice none 0 0, .int .i64 0, .slice none 0 0, .int .i64 0] 86)) w2) (hbt : But (w.alloc (.cells #[.slice none 0 0, .slice none 0 0, .int .i64 0, .slice none 0 0, .int .i64 0] 86)) w2 (.slice none 0 0)) :
  Inv c 1 (w2.setCell ⟨ab, 5, none⟩ v') (St.first ab glv gl bxv bx v' w.heap.size) ∧ w.heap.size ≤ w2.heap.size := by
 obtain ⟨w1, hw1⟩ : ∃ w1, w1 = w.alloc (.cells #[.slice none 0 0, .slice none 0 0, .int .i64 0, .slice none 0 0, .int .i64 0] 86) := ⟨_, rfl⟩
 have hblk1 : w1.heap[w.heap.size]? = some (.cells #[.slice none 0 0, .slice none 0 0, .int .i64 0, .slice none 0 0, .int .i64 0] 86) := by rw [hw1]; exact Go.Deep.blk_alloc_new _ _
 have hsz1 : w1.heap.size = w.heap.size + 1 := by rw [hw1]; simp
 have hbl1 : Below w.heap.size w w1 := by rw [hw1]; exact below1 w _
 rw [← hw1] at hb hbt
 have h1 := h.below hbl1
 have hab := (Array.getElem?_eq_some_iff.1 h.blk).1
 have hkeep : ∀ k, k < w1.heap.size → w2.heap[k]? = w1.heap[k]? := fun k hk => hbt k hk (fun e => by cases e)
 have hab2 : w2.heap[ab]? = some _ := (hkeep ab (by omega)).trans h1.blk
 have hB0 := h.bel.size
 have hb2 : Below w1.heap.size w1 w2 := ⟨hb.os, hb.tape, hb.output, hb.size, hkeep⟩
 have h2 := h1.below hb2
 have hne : w.heap.size ≠ ab := by omega
 have hfb : (w2.setCell ⟨ab, 5, none⟩ v').heap[w.heap.size]? = some (.cells #[.slice none 0 0, .slice none 0 0, .int .i64 0, .slice none 0 0, .int .i64 0] 86) := by
  rw [set_keep v' hne, hkeep _ (by omega)]
  exact hblk1
 refine ⟨⟨Below.setCell h2.bel (p := ⟨ab, 5, none⟩) h.ab0 _, h.dat, h.dn, h.ab0, (set_ab h2.blk v').2.2.1, owns_set h2.glo h2.blk (by decide) _, h.gln, nil_own _ _ _ _, (fun _ hv => by cases hv), (fun k hk h3 => by cases h3), owns_set h2.bxo h2.blk (by decide) _, ?_, ?_, ?_, nil_own _ _ _ _, (fun _ hv => by cases hv), nil_own _ _ _ _, rfl, Nat.zero_le _, h.b2, ?_, ?_⟩, ?_⟩
 ·exact owns_set ho h2.blk (by decide) _
 ·rw [first_all]
  intro f hf
  rw [List.mem_singleton.1 hf]
  exact ⟨hfb, hB0, nil_own _ _ _ _, nil_own _ _ _ _, nil_own _ _ _ _, rfl, (fun _ hv => by cases hv)⟩
 ·rw [first_all]; simp
 ·rw [first_all]
  intro f hf
  rw [List.mem_singleton.1 hf]
  exact ⟨(fun _ hv => by cases hv), (fun _ hv => by cases hv), List.nodup_nil, Nat.zero_le _, Nat.zero_le _⟩
 ·exact ⟨Nat.le_refl _, Nat.zero_le _, Nat.zero_le _, Nat.zero_le _, h.glb⟩
 ·have := hb2.size; omega
theorem first_ix {c : Cx} {W : World} {ab B fb : Nat} {glv : Value} {gl : List Nm} {bxv opv : Value} {bx : List Bool} {p : Option Addr} {cc : Nat} {fs : List Nat} (hi : Inv c 1 W (St.first ab glv gl bxv bx opv fb)) (ho : OwI W B (.slice p fs.length cc) fs) : Ix (St.first ab glv gl bxv bx opv fb) W p fs.length cc fs := by
 have hoo : W.ownsRow B 3 1 (.slice p fs.length cc) fs.length (inC fs) := ho
 obtain ⟨h1, h2, h3⟩ := owns_cells hoo
 refine ⟨rfl, h1, h2, fun h0 => ?_⟩
 obtain ⟨g, e, h4, h5, ⟨cur, h6⟩, h7⟩ := h3 h0
 refine ⟨g, 0, e, h4, fun hp => ?_, fun j hj => ?_⟩
 ·have ty : ∀ {n size : Nat} {e : TypeId} {v : Value} {xs : List Value}, W.ownsRow c.w0.heap.size e size v n xs → v.ownBlock = some g → e ≠ 3 → False := fun hr hk he => by
   obtain ⟨_, cur2, h8⟩ := owns_lt hr g hk
   rw [h6] at h8
   cases h8
   exact he rfl
  rcases hp with h8 | ⟨f, hf, h8⟩ | h8 | h8 | h8 | h8 | h8
  ·have h9 := hi.blk
   rw [← h8, h6] at h9
   cases h9
  ·rw [first_all] at hf
   rw [List.mem_singleton.1 hf] at h8
   rcases h8 with h9 | h9 | h9 | h9
   ·have h10 := (hi.fns (fn0 fb 0) (by rw [first_all]; simp)).blk
    rw [show (fn0 fb 0).b = g from h9.symm, h6] at h10
    cases h10
   ·cases h9
   ·cases h9
   ·cases h9
  ·exact ty hi.bx h8 (by decide)
  ·exact ty hi.op h8 (by decide)
  ·cases h8
  ·cases h8
  ·cases h8
 ·rw [Nat.zero_add, h7 j (by omega)]
  unfold inC
  rw [List.getElem?_map, List.getElem?_eq_getElem hj]
  rfl
structure Ps (c : Cx) (N : Nat) (st : St) (w : World) (xs : List Nat) (st' : St) (w' : World) : Prop where
 stp : Stp c (N + sumB 100 (at_ c xs)) st w st' w'
 rs : RsP (allO (topR (st.gl.map (·.x))) (at_ c xs)) st st'
 bo : st'.bo ≤ st.bo + sumS 100 (at_ c xs)
theorem Ps.nil {c : Cx} {N : Nat} {st : St} {w : World} (h : Inv c N w st) : Ps c N st w [] st w := ⟨⟨h, Fr.refl _ _, Sm.refl _⟩, ⟨rfl, by simp⟩, Nat.le_add_right _ _⟩
theorem Ps.snoc {c : Cx} {N i : Nat} {st s1 s2 s3 : St} {w w1 w2 w3 : World} {xs : List Nat} (h : Ps c N st w xs s1 w1) (hx : Stp c (N + sumB 100 (at_ c xs) + bud 100 (c.ds.drop i)) s1 w1 s2 w2 ∧ RsP (topR (s1.gl.map (·.x)) (c.ds.drop i)) s1 s2 ∧ s2.bo ≤ s1.bo + sz 100 (c.ds.drop i)) (h3 : Stp c (N + sumB 100 (at_ c xs) + bud 100 (c.ds.drop i) + 10) s2 w2 s3 w3) (hq : Qt s2 s3) : Ps c N st w (xs ++ [i]) s3 w3 := by
 have e : at_ c (xs ++ [i]) = at_ c xs ++ [c.ds.drop i] := by simp [at_]
 refine ⟨?_, ?_, ?_⟩
 ·have h4 := (h.stp.trans hx.1).trans h3
  rw [e, sumB_app]
  exact h4.mono (by simp [sumB]; omega)
 ·rw [e, allO_app, allO_one]
  have h5 := hx.2.1
  rw [h.stp.sm.gl] at h5
  exact h.rs.cat (h5.then_ hq)
 ·rw [e, sumS_app, hq.2.2]
  have := h.bo
  have := hx.2.2
  simp [sumS]
  omega
theorem Ps.sc {c : Cx} {N : Nat} {st s1 : St} {w w1 : World} {xs : List Nat} (h : Ps c N st w xs s1 w1) (hs : st.sc = []) : s1.sc = [] := by rw [h.stp.sm.sc, hs]
theorem Ps.exp {c : Cx} {N i : Nat} {st s1 s2 s3 : St} {w w1 w2 w3 : World} {xs : List Nat} (h : Ps c N st w xs s1 w1) (hsc : st.sc = []) (hd : isDf (c.ds.drop i) = false) (hx : Stp c (N + sumB 100 (at_ c xs) + bud 100 (c.ds.drop i)) s1 w1 s2 w2 ∧ RsP (rd (s1.gl.map (·.x)) 100 s1.sc (c.ds.drop i)) s1 s2 ∧ s2.bo ≤ s1.bo + sz 100 (c.ds.drop i)) (h3 : Stp c (N + sumB 100 (at_ c xs) + bud 100 (c.ds.drop i) + 10) s2 w2 s3 w3) (hq : Qt s2 s3) : Ps c N st w (xs ++ [i]) s3 w3 := by
 refine h.snoc ⟨hx.1, ?_, hx.2.2⟩ h3 hq
 have := hx.2.1
 rw [h.sc hsc] at this
 unfold topR
 rw [hd]
 exact this
theorem mem_sum {k : Nat} {x : List Dt} : ∀ {ls : List (List Dt)}, x ∈ ls → sz k x ≤ sumS k ls
 | [], h => by cases h
 | y :: ls, h => by
  simp only [sumS]
  rcases List.mem_cons.1 h with rfl | h
  ·omega
  ·have := mem_sum (k := k) h
   omega
theorem kid_small {l x : List Dt} (h : Ok 100 l) (hl : isLs l = true) (hx : x ∈ kidsOf 100 l) : Ok 99 x ∧ sz 100 x + 1 ≤ sz 100 l ∧ bud 100 x + 10 ≤ bud 100 l := by
 have e := kidsOf_mono (j := 99) (k := 100) (by omega) h
 have h1 : sumS 99 (kidsOf 99 l) + 1 = sz 100 l := kids_sum (k := 99) h hl
 have h2 := (kids_ok h).1 x hx
 rw [e] at hx
 have h3 := mem_sum (k := 99) hx
 have h4 := sz_mono (j := 99) (k := 100) (by omega) h2
 have h5 := sz_pos (h2.mono (show 100 - 1 ≤ 100 by omega))
 unfold bud
 exact ⟨h2, by omega, by omega⟩
theorem Ps.def_ {c : Cx} {N i j : Nat} {st s1 s2 s3 : St} {w w1 w2 w3 : World} {xs : List Nat} (h : Ps c N st w xs s1 w1) (hsc : st.sc = []) (hd : isDf (c.ds.drop i) = true) (hok : Ok 100 (c.ds.drop i)) (hls : isLs (c.ds.drop i) = true) (hj : (kidsOf 100 (c.ds.drop i)).getD 2 [] = c.ds.drop j) (hmem : c.ds.drop j ∈ kidsOf 100 (c.ds.drop i)) (hx : Stp c (N + sumB 100 (at_ c xs) + bud 100 (c.ds.drop j)) s1 w1 s2 w2 ∧ RsP (rd (s1.gl.map (·.x)) 100 s1.sc (c.ds.drop j)) s1 s2 ∧ s2.bo ≤ s1.bo + sz 100 (c.ds.drop j)) (h3 : Stp c (N + sumB 100 (at_ c xs) + bud 100 (c.ds.drop j) + 10) s2 w2 s3 w3) (hq : Qt s2 s3) : Ps c N st w (xs ++ [i]) s3 w3 := by
 obtain ⟨_, k2, k3⟩ := kid_small hok hls hmem
 refine h.snoc ⟨hx.1.mono (by omega), ?_, by have := hx.2.2; omega⟩ (h3.mono (by omega)) hq
 have := hx.2.1
 rw [h.sc hsc] at this
 unfold topR
 rw [hd]
 simp only [if_true]
 rw [hj]
 exact this
theorem glsF_ok : ∀ (l : List (List Dt)) (gl g : List (List Int)), glsF gl l = some g → ∀ x ∈ l, isDf x = true → okDf x = true
 | [], _, _, _, x, hx, _ => by cases hx
 | y :: l, gl, g, h, x, hx, hd => by
  simp only [glsF] at h
  rcases List.mem_cons.1 hx with rfl | hx
  ·rw [if_pos hd] at h
   by_cases hk : okDf x = true
   ·exact hk
   ·rw [if_neg hk] at h; cases h
  ·split at h
   ·split at h
    ·exact glsF_ok l _ g h x hx hd
    ·cases h
   ·exact glsF_ok l _ g h x hx hd
theorem isDf_ls {l : List Dt} (h : isDf l = true) : isLs l = true := by
 cases e : isLs l with
 | true => rfl
 | false => rw [isDf_no e] at h; cases h
theorem okDf_of {l : List Dt} (h : okDf l = true) : (kidsOf 100 l).length = 3 ∧ isSy ((kidsOf 100 l).getD 1 []) = true := by
 unfold okDf at h
 simpa using h
def PaP (c : Cx) (ab : Nat) (w' : World) : Prop := Below c.w0.heap.size c.w0 w' ∧ ab < w'.heap.size ∧ (∃ (bp : Option Addr) (bl bc : Nat) (bx : List Bool), bx.length = bl ∧ w'.cell? ⟨ab, 2, none⟩ = some (.slice bp bl bc) ∧ w'.ownsRow c.w0.heap.size 4 1 (.slice bp bl bc) bl (bx.map Value.bool) ∧ bl ≤ 3000) ∧ (match pgR c.ds with
 | none => w'.cell? ⟨ab, 8, none⟩ = some (.bool true)
 | some ns => w'.cell? ⟨ab, 8, none⟩ = some (.bool false) ∧ ∃ (up : Option Addr) (uc : Nat) (ub : List Nm), w'.cell? ⟨ab, 9, none⟩ = some (.slice up ub.length uc) ∧ w'.ownsRow c.w0.heap.size 34 1 (.slice up ub.length uc) ub.length (nmC ub) ∧ (∀ m ∈ ub, NmI c m) ∧ ub.map (·.x) = ns ∧ ub.length ≤ 1000000000)
theorem In0.pa {c : Cx} {w : World} {ab : Nat} {glv : Value} {gl : List Nm} {bxv : Value} {bx : List Bool} (h : In0 c w ab glv gl bxv bx true) (hg : glsF [] (frm c.ds) = none) : PaP c ab w := by
 obtain ⟨bp, bc, hbv⟩ := owns_form h.bxo
 have h1 := cells10 h.blk
 refine ⟨h.bel, (Array.getElem?_eq_some_iff.1 h.blk).1, ⟨bp, _, bc, bx, rfl, by rw [h1.2.2.1, hbv], by rw [← hbv]; exact h.bxo, h.b2⟩, ?_⟩
 unfold pgR
 rw [hg]
 exact h1.2.2.2.2.2.2.2.1
theorem Inv.pa {c : Cx} {N : Nat} {w : World} {st : St} {g : List (List Int)} (h : Inv c N w st) (hN : N ≤ 1000000000) (hg : glsF [] (frm c.ds) = some g) {s0 : St} (h0 : s0.bad = false) (h1 : s0.ub = []) (hr : RsP (allO (topR g) (frm c.ds)) s0 st) : PaP c st.ab w := by
 obtain ⟨bp, bc, hbv⟩ := owns_form h.bx
 obtain ⟨up, uc, huv⟩ := owns_form h.ub
 have h2 := cells10 h.blk
 refine ⟨h.bel, (Array.getElem?_eq_some_iff.1 h.blk).1, ⟨bp, _, bc, st.bx, rfl, by rw [h2.2.2.1, hbv], by rw [← hbv]; exact h.bx, h.b2⟩, ?_⟩
 unfold pgR
 rw [hg]
 simp only
 cases e : allO (topR g) (frm c.ds) with
 | none =>
  rw [e] at hr
  rw [h2.2.2.2.2.2.2.2.1, show st.bad = true from hr]
 | some ns =>
  rw [e] at hr
  refine ⟨by rw [h2.2.2.2.2.2.2.2.1, show st.bad = false from hr.1.trans h0], up, uc, st.ub, by rw [h2.2.2.2.2.2.2.2.2.1, huv], by rw [← huv]; exact h.ub, h.ubn, ?_, Nat.le_trans h.len.2.2.2.1 hN⟩
  rw [hr.2, h1]
  rfl
def EndF (c : Cx) (ab fb : Nat) (w : World) : Prop := ∃ (fng nf fnc : Nat) (cvp : Option Addr) (cn cvc : Nat) (v0 v1 v2 : Value), w.cell? ⟨ab, 7, none⟩ = some (.slice (some ⟨fng, 0, none⟩) nf fnc) ∧ 1 ≤ nf ∧ nf ≤ 1000000000 ∧ w.cell? ⟨fb, 3, none⟩ = some (.slice cvp cn cvc) ∧ w.cell? ⟨fng, 0, none⟩ = some v0 ∧ w.cell? ⟨fng, 1, none⟩ = some v1 ∧ w.cell? ⟨fng, 2, none⟩ = some v2 ∧ (∀ o, w.frozen? ⟨fng, o, none⟩ = false) ∧ Hid (∀ a b d, PaP c ab (((w.setCell ⟨fng, 0, none⟩ a).setCell ⟨fng, 1, none⟩ b).setCell ⟨fng, 2, none⟩ d).drew)
theorem Inv.endF {c : Cx} {N ab fb : Nat} {w : World} {st : St} {g : List (List Int)} (h : Inv c N w st) (hN : N ≤ 1000000000) (hab : st.ab = ab) (hfb : st.tp.b = fb) (hnf : 1 ≤ st.nf) (hg : glsF [] (frm c.ds) = some g) {s0 : St} (h0 : s0.bad = false) (h1 : s0.ub = []) (hr : RsP (allO (topR g) (frm c.ds)) s0 st) : EndF c ab fb w := by
 subst hab hfb
 obtain ⟨fnp, fnc, hfn⟩ := owns_form h.fn
 have e7 := (cells10 h.blk).2.2.2.2.2.2.1
 rw [hfn] at e7
 have hfno := h.fn
 rw [hfn] at hfno
 obtain ⟨_, _, hfns⟩ := owns_cells hfno
 obtain ⟨fng, rfl, _, _, ⟨cur, hcur⟩, hfncl⟩ := hfns (by omega)
 have hfxl := h.fxl
 have c0 := hfncl 0 (by omega)
 have c1 := hfncl 1 (by omega)
 have c2 := hfncl 2 (by omega)
 rw [List.getElem?_eq_getElem (by omega)] at c0 c1 c2
 obtain ⟨cvp, cvc, hcv⟩ := owns_form h.tpI.code
 have e3 := (cells5 h.tpI.blk).2.2.2.1
 rw [hcv] at e3
 refine ⟨fng, st.nf, fnc, cvp, st.tp.cn, cvc, _, _, _, e7, hnf, Nat.le_trans h.len.2.2.1 hN, e3, c0, c1, c2, fun o => by simp [World.frozen?, hcur], fun a b d => ?_⟩
 obtain ⟨fx', h2⟩ := h.setFu hfn 0 a b d
 have h3 := h2.inv.stp (below_drewC (Below.refl _ _))
 exact h3.inv.pa hN hg h0 h1 hr
set_option maxRecDepth 200000 in
set_option maxHeartbeats 8000000 in
theorem l5spx_c {c : Cx} {N k : Nat} {st : St} (hE : ExC c k) (p : Option Addr) (n d x0 : Nat) (xs : List Nat) (tail : Bool) (w : World) (hT : TxB c) (r : Option (List (List Int))) (hr : r = spcR (st.gl.map (·.x)) k (rd (st.gl.map (·.x)) k) st.sc (c.ds.drop x0) (Cp.at_ c xs)) (h : Inv c N w st) (hx : Ix st w p (n + 1) d (x0 :: xs)) (hp : Pcs c k (x0 :: xs)) (hs : isSy (c.ds.drop x0) = true) (hnq : ¬ (nm (c.ds.drop x0) = wQuote ∧ n = 1)) (hN : N + sumB k (Cp.at_ c xs) + 9000 ≤ 1000000000) (hb : st.bo + sumS k (Cp.at_ c xs) ≤ 3000) :
  Calls Tryz.prog 84 #[.pointer (some ⟨st.ab, 0, none⟩), .slice p (n + 1 : Nat) d, .bool tail] w fun e w' => ∃ b, e = .returned (.bool b) ∧ ((b = true ∧ SpP c N k st xs r w w') ∨ (b = false ∧ Below w.heap.size w w' ∧ r = allO (rd (st.gl.map (·.x)) k st.sc) (Cp.at_ c (x0 :: xs)))) := by
 have HE := mkC hE
 have HTX := mkC hT
 have HR := mkC hr
 have HNQ := mkC hnq
 have HX := mkC hx
 have HP := mkC hp
 have HN := mkC hN
 have HB := mkC hb
 have hx0 : x0 < c.dn := (hp x0 (by simp)).1
 obtain ⟨m, db, dof, hdp, hmx, hm, hmc⟩ := h.nmAt hx0 (hp x0 (by simp)).2 hs
 have HM := mkC hm
 have HDP := mkC hdp
 have HMX := mkC hmx
 have hdc : n + 1 ≤ d := hx.cap
 have hn0 : (0 : Int) < (n : Int) + 1 := by omega
 have hn3 : n ≤ 3000 := by
  have h1 := len_sum (k := k) (ls := Cp.at_ c xs) (fun l hl => Pcs.ok hp l (List.mem_cons_of_mem _ hl))
  have h2 := hx.len
  rw [show (Cp.at_ c xs).length = xs.length by simp [Cp.at_]] at h1
  simp at h2
  omega
 obtain ⟨g, o, rfl, hg, y0⟩ := hx.at_ (i := 0) (by simp)
 simp only [List.getElem_cons_zero, Nat.add_zero] at y0
 have e0 := (cells10 h.blk).1
 rw [hdp] at e0
 have k2 := hmc w h.bel
 have kc := conv_nm hm (below_drewC h.bel)
 have HB0 : Hid (Below w.heap.size w w.drew.drew) := below_drewC (below_drewC (Below.refl _ _))
 have HPO := mkC (l3primOf_c m w.drew.drew (below_drewC (below_drewC h.bel)) hm)
 have HI := mkC h
 have hdn := h.dn
 obtain ⟨s, hsx⟩ : ∃ s, s = strOfNums m.x := ⟨_, rfl⟩
 rw [← hsx] at kc
 have HSX := mkC hsx
 obtain ⟨mp, mn, mc, mx⟩ := m
 simp only at k2 kc HPO HMX HSX
 have hxl : xs.length = n := by have := hx.len; simpa using this
 have HXL := mkC hxl
 clear hnq h hx hp hE hN hb hs hdp hmc hm hmx hsx hT hr hxl
 go_enter Tryz.func84, Tryz.ntmps84
 go_wp2_with fail
 go_region
 go_upto_region 2 with fail
 go_cut [8] from 25 (fun v wc => wc = w.drew ∧ ∃ (p1 : Option Addr) (d1 : Nat), v = .slice p1 n d1 ∧ Ix st w p1 n d1 xs)
 case first =>
  have HT : Hid (∀ p1, (0 < n → p1 = some ⟨g, o + 1, none⟩) → Ix st w p1 n (d - 1) xs) := fun p1 hp1 => by
   obtain ⟨d', rfl⟩ : ∃ d', d = d' + 1 := ⟨d - 1, by omega⟩
   have h1 := HX.out.tail (p' := p1) hp1
   simpa using h1
  by_cases hd2 : 2 ≤ d
  ·go_wp2_with fail
   go_meet
   exact ⟨rfl, _, _, rfl, HT.out _ (fun _ => rfl)⟩
  ·have hd1 : d - 1 = 0 := by omega
   have hn00 : n = 0 := by omega
   go_wp2_with fail
   go_meet
   refine ⟨rfl, some ⟨g, o, none⟩, 0, by rw [hn00], ?_⟩
   have h1 := HT.out (some ⟨g, o, none⟩) (fun h0 => absurd h0 (by omega))
   rwa [hd1] at h1
 case rest =>
 obtain ⟨hwc, p1, d1, rfl, hx1⟩ := hcut
 subst hwc
 have HX1 := mkC hx1
 clear hx1
 go_upto_region 3 with fail
 go_cut [9] from 27 (fun v w2 => ∃ z : Int, v = .int .i64 z ∧ PoP mx z ∧ Below w.heap.size w w2)
 case first =>
  go_region_law (refine step_callC _ rfl 134 _ _ rfl #[.slice mp mn mc] ?ha (inPrimOf _) (fun v w2 => ∃ z : Int, v = .int .i64 z ∧ PoP mx z ∧ Below w.heap.size w w2) (HPO.out.mono (fun e w2 hh => (by obtain ⟨⟨z, h1, h2⟩, h3⟩ := hh; exact ⟨_, h1, z, rfl, h2, HB0.out.trans h3⟩))) ?_; (case ha => first | (simp [Act.eval]; done) | (simp [Act.eval, Act.put]; done)); rintro v w2 ⟨z, rfl, hh2⟩; have HH2 := mkC hh2; clear hh2)
  all_goals go_wp2_with fail
  all_goals go_meet
  all_goals exact ⟨_, rfl, HH2.out⟩
 case rest =>
 obtain ⟨z, rfl, hpo, hb2⟩ := hcut
 obtain ⟨w2, hw2⟩ : ∃ w2, w2 = wc := ⟨_, rfl⟩
 subst hw2
 have HS2 := mkC (HI.out.stp hb2)
 have HBL2 := mkC hb2
 have HX2 := mkC (HX1.out.step HS2.out.fr)
 clear HPO e0 y0 k2 kc hb2
 have HPX : Hid (Pcs c k xs) := fun x hx => HP.out x (List.mem_cons_of_mem _ hx)
 have HLN : Hid ((Cp.at_ c xs).length = n) := by unfold Hid; rw [← HXL.out]; simp [Cp.at_]
 rcases hpo with ⟨rfl, hpn⟩ | ⟨j, hj, rfl, hpn⟩
 ·have HRW := mkC (HR.out.trans (spc_none (by rw [← HMX.out]; exact hpn)))
  rw [← HMX.out] at HRW
  clear hpn
  by_cases hqQuote : mx = wQuote
  ·have qQuote : (s.toList == [113, 117, 111, 116, 101]) = true := by rw [HSX.out, str_lit HM.out.rg (W := wQuote) (by unfold Rg; decide) (by decide)]; exact decide_eq_true hqQuote
   rw [if_pos hqQuote] at HRW
   have HRN := mkC HRW.out
   have HQM := mkC hqQuote
   clear HRW hqQuote
   by_cases hn1 : n = 1
   ·subst hn1
    exact absurd ⟨by rw [← HMX.out]; exact HQM.out, rfl⟩ HNQ.out
   ·have t1 : ((n : Int) == 1) = false := by simp; omega
    have HNE := mkC hn1
    clear hn1
    have HC := mkC (l5wrong_c tail w2 HS2.out.inv (by have := HN.out; omega))
    go_wp2_with fail
    refine HC.out.mono ?_
    rintro e w3 ⟨⟨u, rfl⟩, hh⟩
    have HF : Hid (SpP c N k st xs r w w3) := by
     unfold Hid
     rw [show r = none from by rw [HRN.out, if_neg (by rw [HLN.out]; exact HNE.out)]]
     exact SpP.pre HS2.out (wrong_sp hh)
    clear hh HC
    go_wp2_with fail
    go_ret
    exact ⟨true, rfl, Or.inl ⟨rfl, HF.out⟩⟩
  have qQuote : (s.toList == [113, 117, 111, 116, 101]) = false := by rw [HSX.out, str_lit HM.out.rg (W := wQuote) (by unfold Rg; decide) (by decide)]; exact decide_eq_false hqQuote
  rw [if_neg hqQuote] at HRW
  clear hqQuote
  by_cases hqIf : mx = wIf
  ·have qIf : (s.toList == [105, 102]) = true := by rw [HSX.out, str_lit HM.out.rg (W := wIf) (by unfold Rg; decide) (by decide)]; exact decide_eq_true hqIf
   rw [if_pos hqIf] at HRW
   have HRN := mkC HRW.out
   clear HRW hqIf
   have HC := mkC (l5if_c HE.out p1 n d1 xs tail w2 r (by rw [HRN.out, HLN.out, HXL.out]) HS2.out.inv HX2.out HPX.out (by have := HN.out; omega) (by have := HB.out; omega))
   go_wp2_with fail
   refine HC.out.mono ?_
   rintro e w3 ⟨⟨u, rfl⟩, hh⟩
   have HF : Hid (SpP c N k st xs r w w3) := by
    unfold Hid
    skip
    exact SpP.pre HS2.out hh
   clear hh HC
   go_wp2_with fail
   go_ret
   exact ⟨true, rfl, Or.inl ⟨rfl, HF.out⟩⟩
  have qIf : (s.toList == [105, 102]) = false := by rw [HSX.out, str_lit HM.out.rg (W := wIf) (by unfold Rg; decide) (by decide)]; exact decide_eq_false hqIf
  rw [if_neg hqIf] at HRW
  clear hqIf
  by_cases hqLambda : mx = wLambda
  ·have qLambda : (s.toList == [108, 97, 109, 98, 100, 97]) = true := by rw [HSX.out, str_lit HM.out.rg (W := wLambda) (by unfold Rg; decide) (by decide)]; exact decide_eq_true hqLambda
   rw [if_pos hqLambda] at HRW
   have HRN := mkC HRW.out
   clear HRW hqLambda
   have HC := mkC (l5lambda_c HE.out p1 n d1 xs tail w2 r HRN.out HS2.out.inv HX2.out HPX.out (by have := HN.out; omega) (by have := HB.out; omega))
   go_wp2_with fail
   refine HC.out.mono ?_
   rintro e w3 ⟨⟨u, rfl⟩, hh⟩
   have HF : Hid (SpP c N k st xs r w w3) := by
    unfold Hid
    skip
    exact SpP.pre HS2.out hh
   clear hh HC
   go_wp2_with fail
   go_ret
   exact ⟨true, rfl, Or.inl ⟨rfl, HF.out⟩⟩
  have qLambda : (s.toList == [108, 97, 109, 98, 100, 97]) = false := by rw [HSX.out, str_lit HM.out.rg (W := wLambda) (by unfold Rg; decide) (by decide)]; exact decide_eq_false hqLambda
  rw [if_neg hqLambda] at HRW
  clear hqLambda
  by_cases hqLet : mx = wLet
  ·have qLet : (s.toList == [108, 101, 116]) = true := by rw [HSX.out, str_lit HM.out.rg (W := wLet) (by unfold Rg; decide) (by decide)]; exact decide_eq_true hqLet
   have qLetrec : (s.toList == [108, 101, 116, 114, 101, 99]) = false := by rw [HSX.out, str_lit HM.out.rg (W := wLetrec) (by unfold Rg; decide) (by decide)]; exact decide_eq_false (fun e => absurd (hqLet.symm.trans e) (by decide))
   rw [if_pos hqLet] at HRW
   have HRN := mkC HRW.out
   clear HRW hqLet
   have HC := mkC (l5let_c HE.out p1 n d1 xs false tail w2 r HRN.out HS2.out.inv HX2.out HPX.out (by have := HN.out; omega) (by have := HB.out; omega))
   go_wp2_with fail
   refine HC.out.mono ?_
   rintro e w3 ⟨⟨u, rfl⟩, hh⟩
   have HF : Hid (SpP c N k st xs r w w3) := by
    unfold Hid
    skip
    exact SpP.pre HS2.out hh
   clear hh HC
   go_wp2_with fail
   go_ret
   exact ⟨true, rfl, Or.inl ⟨rfl, HF.out⟩⟩
  have qLet : (s.toList == [108, 101, 116]) = false := by rw [HSX.out, str_lit HM.out.rg (W := wLet) (by unfold Rg; decide) (by decide)]; exact decide_eq_false hqLet
  rw [if_neg hqLet] at HRW
  clear hqLet
  by_cases hqLetrec : mx = wLetrec
  ·have qLetrec : (s.toList == [108, 101, 116, 114, 101, 99]) = true := by rw [HSX.out, str_lit HM.out.rg (W := wLetrec) (by unfold Rg; decide) (by decide)]; exact decide_eq_true hqLetrec
   rw [if_pos hqLetrec] at HRW
   have HRN := mkC HRW.out
   clear HRW hqLetrec
   have HC := mkC (l5let_c HE.out p1 n d1 xs true tail w2 r HRN.out HS2.out.inv HX2.out HPX.out (by have := HN.out; omega) (by have := HB.out; omega))
   go_wp2_with fail
   refine HC.out.mono ?_
   rintro e w3 ⟨⟨u, rfl⟩, hh⟩
   have HF : Hid (SpP c N k st xs r w w3) := by
    unfold Hid
    skip
    exact SpP.pre HS2.out hh
   clear hh HC
   go_wp2_with fail
   go_ret
   exact ⟨true, rfl, Or.inl ⟨rfl, HF.out⟩⟩
  have qLetrec : (s.toList == [108, 101, 116, 114, 101, 99]) = false := by rw [HSX.out, str_lit HM.out.rg (W := wLetrec) (by unfold Rg; decide) (by decide)]; exact decide_eq_false hqLetrec
  rw [if_neg hqLetrec] at HRW
  clear hqLetrec
  by_cases hqSet : mx = wSet
  ·have qSet : (s.toList == [115, 101, 116, 33]) = true := by rw [HSX.out, str_lit HM.out.rg (W := wSet) (by unfold Rg; decide) (by decide)]; exact decide_eq_true hqSet
   rw [if_pos hqSet] at HRW
   have HRN := mkC HRW.out
   clear HRW hqSet
   have HC := mkC (l5set_c HE.out p1 n d1 xs tail w2 HS2.out.inv HX2.out HPX.out (by have := HN.out; omega) (by have := HB.out; omega))
   go_wp2_with fail
   refine HC.out.mono ?_
   rintro e w3 ⟨⟨u, rfl⟩, hh⟩
   have HF : Hid (SpP c N k st xs r w w3) := by
    unfold Hid
    rw [show r = setR (st.gl.map (·.x)) (rd (st.gl.map (·.x)) k) st.sc (Cp.at_ c xs) from HRN.out]
    exact SpP.pre HS2.out hh
   clear hh HC
   go_wp2_with fail
   go_ret
   exact ⟨true, rfl, Or.inl ⟨rfl, HF.out⟩⟩
  have qSet : (s.toList == [115, 101, 116, 33]) = false := by rw [HSX.out, str_lit HM.out.rg (W := wSet) (by unfold Rg; decide) (by decide)]; exact decide_eq_false hqSet
  rw [if_neg hqSet] at HRW
  clear hqSet
  by_cases hqBegin : mx = wBegin
  ·have qBegin : (s.toList == [98, 101, 103, 105, 110]) = true := by rw [HSX.out, str_lit HM.out.rg (W := wBegin) (by unfold Rg; decide) (by decide)]; exact decide_eq_true hqBegin
   rw [if_pos hqBegin] at HRW
   have HRN := mkC HRW.out
   clear HRW hqBegin
   by_cases hn1 : n = 0
   ·subst hn1
    have HC := mkC (l5wrong_c tail w2 HS2.out.inv (by have := HN.out; omega))
    go_wp2_with fail
    refine HC.out.mono ?_
    rintro e w3 ⟨⟨u, rfl⟩, hh⟩
    have HF : Hid (SpP c N k st xs r w w3) := by
     unfold Hid
     rw [show r = none from by rw [HRN.out, if_pos (List.length_eq_zero_iff.1 HLN.out)]]
     exact SpP.pre HS2.out (wrong_sp hh)
    clear hh HC
    go_wp2_with fail
    go_ret
    exact ⟨true, rfl, Or.inl ⟨rfl, HF.out⟩⟩
   ·have t1 : ((n : Int) == 0) = false := by simp; omega
    have HNE := mkC hn1
    clear hn1
    have HC := mkC (l5body_c HE.out p1 n d1 xs tail w2 HS2.out.inv HX2.out HPX.out (by have := HN.out; omega) (by have := HB.out; omega))
    go_wp2_with fail
    refine HC.out.mono ?_
    rintro e w3 ⟨⟨u, rfl⟩, hh⟩
    have HF : Hid (SpP c N k st xs r w w3) := by
     unfold Hid
     rw [show r = allO (rd (st.gl.map (·.x)) k st.sc) (Cp.at_ c xs) from by rw [HRN.out, if_neg (fun e => HNE.out (by rw [← HLN.out, e]; rfl))]]
     obtain ⟨st3, hs3⟩ := hh
     exact SpP.pre HS2.out hs3.sp
    clear hh HC
    go_wp2_with fail
    go_ret
    exact ⟨true, rfl, Or.inl ⟨rfl, HF.out⟩⟩
  have qBegin : (s.toList == [98, 101, 103, 105, 110]) = false := by rw [HSX.out, str_lit HM.out.rg (W := wBegin) (by unfold Rg; decide) (by decide)]; exact decide_eq_false hqBegin
  rw [if_neg hqBegin] at HRW
  clear hqBegin
  by_cases hqAnd : mx = wAnd
  ·have qAnd : (s.toList == [97, 110, 100]) = true := by rw [HSX.out, str_lit HM.out.rg (W := wAnd) (by unfold Rg; decide) (by decide)]; exact decide_eq_true hqAnd
   rw [if_pos hqAnd] at HRW
   have HRN := mkC HRW.out
   clear HRW hqAnd
   have HC := mkC (l5and_c HE.out p1 n d1 xs tail w2 HS2.out.inv HX2.out HPX.out (by have := HN.out; omega) (by have := HB.out; omega))
   go_wp2_with fail
   refine HC.out.mono ?_
   rintro e w3 ⟨⟨u, rfl⟩, hh⟩
   have HF : Hid (SpP c N k st xs r w w3) := by
    unfold Hid
    rw [show r = allO (rd (st.gl.map (·.x)) k st.sc) (Cp.at_ c xs) from HRN.out]
    exact SpP.pre HS2.out hh
   clear hh HC
   go_wp2_with fail
   go_ret
   exact ⟨true, rfl, Or.inl ⟨rfl, HF.out⟩⟩
  have qAnd : (s.toList == [97, 110, 100]) = false := by rw [HSX.out, str_lit HM.out.rg (W := wAnd) (by unfold Rg; decide) (by decide)]; exact decide_eq_false hqAnd
  rw [if_neg hqAnd] at HRW
  clear hqAnd
  by_cases hqOr : mx = wOr
  ·have qOr : (s.toList == [111, 114]) = true := by rw [HSX.out, str_lit HM.out.rg (W := wOr) (by unfold Rg; decide) (by decide)]; exact decide_eq_true hqOr
   rw [if_pos hqOr] at HRW
   have HRN := mkC HRW.out
   clear HRW hqOr
   have HC := mkC (l5or_c HE.out p1 n d1 xs tail w2 HS2.out.inv HX2.out HPX.out (by have := HN.out; omega) (by have := HB.out; omega))
   go_wp2_with fail
   refine HC.out.mono ?_
   rintro e w3 ⟨⟨u, rfl⟩, hh⟩
   have HF : Hid (SpP c N k st xs r w w3) := by
    unfold Hid
    rw [show r = allO (rd (st.gl.map (·.x)) k st.sc) (Cp.at_ c xs) from HRN.out]
    exact SpP.pre HS2.out hh
   clear hh HC
   go_wp2_with fail
   go_ret
   exact ⟨true, rfl, Or.inl ⟨rfl, HF.out⟩⟩
  have qOr : (s.toList == [111, 114]) = false := by rw [HSX.out, str_lit HM.out.rg (W := wOr) (by unfold Rg; decide) (by decide)]; exact decide_eq_false hqOr
  rw [if_neg hqOr] at HRW
  clear hqOr
  by_cases hqDefine : mx = wDefine
  ·have qDefine : (s.toList == [100, 101, 102, 105, 110, 101]) = true := by rw [HSX.out, str_lit HM.out.rg (W := wDefine) (by unfold Rg; decide) (by decide)]; exact decide_eq_true hqDefine
   rw [if_pos hqDefine] at HRW
   have HRN := mkC HRW.out
   clear HRW hqDefine
   have HC := mkC (l5wrong_c tail w2 HS2.out.inv (by have := HN.out; omega))
   go_wp2_with fail
   refine HC.out.mono ?_
   rintro e w3 ⟨⟨u, rfl⟩, hh⟩
   have HF : Hid (SpP c N k st xs r w w3) := by
    unfold Hid
    rw [show r = none from by rw [HRN.out]]
    exact SpP.pre HS2.out (wrong_sp hh)
   clear hh HC
   go_wp2_with fail
   go_ret
   exact ⟨true, rfl, Or.inl ⟨rfl, HF.out⟩⟩
  have qDefine : (s.toList == [100, 101, 102, 105, 110, 101]) = false := by rw [HSX.out, str_lit HM.out.rg (W := wDefine) (by unfold Rg; decide) (by decide)]; exact decide_eq_false hqDefine
  rw [if_neg hqDefine] at HRW
  clear hqDefine
  go_wp2_with fail
  go_ret
  exact ⟨false, rfl, Or.inr ⟨rfl, HBL2.out, HRW.out⟩⟩
 ·have HRW := mkC (HR.out.trans (spc_prim (by rw [← HMX.out]; exact hpn)))
  have HPR := mkC (l3prim_n j hj w2)
  clear hpn
  go_wp2_with fail
  refine HPR.out.mono ?_
  rintro e w3 ⟨pp, v2, rfl, hb3⟩
  have HS3 := mkC (HS2.out.trans (HS2.out.inv.stp hb3))
  have HX3 := mkC (HX2.out.step (HS2.out.inv.stp hb3).fr)
  generalize primS j = ps
  obtain ⟨ar, har⟩ : ∃ ar, ar = primA j := ⟨_, rfl⟩
  rw [← har] at HRW ⊢
  clear HPR hb3 har
  by_cases hne : ar = n
  ·subst hne
   have HRN : Hid (r = allO (rd (st.gl.map (·.x)) k st.sc) (Cp.at_ c xs)) := by unfold Hid; rw [HRW.out, if_pos HLN.out]
   clear HRW
   cases tail
   ·go_wp2_with fail
    go_loopw [13] (fun iv wr => ∃ i : Nat, i ≤ ar ∧ iv = .int .i64 (i : Nat) ∧ Hid (∃ s1, SqP c N k st w3 (xs.take i) s1 wr)) (fun iv _ => ar - (intOf iv).toNat)
    case atStart => exact ⟨0, Nat.zero_le _, rfl, st, SqP.nil ⟨HS3.out.inv, Fr.refl _ _, Sm.refl _⟩ ⟨rfl, rfl, rfl⟩⟩
    case round =>
     obtain ⟨i, hi, rfl, hV⟩ := hrel
     obtain ⟨s1, hs1⟩ := hV.out
     by_cases hin : i < ar
     ·have hil : i < xs.length := by rw [HXL.out]; exact hin
      have HC := mkC (hs1.next HE.out HPX.out hil (by have := HN.out; omega) (by have := HB.out; omega) false)
      obtain ⟨xg, xo, rfl, hxg, yi⟩ := (HX3.out.step hs1.stp.fr).at_ hil
      have HS1 := mkC hs1
      have HTK := mkC (take_snoc hil)
      generalize xs[i]'hil = x at yi HC HTK
      clear hs1
      go_wp2_with fail
      refine HC.out.mono ?_
      rintro e w4 ⟨⟨u, rfl⟩, hx4⟩
      obtain ⟨s4, hs4, _⟩ := HS1.out.more hx4
      rw [← HTK.out] at hs4
      have HF4 := mkC hs4
      clear hx4 hs4 HC yi
      go_wp2_with fail
      exact ⟨⟨i + 1, by omega, by go_num, s4, HF4.out⟩, by simp [intOf]; omega⟩
     ·have hji : ar = i := by omega
      subst hji
      rw [List.take_of_length_le (by rw [HXL.out]; exact Nat.le_refl _)] at hs1
      have HS1 := mkC hs1
      have HPU := mkC (pushA (ab := st.ab) (s := s1) 14 (j : Nat) 0 (ar : Nat) wr hs1.stp.inv hs1.stp.sm.ab (by have := HN.out; omega))
      clear hs1
      go_wp2_with fail
      refine HPU.out.mono ?_
      rintro e w5 ⟨⟨u, rfl⟩, hm5⟩
      obtain ⟨s5, hs5, hab5, _, _⟩ := HS1.out.emp hm5
      have HS5 := mkC hs5
      have HDO := mkC (doneA (ab := st.ab) false w5 hs5.stp.inv hab5 (by have := HN.out; omega))
      clear hm5 hs5 hab5 HPU
      go_wp2_with fail
      refine HDO.out.mono ?_
      rintro e w6 ⟨⟨u, rfl⟩, hd6⟩
      obtain ⟨s6, hs6, _, _⟩ := HS5.out.dop hd6
      have HF : Hid (SpP c N k st xs r w w6) := by
       unfold Hid
       rw [HRN.out]
       exact ⟨s6, (HS3.out.trans hs6.stp).mono (by omega), hs6.rs, hs6.bo⟩
      clear hd6 hs6 HDO
      go_wp2_with fail
      go_ret
      exact ⟨true, rfl, Or.inl ⟨rfl, HF.out⟩⟩
   ·go_wp2_with fail
    go_loopw [13] (fun iv wr => ∃ i : Nat, i ≤ ar ∧ iv = .int .i64 (i : Nat) ∧ Hid (∃ s1, SqP c N k st w3 (xs.take i) s1 wr)) (fun iv _ => ar - (intOf iv).toNat)
    case atStart => exact ⟨0, Nat.zero_le _, rfl, st, SqP.nil ⟨HS3.out.inv, Fr.refl _ _, Sm.refl _⟩ ⟨rfl, rfl, rfl⟩⟩
    case round =>
     obtain ⟨i, hi, rfl, hV⟩ := hrel
     obtain ⟨s1, hs1⟩ := hV.out
     by_cases hin : i < ar
     ·have hil : i < xs.length := by rw [HXL.out]; exact hin
      have HC := mkC (hs1.next HE.out HPX.out hil (by have := HN.out; omega) (by have := HB.out; omega) false)
      obtain ⟨xg, xo, rfl, hxg, yi⟩ := (HX3.out.step hs1.stp.fr).at_ hil
      have HS1 := mkC hs1
      have HTK := mkC (take_snoc hil)
      generalize xs[i]'hil = x at yi HC HTK
      clear hs1
      go_wp2_with fail
      refine HC.out.mono ?_
      rintro e w4 ⟨⟨u, rfl⟩, hx4⟩
      obtain ⟨s4, hs4, _⟩ := HS1.out.more hx4
      rw [← HTK.out] at hs4
      have HF4 := mkC hs4
      clear hx4 hs4 HC yi
      go_wp2_with fail
      exact ⟨⟨i + 1, by omega, by go_num, s4, HF4.out⟩, by simp [intOf]; omega⟩
     ·have hji : ar = i := by omega
      subst hji
      rw [List.take_of_length_le (by rw [HXL.out]; exact Nat.le_refl _)] at hs1
      have HS1 := mkC hs1
      have HPU := mkC (pushA (ab := st.ab) (s := s1) 14 (j : Nat) 0 (ar : Nat) wr hs1.stp.inv hs1.stp.sm.ab (by have := HN.out; omega))
      clear hs1
      go_wp2_with fail
      refine HPU.out.mono ?_
      rintro e w5 ⟨⟨u, rfl⟩, hm5⟩
      obtain ⟨s5, hs5, hab5, _, _⟩ := HS1.out.emp hm5
      have HS5 := mkC hs5
      have HDO := mkC (doneA (ab := st.ab) true w5 hs5.stp.inv hab5 (by have := HN.out; omega))
      clear hm5 hs5 hab5 HPU
      go_wp2_with fail
      refine HDO.out.mono ?_
      rintro e w6 ⟨⟨u, rfl⟩, hd6⟩
      obtain ⟨s6, hs6, _, _⟩ := HS5.out.dop hd6
      have HF : Hid (SpP c N k st xs r w w6) := by
       unfold Hid
       rw [HRN.out]
       exact ⟨s6, (HS3.out.trans hs6.stp).mono (by omega), hs6.rs, hs6.bo⟩
      clear hd6 hs6 HDO
      go_wp2_with fail
      go_ret
      exact ⟨true, rfl, Or.inl ⟨rfl, HF.out⟩⟩
  ·have t1 : ((ar : Int) == (n : Int)) = false := by simp; omega
   have HRN : Hid (r = none) := by unfold Hid; rw [HRW.out, if_neg (by rw [HLN.out]; exact fun e => hne e.symm)]
   have HC := mkC (l5wrong_c tail w3 HS3.out.inv (by have := HN.out; omega))
   clear hne HRW
   go_wp2_with fail
   refine HC.out.mono ?_
   rintro e w4 ⟨⟨u, rfl⟩, hh⟩
   have HF : Hid (SpP c N k st xs r w w4) := by
    unfold Hid
    rw [HRN.out]
    exact SpP.pre HS3.out (wrong_sp hh)
   clear hh HC
   go_wp2_with fail
   go_ret
   exact ⟨true, rfl, Or.inl ⟨rfl, HF.out⟩⟩
theorem l5special_c {c : Cx} {N k : Nat} {st : St} (hE : ExC c k) (p : Option Addr) (n d x0 : Nat) (xs : List Nat) (tail : Bool) (w : World) (hT : TxB c) (r : Option (List (List Int))) (hr : r = spcR (st.gl.map (·.x)) k (rd (st.gl.map (·.x)) k) st.sc (c.ds.drop x0) (Cp.at_ c xs)) (h : Inv c N w st) (hx : Ix st w p (n + 1) d (x0 :: xs)) (hp : Pcs c k (x0 :: xs)) (hs : isSy (c.ds.drop x0) = true) (hN : N + sumB k (Cp.at_ c xs) + 9000 ≤ 1000000000) (hb : st.bo + sumS k (Cp.at_ c xs) ≤ 3000) :
  Calls Tryz.prog 84 #[.pointer (some ⟨st.ab, 0, none⟩), .slice p (n + 1 : Nat) d, .bool tail] w fun e w' => ∃ b, e = .returned (.bool b) ∧ ((b = true ∧ SpP c N k st xs r w w') ∨ (b = false ∧ Below w.heap.size w w' ∧ r = allO (rd (st.gl.map (·.x)) k st.sc) (Cp.at_ c (x0 :: xs)))) := by
 by_cases hq : nm (c.ds.drop x0) = wQuote ∧ n = 1
 ·obtain ⟨hq, rfl⟩ := hq
  obtain ⟨x1, rfl⟩ : ∃ x1, xs = [x1] := by
   have := hx.len
   rcases xs with _ | ⟨a, _ | ⟨b, t⟩⟩
   ·simp at this
   ·exact ⟨a, rfl⟩
   ·simp at this
  exact l5spq_c hE p d x0 x1 tail w hT r hr h hx hp hs hq hN hb
 ·exact l5spx_c hE p n d x0 xs tail w hT r hr h hx hp hs hq hN hb
end Cp
end Go.Proofs.YtnnpfoilojicjaaGreatDoor
