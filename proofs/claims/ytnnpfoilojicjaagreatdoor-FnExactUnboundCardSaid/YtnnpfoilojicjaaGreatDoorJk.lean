import Derived.Test.YtnnpfoilojicjaaGreatDoorJy
import Derived.Test.YtnnpfoilojicjaaGreatDoorJm
namespace Go.Proofs.YtnnpfoilojicjaaGreatDoor
open Go.RowKit Ch1
namespace Cp
attribute [local go_sem] run_store_fn
theorem set_vr {w : World} {k : Nat} {a0 a1 a2 a3 : Value} {t : TypeId} (e : w.heap[k]? = some (.cells #[a0, a1, a2, a3] t)) (v : Value) : (w.setCell ⟨k, 3, none⟩ v).heap[k]? = some (.cells #[a0, a1, a2, v] t) := by
 simp [World.setCell, Array.getElem?_modify, e]
theorem BdI.box {c : Cx} {N B : Nat} {w : World} {s : Sg} {v : Value} {bs : List Pv} {u : Pv} (h : BdI B w v bs) (hu : u ∈ bs) (hi : PgI c N w s) (hg : ∀ u ∈ s.gls ++ s.sc, u.b < B) (hB : c.w0.heap.size ≤ B) : BdI B (w.setCell ⟨u.b, 3, none⟩ (.bool true)) v bs ∧ PgI c N (w.setCell ⟨u.b, 3, none⟩ (.bool true)) s ∧ ∀ {j : Nat} {cur : Array Value} {t : TypeId}, w.heap[j]? = some (Obj.cells cur t) → t ≠ 175 → (w.setCell ⟨u.b, 3, none⟩ (.bool true)).heap[j]? = some (Obj.cells cur t) := by
 obtain ⟨⟨m, g, bx, h1⟩, h2, _⟩ := h.vrs u hu
 have hkp : ∀ {j : Nat} {cur : Array Value} {t : TypeId}, w.heap[j]? = some (Obj.cells cur t) → t ≠ 175 → (w.setCell ⟨u.b, 3, none⟩ (.bool true)).heap[j]? = some (Obj.cells cur t) := fun {j cur t} hj ht => (set_keep _ (fun e => by
  subst e
  rw [h1] at hj
  cases hj
  exact ht rfl)).trans hj
 refine ⟨⟨owns_of_heap h.row (fun j hj => ?_), fun z hz => ⟨?_, (h.vrs z hz).2⟩⟩, ?_, hkp⟩
 ·obtain ⟨_, cur, hc⟩ := owns_lt h.row j hj
  rw [hc]
  exact hkp hc (by decide)
 ·obtain ⟨⟨m2, g2, bx2, h3⟩, _⟩ := h.vrs z hz
  by_cases e : z.b = u.b
  ·rw [e] at h3
   refine ⟨m2, g2, true, ?_⟩
   rw [e]
   exact set_vr h3 _
  ·exact ⟨m2, g2, bx2, (set_keep _ e).trans h3⟩
 ·refine hi.same (Below.setCell (Below.refl _ _) (p := ⟨u.b, 3, none⟩) (Nat.le_trans hB h2) _) (fun k _ hk => set_keep _ (fun e => ?_))
  subst e
  rcases hk with hk | hk
  ·have row : ∀ {n size : Nat} {e : TypeId} {v : Value} {xs : List Value}, w.ownsRow c.w0.heap.size e size v n xs → v.ownBlock = some u.b → 175 ≠ e → False := fun ho hk ht => by
    obtain ⟨_, cur2, q⟩ := owns_lt ho u.b hk
    rw [h1] at q
    cases q
    exact ht rfl
   rcases hk with hk | hk | hk | hk | hk | ⟨z, hz, hk⟩
   ·have := hi.blk
    rw [← hk, h1] at this
    cases this
   ·obtain ⟨es, clk, q, _⟩ := hi.glo
    rw [← hk, h1] at q
    cases q
   ·exact row hi.sco hk (by decide)
   ·exact row hi.ubo hk (by decide)
   ·exact row hi.fmo hk (by decide)
   ·have := hg z hz
    omega
  ·exact hi.wm_ne h1 hk
structure LrB (c : Cx) (M B : Nat) (s : Sg) (v : Value) (bs : List Pv) (w wr : World) : Prop where
 bd : BdI B wr v bs
 pg : PgI c M wr s
 size : wr.heap.size = w.heap.size
 bel : Below B w wr
 kp : ∀ (j : Nat) (cur : Array Value) (t : TypeId), w.heap[j]? = some (Obj.cells cur t) → t ≠ 175 → wr.heap[j]? = some (Obj.cells cur t)
theorem LrB.step {c : Cx} {M B : Nat} {s : Sg} {v : Value} {bs : List Pv} {w wr : World} {u : Pv} (h : LrB c M B s v bs w wr) (hu : u ∈ bs) (hg : ∀ u ∈ s.gls ++ s.sc, u.b < B) (hB : c.w0.heap.size ≤ B) : LrB c M B s v bs w (wr.setCell ⟨u.b, 3, none⟩ (.bool true)) := by
 obtain ⟨h1, h2, h3⟩ := h.bd.box hu h.pg hg hB
 exact ⟨h1, h2, by rw [set_size]; exact h.size, h.bel.setCell (p := ⟨u.b, 3, none⟩) (h.bd.vrs u hu).2.1 _, fun j cur t hj ht => h3 (h.kp j cur t hj ht) ht⟩
set_option maxRecDepth 20000 in
set_option maxHeartbeats 4000000 in
theorem letrec_c {c : Cx} {db dof k : Nat} (hx : PgX c db dof) (hE : ExpC c db dof k) (S : Nat → Prop) (s : Sg) (N : Nat) (w : World) (p : Option Addr) (n cc : Nat) (es : List Pe) (h : PgI c N w s) (hes : EsR c db dof S k w p n cc es) (hn3 : n ≤ 3000) (hN : N + sumB k (Cp.at_ c (es.map (·.1))) ≤ 1000000000) :
  Calls Tryz.prog 53 #[.pointer (some ⟨s.pb, 0, none⟩), .slice p n cc] w fun r w' => RdQ c (N + sumB k (Cp.at_ c (es.map (·.1)))) s (letR k (rd (s.gls.map (·.x)) k) (s.sc.map (·.x)) true (Cp.at_ c (es.map (·.1)))) w w' r (fun u _ => MkV u) := by
 obtain ⟨W0, hW0⟩ : ∃ W0, W0 = (w.alloc (.cells #[.pointer (some ⟨s.pb, 0, none⟩)] 49)).alloc (.cells #[.slice p n cc] 71) := ⟨_, rfl⟩
 have hb0 : Below w.heap.size w W0 := by rw [hW0]; exact below2 _ _ _
 have hI0 := h.below hb0
 have hes0 := hes.below hb0
 obtain ⟨o, ho⟩ : ∃ o, o = letR k (rd (s.gls.map (·.x)) k) (s.sc.map (·.x)) true (Cp.at_ c (es.map (·.1))) := ⟨_, rfl⟩
 obtain ⟨NN, hNN⟩ : ∃ NN, NN = N + sumB k (Cp.at_ c (es.map (·.1))) := ⟨_, rfl⟩
 have bx := boxes2 (w1 := W0) (by rw [← hW0]; exact Below.refl _ _)
 have HBI : Hid (Calls Tryz.prog 106 #[.pointer (some ⟨s.pb, 0, none⟩), .slice p n cc] W0 fun r w' => (∃ bp bn bc vp vn vc, r = .returned (.tuple #[.slice bp bn bc, .slice vp vn vc]) ∧ ∃ a b vs, Cp.at_ c (es.map (·.1)) = a :: b ∧ BnQ c (N + (kidsOf k a).length) W0.heap.size s (nmsOf (frs k a)) W0 w' (.slice bp bn bc) ∧ EsR c db dof S k w' vp vn vc vs ∧ Cp.at_ c (vs.map (·.1)) = scs k a ∧ isLs a = true ∧ (kidsOf k a).all isPr = true ∧ vn ≤ 3000) ∨ (r = gramE ∧ Below c.w0.heap.size c.w0 w' ∧ o = none)) := by
  refine (bindings_c hx S s N W0 p n cc es hI0.1 hes0 hn3 hN).mono ?_
  rintro r w' (⟨v, a, b, h1, rfl, bp, bn, bc, vp, vn, vc, vs, rfl, h2⟩ | ⟨rfl, h1, h2⟩)
  ·exact Or.inl ⟨bp, bn, bc, vp, vn, vc, rfl, a, b, vs, h1, h2⟩
  ·exact Or.inr ⟨rfl, h1, ho.trans (h2 _ _ _)⟩
 have HEX : Hid (∀ w1 bp bn bc vp vn vc a b vs, Cp.at_ c (es.map (·.1)) = a :: b → BnQ c (N + (kidsOf k a).length) W0.heap.size s (nmsOf (frs k a)) W0 w1 (.slice bp bn bc) → EsR c db dof S k w1 vp vn vc vs → Cp.at_ c (vs.map (·.1)) = scs k a → isLs a = true → (kidsOf k a).all isPr = true → vn ≤ 3000 → ∃ (M : Nat) (bs : List Pv) (s' : Sg), bs.length = bn ∧ bn ≤ 3000 ∧ (∀ u ∈ s'.gls ++ s'.sc, u.b < W0.heap.size) ∧ c.w0.heap.size ≤ W0.heap.size ∧ LrB c M W0.heap.size s' (.slice bp bn bc) bs ((w1.alloc (.cells #[.slice bp bn bc] 56)).alloc (.cells #[.slice vp vn vc] 71)) ((w1.alloc (.cells #[.slice bp bn bc] 56)).alloc (.cells #[.slice vp vn vc] 71)) ∧ ∀ wr, LrB c M W0.heap.size s' (.slice bp bn bc) bs ((w1.alloc (.cells #[.slice bp bn bc] 56)).alloc (.cells #[.slice vp vn vc] 71)) wr → (wr.cell? ⟨w.heap.size, 0, none⟩ = some (.pointer (some ⟨s.pb, 0, none⟩)) ∧ w.heap.size < wr.heap.size ∧ w1.heap.size < wr.heap.size ∧ wr.cell? ⟨w1.heap.size, 0, none⟩ = some (.slice bp bn bc)) ∧ Calls Tryz.prog 99 #[.pointer (some ⟨s.pb, 0, none⟩), .slice bp bn bc, .func (.func 112) #[] #[.pointer (some ⟨w.heap.size, 0, none⟩), .pointer (some ⟨w1.heap.size + 1, 0, none⟩), .pointer (some ⟨wr.heap.size, 0, none⟩), .pointer (some ⟨w.heap.size + 1, 0, none⟩), .pointer (some ⟨wr.heap.size + 1, 0, none⟩)]] ((wr.alloc (.cells #[.slice none 0 0] 150)).alloc (.cells #[.nilFunc] 109)) (fun r w' => OuQ c NN s o w w' r (fun u _ => MkV u))) := by
  intro w1 bp bn bc vp vn vc a b vs hab hbn hvs hva hls hpr hv3
  obtain ⟨_, _, _, bs, s', hv, hbl, hbd, hnms, hpg, hfr, hsm, hub⟩ := hbn
  cases hv
  have hold := h.olds
  obtain ⟨e, es', rfl⟩ : ∃ e es', es = e :: es' := by
   cases es with
   | nil => cases hab
   | cons e es' => exact ⟨e, es', rfl⟩
  have hbE : b = Cp.at_ c (es'.map (·.1)) := (List.cons.inj hab).2.symm
  have haE : a = c.ds.drop e.1 := (List.cons.inj hab).1.symm
  obtain ⟨m, rfl⟩ : ∃ m, n = m + 1 := ⟨es'.length, by have := hes.1; simpa using this.symm⟩
  have hpte := hes.2.2.2 e (List.mem_cons_self ..)
  have hokA : Ok k a := by rw [haE]; exact hpte.ok.2.1
  have hbudA := scs_bud hokA hls hpr
  have hsum : sumB k (Cp.at_ c ((e :: es').map (·.1))) = bud k a + 10 + sumB k b := by rw [hab]; rfl
  have a0 := hfr.keepB hI0.1 bx.1 (by decide) (by decide) (by decide) (by decide) (by decide)
  have a1 := hfr.keepB hI0.1 bx.2 (by decide) (by decide) (by decide) (by decide) (by decide)
  have hb2 := below2 w1 (.cells #[.slice bp bn bc] 56) (.cells #[.slice vp vn vc] 71)
  have q12 := boxes2 (w := w1) (a := .slice bp bn bc) (b := .slice vp vn vc) (t := 56) (u := 71) (Below.refl _ _)
  have a0' := (hb2.block _ (Array.getElem?_eq_some_iff.1 a0).1).trans a0
  have a1' := (hb2.block _ (Array.getElem?_eq_some_iff.1 a1).1).trans a1
  obtain ⟨W2, hW2⟩ : ∃ W2, W2 = (w1.alloc (.cells #[.slice bp bn bc] 56)).alloc (.cells #[.slice vp vn vc] 71) := ⟨_, rfl⟩
  rw [← hW2] at hb2 q12 a0' a1' ⊢
  have hp2 := hpg.below hb2
  have hkl : bn = (kidsOf k a).length := by
   have q := nms_len hnms
   rw [List.length_map, hbl] at q
   rw [q]
   simp [frs]
  have hkl3 : bn ≤ 3000 := by
   have q1 := kids_lt hokA
   have q2 := hpte.sz_le hx
   rw [← haE] at q2
   omega
  have hgs : ∀ u ∈ s'.gls ++ s'.sc, u.b < W0.heap.size := by rw [hsm.gls, hsm.sc]; exact fun u hu => Nat.lt_of_lt_of_le (hold.1 u hu) hb0.size
  have hes2 := (hes0.frp hI0.1 hfr).below hb2
  have hvs2 := hvs.below hb2
  have hoE : o = Cp.cat (allO (rd (s.gls.map (·.x)) k (s.sc.map (·.x) ++ bs.map (·.x))) (scs k a)) (if b = [] then none else allO (rd (s.gls.map (·.x)) k (s.sc.map (·.x) ++ bs.map (·.x))) b) := by
   rw [ho, hab, letQ_eq hls hpr]
   show (nmsOf (frs k a)).bind _ = _
   rw [hnms]
   rfl
  have hW2s : W0.heap.size ≤ W2.heap.size := Nat.le_trans hfr.size hb2.size
  refine ⟨N + (kidsOf k a).length, bs, s', hbl, hkl3, hgs, Nat.le_trans h.bel.size hb0.size, ⟨hbd.below hb2, hp2.1, rfl, Below.refl _ _, fun _ _ _ hj _ => hj⟩, fun wr hL => ?_⟩
  have d0 := hL.kp _ _ _ a0' (by decide)
  have d1 := hL.kp _ _ _ a1' (by decide)
  have dB := hL.kp _ _ _ q12.1 (by decide)
  have dV := hL.kp _ _ _ q12.2 (by decide)
  refine ⟨⟨(cells1 d0).1, (Array.getElem?_eq_some_iff.1 d0).1, (Array.getElem?_eq_some_iff.1 dB).1, (cells1 dB).1⟩, ?_⟩
  have hb3 := below2 wr (.cells #[.slice none 0 0] 150) (.cells #[.nilFunc] 109)
  have q34 := boxes2 (w := wr) (a := .slice none 0 0) (b := .nilFunc) (t := 150) (u := 109) (Below.refl _ _)
  obtain ⟨W3, hW3⟩ : ∃ W3, W3 = (wr.alloc (.cells #[.slice none 0 0] 150)).alloc (.cells #[.nilFunc] 109) := ⟨_, rfl⟩
  rw [← hW3] at hb3 q34 ⊢
  have hp3 := hL.pg.below hb3
  have hbd3 := hL.bd.below hb3
  have hes3 := (hes2.of (w' := wr) (fun j cur hj => (hL.kp _ _ _ hj (by decide)).trans hj.symm)).below hb3
  have hvs3 := (hvs2.of (w' := wr) (fun j cur hj => (hL.kp _ _ _ hj (by decide)).trans hj.symm)).below hb3
  have hf2 : FrP s s' w W2 := (hI0.2.trans hfr).trans hp2.2
  have hfr_ : FrP s s' w wr := ⟨by rw [hL.size]; exact hf2.size, fun j hj hn => (hL.bel.block j (Nat.lt_of_lt_of_le hj hb0.size)).trans (hf2.keep j hj hn), hf2.foot⟩
  have hfull : FrP s s' w W3 := hfr_.trans hp3.2
  have hwrs : w.heap.size ≤ wr.heap.size := hfr_.size
  have hsc := inScopeR_c (c := c) (N := N + (kidsOf k a).length) (M := N + (kidsOf k a).length + bn + sumB k (Cp.at_ c (vs.map (·.1))) + sumB k (Cp.at_ c (es'.map (·.1)))) (s := s') W3 bp bn bc bs W0.heap.size w.heap.size (w1.heap.size + 1) wr.heap.size (w.heap.size + 1) (wr.heap.size + 1) o (fun j => j = wr.heap.size ∨ j = wr.heap.size + 1) hp3.1 hbd3 hbl (Nat.le_trans h.bel.size hb0.size) (by omega) (fun j hj e' => by
   rw [hsm.scv] at e'
   have := hold.2 j e'
   omega) (fun W s1 f1 f2 f3 f4 f5 f6 => by
    have kb : ∀ {j : Nat} {cur : Array Value} {t : TypeId}, W3.heap[j]? = some (Obj.cells cur t) → t ≠ 59 → t ≠ 107 → t ≠ 9 → t ≠ 111 → t ≠ 175 → W.heap[j]? = some (Obj.cells cur t) := fun {j cur t} hj r1 r2 r3 r4 r5 => f2.keepB hp3.1 (fun v hv => (hbd3.vrs v hv).1) hj r1 r2 r3 r4 r5
    have up : ∀ {j : Nat} {cur : Array Value} {t : TypeId}, wr.heap[j]? = some (Obj.cells cur t) → W3.heap[j]? = some (Obj.cells cur t) := fun {j cur t} hj => (hb3.block j (Array.getElem?_eq_some_iff.1 hj).1).trans hj
    have hesW := hes3.of (w' := W) (fun j cur hj => (kb hj (by decide) (by decide) (by decide) (by decide) (by decide)).trans hj.symm)
    have hvsW := hvs3.of (w' := W) (fun j cur hj => (kb hj (by decide) (by decide) (by decide) (by decide) (by decide)).trans hj.symm)
    have q := innerR_c hE S s1 (N + (kidsOf k a).length + bn) W p m cc w.heap.size (w1.heap.size + 1) wr.heap.size (w.heap.size + 1) (wr.heap.size + 1) e es' vp vn vc vs .nilFunc (.slice none 0 0) f1 hesW hvsW (by omega) hv3 (by rw [← hbE, hva]; omega) (by rw [f3, hsm.pb]; exact kb (up d0) (by decide) (by decide) (by decide) (by decide) (by decide)) (kb (up dV) (by decide) (by decide) (by decide) (by decide) (by decide)) (kb q34.1 (by decide) (by decide) (by decide) (by decide) (by decide)) (kb (up d1) (by decide) (by decide) (by decide) (by decide) (by decide)) (kb q34.2 (by decide) (by decide) (by decide) (by decide) (by decide)) (by have := h.bel.size; omega) (by have := h.bel.size; omega)
    have e2 : o = Cp.cat (allO (rd (s1.gls.map (·.x)) k (s1.sc.map (·.x))) (Cp.at_ c (vs.map (·.1)))) (if es' = [] then none else allO (rd (s1.gls.map (·.x)) k (s1.sc.map (·.x))) (Cp.at_ c (es'.map (·.1)))) := by
     rw [hoE, hbE, f4, f5, hsm.gls, hsm.sc, List.map_append, hva]
     simp only [at_nil]
    rw [e2]
    exact q)
  rw [hsm.pb] at hsc
  refine hsc.mono (fun r w' hr => ?_)
  exact RdX.out_ (M := NN) (A := fun u _ => MkV u) hr hfull hsm hub (fun j hj => by
   rcases hj with ⟨v, hv, rfl⟩ | rfl | rfl
   ·exact Nat.le_trans hb0.size (hbd.vrs v hv).2.1
   ·exact hwrs
   ·omega) (by rw [hNN, hsum, ← hbE, hva, hkl]; omega)
 rw [← ho, ← hNN]
 have HW0 := mkC hW0
 have z0 := (cells1 bx.1).1
 have z1 := (cells1 bx.2).1
 have hzl : w.heap.size + 1 < W0.heap.size := (Array.getElem?_eq_some_iff.1 bx.2).1
 clear h hes hE hN hb0 hI0 hes0 ho hNN bx hW0
 go_enter Tryz.func53, Tryz.ntmps53
 go_upto_region 1 with fail
 rw [← HW0.out]
 go_wp2_with fail
 refine HBI.out.mono ?_
 rintro r w1 (⟨bp, bn, bc, vp, vn, vc, rfl, a, b, vs, h1, h2, h3, h4, h5, h6, h7⟩ | ⟨rfl, h1, h2⟩)
 ·obtain ⟨M, bs, s', hbl, hbn3, hgs, hcW, hL0, hfin⟩ := HEX.out w1 bp bn bc vp vn vc a b vs h1 h2 h3 h4 h5 h6 h7
  have HGS := mkC hgs
  have HL0 := mkC hL0
  have HFIN := mkC hfin
  have HBL := mkC hbl
  clear h1 h2 h3 h4 h5 h6 h7 HBI HEX z0 z1 hgs hL0 hfin hbl
  go_upto_region 2 with fail
  obtain ⟨W2, hW2⟩ : ∃ W2, W2 = (w1.alloc (.cells #[.slice bp bn bc] 56)).alloc (.cells #[.slice vp vn vc] 71) := ⟨_, rfl⟩
  rw [← hW2] at HL0 HFIN ⊢
  have yb := (HFIN.out W2 HL0.out).1.2.2.2
  clear hW2
  go_wp2_with fail
  go_loopw [19] (fun iv wr => ∃ i : Nat, i ≤ bn ∧ iv = .int .i64 (i : Nat) ∧ Hid (LrB c M W0.heap.size s' (.slice bp bn bc) bs W2 wr)) (fun iv _ => bn - (intOf iv).toNat)
  case atStart => exact ⟨0, Nat.zero_le _, rfl, HL0.out⟩
  case round =>
   obtain ⟨i, hi, rfl, hL⟩ := hrel
   by_cases hlt : i < bn
   ·have hil : i < bs.length := by rw [HBL.out]; exact hlt
    obtain ⟨hvr, hbc⟩ := hL.out.bd.vsr HBL.out
    obtain ⟨g, rfl, hg, hcl⟩ := hvr.2.1 (by omega)
    have x0 := hcl i hil
    obtain ⟨⟨vm, vg, vbx, hvb⟩, _⟩ := hL.out.bd.vrs _ (List.getElem_mem hil)
    have HST := mkC (hL.out.step (List.getElem_mem hil) HGS.out hcW)
    generalize (bs[i]'hil).b = vb at x0 hvb HST
    have x3 : wr.cell? ⟨vb, 3, none⟩ = some (.bool vbx) := by simp [World.cell?, hvb]
    have xf : wr.frozen? ⟨vb, 3, none⟩ = false := by simp [World.frozen?, hvb]
    clear hvr hcl hvb
    go_wp2_with fail
    exact ⟨⟨i + 1, by omega, by go_num, HST.out⟩, by simp [intOf]; omega⟩
   ·obtain ⟨⟨q0, q1, q2, q3⟩, hsc⟩ := HFIN.out wr hL.out
    have HC := mkC hsc
    clear hsc HFIN
    go_wp2_with fail
    refine HC.out.mono ?_
    intro r w5 hr
    cases o with
    | none =>
     obtain ⟨rfl, hb5⟩ := hr
     exact ⟨rfl, rfl, hb5⟩
    | some ns =>
     obtain ⟨⟨u2, rfl⟩, hfin⟩ := hr
     have HF := mkC hfin
     clear hfin
     go_wp2_with fail
     go_ret
     exact HF.out _ ⟨_, _, _, rfl⟩
 ·refine ⟨rfl, ?_⟩
  rw [h2]
  exact ⟨rfl, h1⟩
attribute [local go_sem] run_store_fn
theorem PgI.setBx {c : Cx} {N vb : Nat} {w : World} {s : Sg} {st : ByteArray} {m : Int} {g bx : Bool} (h : PgI c N w s) (hb : w.heap[vb]? = some (.cells #[.string st, .int .i64 m, .bool g, .bool bx] 175)) (hc0 : c.w0.heap.size ≤ vb) (x : Bool) : PgI c N (w.setCell ⟨vb, 3, none⟩ (.bool x)) s := by
 have hob : ∀ {k : Nat} {o : Obj}, w.heap[k]? = some o → (∀ a, o ≠ .cells a 175) → (w.setCell ⟨vb, 3, none⟩ (.bool x)).heap[k]? = some o := fun {k o} hk h1 => (set_keep _ (fun e => by
  subst e
  rw [hb] at hk
  exact h1 _ (Option.some.inj hk).symm)).trans hk
 have row : ∀ {n size : Nat} {e : TypeId} {v : Value} {xs : List Value}, w.ownsRow c.w0.heap.size e size v n xs → e ≠ 175 → (w.setCell ⟨vb, 3, none⟩ (.bool x)).ownsRow c.w0.heap.size e size v n xs := fun hr hp => owns_of_heap hr (fun j hj => by
  obtain ⟨_, cur, hc⟩ := owns_lt hr j hj
  rw [hc]
  exact hob hc (fun a e => by cases e; exact hp rfl))
 refine ⟨h.bel.trans (Below.setCell (Below.refl _ _) (p := ⟨vb, 3, none⟩) hc0 _), h.pb0, hob h.blk (fun a e => by cases e), ?_, ?_, h.gm0, h.nd, fun v hv => ⟨?_, (h.vrs v hv).2⟩, row h.sco (by decide), row h.ubo (by decide), h.ubr, row h.fmo (by decide), h.len⟩
 ·obtain ⟨es, clk, h1, h2⟩ := h.wor
  exact ⟨es, clk, hob h1 (fun a e => by cases e), h2⟩
 ·obtain ⟨es, clk, h1, h2⟩ := h.glo
  exact ⟨es, clk, hob h1 (fun a e => by cases e), h2⟩
 ·obtain ⟨n2, g2, bx2, h1⟩ := (h.vrs v hv).1
  by_cases e : v.b = vb
  ·rw [e] at h1
   refine ⟨n2, g2, x, ?_⟩
   rw [e]
   exact set_vr h1 _
  ·exact ⟨n2, g2, bx2, (set_keep _ e).trans h1⟩
theorem RdQ.belowM {c : Cx} {N : Nat} {s : Sg} {o : Option (List (List Int))} {w w1 w2 : World} {u : Value} (h : RdQ c N s o w w1 (.returned u) (fun u _ => MkV u)) (hb : Below w1.heap.size w1 w2) : RdQ c N s o w w2 (.returned u) (fun u _ => MkV u) := by
 cases o with
 | none =>
  obtain ⟨h1, _⟩ := h
  unfold gramE at h1
  cases h1
 | some ns =>
  obtain ⟨u', s', e, hA, h1, h2, h3, h4⟩ := h
  cases e
  exact RdQ.then_ ⟨h1, h2, h3, h4⟩ hb hA
theorem RdQ.mono {c : Cx} {N M : Nat} {s : Sg} {o : Option (List (List Int))} {w w' : World} {r : Ending} {A : Value → World → Prop} (h : RdQ c N s o w w' r A) (hN : N ≤ M) : RdQ c M s o w w' r A := by
 cases o with
 | none => exact h
 | some ns =>
  obtain ⟨u, s', h1, h2, h3, h4⟩ := h
  exact ⟨u, s', h1, h2, h3.mono hN, h4⟩
theorem setR_end {c : Cx} {N N1 M vb : Nat} {s s1 s2 : Sg} {w w1 w2 w3 w4 : World} {ns1 ns2 : List (List Int)} (h0 : PgI c N w s) (f1 : FrP s s1 w w1) (m1 : SmP s s1) (u1 : s1.ub = s.ub ++ ns1) (p1 : PgI c N1 w1 s1) (hv : (∃ v ∈ s.gls ++ s.sc, vb = v.b) ∨ (w.heap.size ≤ vb ∧ ¬ Fq s1 vb ∧ ∃ (st : ByteArray) (n : Int) (g bx : Bool), w1.heap[vb]? = some (.cells #[.string st, .int .i64 n, .bool g, .bool bx] 175)))
  (b2 : Below w1.heap.size w1 w2) (f3 : FrP s1 s2 w2 w3) (m3 : SmP s1 s2) (u3 : s2.ub = s1.ub ++ ns2) (p3 : PgI c M w3 s2) (b4 : Below w3.heap.size w3 w4) :
  ∃ (st : ByteArray) (n : Int) (g bx : Bool), w4.heap[vb]? = some (.cells #[.string st, .int .i64 n, .bool g, .bool bx] 175) ∧ ∀ x u, MkV u → RdQ c M s (some (ns1 ++ ns2)) w (w4.setCell ⟨vb, 3, none⟩ (.bool x)) (.returned u) (fun u _ => MkV u) := by
 have p2 := p1.below b2
 have p4 := p3.below b4
 have f : FrP s s2 w w4 := ((f1.trans p2.2).trans f3).trans p4.2
 have hm := m1.trans m3
 have hblk : ∃ (st : ByteArray) (n : Int) (g bx : Bool), w4.heap[vb]? = some (.cells #[.string st, .int .i64 n, .bool g, .bool bx] 175) := by
  rcases hv with ⟨v, hv, rfl⟩ | ⟨hge, hnf, st, n, g, bx, hb⟩
  ·rw [← hm.gls, ← hm.sc] at hv
   obtain ⟨n, g, bx, hb⟩ := (p4.1.vrs v hv).1
   exact ⟨_, n, g, bx, hb⟩
  ·have hlt := (Array.getElem?_eq_some_iff.1 hb).1
   have e2 := (b2.block _ hlt).trans hb
   have e3 := (f3.keep _ (Array.getElem?_eq_some_iff.1 e2).1 hnf).trans e2
   exact ⟨st, n, g, bx, (b4.block _ (Array.getElem?_eq_some_iff.1 e3).1).trans e3⟩
 obtain ⟨st, n, g, bx, hb⟩ := hblk
 have hc0 : c.w0.heap.size ≤ vb := by
  rcases hv with ⟨v, hv, rfl⟩ | ⟨hge, _⟩
  ·exact (h0.vrs v hv).2.1
  ·exact Nat.le_trans h0.bel.size hge
 refine ⟨st, n, g, bx, hb, fun x u hu => ⟨u, s2, rfl, hu, p4.1.setBx hb hc0 x, ⟨by rw [set_size]; exact f.size, fun k hk hn => (set_keep _ (fun e => ?_)).trans (f.keep k hk hn), f.foot⟩, hm, by rw [u3, u1, List.append_assoc]⟩⟩
 subst e
 rcases hv with ⟨v, hv, e⟩ | ⟨hge, _⟩
 ·exact hn (Or.inr (Or.inr (Or.inr (Or.inr (Or.inr ⟨v, hv, e⟩)))))
 ·omega
set_option maxRecDepth 20000 in
set_option maxHeartbeats 4000000 in
theorem assignment_c {c : Cx} {db dof k : Nat} (hx : PgX c db dof) (hE : ExpC c db dof k) (S : Nat → Prop) (s : Sg) (N : Nat) (w : World) (p : Option Addr) (n cc : Nat) (es : List Pe) (h : PgI c N w s) (hes : EsR c db dof S k w p n cc es) (hN : N + sumB k (Cp.at_ c (es.map (·.1))) ≤ 1000000000) :
  Calls Tryz.prog 54 #[.pointer (some ⟨s.pb, 0, none⟩), .slice p n cc] w fun r w' => RdQ c (N + sumB k (Cp.at_ c (es.map (·.1)))) s (setR (s.gls.map (·.x)) (rd (s.gls.map (·.x)) k) (s.sc.map (·.x)) (Cp.at_ c (es.map (·.1)))) w w' r (fun u _ => MkV u) := by
 have HI := mkC h
 have hl := hes.1
 by_cases hn : n = 2
 ·subst hn
  obtain ⟨e0, e1, rfl⟩ : ∃ e0 e1, es = [e0, e1] := by
   match es, hl with
   | [e0, e1], _ => exact ⟨e0, e1, rfl⟩
  obtain ⟨g, o, cur, rfl, hg, hcl⟩ := hes.2.2.1 (by omega)
  obtain ⟨v00, v01⟩ := hcl 0 (by simp)
  obtain ⟨v10, v11⟩ := hcl 1 (by simp)
  have hgl := (Array.getElem?_eq_some_iff.1 hg).1
  have hcc := hes.2.1
  have hp0 := hes.2.2.2 e0 (by simp)
  have hp1 := hes.2.2.2 e1 (by simp)
  obtain ⟨s0, n0, c0, hd0⟩ : ∃ so sn sc, e0.2.1 = .slice (some ⟨db, so, none⟩) sn sc := ⟨_, _, _, hp0.ok.1⟩
  obtain ⟨s1, n1, c1, hd1⟩ : ∃ so sn sc, e1.2.1 = .slice (some ⟨db, so, none⟩) sn sc := ⟨_, _, _, hp1.ok.1⟩
  obtain ⟨q0, m0, d0, he0⟩ := hp0.row
  obtain ⟨q1, m1, d1, he1⟩ := hp1.row
  simp only [List.getElem_cons_zero, List.getElem_cons_succ, Nat.zero_mul, Nat.add_zero, Nat.one_mul] at v00 v01 v10 v11
  rw [hd0] at v00
  rw [he0] at v01
  rw [hd1] at v10
  rw [he1] at v11
  have hat : Cp.at_ c ([e0, e1].map (·.1)) = [c.ds.drop e0.1, c.ds.drop e1.1] := rfl
  have hsum : sumB k [c.ds.drop e0.1, c.ds.drop e1.1] = bud k (c.ds.drop e0.1) + 10 + (bud k (c.ds.drop e1.1) + 10 + 0) := rfl
  rw [hat] at hN ⊢
  have HCELL : Hid (∀ w1, Below w.heap.size w w1 → w1.cell? ⟨g, o, none⟩ = some (.slice (some ⟨db, s0, none⟩) n0 c0) ∧ w1.cell? ⟨g, o + 1, none⟩ = some (.slice q0 m0 d0) ∧ g < w1.heap.size) := fun w1 hb => ⟨cell_keepC hb hgl v00, cell_keepC hb hgl v01, Nat.lt_of_lt_of_le hgl hb.size⟩
  have HNM : Hid (∀ w1, Below w.heap.size w w1 → Calls Tryz.prog 61 #[.agg #[.slice (some ⟨db, s0, none⟩) n0 c0, .slice q0 m0 d0]] w1 fun r w' => r = .returned (.string (strOfNums (nm (c.ds.drop e0.1)))) ∧ Below w1.heap.size w1 w') := fun w1 hb => by
   have q := name_c hx w1 (h.bel.trans (hb.mono h.bel.size)) (hp0.below hb)
   rw [hd0, he0] at q
   exact q
  have hrg := nm_rg hx hp0
  have HBC : Hid (∀ w1, Below w.heap.size w w1 → Below c.w0.heap.size c.w0 w1) := fun w1 hb => h.bel.trans (hb.mono h.bel.size)
  cases hsy : isSy (c.ds.drop e0.1) with
  | false =>
   have hnn : nm (c.ds.drop e0.1) = [] := Classical.byContradiction (fun hne => by rw [sy_of_nm hp0.ok.2.1 hne] at hsy; cases hsy)
   have hbad : setR (s.gls.map (·.x)) (rd (s.gls.map (·.x)) k) (s.sc.map (·.x)) [c.ds.drop e0.1, c.ds.drop e1.1] = none := by simp [setR, hsy]
   rw [hbad]
   rw [hnn] at HNM
   have t1 : ((strOfNums []).toList == []) = true := by rw [ByteArray.toList_eq, strOfNums_data]; rfl
   generalize strOfNums [] = st at HNM t1
   clear h hes hE hN hcl hg hp0 hp1 hd0 hd1 he0 he1 hsum hrg hsy hnn hbad hat hl
   go_enter Tryz.func54, Tryz.ntmps54
   go_wp2_with fail
   refine (HNM.out w (Below.refl _ _)).mono ?_
   rintro r w1 ⟨rfl, hb1⟩
   have HB1 := mkC (HBC.out w1 hb1)
   clear hb1
   go_wp2_with fail
   refine (needGrammar_f w1).mono ?_
   rintro r w2 ⟨rfl, hw2⟩
   have hw2' := hw2.symm
   clear hw2
   subst hw2'
   exact ⟨rfl, rfl, HB1.out⟩
  | true =>
   have hne := nm_of_sy hp0.ok.2.1 hsy
   have hgood : setR (s.gls.map (·.x)) (rd (s.gls.map (·.x)) k) (s.sc.map (·.x)) [c.ds.drop e0.1, c.ds.drop e1.1] = Cp.cat (some (lack (s.gls.map (·.x)) (s.sc.map (·.x)) (nm (c.ds.drop e0.1)))) (rd (s.gls.map (·.x)) k (s.sc.map (·.x)) (c.ds.drop e1.1)) := by simp [setR, hsy]
   rw [hgood]
   obtain ⟨st, hst⟩ : ∃ st, st = strOfNums (nm (c.ds.drop e0.1)) := ⟨_, rfl⟩
   have t1 : (st.toList == []) = false := by
    rw [hst, ByteArray.toList_eq, strOfNums_data]
    cases hq : nm (c.ds.drop e0.1) with
    | nil => exact absurd hq hne
    | cons a r => rfl
   have HVA : Hid (∀ w1, Below w.heap.size w w1 → Calls Tryz.prog 114 #[.pointer (some ⟨s.pb, 0, none⟩), .string st] w1 fun r w' => VaQ c N s (nm (c.ds.drop e0.1)) w1 w' r) := fun w1 hb => by
    rw [hst]
    exact variable_c _ w1 (h.below hb).1 hrg (by omega)
   rw [← hst] at HNM
   obtain ⟨NN, hNN⟩ : ∃ NN, NN = N + sumB k [c.ds.drop e0.1, c.ds.drop e1.1] := ⟨_, rfl⟩
   obtain ⟨ns1, hns1⟩ : ∃ ns1, ns1 = lack (s.gls.map (·.x)) (s.sc.map (·.x)) (nm (c.ds.drop e0.1)) := ⟨_, rfl⟩
   obtain ⟨o2, ho2⟩ : ∃ o2, o2 = rd (s.gls.map (·.x)) k (s.sc.map (·.x)) (c.ds.drop e1.1) := ⟨_, rfl⟩
   have HEX : Hid (∀ w2 w3 vb, Below w.heap.size w w2 → VaQ c N s (nm (c.ds.drop e0.1)) w2 w3 (.returned (.pointer (some ⟨vb, 0, none⟩))) → (w3.cell? ⟨g, o + 2, none⟩ = some (.slice (some ⟨db, s1, none⟩) n1 c1) ∧ w3.cell? ⟨g, o + 2 + 1, none⟩ = some (.slice q1 m1 d1) ∧ g < w3.heap.size) ∧ Calls Tryz.prog 115 #[.pointer (some ⟨s.pb, 0, none⟩), .agg #[.slice (some ⟨db, s1, none⟩) n1 c1, .slice q1 m1 d1]] (w3.alloc (.cells #[.pointer (some ⟨vb, 0, none⟩)] 107)) fun r w4 => (r = gramE ∧ Below c.w0.heap.size c.w0 w4 ∧ o2 = none) ∨ ∃ f b cp, r = .returned (.func f b cp) ∧ (w4.cell? ⟨w3.heap.size, 0, none⟩ = some (.pointer (some ⟨vb, 0, none⟩)) ∧ w3.heap.size < w4.heap.size) ∧ ∃ (sst : ByteArray) (sn : Int) (sg sbx : Bool), (w4.alloc (.cells #[.func f b cp] 109)).heap[vb]? = some (.cells #[.string sst, .int .i64 sn, .bool sg, .bool sbx] 175) ∧ ∀ x u, MkV u → RdQ c NN s (Cp.cat (some ns1) o2) w ((w4.alloc (.cells #[.func f b cp] 109)).setCell ⟨vb, 3, none⟩ (.bool x)) (.returned u) (fun u _ => MkV u)) := by
    intro w2 w3 vb hb2 hva
    obtain ⟨s1', vb', hvb, g1, g2, g3, g4, g5, g6⟩ := hva
    cases hvb
    have hI2 := h.below hb2
    have e2 : EsR c db dof S k w3 (some ⟨g, o, none⟩) 2 cc [e0, e1] := (hes.below hb2).frp hI2.1 g2
    obtain ⟨g', o', cur', eg, hg', hcl'⟩ := e2.2.2.1 (by omega)
    cases eg
    obtain ⟨t10, t11⟩ := hcl' 1 (by simp)
    simp only [List.getElem_cons_succ, List.getElem_cons_zero, Nat.one_mul] at t10 t11
    rw [hd1] at t10
    rw [he1] at t11
    refine ⟨⟨t10, t11, (Array.getElem?_eq_some_iff.1 hg').1⟩, ?_⟩
    have hb34 := below1 w3 (.cells #[.pointer (some ⟨vb, 0, none⟩)] 107)
    have hbox : (w3.alloc (.cells #[.pointer (some ⟨vb, 0, none⟩)] 107)).heap[w3.heap.size]? = some (.cells #[.pointer (some ⟨vb, 0, none⟩)] 107) := Go.Deep.blk_alloc_new _ _
    obtain ⟨W3, hW3⟩ : ∃ W3, W3 = w3.alloc (.cells #[.pointer (some ⟨vb, 0, none⟩)] 107) := ⟨_, rfl⟩
    rw [← hW3] at hb34 hbox ⊢
    have hp3 := g1.below hb34
    have hpt3 := (e2.2.2.2 e1 (by simp)).below hb34
    have q := hE S s1' (N + 1) W3 e1 hp3.1 hpt3 (by omega)
    rw [hd1, he1, g3.pb, g3.gls, g3.sc, ← ho2] at q
    refine q.mono ?_
    intro r w4 hr
    cases o2 with
    | none => exact Or.inl ⟨hr.1, hr.2, rfl⟩
    | some ns2 =>
     obtain ⟨u, s2, rfl, ⟨f, b, cp, rfl⟩, k1, k2, k3, k4⟩ := hr
     have hnf : ¬ Fq s1' w3.heap.size := hp3.1.not_fqV hbox (fun e' => by
      rw [g3.scv] at e'
      have q1 := (owns_lt h.sco _ e').1
      have q2 := hb2.size
      have q3 := g2.size
      omega)
     have hbox4 := (k2.keep _ (Array.getElem?_eq_some_iff.1 hbox).1 hnf).trans hbox
     refine Or.inr ⟨f, b, cp, rfl, ⟨(cells1 hbox4).1, (Array.getElem?_eq_some_iff.1 hbox4).1⟩, ?_⟩
     have hend := setR_end (M := N + 1 + bud k (c.ds.drop e1.1)) (vb := vb) (ns1 := ns1) (ns2 := ns2) h ((hI2.2).trans g2) g3 (by rw [g5, hns1]) g1 (by
      rcases g6 with g6 | ⟨g6, g7⟩
      ·exact Or.inl g6
      ·exact Or.inr ⟨Nat.le_trans hb2.size g6, g7⟩) hb34 k2 k3 k4 k1 (below1 w4 (.cells #[.func f b cp] 109))
     obtain ⟨sst, sn, sg, sbx, hb, hfin⟩ := hend
     exact ⟨sst, sn, sg, sbx, hb, fun x u hu => (hfin x u hu).mono (by rw [hNN, hsum]; omega)⟩
   rw [← hns1, ← ho2, ← hNN]
   clear h hes hE hN hcl hg hp0 hp1 hd0 hd1 he0 he1 hsum hrg hsy hne hgood hat hl hst hNN hns1 ho2
   go_enter Tryz.func54, Tryz.ntmps54
   go_wp2_with fail
   refine (HNM.out w (Below.refl _ _)).mono ?_
   rintro r w1 ⟨rfl, hb1⟩
   have HB1 := mkC hb1
   obtain ⟨y0, y1, yg⟩ := HCELL.out w1 hb1
   clear hb1
   go_wp2_with fail
   refine (needGrammar_t w1).mono ?_
   rintro r w2 ⟨⟨u, rfl⟩, hw2⟩
   have hw2' := hw2.symm
   clear hw2
   subst hw2'
   go_wp2_with fail
   refine (HNM.out w1 HB1.out).mono ?_
   rintro r w2 ⟨rfl, hb2⟩
   have HB2 := mkC (HB1.out.trans (hb2.mono HB1.out.size))
   clear hb2
   go_wp2_with fail
   refine (HVA.out w2 HB2.out).mono ?_
   intro r w3 hva
   obtain ⟨vb, hvb⟩ : ∃ vb, r = .returned (.pointer (some ⟨vb, 0, none⟩)) := by
    obtain ⟨_, vb, e, _⟩ := hva
    exact ⟨vb, e⟩
   subst hvb
   obtain ⟨⟨x10, x11, xg⟩, hex⟩ := HEX.out w2 w3 vb HB2.out hva
   have HC := mkC hex
   clear hva hex HEX HVA HNM HCELL y0 y1 yg v00 v01 v10 v11
   go_wp2_with fail
   refine HC.out.mono ?_
   rintro r w4 (⟨rfl, hb4, hno⟩ | ⟨f, b, cp, rfl, ⟨xb, xl⟩, sst, sn, sg, sbx, hblk, hfin⟩)
   ·refine ⟨rfl, ?_⟩
    rw [hno]
    exact ⟨rfl, hb4⟩
   ·have HF := mkC hfin
    have HBK := mkC hblk
    clear hfin hblk HC
    go_upto_region 4 with fail
    have xb4 : (w4.alloc (.cells #[.func f b cp] 109)).cell? ⟨w3.heap.size, 0, none⟩ = some (.pointer (some ⟨vb, 0, none⟩)) := cell_keepC (below1 _ _) xl xb
    obtain ⟨W5, hW5⟩ : ∃ W5, W5 = w4.alloc (.cells #[.func f b cp] 109) := ⟨_, rfl⟩
    rw [← hW5] at HF HBK xb4 ⊢
    have x2 : W5.cell? ⟨vb, 2, none⟩ = some (.bool sg) := by have := HBK.out; simp [World.cell?, this]
    have x3 : W5.cell? ⟨vb, 3, none⟩ = some (.bool sbx) := by have := HBK.out; simp [World.cell?, this]
    have xf : W5.frozen? ⟨vb, 3, none⟩ = false := by have := HBK.out; simp [World.frozen?, this]
    clear hW5 HBK
    go_wp2_with fail
    go_region
    all_goals go_wp2_with fail
    all_goals go_ret
    all_goals exact (HF.out _ _ ⟨_, _, _, rfl⟩).belowM (below_drewC (Below.refl _ _))
 ·have hbad : setR (s.gls.map (·.x)) (rd (s.gls.map (·.x)) k) (s.sc.map (·.x)) (Cp.at_ c (es.map (·.1))) = none := by
   match es, hl with
   | [], _ => rfl
   | [_], _ => rfl
   | [_, _], hl => exact absurd hl.symm hn
   | _ :: _ :: _ :: _, _ => rfl
  rw [hbad]
  have t1 : ((n : Int) == 2) = false := by simp; omega
  have HNG := mkC (needGrammar_f w)
  clear h hes hE hN hl hbad hn
  go_enter Tryz.func54, Tryz.ntmps54
  go_wp2_with fail
  refine HNG.out.mono ?_
  rintro r w1 ⟨rfl, hw1⟩
  have hw1' := hw1.symm
  clear hw1
  subst hw1'
  exact ⟨rfl, rfl, HI.out.bel⟩
end Cp
end Go.Proofs.YtnnpfoilojicjaaGreatDoor
namespace Go.Proofs.YtnnpfoilojicjaaGreatDoor
open Go.RowKit Go.Shelf Ch1
attribute [local go_sem] Oper.semAt_some
namespace Cp
attribute [local go_sem] run_store_fn
abbrev Mk3 := Fn × Array Value × Array Value
def mkF (m : Mk3) : Value := .func m.1 m.2.1 m.2.2
abbrev Bm (sc : List Mk3) := { p : Nat × Mk3 // sc[p.1]? = some p.2 }
def bmE {sc : List Mk3} (x : Bm sc) : Array Value := #[Value.int .i64 (x.1.1 : Int), mkF x.1.2]
theorem mk3_of {us : List Value} (h : ∀ u ∈ us, MkV u) : ∃ ms : List Mk3, us = ms.map mkF := by
 induction us with
 | nil => exact ⟨[], rfl⟩
 | cons u us ih =>
  obtain ⟨ms, hm⟩ := ih (fun x hx => h x (List.mem_cons_of_mem _ hx))
  obtain ⟨f, b, cp, rfl⟩ := h u (List.mem_cons_self ..)
  exact ⟨(f, b, cp) :: ms, by rw [hm]; rfl⟩
set_option maxHeartbeats 1000000 in
theorem either_c (m1 m2 : Mk3) (w : World) : Calls Tryz.prog 120 #[mkF m1, mkF m2] w fun r w' => (∃ m : Mk3, r = .returned (mkF m)) ∧ Below w.heap.size w w' := by
 obtain ⟨f1, b1, c1⟩ := m1
 obtain ⟨f2, b2, c2⟩ := m2
 unfold mkF
 simp only
 go_enter Tryz.func120, Tryz.ntmps120
 go_wp2_with fail
 go_ret
 refine ⟨⟨(_, _, _), rfl⟩, ?_⟩
 exact (((((Below.refl _ w).alloc (Nat.le_refl _) _).alloc (by simp) _).alloc (by simp; omega) _).alloc (by simp; omega) _).alloc (by simp; omega) _
def Kb2 (a b : Nat) (W W' : World) : Prop := W'.heap[a]? = W.heap[a]? ∧ W'.heap[b]? = W.heap[b]?
theorem Kb2.refl (a b : Nat) (W : World) : Kb2 a b W W := ⟨rfl, rfl⟩
theorem Kb2.trans {a b : Nat} {A B C : World} (h : Kb2 a b A B) (k : Kb2 a b B C) : Kb2 a b A C := ⟨k.1.trans h.1, k.2.trans h.2⟩
theorem Kb2.put {a b : Nat} {w : World} (ha : a < w.heap.size) (hb : b < w.heap.size) (W : World) (l : Nat) (o o' : Obj) (hl : w.heap.size ≤ l) (h : W.heap[l]? = some o) (_ : o.isCells = false) (_ : o.isWalk = false) : Kb2 a b W (W.putObj l o') := by
 have h1 := (Array.getElem?_eq_some_iff.1 h).1
 have hg := grownBy_putObj' W l o'
 exact ⟨hg.block a (by omega) (fun e => by cases e; omega), hg.block b (by omega) (fun e => by cases e; omega)⟩
theorem len_snoc {α : Type} {len j : Nat} {pre : List α} {x : α} (h : j < len) (hp : pre.length = len - (j + 1)) : (pre ++ [x]).length = len - j := by
 rw [List.length_append, hp]
 simp
 omega
set_option maxRecDepth 100000 in
set_option maxHeartbeats 2000000 in
theorem back1m_in (n : Nat) (hn : 1 ≤ n) (l Bs b len cap : Nat) (p : Option Addr) (sc : List Mk3) (hlen : len ≤ sc.length) (hl3 : len ≤ 1000000000) (J Jx : List (Bm sc) → World → Prop)
  (hY : ∀ pre x W, J pre W → pre.length < len → YieldAt Fence.wide (n - 1) Tryz.prog l (bmE x) W fun e W' =>
   (e = .returned (.bool true) ∧ J (pre ++ [x]) W' ∧ Kb2 Bs b W W') ∨ (e = .returned (.bool false) ∧ Jx (pre ++ [x]) W'))
  (W : World) (hBs : W.cell? ⟨Bs, 0, none⟩ = some (.slice p len cap)) (hp : 0 < len → p = some ⟨b, 0, none⟩ ∧ ∀ j (hj : j < sc.length), W.cell? ⟨b, j, none⟩ = some (mkF (sc[j]'hj))) (h0 : J [] W) :
  CallsIn Fence.wide n Tryz.prog 162 #[.func (.yield l) #[] #[], .pointer (some ⟨Bs, 0, none⟩)] W fun e W' => (∃ v, e = .returned v) ∧
   ((∃ ys, True ∧ J ys W') ∨ (∃ pre, True ∧ Jx pre W')) := by
 refine callsIn_of_wp Tryz.func162 rfl trivial ?_ rfl
 simp only [Tryz.ntmps162, List.size_toArray, List.length_cons, List.length_nil, Nat.reduceAdd, Nat.reduceSub, Array.replicate_succ, Array.replicate_zero, List.push_toArray, List.append_toArray, List.nil_append, List.cons_append]
 gi_wp2
 gi_loopw [3] (fun i wr => ∃ j : Nat, j ≤ len ∧ i = .int .i64 ((j : Int) - 1) ∧ Hid (∃ pre : List (Bm sc), pre.length = len - j ∧ J pre wr ∧ Kb2 Bs b W wr))
  (fun i _ => (intOf i + 1).toNat)
 case atStart => exact ⟨len, Nat.le_refl _, by simp, [], by simp, h0, Kb2.refl _ _ _⟩
 case round =>
  obtain ⟨j, hj, rfl, hH⟩ := hrel
  obtain ⟨pre, hprl, hJs, hnx⟩ := hH.out
  have hBx := (World.cell?_of_block (a := ⟨Bs, 0, none⟩) hnx.1).trans hBs
  cases j with
  | zero =>
   have HF : Hid (∃ ys : List (Bm sc), True ∧ J ys wr) := ⟨pre, trivial, hJs⟩
   clear hH hprl hJs hnx
   gi_wp2
   go_end0
   exact ⟨⟨_, rfl⟩, .inl HF.out⟩
  | succ j =>
   obtain ⟨rfl, hc⟩ := hp (by omega)
   have hjl : j < sc.length := by omega
   have hcx := (World.cell?_of_block (a := ⟨b, j, none⟩) hnx.2).trans (hc j hjl)
   have hint : ((j + 1 : Nat) : Int) - 1 = (j : Int) := by omega
   rw [hint]
   obtain ⟨x, hx⟩ : ∃ x : Bm sc, x.1 = (j, sc[j]'hjl) := ⟨⟨(j, sc[j]'hjl), List.getElem?_eq_getElem hjl⟩, rfl⟩
   obtain ⟨fn, tmps, assign, body, hy, hR⟩ := hY pre x wr hJs (by omega)
   have hbe : bmE x = #[Value.int .i64 (j : Int), mkF (sc[j]'hjl)] := by
    unfold bmE
    rw [hx]
   rw [hbe] at hy
   have hjl' : j < len := by omega
   have HP2 : Hid ((pre ++ [x]).length = len - j) := len_snoc hjl' hprl
   have HNX := mkC hnx
   have HR := mkC hR
   generalize (sc[j]'hjl) = mm at hcx hy
   obtain ⟨mf, mb, mc⟩ := mm
   unfold mkF at hcx hy
   simp only at hcx hy
   clear hH hprl hJs hnx hx hbe hR hint hc hjl'
   gi_wp2
   refine HR.out.mono ?_
   rintro e W3 (⟨rfl, hJ3, hk3⟩ | ⟨rfl, hJx3⟩)
   ·have HG : Hid (∃ pre : List (Bm sc), pre.length = len - j ∧ J pre W3 ∧ Kb2 Bs b W W3) := ⟨_, HP2.out, hJ3, HNX.out.trans hk3⟩
    clear hJ3 hk3
    gi_wp2
    go_roundw
    case rel => exact ⟨j, by omega, by simp, HG.out⟩
    case measure => simp [intOf]
   ·have HG : Hid (∃ pre : List (Bm sc), True ∧ Jx pre W3) := ⟨_, trivial, hJx3⟩
    clear hJx3
    gi_wp2
    refine bodyPost_ret (results_none rfl _ _ _) rfl ?_
    exact ⟨⟨_, rfl⟩, .inr HG.out⟩
theorem backm_in (n : Nat) (p : Option Addr) (len cap : Nat) (w : World) :
  CallsIn Fence.wide n Tryz.prog 119 #[.slice p len cap] w fun e w' => e = .returned (.func (.func 162) #[] #[.pointer (some ⟨w.heap.size, 0, none⟩)]) ∧ w' = w.alloc (.cells #[.slice p len cap] 150) := by
 refine callsIn_of_wp Tryz.func119 rfl trivial ?_ rfl
 simp only [Tryz.ntmps119, List.size_toArray, List.length_cons, List.length_nil, Nat.reduceAdd, Nat.reduceSub, Array.replicate_succ, Array.replicate_zero, List.push_toArray, List.append_toArray, List.nil_append, List.cons_append]
 gi_wp2
 go_ret
 exact ⟨rfl, rfl⟩
theorem backm_stops (n : Nat) (hn : 1 ≤ n) (Bs b len cap : Nat) (p : Option Addr) (sc : List Mk3) (hlen : len ≤ sc.length) (hl3 : len ≤ 1000000000) (w : World) (hBn : Bs < w.heap.size) (hbn : b < w.heap.size)
  (hBs : w.cell? ⟨Bs, 0, none⟩ = some (.slice p len cap)) (hp : 0 < len → p = some ⟨b, 0, none⟩ ∧ ∀ j (hj : j < sc.length), w.cell? ⟨b, j, none⟩ = some (mkF (sc[j]'hj))) :
  SeqStopsK Fence.wide n Tryz.prog 162 #[.pointer (some ⟨Bs, 0, none⟩)] (fun x : Bm sc => bmE x) (Kb2 Bs b) (fun _ => True)
   (fun _ => True) len w := fun l J Jx W hW _ _ hY h0 => by
 refine back1m_in n hn l Bs b len cap p sc hlen hl3 J Jx hY W ((hW.cell (p := ⟨Bs, 0, none⟩) hBn).trans hBs) (fun h => ?_) h0
 obtain ⟨h1, h3⟩ := hp h
 exact ⟨h1, fun j hj => (hW.cell (p := ⟨b, j, none⟩) hbn).trans (h3 j hj)⟩
theorem keeps_below {W W' : World} (hb : Below W.heap.size W W') : KeepsOthers W W' := ⟨hb.size, fun k _ hk _ => (hb.block k (Array.getElem?_eq_some_iff.1 hk).1).trans hk⟩
end Cp
end Go.Proofs.YtnnpfoilojicjaaGreatDoor
namespace Go.Proofs.YtnnpfoilojicjaaGreatDoor
open Go.RowKit Go.Shelf Ch1
attribute [local go_sem] Oper.semAt_some
namespace Cp
attribute [local go_sem] run_store_fn
set_option maxRecDepth 100000 in
set_option maxHeartbeats 4000000 in
theorem or_c {c : Cx} {db dof k : Nat} (hE : ExpC c db dof k) (S : Nat → Prop) (s : Sg) (N : Nat) (w : World) (p : Option Addr) (n cc : Nat) (es : List Pe) (h : PgI c N w s) (hes : EsR c db dof S k w p n cc es) (hn3 : n ≤ 3000) (hN : N + sumB k (Cp.at_ c (es.map (·.1))) ≤ 1000000000) :
  Calls Tryz.prog 57 #[.pointer (some ⟨s.pb, 0, none⟩), .slice p n cc] w fun r w' => RdQ c (N + sumB k (Cp.at_ c (es.map (·.1)))) s (allO (rd (s.gls.map (·.x)) k (s.sc.map (·.x))) (Cp.at_ c (es.map (·.1)))) w w' r (fun u _ => MkV u) := by
 have HX := mkC (expressions_c hE S s N w p n cc es h hes hn3 hN)
 generalize allO (rd (s.gls.map (·.x)) k (s.sc.map (·.x))) (Cp.at_ c (es.map (·.1))) = ro at HX
 generalize N + sumB k (Cp.at_ c (es.map (·.1))) = NN at HX
 clear h hes hN hE
 refine (callsIn_wide (n := 5)).1 ?_
 refine callsIn_of_wp_marks Tryz.func57 rfl trivial ?_ rfl
 simp only [Tryz.ntmps57, List.size_toArray, List.length_cons, List.length_nil, Nat.reduceAdd, Nat.reduceSub, Array.replicate_succ, Array.replicate_zero, List.push_toArray, List.append_toArray, List.nil_append, List.cons_append]
 cases ro with
 | none =>
  gi_wp2_with (refine ⟨trivial, ?_⟩; gi_at_call 93; refine (callsIn_wide.2 HX.out).mono ?_; rintro r w1 ⟨rfl, hb3⟩; have HB3 := mkC hb3; clear hb3)
  rename_i heq
  unfold gramE at heq
  cases heq
  exact ⟨rfl, HB3.out⟩
 | some ns =>
  by_cases hn0 : n = 0
  ·subst hn0
   gi_wp2_with (refine ⟨trivial, ?_⟩; gi_at_call 93; refine (callsIn_wide.2 HX.out).mono ?_; rintro r w1 ⟨u, s', rfl, ⟨us, q1, q2, q3⟩, h1, h2, h3, h4⟩; obtain ⟨vp, vc, hu⟩ := owns_form q3; subst hu; have HF : Hid (∀ w2 u', Below w1.heap.size w1 w2 → MkV u' → RdQ c NN s (some ns) w w2 (.returned u') (fun u _ => MkV u)) := fun w2 u' hb hu' => RdQ.then_ ⟨h1, h2, h3, h4⟩ hb hu'; clear h1 h2 h3 h4 q1 q2 q3)
   refine ⟨trivial, ?_⟩
   refine (callsIn_wide.2 (constant_c _ _ _ _)).mono ?_
   rintro r w2 ⟨u2, rfl, ⟨f, b, cp, rfl⟩, hb2⟩
   have HG := mkC (HF.out w2 (.func f b cp) ((below1 w1 _).trans (hb2.mono (below1 w1 _).size)) ⟨f, b, cp, rfl⟩)
   clear hb2
   gi_wp2
   refine ⟨.func f b cp, ?_, HG.out⟩
   simp [results, Tryz.f57, go_sem]
  ·have t1 : ((n : Int) == 0) = false := by simp; omega
   have hn1 : 1 ≤ n := by omega
   gi_wp2_with (refine ⟨trivial, ?_⟩; gi_at_call 93; refine (callsIn_wide.2 HX.out).mono ?_; rintro r w1 ⟨u, s', rfl, ⟨us, q1, q2, q3⟩, h1, h2, h3, h4⟩; obtain ⟨vp, vc, hu⟩ := owns_form q3; subst hu; have HF : Hid (∀ w2 u', Below w1.heap.size w1 w2 → MkV u' → RdQ c NN s (some ns) w w2 (.returned u') (fun u _ => MkV u)) := fun w2 u' hb hu' => RdQ.then_ ⟨h1, h2, h3, h4⟩ hb hu'; obtain ⟨_, _, hcs⟩ := owns_cells q3; obtain ⟨g, hg0, hg, _, _, hcl⟩ := hcs (by omega); subst hg0; obtain ⟨ms, hms⟩ := mk3_of q1; subst hms; have hml : ms.length = n := (by rw [← q2, List.length_map]); have HCL : Hid (∀ j (hj : j < ms.length), w1.cell? ⟨g, j, none⟩ = some (mkF (ms[j]'hj))) := fun j hj => (by rw [hcl j (by omega), List.getElem?_map, List.getElem?_eq_getElem hj]; rfl); have y0 := HCL.out (n - 1) (by omega); obtain ⟨m0, hm0⟩ : ∃ m0, m0 = ms[n - 1]'(by omega) := ⟨_, rfl⟩; rw [← hm0] at y0; obtain ⟨mf, mb, mc⟩ := m0; unfold mkF at y0; simp only at y0; clear h1 h2 h3 h4 q1 q2 q3 hcs hcl hm0)
   refine ⟨trivial, ?_⟩
   refine (backm_in _ _ _ _ _).mono ?_
   rintro e w' ⟨rfl, rfl⟩
   have bA := Boxed.new w1 109 (.func mf mb mc)
   have bN := Boxed.new (w1.alloc (.cells #[.func mf mb mc] 109)) 150 (.slice (some ⟨g, 0, none⟩) (n - 1) vc)
   rw [World.size_alloc] at bN
   have hB0 : Below w1.heap.size w1 ((w1.alloc (.cells #[.func mf mb mc] 109)).alloc (.cells #[.slice (some ⟨g, 0, none⟩) (n - 1) vc] 150)) := ((Below.refl _ w1).alloc (Nat.le_refl _) _).alloc (by simp) _
   gi_wp2
   refine wpIn_rangeFunc_ownG rfl (by omega) (gf := 162) (lb := #[.pointer (some ⟨w1.heap.size + 1, 0, none⟩)]) rfl trivial (enters_of Tryz.func162 (by kernel_rfl) rfl)
    (backm_stops 4 (by omega) (w1.heap.size + 1) g (n - 1) vc (some ⟨g, 0, none⟩) ms (by omega) (by omega) _ (by simp) (by simp; omega) bN.cell (fun _ => ⟨rfl, fun j hj => (hB0.cell (p := ⟨g, j, none⟩) hg).trans (HCL.out j hj)⟩)) Kb2.trans (Kb2.put (by simp) (by simp; omega)) (Below.refl _ _) (fun _ => rfl)
    (fun _ W => ((∃ m : Mk3, W.cell? ⟨w1.heap.size, 0, none⟩ = some (mkF m)) ∧ W.frozen? ⟨w1.heap.size, 0, none⟩ = false ∧ W.cell? ⟨w1.heap.size + 1, 0, none⟩ = some (.slice (some ⟨g, 0, none⟩) (n - 1) vc)) ∧ Below w1.heap.size w1 W)
    (fun _ _ _ => False)
    (OwnFrom.and (Own.from (fun s A B row hs hg hr => by obtain ⟨⟨m, hm⟩, hf, hc⟩ := hs; exact ⟨⟨m, cell_kept hm hg hr⟩, (frozen_kept hm hg hr).trans hf, cell_kept hc hg hr⟩) _) (ownFrom_below (Nat.le_refl _) (by simp; omega)))
    (fun cd => Own.from (fun s A B row hs hg hr => hs) _)
    ⟨⟨⟨(mf, mb, mc), (bA.alloc _).cell⟩, (bA.alloc _).frozen, bN.cell⟩, hB0⟩
    (fun y => { tmps := #[.pointer (some ⟨s.pb, 0, none⟩), .slice p n cc, undef, undef, .nilFunc, .slice (some ⟨g, 0, none⟩) n vc, .int .i64 ((n : Int) - 1), .pointer (some ⟨w1.heap.size, 0, none⟩), undef, mkF y.1.2, .pointer (some ⟨s.pb, 0, none⟩), .slice p n cc, .slice (some ⟨g, 0, none⟩) n vc, .slice (some ⟨g, 0, none⟩) n vc, .int .i64 (n : Int), .bool false, undef, undef, undef, .slice (some ⟨g, 0, none⟩) n vc, .int .i64 (n : Int), .int .i64 ((n : Int) - 1), .slice (some ⟨g, 0, none⟩) n vc, .int .i64 ((n : Int) - 1), .pointer (some ⟨g, n - 1, none⟩), .func mf mb mc, .slice (some ⟨g, 0, none⟩) n vc, .int .i64 ((n : Int) - 1), .slice (some ⟨g, 0, none⟩) (n - 1) vc, .func (.func 162) #[] #[.pointer (some ⟨w1.heap.size + 1, 0, none⟩)], .int .i64 (y.1.1 : Int), mkF y.1.2, undef, undef, undef, undef], defers := [] }) ?assign ?body ?done ?stop
   case assign =>
    intro l y W K hK
    unfold bmE
    gi_wp2
    exact hK
   case body =>
    rintro l pre y W ⟨⟨⟨m, hm⟩, hfr, hcn⟩, hB⟩ _
    have HEI := mkC (either_c y.1.2 m W)
    have HB := mkC hB
    obtain ⟨ym, hym⟩ : ∃ ym, ym = y.1.2 := ⟨_, rfl⟩
    rw [← hym] at HEI ⊢
    obtain ⟨yf, yb, yc⟩ := ym
    obtain ⟨mf', mb', mc'⟩ := m
    unfold mkF at hm HEI ⊢
    simp only at hm HEI ⊢
    clear hB
    have hbx : w1.heap.size < W.heap.size := World.block_lt_of_cell? W _ hm
    have hby : w1.heap.size + 1 < W.heap.size := World.block_lt_of_cell? W _ hcn
    have HCN := mkC hcn
    clear hcn
    gi_wp2_with (refine ⟨trivial, ?_⟩; gi_at_call 120; refine (CallsIn.inRound l (callsIn_wide.2 HEI.out)).mono ?_; rintro e w2 ⟨⟨⟨ef, eb, ec⟩, he⟩, hb2⟩; subst he; have z0 := (hb2.cell (p := ⟨w1.heap.size, 0, none⟩) hbx).trans hm; have zf : w2.frozen? ⟨w1.heap.size, 0, none⟩ = false := (by rw [World.frozen?_of_block (w := W) (hb2.block _ hbx)]; exact hfr); have HB2 := mkC hb2; clear hb2 hm hfr)
    refine ⟨((keeps_below HB2.out).trans (KeepsOthers.setCell _ _ _)).from _, ⟨(set_keep _ (Nat.succ_ne_self _)).trans (HB2.out.block _ hby), (set_keep _ (by omega)).trans (HB2.out.block _ (by omega))⟩, ⟨⟨(ef, eb, ec), World.cell?_setCell_same' _ _ _ (by rw [z0]; rfl)⟩, ?_, ?_⟩, (HB.out.trans (HB2.out.mono HB.out.size)).setCell (p := ⟨w1.heap.size, 0, none⟩) (Nat.le_refl _) _⟩
    ·exact (World.frozen?_setCell _ _ _ _).trans zf
    ·exact (World.cell?_of_block (a := ⟨w1.heap.size + 1, 0, none⟩) ((set_keep _ (Nat.succ_ne_self _)).trans (HB2.out.block _ hby))).trans HCN.out
   case done =>
    rintro D ys W hD hys ⟨⟨⟨⟨mf', mb', mc'⟩, hm⟩, hfr, _⟩, hB⟩ hK
    unfold mkF at hm
    simp only at hm
    have HB := mkC hB
    have HK := mkC hK
    have HD := mkC hD
    clear hB hK hD hys
    gi_wp2
    refine ⟨by simp, .inl ⟨_, _, rfl, run_takeDeferred HK.out, ?_⟩⟩
    refine ⟨.func mf' mb' mc', ?_, HF.out _ _ (HB.out.trans (belowK_b (w := w1) (Nat.le_refl _) W D _ _ (by have := HD.out; simp at this; omega) HK.out rfl rfl)) ⟨_, _, _, rfl⟩⟩
    simp [results, Tryz.f57, go_sem]
   case stop => exact fun _ _ _ _ _ _ h _ => h.elim
theorem infoK : (Tryz.prog.info? 259).map (fun i => (i.zero, i.size, i.bytes)) = some (some (.int .u16 0), 1, 2) := by kernel_rfl
theorem sizeK : (Tryz.prog.info? 259).map (·.size) = some 1 := by kernel_rfl
def Kv (xs : List Nat) : List Value := xs.map (fun x => Value.int .u16 (x : Nat))
def OwK (w : World) (B : Nat) (v : Value) (xs : List Nat) : Prop := w.ownsRow B 259 1 v xs.length (Kv xs)
theorem OwK.nil (w : World) (B : Nat) : OwK w B (.slice none 0 0) [] := ⟨rfl, Or.inl ⟨rfl, rfl⟩⟩
theorem app1K_law (w : World) {ops : Array Oper} {rest : List Oper} {o : Oper} {a : Act} {Q : Exit → Act → World → Prop} (hgd : o.guard = none) (s x : Operand)
  (ho : o.op = .call { callee := .builtin .append, args := #[s, x], argTypes := #[265, 265] }) (B : Nat) (v : Value) (xs : List Nat) (k : Nat) (hs : a.eval s = v) (hown : OwK w B v xs) (hx : a.eval x = .slice (some ⟨w.heap.size, 0, none⟩) 1 1)
  (hlen : xs.length ≤ 1000000000) (hB : B ≤ w.heap.size)
  (h : ∀ v' w', OwK w' B v' (xs ++ [k]) → Below B w w' → But w w' v → wpList Tryz.prog ops Q rest (a.put o.dst v') w') : wpList Tryz.prog ops Q (o :: rest) a (w.alloc (.cells #[.int .u16 (k : Int)] 259)) := by
 refine appW_at w hgd s x 265 259 ho (.int .u16 0) 1 2 Tryz.underlying265 infoK rfl (by decide) B v xs.length (Kv xs) hs hown #[.int .u16 (k : Int)] rfl (by simp [Value.oneCell']) hx (by unfold maxLen; omega) (by omega) hB ?_
 intro v' w' k1 k2 k3 _ _
 refine h v' w' ?_ k2 k3
 unfold OwK
 rw [List.length_append]
 unfold Kv at k1 ⊢
 rw [List.map_append]
 exact k1
def nz (l : List Nat) : List Nat := l.filter (fun v => v != 0)
theorem nz_snoc (l : List Nat) (v : Nat) : nz (l ++ [v]) = nz l ++ (if v = 0 then [] else [v]) := by
 unfold nz
 rw [List.filter_append]
 by_cases h : v = 0
 ·simp [h]
 ·simp [h]
theorem nz_len (l : List Nat) : (nz l).length ≤ l.length := List.length_filter_le _ _
theorem run_idx (a b c : Nat) (w : World) : (Instr.index 261 (.agg #[.int .u16 (a : Int), .int .u16 (b : Int), .int .u16 (c : Int)]) (.int .i64 0)).run Tryz.prog w = .ok (.int .u16 (a : Int)) w ∧ (Instr.index 261 (.agg #[.int .u16 (a : Int), .int .u16 (b : Int), .int .u16 (c : Int)]) (.int .i64 1)).run Tryz.prog w = .ok (.int .u16 (b : Int)) w ∧ (Instr.index 261 (.agg #[.int .u16 (a : Int), .int .u16 (b : Int), .int .u16 (c : Int)]) (.int .i64 2)).run Tryz.prog w = .ok (.int .u16 (c : Int)) w := by
 have hu := Tryz.underlying261
 obtain ⟨ii, hi1, hs⟩ := Option.map_eq_some_iff.1 sizeK
 refine ⟨?_, ?_, ?_⟩ <;> simp [Instr.index, asIntOf, Sem.run_bind, run_underlying hu, sizeOf, typeInfo, hi1, hs, part, isAgg, run_underlying Tryz.underlying259]
def Ls (x y z : Nat) (w : World) (ov iv : Value) (wr : World) : Prop := ∃ (i l : Nat) (p : Option Addr) (c : Nat), i ≤ 3 ∧ iv = .int .i64 (i : Nat) ∧ ov = .slice p l c ∧ l = (nz ([x, y, z].take i)).length ∧ Hid (OwK wr w.heap.size (.slice p l c) (nz ([x, y, z].take i))) ∧ Hid (Below w.heap.size w wr)
set_option maxRecDepth 20000 in
set_option maxHeartbeats 2000000 in
theorem list_c (x y z : Nat) (w : World) :
  Calls Tryz.prog 197 #[.agg #[.int .u16 (x : Nat), .int .u16 (y : Nat), .int .u16 (z : Nat)]] w fun e w' => ∃ u, e = .returned u ∧ OwK w' w.heap.size u (nz [x, y, z]) ∧ Below w.heap.size w w' := by
 go_enter Tryz.func197, Tryz.ntmps197
 go_wp2_with fail
 go_loopw [3, 7] (fun ov iv wr => Ls x y z w ov iv wr) (fun _ iv _ => 3 - (intOf iv).toNat)
 case atStart => exact ⟨0, 0, none, 0, Nat.zero_le _, rfl, rfl, rfl, OwK.nil _ _, below1 _ _⟩
 case round =>
  obtain ⟨i, l, op, oc, hi, rfl, rfl, hl, hO, hB⟩ := hrel
  have hws : w.heap.size ≤ wr.heap.size := hB.out.size
  by_cases hlt : i < 3
  ·rcases (show i = 0 ∨ i = 1 ∨ i = 2 by omega) with h | h | h <;> subst h
   ·have HLT : Hid ((nz ([x, y, z].take 0)).length = l) := hl.symm
    have hl3 : l ≤ 3 := by rw [hl]; exact Nat.le_trans (nz_len _) (by simp)
    have HSN : Hid (nz ([x, y, z].take (1)) = nz ([x, y, z].take 0) ++ (if x = 0 then [] else [x])) := nz_snoc ([x, y, z].take 0) x
    clear hl
    by_cases h0 : x = 0
    ·have b0 : ((x : Int) != 0) = false := by simp; omega
     rw [if_pos h0, List.append_nil] at HSN
     clear h0
     go_wp2_with fail
     rw [(run_idx x y z wr).1]
     go_wp2_with fail
     exact ⟨⟨1, l, op, oc, by omega, by go_num, rfl, by rw [HSN.out]; exact HLT.out.symm, by unfold Hid; rw [HSN.out]; exact hO.out, hB⟩, by simp [intOf]⟩
    ·have b0 : ((x : Int) != 0) = true := by simp; omega
     rw [if_neg h0] at HSN
     have HSL : Hid ((nz ([x, y, z].take 0) ++ [x]).length = l + 1) := by unfold Hid; rw [List.length_append, HLT.out]; rfl
     clear h0
     go_wp2_with fail
     rw [(run_idx x y z wr).1]
     go_wp2_with (at_builtin; refine app1K_law wr rfl (.tmp 12) (.tmp 14) rfl w.heap.size (.slice op l oc) (nz ([x, y, z].take 0)) x (by simp [Act.eval]) hO.out (by simp [Act.eval]) (by rw [HLT.out]; omega) hws ?_; intro v5 w5 ho5 hb5 hbt5; obtain ⟨p5, c5, hv5⟩ := owns_form ho5; rw [HSL.out] at hv5; subst hv5; have HO5 := mkC ho5; have HB5 := mkC hb5; clear ho5 hb5 hbt5)
     exact ⟨⟨1, l + 1, p5, c5, by omega, by go_num, rfl, by rw [HSN.out]; exact HSL.out.symm, by unfold Hid; rw [HSN.out]; exact HO5.out, hB.out.trans HB5.out⟩, by simp [intOf]⟩
   ·have HLT : Hid ((nz ([x, y, z].take 1)).length = l) := hl.symm
    have hl3 : l ≤ 3 := by rw [hl]; exact Nat.le_trans (nz_len _) (by simp)
    have HSN : Hid (nz ([x, y, z].take (2)) = nz ([x, y, z].take 1) ++ (if y = 0 then [] else [y])) := nz_snoc ([x, y, z].take 1) y
    clear hl
    by_cases h0 : y = 0
    ·have b0 : ((y : Int) != 0) = false := by simp; omega
     rw [if_pos h0, List.append_nil] at HSN
     clear h0
     go_wp2_with fail
     rw [(run_idx x y z wr).2.1]
     go_wp2_with fail
     exact ⟨⟨2, l, op, oc, by omega, by go_num, rfl, by rw [HSN.out]; exact HLT.out.symm, by unfold Hid; rw [HSN.out]; exact hO.out, hB⟩, by simp [intOf]⟩
    ·have b0 : ((y : Int) != 0) = true := by simp; omega
     rw [if_neg h0] at HSN
     have HSL : Hid ((nz ([x, y, z].take 1) ++ [y]).length = l + 1) := by unfold Hid; rw [List.length_append, HLT.out]; rfl
     clear h0
     go_wp2_with fail
     rw [(run_idx x y z wr).2.1]
     go_wp2_with (at_builtin; refine app1K_law wr rfl (.tmp 12) (.tmp 14) rfl w.heap.size (.slice op l oc) (nz ([x, y, z].take 1)) y (by simp [Act.eval]) hO.out (by simp [Act.eval]) (by rw [HLT.out]; omega) hws ?_; intro v5 w5 ho5 hb5 hbt5; obtain ⟨p5, c5, hv5⟩ := owns_form ho5; rw [HSL.out] at hv5; subst hv5; have HO5 := mkC ho5; have HB5 := mkC hb5; clear ho5 hb5 hbt5)
     exact ⟨⟨2, l + 1, p5, c5, by omega, by go_num, rfl, by rw [HSN.out]; exact HSL.out.symm, by unfold Hid; rw [HSN.out]; exact HO5.out, hB.out.trans HB5.out⟩, by simp [intOf]⟩
   ·have HLT : Hid ((nz ([x, y, z].take 2)).length = l) := hl.symm
    have hl3 : l ≤ 3 := by rw [hl]; exact Nat.le_trans (nz_len _) (by simp)
    have HSN : Hid (nz ([x, y, z].take (3)) = nz ([x, y, z].take 2) ++ (if z = 0 then [] else [z])) := nz_snoc ([x, y, z].take 2) z
    clear hl
    by_cases h0 : z = 0
    ·have b0 : ((z : Int) != 0) = false := by simp; omega
     rw [if_pos h0, List.append_nil] at HSN
     clear h0
     go_wp2_with fail
     rw [(run_idx x y z wr).2.2]
     go_wp2_with fail
     exact ⟨⟨3, l, op, oc, by omega, by go_num, rfl, by rw [HSN.out]; exact HLT.out.symm, by unfold Hid; rw [HSN.out]; exact hO.out, hB⟩, by simp [intOf]⟩
    ·have b0 : ((z : Int) != 0) = true := by simp; omega
     rw [if_neg h0] at HSN
     have HSL : Hid ((nz ([x, y, z].take 2) ++ [z]).length = l + 1) := by unfold Hid; rw [List.length_append, HLT.out]; rfl
     clear h0
     go_wp2_with fail
     rw [(run_idx x y z wr).2.2]
     go_wp2_with (at_builtin; refine app1K_law wr rfl (.tmp 12) (.tmp 14) rfl w.heap.size (.slice op l oc) (nz ([x, y, z].take 2)) z (by simp [Act.eval]) hO.out (by simp [Act.eval]) (by rw [HLT.out]; omega) hws ?_; intro v5 w5 ho5 hb5 hbt5; obtain ⟨p5, c5, hv5⟩ := owns_form ho5; rw [HSL.out] at hv5; subst hv5; have HO5 := mkC ho5; have HB5 := mkC hb5; clear ho5 hb5 hbt5)
     exact ⟨⟨3, l + 1, p5, c5, by omega, by go_num, rfl, by rw [HSN.out]; exact HSL.out.symm, by unfold Hid; rw [HSN.out]; exact HO5.out, hB.out.trans HB5.out⟩, by simp [intOf]⟩
  ·obtain rfl : i = 3 := by omega
   clear hl
   go_wp2_with fail
   go_ret
   exact ⟨_, rfl, hO.out, hB.out⟩
def TbP (w : World) : Prop := ∀ p, p < 22 → ∃ x y z : Nat, (nz [x, y, z]).length = primA p ∧ w.cell? ⟨1, p * 5, none⟩ = some (.string (primS p)) ∧ w.cell? ⟨1, p * 5 + 1, none⟩ = some (.int .u16 (x : Nat)) ∧ w.cell? ⟨1, p * 5 + 2, none⟩ = some (.int .u16 (y : Nat)) ∧ w.cell? ⟨1, p * 5 + 3, none⟩ = some (.int .u16 (z : Nat))
theorem TbP.lt {w : World} (h : TbP w) : 1 < w.heap.size := by
 obtain ⟨_, _, _, _, h1, _⟩ := h 0 (by omega)
 exact World.block_lt_of_cell? w _ h1
theorem TbP.below {w w' : World} (h : TbP w) (hb : Below w.heap.size w w') : TbP w' := fun p hp => by
 have hl := h.lt
 obtain ⟨x, y, z, h0, h1, h2, h3, h4⟩ := h p hp
 exact ⟨x, y, z, h0, cell_keepC hb hl h1, cell_keepC hb hl h2, cell_keepC hb hl h3, cell_keepC hb hl h4⟩
set_option maxRecDepth 20000 in
set_option maxHeartbeats 2000000 in
theorem primitiveNumber_c (x : List Int) (w : World) (ht : TbP w) (hx : Rg x) : Calls Tryz.prog 185 #[.string (strOfNums x)] w fun e w' => w' = w ∧ ((e = .returned (.tuple #[.int .i64 0, .bool false]) ∧ ∀ j, j < 22 → primX j ≠ x) ∨ ∃ j : Nat, j < 22 ∧ e = .returned (.tuple #[.int .i64 (j : Nat), .bool true]) ∧ (∀ i, i < j → primX i ≠ x) ∧ primX j = x) := by
 have HT := mkC ht
 have HX := mkC hx
 obtain ⟨st, hst⟩ : ∃ st, st = strOfNums x := ⟨_, rfl⟩
 have HST := mkC hst
 rw [← hst]
 clear ht hx hst
 go_enter Tryz.func185, Tryz.ntmps185
 go_wp2_with fail
 go_loopw [5] (fun iv wr => ∃ i : Nat, i ≤ 22 ∧ iv = .int .i64 (i : Nat) ∧ wr = w ∧ Hid (∀ j, j < i → primX j ≠ x)) (fun iv _ => 22 - (intOf iv).toNat)
 case atStart => exact ⟨0, Nat.zero_le _, rfl, rfl, fun j hj => absurd hj (Nat.not_lt_zero j)⟩
 case round =>
  obtain ⟨i, hi, rfl, hwr, hJ⟩ := hrel
  have hwr' := hwr.symm
  clear hwr
  subst hwr'
  by_cases hlt : i < 22
  ·obtain ⟨_, _, _, _, y0, _⟩ := HT.out i hlt
   have HEQ := mkC (str_eqb HX.out (primX_rg i hlt))
   obtain ⟨s1, hs1⟩ : ∃ s1, s1 = primS i := ⟨_, rfl⟩
   rw [← hs1] at y0
   unfold primS at hs1
   rw [← HST.out, ← hs1] at HEQ
   clear hs1
   by_cases hxe : primX i = x
   ·have heq : (s1.toList == st.toList) = true := by rw [HEQ.out]; exact decide_eq_true hxe
    have HPO := mkC hxe
    clear HEQ hxe
    go_wp2_with fail
    exact bodyPost_ret (v := .tuple #[.int .i64 (i : Nat), .bool true]) (by simp [results, Tryz.results185, go_sem]) rfl ⟨rfl, Or.inr ⟨i, hlt, rfl, hJ.out, HPO.out⟩⟩
   ·have heq : (s1.toList == st.toList) = false := by rw [HEQ.out]; exact decide_eq_false hxe
    clear HEQ
    have HNX := mkC hxe
    clear hxe
    go_wp2_with fail
    exact ⟨⟨i + 1, by omega, by go_num, trivial, fun j hj => by rcases (show j < i ∨ j = i by omega) with h1 | h1; exact hJ.out j h1; rw [h1]; exact HNX.out⟩, by simp [intOf]; omega⟩
  ·obtain rfl : i = 22 := by omega
   have HNO := mkC hJ.out
   go_wp2_with fail
   exact bodyPost_ret (v := .tuple #[.int .i64 0, .bool false]) (by simp [results, Tryz.results185, go_sem]) rfl ⟨rfl, Or.inl ⟨rfl, HNO.out⟩⟩
theorem prim_dec (x : List Int) : (∃ j, j < 22 ∧ primX j = x ∧ ∀ i, i < j → primX i ≠ x) ∨ ∀ j, j < 22 → primX j ≠ x := by
 by_cases h : ∃ j, j < 22 ∧ primX j = x ∧ ∀ i, i < j → primX i ≠ x
 ·exact Or.inl h
 ·refine Or.inr (fun j => ?_)
  induction j using Nat.strongRecOn with
  | ind j ih =>
   intro hj e
   exact h ⟨j, hj, e, fun i hi => ih i hi (by omega)⟩
theorem primNumber_y (x : List Int) (w : World) (ht : TbP w) (hx : Rg x) {j : Nat} (hj : j < 22) (h1 : primX j = x) (h2 : ∀ i, i < j → primX i ≠ x) : Calls Tryz.prog 185 #[.string (strOfNums x)] w fun e w' => e = .returned (.tuple #[.int .i64 (j : Nat), .bool true]) ∧ w' = w := by
 refine (primitiveNumber_c x w ht hx).mono ?_
 rintro e w' ⟨rfl, ⟨_, h3⟩ | ⟨i, hi, rfl, h4, h5⟩⟩
 ·exact absurd h1 (h3 j hj)
 ·obtain rfl : i = j := by
   rcases Nat.lt_trichotomy i j with h6 | h6 | h6
   ·exact absurd h5 (h2 i h6)
   ·exact h6
   ·exact absurd h1 (h4 j h6)
  exact ⟨rfl, rfl⟩
theorem primNumber_n (x : List Int) (w : World) (ht : TbP w) (hx : Rg x) (h : ∀ j, j < 22 → primX j ≠ x) : Calls Tryz.prog 185 #[.string (strOfNums x)] w fun e w' => e = .returned (.tuple #[.int .i64 0, .bool false]) ∧ w' = w := by
 refine (primitiveNumber_c x w ht hx).mono ?_
 rintro e w' ⟨rfl, ⟨rfl, _⟩ | ⟨i, hi, _, _, h5⟩⟩
 ·exact ⟨rfl, rfl⟩
 ·exact absurd h5 (h i hi)
theorem TbP.up {w w' : World} (h : TbP w) (hb : Below w.heap.size w w') : TbP w' := h.below hb
set_option maxRecDepth 20000 in
set_option maxHeartbeats 2000000 in
theorem primitive_c {c : Cx} {db dof k : Nat} (hE : ExpC c db dof k) (S : Nat → Prop) (s : Sg) (N : Nat) (w : World) (j : Nat) (hj : j < 22) (p : Option Addr) (n cc : Nat) (es : List Pe) (ht : TbP c.w0) (h : PgI c N w s) (hes : EsR c db dof S k w p n cc es) (hn3 : n ≤ 3000) (hN : N + sumB k (Cp.at_ c (es.map (·.1))) ≤ 1000000000) :
  Calls Tryz.prog 186 #[.pointer (some ⟨s.pb, 0, none⟩), .int .i64 (j : Nat), .slice p n cc] w fun r w' => RdQ c (N + sumB k (Cp.at_ c (es.map (·.1)))) s (if es.length = primA j then allO (rd (s.gls.map (·.x)) k (s.sc.map (·.x))) (Cp.at_ c (es.map (·.1))) else none) w w' r (fun u _ => MkV u) := by
 obtain ⟨W, hW⟩ : ∃ W, W = w.alloc (.cells #[.int .i64 (j : Nat)] 3) := ⟨_, rfl⟩
 have hbW : Below w.heap.size w W := by rw [hW]; exact below1 _ _
 have hbc : Below c.w0.heap.size c.w0 W := h.bel.trans (hbW.mono h.bel.size)
 have htl := ht.lt
 obtain ⟨x, y, z, hnz, _, y1, y2, y3⟩ := ht j hj
 have k1 := (h.bel.cell (p := ⟨1, j * 5 + 1, none⟩) htl).trans y1
 have k2 := (h.bel.cell (p := ⟨1, j * 5 + 2, none⟩) htl).trans y2
 have k3 := (h.bel.cell (p := ⟨1, j * 5 + 3, none⟩) htl).trans y3
 have hgw : 1 < w.heap.size := Nat.lt_of_lt_of_le htl h.bel.size
 have hl := hes.1
 have HL : Hid (Calls Tryz.prog 197 #[.agg #[.int .u16 (x : Nat), .int .u16 (y : Nat), .int .u16 (z : Nat)]] W fun e w' => ∃ p1 c1, e = .returned (.slice p1 (primA j) c1) ∧ Below W.heap.size W w') := by
  refine (list_c x y z W).mono ?_
  rintro e w' ⟨u, rfl, h1, h2⟩
  obtain ⟨p1, c1, e1⟩ := owns_form h1
  rw [hnz] at e1
  exact ⟨p1, c1, by rw [e1], h2⟩
 have HX : Hid (∀ w1, Below W.heap.size W w1 → Calls Tryz.prog 93 #[.pointer (some ⟨s.pb, 0, none⟩), .slice p n cc] w1 fun r w' => RdQ c (N + sumB k (Cp.at_ c (es.map (·.1)))) s (allO (rd (s.gls.map (·.x)) k (s.sc.map (·.x))) (Cp.at_ c (es.map (·.1)))) w w' r (MkR w1.heap.size n)) := fun w1 hb1 => by
  have hb2 := hbW.trans (hb1.mono hbW.size)
  have h1 := h.below hb2
  refine (expressions_c hE S s N w1 p n cc es h1.1 (hes.below hb2) hn3 hN).mono ?_
  intro r w' hr
  cases e : allO (rd (s.gls.map (·.x)) k (s.sc.map (·.x))) (Cp.at_ c (es.map (·.1))) with
  | none => rw [e] at hr; exact hr
  | some ns =>
   rw [e] at hr
   obtain ⟨u, s', rfl, h2, h3, h4, h5, h6⟩ := hr
   exact ⟨u, s', rfl, h2, h3, h1.2.trans h4, h5, h6⟩
 have HW := mkC hW
 have HBC := mkC hbc
 have h22 : primA j ≤ 3 := by rw [← hnz]; exact nz_len _
 generalize primA j = ar at HL h22
 generalize allO (rd (s.gls.map (·.x)) k (s.sc.map (·.x))) (Cp.at_ c (es.map (·.1))) = ro at HX
 generalize N + sumB k (Cp.at_ c (es.map (·.1))) = NN at HX
 rw [hl]
 clear h hes hE hbW hbc hW ht htl y1 y2 y3 hnz hl hN
 by_cases hn : n = ar
 ·subst hn
  rw [if_pos rfl]
  go_enter Tryz.func186, Tryz.ntmps186
  go_wp2_with fail
  rw [← HW.out]
  refine HL.out.mono ?_
  rintro r w1 ⟨p1, c1, rfl, hb1⟩
  have HB1 := mkC hb1
  clear hb1
  go_wp2_with fail
  refine (needGrammar_t w1).mono ?_
  rintro r w2 ⟨⟨u, rfl⟩, hw2⟩
  have hw2' := hw2.symm
  clear hw2
  subst hw2'
  go_wp2_with fail
  refine (HX.out w1 HB1.out).mono ?_
  intro r w2 hr
  cases ro with
  | none =>
   obtain ⟨rfl, hb3⟩ := hr
   exact ⟨rfl, rfl, hb3⟩
  | some ns =>
   obtain ⟨u, s', rfl, ⟨us, q1, q2, q3⟩, h1, h2, h3, h4⟩ := hr
   obtain ⟨vp, vc, rfl⟩ := owns_form q3
   have HF : Hid (∀ u', MkV u' → RdQ c NN s (some ns) w (w2.alloc (.cells #[.slice vp n vc] 150)) (.returned u') (fun u _ => MkV u)) := fun u' hu' => RdQ.then_ ⟨h1, h2, h3, h4⟩ (below1 _ _) hu'
   clear h1 h2 h3 h4 q1 q2 q3
   go_wp2_with fail
   go_ret
   exact HF.out _ ⟨_, _, _, rfl⟩
 ·rw [if_neg hn]
  have t1 : ((n : Int) == (ar : Int)) = false := by simp; omega
  clear HX hn
  go_enter Tryz.func186, Tryz.ntmps186
  go_wp2_with fail
  rw [← HW.out]
  refine HL.out.mono ?_
  rintro r w1 ⟨p1, c1, rfl, hb1⟩
  have HB1 := mkC (HBC.out.trans (hb1.mono HBC.out.size))
  clear hb1
  go_wp2_with fail
  refine (needGrammar_f w1).mono ?_
  rintro r w2 ⟨rfl, hw2⟩
  have hw2' := hw2.symm
  clear hw2
  subst hw2'
  exact ⟨rfl, rfl, HB1.out⟩
end Cp
end Go.Proofs.YtnnpfoilojicjaaGreatDoor
