import Derived.Test.YtnnpfoilojicjaaGreatDoorJs
namespace Go.Proofs.YtnnpfoilojicjaaGreatDoor
open Go.RowKit Ch1
namespace Cp
attribute [local go_sem] run_store_fn
theorem sumS_ge {k : Nat} {ls : List (List Dt)} (h : ∀ l ∈ ls, Ok k l) : ls.length ≤ sumS k ls := by
 induction ls with
 | nil => exact Nat.zero_le _
 | cons l ls ih =>
  have h1 := sz_pos (h l (List.mem_cons_self ..))
  have h2 := ih (fun x hx => h x (List.mem_cons_of_mem _ hx))
  have e2 : sumS k (l :: ls) = sz k l + sumS k ls := rfl
  rw [e2, List.length_cons]
  omega
theorem kids_lt {k : Nat} {l : List Dt} (h : Ok k l) : (kidsOf k l).length + 1 ≤ sz k l := by
 by_cases hl : isLs l = true
 ·have h1 := kids_sumK h hl
  have h2 := sumS_ge (k := k) (ls := kidsOf k l) (fun x hx => ((kids_ok h).1 x hx).mono (Nat.sub_le k 1))
  omega
 ·unfold kidsOf
  rw [if_neg hl]
  exact sz_pos h
theorem Pt.sz_le {c : Cx} {db dof k : Nat} {S : Nat → Prop} {w : World} {e : Pe} (hx : PgX c db dof) (h : Pt c db dof S w k e) : sz k (c.ds.drop e.1) ≤ 3000 := by
 obtain ⟨_, h2, _⟩ := h.ok
 obtain ⟨j, _, h5, h6, h7⟩ := h2.end_
 have := hx.da.len
 have := hx.dn
 omega
theorem Pt.esr2 {c : Cx} {db dof k : Nat} {S : Nat → Prop} {w : World} {e : Pe} (hx : PgX c db dof) (h : Pt c db dof S w k e) : ∃ (p : Option Addr) (n cc : Nat) (es : List Pe), e.2.2 = .slice p n cc ∧ EsR c db dof S (k - 1) w p n cc es ∧ Cp.at_ c (es.map (·.1)) = kidsOf k (c.ds.drop e.1) ∧ n ≤ 3000 ∧ 3 * n + 10000 ≤ bud k (c.ds.drop e.1) := by
 obtain ⟨p, cc, es, h1, h2, h3⟩ := h.esr
 have h4 := kids_lt h.ok.2.1
 have h5 := h.sz_le hx
 have h6 : es.length = (kidsOf k (c.ds.drop e.1)).length := by rw [← h3]; simp [Cp.at_]
 exact ⟨p, es.length, cc, es, h1, h2, h3, by omega, by unfold bud; omega⟩
theorem lamQ_bad {k : Nat} {F : List (List Int) → List Dt → Option (List (List Int))} {sc : List (List Int)} {a : List Dt} {b : List (List Dt)} (h : isLs a = false) : lamR k F sc (a :: b) = none := by
 simp only [lamR]
 rw [if_neg (by rw [h]; simp)]
theorem lamQ_eq {k : Nat} {F : List (List Int) → List Dt → Option (List (List Int))} {sc : List (List Int)} {a : List Dt} {b : List (List Dt)} (h : isLs a = true) : lamR k F sc (a :: b) = (nmsOf (kidsOf k a)).bind (fun ns => if b = [] then none else allO (F (sc ++ ns)) b) := by
 simp only [lamR]
 by_cases hb : b = []
 ·rw [if_neg (fun h1 => h1.2 hb)]
  cases nmsOf (kidsOf k a) with
  | none => rfl
  | some ns =>
   simp only [Option.bind_some]
   rw [if_pos hb]
 ·rw [if_pos ⟨h, hb⟩]
  cases nmsOf (kidsOf k a) with
  | none => rfl
  | some ns =>
   simp only [Option.bind_some]
   rw [if_neg hb]
def BnQ (c : Cx) (M B : Nat) (s : Sg) (o : Option (List (List Int))) (w w' : World) (v : Value) : Prop := ∃ (vp : Option Addr) (vn vc : Nat) (bs : List Pv) (s' : Sg), v = .slice vp vn vc ∧ bs.length = vn ∧ BdI B w' v bs ∧ o = some (bs.map (·.x)) ∧ PgI c M w' s' ∧ FrP s s' w w' ∧ SmP s s' ∧ s'.ub = s.ub
theorem BdI.lower {B B' : Nat} {w : World} {v : Value} {bs : List Pv} (h : BdI B w v bs) (hB : B' ≤ B) : BdI B' w v bs := ⟨owns_weak h.row hB, fun u hu => ⟨(h.vrs u hu).1, Nat.le_trans hB (h.vrs u hu).2.1, (h.vrs u hu).2.2⟩⟩
def BxV (c : Cx) (M B : Nat) (s : Sg) (o : Option (List (List Int))) (w w' : World) (v : Value) : Prop := ∃ (bb : Nat) (vp : Option Addr) (vn vc : Nat) (bs : List Pv) (s' : Sg), v = .pointer (some ⟨bb, 0, none⟩) ∧ w'.heap[bb]? = some (.cells #[.slice vp vn vc] 56) ∧ w.heap.size ≤ bb ∧ bs.length = vn ∧ BdI B w' (.slice vp vn vc) bs ∧ o = some (bs.map (·.x)) ∧ PgI c M w' s' ∧ FrP s s' w w' ∧ SmP s s' ∧ s'.ub = s.ub
theorem BnQ.new {c : Cx} {M B : Nat} {s : Sg} {o : Option (List (List Int))} {w w' : World} {v : Value} (h : BnQ c M B s o w w' v) : BxV c M B s o w (w'.alloc (.cells #[v] 56)) (.pointer (some ⟨w'.heap.size, 0, none⟩)) := by
 obtain ⟨vp, vn, vc, bs, s', rfl, h2, h3, h4, h5, h6, h7, h8⟩ := h
 have hb := below1 w' (.cells #[.slice vp vn vc] 56)
 have h9 := h5.below hb
 exact ⟨w'.heap.size, vp, vn, vc, bs, s', rfl, Go.Deep.blk_alloc_new _ _, h6.size, h2, h3.below hb, h4, h9.1, h6.trans h9.2, h7, h8⟩
theorem BnQ.put {c : Cx} {M B bb : Nat} {s : Sg} {o : Option (List (List Int))} {w w' : World} {v v0 : Value} (h : BnQ c M B s o w w' v) (hb : w'.heap[bb]? = some (.cells #[v0] 56)) (hbb : w.heap.size ≤ bb) (hc : c.w0.heap.size ≤ bb) : BxV c M B s o w (w'.setCell ⟨bb, 0, none⟩ v) (.pointer (some ⟨bb, 0, none⟩)) := by
 obtain ⟨vp, vn, vc, bs, s', rfl, h2, h3, h4, h5, h6, h7, h8⟩ := h
 have hst : ∀ {j : Nat} {cur : Array Value} {t : TypeId}, w'.heap[j]? = some (Obj.cells cur t) → t ≠ 56 → (w'.setCell ⟨bb, 0, none⟩ (.slice vp vn vc)).heap[j]? = w'.heap[j]? := fun {j cur t} hj ht => set_keep _ (fun e => by
  subst e
  rw [hb] at hj
  cases hj
  exact ht rfl)
 have hnf := h5.not_fq hb (by decide) (by decide) (by decide) (by decide) (by decide)
 refine ⟨bb, vp, vn, vc, bs, s', rfl, ?_, hbb, h2, h3.of (fun j cur t _ ht hj => hst hj (by rcases ht with rfl | rfl <;> decide)), h4, h5.setBox hc hb hnf _, ?_, h7, h8⟩
 ·simp [World.setCell, Array.getElem?_modify, hb]
 ·exact ⟨by rw [set_size]; exact h6.size, fun k hk hn => (set_keep _ (by omega)).trans (h6.keep k hk hn), h6.foot⟩
theorem bind_q {c : Cx} {db dof k : Nat} (hx : PgX c db dof) (S : Nat → Prop) (s : Sg) (N B : Nat) (w W : World) (p : Option Addr) (n cc : Nat) (es : List Pe) (h : PgI c N w s) (hes : EsR c db dof S k w p n cc es) (hn3 : n ≤ 3000) (hN : N + n ≤ 1000000000) (hB : B ≤ w.heap.size) (hb : Below w.heap.size w W) :
  Calls Tryz.prog 98 #[.pointer (some ⟨s.pb, 0, none⟩), .slice p n cc] W fun e w' => (∃ v, e = .returned v ∧ BnQ c (N + n) B s (nmsOf (Cp.at_ c (es.map (·.1)))) w w' v ∧ ∀ (b : Nat) (a : Array Value), W.heap[b]? = some (.cells a 56) → w'.heap[b]? = some (.cells a 56)) ∨ (∃ ch, e = .panicked ch ∧ .panicked ch = gramE ∧ nmsOf (Cp.at_ c (es.map (·.1))) = none ∧ Below c.w0.heap.size c.w0 w') := by
 have h1 := h.below hb
 refine (bind_c hx S s N W p n cc es h1.1 (hes.below hb) hn3 hN).mono ?_
 intro e w' hr
 generalize nmsOf (Cp.at_ c (es.map (·.1))) = o at hr
 cases o with
 | none =>
  obtain ⟨rfl, h2⟩ := hr
  exact Or.inr ⟨_, rfl, rfl, rfl, h2⟩
 | some ns =>
  obtain ⟨v, bs, s', rfl, g1, rfl, g3, g4, g5, g6⟩ := hr
  obtain ⟨vp, vc, rfl⟩ := owns_form g1.row
  exact Or.inl ⟨_, rfl, ⟨vp, bs.length, vc, bs, s', rfl, rfl, g1.lower (Nat.le_trans hB hb.size), rfl, g3, h1.2.trans g4, g5, g6⟩, fun b a hba => (g4.keep b (Array.getElem?_eq_some_iff.1 hba).1 (h1.1.not_fq hba (by decide) (by decide) (by decide) (by decide) (by decide))).trans hba⟩
def OuQ (c : Cx) (M : Nat) (s : Sg) (o : Option (List (List Int))) (w w' : World) (r : Ending) (A : Value → World → Prop) : Prop := match o with
 | none => r = gramE ∧ Below c.w0.heap.size c.w0 w'
 | some ns => (∃ u, r = .returned u) ∧ ∀ u, A u w' → RdQ c M s (some ns) w w' (.returned u) A
theorem RdX.out_ {c : Cx} {N M : Nat} {X : Nat → Prop} {s s1 : Sg} {o : Option (List (List Int))} {w w1 w' : World} {r : Ending} {A : Value → World → Prop} (h : RdX c N X s1 o w1 w' r) (hf : FrP s s1 w w1) (hs : SmP s s1) (hu : s1.ub = s.ub) (hx : ∀ j, X j → w.heap.size ≤ j) (hN : N ≤ M) : OuQ c M s o w w' r A := by
 cases o with
 | none => exact h
 | some ns =>
  obtain ⟨u, s', rfl, g1, g2, g3, g4⟩ := h
  exact ⟨⟨u, rfl⟩, fun u' hA => ⟨u', s', rfl, hA, g1.mono hN, hf.then_x g2 hx, hs.trans g3, by rw [g4, hu]⟩⟩
theorem FrX.keepB {c : Cx} {N : Nat} {bs : List Pv} {s s1 : Sg} {w W : World} (hf : FrX (Bb bs) s s1 w W) (h : PgI c N w s) (hb : ∀ v ∈ bs, VrI w v) {j : Nat} {cur : Array Value} {t : TypeId} (hj : w.heap[j]? = some (.cells cur t)) (h1 : t ≠ 59) (h2 : t ≠ 107) (h3 : t ≠ 9) (h4 : t ≠ 111) (h5 : t ≠ 175) : W.heap[j]? = some (.cells cur t) := by
 refine (hf.keep j (Array.getElem?_eq_some_iff.1 hj).1 (h.not_fq hj h1 h2 h3 h4 h5) ?_).trans hj
 rintro ⟨v, hv, rfl⟩
 obtain ⟨n, g, bx, h6⟩ := hb v hv
 rw [hj] at h6
 cases h6
 exact h5 rfl
theorem FrP.keepB {c : Cx} {N : Nat} {s s1 : Sg} {w W : World} (hf : FrP s s1 w W) (h : PgI c N w s) {j : Nat} {cur : Array Value} {t : TypeId} (hj : w.heap[j]? = some (.cells cur t)) (h1 : t ≠ 59) (h2 : t ≠ 107) (h3 : t ≠ 9) (h4 : t ≠ 111) (h5 : t ≠ 175) : W.heap[j]? = some (.cells cur t) :=
 (hf.keep j (Array.getElem?_eq_some_iff.1 hj).1 (h.not_fq hj h1 h2 h3 h4 h5)).trans hj
theorem nms_len {ls : List (List Dt)} {ns : List (List Int)} (h : nmsOf ls = some ns) : ns.length = ls.length := by
 unfold nmsOf at h
 split at h
 ·cases h
  simp
 ·cases h
theorem at_nil {c : Cx} {es : List Pe} : Cp.at_ c (es.map (·.1)) = [] ↔ es = [] := by
 constructor
 ·intro h
  simpa [Cp.at_] using h
 ·rintro rfl
  rfl
attribute [local go_sem] run_store_fn
theorem boxes2 {w w1 : World} {a b : Value} {t u : TypeId} (hb : Below ((w.alloc (.cells #[a] t)).alloc (.cells #[b] u)).heap.size ((w.alloc (.cells #[a] t)).alloc (.cells #[b] u)) w1) : w1.heap[w.heap.size]? = some (.cells #[a] t) ∧ w1.heap[w.heap.size + 1]? = some (.cells #[b] u) := by
 constructor
 ·refine (hb.block _ (by simp; omega)).trans ?_
  rw [(below1 (w.alloc (.cells #[a] t)) (.cells #[b] u)).block _ (by simp)]
  exact Go.Deep.blk_alloc_new _ _
 ·refine (hb.block _ (by simp)).trans ?_
  have h := Go.Deep.blk_alloc_new (w.alloc (.cells #[a] t)) (.cells #[b] u)
  rw [World.size_alloc] at h
  exact h
set_option maxRecDepth 20000 in
set_option maxHeartbeats 4000000 in
theorem lambda_c {c : Cx} {db dof k : Nat} (hx : PgX c db dof) (hE : ExpC c db dof k) (S : Nat → Prop) (s : Sg) (N : Nat) (w : World) (p : Option Addr) (n cc : Nat) (es : List Pe) (h : PgI c N w s) (hes : EsR c db dof S k w p n cc es) (hn3 : n ≤ 3000) (hN : N + sumB k (Cp.at_ c (es.map (·.1))) ≤ 1000000000) :
  Calls Tryz.prog 51 #[.pointer (some ⟨s.pb, 0, none⟩), .slice p n cc] w fun r w' => RdQ c (N + sumB k (Cp.at_ c (es.map (·.1)))) s (lamR k (rd (s.gls.map (·.x)) k) (s.sc.map (·.x)) (Cp.at_ c (es.map (·.1)))) w w' r (fun u _ => MkV u) := by
 obtain ⟨W0, hW0⟩ : ∃ W0, W0 = (w.alloc (.cells #[.pointer (some ⟨s.pb, 0, none⟩)] 49)).alloc (.cells #[.slice p n cc] 71) := ⟨_, rfl⟩
 have hb0 : Below w.heap.size w W0 := by rw [hW0]; exact below2 _ _ _
 have hbc0 : Below c.w0.heap.size c.w0 W0 := h.bel.trans (hb0.mono h.bel.size)
 have HW0 := mkC hW0
 have HBC0 := mkC hbc0
 have HI := mkC h
 cases es with
 | nil =>
  obtain rfl : n = 0 := hes.1.symm
  clear h hes hE hN hW0 hb0 hbc0
  go_enter Tryz.func51, Tryz.ntmps51
  go_wp2_with fail
  rw [← HW0.out]
  refine (needGrammar_f W0).mono ?_
  rintro r w1 ⟨rfl, hw1⟩
  have hw1' := hw1.symm
  clear hw1
  subst hw1'
  exact ⟨rfl, rfl, HBC0.out⟩
 | cons e es =>
  obtain ⟨m, rfl⟩ : ∃ m, n = m + 1 := ⟨es.length, by have := hes.1; simpa using this.symm⟩
  obtain ⟨g, o, cur, rfl, hg, hcl⟩ := hes.2.2.1 (by omega)
  obtain ⟨y0, y1⟩ := hcl 0 (by simp)
  simp only [List.getElem_cons_zero, Nat.zero_mul, Nat.add_zero] at y0 y1
  have hgl := (Array.getElem?_eq_some_iff.1 hg).1
  have hncc := hes.2.1
  have hpt := hes.2.2.2 e (List.mem_cons_self ..)
  obtain ⟨so, sn, sc, hdv⟩ : ∃ so sn sc, e.2.1 = .slice (some ⟨db, so, none⟩) sn sc := ⟨_, _, _, hpt.ok.1⟩
  obtain ⟨ep, eN, eC, els, hev, hels, hkid, hel3, hbud⟩ := hpt.esr2 hx
  have hIL := isList_c hx W0 hbc0 (hpt.below hb0)
  rw [hdv, hev] at hIL
  rw [hdv] at y0
  rw [hev] at y1
  have hat : Cp.at_ c ((e :: es).map (·.1)) = c.ds.drop e.1 :: Cp.at_ c (es.map (·.1)) := rfl
  have hsum : sumB k (Cp.at_ c ((e :: es).map (·.1))) = bud k (c.ds.drop e.1) + 10 + sumB k (Cp.at_ c (es.map (·.1))) := by rw [hat]; rfl
  have hgrow : ∀ w1, Below W0.heap.size W0 w1 → Below w.heap.size w w1 := fun w1 hb => hb0.trans (hb.mono hb0.size)
  have HCELL : Hid (∀ w1, Below W0.heap.size W0 w1 → w1.cell? ⟨g, o, none⟩ = some (.slice (some ⟨db, so, none⟩) sn sc) ∧ w1.cell? ⟨g, o + 1, none⟩ = some (.slice ep eN eC) ∧ w1.heap[w.heap.size]? = some (.cells #[.pointer (some ⟨s.pb, 0, none⟩)] 49) ∧ w1.heap[w.heap.size + 1]? = some (.cells #[.slice (some ⟨g, o, none⟩) (m + 1) cc] 71)) := fun w1 hb => ⟨cell_keepC (hgrow w1 hb) hgl y0, cell_keepC (hgrow w1 hb) hgl y1, (boxes2 (by rw [← hW0]; exact hb)).1, (boxes2 (by rw [← hW0]; exact hb)).2⟩
  have HIL := mkC hIL
  cases hls : isLs (c.ds.drop e.1) with
  | false =>
   rw [hls] at HIL
   rw [hat, lamQ_bad hls]
   have HBC1 : Hid (∀ w1, Below W0.heap.size W0 w1 → Below c.w0.heap.size c.w0 w1) := fun w1 hb => hbc0.trans (hb.mono hbc0.size)
   clear h hes hE hN hb0 hbc0 hcl hg hpt hdv hev hels hkid hIL hat hsum hgrow hls hW0
   go_enter Tryz.func51, Tryz.ntmps51
   go_wp2_with fail
   rw [← HW0.out]
   refine HIL.out.mono ?_
   rintro r w1 ⟨rfl, hb1⟩
   have HB1 := mkC (HBC1.out w1 hb1)
   clear hb1
   go_wp2_with fail
   refine (needGrammar_f w1).mono ?_
   rintro r w2 ⟨rfl, hw2⟩
   have hw2' := hw2.symm
   clear hw2
   subst hw2'
   exact ⟨rfl, rfl, HB1.out⟩
  | true =>
   rw [hls] at HIL
   rw [hat, lamQ_eq hls, ← hkid]
   have HBI : Hid (∀ w1, Below W0.heap.size W0 w1 → ∀ W, Below w1.heap.size w1 W → Calls Tryz.prog 98 #[.pointer (some ⟨s.pb, 0, none⟩), .slice ep eN eC] W fun r w' => (∃ v, r = .returned v ∧ BnQ c (N + eN) w.heap.size s (nmsOf (Cp.at_ c (els.map (·.1)))) w1 w' v ∧ ∀ (b : Nat) (a : Array Value), W.heap[b]? = some (.cells a 56) → w'.heap[b]? = some (.cells a 56)) ∨ (∃ ch, r = .panicked ch ∧ .panicked ch = gramE ∧ nmsOf (Cp.at_ c (els.map (·.1))) = none ∧ Below c.w0.heap.size c.w0 w')) := fun w1 hb1 W hb => bind_q hx S s N w.heap.size w1 W ep eN eC els (h.below (hgrow w1 hb1)).1 (hels.below (hgrow w1 hb1)) hel3 (by omega) (hgrow w1 hb1).size hb
   obtain ⟨no, hno⟩ : ∃ no, no = nmsOf (Cp.at_ c (els.map (·.1))) := ⟨_, rfl⟩
   obtain ⟨NN, hNN⟩ : ∃ NN, NN = N + sumB k (c.ds.drop e.1 :: Cp.at_ c (es.map (·.1))) := ⟨_, rfl⟩
   rw [hat] at hsum hN
   obtain ⟨F, hF⟩ : ∃ F : List (List Int) → Option (List (List Int)), F = fun ns => if Cp.at_ c (es.map (·.1)) = [] then none else allO (rd (s.gls.map (·.x)) k (s.sc.map (·.x) ++ ns)) (Cp.at_ c (es.map (·.1))) := ⟨_, rfl⟩
   have HSC : Hid (∀ w1 w3 bb vp vn vc bs s', Below W0.heap.size W0 w1 → w3.heap[bb]? = some (.cells #[.slice vp vn vc] 56) → w1.heap.size ≤ bb → bs.length = vn → BdI w.heap.size w3 (.slice vp vn vc) bs → no = some (bs.map (·.x)) → PgI c (N + eN) w3 s' → FrP s s' w1 w3 → SmP s s' → s'.ub = s.ub → (w3.cell? ⟨w.heap.size, 0, none⟩ = some (.pointer (some ⟨s.pb, 0, none⟩)) ∧ w.heap.size < w3.heap.size ∧ bb < w3.heap.size ∧ w3.cell? ⟨bb, 0, none⟩ = some (.slice vp vn vc)) ∧ Calls Tryz.prog 99 #[.pointer (some ⟨s.pb, 0, none⟩), .slice vp vn vc, .func (.func 100) #[] #[.pointer (some ⟨w.heap.size, 0, none⟩), .pointer (some ⟨w.heap.size + 1, 0, none⟩), .pointer (some ⟨w3.heap.size, 0, none⟩)]] (w3.alloc (.cells #[.nilFunc] 109)) (fun r w' => OuQ c NN s (F (bs.map (·.x))) w w' r (fun u _ => MkV u))) := by
    intro w1 w3 bb vp vn vc bs s' hb1 hbb hbb1 hbl hbd hnos hpg hfr hsm hub
    obtain ⟨_, _, z0, z1⟩ := HCELL.out w1 hb1
    have hI1 := h.below (hgrow w1 hb1)
    have a0 := hfr.keepB hI1.1 z0 (by decide) (by decide) (by decide) (by decide) (by decide)
    have a1 := hfr.keepB hI1.1 z1 (by decide) (by decide) (by decide) (by decide) (by decide)
    have hb34 := below1 w3 (.cells #[.nilFunc] 109)
    have hp4 := hpg.below hb34
    have hbd4 := hbd.below hb34
    have hw3 : w.heap.size ≤ w3.heap.size := Nat.le_trans (hgrow w1 hb1).size hfr.size
    have hvn : vn = eN := by
     have q := nms_len (hno.symm.trans hnos)
     rw [List.length_map, hbl] at q
     rw [q]
     simpa [Cp.at_] using hels.1
    have hes3 := (hes.below (hgrow w1 hb1)).frp hI1.1 hfr
    refine ⟨⟨(cells1 a0).1, (Array.getElem?_eq_some_iff.1 a0).1, (Array.getElem?_eq_some_iff.1 hbb).1, (cells1 hbb).1⟩, ?_⟩
    have hsc := inScopeL_c (c := c) (N := N + eN) (M := N + eN + vn + sumB k (Cp.at_ c (es.map (·.1)))) (s := s') (w3.alloc (.cells #[.nilFunc] 109)) vp vn vc bs w.heap.size w.heap.size (w.heap.size + 1) w3.heap.size (F (bs.map (·.x))) (fun j => j = w3.heap.size) hp4.1 hbd4 hbl h.bel.size (by omega) (fun j hj e' => by
     rw [hsm.scv] at e'
     have := (owns_lt h.sco j e').1
     omega) (fun W s1 g1 g2 g3 g4 g5 g6 => by
      have kb : ∀ {j : Nat} {cur : Array Value} {t : TypeId}, w3.heap[j]? = some (Obj.cells cur t) → t ≠ 59 → t ≠ 107 → t ≠ 9 → t ≠ 111 → t ≠ 175 → W.heap[j]? = some (Obj.cells cur t) := fun {j cur t} hj q1 q2 q3 q4 q5 => g2.keepB hp4.1 (fun v hv => (hbd4.vrs v hv).1) ((hb34.block j (Array.getElem?_eq_some_iff.1 hj).1).trans hj) q1 q2 q3 q4 q5
      have k2 : W.heap[w3.heap.size]? = some (.cells #[.nilFunc] 109) := g2.keepB hp4.1 (fun v hv => (hbd4.vrs v hv).1) (Go.Deep.blk_alloc_new _ _) (by decide) (by decide) (by decide) (by decide) (by decide)
      have hesW := hes3.of (w' := W) (fun j cur hj => (kb hj (by decide) (by decide) (by decide) (by decide) (by decide)).trans hj.symm)
      have q := innerL_c hE S s1 (N + eN + vn) W (some ⟨g, o, none⟩) m cc w.heap.size (w.heap.size + 1) w3.heap.size e es .nilFunc g1 hesW (by omega) (by omega) (by rw [g3, hsm.pb]; exact kb a0 (by decide) (by decide) (by decide) (by decide) (by decide)) (kb a1 (by decide) (by decide) (by decide) (by decide) (by decide)) k2 (Nat.le_trans h.bel.size hw3)
      have e1 : F (bs.map (·.x)) = (if es = [] then none else allO (rd (s1.gls.map (·.x)) k (s1.sc.map (·.x))) (Cp.at_ c (es.map (·.1)))) := by
       rw [hF, g4, g5, hsm.gls, hsm.sc, List.map_append]
       simp only [at_nil]
      rw [e1]
      exact q)
    rw [hsm.pb] at hsc
    refine hsc.mono (fun r w' hr => ?_)
    exact RdX.out_ (M := NN) (A := fun u _ => MkV u) hr ((hI1.2.trans hfr).trans hp4.2) hsm hub (fun j hj => by
     rcases hj with ⟨v, hv, rfl⟩ | rfl
     ·exact (hbd.vrs v hv).2.1
     ·exact hw3) (by rw [hNN, hsum, hvn]; omega)
   have HNO : Hid (∀ ch w', .panicked ch = gramE ∧ no = none ∧ Below c.w0.heap.size c.w0 w' → RdQ c NN s (no.bind F) w w' (.panicked ch) (fun u _ => MkV u)) := fun ch w' hh => by rw [hh.2.1]; exact ⟨hh.1, hh.2.2⟩
   rw [← hno] at HBI ⊢
   rw [← hNN]
   rw [← hF]
   have hcw0 : c.w0.heap.size ≤ w.heap.size := h.bel.size
   have hW0s : w.heap.size ≤ W0.heap.size := hb0.size
   clear h hes hE hN hb0 hbc0 hcl hg hpt hdv hev hels hkid hIL hat hsum hgrow hls hW0 hno hNN hF
   go_enter Tryz.func51, Tryz.ntmps51
   go_wp2_with fail
   rw [← HW0.out]
   refine HIL.out.mono ?_
   rintro r w1 ⟨rfl, hb1⟩
   have HB1 := mkC hb1
   obtain ⟨z0, z1, zp, zq⟩ := HCELL.out w1 hb1
   have zp0 := (cells1 zp).1
   have zq0 := (cells1 zq).1
   have hgl1 : g < w1.heap.size := World.block_lt_of_cell? w1 _ z0
   have hql1 : w.heap.size + 1 < w1.heap.size := World.block_lt_of_cell? w1 _ zq0
   have hpl1 : w.heap.size < w1.heap.size := by omega
   clear hb1 zp zq
   go_wp2_with fail
   refine (needGrammar_t w1).mono ?_
   rintro r w2 ⟨⟨u, rfl⟩, hw2⟩
   have hw2' := hw2.symm
   clear hw2
   subst hw2'
   have HBI1 := mkC (fun W => HBI.out w1 HB1.out W)
   have hw1c : c.w0.heap.size ≤ w1.heap.size := Nat.le_trans hcw0 (Nat.le_trans hW0s HB1.out.size)
   clear HBI HIL
   go_upto_region 2 with fail
   go_cut [5] from 17 (fun v w3 => BxV c (N + eN) w.heap.size s no w1 w3 v)
   case first =>
    go_region_law (refine step_callQ _ rfl 98 _ _ rfl #[.pointer (some ⟨s.pb, 0, none⟩), .slice ep eN eC] ?ha (inBindP _) _ _ (HBI1.out _ ?hbl) ?hq ?_; (case hbl => first | exact below_drewC (Below.refl _ _) | exact below_drewC (below1 _ _)); (case ha => first | (simp [Act.eval]; done) | (simp [Act.eval, Act.put]; done)); (case hq => exact fun ch w' hh => ⟨rfl, HNO.out ch w' hh⟩); rintro v w2 ⟨hbn, hkp⟩; obtain ⟨vp, vn, vc, hvv⟩ : ∃ vp vn vc, v = .slice vp vn vc := ⟨_, _, _, hbn.choose_spec.choose_spec.choose_spec.choose_spec.choose_spec.1⟩; subst hvv; have HBN := mkC hbn; (try (have hbk := hkp w1.heap.size #[.slice none 0 0] (by exact Go.Deep.blk_alloc_new _ _); have zb := (cells1 hbk).1; have zbf := (cells1 hbk).2; have HBK := mkC hbk; clear hbk)); clear hbn hkp)
    all_goals (go_step; go_step; go_meet)
    all_goals first | exact HBN.out.new | exact HBN.out.put HBK.out (Nat.le_refl _) hw1c
   case rest =>
   obtain ⟨bb, vp, vn, vc, bs, s', rfl, hbb, hbb1, hbl, hbd, hnos, hpg, hfr, hsm, hub⟩ := hcut
   obtain ⟨w3, hw3⟩ : ∃ w3, w3 = wc := ⟨_, rfl⟩
   subst hw3
   obtain ⟨⟨q0, ql, qb, q1⟩, hsc⟩ := HSC.out w1 w3 bb vp vn vc bs s' HB1.out hbb hbb1 hbl hbd hnos hpg hfr hsm hub
   have HC := mkC hsc
   have HOB : Hid (no.bind F = F (bs.map (·.x))) := by unfold Hid; rw [hnos]; rfl
   generalize F (bs.map (·.x)) = ro at HC HOB
   clear hbb hbl hbd hnos hpg hfr hsm hub hsc HSC HNO HCELL z0 z1 zp0 zq0 HBI1
   go_wp2_with fail
   refine HC.out.mono ?_
   intro r w5 hr
   cases ro with
   | none =>
    obtain ⟨rfl, hb5⟩ := hr
    refine ⟨rfl, ?_⟩
    rw [HOB.out]
    exact ⟨rfl, hb5⟩
   | some ns =>
    obtain ⟨⟨u2, rfl⟩, hfin⟩ := hr
    have HF := mkC hfin
    clear hfin
    go_wp2_with fail
    go_ret
    rw [HOB.out]
    exact HF.out _ ⟨_, _, _, rfl⟩
theorem Pt.up {c : Cx} {db dof : Nat} {S : Nat → Prop} {w : World} : ∀ (k : Nat) (e : Pe), Pt c db dof S w k e → Pt c db dof S w (k + 1) e := by
 intro k
 induction k with
 | zero =>
  intro e h
  obtain ⟨h1, h2, h3, h4, h5⟩ := h
  refine ⟨by rw [h1, sz_mono (Nat.zero_le 1) h2], h2.mono (Nat.zero_le _), h3, ⟨[], h4, ?_, fun x hx => by cases hx⟩, h5⟩
  unfold kidsOf
  rw [if_neg (by rw [ok_zero h2]; decide)]
  rfl
 | succ k ih =>
  intro e h
  obtain ⟨h1, h2, h3, ⟨es, h4, h5, h6⟩, h7⟩ := h
  exact ⟨by rw [h1, sz_mono (Nat.le_succ (k + 1)) h2], h2.mono (Nat.le_succ _), h3, ⟨es, h4, by rw [h5, kidsOf_mono (Nat.le_succ k) h2], fun x hx => ih x (h6 x hx)⟩, h7⟩
theorem Pt.mono {c : Cx} {db dof j k : Nat} {S : Nat → Prop} {w : World} {e : Pe} (h : Pt c db dof S w j e) (hk : j ≤ k) : Pt c db dof S w k e := by
 obtain ⟨d, rfl⟩ := Nat.exists_eq_add_of_le hk
 clear hk
 induction d with
 | zero => exact h
 | succ d ih => exact Pt.up _ _ ih
theorem esr_own {c : Cx} {db dof k B : Nat} {S : Nat → Prop} {w : World} {p : Option Addr} {n cc : Nat} {es : List Pe} (hl : es.length = n) (h : w.ownsRow B 102 2 (.slice p n cc) n (peC es)) (hp : ∀ x ∈ es, Pt c db dof S w k x) : EsR c db dof S k w p n cc es := by
 obtain ⟨h1, _, h3⟩ := owns_cells h
 refine ⟨hl, h1, fun h0 => ?_, hp⟩
 obtain ⟨g, e2, _, _, ⟨cur, hg⟩, h5⟩ := h3 h0
 refine ⟨g, 0, cur, e2, hg, fun j hj => ?_⟩
 have h6 := peC_at es j hj
 rw [Nat.zero_add]
 exact ⟨by rw [h5 (j * 2) (by omega)]; exact h6.1, by rw [h5 (j * 2 + 1) (by omega)]; exact h6.2⟩
theorem pr_len {k : Nat} {l : List Dt} (h : Ok k l) : (kidsOf k l).length = 2 ↔ isPr l = true := by
 unfold isPr
 constructor
 ·intro h2
  have hl : isLs l = true := by
   cases e : isLs l with
   | true => rfl
   | false =>
    unfold kidsOf at h2
    rw [e] at h2
    simp at h2
  have h3 := (kids_ok h).2 hl
  rw [h2] at h3
  rw [hl, Bool.true_and]
  exact decide_eq_true h3.symm
 ·intro h2
  rw [Bool.and_eq_true] at h2
  have h3 := (kids_ok h).2 h2.1
  have h4 := of_decide_eq_true h2.2
  omega
structure LtB (c : Cx) (db dof : Nat) (S : Nat → Prop) (k : Nat) (w : World) (els : List Pe) (i : Nat) (sv vv : Value) (wr : World) (hs vs : List Pe) : Prop where
 bel : Below w.heap.size w wr
 hl : hs.length = i
 vl : vs.length = i
 ho : wr.ownsRow w.heap.size 102 2 sv i (peC hs)
 vo : wr.ownsRow w.heap.size 102 2 vv i (peC vs)
 apt : Apt sv vv
 hp : ∀ x ∈ hs, Pt c db dof S w k x
 vp : ∀ x ∈ vs, Pt c db dof S w k x
 ha : at_ c (hs.map (·.1)) = (at_ c ((els.take i).map (·.1))).map (fun b => (kidsOf k b).getD 0 [])
 va : at_ c (vs.map (·.1)) = (at_ c ((els.take i).map (·.1))).map (fun b => (kidsOf k b).getD 1 [])
 pr : (at_ c ((els.take i).map (·.1))).all isPr = true
theorem LtB.step {c : Cx} {db dof k i : Nat} {S : Nat → Prop} {w wr w2 w3 : World} {els hs vs : List Pe} {sv vv sv' vv' : Value} {e b0 b1 : Pe} (h : LtB c db dof S k w els i sv vv wr hs vs) (hsn : els.take (i + 1) = els.take i ++ [e]) (hpr : isPr (c.ds.drop e.1) = true) (hk : at_ c [b0.1, b1.1] = kidsOf k (c.ds.drop e.1)) (hb0 : Pt c db dof S w k b0) (hb1 : Pt c db dof S w k b1)
  {wa : World} (hwa : Below wr.heap.size wr wa) (ho : w2.ownsRow w.heap.size 102 2 sv' (i + 1) (peC hs ++ [b0.2.1, b0.2.2])) (g1 : Below w.heap.size wa w2) (g3 : ∀ k, sv'.ownBlock = some k → sv.ownBlock = some k ∨ wa.heap.size ≤ k)
  (vo : w3.ownsRow w.heap.size 102 2 vv' (i + 1) (peC vs ++ [b1.2.1, b1.2.2])) (f1 : Below w.heap.size w2 w3) (f2 : But w2 w3 vv) (f3 : ∀ k, vv'.ownBlock = some k → vv.ownBlock = some k ∨ w2.heap.size ≤ k) :
  LtB c db dof S k w els (i + 1) sv' vv' w3 (hs ++ [b0]) (vs ++ [b1]) := by
 have hatS : at_ c ((els.take (i + 1)).map (·.1)) = at_ c ((els.take i).map (·.1)) ++ [c.ds.drop e.1] := by
  rw [hsn]
  simp [at_]
 have hvlt : ∀ k, vv.ownBlock = some k → k < wr.heap.size := fun k hk => (owns_lt h.vo k hk).1
 have hapt' : Apt sv' vv := fun k h1 h2 => by
  rcases g3 k h1 with h3 | h3
  ·exact h.apt k h3 h2
  ·have := hvlt k h2
   have := hwa.size
   omega
 refine ⟨((h.bel.trans (hwa.mono h.bel.size)).trans g1).trans f1, by rw [List.length_append, h.hl]; rfl, by rw [List.length_append, h.vl]; rfl, ?_, ?_, ?_, ?_, ?_, ?_, ?_, ?_⟩
 ·rw [peC_app]
  exact owns_but ho hapt' f2
 ·rw [peC_app]
  exact vo
 ·intro k h1 h2
  rcases f3 k h2 with h3 | h3
  ·exact hapt' k h1 h3
  ·have := (owns_lt ho k h1).1
   omega
 ·intro x hx
  rcases List.mem_append.1 hx with hx | hx
  ·exact h.hp x hx
  ·rw [List.mem_singleton.1 hx]; exact hb0
 ·intro x hx
  rcases List.mem_append.1 hx with hx | hx
  ·exact h.vp x hx
  ·rw [List.mem_singleton.1 hx]; exact hb1
 ·have e1 : at_ c ((hs ++ [b0]).map (·.1)) = at_ c (hs.map (·.1)) ++ [c.ds.drop b0.1] := by simp [at_]
  rw [hatS, e1, h.ha, List.map_append, List.map_cons, List.map_nil, ← hk]
  rfl
 ·have e1 : at_ c ((vs ++ [b1]).map (·.1)) = at_ c (vs.map (·.1)) ++ [c.ds.drop b1.1] := by simp [at_]
  rw [hatS, e1, h.va, List.map_append, List.map_cons, List.map_nil, ← hk]
  rfl
 ·rw [hatS, List.all_append, h.pr]
  simp [hpr]
theorem letQ_bad {k : Nat} {F : List (List Int) → List Dt → Option (List (List Int))} {sc : List (List Int)} {r : Bool} {a : List Dt} {b : List (List Dt)} (h : isLs a = false) : letR k F sc r (a :: b) = none := by
 simp only [letR]
 rw [if_neg (by rw [h]; simp)]
theorem letQ_pair {k : Nat} {F : List (List Int) → List Dt → Option (List (List Int))} {sc : List (List Int)} {r : Bool} {a l : List Dt} {b : List (List Dt)} (hm : l ∈ kidsOf k a) (h : isPr l = false) : letR k F sc r (a :: b) = none := by
 simp only [letR]
 rw [if_neg]
 rintro ⟨_, _, h3⟩
 have := List.all_eq_true.1 h3 l hm
 rw [h] at this
 cases this
theorem letQ_eq {k : Nat} {F : List (List Int) → List Dt → Option (List (List Int))} {sc : List (List Int)} {r : Bool} {a : List Dt} {b : List (List Dt)} (h : isLs a = true) (hp : (kidsOf k a).all isPr = true) : letR k F sc r (a :: b) = (nmsOf ((kidsOf k a).map (fun b => (kidsOf k b).getD 0 []))).bind (fun ns => cat (allO (F (if r = true then sc ++ ns else sc)) ((kidsOf k a).map (fun b => (kidsOf k b).getD 1 []))) (if b = [] then none else allO (F (sc ++ ns)) b)) := by
 simp only [letR]
 by_cases hb : b = []
 ·rw [if_neg (fun h1 => h1.2.1 hb)]
  cases nmsOf ((kidsOf k a).map (fun b => (kidsOf k b).getD 0 [])) with
  | none => rfl
  | some ns =>
   simp only [Option.bind_some]
   rw [if_pos hb]
   cases allO (F (if r = true then sc ++ ns else sc)) ((kidsOf k a).map (fun b => (kidsOf k b).getD 1 [])) <;> rfl
 ·rw [if_pos ⟨h, hb, hp⟩]
  cases nmsOf ((kidsOf k a).map (fun b => (kidsOf k b).getD 0 [])) with
  | none => rfl
  | some ns =>
   simp only [Option.bind_some]
   rw [if_neg hb]
def frs (k : Nat) (a : List Dt) : List (List Dt) := (kidsOf k a).map (fun b => (kidsOf k b).getD 0 [])
def scs (k : Nat) (a : List Dt) : List (List Dt) := (kidsOf k a).map (fun b => (kidsOf k b).getD 1 [])
def LeQ (c : Cx) (db dof : Nat) (S : Nat → Prop) (k M B : Nat) (s : Sg) (a : List Dt) (w w' : World) (v : Value) : Prop := ∃ (bp : Option Addr) (bn bc : Nat) (vp : Option Addr) (vn vc : Nat) (vs : List Pe), v = .tuple #[.slice bp bn bc, .slice vp vn vc] ∧ BnQ c M B s (nmsOf (frs k a)) w w' (.slice bp bn bc) ∧ EsR c db dof S k w' vp vn vc vs ∧ at_ c (vs.map (·.1)) = scs k a ∧ isLs a = true ∧ (kidsOf k a).all isPr = true ∧ vn ≤ 3000
set_option maxRecDepth 20000 in
set_option maxHeartbeats 4000000 in
theorem bindings_c {c : Cx} {db dof k : Nat} (hx : PgX c db dof) (S : Nat → Prop) (s : Sg) (N : Nat) (w : World) (p : Option Addr) (n cc : Nat) (es : List Pe) (h : PgI c N w s) (hes : EsR c db dof S k w p n cc es) (hn3 : n ≤ 3000) (hN : N + sumB k (Cp.at_ c (es.map (·.1))) ≤ 1000000000) :
  Calls Tryz.prog 106 #[.pointer (some ⟨s.pb, 0, none⟩), .slice p n cc] w fun r w' => (∃ v a b, Cp.at_ c (es.map (·.1)) = a :: b ∧ r = .returned v ∧ LeQ c db dof S k (N + (kidsOf k a).length) w.heap.size s a w w' v) ∨ (r = gramE ∧ Below c.w0.heap.size c.w0 w' ∧ ∀ F sc rc, letR k F sc rc (Cp.at_ c (es.map (·.1))) = none) := by
 have HI := mkC h
 cases es with
 | nil =>
  obtain rfl : n = 0 := hes.1.symm
  clear h hes hN
  go_enter Tryz.func106, Tryz.ntmps106
  go_wp2_with fail
  refine (needGrammar_f w).mono ?_
  rintro r w1 ⟨rfl, hw1⟩
  have hw1' := hw1.symm
  clear hw1
  subst hw1'
  exact ⟨rfl, Or.inr ⟨rfl, HI.out.bel, fun _ _ _ => rfl⟩⟩
 | cons e es =>
  obtain ⟨m, rfl⟩ : ∃ m, n = m + 1 := ⟨es.length, by have := hes.1; simpa using this.symm⟩
  obtain ⟨g, o, cur, rfl, hg, hcl⟩ := hes.2.2.1 (by omega)
  obtain ⟨y0, y1⟩ := hcl 0 (by simp)
  simp only [List.getElem_cons_zero, Nat.zero_mul, Nat.add_zero] at y0 y1
  have hgl := (Array.getElem?_eq_some_iff.1 hg).1
  have hncc := hes.2.1
  have hpt := hes.2.2.2 e (List.mem_cons_self ..)
  obtain ⟨so, sn, sc, hdv⟩ : ∃ so sn sc, e.2.1 = .slice (some ⟨db, so, none⟩) sn sc := ⟨_, _, _, hpt.ok.1⟩
  obtain ⟨ep, eN, eC, els, hev, hels, hkid, hel3, hbud⟩ := hpt.esr2 hx
  have hIL := isList_c hx w h.bel hpt
  rw [hdv, hev] at hIL
  rw [hdv] at y0
  rw [hev] at y1
  have hat : Cp.at_ c ((e :: es).map (·.1)) = c.ds.drop e.1 :: Cp.at_ c (es.map (·.1)) := rfl
  have hsum : sumB k (c.ds.drop e.1 :: Cp.at_ c (es.map (·.1))) = bud k (c.ds.drop e.1) + 10 + sumB k (Cp.at_ c (es.map (·.1))) := rfl
  rw [hat] at hN ⊢
  have HIL := mkC hIL
  have HCELL : Hid (∀ w1, Below w.heap.size w w1 → w1.cell? ⟨g, o, none⟩ = some (.slice (some ⟨db, so, none⟩) sn sc) ∧ w1.cell? ⟨g, o + 1, none⟩ = some (.slice ep eN eC) ∧ g < w1.heap.size) := fun w1 hb => ⟨cell_keepC hb hgl y0, cell_keepC hb hgl y1, Nat.lt_of_lt_of_le hgl hb.size⟩
  cases hls : isLs (c.ds.drop e.1) with
  | false =>
   rw [hls] at HIL
   have HBC1 : Hid (∀ w1, Below w.heap.size w w1 → Below c.w0.heap.size c.w0 w1) := fun w1 hb => h.bel.trans (hb.mono h.bel.size)
   have HBAD : Hid (∀ F sc rc, letR k F sc rc (c.ds.drop e.1 :: Cp.at_ c (es.map (·.1))) = none) := fun _ _ _ => letQ_bad hls
   clear h hes hN hcl hg hpt hdv hev hels hkid hIL hat hsum hls HCELL
   go_enter Tryz.func106, Tryz.ntmps106
   go_wp2_with fail
   refine HIL.out.mono ?_
   rintro r w1 ⟨rfl, hb1⟩
   have HB1 := mkC (HBC1.out w1 hb1)
   clear hb1
   go_wp2_with fail
   refine (needGrammar_f w1).mono ?_
   rintro r w2 ⟨rfl, hw2⟩
   have hw2' := hw2.symm
   clear hw2
   subst hw2'
   exact ⟨rfl, Or.inr ⟨rfl, HB1.out, HBAD.out⟩⟩
  | true =>
   rw [hls] at HIL
   have HELS := mkC hels
   have HKID := mkC hkid
   have HX := mkC hx
   have HLS := mkC hls
   have hel : Hid (els.length = eN) := hels.1
   have HBUD : Hid (N + eN ≤ 1000000000) := by unfold Hid; omega
   clear h hes hN hcl hg hpt hdv hev hels hkid hIL hat hsum hls hx hbud
   go_enter Tryz.func106, Tryz.ntmps106
   go_wp2_with fail
   refine HIL.out.mono ?_
   rintro r w1 ⟨rfl, hb1⟩
   have HB1 := mkC hb1
   obtain ⟨z0, z1, hgl1⟩ := HCELL.out w1 hb1
   clear hb1
   go_wp2_with fail
   refine (needGrammar_t w1).mono ?_
   rintro r w2 ⟨⟨u, rfl⟩, hw2⟩
   have hw2' := hw2.symm
   clear hw2
   subst hw2'
   go_wp2_with fail
   go_loopw [6, 7, 25] (fun sv vv iv wr => ∃ (i : Nat) (sp : Option Addr) (sc : Nat) (vp : Option Addr) (vc : Nat), i ≤ eN ∧ sv = .slice sp i sc ∧ vv = .slice vp i vc ∧ iv = .int .i64 (i : Nat) ∧ Hid (∃ hs vs, LtB c db dof S k w els i (.slice sp i sc) (.slice vp i vc) wr hs vs)) (fun _ _ iv _ => eN - (intOf iv).toNat)
   case atStart => exact ⟨0, none, 0, none, 0, Nat.zero_le _, rfl, rfl, rfl, [], [], ⟨HB1.out, rfl, rfl, nil_own _ _ _ _, nil_own _ _ _ _, (fun _ h => by cases h), fun _ hx => (by cases hx), fun _ hx => (by cases hx), rfl, rfl, rfl⟩⟩
   case round =>
    obtain ⟨i, sp, sc, vp, vc, hi, rfl, rfl, rfl, hL⟩ := hrel
    obtain ⟨hs, vs, hLt⟩ := hL.out
    by_cases hlt : i < eN
    ·have hil : i < els.length := by rw [hel.out]; exact hlt
     have helw := HELS.out.below hLt.bel
     obtain ⟨eg, eo, ecur, rfl, heg, hecl⟩ := helw.2.2.1 (by omega)
     obtain ⟨x0, x1⟩ := hecl i hil
     have hegl := (Array.getElem?_eq_some_iff.1 heg).1
     have hpti := HELS.out.2.2.2 _ (List.getElem_mem hil)
     have hsn := es_snoc hil
     have hmem : c.ds.drop (els[i]'hil).1 ∈ kidsOf k (c.ds.drop e.1) := by
      rw [← HKID.out]
      exact List.mem_map.2 ⟨_, List.mem_map.2 ⟨_, List.getElem_mem hil, rfl⟩, rfl⟩
     generalize els[i]'hil = b at x0 x1 hpti hsn hmem
     obtain ⟨bso, bsn, bsc, hbdv⟩ : ∃ so sn sc, b.2.1 = .slice (some ⟨db, so, none⟩) sn sc := ⟨_, _, _, hpti.ok.1⟩
     obtain ⟨bp, bN, bC, bls, hbev, hbls, hbkid, hbl3, _⟩ := hpti.esr2 HX.out
     have hok : Ok (k - 1) (c.ds.drop b.1) := hpti.ok.2.1
     have hkk : kidsOf k (c.ds.drop b.1) = kidsOf (k - 1) (c.ds.drop b.1) := by
      cases k with
      | zero => rfl
      | succ k => exact kidsOf_mono (Nat.le_succ k) (hok.mono (Nat.le_succ k))
     rw [hbdv] at x0
     rw [hbev] at x1
     have hblen : bls.length = bN := hbls.1
     have hk2 : (kidsOf (k - 1) (c.ds.drop b.1)).length = bN := by rw [← hbkid, ← hblen]; simp [Cp.at_]
     have HLT := mkC hLt
     obtain ⟨W2, hW2⟩ : ∃ W2, W2 = wr.alloc (.cells #[.slice (some ⟨db, bso, none⟩) bsn bsc, .slice bp bN bC] 102) := ⟨_, rfl⟩
     have hb2 : Below wr.heap.size wr W2 := by rw [hW2]; exact below1 _ _
     have hbx : W2.heap[wr.heap.size]? = some (.cells #[.slice (some ⟨db, bso, none⟩) bsn bsc, .slice bp bN bC] 102) := by rw [hW2]; exact Go.Deep.blk_alloc_new _ _
     have HW2 := mkC hW2
     by_cases hb : bN = 2
     ·subst hb
      obtain ⟨b0, b1, rfl⟩ : ∃ b0 b1, bls = [b0, b1] := by
       match bls, hblen with
       | [b0, b1], _ => exact ⟨b0, b1, rfl⟩
      have hprE : isPr (c.ds.drop b.1) = true := (pr_len (hok.mono (Nat.sub_le k 1))).1 (by rw [hkk]; exact hk2)
      obtain ⟨bg, bo, bcur, rfl, hbg, hbcl⟩ := hbls.2.2.1 (by omega)
      obtain ⟨v00, v01⟩ := hbcl 0 (by simp)
      obtain ⟨v10, v11⟩ := hbcl 1 (by simp)
      have hbgl := (Array.getElem?_eq_some_iff.1 hbg).1
      have hp0 := hbls.2.2.2 b0 (by simp)
      have hp1 := hbls.2.2.2 b1 (by simp)
      obtain ⟨s0, n0, c0, hd0⟩ : ∃ so sn sc, b0.2.1 = .slice (some ⟨db, so, none⟩) sn sc := ⟨_, _, _, hp0.ok.1⟩
      obtain ⟨s1, n1, c1, hd1⟩ : ∃ so sn sc, b1.2.1 = .slice (some ⟨db, so, none⟩) sn sc := ⟨_, _, _, hp1.ok.1⟩
      obtain ⟨q0, m0, d0, he0⟩ := hp0.row
      obtain ⟨q1, m1, d1, he1⟩ := hp1.row
      simp only [List.getElem_cons_zero, List.getElem_cons_succ, Nat.zero_mul, Nat.add_zero, Nat.one_mul] at v00 v01 v10 v11
      rw [hd0] at v00
      rw [he0] at v01
      rw [hd1] at v10
      rw [he1] at v11
      have hbcc : 2 ≤ bC := hbls.2.1
      have HSTEP : Hid (∀ w2 w3 sv' vv', w2.ownsRow w.heap.size 102 2 sv' (i + 1) (peC hs ++ [.slice (some ⟨db, s0, none⟩) n0 c0, .slice q0 m0 d0]) → Below w.heap.size W2 w2 → (∀ k, sv'.ownBlock = some k → (Value.slice sp i sc).ownBlock = some k ∨ W2.heap.size ≤ k) → w3.ownsRow w.heap.size 102 2 vv' (i + 1) (peC vs ++ [.slice (some ⟨db, s1, none⟩) n1 c1, .slice q1 m1 d1]) → Below w.heap.size w2 w3 → But w2 w3 (.slice vp i vc) → (∀ k, vv'.ownBlock = some k → (Value.slice vp i vc).ownBlock = some k ∨ w2.heap.size ≤ k) → LtB c db dof S k w els (i + 1) sv' vv' w3 (hs ++ [b0]) (vs ++ [b1])) := fun w2 w3 sv' vv' g1 g2 g3 g4 g5 g6 g7 => by
       refine hLt.step hsn hprE (by rw [hkk, ← hbkid]; rfl) (hp0.mono (by omega)) (hp1.mono (by omega)) hb2 ?_ g2 g3 ?_ g5 g6 g7
       ·rw [hd0, he0]; exact g1
       ·rw [hd1, he1]; exact g4
      have HV : Hid (∀ w2, Below w.heap.size W2 w2 → But W2 w2 (.slice sp i sc) → w2.ownsRow w.heap.size 102 2 (.slice vp i vc) i (peC vs) ∧ w2.cell? ⟨bg, bo + 2, none⟩ = some (.slice (some ⟨db, s1, none⟩) n1 c1) ∧ w2.cell? ⟨bg, bo + 2 + 1, none⟩ = some (.slice q1 m1 d1) ∧ bg < w2.heap.size ∧ w2.cell? ⟨wr.heap.size, 1, none⟩ = some (.slice (some ⟨bg, bo, none⟩) 2 bC) ∧ wr.heap.size < w2.heap.size) := fun w2 g1 g2 => by
       have hbw := hLt.bel.trans ((hb2.mono hLt.bel.size).trans g1)
       have hbb := (g2 _ (Array.getElem?_eq_some_iff.1 hbx).1 (fun e' => by
        have := (owns_lt hLt.ho _ e'.symm).1
        omega)).trans hbx
       refine ⟨owns_but (owns_below hLt.vo hb2) hLt.apt.symm g2, cell_keepC hbw hbgl v10, cell_keepC hbw hbgl v11, Nat.lt_of_lt_of_le hbgl hbw.size, ?_, (Array.getElem?_eq_some_iff.1 hbb).1⟩
       simp [World.cell?, hbb]
      have HO2 : Hid (W2.ownsRow w.heap.size 102 2 (.slice sp i sc) i (peC hs)) := owns_below hLt.ho hb2
      have hbw2 := hLt.bel.trans (hb2.mono hLt.bel.size)
      have t00 := cell_keepC hbw2 hbgl v00
      have t01 := cell_keepC hbw2 hbgl v01
      have hbgl2 : bg < W2.heap.size := Nat.lt_of_lt_of_le hbgl hbw2.size
      have tb : W2.cell? ⟨wr.heap.size, 1, none⟩ = some (.slice (some ⟨bg, bo, none⟩) 2 bC) := by simp [World.cell?, hbx]
      have htl : wr.heap.size < W2.heap.size := (Array.getElem?_eq_some_iff.1 hbx).1
      have hww2 : w.heap.size ≤ W2.heap.size := hbw2.size
      clear hL hLt helw hecl heg hpti hsn hmem hbdv hbev hbls hbkid hok hkk hk2 hb2 hbx hbw2 hbcl hbg hp0 hp1 hd0 hd1 he0 he1 v00 v01 v10 v11 hprE hW2 hblen
      go_wp2_with fail
      rw [← HW2.out]
      refine (needGrammar_t W2).mono ?_
      rintro r w3 ⟨⟨u2, rfl⟩, hw3⟩
      have hw3' := hw3.symm
      clear hw3
      subst hw3'
      go_upto_region 8 with (at_builtin; refine appW_at W2 rfl (.tmp 34) (.tmp 39) 71 102 rfl _ 2 48 Tryz.underlying71 infoPt rfl (by decide) w.heap.size (.slice sp i sc) i (peC hs) (by simp [Act.eval]) HO2.out #[.slice (some ⟨db, s0, none⟩) n0 c0, .slice q0 m0 d0] rfl (by simp [Value.oneCell']) (by simp [Act.eval]) (by unfold maxLen; omega) (by omega) hww2 ?_; intro sv' w4 ho4 hb4 hbt4 hloc4 hsz4; obtain ⟨p4, c4, hv4⟩ := owns_form ho4; subst hv4; obtain ⟨hv2, x10, x11, xg, xb, xl⟩ := HV.out w4 hb4 hbt4; have HV4 := mkC hv2; have HO4 := mkC ho4; have HB4 := mkC hb4; have HL4 := mkC hloc4; have hw4 : w.heap.size ≤ w4.heap.size := Nat.le_trans hww2 hb4.size; clear ho4 hb4 hbt4 hloc4 hsz4 hv2)
      go_wp2_with (at_builtin; refine appW_at w4 rfl (.tmp 41) (.tmp 46) 71 102 rfl _ 2 48 Tryz.underlying71 infoPt rfl (by decide) w.heap.size (.slice vp i vc) i (peC vs) (by simp [Act.eval]) HV4.out #[.slice (some ⟨db, s1, none⟩) n1 c1, .slice q1 m1 d1] rfl (by simp [Value.oneCell']) (by simp [Act.eval]) (by unfold maxLen; omega) (by omega) hw4 ?_; intro vv' w5 ho5 hb5 hbt5 hloc5 hsz5; obtain ⟨p5, c5, hv5⟩ := owns_form ho5; subst hv5; have HFIN := mkC (HSTEP.out w4 w5 _ _ HO4.out HB4.out HL4.out ho5 hb5 hbt5 hloc5); clear ho5 hb5 hbt5 hloc5 hsz5)
      exact ⟨⟨i + 1, p4, c4, p5, c5, by omega, rfl, rfl, by go_num, _, _, HFIN.out⟩, by simp [intOf]; omega⟩
     ·have hprE : isPr (c.ds.drop b.1) = false := by
       rw [← Bool.not_eq_true, ← pr_len (hok.mono (Nat.sub_le k 1)), hkk, hk2]
       exact hb
      have HBAD : Hid (∀ F sc rc, letR k F sc rc (c.ds.drop e.1 :: Cp.at_ c (es.map (·.1))) = none) := fun _ _ _ => letQ_pair hmem hprE
      have HBW : Hid (Below c.w0.heap.size c.w0 W2) := by
       have hq := hLt.bel.trans (hb2.mono hLt.bel.size)
       exact HI.out.bel.trans (hq.mono HI.out.bel.size)
      have t1 : ((bN : Int) == 2) = false := by simp; omega
      clear hL hLt helw hecl heg hpti hsn hmem hbdv hbev hbls hbkid hok hkk hk2 hb2 hbx hprE hW2 hblen hb
      go_wp2_with fail
      rw [← HW2.out]
      refine (needGrammar_f W2).mono ?_
      rintro r w3 ⟨rfl, hw3⟩
      have hw3' := hw3.symm
      clear hw3
      subst hw3'
      exact ⟨rfl, Or.inr ⟨rfl, HBW.out, HBAD.out⟩⟩
    ·have hin_ : i = eN := by omega
     subst hin_
     have ht : els.take i = els := List.take_of_length_le (by rw [hel.out]; exact Nat.le_refl _)
     have hI1 := HI.out.below hLt.bel
     have hha := hLt.ha
     have hva := hLt.va
     have hpr := hLt.pr
     rw [ht, HKID.out] at hha hva hpr
     have hesH : EsR c db dof S k wr sp i sc hs := esr_own hLt.hl hLt.ho (fun x hx => (hLt.hp x hx).below hLt.bel)
     have hesV : EsR c db dof S k wr vp i vc vs := esr_own hLt.vl hLt.vo (fun x hx => (hLt.vp x hx).below hLt.bel)
     have hkl : (kidsOf k (c.ds.drop e.1)).length = i := by rw [← HKID.out, ← hel.out]; simp [Cp.at_]
     have HBQ : Hid (Calls Tryz.prog 98 #[.pointer (some ⟨s.pb, 0, none⟩), .slice sp i sc] wr fun r w' => (∃ bp bn bc, r = .returned (.slice bp bn bc) ∧ LeQ c db dof S k (N + (kidsOf k (c.ds.drop e.1)).length) w.heap.size s (c.ds.drop e.1) w w' (.tuple #[.slice bp bn bc, .slice vp i vc])) ∨ (r = gramE ∧ Below c.w0.heap.size c.w0 w' ∧ ∀ F sc rc, letR k F sc rc (c.ds.drop e.1 :: Cp.at_ c (es.map (·.1))) = none)) := by
      refine (bind_q HX.out S s N w.heap.size wr wr sp i sc hs hI1.1 hesH hel3 HBUD.out hLt.bel.size (Below.refl _ _)).mono ?_
      rintro r w' (⟨v, rfl, ⟨bp, bn, bc, bs, s', rfl, g2, g3, g4, g5, g6, g7, g8⟩, _⟩ | ⟨ch, rfl, g1, g2, g3⟩)
      ·refine Or.inl ⟨bp, bn, bc, rfl, bp, bn, bc, vp, i, vc, vs, rfl, ⟨bp, bn, bc, bs, s', rfl, g2, g3, ?_, by rw [hkl]; exact g5, hI1.2.trans g6, g7, g8⟩, hesV.frp hI1.1 g6, hva, HLS.out, hpr, hel3⟩
       unfold frs
       rw [← hha]
       exact g4
      ·refine Or.inr ⟨g1, g3, fun F sc rc => ?_⟩
       rw [letQ_eq HLS.out hpr, ← hha, g2]
       rfl
     clear hL hLt ht hI1 hha hva hpr hesH hesV hkl
     go_wp2_with fail
     refine HBQ.out.mono ?_
     rintro r w' (⟨bp, bn, bc, rfl, hle⟩ | ⟨rfl, g1, g2⟩)
     ·have HLE := mkC hle
      clear hle
      go_wp2_with fail
      exact bodyPost_ret (v := .tuple #[.slice bp bn bc, .slice vp i vc]) (by simp [results, Tryz.results106, go_sem]) rfl (Or.inl ⟨_, _, _, rfl, rfl, HLE.out⟩)
     ·exact ⟨rfl, Or.inr ⟨rfl, g1, g2⟩⟩
attribute [local go_sem] run_store_fn
theorem two_kids {k : Nat} {l : List Dt} (h : Ok k l) (hp : isPr l = true) : ∃ x y, kidsOf k l = [x, y] ∧ Ok k x ∧ Ok k y ∧ sz k x + sz k y + 1 = sz k l := by
 have h2 := (pr_len h).2 hp
 have hl : isLs l = true := by
  unfold isPr at hp
  rw [Bool.and_eq_true] at hp
  exact hp.1
 have h3 := kids_sumK h hl
 have h4 := (kids_ok h).1
 match e : kidsOf k l, h2 with
 | [x, y], _ =>
  rw [e] at h3 h4
  refine ⟨x, y, rfl, (h4 x (by simp)).mono (Nat.sub_le _ _), (h4 y (by simp)).mono (Nat.sub_le _ _), ?_⟩
  simp only [sumS] at h3
  omega
theorem scs_sum {k : Nat} : ∀ (ls : List (List Dt)), (∀ l ∈ ls, Ok k l) → ls.all isPr = true → sumS k (ls.map (fun b => (kidsOf k b).getD 1 [])) + ls.length ≤ sumS k ls ∧ ∀ x ∈ ls.map (fun b => (kidsOf k b).getD 1 []), Ok k x
 | [], _, _ => ⟨by simp [sumS], fun x hx => by cases hx⟩
 | l :: ls, h, hp => by
  rw [List.all_cons, Bool.and_eq_true] at hp
  obtain ⟨h1, h2⟩ := scs_sum ls (fun x hx => h x (List.mem_cons_of_mem _ hx)) hp.2
  obtain ⟨x, y, h3, h4, h5, h6⟩ := two_kids (h l (List.mem_cons_self ..)) hp.1
  have h7 := sz_pos h4
  have e1 : (kidsOf k l).getD 1 [] = y := by rw [h3]; rfl
  refine ⟨?_, fun z hz => ?_⟩
  ·rw [List.map_cons, List.length_cons, e1]
   simp only [sumS]
   omega
  ·rw [List.map_cons, e1] at hz
   rcases List.mem_cons.1 hz with rfl | hz
   ·exact h5
   ·exact h2 z hz
theorem scs_bud {k : Nat} {a : List Dt} (h : Ok k a) (hl : isLs a = true) (hp : (kidsOf k a).all isPr = true) : sumB k (scs k a) + 3 * (kidsOf k a).length + 10000 ≤ bud k a := by
 have h1 := kids_sumK h hl
 have h0 : ∀ l ∈ kidsOf k a, Ok k l := fun l hl' => ((kids_ok h).1 l hl').mono (Nat.sub_le _ _)
 obtain ⟨h2, h3⟩ := scs_sum (k := k) (kidsOf k a) h0 hp
 have h4 := sumB_le (k := k) (ls := scs k a) h3
 unfold scs at h4 ⊢
 unfold bud
 omega
theorem BdI.frp {c : Cx} {N B : Nat} {w w' : World} {s s' : Sg} {v : Value} {bs : List Pv} (h : BdI B w v bs) (hi : PgI c N w s) (hg : ∀ u ∈ s.gls ++ s.sc, u.b < B) (hsv : ∀ j, s.scv.ownBlock = some j → j < B) (hf : FrP s s' w w') : BdI B w' v bs := by
 refine h.of (fun j cur t hj ht hc => hf.keep j (Array.getElem?_eq_some_iff.1 hc).1 ?_)
 rcases ht with rfl | rfl
 ·refine hi.not_fqV hc (fun e => ?_)
  have := hsv j e
  omega
 ·intro hq
  have row : ∀ {n size : Nat} {e : TypeId} {v : Value} {xs : List Value}, w.ownsRow c.w0.heap.size e size v n xs → v.ownBlock = some j → 175 ≠ e → False := fun ho hk ht => by
   obtain ⟨_, cur2, q⟩ := owns_lt ho j hk
   rw [hc] at q
   cases q
   exact ht rfl
  rcases hq with rfl | rfl | hk | hk | hk | ⟨u, hu, rfl⟩
  ·have := hi.blk
   rw [hc] at this
   cases this
  ·obtain ⟨es, clk, q, _⟩ := hi.glo
   rw [hc] at q
   cases q
  ·exact row hi.sco hk (by decide)
  ·exact row hi.ubo hk (by decide)
  ·exact row hi.fmo hk (by decide)
  ·have := hg u hu
   omega
theorem RdX.out2 {c : Cx} {N M : Nat} {X : Nat → Prop} {s s1 : Sg} {ns : List (List Int)} {o : Option (List (List Int))} {w w1 w' : World} {r : Ending} {A : Value → World → Prop} (h : RdX c N X s1 o w1 w' r) (hf : FrP s s1 w w1) (hs : SmP s s1) (hu : s1.ub = s.ub ++ ns) (hx : ∀ j, X j → w.heap.size ≤ j) (hN : N ≤ M) : OuQ c M s (Cp.cat (some ns) o) w w' r A := by
 cases o with
 | none => exact h
 | some ms =>
  obtain ⟨u, s', rfl, g1, g2, g3, g4⟩ := h
  exact ⟨⟨u, rfl⟩, fun u' hA => ⟨u', s', rfl, hA, g1.mono hN, hf.then_x g2 hx, hs.trans g3, by rw [g4, hu, List.append_assoc]⟩⟩
theorem PgI.olds {c : Cx} {N : Nat} {w : World} {s : Sg} (h : PgI c N w s) : (∀ u ∈ s.gls ++ s.sc, u.b < w.heap.size) ∧ ∀ j, s.scv.ownBlock = some j → j < w.heap.size := by
 refine ⟨fun u hu => ?_, fun j hj => (owns_lt h.sco j hj).1⟩
 obtain ⟨⟨n, g, bx, h1⟩, _⟩ := h.vrs u hu
 exact (Array.getElem?_eq_some_iff.1 h1).1
set_option maxRecDepth 20000 in
set_option maxHeartbeats 4000000 in
theorem let_c {c : Cx} {db dof k : Nat} (hx : PgX c db dof) (hE : ExpC c db dof k) (S : Nat → Prop) (s : Sg) (N : Nat) (w : World) (p : Option Addr) (n cc : Nat) (es : List Pe) (h : PgI c N w s) (hes : EsR c db dof S k w p n cc es) (hn3 : n ≤ 3000) (hN : N + sumB k (Cp.at_ c (es.map (·.1))) ≤ 1000000000) :
  Calls Tryz.prog 52 #[.pointer (some ⟨s.pb, 0, none⟩), .slice p n cc] w fun r w' => RdQ c (N + sumB k (Cp.at_ c (es.map (·.1)))) s (letR k (rd (s.gls.map (·.x)) k) (s.sc.map (·.x)) false (Cp.at_ c (es.map (·.1)))) w w' r (fun u _ => MkV u) := by
 obtain ⟨W0, hW0⟩ : ∃ W0, W0 = (w.alloc (.cells #[.pointer (some ⟨s.pb, 0, none⟩)] 49)).alloc (.cells #[.slice p n cc] 71) := ⟨_, rfl⟩
 have hb0 : Below w.heap.size w W0 := by rw [hW0]; exact below2 _ _ _
 have hI0 := h.below hb0
 have hes0 := hes.below hb0
 obtain ⟨o, ho⟩ : ∃ o, o = letR k (rd (s.gls.map (·.x)) k) (s.sc.map (·.x)) false (Cp.at_ c (es.map (·.1))) := ⟨_, rfl⟩
 obtain ⟨NN, hNN⟩ : ∃ NN, NN = N + sumB k (Cp.at_ c (es.map (·.1))) := ⟨_, rfl⟩
 have bx := boxes2 (w1 := W0) (by rw [← hW0]; exact Below.refl _ _)
 have HBI : Hid (Calls Tryz.prog 106 #[.pointer (some ⟨s.pb, 0, none⟩), .slice p n cc] W0 fun r w' => (∃ bp bn bc vp vn vc, r = .returned (.tuple #[.slice bp bn bc, .slice vp vn vc]) ∧ ∃ a b vs, Cp.at_ c (es.map (·.1)) = a :: b ∧ BnQ c (N + (kidsOf k a).length) W0.heap.size s (nmsOf (frs k a)) W0 w' (.slice bp bn bc) ∧ EsR c db dof S k w' vp vn vc vs ∧ Cp.at_ c (vs.map (·.1)) = scs k a ∧ isLs a = true ∧ (kidsOf k a).all isPr = true ∧ vn ≤ 3000) ∨ (r = gramE ∧ Below c.w0.heap.size c.w0 w' ∧ o = none)) := by
  refine (bindings_c hx S s N W0 p n cc es hI0.1 hes0 hn3 hN).mono ?_
  rintro r w' (⟨v, a, b, h1, rfl, bp, bn, bc, vp, vn, vc, vs, rfl, h2⟩ | ⟨rfl, h1, h2⟩)
  ·exact Or.inl ⟨bp, bn, bc, vp, vn, vc, rfl, a, b, vs, h1, h2⟩
  ·exact Or.inr ⟨rfl, h1, ho.trans (h2 _ _ _)⟩
 have HEX : Hid (∀ w1 bp bn bc vp vn vc a b vs, Cp.at_ c (es.map (·.1)) = a :: b → BnQ c (N + (kidsOf k a).length) W0.heap.size s (nmsOf (frs k a)) W0 w1 (.slice bp bn bc) → EsR c db dof S k w1 vp vn vc vs → Cp.at_ c (vs.map (·.1)) = scs k a → isLs a = true → (kidsOf k a).all isPr = true → vn ≤ 3000 → w1.cell? ⟨w.heap.size, 0, none⟩ = some (.pointer (some ⟨s.pb, 0, none⟩)) ∧ w.heap.size < w1.heap.size ∧ Calls Tryz.prog 93 #[.pointer (some ⟨s.pb, 0, none⟩), .slice vp vn vc] (w1.alloc (.cells #[.slice bp bn bc] 56)) fun r w2 => (r = gramE ∧ Below c.w0.heap.size c.w0 w2 ∧ o = none) ∨ ∃ up un uc, r = .returned (.slice up un uc) ∧ (w2.cell? ⟨w.heap.size, 0, none⟩ = some (.pointer (some ⟨s.pb, 0, none⟩)) ∧ w.heap.size < w2.heap.size ∧ w1.heap.size < w2.heap.size ∧ w2.cell? ⟨w1.heap.size, 0, none⟩ = some (.slice bp bn bc)) ∧ Calls Tryz.prog 99 #[.pointer (some ⟨s.pb, 0, none⟩), .slice bp bn bc, .func (.func 107) #[] #[.pointer (some ⟨w.heap.size, 0, none⟩), .pointer (some ⟨w.heap.size + 1, 0, none⟩), .pointer (some ⟨w2.heap.size + 1, 0, none⟩)]] ((w2.alloc (.cells #[.slice up un uc] 150)).alloc (.cells #[.nilFunc] 109)) (fun r w' => OuQ c NN s o w w' r (fun u _ => MkV u))) := by
  intro w1 bp bn bc vp vn vc a b vs hab hbn hvs hva hls hpr hv3
  obtain ⟨_, _, _, bs, s', hv, hbl, hbd, hnms, hpg, hfr, hsm, hub⟩ := hbn
  cases hv
  have hokA : Ok k a := by
   cases es with
   | nil => cases hab
   | cons e es =>
    have e1 : a = c.ds.drop e.1 := (List.cons.inj hab).1.symm
    rw [e1]
    exact (hes.2.2.2 e (List.mem_cons_self ..)).ok.2.1
  have hbudA := scs_bud hokA hls hpr
  have hsum : sumB k (Cp.at_ c (es.map (·.1))) = bud k a + 10 + sumB k b := by rw [hab]; rfl
  have a0 := hfr.keepB hI0.1 bx.1 (by decide) (by decide) (by decide) (by decide) (by decide)
  have a1 := hfr.keepB hI0.1 bx.2 (by decide) (by decide) (by decide) (by decide) (by decide)
  refine ⟨(cells1 a0).1, (Array.getElem?_eq_some_iff.1 a0).1, ?_⟩
  have hb11 := below1 w1 (.cells #[.slice bp bn bc] 56)
  have hbox : (w1.alloc (.cells #[.slice bp bn bc] 56)).heap[w1.heap.size]? = some (.cells #[.slice bp bn bc] 56) := Go.Deep.blk_alloc_new _ _
  have a0' := (hb11.block _ (Array.getElem?_eq_some_iff.1 a0).1).trans a0
  have a1' := (hb11.block _ (Array.getElem?_eq_some_iff.1 a1).1).trans a1
  obtain ⟨W1, hW1⟩ : ∃ W1, W1 = w1.alloc (.cells #[.slice bp bn bc] 56) := ⟨_, rfl⟩
  rw [← hW1] at hb11 hbox a0' a1' ⊢
  have hp1 := hpg.below hb11
  have hold := h.olds
  have hkl : bn = (kidsOf k a).length := by
   have q := nms_len hnms
   rw [List.length_map, hbl] at q
   rw [q]
   simp [frs]
  have hes1 := ((hes0.frp hI0.1 hfr).below hb11)
  have hq := expressions_c hE S s' (N + (kidsOf k a).length) W1 vp vn vc vs hp1.1 (hvs.below hb11) hv3 (by rw [hva]; omega)
  rw [hsm.pb] at hq
  refine hq.mono ?_
  intro r w2 hr
  rw [hva, hsm.gls, hsm.sc] at hr
  have hoE : o = Cp.cat (allO (rd (s.gls.map (·.x)) k (s.sc.map (·.x))) (scs k a)) (if b = [] then none else allO (rd (s.gls.map (·.x)) k (s.sc.map (·.x) ++ bs.map (·.x))) b) := by
   rw [ho, hab, letQ_eq hls hpr]
   show (nmsOf (frs k a)).bind _ = _
   rw [hnms]
   rfl
  cases e1 : allO (rd (s.gls.map (·.x)) k (s.sc.map (·.x))) (scs k a) with
  | none =>
   rw [e1] at hr hoE
   exact Or.inl ⟨hr.1, hr.2, hoE⟩
  | some ns1 =>
   rw [e1] at hr hoE
   obtain ⟨u, s2, rfl, ⟨us, q1, q2, q3⟩, g1, g2, g3, g4⟩ := hr
   obtain ⟨up, uc, rfl⟩ := owns_form q3
   have d0 := g2.keepB hp1.1 a0' (by decide) (by decide) (by decide) (by decide) (by decide)
   have d1 := g2.keepB hp1.1 a1' (by decide) (by decide) (by decide) (by decide) (by decide)
   have db_ := g2.keepB hp1.1 hbox (by decide) (by decide) (by decide) (by decide) (by decide)
   refine Or.inr ⟨up, vn, uc, rfl, ⟨(cells1 d0).1, (Array.getElem?_eq_some_iff.1 d0).1, (Array.getElem?_eq_some_iff.1 db_).1, (cells1 db_).1⟩, ?_⟩
   have hbd2 : BdI W0.heap.size w2 (.slice bp bn bc) bs := (hbd.below hb11).frp hp1.1 (by rw [hsm.gls, hsm.sc]; exact fun u hu => Nat.lt_of_lt_of_le (hold.1 u hu) hb0.size) (fun j hj => by rw [hsm.scv] at hj; exact Nat.lt_of_lt_of_le (hold.2 j hj) hb0.size) g2
   have hb23 := below2 w2 (.cells #[.slice up vn uc] 150) (.cells #[.nilFunc] 109)
   have hbb : ((w2.alloc (.cells #[.slice up vn uc] 150)).alloc (.cells #[.nilFunc] 109)).heap[w2.heap.size + 1]? = some (.cells #[.nilFunc] 109) := by
    have q := Go.Deep.blk_alloc_new (w2.alloc (.cells #[.slice up vn uc] 150)) (.cells #[.nilFunc] 109)
    rw [World.size_alloc] at q
    exact q
   obtain ⟨W3, hW3⟩ : ∃ W3, W3 = (w2.alloc (.cells #[.slice up vn uc] 150)).alloc (.cells #[.nilFunc] 109) := ⟨_, rfl⟩
   rw [← hW3] at hb23 hbb ⊢
   have hp3 := g1.below hb23
   have hbd3 := hbd2.below hb23
   have hes3 := (hes1.frp hp1.1 g2).below hb23
   have hfull : FrP s s2 w W3 := (((hI0.2.trans hfr).trans hp1.2).trans g2).trans hp3.2
   have hw2s : w.heap.size ≤ w2.heap.size := Nat.le_trans (Nat.le_of_lt (Array.getElem?_eq_some_iff.1 d0).1) (Nat.le_refl _)
   have hsm2 := hsm.trans g3
   obtain ⟨e, es', rfl⟩ : ∃ e es', es = e :: es' := by
    cases es with
    | nil => cases hab
    | cons e es' => exact ⟨e, es', rfl⟩
   have hbE : b = Cp.at_ c (es'.map (·.1)) := (List.cons.inj hab).2.symm
   obtain ⟨m, rfl⟩ : ∃ m, n = m + 1 := ⟨es'.length, by have := hes.1; simpa using this.symm⟩
   have hsc := inScopeT_c (c := c) (N := N + (kidsOf k a).length + sumB k (scs k a)) (M := N + (kidsOf k a).length + sumB k (scs k a) + bn + sumB k (Cp.at_ c (es'.map (·.1)))) (s := s2) W3 bp bn bc bs W0.heap.size w.heap.size (w.heap.size + 1) (w2.heap.size + 1) (if b = [] then none else allO (rd (s.gls.map (·.x)) k (s.sc.map (·.x) ++ bs.map (·.x))) b) (fun j => j = w2.heap.size + 1) hp3.1 hbd3 hbl (Nat.le_trans h.bel.size hb0.size) (by omega) (fun j hj e' => by
    rw [hsm2.scv] at e'
    have := hold.2 j e'
    omega) (fun W s1 f1 f2 f3 f4 f5 f6 => by
     have kb : ∀ {j : Nat} {cur : Array Value} {t : TypeId}, W3.heap[j]? = some (Obj.cells cur t) → t ≠ 59 → t ≠ 107 → t ≠ 9 → t ≠ 111 → t ≠ 175 → W.heap[j]? = some (Obj.cells cur t) := fun {j cur t} hj r1 r2 r3 r4 r5 => f2.keepB hp3.1 (fun v hv => (hbd3.vrs v hv).1) hj r1 r2 r3 r4 r5
     have hesW := hes3.of (w' := W) (fun j cur hj => (kb hj (by decide) (by decide) (by decide) (by decide) (by decide)).trans hj.symm)
     have q := innerT_c hE S s1 (N + (kidsOf k a).length + sumB k (scs k a) + bn) W p m cc w.heap.size (w.heap.size + 1) (w2.heap.size + 1) e es' .nilFunc f1 hesW (by omega) (by rw [← hbE]; omega) (by rw [f3, hsm2.pb]; exact kb ((hb23.block _ (Array.getElem?_eq_some_iff.1 d0).1).trans d0) (by decide) (by decide) (by decide) (by decide) (by decide)) (kb ((hb23.block _ (Array.getElem?_eq_some_iff.1 d1).1).trans d1) (by decide) (by decide) (by decide) (by decide) (by decide)) (kb hbb (by decide) (by decide) (by decide) (by decide) (by decide)) (by have := h.bel.size; omega)
     have e2 : (if b = [] then none else allO (rd (s.gls.map (·.x)) k (s.sc.map (·.x) ++ bs.map (·.x))) b) = (if es' = [] then none else allO (rd (s1.gls.map (·.x)) k (s1.sc.map (·.x))) (Cp.at_ c (es'.map (·.1)))) := by
      rw [hbE, f4, f5, hsm2.gls, hsm2.sc, List.map_append]
      simp only [at_nil]
     rw [e2]
     exact q)
   rw [hsm2.pb] at hsc
   refine hsc.mono (fun r w' hr => ?_)
   rw [hoE]
   exact RdX.out2 (M := NN) (A := fun u _ => MkV u) hr hfull hsm2 (by rw [g4, hub]) (fun j hj => by
    rcases hj with ⟨v, hv, rfl⟩ | rfl
    ·exact Nat.le_trans hb0.size (hbd.vrs v hv).2.1
    ·omega) (by rw [hNN, hsum, ← hbE, hkl]; omega)
 rw [← ho, ← hNN]
 have HW0 := mkC hW0
 have z0 := (cells1 bx.1).1
 have z1 := (cells1 bx.2).1
 have hzl : w.heap.size + 1 < W0.heap.size := (Array.getElem?_eq_some_iff.1 bx.2).1
 clear h hes hE hN hb0 hI0 hes0 ho hNN bx hW0
 go_enter Tryz.func52, Tryz.ntmps52
 go_upto_region 1 with fail
 rw [← HW0.out]
 go_wp2_with fail
 refine HBI.out.mono ?_
 rintro r w1 (⟨bp, bn, bc, vp, vn, vc, rfl, a, b, vs, h1, h2, h3, h4, h5, h6, h7⟩ | ⟨rfl, h1, h2⟩)
 ·obtain ⟨y0, yl, hex⟩ := HEX.out w1 bp bn bc vp vn vc a b vs h1 h2 h3 h4 h5 h6 h7
  have HX := mkC hex
  clear h1 h2 h3 h4 h5 h6 h7 hex HEX HBI z0 z1
  go_wp2_with fail
  refine HX.out.mono ?_
  rintro r w2 (⟨rfl, g1, g2⟩ | ⟨up, un, uc, rfl, ⟨q0, q1, q2, q3⟩, hsc⟩)
  ·refine ⟨rfl, ?_⟩
   rw [g2]
   exact ⟨rfl, g1⟩
  ·have HC := mkC hsc
   clear hsc HX
   go_wp2_with fail
   refine HC.out.mono ?_
   intro r w5 hr
   cases o with
   | none =>
    obtain ⟨rfl, hb5⟩ := hr
    exact ⟨rfl, rfl, hb5⟩
   | some ns =>
    obtain ⟨⟨u2, rfl⟩, hfin⟩ := hr
    have HF := mkC hfin
    clear hfin
    go_wp2_with fail
    go_ret
    exact HF.out _ ⟨_, _, _, rfl⟩
 ·refine ⟨rfl, ?_⟩
  rw [h2]
  exact ⟨rfl, h1⟩
end Cp
end Go.Proofs.YtnnpfoilojicjaaGreatDoor
