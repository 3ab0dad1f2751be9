import Derived.Test.YtnnpfoilojicjaaGreatDoorJf
namespace Go.Proofs.YtnnpfoilojicjaaGreatDoor
open Go.RowKit Ch1
namespace Cp
theorem run_store_fn (P : Program) (w : World) (a : Addr) (f : Fn) (b cp : Array Value) (m : Mode) : (store a (.func f b cp) m).run P w = stored P w a (.func f b cp) m := run_store P w a _ m rfl
attribute [local go_sem] run_store_fn
set_option maxRecDepth 20000 in
set_option maxHeartbeats 2000000 in
theorem and_c {c : Cx} {db dof k : Nat} (hE : ExpC c db dof k) (S : Nat → Prop) (s : Sg) (N : Nat) (w : World) (p : Option Addr) (n cc : Nat) (es : List Pe) (h : PgI c N w s) (hes : EsR c db dof S k w p n cc es) (hn3 : n ≤ 3000) (hN : N + sumB k (Cp.at_ c (es.map (·.1))) ≤ 1000000000) :
  Calls Tryz.prog 56 #[.pointer (some ⟨s.pb, 0, none⟩), .slice p n cc] w fun r w' => RdQ c (N + sumB k (Cp.at_ c (es.map (·.1)))) s (allO (rd (s.gls.map (·.x)) k (s.sc.map (·.x))) (Cp.at_ c (es.map (·.1)))) w w' r (fun u _ => MkV u) := by
 have HX := mkC (expressions_c hE S s N w p n cc es h hes hn3 hN)
 generalize allO (rd (s.gls.map (·.x)) k (s.sc.map (·.x))) (Cp.at_ c (es.map (·.1))) = ro at HX
 generalize N + sumB k (Cp.at_ c (es.map (·.1))) = NN at HX
 clear h hes hN hE
 go_enter Tryz.func56, Tryz.ntmps56
 go_wp2_with fail
 refine HX.out.mono ?_
 intro r w1 hr
 cases ro with
 | none =>
  obtain ⟨rfl, hb3⟩ := hr
  exact ⟨rfl, rfl, hb3⟩
 | some ns =>
  obtain ⟨u, s', rfl, ⟨us, q1, q2, q3⟩, h1, h2, h3, h4⟩ := hr
  obtain ⟨vp, vc, rfl⟩ := owns_form q3
  have HF : Hid (∀ w2 u', Below w1.heap.size w1 w2 → MkV u' → RdQ c NN s (some ns) w w2 (.returned u') (fun u _ => MkV u)) := fun w2 u' hb hu' => RdQ.then_ ⟨h1, h2, h3, h4⟩ hb hu'
  clear h1 h2 h3 h4
  by_cases hn0 : n = 0
  ·subst hn0
   clear q1 q2 q3
   go_wp2_with fail
   refine (constant_c _ _ _ _).mono ?_
   rintro r w2 ⟨u2, rfl, ⟨f, b, cp, rfl⟩, hb2⟩
   have HG := mkC (HF.out w2 (.func f b cp) ((below2 w1 _ _).trans (hb2.mono (below2 w1 _ _).size)) ⟨f, b, cp, rfl⟩)
   clear hb2
   go_wp2_with fail
   go_ret
   exact HG.out
  ·by_cases hn1 : n = 1
   ·subst hn1
    obtain ⟨_, _, hcs⟩ := owns_cells q3
    obtain ⟨g, rfl, hg, _, _, hcl⟩ := hcs (by omega)
    have y0 := hcl 0 (by omega)
    obtain ⟨f, b, cp, hu0⟩ := q1 _ (List.getElem_mem (show 0 < us.length by omega))
    rw [List.getElem?_eq_getElem (by omega), hu0] at y0
    clear q1 q2 q3 hcs hcl hu0
    go_wp2_with fail
    go_ret
    exact HF.out _ _ (below2 _ _ _) ⟨f, b, cp, rfl⟩
   ·have t1 : ((n : Int) == 0) = false := by simp; omega
    have t2 : ((n : Int) - 1 == 0) = false := by simp; omega
    have hn2 : 2 ≤ n := by omega
    clear q1 q2 q3
    go_wp2_with fail
    refine (constant_c _ _ _ _).mono ?_
    rintro r w2 ⟨u2, rfl, ⟨f, b, cp, rfl⟩, hb2⟩
    have HG : Hid (∀ u', MkV u' → RdQ c NN s (some ns) w (w2.alloc (.cells #[.func f b cp] 109)) (.returned u') (fun u _ => MkV u)) := fun u' hu' => HF.out _ u' (by
     have hb3 : Below w1.heap.size w1 w2 := Below.trans (((below1 w1 _).trans ((below1 _ _).mono (by simp))).trans ((below1 _ _).mono (by simp; omega))) (hb2.mono (by simp; omega))
     exact hb3.trans ((below1 w2 _).mono hb3.size)) hu'
    clear hb2
    go_wp2_with fail
    go_ret
    exact HG.out _ ⟨_, _, _, rfl⟩
theorem box_keep {w w' : World} {a b : Value} (hb : Below (w.alloc (.cells #[a, b] 102)).heap.size (w.alloc (.cells #[a, b] 102)) w') : w'.cell? ⟨w.heap.size, 0, none⟩ = some a ∧ w'.cell? ⟨w.heap.size, 1, none⟩ = some b := by
 have h1 : w'.heap[w.heap.size]? = some (.cells #[a, b] 102) := (hb.block _ (by simp)).trans (Go.Deep.blk_alloc_new _ _)
 constructor <;> simp [World.cell?, h1]
set_option maxRecDepth 20000 in
set_option maxHeartbeats 2000000 in
theorem expression_a {c : Cx} {db dof k : Nat} {S : Nat → Prop} {s : Sg} {N : Nat} {e : Pe} (hx : PgX c db dof) (w : World) (h : PgI c N w s) (hp : Pt c db dof S w k e) (hls : isLs (c.ds.drop e.1) = false) (hN : N + 1 ≤ 1000000000) :
  Calls Tryz.prog 115 #[.pointer (some ⟨s.pb, 0, none⟩), .agg #[e.2.1, e.2.2]] w fun r w' => RdQ c (N + 1) s (atmR (s.gls.map (·.x)) (s.sc.map (·.x)) (c.ds.drop e.1)) w w' r (fun u _ => MkV u) := by
 obtain ⟨so, sn, sc, hdv⟩ : ∃ so sn sc, e.2.1 = .slice (some ⟨db, so, none⟩) sn sc := ⟨_, _, _, hp.ok.1⟩
 obtain ⟨ep, eN, eC, hev⟩ := hp.row
 obtain ⟨W, hW⟩ : ∃ W, W = w.alloc (.cells #[.slice (some ⟨db, so, none⟩) sn sc, .slice ep eN eC] 102) := ⟨_, rfl⟩
 have hbW : Below w.heap.size w W := by rw [hW]; exact below1 _ _
 have hbc : Below c.w0.heap.size c.w0 W := h.bel.trans (hbW.mono h.bel.size)
 have hIL := isList_c hx W hbc (hp.below hbW)
 rw [hls] at hIL
 have HNM : Hid (∀ w', Below W.heap.size W w' → Calls Tryz.prog 61 #[.agg #[.slice (some ⟨db, so, none⟩) sn sc, .slice ep eN eC]] w' fun r w'' => r = .returned (.string (strOfNums (nm (c.ds.drop e.1)))) ∧ Below w'.heap.size w' w'') := fun w' hb' => by
  have h1 := name_c hx w' (hbc.trans (hb'.mono hbc.size)) ((hp.below hbW).below hb')
  rw [hdv, hev] at h1
  exact h1
 have HBX : Hid (∀ w', Below W.heap.size W w' → w'.cell? ⟨w.heap.size, 0, none⟩ = some (.slice (some ⟨db, so, none⟩) sn sc) ∧ w'.cell? ⟨w.heap.size, 1, none⟩ = some (.slice ep eN eC)) := fun w' hb' => by
  rw [hW] at hb'
  exact box_keep hb'
 rw [hdv, hev] at hIL ⊢
 have HIL := mkC hIL
 have HI := mkC h
 have HBW := mkC hbW
 have HRG := mkC (nm_rg hx hp)
 have HOK := mkC hp.ok.2.1
 have HW := mkC hW
 obtain ⟨B, hB⟩ : ∃ B, B = w.heap.size := ⟨_, rfl⟩
 rw [← hB] at HBX
 have HBB := mkC hB
 by_cases hs : isSy (c.ds.drop e.1) = true
 ·have hne := nm_of_sy hp.ok.2.1 hs
  have HAT : Hid (atmR (s.gls.map (·.x)) (s.sc.map (·.x)) (c.ds.drop e.1) = some (lack (s.gls.map (·.x)) (s.sc.map (·.x)) (nm (c.ds.drop e.1)))) := by unfold Hid atmR; rw [if_pos hs]
  rw [HAT.out]
  generalize nm (c.ds.drop e.1) = x at HNM HRG hne
  have t1 : ((strOfNums x).toList == []) = false := by
   rw [ByteArray.toList_eq, strOfNums_data]
   cases x with
   | nil => exact absurd rfl hne
   | cons a r => rfl
  have HSY : Hid (∀ w', Below W.heap.size W w' → Calls Tryz.prog 161 #[.pointer (some ⟨s.pb, 0, none⟩), .string (strOfNums x)] w' fun r w'' => RdQ c (N + 1) s (some (lack (s.gls.map (·.x)) (s.sc.map (·.x)) x)) w w'' r (fun u _ => MkV u)) := fun w' hb' => by
   have hb2 := HBW.out.trans (hb'.mono HBW.out.size)
   have h1 := HI.out.below hb2
   refine (symbol_c x w' h1.1 HRG.out hN).mono ?_
   rintro r w'' ⟨u, s', rfl, h2, h3, h4, h5, h6⟩
   exact ⟨u, s', rfl, h2, h3, h1.2.trans h4, h5, h6⟩
  generalize strOfNums x = st at HNM HSY t1
  clear h hp hls hdv hev hW hbW hbc hIL hs hne HAT hB
  go_enter Tryz.func115, Tryz.ntmps115
  go_wp2_with fail
  rw [← HW.out, ← HBB.out]
  refine HIL.out.mono ?_
  rintro r w2 ⟨rfl, hb2⟩
  obtain ⟨y0, y1⟩ := HBX.out w2 hb2
  have HB2 := mkC hb2
  clear hb2
  go_wp2_with fail
  refine (HNM.out w2 HB2.out).mono ?_
  rintro r w3 ⟨rfl, hb3⟩
  have HB3 := mkC (HB2.out.trans (hb3.mono HB2.out.size))
  obtain ⟨z0, z1⟩ := HBX.out w3 HB3.out
  clear hb3 y0 y1
  go_wp2_with fail
  refine (HNM.out w3 HB3.out).mono ?_
  rintro r w4 ⟨rfl, hb4⟩
  have HB4 := mkC (HB3.out.trans (hb4.mono HB3.out.size))
  clear hb4 z0 z1
  go_wp2_with fail
  refine (HSY.out w4 HB4.out).mono ?_
  rintro r w5 ⟨u, s', rfl, ⟨f, b, cp, rfl⟩, h3, h4, h5, h6⟩
  have HF : Hid (RdQ c (N + 1) s (some (lack (s.gls.map (·.x)) (s.sc.map (·.x)) x)) w w5 (.returned (.func f b cp)) (fun u _ => MkV u)) := ⟨_, s', rfl, ⟨f, b, cp, rfl⟩, h3, h4, h5, h6⟩
  clear h3 h4 h5 h6
  go_wp2_with fail
  go_ret
  exact HF.out
 ·have hnn : nm (c.ds.drop e.1) = [] := Classical.byContradiction (fun hne => hs (sy_of_nm hp.ok.2.1 hne))
  have HAT : Hid (atmR (s.gls.map (·.x)) (s.sc.map (·.x)) (c.ds.drop e.1) = some []) := by unfold Hid atmR; rw [if_neg hs]
  rw [HAT.out]
  rw [hnn] at HNM
  have t1 : ((strOfNums []).toList == []) = true := by rw [ByteArray.toList_eq, strOfNums_data]; rfl
  generalize strOfNums [] = st at HNM t1
  clear h hp hls hdv hev hW hbW hbc hIL hs hnn HAT hB
  go_enter Tryz.func115, Tryz.ntmps115
  go_wp2_with fail
  rw [← HW.out, ← HBB.out]
  refine HIL.out.mono ?_
  rintro r w2 ⟨rfl, hb2⟩
  obtain ⟨y0, y1⟩ := HBX.out w2 hb2
  have HB2 := mkC hb2
  clear hb2
  go_wp2_with fail
  refine (HNM.out w2 HB2.out).mono ?_
  rintro r w3 ⟨rfl, hb3⟩
  have HB3 := mkC (HB2.out.trans (hb3.mono HB2.out.size))
  obtain ⟨z0, z1⟩ := HBX.out w3 HB3.out
  clear hb3 y0 y1
  go_wp2_with fail
  refine (constant_c _ _ _ _).mono ?_
  rintro r w4 ⟨u2, rfl, ⟨f, b, cp, rfl⟩, hb4⟩
  have HF : Hid (RdQ c (N + 1) s (some []) w w4 (.returned (.func f b cp)) (fun u _ => MkV u)) := RdQ.then_ ⟨HI.out.mono (Nat.le_succ N), FrP.refl s _, SmP.refl s, (List.append_nil _).symm⟩ (HBW.out.trans ((HB3.out.trans (hb4.mono HB3.out.size)).mono HBW.out.size)) ⟨f, b, cp, rfl⟩
  clear hb4
  go_wp2_with fail
  go_ret
  exact HF.out
theorem run_lookW {w : World} {m : Nat} {l : List (List Int × Value)} (h : MpS w m l) (hr : ∀ p ∈ l, Rg p.1) {x : List Int} (hx : Rg x) :
  (Instr.lookup 54 (.map (some m)) (.string (strOfNums x)) true).run Tryz.prog w = .ok (.tuple #[(findS l x).getD .nilFunc, .bool (findS l x).isSome]) w := by
 obtain ⟨es, clk, h1, h2⟩ := h
 obtain ⟨r, h3, h4⟩ := findNow_s hx es.toList l 0 hr h2
 have hk : MapKept.IsKey .string (.string (strOfNums x)) := by first | exact trivial | simp [MapKept.IsKey]
 rw [← h4]
 cases r with
 | none => simp [Instr.lookup, run_underlying Tryz.underlying54, MapKept.run_getObj_map h1, MapKept.run_checkKey Tryz.underlying9 hk, MapKept.run_findKey Tryz.underlying9 h3, Result.andThen]
 | some p => simp [Instr.lookup, run_underlying Tryz.underlying54, MapKept.run_getObj_map h1, MapKept.run_checkKey Tryz.underlying9 hk, MapKept.run_findKey Tryz.underlying9 h3, Result.andThen]
theorem EsR.tail {c : Cx} {db dof k n d g o : Nat} {S : Nat → Prop} {w : World} {x : Pe} {r : List Pe} {p' : Option Addr} (h : EsR c db dof S k w (some ⟨g, o, none⟩) (n + 1) (d + 1) (x :: r)) (hp : 0 < n → p' = some ⟨g, o + 2, none⟩) : EsR c db dof S k w p' n d r := by
 refine ⟨by have := h.1; simpa using this, by have := h.2.1; omega, fun h0 => ?_, fun y hy => h.2.2.2 y (List.mem_cons_of_mem _ hy)⟩
 obtain ⟨g', o', cur, e, hg, hc⟩ := h.2.2.1 (by omega)
 cases e
 refine ⟨g, o + 2, cur, hp h0, hg, fun j hj => ?_⟩
 have h1 := hc (j + 1) (by simp; exact hj)
 have e1 : o + 2 + j * 2 = o + (j + 1) * 2 := by omega
 rw [e1]
 simpa using h1
theorem Pt.esr {c : Cx} {db dof k : Nat} {S : Nat → Prop} {w : World} {e : Pe} (h : Pt c db dof S w k e) : ∃ (p : Option Addr) (cc : Nat) (es : List Pe), e.2.2 = .slice p es.length cc ∧ EsR c db dof S (k - 1) w p es.length cc es ∧ Cp.at_ c (es.map (·.1)) = kidsOf k (c.ds.drop e.1) := by
 obtain ⟨es, hrow, hat, hels⟩ := h.els
 obtain ⟨p, cc, hev⟩ := owns_form hrow
 rw [hev] at hrow
 obtain ⟨h1, _, h3⟩ := owns_cells hrow
 refine ⟨p, cc, es, hev, ⟨rfl, h1, fun h0 => ?_, hels⟩, hat⟩
 obtain ⟨g, e2, _, _, ⟨cur, hg⟩, h5⟩ := h3 h0
 refine ⟨g, 0, cur, e2, hg, fun j hj => ?_⟩
 have h6 := peC_at es j hj
 rw [Nat.zero_add]
 exact ⟨by rw [h5 (j * 2) (by omega)]; exact h6.1, by rw [h5 (j * 2 + 1) (by omega)]; exact h6.2⟩
theorem infoPv : (Tryz.prog.info? 107).map (fun i => (i.zero, i.size, i.bytes)) = some (some (.pointer none), 1, 8) := by kernel_rfl
theorem PgI.same {c : Cx} {N : Nat} {w w' : World} {s : Sg} (h : PgI c N w s) (hb : Below c.w0.heap.size w w') (hk : ∀ k, k < w.heap.size → Fq s k ∨ k = s.wm → w'.heap[k]? = w.heap[k]?) : PgI c N w' s := by
 have kp : ∀ {k : Nat} {o : Obj}, w.heap[k]? = some o → Fq s k ∨ k = s.wm → w'.heap[k]? = some o := fun hc hq => (hk _ (Array.getElem?_eq_some_iff.1 hc).1 hq).trans hc
 refine ⟨h.bel.trans hb, h.pb0, kp h.blk (Or.inl (Or.inl rfl)), ?_, ?_, h.gm0, h.nd, fun v hv => ⟨?_, (h.vrs v hv).2⟩, ?_, ?_, h.ubr, ?_, h.len⟩
 ·obtain ⟨es, clk, h1, h2⟩ := h.wor
  exact ⟨es, clk, kp h1 (Or.inr rfl), h2⟩
 ·obtain ⟨es, clk, h1, h2⟩ := h.glo
  exact ⟨es, clk, kp h1 (Or.inl (Or.inr (Or.inl rfl))), h2⟩
 ·obtain ⟨n, g, bx, h1⟩ := (h.vrs v hv).1
  exact ⟨n, g, bx, kp h1 (Or.inl (Or.inr (Or.inr (Or.inr (Or.inr (Or.inr ⟨v, hv, rfl⟩))))))⟩
 ·exact owns_of_heap h.sco (fun j hj => hk j (owns_lt h.sco j hj).1 (Or.inl (Or.inr (Or.inr (Or.inl hj)))))
 ·exact owns_of_heap h.ubo (fun j hj => hk j (owns_lt h.ubo j hj).1 (Or.inl (Or.inr (Or.inr (Or.inr (Or.inl hj))))))
 ·exact owns_of_heap h.fmo (fun j hj => hk j (owns_lt h.fmo j hj).1 (Or.inl (Or.inr (Or.inr (Or.inr (Or.inr (Or.inl hj)))))))
theorem EsR.of {c : Cx} {db dof k n cc : Nat} {S : Nat → Prop} {w w' : World} {p : Option Addr} {es : List Pe} (h : EsR c db dof S k w p n cc es) (hk : ∀ (j : Nat) (cur : Array Value), w.heap[j]? = some (Obj.cells cur 102) → w'.heap[j]? = w.heap[j]?) : EsR c db dof S k w' p n cc es := by
 refine ⟨h.1, h.2.1, fun h0 => ?_, fun x hx => Pt.of (fun _ h _ => h) (fun j cur _ hj => hk j cur hj) k x (h.2.2.2 x hx)⟩
 obtain ⟨g, o, cur, e, hg, hc⟩ := h.2.2.1 h0
 have hk' := hk g cur hg
 exact ⟨g, o, cur, e, hk'.trans hg, fun j hj => ⟨by rw [World.cell?_of_block (w := w) hk']; exact (hc j hj).1, by rw [World.cell?_of_block (w := w) hk']; exact (hc j hj).2⟩⟩
theorem PgI.wm_ne {c : Cx} {N k : Nat} {w : World} {s : Sg} {a : Array Value} {t : TypeId} (h : PgI c N w s) (hk : w.heap[k]? = some (.cells a t)) : k ≠ s.wm := fun e => by
 obtain ⟨es, clk, h1, _⟩ := h.wor
 rw [e, h1] at hk
 cases hk
structure BdI (B : Nat) (w : World) (v : Value) (bs : List Pv) : Prop where
 row : w.ownsRow B 107 1 v bs.length (pvC bs)
 vrs : ∀ v ∈ bs, VrI w v ∧ B ≤ v.b ∧ Rg v.x
theorem BdI.of {B : Nat} {w w' : World} {v : Value} {bs : List Pv} (h : BdI B w v bs) (hk : ∀ (j : Nat) (cur : Array Value) (t : TypeId), B ≤ j → (t = 107 ∨ t = 175) → w.heap[j]? = some (Obj.cells cur t) → w'.heap[j]? = w.heap[j]?) : BdI B w' v bs := by
 refine ⟨owns_of_heap h.row (fun j hj => ?_), fun u hu => ⟨?_, (h.vrs u hu).2⟩⟩
 ·obtain ⟨_, cur, hc⟩ := owns_lt h.row j hj
  exact hk j cur _ (owns_ge h.row j hj) (Or.inl rfl) hc
 ·obtain ⟨⟨n, g, bx, h1⟩, h2, _⟩ := h.vrs u hu
  exact ⟨n, g, bx, (hk _ _ _ h2 (Or.inr rfl) h1).trans h1⟩
theorem BdI.below {B : Nat} {w w' : World} {v : Value} {bs : List Pv} (h : BdI B w v bs) (hb : Below w.heap.size w w') : BdI B w' v bs := h.of (fun j _ _ _ _ hj => hb.block j (Array.getElem?_eq_some_iff.1 hj).1)
theorem pvC_app (a b : List Pv) : pvC (a ++ b) = pvC a ++ pvC b := by simp [pvC]
theorem pvC_len (a : List Pv) : (pvC a).length = a.length := by simp [pvC]
theorem PgI.setLo {c : Cx} {N : Nat} {w : World} {s : Sg} (h : PgI c N w s) : PgI c (N + 1) (w.setCell ⟨s.pb, 3, none⟩ (.int .i64 ((s.lo + 1 : Nat) : Int))) { s with lo := s.lo + 1 } ∧ FrP s { s with lo := s.lo + 1 } w (w.setCell ⟨s.pb, 3, none⟩ (.int .i64 ((s.lo + 1 : Nat) : Int))) := by
 have hab := (Array.getElem?_eq_some_iff.1 h.blk).1
 have hch : ∀ k, k ≠ s.pb → (w.setCell ⟨s.pb, 3, none⟩ (.int .i64 ((s.lo + 1 : Nat) : Int))).heap[k]? = w.heap[k]? := fun k hk => set_keep _ hk
 have hob : ∀ {k : Nat} {o : Obj}, w.heap[k]? = some o → (∀ a, o ≠ .cells a 59) → (w.setCell ⟨s.pb, 3, none⟩ (.int .i64 ((s.lo + 1 : Nat) : Int))).heap[k]? = some o := fun {k o} hk h1 => (hch k (fun e => by rw [e, h.blk] at hk; exact h1 _ (Option.some.inj hk).symm)).trans hk
 have row : ∀ {n size : Nat} {e : TypeId} {v : Value} {xs : List Value}, w.ownsRow c.w0.heap.size e size v n xs → e ≠ 59 → (w.setCell ⟨s.pb, 3, none⟩ (.int .i64 ((s.lo + 1 : Nat) : Int))).ownsRow c.w0.heap.size e size v n xs := fun hr hp => owns_of_heap hr (fun j hj => by
  obtain ⟨_, cur, hc⟩ := owns_lt hr j hj
  rw [hc]
  exact hob hc (fun a e => by cases e; exact hp rfl))
 refine ⟨⟨h.bel.trans (Below.setCell (Below.refl _ _) (p := ⟨s.pb, 3, none⟩) h.pb0 _), h.pb0, (set_pg h.blk _).2.1, ?_, ?_, h.gm0, h.nd, fun v hv => ⟨?_, (h.vrs v hv).2⟩, row h.sco (by decide), row h.ubo (by decide), h.ubr, row h.fmo (by decide), ?_⟩, ⟨?_, ?_, ?_⟩⟩
 ·obtain ⟨es, clk, h1, h2⟩ := h.wor
  exact ⟨es, clk, hob h1 (fun a e => by cases e), h2⟩
 ·obtain ⟨es, clk, h1, h2⟩ := h.glo
  exact ⟨es, clk, hob h1 (fun a e => by cases e), h2⟩
 ·obtain ⟨n, g, bx, h1⟩ := (h.vrs v hv).1
  exact ⟨n, g, bx, hob h1 (fun a e => by cases e)⟩
 ·have h1 := (h.mono (Nat.le_succ N)).len
  exact ⟨h1.1, h1.2.1, h1.2.2.1, h1.2.2.2.1, by have := h.len.2.2.2.2; show s.lo + 1 ≤ N + 1; omega⟩
 ·rw [set_size]; exact Nat.le_refl _
 ·intro k _ hn
  exact hch k (fun e => hn (Or.inl e))
 ·exact fun k hk => Or.inl hk
theorem run_appendK {w : World} (t ty e : TypeId) (i : TypeInfo) (z : Value) (size bytes B : Nat) (ht : Tryz.prog.underlying t = some (.slice e)) (hi : Tryz.prog.info? e = some i) (hz : i.zero = some z) (hsize : i.size = size) (hby : i.bytes = bytes) (hzs : z.cells.size = size) (hsz : 0 < size)
  (v : Value) (n : Nat) (xs : List Value) (hown : w.ownsRow B e size v n xs) (a : Addr) (m cc : Nat) (news : List Value) (hl : news.length = m * size) (hnews : ∀ j u, news[j]? = some u → w.cell? (a.add j) = some u) (h1 : ∀ u ∈ news, u.oneCell' = true) (h63 : n + m ≤ maxLen) (hbytes : (n + m) * bytes ≤ 140737488355328) (hbase : B ≤ w.heap.size) :
  ∃ v' w', (Builtin.append_ #[t, t] ty #[v, .slice (some a) m cc]).run Tryz.prog w = .ok v' w' ∧ w'.ownsRow B e size v' (n + m) (xs ++ news) ∧ w.grownBy w' v.ownBlock ∧ ((∃ p k, v = .slice p n k ∧ v' = .slice p (n + m) k) ∨ (v'.ownBlock = some w.heap.size ∧ Below w.heap.size w w')) := by
 obtain ⟨v', w', hr, h2, h3, h4, h5⟩ := run_append_own_at (P := Tryz.prog) w B t ty e i z size bytes ht hi hz hsize hby hzs hsz v n xs hown a m cc news hl hnews h1 h63 hbytes hbase
 refine ⟨v', w', hr, h2, h3, ?_⟩
 obtain ⟨hxl, ⟨rfl, h0⟩ | ⟨g, cap, cur, rfl, hg, hh, hnc, hcm, hcs, htk⟩⟩ := id hown
 ·subst h0
  rcases h5 with h5 | h5
  ·left
   obtain ⟨p, k, hv'⟩ := owns_form h2
   obtain ⟨_, ⟨rfl, h0⟩ | ⟨g', cap', cur', rfl, _⟩⟩ := id h2
   ·exact ⟨none, 0, rfl, by rw [h0]⟩
   ·cases h5
  ·exact Or.inr ⟨h5, ⟨h3.os, h3.tape, h3.output, h3.size, fun k hk => h3.block k hk (by simp [Value.ownBlock])⟩⟩
 ·by_cases hroom : n + m ≤ cap
  ·subst hsize
   have hfit : n * i.size + news.length ≤ cur.size := by rw [hl, hcs, ← Nat.add_mul]; exact Nat.mul_le_mul_right _ hroom
   have hr2 := run_append_room (P := Tryz.prog) w t ty e i ht hi g n cap cur hh a m cc news hl hnews h1 hroom hfit
   rw [hr] at hr2
   injection hr2 with hv hw
   exact Or.inl ⟨_, _, rfl, hv⟩
  ·right
   obtain ⟨_, ⟨rfl, h0⟩ | ⟨g', cap', cur', rfl, hg', hh', hnc', hcm', hcs', htk'⟩⟩ := id h2
   ·omega
   ·subst hsize
    subst hby
    have holds : ∀ j u, xs[j]? = some u → w.cell? ((⟨g, 0, none⟩ : Addr).add j) = some u := hown.cells (g := g) rfl
    have hr2 := run_append_grow (P := Tryz.prog) w t ty e i z ht hi hz ⟨g, 0, none⟩ n cap xs hown.1 holds a m cc news hl hnews (by omega) (by simp only [maxLen] at h63; omega) (growslice_fits (by omega) hbytes)
    rw [hr] at hr2
    injection hr2 with hv hw
    refine ⟨by rw [hv]; rfl, ?_⟩
    rw [hw]
    exact (below_drewC (Below.refl _ _)).trans ((below1 _ _).mono (Nat.le_refl _))
set_option maxHeartbeats 1000000 in
theorem bind1_c (vb nb : Nat) (a b : ByteArray) (w : World) (h1 : w.cell? ⟨vb, 0, none⟩ = some (.string a)) (h2 : w.cell? ⟨nb, 0, none⟩ = some (.string b)) : Calls Tryz.prog 152 #[.pointer (some ⟨vb, 0, none⟩), .pointer (some ⟨nb, 0, none⟩)] w fun e w' => e = .returned (.bool (a.toList == b.toList)) ∧ Below w.heap.size w w' := by
 have HB : Hid (Below w.heap.size w w.drew) := below_drewC (Below.refl _ _)
 go_enter Tryz.func152, Tryz.ntmps152
 go_wp2_with fail
 go_region
 all_goals go_wp2_with fail
 all_goals go_ret
 all_goals exact ⟨rfl, HB.out⟩
def VsR (w : World) (p : Option Addr) (n : Nat) (bs : List Pv) : Prop := bs.length = n ∧ (0 < n → ∃ g, p = some ⟨g, 0, none⟩ ∧ g < w.heap.size ∧ ∀ j (hj : j < bs.length), w.cell? ⟨g, j, none⟩ = some (.pointer (some ⟨(bs[j]'hj).b, 0, none⟩))) ∧ ∀ v ∈ bs, VrI w v ∧ Rg v.x
theorem VsR.below {w w' : World} {p : Option Addr} {n : Nat} {bs : List Pv} (h : VsR w p n bs) (hb : Below w.heap.size w w') : VsR w' p n bs := by
 refine ⟨h.1, fun h0 => ?_, fun v hv => ⟨?_, (h.2.2 v hv).2⟩⟩
 ·obtain ⟨g, e, hg, hc⟩ := h.2.1 h0
  exact ⟨g, e, Nat.lt_of_lt_of_le hg hb.size, fun j hj => cell_keepC hb hg (hc j hj)⟩
 ·obtain ⟨n, g, bx, h1⟩ := (h.2.2 v hv).1
  exact ⟨n, g, bx, (hb.block _ (Array.getElem?_eq_some_iff.1 h1).1).trans h1⟩
theorem BdI.vsr {B n cc : Nat} {w : World} {p : Option Addr} {bs : List Pv} (h : BdI B w (.slice p n cc) bs) (hn : bs.length = n) : VsR w p n bs ∧ n ≤ cc := by
 have hr := h.row
 rw [hn] at hr
 obtain ⟨h1, _, h3⟩ := owns_cells hr
 refine ⟨⟨hn, fun h0 => ?_, fun v hv => ⟨(h.vrs v hv).1, (h.vrs v hv).2.2⟩⟩, h1⟩
 obtain ⟨g, e, hg, _, _, hc⟩ := h3 h0
 refine ⟨g, e, hg, fun j hj => ?_⟩
 rw [hc j (by omega)]
 unfold pvC
 rw [List.getElem?_map, List.getElem?_eq_getElem hj]
 rfl
set_option maxRecDepth 20000 in
set_option maxHeartbeats 2000000 in
theorem indexFunc_c (x : List Int) (hx : Rg x) (nb : Nat) (p : Option Addr) (n cc : Nat) (bs : List Pv) (hn : n ≤ 1000000) (w : World) (hnb : nb < w.heap.size) (h2 : w.cell? ⟨nb, 0, none⟩ = some (.string (strOfNums x))) (hv : VsR w p n bs) :
  Calls Tryz.prog 182 #[.slice p n cc, .func (.func 152) #[] #[.pointer (some ⟨nb, 0, none⟩)]] w fun e w' => (∃ z : Int, e = .returned (.int .i64 z) ∧ decide (0 ≤ z) = (bs.map (·.x)).contains x) ∧ Below w.heap.size w w' := by
 have HV := mkC hv
 have HX := mkC hx
 have H2 := mkC h2
 have HL : Hid (bs.length = n) := hv.1
 have HNB := mkC hnb
 clear hv hx h2
 go_enter Tryz.func182, Tryz.ntmps182
 go_wp2_with fail
 go_loopw [8] (fun iv wr => ∃ i : Nat, i ≤ n ∧ iv = .int .i64 (i : Nat) ∧ Hid (Below w.heap.size w wr) ∧ Hid (∀ j (hj : j < bs.length), j < i → (bs[j]'hj).x ≠ x)) (fun iv _ => n - (intOf iv).toNat)
 case atStart => exact ⟨0, Nat.zero_le _, rfl, Below.refl _ _, fun j _ hj => absurd hj (Nat.not_lt_zero j)⟩
 case round =>
  obtain ⟨i, hi, rfl, hB, hJ⟩ := hrel
  by_cases hlt : i < n
  ·have hil : i < bs.length := by rw [HL.out]; exact hlt
   have hvw := HV.out.below hB.out
   obtain ⟨g, rfl, hg, hc⟩ := hvw.2.1 (by omega)
   have y0 := hc i hil
   obtain ⟨hvi, hvr⟩ := hvw.2.2 _ (List.getElem_mem hil)
   have hc0 := hvi.cell
   have HC := mkC (bind1_c (bs[i]'hil).b nb _ _ wr hc0.2 (cell_keepC hB.out HNB.out H2.out))
   have HEQ := mkC (str_eqb HX.out hvr)
   have HYES : Hid ((bs[i]'hil).x = x → decide ((0 : Int) ≤ (i : Nat)) = (bs.map (·.x)).contains x) := fun e => by
    rw [decide_eq_true (by omega)]
    symm
    rw [List.contains_iff_mem]
    exact List.mem_map.2 ⟨_, List.getElem_mem hil, e⟩
   have HNO : Hid ((bs[i]'hil).x ≠ x → ∀ j (hj : j < bs.length), j < i + 1 → (bs[j]'hj).x ≠ x) := fun e j hj hj1 => by
    rcases (show j < i ∨ j = i by omega) with h1 | h1
    ·exact hJ.out j hj h1
    ·subst h1
     exact e
   rw [HEQ.out] at HC
   clear hvw hc hvi hvr hc0 HEQ
   generalize (bs[i]'hil).b = vb at y0 HC
   generalize (bs[i]'hil).x = vx at HC HYES HNO
   by_cases hxe : vx = x
   ·rw [decide_eq_true hxe] at HC
    have HY := mkC (HYES.out hxe)
    clear hxe HYES HNO
    go_wp2_with (go_at_call 152; refine HC.out.mono ?_; rintro e w2 ⟨rfl, hb2⟩; have HB2 := mkC (hB.out.trans (hb2.mono hB.out.size)); clear hb2)
    go_ret
    exact ⟨⟨_, rfl, HY.out⟩, HB2.out⟩
   ·rw [decide_eq_false hxe] at HC
    have HN := mkC (HNO.out hxe)
    clear hxe HYES HNO
    go_wp2_with (go_at_call 152; refine HC.out.mono ?_; rintro e w2 ⟨rfl, hb2⟩; have HB2 := mkC (hB.out.trans (hb2.mono hB.out.size)); clear hb2)
    exact ⟨⟨i + 1, by omega, by go_num, HB2.out, HN.out⟩, by simp [intOf]; omega⟩
  ·have HF : Hid (decide ((0 : Int) ≤ -1) = (bs.map (·.x)).contains x) := by
    unfold Hid
    symm
    rw [show decide ((0 : Int) ≤ -1) = false by decide, ← Bool.not_eq_true, List.contains_iff_mem]
    intro hm
    obtain ⟨v, hv, e⟩ := List.mem_map.1 hm
    obtain ⟨j, hj, rfl⟩ := List.getElem_of_mem hv
    exact hJ.out j hj (by have := HL.out; omega) e
   go_wp2_with fail
   go_ret
   exact ⟨⟨_, rfl, HF.out⟩, hB.out⟩
set_option maxHeartbeats 1000000 in
theorem containsFunc_c (x : List Int) (hx : Rg x) (nb : Nat) (p : Option Addr) (n cc : Nat) (bs : List Pv) (hn : n ≤ 1000000) (w : World) (hnb : nb < w.heap.size) (h2 : w.cell? ⟨nb, 0, none⟩ = some (.string (strOfNums x))) (hv : VsR w p n bs) :
  Calls Tryz.prog 153 #[.slice p n cc, .func (.func 152) #[] #[.pointer (some ⟨nb, 0, none⟩)]] w fun e w' => e = .returned (.bool ((bs.map (·.x)).contains x)) ∧ Below w.heap.size w w' := by
 have HC := mkC (indexFunc_c x hx nb p n cc bs hn w hnb h2 hv)
 generalize (bs.map (·.x)).contains x = b at HC
 clear hx h2 hv
 go_enter Tryz.func153, Tryz.ntmps153
 go_wp2_with fail
 refine HC.out.mono ?_
 rintro e w2 ⟨⟨z, rfl, hz⟩, hb2⟩
 have HB2 := mkC hb2
 clear hb2
 go_wp2_with fail
 go_ret
 exact ⟨rfl, HB2.out⟩
end Cp
end Go.Proofs.YtnnpfoilojicjaaGreatDoor
