import Derived.Test.YtnnpfoilojicjaaGreatDoorB7
import Derived.BigQuiet
namespace Go.Proofs.YtnnpfoilojicjaaGreatDoor
open Go.RowKit Ch1
namespace Cp
set_option maxRecDepth 20000 in
theorem step_callG (w : World) {ops : Array Oper} {o : Oper} {a : Act} {K : Act → World → Prop} {Q : Exit → Act → World → Prop} {E : Prop} (hw : Region.wanted o (yielded ops a.tmps) = true) (f : FuncId) (s : Array Operand) (ts : Array TypeId)
  (ho : o.op = .call { callee := .value (.func f), args := s, argTypes := ts }) (args : Array Value) (hargs : s.map a.eval = args) (hin : ∀ w, (callFunc f args).run Tryz.prog w = .ok (.enter f args) w) (R : Value → World → Prop)
  (h : Calls Tryz.prog f args w (fun e w' => ∃ v, e = .returned v ∧ R v w')) (hK : ∀ v w', R v w' → K (a.put o.dst v) w') :
  if Region.wanted o (yielded ops a.tmps) = true then Oper.wp Tryz.prog o a w K Q else E := by
 rw [if_pos hw]
 unfold Oper.wp execOp
 simp only [ho, resolve, invoke, Sem.run_bind, hargs]
 have e : (Deferred.ofValue (a.eval (.func f)) args).run Tryz.prog w = .ok { target := .fn (.func f) #[], args := args } w := by simp [Deferred.ofValue, Act.eval]
 rw [e]
 simp only [Result.andThen_ok, Array.append_empty, hin, Oper.upon_enter]
 refine h.mono ?_
 rintro e' w' ⟨v, rfl, hv⟩
 exact hK v w' hv
theorem inSym (args : Array Value) (w : World) : (callFunc 41 args).run Tryz.prog w = .ok (.enter 41 args) w := by kernel_rfl
theorem inMeans (args : Array Value) (w : World) : (callFunc 83 args).run Tryz.prog w = .ok (.enter 83 args) w := by kernel_rfl
theorem inSpecial (args : Array Value) (w : World) : (callFunc 84 args).run Tryz.prog w = .ok (.enter 84 args) w := by kernel_rfl
theorem Inv.elAt {c : Cx} {N i : Nat} {w : World} {st : St} (h : Inv c N w st) (hi : i < c.dn) : ∃ (b o : Nat) (tp : Option Addr) (tn tc : Nat), c.dp = some ⟨b, o, none⟩ ∧ El w b (o + i * 4) (hd (c.ds.drop i)) tp tn tc := by
 obtain ⟨b, o, e, hlt, hc⟩ := (h.dat.below h.bel).cells (by omega)
 obtain ⟨tp, tn, tc, he⟩ := hc i hi
 rw [hd_drop]
 exact ⟨b, o, tp, tn, tc, e, he⟩
theorem bud_ge {k : Nat} {l : List Dt} (h : Ok k l) : 10000 ≤ bud k l ∧ 1 ≤ sz k l := by
 have := sz_pos h
 unfold bud
 omega
theorem rd_atom {gl : List (List Int)} {k : Nat} {sc : List (List Int)} {l : List Dt} (h : isLs l = false) : rd gl k sc l = atmR gl sc l := by
 cases k <;> simp [rd, h]
set_option maxRecDepth 20000 in
set_option maxHeartbeats 4000000 in
theorem l5exprS_c {c : Cx} {N k : Nat} {st : St} (i : Nat) (tail : Bool) (w : World) (h : Inv c N w st) (hi : i < c.dn) (ho : Ok k (c.ds.drop i)) (hs : isSy (c.ds.drop i) = true) (hN : N + bud k (c.ds.drop i) ≤ 1000000000) :
  Calls Tryz.prog 43 #[.pointer (some ⟨st.ab, 0, none⟩), .int .i64 (i : Nat), .bool tail] w fun e w' => (∃ u, e = .returned u) ∧ ExP c N k st i w w' := by
 have hbu := bud_ge ho
 obtain ⟨db, dof, tp, tn, tc, hdp, he⟩ := h.elAt hi
 obtain ⟨m, db2, dof2, hdp2, hmx, hm, hmc⟩ := h.nmAt hi ho hs
 have k0 := he.c0
 have k1 := he.c1
 have k2 := he.c2
 have k3 := he.c3
 have hk : (hd (c.ds.drop i)).kind = 2 := by unfold isSy at hs; simpa using hs
 rw [hk] at k0
 have hmm : Value.slice tp tn tc = .slice m.p m.n m.c := by
  have h1 := hmc w h.bel
  rw [hdp] at hdp2
  cases hdp2
  rw [k2] at h1
  exact Option.some.inj h1
 have e0 := (cells10 h.blk).1
 rw [hdp] at e0
 have hdn := h.dn
 have hls : isLs (c.ds.drop i) = false := by unfold isLs; simp [hk]
 have HRD : Hid (rd (st.gl.map (·.x)) k st.sc (c.ds.drop i) = some (lack (st.gl.map (·.x)) st.sc m.x)) := by
  unfold Hid
  rw [rd_atom hls, hmx]
  unfold atmR
  rw [if_pos hs]
 generalize (hd (c.ds.drop i)).n = dn1 at k1
 generalize (hd (c.ds.drop i)).count = dct at k3
 obtain ⟨W, hW⟩ : ∃ W, W = w.alloc (.cells #[.int .i64 2, .int .i64 dn1, .slice tp tn tc, .int .i64 dct] 47) := ⟨_, rfl⟩
 have HBW : Hid (Below w.heap.size w W) := by unfold Hid; rw [hW]; exact below1 w _
 have HSW := mkC (h.stp HBW.out)
 have hVB : W.heap[w.heap.size]? = some (.cells #[.int .i64 2, .int .i64 dn1, .slice tp tn tc, .int .i64 dct] 47) := by rw [hW]; exact Go.Deep.blk_alloc_new _ _
 have v0 : W.cell? ⟨w.heap.size, 0, none⟩ = some (.int .i64 2) := by simp [World.cell?, hVB]
 have v2 : W.cell? ⟨w.heap.size, 2, none⟩ = some (.slice tp tn tc) := by simp [World.cell?, hVB]
 have HVA := mkC (l5variable_c m W HSW.out.inv hm (by omega))
 rw [← hmm] at HVA
 have HI := mkC h
 have HBU : Hid (10000 ≤ bud k (c.ds.drop i) ∧ N + bud k (c.ds.drop i) ≤ 1000000000) := ⟨hbu.1, hN⟩
 have HWE := mkC hW
 clear h ho hs he hm hmc hmx hdp hdp2 hbu hN hk hls hVB hW hmm
 go_enter Tryz.func43, Tryz.ntmps43
 go_upto_region 1 with fail
 rw [← HWE.out]
 go_wp2_with fail
 refine HVA.out.mono ?_
 rintro e w1 ⟨⟨u, rfl⟩, s1, hs1, hr1, hb1⟩
 have HS1 := mkC (And.intro (HSW.out.trans hs1) (And.intro hr1 hb1))
 have HDO := mkC (doneA (ab := st.ab) tail w1 hs1.inv hs1.sm.ab (by have := HBU.out; omega))
 clear hs1 hr1 hb1 HVA k0 k1 k2 k3 v0 v2 e0
 go_wp2_with fail
 refine HDO.out.mono ?_
 rintro e w2 ⟨⟨u, rfl⟩, s2, hs2, hq2⟩
 have HF : Hid (ExP c N k st i w w2) := by
  refine ⟨s2, (HS1.out.1.trans hs2).mono (by have := HBU.out; omega), ?_, by rw [hq2.2.2, HS1.out.2.2]; omega⟩
  rw [HRD.out]
  exact HS1.out.2.1.then_ hq2
 clear hs2 hq2 HDO
 go_wp2_with fail
 refine bodyPost_ret (results_none rfl _ _ _) rfl ?_
 exact ⟨⟨_, rfl⟩, HF.out⟩
set_option maxRecDepth 20000 in
set_option maxHeartbeats 4000000 in
theorem l5exprC_c {c : Cx} {N k : Nat} {st : St} (i : Nat) (tail : Bool) (w : World) (hT : TxB c) (h : Inv c N w st) (hi : i < c.dn) (ho : Ok k (c.ds.drop i)) (hs : isSy (c.ds.drop i) = false) (hls : isLs (c.ds.drop i) = false) (hN : N + bud k (c.ds.drop i) ≤ 1000000000) :
  Calls Tryz.prog 43 #[.pointer (some ⟨st.ab, 0, none⟩), .int .i64 (i : Nat), .bool tail] w fun e w' => (∃ u, e = .returned u) ∧ ExP c N k st i w w' := by
 have hbu := bud_ge ho
 obtain ⟨db, dof, tp, tn, tc, hdp, he⟩ := h.elAt hi
 have k0 := he.c0
 have k1 := he.c1
 have k2 := he.c2
 have k3 := he.c3
 have t2 : ((hd (c.ds.drop i)).kind == 2) = false := by unfold isSy at hs; simpa using hs
 have t3 : ((hd (c.ds.drop i)).kind == 3) = false := by unfold isLs at hls; simpa using hls
 have e0 := (cells10 h.blk).1
 rw [hdp] at e0
 have hdn := h.dn
 have hdcap := h.dat.cap
 have HRD : Hid (rd (st.gl.map (·.x)) k st.sc (c.ds.drop i) = some []) := by
  unfold Hid
  rw [rd_atom hls]
  unfold atmR
  rw [hs]
  rfl
 generalize (hd (c.ds.drop i)).kind = kd at k0 t2 t3
 generalize (hd (c.ds.drop i)).n = dn1 at k1
 generalize (hd (c.ds.drop i)).count = dct at k3
 obtain ⟨W, hW⟩ : ∃ W, W = w.alloc (.cells #[.int .i64 kd, .int .i64 dn1, .slice tp tn tc, .int .i64 dct] 47) := ⟨_, rfl⟩
 have HBW : Hid (Below w.heap.size w W) := by unfold Hid; rw [hW]; exact below1 w _
 have HSW := mkC (h.stp HBW.out)
 have hVB : W.heap[w.heap.size]? = some (.cells #[.int .i64 kd, .int .i64 dn1, .slice tp tn tc, .int .i64 dct] 47) := by rw [hW]; exact Go.Deep.blk_alloc_new _ _
 have v0 : W.cell? ⟨w.heap.size, 0, none⟩ = some (.int .i64 kd) := by simp [World.cell?, hVB]
 have eW := (cells10 HSW.out.inv.blk).1
 rw [hdp] at eW
 have HDA := mkC (HSW.out.inv.dat.below HSW.out.inv.bel)
 rw [hdp] at HDA
 have HCO : Hid (∀ (p' : Option Addr) (n' d' : Nat), p' = some ⟨db, dof + i * 4, none⟩ → n' = 1 → d' = c.dc - i → Calls Tryz.prog 81 #[.pointer (some ⟨st.ab, 0, none⟩), .slice p' n' d'] W fun e w' => (∃ u, e = .returned u) ∧ CoP c N st W w') := by
  rintro p' n' d' rfl rfl rfl
  exact l5const_c (some ⟨db, dof + i * 4, none⟩) 1 (c.dc - i) ((c.ds.drop i).take 1) W HSW.out.inv (Da.sub HDA.out (by omega)) (by omega) (fun x hx => hT x (List.mem_of_mem_drop (List.mem_of_mem_take hx))) (by omega)
 have HI := mkC h
 have HBU : Hid (10000 ≤ bud k (c.ds.drop i) ∧ N + bud k (c.ds.drop i) ≤ 1000000000) := ⟨hbu.1, hN⟩
 have HWE := mkC hW
 clear h ho hs he hdp hbu hN hls hVB hW hT
 go_enter Tryz.func43, Tryz.ntmps43
 go_upto_region 1 with fail
 rw [← HWE.out]
 clear k0 k1 k2 k3 e0
 go_wp2_with fail
 refine (HCO.out _ _ _ ?_ ?_ ?_).mono ?_
 ·first | rfl | (simp; omega) | simp
 ·first | rfl | omega | (simp; omega)
 ·first | rfl | omega | (simp; omega)
 rintro e w1 ⟨⟨u, rfl⟩, s1, hs1, hq1⟩
 have HS1 := mkC (And.intro (HSW.out.trans hs1) hq1)
 have HDO := mkC (doneA (ab := st.ab) tail w1 hs1.inv hs1.sm.ab (by have := HBU.out; omega))
 clear hs1 hq1 HCO v0 eW
 go_wp2_with fail
 refine HDO.out.mono ?_
 rintro e w2 ⟨⟨u, rfl⟩, s2, hs2, hq2⟩
 have HF : Hid (ExP c N k st i w w2) := by
  refine ⟨s2, (HS1.out.1.trans hs2).mono (by have := HBU.out; omega), ?_, by rw [hq2.2.2, HS1.out.2.2.2]; omega⟩
  rw [HRD.out]
  exact (HS1.out.2.trans hq2).rs
 clear hs2 hq2 HDO
 go_wp2_with fail
 refine bodyPost_ret (results_none rfl _ _ _) rfl ?_
 exact ⟨⟨_, rfl⟩, HF.out⟩
theorem below_drewN {w : World} (n : Nat) : Below w.heap.size w (w.drewN n) := ⟨rfl, rfl, rfl, Nat.le_refl _, fun _ _ => rfl⟩
def TsR (c : Cx) (N k : Nat) (st : St) (i x0 : Nat) (xs : List Nat) (w w1 : World) (v : Value) (wc : World) : Prop := ∃ b, v = .bool b ∧ ((b = true ∧ ExP c N (k + 1) st i w wc) ∨ (b = false ∧ Below w1.heap.size w1 wc ∧ rd (st.gl.map (·.x)) (k + 1) st.sc (c.ds.drop i) = allO (rd (st.gl.map (·.x)) k st.sc) (at_ c (x0 :: xs))))
theorem SpP.ex {c : Cx} {N k i : Nat} {st : St} {x0 : Nat} {xs : List Nat} {r : Option (List (List Int))} {w w2 w' : World} (hs : Stp c N st w st w2) (h : SpP c N k st xs r w2 w') (hr : rd (st.gl.map (·.x)) (k + 1) st.sc (c.ds.drop i) = r) (hb : sumB k (at_ c (x0 :: xs)) + 10000 ≤ bud (k + 1) (c.ds.drop i)) (hz : sumS k (at_ c (x0 :: xs)) + 1 = sz (k + 1) (c.ds.drop i)) : ExP c N (k + 1) st i w w' := by
 obtain ⟨s', h1, h2, h3⟩ := h
 simp only [at_, List.map_cons, sumB, sumS] at hb hz
 refine ⟨s', (hs.trans h1).mono ?_, by rw [hr]; exact h2, ?_⟩
 ·simp only [at_]; omega
 ·simp only [at_] at h3; omega
theorem lst_cons {gl : List (List Int)} {k : Nat} {sc : List (List Int)} {l : List Dt} {h : List Dt} {rest : List (List Dt)} (hl : isLs l = true) (hk : kidsOf k l = h :: rest) : rd gl (k + 1) sc l = if isSy h = true ∧ bnd gl sc (nm h) = false then spcR gl k (rd gl k) sc h rest else allO (rd gl k sc) (h :: rest) := by
 simp only [rd, hl, if_true]
 rw [hk]
 rfl
theorem lst_nil {gl : List (List Int)} {k : Nat} {sc : List (List Int)} {l : List Dt} (hl : isLs l = true) (hk : kidsOf k l = []) : rd gl (k + 1) sc l = none := by
 simp only [rd, hl, if_true]
 rw [hk]
 rfl
end Cp
end Go.Proofs.YtnnpfoilojicjaaGreatDoor
