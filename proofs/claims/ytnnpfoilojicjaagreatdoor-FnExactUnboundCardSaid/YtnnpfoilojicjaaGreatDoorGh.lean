import Derived.Test.YtnnpfoilojicjaaGreatDoorGc
import Derived.Deep.RegionLaw
namespace Go.Proofs.YtnnpfoilojicjaaGreatDoor
open Go.RowKit Ch1
namespace Cp
set_option maxRecDepth 20000 in
theorem step_callC (w : World) {ops : Array Oper} {o : Oper} {a : Act} {K : Act → World → Prop} {Q : Exit → Act → World → Prop} {E : Prop} (hgd : o.guard = none) (f : FuncId) (s : Array Operand) (ts : Array TypeId)
  (ho : o.op = .call { callee := .value (.func f), args := s, argTypes := ts }) (args : Array Value) (hargs : s.map a.eval = args) (hin : ∀ w, (callFunc f args).run Tryz.prog w = .ok (.enter f args) w) (R : Value → World → Prop)
  (h : Calls Tryz.prog f args w (fun e w' => ∃ v, e = .returned v ∧ R v w')) (hK : ∀ v w', R v w' → K (a.put o.dst v) w') :
  if Region.wanted o (yielded ops a.tmps) = true then Oper.wp Tryz.prog o a w K Q else E := by
 have hw : Region.wanted o (yielded ops a.tmps) = true := by simp [Region.wanted, hgd]
 rw [if_pos hw]
 unfold Oper.wp execOp
 simp only [ho, resolve, invoke, Sem.run_bind, hargs]
 have e : (Deferred.ofValue (a.eval (.func f)) args).run Tryz.prog w = .ok { target := .fn (.func f) #[], args := args } w := by simp [Deferred.ofValue, Act.eval]
 rw [e]
 simp only [Result.andThen_ok, Array.append_empty, hin, Oper.upon_enter]
 refine h.mono ?_
 rintro e' w' ⟨v, rfl, hv⟩
 exact hK v w' hv
theorem appW_stepC (w : World) {ops : Array Oper} {o : Oper} {a : Act} {K : Act → World → Prop} {Q : Exit → Act → World → Prop} {E : Prop} (hgd : o.guard = none) (s x : Operand) (t e : TypeId)
  (ho : o.op = .call { callee := .builtin .append, args := #[s, x], argTypes := #[t, t] }) (z : Value) (size bytes : Nat) (ht : Tryz.prog.underlying t = some (.slice e)) (hi : (Tryz.prog.info? e).map (fun i => (i.zero, i.size, i.bytes)) = some (some z, size, bytes)) (hzs : z.cells.size = size) (hsz : 0 < size)
  (B : Nat) (v : Value) (n : Nat) (xs : List Value) (hs : a.eval s = v) (hown : w.ownsRow B e size v n xs) (arr : Array Value) (harr : arr.size = size) (h1 : ∀ u ∈ arr.toList, u.oneCell' = true) (hx : a.eval x = .slice (some ⟨w.heap.size, 0, none⟩) 1 1)
  (hlen : n + 1 ≤ maxLen) (hby : (n + 1) * bytes ≤ 140737488355328) (hB : B ≤ w.heap.size)
  (h : ∀ p' c' w', w'.ownsRow B e size (.slice p' (n + 1) c') (n + 1) (xs ++ arr.toList) → Below B w w' → But w w' v → (∀ k, (Value.slice p' (n + 1) c').ownBlock = some k → v.ownBlock = some k ∨ w.heap.size ≤ k) → K (a.put o.dst (.slice p' (n + 1) c')) w') : if Region.wanted o (yielded ops a.tmps) = true then Oper.wp Tryz.prog o a (w.alloc (.cells arr e)) K Q else E := by
 obtain ⟨i, hi', hpr⟩ := Option.map_eq_some_iff.1 hi
 simp only [Prod.mk.injEq] at hpr
 have hnew : (w.alloc (.cells arr e)).heap[w.heap.size]? = some (.cells arr e) := Go.Deep.blk_alloc_new _ _
 refine step_append_lies (P := Tryz.prog) _ hgd s x t ho B e i z size bytes ht hi' hpr.1 hpr.2.1 hpr.2.2 hzs hsz v n xs hs (owns_below hown (below1 _ _)) ⟨w.heap.size, 0, none⟩ 1 1 arr.toList hx (by rw [Array.length_toList, harr]; omega) (fun j u hu => World.news_of_block hnew j u hu) h1 (by omega) hlen hby (Nat.le_trans hB (below1 _ _).size) _ rfl ?_
 intro g cap w' k1 k2 k3 _
 refine h _ _ w' k1 (((below1 _ _).mono hB).trans ((Below.refl _ _).grown k2 (Nat.le_trans hB (below1 _ _).size) (owns_ge hown))) (fun k hk hne => (k2.block k (by simp; omega) hne).trans ((below1 w _).block k hk)) (fun k hk => ?_)
 cases hk
 rcases k3 with h5 | h5
 ·exact Or.inl h5
 ·exact Or.inr (by rw [h5]; simp)
theorem inCopyD (args : Array Value) (w : World) : (callFunc 133 args).run Tryz.prog w = .ok (.enter 133 args) w := by kernel_rfl
theorem Inv.addCs {c : Cx} {N : Nat} {w w1 : World} {st : St} (h : Inv c N w st) {v' : Value} {k : Value × List (Dt × Value)} (hk : CsI c w k) (ho : w1.ownsRow c.w0.heap.size 26 1 v' (st.cs.length + 1) (st.cs.map Prod.fst ++ [k.1])) (hb : Below c.w0.heap.size w w1) (hbt : But w w1 st.csv) (hl : ∀ j, v'.ownBlock = some j → st.csv.ownBlock = some j ∨ w.heap.size ≤ j) :
  Stp c (N + 1) st w { st with csv := v', cs := st.cs ++ [k] } (w1.setCell ⟨st.ab, 6, none⟩ v') := by
 have hab := (Array.getElem?_eq_some_iff.1 h.blk).1
 have hab1 : w1.heap[st.ab]? = some _ := (hbt _ hab (owns_ne h.cs h.blk (by decide))).trans h.blk
 have hch : ∀ j, j < w.heap.size → j ≠ st.ab → st.csv.ownBlock ≠ some j → (w1.setCell ⟨st.ab, 6, none⟩ v').heap[j]? = w.heap[j]? := fun j hj h1 h2 => (set_keep v' h1).trans (hbt j hj (fun e => h2 e.symm))
 obtain ⟨row, hfn, hcs⟩ := h.keepA h.cs (by decide) (by decide) (by decide) (by decide) (by decide) (by decide) hch
 have hbel : Below c.w0.heap.size w (w1.setCell ⟨st.ab, 6, none⟩ v') := Below.setCell hb (p := ⟨st.ab, 6, none⟩) h.ab0 v'
 have hck : CsI c (w1.setCell ⟨st.ab, 6, none⟩ v') k := ⟨row hk.row (apt_ty hk.row h.cs (by decide)) (by decide), fun x hx => ⟨row (hk.txt x hx).1 (apt_ty (hk.txt x hx).1 h.cs (by decide)) (by decide), (hk.txt x hx).2⟩, hk.len⟩
 refine ⟨⟨h.bel.trans hbel, h.dat, h.dn, h.ab0, (set_ab hab1 v').2.2.2.1, row h.gl (apt_ty h.gl h.cs (by decide)) (by decide), h.gln, row h.ub (apt_ty h.ub h.cs (by decide)) (by decide), h.ubn, h.gu, row h.bx (apt_ty h.bx h.cs (by decide)) (by decide), row h.op (apt_ty h.op h.cs (by decide)) (by decide), hfn, h.apt, ?_, ?_, row h.fn (apt_ty h.fn h.cs (by decide)) (by decide), h.fxl, h.b1, h.b2, (h.mono (Nat.le_succ N)).fnw, ?_⟩, ⟨?_, ?_, ?_⟩, ⟨rfl, rfl, rfl, rfl, (Sm.refl st).fn, Nat.le_refl _, Nat.le_refl _, Nat.le_refl _⟩⟩
 ·show World.ownsRow _ _ _ _ v' (st.cs ++ [k]).length ((st.cs ++ [k]).map Prod.fst)
  rw [List.length_append, List.map_append]
  exact owns_set ho hab1 (by decide) v'
 ·intro x hx
  rcases List.mem_append.1 hx with hx | hx
  ·exact hcs x hx
  ·obtain rfl := List.mem_singleton.1 hx
   exact hck
 ·have h1 := (h.mono (Nat.le_succ N)).len
  exact ⟨h1.1, by simp only [List.length_append, List.length_singleton]; have := h.len.2.1; omega, h1.2.2.1, h1.2.2.2.1, h1.2.2.2.2⟩
 ·rw [set_size]; exact hb.size
 ·intro j hj hn
  exact hch j hj (fun e => hn (Or.inl e)) (fun e => hn (Or.inr (Or.inr (Or.inr (Or.inr (Or.inl e))))))
 ·exact fp_of rfl rfl (fun j hj => Or.inl hj) (fun j hj => Or.inl hj) hl (fun j hj => Or.inl hj) (fun j hj => Or.inl hj)
theorem Inv.csAt {c : Cx} {N : Nat} {w : World} {st : St} (h : Inv c N w st) : ∃ p cc, st.csv = .slice p st.cs.length cc ∧ (0 < st.cs.length → ∃ g, p = some ⟨g, 0, none⟩ ∧ g < w.heap.size ∧ ∀ i (hi : i < st.cs.length), w.cell? ⟨g, i, none⟩ = some (st.cs[i]'hi).1) := by
 obtain ⟨p, cc, ho⟩ := owns_form h.cs
 have hg := h.cs
 rw [ho] at hg
 obtain ⟨_, _, hc⟩ := owns_cells hg
 refine ⟨p, cc, ho, fun h0 => ?_⟩
 obtain ⟨g, e, h1, _, _, h4⟩ := hc h0
 refine ⟨g, e, h1, fun i hi => ?_⟩
 rw [h4 i (by omega), List.getElem?_map, List.getElem?_eq_getElem hi]
 rfl
theorem dtC_at (l : List (Dt × Value)) (j : Nat) (hj : j < l.length) : (dtC l)[j * 4]? = some (.int .i64 (l[j]'hj).1.kind) ∧ (dtC l)[j * 4 + 1]? = some (.int .i64 (l[j]'hj).1.n) ∧ (dtC l)[j * 4 + 2]? = some (l[j]'hj).2 ∧ (dtC l)[j * 4 + 3]? = some (.int .i64 (l[j]'hj).1.count) := by
 induction l generalizing j with
 | nil => exact absurd hj (Nat.not_lt_zero j)
 | cons v l ih =>
  have e : dtC (v :: l) = [.int .i64 v.1.kind, .int .i64 v.1.n, v.2, .int .i64 v.1.count] ++ dtC l := rfl
  cases j with
  | zero => rw [e]; exact ⟨rfl, rfl, rfl, rfl⟩
  | succ j =>
   obtain ⟨h1, h2, h3, h4⟩ := ih j (by simpa using hj)
   rw [e, show (j + 1) * 4 = j * 4 + 4 by omega]
   refine ⟨?_, ?_, ?_, ?_⟩
   ·rw [List.getElem?_append_right (by simp)]; exact h1
   ·rw [List.getElem?_append_right (by simp)]; exact h2
   ·rw [List.getElem?_append_right (by simp)]; exact h3
   ·rw [List.getElem?_append_right (by simp)]; exact h4
theorem CsI.da {c : Cx} {w : World} {k : Value × List (Dt × Value)} (h : CsI c w k) : ∃ p cc, k.1 = .slice p k.2.length cc ∧ Da w p k.2.length cc (k.2.map Prod.fst) := by
 obtain ⟨p, cc, ho⟩ := owns_form h.row
 have hr := h.row
 rw [ho] at hr
 obtain ⟨hc1, hc2, hc⟩ := owns_cells hr
 refine ⟨p, cc, ho, by simp, hc1, hc2, fun h0 => ?_⟩
 obtain ⟨g, e, h1, _, _, h4⟩ := hc h0
 refine ⟨g, 0, e, h1, fun i hi => ?_⟩
 obtain ⟨q0, q1, q2, q3⟩ := dtC_at k.2 i hi
 have hx := h.txt _ (List.getElem_mem hi)
 obtain ⟨tp, tc, htv⟩ := owns_form hx.1
 have hd : (k.2.map Prod.fst).getD i dt0 = (k.2[i]'hi).1 := by rw [List.getD_eq_getElem?_getD, List.getElem?_map, List.getElem?_eq_getElem hi]; rfl
 obtain ⟨p2, c2, e2, hy, _⟩ := Ow.by_ (hx.1 : Ow w _ _ _) hx.2.1
 rw [htv] at e2
 cases e2
 rw [hd]
 refine ⟨tp, (k.2[i]'hi).1.text.length, tc, ?_, ?_, ?_, ?_, hy, hx.2.2.2.1, hx.2.2.2.2⟩
 ·rw [show 0 + i * 4 = i * 4 by omega, h4 (i * 4) (by omega)]; exact q0
 ·rw [show 0 + i * 4 + 1 = i * 4 + 1 by omega, h4 (i * 4 + 1) (by omega)]; exact q1
 ·rw [show 0 + i * 4 + 2 = i * 4 + 2 by omega, h4 (i * 4 + 2) (by omega), q2, htv]
 ·rw [show 0 + i * 4 + 3 = i * 4 + 3 by omega, h4 (i * 4 + 3) (by omega)]; exact q3
theorem infoSD : (Tryz.prog.info? 26).map (fun i => (i.zero, i.size, i.bytes)) = some (some (.slice none 0 0), 1, 24) := by kernel_rfl
def CoP (c : Cx) (N : Nat) (st : St) (w w' : World) : Prop := ∃ st', Stp c (N + 2) st w st' w' ∧ Qt st st'
theorem OwD.csi {c : Cx} {w w' : World} {B : Nat} {v : Value} {l : List (Dt × Value)} {xs : List Dt} (h : OwD w' B v l) (hB : c.w0.heap.size ≤ B) (hl : l.map Prod.fst = xs) (hD : ∃ p n d, Da w p n d xs) (ht : ∀ x ∈ xs, x.text.length ≤ 100) (hn : xs.length ≤ 3000) : CsI c w' (v, l) := by
 obtain ⟨p, n, d, hD⟩ := hD
 have low : ∀ {e : TypeId} {s m : Nat} {u : Value} {ys : List Value}, w'.ownsRow B e s u m ys → w'.ownsRow c.w0.heap.size e s u m ys := fun ho => by
  obtain ⟨h1, h2 | ⟨g, cap, cur, h3, h4, h5⟩⟩ := ho
  ·exact ⟨h1, Or.inl h2⟩
  ·exact ⟨h1, Or.inr ⟨g, cap, cur, h3, Nat.le_trans hB h4, h5⟩⟩
 refine ⟨low h.row, fun x hx => ⟨low (h.txt x hx), ?_, ?_, ?_⟩, by rw [← hl, List.length_map] at hn; exact hn⟩
 all_goals
  have hm : x.1 ∈ xs := by rw [← hl]; exact List.mem_map_of_mem hx
  obtain ⟨i, hi, he⟩ := List.getElem_of_mem hm
  obtain ⟨b, o, _, _, hg⟩ := hD.cells (by rw [← hD.len]; omega)
  obtain ⟨tp, tn, tc, hel⟩ := hg i (by rw [← hD.len]; exact hi)
  have hd : xs.getD i dt0 = x.1 := by rw [List.getD_eq_getElem?_getD, List.getElem?_eq_getElem hi, he]; rfl
  rw [hd] at hel
 ·exact hel.by_.rng
 ·exact ht _ hm
 ·exact ⟨hel.lo, hel.hi⟩
set_option maxRecDepth 20000 in
set_option maxHeartbeats 4000000 in
theorem l5const_c {c : Cx} {N : Nat} {st : St} (p : Option Addr) (n d : Nat) (xs : List Dt) (w : World) (h : Inv c N w st) (hD : Da w p n d xs) (hn : n ≤ 3000) (ht : ∀ x ∈ xs, x.text.length ≤ 100) (hN : N + 2 ≤ 1000000000) :
  Calls Tryz.prog 81 #[.pointer (some ⟨st.ab, 0, none⟩), .slice p n d] w fun e w' => (∃ u, e = .returned u) ∧ CoP c N st w w' := by
 have HI := mkC h
 have HD := mkC hD
 have HT := mkC ht
 obtain ⟨sp, sc, hsv, hsa⟩ := h.csAt
 have e6 := (cells10 h.blk).2.2.2.2.2.1
 rw [hsv] at e6
 have hab := (Array.getElem?_eq_some_iff.1 h.blk).1
 have HSA := mkC hsa
 have HSV := mkC hsv
 have hcl : st.cs.length ≤ N := h.len.2.1
 obtain ⟨k, hk⟩ : ∃ k, k = st.cs.length := ⟨_, rfl⟩
 have HK := mkC hk
 rw [← hk] at e6 hcl
 clear h hD ht hsv hsa hk
 go_enter Tryz.func81, Tryz.ntmps81
 go_wp2_with fail
 go_loopw [4] (fun iv wr => ∃ i : Nat, i ≤ k ∧ iv = .int .i64 (i : Nat) ∧ Hid (Below w.heap.size w wr)) (fun iv _ => k - (intOf iv).toNat)
 case atStart => exact ⟨0, Nat.zero_le _, rfl, Below.refl _ _⟩
 case round =>
  obtain ⟨i, hi, rfl, hB⟩ := hrel
  have y6 := cell_keepC hB.out hab e6
  have HSr := mkC (HI.out.stp hB.out)
  by_cases hlt : i < k
  ·have hil : i < st.cs.length := by rw [← HK.out]; exact hlt
   obtain ⟨g, rfl, hg, hgc⟩ := HSA.out (by omega)
   have y7 := cell_keepC hB.out hg (hgc i hil)
   have hci := HSr.out.inv.csi _ (List.getElem_mem hil)
   obtain ⟨qp, qc, hqv, hqd⟩ := hci.da
   rw [hqv] at y7
   have HSD := mkC (l5sameData_c qp p _ n qc d _ xs wr hqd (HD.out.below hB.out) hci.len hn)
   generalize (st.cs[i]'hil).2.length = qn at y7 HSD
   clear hgc hci hqv hqd
   go_wp2_with fail
   refine HSD.out.mono ?_
   rintro e w2 ⟨⟨b, rfl⟩, hb2⟩
   have HB2 : Hid (Below w.heap.size w w2) := hB.out.trans (hb2.mono hB.out.size)
   clear hb2 y6 y7
   cases b
   ·go_wp2_with fail
    exact ⟨⟨i + 1, by omega, by go_num, HB2.out⟩, by simp [intOf]; omega⟩
   ·have HS2 := mkC (HI.out.stp HB2.out)
    have HP := mkC (l5push_c (st := st) 0 (i : Nat) 0 0 w2 HS2.out.inv (by omega))
    go_wp2_with fail
    refine HP.out.mono ?_
    rintro e w3 ⟨⟨u, rfl⟩, st3, h1, h2, _⟩
    have HE : Hid (CoP c N st w w3) := ⟨st3, (HS2.out.trans h1).mono (by omega), h2⟩
    clear h1 h2
    go_wp2_with fail
    refine bodyPost_ret (results_none rfl _ _ _) rfl ?_
    exact ⟨⟨_, rfl⟩, HE.out⟩
  ·have HBK := mkC HSr.out.inv.blk
   have HSDr := mkC (HSr.out.trans (HSr.out.inv.stp (below_drewC (Below.refl _ wr))))
   have HCD := mkC (l5copyData_c p n d xs wr.drew (HD.out.below (below_drewC hB.out)) hn (fun j hj => HT.out _ (by
    have h1 : j < xs.length := by rw [HD.out.len]; exact hj
    rw [List.getD_eq_getElem?_getD, List.getElem?_eq_getElem h1]
    exact List.getElem_mem h1)))
   have hB0 : c.w0.heap.size ≤ wr.heap.size := HSr.out.inv.bel.size
   go_wp2_with fail
   go_region_law (first
    | (refine step_callC _ rfl 133 _ _ rfl #[.slice p n d] ?ha (inCopyD _) (fun v w2 => ∃ l, OwD w2 wr.heap.size v l ∧ l.map Prod.fst = xs ∧ Below wr.heap.size wr.drew w2) (HCD.out.mono (fun e w2 h => (by obtain ⟨⟨v, l, h1, h2, h3⟩, h4⟩ := h; exact ⟨v, h1, l, h2, h3, h4⟩))) ?_; (case ha => first | (simp [Act.eval]; done) | (simp [Act.eval, Act.put]; done)); rintro v w2 ⟨l, ho2, hl2, hb2⟩; obtain ⟨vp, vc, hvv⟩ := owns_form ho2.row; subst hvv; have HO2 := mkC ho2; have HL2 := mkC hl2; have HB2 : Hid (Below wr.heap.size wr w2) := (below_drewC (Below.refl _ wr)).trans hb2; have HS2 := mkC (HSr.out.trans (HSr.out.inv.stp HB2.out)); have z6 := cell_keepC HB2.out (Nat.lt_of_lt_of_le hab hB.out.size) y6; have z6a : ∀ o1, (w2.alloc o1).cell? ⟨st.ab, 6, none⟩ = some (.slice sp k sc) := (fun o1 => cell_keepC (below1 w2 o1) (Array.getElem?_eq_some_iff.1 HS2.out.inv.blk).1 z6); have HBK2 := mkC HS2.out.inv.blk; have HOW : Hid (w2.ownsRow c.w0.heap.size 26 1 (.slice sp k sc) k (st.cs.map Prod.fst)) := (by have h1 := HS2.out.inv.cs; rw [HSV.out, ← HK.out] at h1; exact h1); have hB2 : c.w0.heap.size ≤ w2.heap.size := HS2.out.inv.bel.size; clear ho2 hl2 hb2)
    | (refine appW_stepC w2 rfl (.tmp 30) (.tmp 33) 42 26 rfl _ 1 24 Tryz.underlying42 infoSD rfl (by decide) c.w0.heap.size (.slice sp k sc) k (st.cs.map Prod.fst) ?hs HOW.out #[.slice vp l.length vc] rfl (by simp [Value.oneCell']) ?hx (by unfold maxLen; omega) (by omega) hB2 ?_; (case hs => first | (simp [Act.eval]; done) | (simp [Act.eval, Act.put]; done)); (case hx => first | (simp [Act.eval]; done) | (simp [Act.eval, Act.put]; done)); intro p3 c3 w3 ho3 hb3 hbt3 hloc3; have HFI : Hid (Stp c (N + 1) st w { st with csv := .slice p3 (k + 1) c3, cs := st.cs ++ [(.slice vp l.length vc, l)] } (w3.setCell ⟨st.ab, 6, none⟩ (.slice p3 (k + 1) c3))) := HS2.out.trans (HS2.out.inv.addCs (k := (.slice vp l.length vc, l)) (HO2.out.csi hB0 HL2.out ⟨_, _, _, HD.out⟩ HT.out (by rw [HD.out.len]; exact hn)) (by rw [← HK.out]; exact ho3) hb3 (by rw [HSV.out, ← HK.out]; exact hbt3) (by rw [HSV.out, ← HK.out]; exact hloc3)); have q6 := (cells10 ((hbt3 _ (Array.getElem?_eq_some_iff.1 HBK2.out).1 (owns_ne HOW.out HBK2.out (by decide))).trans HBK2.out)).2.2.2.2.2.1; have q5 := (cells10 ((hbt3 _ (Array.getElem?_eq_some_iff.1 HBK2.out).1 (owns_ne HOW.out HBK2.out (by decide))).trans HBK2.out)).2.2.2.2.2.2.2.2.2; clear ho3 hb3 hbt3 hloc3))
   all_goals
    have HP : Hid (Calls Tryz.prog 45 #[.pointer (some ⟨st.ab, 0, none⟩), .int .i64 0, .int .i64 (k : Nat), .int .i64 0, .int .i64 0] (w3.setCell ⟨st.ab, 6, none⟩ (.slice p3 (k + 1) c3)) fun e w' => (∃ u, e = .returned u) ∧ EmP c (N + 1) { st with csv := .slice p3 (k + 1) c3, cs := st.cs ++ [(.slice vp l.length vc, l)] } (w3.setCell ⟨st.ab, 6, none⟩ (.slice p3 (k + 1) c3)) w') := l5push_c (st := { st with csv := .slice p3 (k + 1) c3, cs := st.cs ++ [(.slice vp l.length vc, l)] }) 0 (k : Nat) 0 0 _ HFI.out.inv (by omega)
    go_wp2_with fail
    refine HP.out.mono ?_
    rintro e w5 ⟨⟨u, rfl⟩, st5, h1, h2, _⟩
    have HE : Hid (CoP c N st w w5) := ⟨st5, (HFI.out.trans h1).mono (by omega), ⟨h2.1, h2.2⟩⟩
    clear h1 h2
    go_wp2_with fail
    go_end0
    exact ⟨⟨_, rfl⟩, HE.out⟩
set_option maxHeartbeats 2000000 in
theorem l5bool_c {c : Cx} {N : Nat} {st : St} (z : Int) (w : World) (h : Inv c N w st) (hN : N + 2 ≤ 1000000000) :
  Calls Tryz.prog 175 #[.pointer (some ⟨st.ab, 0, none⟩), .int .i64 z] w fun e w' => (∃ u, e = .returned u) ∧ CoP c N st w w' := by
 obtain ⟨W, hW⟩ : ∃ W, W = w.alloc (.cells #[.int .i64 1, .int .i64 z, .slice none 0 0, .int .i64 0] 47) := ⟨_, rfl⟩
 have HBW : Hid (Below w.heap.size w W) := by unfold Hid; rw [hW]; exact below1 w _
 have HS := mkC (h.stp HBW.out)
 have hblk : W.heap[w.heap.size]? = some (.cells #[.int .i64 1, .int .i64 z, .slice none 0 0, .int .i64 0] 47) := by rw [hW]; exact Go.Deep.blk_alloc_new _ _
 have hD : Da W (some ⟨w.heap.size, 0, none⟩) 1 1 [⟨1, z, [], 0⟩] := by
  obtain ⟨c0, c1, c2, c3, _⟩ := cells4C hblk
  refine ⟨rfl, Nat.le_refl _, by unfold maxLen; omega, fun _ => ⟨w.heap.size, 0, rfl, (Array.getElem?_eq_some_iff.1 hblk).1, fun i hi => ?_⟩⟩
  obtain rfl : i = 0 := by omega
  exact ⟨none, 0, 0, c0, c1, c2, c3, ⟨rfl, Nat.le_refl _, by unfold maxLen; omega, fun i => by simp, fun h => absurd h (Nat.lt_irrefl 0), fun a ha => by cases ha⟩, by simp, by simp⟩
 have HC := mkC (l5const_c (N := N) _ 1 1 _ W HS.out.inv hD (by omega) (fun x hx => by simp at hx; subst hx; simp) hN)
 have HWE := mkC hW
 clear h hblk hD hW
 go_enter Tryz.func175, Tryz.ntmps175
 go_wp2_with fail
 rw [← HWE.out]
 refine HC.out.mono ?_
 rintro e w1 ⟨⟨u, rfl⟩, st1, h1, h2⟩
 have HE : Hid (CoP c N st w w1) := ⟨st1, HS.out.trans h1, h2⟩
 clear h1 h2
 go_wp2_with fail
 go_end0
 exact ⟨⟨_, rfl⟩, HE.out⟩
def sz (k : Nat) (l : List Dt) : Nat := l.length - ((skip k l).getD []).length
def bud (k : Nat) (l : List Dt) : Nat := 20000 * sz k l - 10000
def sumS (k : Nat) : List (List Dt) → Nat
 | [] => 0
 | l :: ls => sz k l + sumS k ls
def sumB (k : Nat) : List (List Dt) → Nat
 | [] => 0
 | l :: ls => bud k l + 10 + sumB k ls
theorem sumS_app (k : Nat) (a b : List (List Dt)) : sumS k (a ++ b) = sumS k a + sumS k b := by
 induction a with
 | nil => simp [sumS]
 | cons x a ih => simp [sumS, ih]; omega
theorem sumB_app (k : Nat) (a b : List (List Dt)) : sumB k (a ++ b) = sumB k a + sumB k b := by
 induction a with
 | nil => simp [sumB]
 | cons x a ih => simp [sumB, ih]; omega
theorem sz_pos {k : Nat} {l : List Dt} (h : Ok k l) : 1 ≤ sz k l := by
 obtain ⟨r, hr⟩ := h
 obtain ⟨m, h1, h2, h3⟩ := skip_eats k l r hr
 unfold sz
 rw [hr]
 simp only [Option.getD_some]
 rw [h3, List.length_drop]
 omega
theorem sumB_le {k : Nat} {ls : List (List Dt)} (h : ∀ l ∈ ls, Ok k l) : sumB k ls + 9990 * ls.length = 20000 * sumS k ls := by
 induction ls with
 | nil => simp [sumB, sumS]
 | cons l ls ih =>
  have h1 := sz_pos (h l (List.mem_cons_self ..))
  have h2 := ih (fun x hx => h x (List.mem_cons_of_mem _ hx))
  have e1 : sumB k (l :: ls) = bud k l + 10 + sumB k ls := rfl
  have e2 : sumS k (l :: ls) = sz k l + sumS k ls := rfl
  rw [e1, e2, List.length_cons]
  unfold bud
  omega
theorem kidL_sum (k : Nat) : ∀ (n : Nat) (r q : List Dt), skipN (skip k) n r = some q → sumS k (kidL k n r) + q.length = r.length
 | 0, r, q, h => by
  simp only [skipN] at h
  cases h
  simp [kidL, sumS]
 | n + 1, r, q, h => by
  simp only [skipN] at h
  simp only [kidL, sumS]
  cases e : skip k r with
  | none => rw [e] at h; cases h
  | some r' =>
   rw [e] at h
   have ih := kidL_sum k n r' q h
   obtain ⟨m, h1, h2, h3⟩ := skip_eats k r r' e
   simp only [sz, e, Option.getD_some]
   have h4 : r'.length = r.length - m := by rw [h3, List.length_drop]
   omega
theorem kids_sum {k : Nat} {l : List Dt} (h : Ok (k + 1) l) (hl : isLs l = true) : sumS k (kidsOf k l) + 1 = sz (k + 1) l := by
 obtain ⟨r, hr⟩ := h
 obtain ⟨d, q, rfl, hg, h1⟩ := skip_some hr
 have h3 : d.kind = 3 := by unfold isLs hd at hl; simpa using hl
 rcases h1 with ⟨hn, _⟩ | ⟨k', hk, _, hq⟩
 ·exact absurd h3 hn
 ·obtain rfl : k = k' := by omega
  have h4 := kidL_sum k _ _ _ hq
  have e : kidsOf k (d :: q) = kidL k d.count.toNat q := by
   unfold kidsOf
   rw [if_pos hl]
   rfl
  rw [e]
  unfold sz
  rw [hr]
  simp only [Option.getD_some, List.length_cons]
  omega
theorem kids_bud {k : Nat} {l : List Dt} (h : Ok (k + 1) l) (hl : isLs l = true) : sumB k (kidsOf k l) + 10000 ≤ bud (k + 1) l := by
 have h1 := kids_sum h hl
 have h2 := kids_of h hl
 have h3 := sumB_le (k := k) (ls := kidsOf k l) (fun x hx => by
  obtain ⟨i, hi, rfl⟩ := List.getElem_of_mem hx
  have := (h2.2.2.2 i (by rw [← h2.2.2.1]; exact hi)).2
  rw [List.getD_eq_getElem?_getD, List.getElem?_eq_getElem hi] at this
  exact this)
 unfold bud
 omega
theorem sz_mono {j k : Nat} (h : j ≤ k) {l : List Dt} (ho : Ok j l) : sz k l = sz j l := by
 obtain ⟨r, hr⟩ := ho
 unfold sz
 rw [hr, skip_mono h hr]
theorem allO_app (f : List Dt → Option (List (List Int))) (a b : List (List Dt)) : allO f (a ++ b) = cat (allO f a) (allO f b) := by
 induction a with
 | nil =>
  simp only [List.nil_append, allO, cat]
  cases allO f b <;> simp
 | cons x a ih =>
  simp only [List.cons_append, allO, ih]
  cases f x with
  | none => rfl
  | some u =>
   simp only
   cases allO f a with
   | none => rfl
   | some v =>
    simp only [cat]
    cases allO f b with
    | none => rfl
    | some z => simp
theorem allO_one (f : List Dt → Option (List (List Int))) (x : List Dt) : allO f [x] = f x := by
 simp only [allO]
 cases f x <;> simp
theorem RsP.cat {a b d : St} {r s : Option (List (List Int))} (h : RsP r a b) (k : RsP s b d) : RsP (cat r s) a d := by
 cases r with
 | none =>
  cases s with
  | none => exact k
  | some ns => exact k.1.trans h
 | some ms =>
  cases s with
  | none => exact k
  | some ns => exact ⟨k.1.trans h.1, by rw [k.2, h.2, List.append_assoc]⟩
structure Ix (st : St) (w : World) (p : Option Addr) (n c : Nat) (xs : List Nat) : Prop where
 len : xs.length = n
 cap : n ≤ c
 big : c ≤ maxLen
 cells : 0 < n → ∃ g o, p = some ⟨g, o, none⟩ ∧ g < w.heap.size ∧ ¬ Fp st g ∧ ∀ j (hj : j < xs.length), w.cell? ⟨g, o + j, none⟩ = some (.int .i64 ((xs[j]'hj : Nat) : Int))
theorem Ix.step {st st' : St} {w w' : World} {p : Option Addr} {n c : Nat} {xs : List Nat} (h : Ix st w p n c xs) (hf : Fr st st' w w') : Ix st' w' p n c xs := by
 refine ⟨h.len, h.cap, h.big, fun h0 => ?_⟩
 obtain ⟨g, o, e, h1, h2, h3⟩ := h.cells h0
 have hk := hf.keep g h1 h2
 refine ⟨g, o, e, Nat.lt_of_lt_of_le h1 hf.size, fun hp => ?_, fun j hj => by rw [World.cell?_of_block (w := w) hk]; exact h3 j hj⟩
 rcases hf.foot g hp with h4 | h4
 ·exact h2 h4
 ·omega
theorem Ix.tail {st : St} {w : World} {g o n c x : Nat} {r : List Nat} {p' : Option Addr} (h : Ix st w (some ⟨g, o, none⟩) (n + 1) (c + 1) (x :: r)) (hp : 0 < n → p' = some ⟨g, o + 1, none⟩) : Ix st w p' n c r := by
 refine ⟨by have := h.len; simpa using this, by have := h.cap; omega, by have := h.big; omega, fun h0 => ?_⟩
 obtain ⟨g', o', e, h1, h2, h3⟩ := h.cells (by omega)
 cases e
 refine ⟨g, o + 1, hp h0, h1, h2, fun j hj => ?_⟩
 have := h3 (j + 1) (by simp; exact hj)
 rw [show o + 1 + j = o + (j + 1) by omega]
 simpa using this
theorem OwI.ix {c : Cx} {N : Nat} {st : St} {w w' : World} {v : Value} {xs : List Nat} (hi : Inv c N w st) (h : OwI w' w.heap.size v xs) : ∃ p cc, v = .slice p xs.length cc ∧ Ix st w' p xs.length cc xs := by
 obtain ⟨p, cc, e, h1, h2, h3⟩ := h.form
 refine ⟨p, cc, e, rfl, h1, h2, fun h0 => ?_⟩
 obtain ⟨g, e2, h4, h5, h6⟩ := h3 h0
 refine ⟨g, 0, e2, h5, hi.no_fp h4, fun j hj => ?_⟩
 rw [Nat.zero_add, h6 j hj, List.getD_eq_getElem?_getD, List.getElem?_eq_getElem hj]
 rfl
def ExP (c : Cx) (N k : Nat) (st : St) (i : Nat) (w w' : World) : Prop := ∃ st', Stp c (N + bud k (c.ds.drop i)) st w st' w' ∧ RsP (rd (st.gl.map (·.x)) k st.sc (c.ds.drop i)) st st' ∧ st'.bo ≤ st.bo + sz k (c.ds.drop i)
def ExC (c : Cx) (k : Nat) : Prop := ∀ (st : St) (w : World) (N i : Nat) (tail : Bool), Inv c N w st → i < c.dn → Ok k (c.ds.drop i) → N + bud k (c.ds.drop i) ≤ 1000000000 → st.bo + sz k (c.ds.drop i) ≤ 3000 → Calls Tryz.prog 43 #[.pointer (some ⟨st.ab, 0, none⟩), .int .i64 (i : Nat), .bool tail] w fun e w' => (∃ u, e = .returned u) ∧ ExP c N k st i w w'
def at_ (c : Cx) (xs : List Nat) : List (List Dt) := xs.map (fun i => c.ds.drop i)
structure SqP (c : Cx) (N k : Nat) (st : St) (w : World) (xs : List Nat) (st' : St) (w' : World) : Prop where
 stp : Stp c (N + sumB k (at_ c xs)) st w st' w'
 rs : RsP (allO (rd (st.gl.map (·.x)) k st.sc) (at_ c xs)) st st'
 bo : st'.bo ≤ st.bo + sumS k (at_ c xs)
theorem SqP.nil {c : Cx} {N k : Nat} {st st' : St} {w w' : World} (h : Stp c N st w st' w') (hq : Qt st st') : SqP c N k st w [] st' w' := ⟨h, hq.rs, by rw [hq.2.2]; exact Nat.le_refl _⟩
theorem SqP.snoc {c : Cx} {N k i : Nat} {st s1 s2 s3 : St} {w w1 w2 w3 : World} {xs : List Nat} (h : SqP c N k st w xs s1 w1) (hx : Stp c (N + sumB k (at_ c xs) + bud k (c.ds.drop i)) s1 w1 s2 w2 ∧ RsP (rd (s1.gl.map (·.x)) k s1.sc (c.ds.drop i)) s1 s2 ∧ s2.bo ≤ s1.bo + sz k (c.ds.drop i)) (h3 : Stp c (N + sumB k (at_ c xs) + bud k (c.ds.drop i) + 10) s2 w2 s3 w3) (hq : Qt s2 s3) : SqP c N k st w (xs ++ [i]) s3 w3 := by
 have e : at_ c (xs ++ [i]) = at_ c xs ++ [c.ds.drop i] := by simp [at_]
 refine ⟨?_, ?_, ?_⟩
 ·have h4 := (h.stp.trans hx.1).trans h3
  rw [e, sumB_app]
  exact h4.mono (by simp [sumB]; omega)
 ·rw [e, allO_app, allO_one]
  have h5 := hx.2.1
  rw [h.stp.sm.gl, h.stp.sm.sc] at h5
  exact h.rs.cat (h5.then_ hq)
 ·rw [e, sumS_app, hq.2.2]
  have := h.bo
  have := hx.2.2
  simp [sumS]
  omega
theorem len_sum {k : Nat} {ls : List (List Dt)} (h : ∀ l ∈ ls, Ok k l) : ls.length ≤ sumS k ls := by
 induction ls with
 | nil => simp
 | cons l ls ih =>
  have h1 := sz_pos (h l (List.mem_cons_self ..))
  have h2 := ih (fun x hx => h x (List.mem_cons_of_mem _ hx))
  have e2 : sumS k (l :: ls) = sz k l + sumS k ls := rfl
  rw [e2, List.length_cons]
  omega
def Pcs (c : Cx) (k : Nat) (xs : List Nat) : Prop := ∀ i ∈ xs, i < c.dn ∧ Ok k (c.ds.drop i)
theorem Pcs.ok {c : Cx} {k : Nat} {xs : List Nat} (h : Pcs c k xs) : ∀ l ∈ at_ c xs, Ok k l := fun l hl => by
 obtain ⟨i, hi, rfl⟩ := List.mem_map.1 hl
 exact (h i hi).2
theorem take_split {xs : List Nat} {i : Nat} (hi : i < xs.length) : xs = xs.take i ++ (xs[i]'hi :: xs.drop (i + 1)) := by
 rw [← List.drop_eq_getElem_cons hi, List.take_append_drop]
theorem sums_at {c : Cx} {k : Nat} {xs : List Nat} {i : Nat} (hi : i < xs.length) : sumB k (at_ c (xs.take i)) + bud k (c.ds.drop (xs[i]'hi)) + 10 ≤ sumB k (at_ c xs) ∧ sumS k (at_ c (xs.take i)) + sz k (c.ds.drop (xs[i]'hi)) ≤ sumS k (at_ c xs) := by
 have e : at_ c xs = at_ c (xs.take i) ++ (c.ds.drop (xs[i]'hi) :: at_ c (xs.drop (i + 1))) := by
  unfold at_
  conv => lhs; rw [take_split hi]
  rw [List.map_append, List.map_cons]
 rw [e, sumB_app, sumS_app]
 simp only [sumB, sumS]
 omega
theorem take_snoc {xs : List Nat} {i : Nat} (hi : i < xs.length) : xs.take (i + 1) = xs.take i ++ [xs[i]'hi] := List.take_succ_eq_append_getElem hi
theorem SqP.next {c : Cx} {N k : Nat} {st s1 : St} {w w1 : World} {xs : List Nat} {i : Nat} (hE : ExC c k) (h : SqP c N k st w (xs.take i) s1 w1) (hp : Pcs c k xs) (hi : i < xs.length) (hN : N + sumB k (at_ c xs) ≤ 1000000000) (hb : st.bo + sumS k (at_ c xs) ≤ 3000) (tail : Bool) :
  Calls Tryz.prog 43 #[.pointer (some ⟨st.ab, 0, none⟩), .int .i64 ((xs[i]'hi : Nat) : Int), .bool tail] w1 fun e w' => (∃ u, e = .returned u) ∧ ExP c (N + sumB k (at_ c (xs.take i))) k s1 (xs[i]'hi) w1 w' := by
 have h1 := sums_at (c := c) (k := k) hi
 have h2 := hp _ (List.getElem_mem hi)
 have h3 := hE s1 w1 (N + sumB k (at_ c (xs.take i))) (xs[i]'hi) tail h.stp.inv h2.1 h2.2 (by omega) (by have := h.bo; omega)
 rw [h.stp.sm.ab] at h3
 exact h3
theorem Ix.at_ {st : St} {w : World} {p : Option Addr} {n d : Nat} {xs : List Nat} (h : Ix st w p n d xs) {i : Nat} (hi : i < xs.length) : ∃ g o, p = some ⟨g, o, none⟩ ∧ g < w.heap.size ∧ w.cell? ⟨g, o + i, none⟩ = some (.int .i64 ((xs[i]'hi : Nat) : Int)) := by
 obtain ⟨g, o, e, h1, _, h3⟩ := h.cells (by rw [← h.len]; omega)
 exact ⟨g, o, e, h1, h3 i hi⟩
set_option maxRecDepth 20000 in
set_option maxHeartbeats 1000000 in
theorem l5body_c {c : Cx} {N k : Nat} {st : St} (hE : ExC c k) (p : Option Addr) (n d : Nat) (xs : List Nat) (tail : Bool) (w : World) (h : Inv c N w st) (hx : Ix st w p n d xs) (hp : Pcs c k xs) (hN : N + sumB k (Cp.at_ c xs) ≤ 1000000000) (hb : st.bo + sumS k (Cp.at_ c xs) ≤ 3000) :
  Calls Tryz.prog 140 #[.pointer (some ⟨st.ab, 0, none⟩), .slice p n d, .bool tail] w fun e w' => (∃ u, e = .returned u) ∧ ∃ st', SqP c N k st w xs st' w' := by
 have HE := mkC hE
 have HI := mkC h
 have HX := mkC hx
 have HP := mkC hp
 have HN := mkC hN
 have HB := mkC hb
 have hn3 : n ≤ 3000 := by
  have h1 := len_sum (Pcs.ok hp)
  have h2 := hx.len
  rw [show (Cp.at_ c xs).length = xs.length by simp [Cp.at_]] at h1
  omega
 have HL : Hid (xs.length = n) := hx.len
 clear h hx hp hE hN hb
 cases tail
 all_goals
  go_enter Tryz.func140, Tryz.ntmps140
  go_wp2_with fail
  go_loopw [6] (fun iv wr => ∃ i : Nat, i ≤ n ∧ iv = .int .i64 (i : Nat) ∧ Hid (∃ s1, SqP c N k st w (xs.take i) s1 wr ∧ Ix s1 wr p n d xs)) (fun iv _ => n - (intOf iv).toNat)
  case atStart => exact ⟨0, Nat.zero_le _, rfl, st, SqP.nil ⟨HI.out, Fr.refl _ _, Sm.refl _⟩ ⟨rfl, rfl, rfl⟩, HX.out⟩
  case round =>
   obtain ⟨i, hi, rfl, hS⟩ := hrel
   obtain ⟨s1, hs1, hx1⟩ := hS.out
   by_cases hlt : i < n
   ·have hil : i < xs.length := by rw [HL.out]; exact hlt
    obtain ⟨g, o, rfl, hg, y0⟩ := hx1.at_ hil
    have HS1 := mkC hs1
    have HX1 := mkC hx1
    have HC := mkC (fun b => hs1.next HE.out HP.out hil HN.out HB.out b)
    have HSM := mkC (sums_at (c := c) (k := k) hil)
    have HST : Hid (∀ s2 s3 w2 w3, Stp c (N + sumB k (Cp.at_ c (xs.take i)) + bud k (c.ds.drop (xs[i]'hil))) s1 wr s2 w2 → RsP (rd (s1.gl.map (·.x)) k s1.sc (c.ds.drop (xs[i]'hil))) s1 s2 → s2.bo ≤ s1.bo + sz k (c.ds.drop (xs[i]'hil)) → Stp c (N + sumB k (Cp.at_ c (xs.take i)) + bud k (c.ds.drop (xs[i]'hil)) + 10) s2 w2 s3 w3 → Qt s2 s3 → ∃ s3, SqP c N k st w (xs.take (i + 1)) s3 w3 ∧ Ix s3 w3 (some ⟨g, o, none⟩) n d xs) := fun s2 s3 w2 w3 h4 h5 h6 h7 h8 => by
     rw [take_snoc hil]
     exact ⟨s3, HS1.out.snoc ⟨h4, h5, h6⟩ h7 h8, (HX1.out.step h4.fr).step h7.fr⟩
    generalize xs[i]'hil = x at y0 HC HST HSM
    clear hs1 hx1
    by_cases hlast : i = n - 1
    ·have t1 : ((i : Int) == (n : Int) - 1) = true := by simp; omega
     clear hlast
     go_wp2_with fail
     refine (HC.out _).mono ?_
     rintro e w2 ⟨⟨u, rfl⟩, s2, h4, h5, h6⟩
     have HF := mkC (HST.out s2 s2 w2 w2 h4 h5 h6 ⟨h4.inv.mono (by omega), Fr.refl _ _, Sm.refl _⟩ ⟨rfl, rfl, rfl⟩)
     clear h4 h5 h6 y0
     go_wp2_with fail
     exact ⟨⟨i + 1, by omega, by go_num, HF.out⟩, by simp [intOf]; omega⟩
    ·have t1 : ((i : Int) == (n : Int) - 1) = false := by simp; omega
     go_wp2_with fail
     refine (HC.out _).mono ?_
     rintro e w2 ⟨⟨u, rfl⟩, s2, h4, h5, h6⟩
     have HX2 := mkC (And.intro h4 (And.intro h5 h6))
     have hab2 : s2.ab = st.ab := h4.sm.ab.trans HS1.out.stp.sm.ab
     have HD := mkC (l5drop_c (st := s2) 16 0 1 w2 h4.inv (by have := HSM.out.1; have := HN.out; omega))
     rw [hab2] at HD
     clear h4 h5 h6 y0 hab2
     go_wp2_with fail
     refine HD.out.mono ?_
     rintro e w3 ⟨rfl, s3, h7, h8, _⟩
     have HF : Hid (∃ s3, SqP c N k st w (xs.take (i + 1)) s3 w3 ∧ Ix s3 w3 (some ⟨g, o, none⟩) n d xs) := HST.out s2 s3 w2 w3 HX2.out.1 HX2.out.2.1 HX2.out.2.2 (h7.mono (by omega)) h8
     clear h7 h8
     go_wp2_with fail
     exact ⟨⟨i + 1, by omega, by go_num, HF.out⟩, by simp [intOf]; omega⟩
   ·obtain rfl : i = n := by omega
    have HF : Hid (∃ st', SqP c N k st w xs st' wr) := by
     rw [List.take_of_length_le (by rw [HL.out]; exact Nat.le_refl _)] at hs1
     exact ⟨s1, hs1⟩
    clear hs1 hx1
    go_wp2_with fail
    go_end0
    exact ⟨⟨_, rfl⟩, HF.out⟩
def Fn5.slots (f : Fn5) (sl : Int) : Fn5 := { f with sl := sl }
theorem Inv.setSl {c : Cx} {N : Nat} {w : World} {st : St} (h : Inv c N w st) (sl : Int) : Stp c N st w (st.top (st.tp.slots sl)) (w.setCell ⟨st.tp.b, 4, none⟩ (.int .i64 sl)) := by
 have hf := h.tpI
 have hb : Below c.w0.heap.size w (w.setCell ⟨st.tp.b, 4, none⟩ (.int .i64 sl)) := Below.setCell (Below.refl _ _) (p := ⟨st.tp.b, 4, none⟩) hf.b0 _
 have := h.putT (N' := N) (f' := st.tp.slots sl) hb (fun j hj hn => set_keep _ (fun e => hn (Or.inl e))) ⟨(set_fn hf.blk _).2.2.2, hf.b0, owns_set hf.vars hf.blk (by decide) _, owns_set hf.free hf.blk (by decide) _, owns_set hf.code hf.blk (by decide) _, hf.clen, hf.nms⟩ rfl (fun j hj => Or.inl hj) (fun j hj => Or.inl hj) (fun j hj => Or.inl hj) ?_ (Nat.le_refl _)
 ·exact ⟨this.1, this.2, sm_top rfl rfl (Nat.le_refl _)⟩
 ·have hw := h.tpW
  exact ⟨hw.vb, hw.fb, hw.nd, hw.cn, hw.vn⟩
theorem topA {c : Cx} {N ab : Nat} {s : St} (w : World) (h : Inv c N w s) (hab : s.ab = ab) (hN : N ≤ 1000000000) : Calls Tryz.prog 86 #[.pointer (some ⟨ab, 0, none⟩)] w fun e w' => e = .returned (.pointer (some ⟨s.tp.b, 0, none⟩)) ∧ Below w.heap.size w w' := by subst hab; exact l5top_c w h hN
theorem dropA {c : Cx} {N ab : Nat} {s : St} (op x t : Int) (w : World) (h : Inv c N w s) (hab : s.ab = ab) (hN : N ≤ 1000000000) : Calls Tryz.prog 44 #[.pointer (some ⟨ab, 0, none⟩), .int .i64 op, .int .i64 x, .int .i64 t] w fun e w' => e = .returned (.int .i64 (s.tp.cn : Nat)) ∧ EmP c N s w w' := by subst hab; exact l5drop_c op x t w h hN
theorem pushA {c : Cx} {N ab : Nat} {s : St} (op x y t : Int) (w : World) (h : Inv c N w s) (hab : s.ab = ab) (hN : N ≤ 1000000000) : Calls Tryz.prog 45 #[.pointer (some ⟨ab, 0, none⟩), .int .i64 op, .int .i64 x, .int .i64 y, .int .i64 t] w fun e w' => (∃ u, e = .returned u) ∧ EmP c N s w w' := by subst hab; exact l5push_c op x y t w h hN
theorem emitA {c : Cx} {N ab : Nat} {s : St} (op x y sl : Int) (w : World) (h : Inv c N w s) (hab : s.ab = ab) (hN : N ≤ 1000000000) : Calls Tryz.prog 85 #[.pointer (some ⟨ab, 0, none⟩), .int .i64 op, .int .i64 x, .int .i64 y, .int .i64 sl] w fun e w' => e = .returned (.int .i64 (s.tp.cn : Nat)) ∧ EmP c N s w w' := by
 subst hab
 refine (l5emit_c op x y sl w h hN).mono ?_
 rintro e w' ⟨h1, h2⟩
 exact ⟨h1, emit_p h2⟩
theorem aimA {c : Cx} {N ab : Nat} {s : St} (at_ : Nat) (w : World) (h : Inv c N w s) (hab : s.ab = ab) (hat : at_ < s.tp.cn) (hN : N ≤ 1000000000) : Calls Tryz.prog 170 #[.pointer (some ⟨ab, 0, none⟩), .int .i64 (at_ : Nat)] w fun e w' => (∃ u, e = .returned u) ∧ ∃ s', Stp c N s w s' w' ∧ Qt s s' := by subst hab; exact l5aim_c at_ w h hat hN
theorem doneA {c : Cx} {N ab : Nat} {s : St} (tail : Bool) (w : World) (h : Inv c N w s) (hab : s.ab = ab) (hN : N ≤ 1000000000) : Calls Tryz.prog 46 #[.pointer (some ⟨ab, 0, none⟩), .bool tail] w fun e w' => (∃ u, e = .returned u) ∧ DoP c N s w w' := by subst hab; exact l5done_c tail w h hN
def SpP (c : Cx) (N k : Nat) (st : St) (xs : List Nat) (r : Option (List (List Int))) (w w' : World) : Prop := ∃ st', Stp c (N + sumB k (at_ c xs) + 9000) st w st' w' ∧ RsP r st st' ∧ st'.bo ≤ st.bo + sumS k (at_ c xs)
theorem SqP.sp {c : Cx} {N k : Nat} {st st' : St} {w w' : World} {xs : List Nat} (h : SqP c N k st w xs st' w') : SpP c N k st xs (allO (rd (st.gl.map (·.x)) k st.sc) (at_ c xs)) w w' := ⟨st', h.stp.mono (by omega), h.rs, h.bo⟩
theorem wrong_sp {c : Cx} {N k : Nat} {st : St} {xs : List Nat} {w w' : World} (h : ∃ st', Stp c (N + 2) st w st' w' ∧ st'.bad = true ∧ st'.bo = st.bo) : SpP c N k st xs none w w' := by
 obtain ⟨st', h1, h2, h3⟩ := h
 exact ⟨st', h1.mono (by omega), h2, by omega⟩
theorem SqP.more {c : Cx} {N k i : Nat} {st s1 : St} {w w1 w2 : World} {xs : List Nat} (h : SqP c N k st w xs s1 w1) (hx : ExP c (N + sumB k (at_ c xs)) k s1 i w1 w2) : ∃ s2, SqP c N k st w (xs ++ [i]) s2 w2 ∧ s1.tp.cn ≤ s2.tp.cn ∧ s2.ab = st.ab ∧ Fr s1 s2 w1 w2 := by
 obtain ⟨s2, h4, h5, h6⟩ := hx
 exact ⟨s2, h.snoc ⟨h4, h5, h6⟩ ⟨h4.inv.mono (by omega), Fr.refl _ _, Sm.refl _⟩ ⟨rfl, rfl, rfl⟩, h4.sm.tp.2.2, h4.sm.ab.trans h.stp.sm.ab, h4.fr⟩
theorem SqP.emit {c : Cx} {N k m : Nat} {st s1 s2 : St} {w w1 w2 : World} {xs : List Nat} (h : SqP c N k st w xs s1 w1) (h2 : Stp c (N + sumB k (at_ c xs) + m) s1 w1 s2 w2) (hq : Qt s1 s2) : SqP c (N + m) k st w xs s2 w2 := by
 refine ⟨(h.stp.trans h2).mono (by omega), h.rs.then_ hq, ?_⟩
 rw [hq.2.2]
 exact h.bo
theorem exA {c : Cx} {k N ab i : Nat} {s : St} (hE : ExC c k) (tail : Bool) (w : World) (h : Inv c N w s) (hab : s.ab = ab) (hi : i < c.dn ∧ Ok k (c.ds.drop i)) (hN : N + bud k (c.ds.drop i) ≤ 1000000000) (hb : s.bo + sz k (c.ds.drop i) ≤ 3000) : Calls Tryz.prog 43 #[.pointer (some ⟨ab, 0, none⟩), .int .i64 (i : Nat), .bool tail] w fun e w' => (∃ u, e = .returned u) ∧ ExP c N k s i w w' := by
 subst hab
 exact hE s w N i tail h hi.1 hi.2 hN hb
end Cp
end Go.Proofs.YtnnpfoilojicjaaGreatDoor
