import Derived.Test.YtnnpfoilojicjaaGreatDoorJa
namespace Go.Proofs.YtnnpfoilojicjaaGreatDoor
open Go.RowKit Ch1
namespace Cp
theorem infoMk : (Tryz.prog.info? 109).map (fun i => (i.zero, i.size, i.bytes)) = some (some .nilFunc, 1, 8) := by kernel_rfl
theorem PgI.not_fq {c : Cx} {N k : Nat} {w : World} {s : Sg} {cur : Array Value} {t : TypeId} (hi : PgI c N w s) (hj : w.heap[k]? = some (.cells cur t)) (h1 : t ≠ 59) (h2 : t ≠ 107) (h3 : t ≠ 9) (h4 : t ≠ 111) (h5 : t ≠ 175) : ¬ Fq s k := fun hq => by
 have row : ∀ {n size : Nat} {e : TypeId} {v : Value} {xs : List Value}, w.ownsRow c.w0.heap.size e size v n xs → v.ownBlock = some k → t ≠ e → False := fun ho hk ht => by
  obtain ⟨_, cur2, q⟩ := owns_lt ho k hk
  rw [hj] at q
  cases q
  exact ht rfl
 rcases hq with rfl | rfl | hk | hk | hk | ⟨v, hv, rfl⟩
 ·have := hi.blk
  rw [hj] at this
  cases this
  exact h1 rfl
 ·obtain ⟨es, clk, q, _⟩ := hi.glo
  rw [hj] at q
  cases q
 ·exact row hi.sco hk h2
 ·exact row hi.ubo hk h3
 ·exact row hi.fmo hk h4
 ·obtain ⟨⟨n, g, bx, q⟩, _⟩ := hi.vrs v hv
  rw [hj] at q
  cases q
  exact h5 rfl
def EsR (c : Cx) (db dof : Nat) (S : Nat → Prop) (k : Nat) (w : World) (p : Option Addr) (n cc : Nat) (es : List Pe) : Prop := es.length = n ∧ n ≤ cc ∧ (0 < n → ∃ g o cur, p = some ⟨g, o, none⟩ ∧ w.heap[g]? = some (.cells cur 102) ∧ ∀ j (hj : j < es.length), w.cell? ⟨g, o + j * 2, none⟩ = some (es[j]'hj).2.1 ∧ w.cell? ⟨g, o + j * 2 + 1, none⟩ = some (es[j]'hj).2.2) ∧ ∀ x ∈ es, Pt c db dof S w k x
theorem EsR.frp {c : Cx} {db dof k N n cc : Nat} {S : Nat → Prop} {w w' : World} {s s' : Sg} {p : Option Addr} {es : List Pe} (h : EsR c db dof S k w p n cc es) (hi : PgI c N w s) (hf : FrP s s' w w') : EsR c db dof S k w' p n cc es := by
 refine ⟨h.1, h.2.1, fun h0 => ?_, fun x hx => (h.2.2.2 x hx).frp hi hf⟩
 obtain ⟨g, o, cur, e, hg, hc⟩ := h.2.2.1 h0
 have hk := hf.keep g (Array.getElem?_eq_some_iff.1 hg).1 (hi.not_fq hg (by decide) (by decide) (by decide) (by decide) (by decide))
 exact ⟨g, o, cur, e, hk.trans hg, fun j hj => ⟨by rw [World.cell?_of_block (w := w) hk]; exact (hc j hj).1, by rw [World.cell?_of_block (w := w) hk]; exact (hc j hj).2⟩⟩
theorem EsR.below {c : Cx} {db dof k n cc : Nat} {S : Nat → Prop} {w w' : World} {p : Option Addr} {es : List Pe} (h : EsR c db dof S k w p n cc es) (hb : Below w.heap.size w w') : EsR c db dof S k w' p n cc es := by
 refine ⟨h.1, h.2.1, fun h0 => ?_, fun x hx => (h.2.2.2 x hx).below hb⟩
 obtain ⟨g, o, cur, e, hg, hc⟩ := h.2.2.1 h0
 have hk := hb.block g (Array.getElem?_eq_some_iff.1 hg).1
 exact ⟨g, o, cur, e, hk.trans hg, fun j hj => ⟨by rw [World.cell?_of_block (w := w) hk]; exact (hc j hj).1, by rw [World.cell?_of_block (w := w) hk]; exact (hc j hj).2⟩⟩
def RdQ (c : Cx) (N : Nat) (s : Sg) (o : Option (List (List Int))) (w w' : World) (r : Ending) (A : Value → World → Prop) : Prop := match o with
 | none => r = gramE ∧ Below c.w0.heap.size c.w0 w'
 | some ns => ∃ (u : Value) (s' : Sg), r = .returned u ∧ A u w' ∧ PgI c N w' s' ∧ FrP s s' w w' ∧ SmP s s' ∧ s'.ub = s.ub ++ ns
def MkV (u : Value) : Prop := ∃ f b cp, u = .func f b cp
def ExpC (c : Cx) (db dof k : Nat) : Prop := ∀ (S : Nat → Prop) (s : Sg) (N : Nat) (w : World) (e : Pe), PgI c N w s → Pt c db dof S w k e → N + bud k (c.ds.drop e.1) ≤ 1000000000 → Calls Tryz.prog 115 #[.pointer (some ⟨s.pb, 0, none⟩), .agg #[e.2.1, e.2.2]] w fun r w' => RdQ c (N + bud k (c.ds.drop e.1)) s (rd (s.gls.map (·.x)) k (s.sc.map (·.x)) (c.ds.drop e.1)) w w' r (fun u _ => MkV u)
def MkR (B n : Nat) (v : Value) (w : World) : Prop := ∃ us : List Value, (∀ u ∈ us, MkV u) ∧ us.length = n ∧ w.ownsRow B 109 1 v n us
def ExS (c : Cx) (db dof : Nat) (S : Nat → Prop) (k N : Nat) (s : Sg) (w : World) (p : Option Addr) (n cc : Nat) (es : List Pe) (i : Nat) (v : Value) (w' : World) : Prop := ∃ (s' : Sg) (ns : List (List Int)), allO (rd (s.gls.map (·.x)) k (s.sc.map (·.x))) (at_ c ((es.take i).map (·.1))) = some ns ∧ MkR w.heap.size i v w' ∧ PgI c (N + sumB k (at_ c ((es.take i).map (·.1)))) w' s' ∧ FrP s s' w w' ∧ SmP s s' ∧ s'.ub = s.ub ++ ns ∧ EsR c db dof S k w' p n cc es
theorem allO_none {f : List Dt → Option (List (List Int))} {a b : List (List Dt)} {x : List Dt} (h : f x = none) : allO f (a ++ x :: b) = none := by
 rw [allO_app]
 have : allO f (x :: b) = none := by simp only [allO]; rw [h]
 rw [this]
 cases allO f a <;> rfl
theorem MkR.keep {B n : Nat} {v : Value} {w w' : World} (h : MkR B n v w) (hk : ∀ (k : Nat) (cur : Array Value), w.heap[k]? = some (Obj.cells cur 109) → w'.heap[k]? = w.heap[k]?) : MkR B n v w' := by
 obtain ⟨us, h1, h2, h3⟩ := h
 exact ⟨us, h1, h2, owns_of_heap h3 (fun j hj => by
  obtain ⟨_, cur, hc⟩ := owns_lt h3 j hj
  exact hk j cur hc)⟩
theorem es_split {es : List Pe} {i : Nat} (hi : i < es.length) : es = es.take i ++ (es[i]'hi :: es.drop (i + 1)) := by
 rw [← List.drop_eq_getElem_cons hi, List.take_append_drop]
theorem es_snoc {es : List Pe} {i : Nat} (hi : i < es.length) : es.take (i + 1) = es.take i ++ [es[i]'hi] := List.take_succ_eq_append_getElem hi
set_option maxRecDepth 20000 in
set_option maxHeartbeats 4000000 in
theorem expressions_c {c : Cx} {db dof k : Nat} (hE : ExpC c db dof k) (S : Nat → Prop) (s : Sg) (N : Nat) (w : World) (p : Option Addr) (n cc : Nat) (es : List Pe) (h : PgI c N w s) (hes : EsR c db dof S k w p n cc es) (hn3 : n ≤ 3000) (hN : N + sumB k (Cp.at_ c (es.map (·.1))) ≤ 1000000000) :
  Calls Tryz.prog 93 #[.pointer (some ⟨s.pb, 0, none⟩), .slice p n cc] w fun r w' => RdQ c (N + sumB k (Cp.at_ c (es.map (·.1)))) s (allO (rd (s.gls.map (·.x)) k (s.sc.map (·.x))) (Cp.at_ c (es.map (·.1)))) w w' r (MkR w.heap.size n) := by
 have HE := mkC hE
 have HI := mkC h
 have HL : Hid (es.length = n) := hes.1
 have HN := mkC hN
 have HST : Hid (ExS c db dof S k N s w p n cc es 0 (.slice none 0 0) w) := ⟨s, [], rfl, ⟨[], (fun _ hu => by cases hu), rfl, nil_own _ _ _ _⟩, h, FrP.refl s w, SmP.refl s, (List.append_nil _).symm, hes⟩
 clear hE h hes hN
 go_enter Tryz.func93, Tryz.ntmps93
 go_wp2_with fail
 go_loopw [5, 10] (fun v iv wr => ∃ i : Nat, i ≤ n ∧ iv = .int .i64 (i : Nat) ∧ Hid (ExS c db dof S k N s w p n cc es i v wr)) (fun _ iv _ => n - (intOf iv).toNat)
 case atStart => exact ⟨0, Nat.zero_le _, rfl, HST.out⟩
 case round =>
  obtain ⟨i, hi, rfl, hS⟩ := hrel
  obtain ⟨s1, ns, hal, hmk, hpg, hfr, hsm, hub, hes⟩ := hS.out
  by_cases hlt : i < n
  ·have hil : i < es.length := by rw [HL.out]; exact hlt
   obtain ⟨g, o, cur, rfl, hg, hcl⟩ := hes.2.2.1 (by omega)
   obtain ⟨y0, y1⟩ := hcl i hil
   have hgl := (Array.getElem?_eq_some_iff.1 hg).1
   have hncc := hes.2.1
   have hpt := hes.2.2.2 _ (List.getElem_mem hil)
   have hsp := es_split hil
   have hsn := es_snoc hil
   generalize es[i]'hil = e at y0 y1 hpt hsp hsn
   have hsumT : sumB k (Cp.at_ c (es.map (·.1))) = sumB k (Cp.at_ c ((es.take i).map (·.1))) + (bud k (c.ds.drop e.1) + 10 + sumB k (Cp.at_ c ((es.drop (i + 1)).map (·.1)))) := by
    conv => lhs; rw [hsp]
    unfold Cp.at_
    rw [List.map_append, List.map_append, sumB_app]
    simp only [List.map_cons, sumB]
   have hsumS : sumB k (Cp.at_ c ((es.take (i + 1)).map (·.1))) = sumB k (Cp.at_ c ((es.take i).map (·.1))) + (bud k (c.ds.drop e.1) + 10) := by
    rw [hsn]
    unfold Cp.at_
    rw [List.map_append, List.map_append, sumB_app]
    simp only [List.map_cons, List.map_nil, sumB, Nat.add_zero]
   have hatS : Cp.at_ c ((es.take (i + 1)).map (·.1)) = Cp.at_ c ((es.take i).map (·.1)) ++ [c.ds.drop e.1] := by
    rw [hsn]
    simp [Cp.at_]
   have hatT : Cp.at_ c (es.map (·.1)) = Cp.at_ c ((es.take i).map (·.1)) ++ c.ds.drop e.1 :: Cp.at_ c ((es.drop (i + 1)).map (·.1)) := by
    conv => lhs; rw [hsp]
    simp [Cp.at_]
   obtain ⟨so, sn, sc, hdv⟩ : ∃ so sn sc, e.2.1 = .slice (some ⟨db, so, none⟩) sn sc := ⟨_, _, _, hpt.ok.1⟩
   obtain ⟨ep, eN, eC, hev⟩ := hpt.row
   obtain ⟨W2, hW2⟩ : ∃ W2, W2 = wr.alloc (.cells #[.slice (some ⟨db, so, none⟩) sn sc, .slice ep eN eC] 102) := ⟨_, rfl⟩
   have hb2 : Below wr.heap.size wr W2 := by rw [hW2]; exact below1 _ _
   have hp2 := hpg.below hb2
   have hc2 := HE.out S s1 (N + sumB k (Cp.at_ c ((es.take i).map (·.1)))) W2 e hp2.1 (hpt.below hb2) (by have := HN.out; omega)
   rw [hdv, hev, hsm.pb, hsm.gls, hsm.sc] at hc2
   rw [hdv] at y0
   rw [hev] at y1
   have HC := mkC hc2
   have HW2 := mkC hW2
   obtain ⟨vp, vc, hvf⟩ : ∃ vp vc, u5 = .slice vp i vc := by
    obtain ⟨us, _, _, hu⟩ := hmk
    exact owns_form hu
   subst hvf
   have HP2 := mkC hp2
   have HSM := mkC hsm
   have HNO : Hid (rd (s.gls.map (·.x)) k (s.sc.map (·.x)) (c.ds.drop e.1) = none → ∀ w', Below c.w0.heap.size c.w0 w' → RdQ c (N + sumB k (Cp.at_ c (es.map (·.1)))) s (allO (rd (s.gls.map (·.x)) k (s.sc.map (·.x))) (Cp.at_ c (es.map (·.1)))) w w' gramE (MkR w.heap.size n)) := fun hno w' hb' => by
    rw [hatT, allO_none hno]
    exact ⟨rfl, hb'⟩
   have HYES : Hid (∀ ns2 u s2 w3, rd (s.gls.map (·.x)) k (s.sc.map (·.x)) (c.ds.drop e.1) = some ns2 → MkV u → PgI c (N + sumB k (Cp.at_ c ((es.take i).map (·.1))) + bud k (c.ds.drop e.1)) w3 s2 → FrP s1 s2 W2 w3 → SmP s1 s2 → s2.ub = s1.ub ++ ns2 → ∃ us, w3.ownsRow w.heap.size 109 1 (.slice vp i vc) i us ∧ w.heap.size ≤ w3.heap.size ∧ ∀ v' w4, w4.ownsRow w.heap.size 109 1 v' (i + 1) (us ++ [u]) → Below w.heap.size w3 w4 → But w3 w4 (.slice vp i vc) → ExS c db dof S k N s w (some ⟨g, o, none⟩) n cc es (i + 1) v' w4) := fun ns2 u s2 w3 g1 g2 g3 g4 g5 g6 => by
    have f2 := hfr.trans (hp2.2.trans g4)
    have hm3 : MkR w.heap.size i (.slice vp i vc) w3 := MkR.keep (MkR.keep (w' := W2) hmk (fun j cur2 hj => hb2.block j (Array.getElem?_eq_some_iff.1 hj).1)) (fun j cur2 hj => g4.keep j (Array.getElem?_eq_some_iff.1 hj).1 (hp2.1.not_fq hj (by decide) (by decide) (by decide) (by decide) (by decide)))
    obtain ⟨us, q1, q2, q3⟩ := hm3
    refine ⟨us, q3, f2.size, fun v' w4 g7 g8 g9 => ?_⟩
    have hnf : ∀ j, (Value.slice vp i vc).ownBlock = some j → w.heap.size ≤ j := owns_ge q3
    have hkp : ∀ {j : Nat} {ob : Obj}, w3.heap[j]? = some ob → (∀ a, ob ≠ .cells a 109) → w4.heap[j]? = some ob := fun {j ob} hj hne => (g9 j (Array.getElem?_eq_some_iff.1 hj).1 (fun e' => by
     obtain ⟨_, cur2, hc2'⟩ := owns_lt q3 j e'.symm
     rw [hc2'] at hj
     exact hne _ (Option.some.inj hj).symm)).trans hj
    have hrow4 : ∀ {m size B : Nat} {t : TypeId} {v : Value} {xs : List Value}, w3.ownsRow B t size v m xs → t ≠ 109 → w4.ownsRow B t size v m xs := fun hr ht => owns_of_heap hr (fun j hj => by
     obtain ⟨_, cur2, hc2'⟩ := owns_lt hr j hj
     rw [hc2']
     exact hkp hc2' (fun a e' => by cases e'; exact ht rfl))
    have hbw : c.w0.heap.size ≤ w.heap.size := HI.out.bel.size
    have hpg4 : PgI c (N + sumB k (Cp.at_ c ((es.take i).map (·.1))) + bud k (c.ds.drop e.1)) w4 s2 := by
     refine ⟨g3.bel.trans (g8.mono hbw), g3.pb0, hkp g3.blk (fun a e' => by cases e'), ?_, ?_, g3.gm0, g3.nd, fun v hv => ⟨?_, (g3.vrs v hv).2⟩, hrow4 g3.sco (by decide), hrow4 g3.ubo (by decide), g3.ubr, hrow4 g3.fmo (by decide), g3.len⟩
     ·obtain ⟨es2, clk, z1, z2⟩ := g3.wor
      exact ⟨es2, clk, hkp z1 (fun a e' => by cases e'), z2⟩
     ·obtain ⟨es2, clk, z1, z2⟩ := g3.glo
      exact ⟨es2, clk, hkp z1 (fun a e' => by cases e'), z2⟩
     ·obtain ⟨z1, z2, z3, z4⟩ := (g3.vrs v hv).1
      exact ⟨z1, z2, z3, hkp z4 (fun a e' => by cases e')⟩
    have hes3 := (hes.below hb2).frp hp2.1 g4
    have hes4 : EsR c db dof S k w4 (some ⟨g, o, none⟩) n cc es := by
     refine ⟨hes3.1, hes3.2.1, fun h0 => ?_, fun x hx => Pt.of (fun _ h _ => h) (fun j cur2 _ hj => (hkp hj (fun a e' => by cases e')).trans hj.symm) k x (hes3.2.2.2 x hx)⟩
     obtain ⟨g', o', cur', e', hg', hc'⟩ := hes3.2.2.1 h0
     have hk' : w4.heap[g']? = w3.heap[g']? := (hkp hg' (fun a e' => by cases e')).trans hg'.symm
     exact ⟨g', o', cur', e', hk'.trans hg', fun j hj => ⟨by rw [World.cell?_of_block (w := w3) hk']; exact (hc' j hj).1, by rw [World.cell?_of_block (w := w3) hk']; exact (hc' j hj).2⟩⟩
    refine ⟨s2, ns ++ ns2, ?_, ⟨us ++ [u], fun y hy => ?_, by rw [List.length_append, q2]; rfl, g7⟩, by rw [hsumS]; exact hpg4.mono (by omega), ?_, hsm.trans g5, by rw [g6, hub, List.append_assoc], hes4⟩
    ·rw [hatS, allO_app, allO_one, hal, g1]
     rfl
    ·rcases List.mem_append.1 hy with hy | hy
     ·exact q1 y hy
     ·rw [List.mem_singleton.1 hy]; exact g2
    ·refine ⟨Nat.le_trans f2.size g8.size, fun j hj hq => ?_, f2.foot⟩
     rw [g9 j (Nat.lt_of_lt_of_le hj f2.size) (fun e' => by have := hnf j e'.symm; omega)]
     exact f2.keep j hj hq
   generalize rd (s.gls.map (·.x)) k (s.sc.map (·.x)) (c.ds.drop e.1) = ro at HC HNO HYES
   clear hS hal hmk hpg hfr hsm hub hes hcl hg hpt hsp hsn hsumT hsumS hatS hatT hdv hev hp2 hc2 hb2 hW2
   go_wp2_with fail
   rw [← HW2.out]
   refine HC.out.mono ?_
   intro r w3 hr
   cases ro with
   | none =>
    obtain ⟨rfl, hb3⟩ := hr
    exact ⟨rfl, HNO.out rfl w3 hb3⟩
   | some ns2 =>
    obtain ⟨u, s2, rfl, ⟨uf, ub_, ucp, rfl⟩, g3, g4, g5, g6⟩ := hr
    obtain ⟨us, hrow, hB3, hfin⟩ := HYES.out ns2 _ s2 w3 rfl ⟨uf, ub_, ucp, rfl⟩ g3 g4 g5 g6
    have HROW := mkC hrow
    have HFIN := mkC hfin
    clear g3 g4 g5 g6 hrow hfin
    go_wp2_with (at_builtin; refine appW_at w3 rfl (.tmp 14) (.tmp 18) 150 109 rfl _ 1 8 Tryz.underlying150 infoMk rfl (by decide) w.heap.size (.slice vp i vc) i us (by simp [Act.eval]) HROW.out #[.func uf ub_ ucp] rfl (by simp [Value.oneCell']) (by simp [Act.eval]) (by unfold maxLen; omega) (by omega) hB3 ?_; intro v' w4 ho hb4 hbt hloc hsz; have HF := mkC (HFIN.out v' w4 ho hb4 hbt); clear ho hb4 hbt hloc hsz)
    exact ⟨⟨i + 1, by omega, by go_num, HF.out⟩, by simp [intOf]; omega⟩
  ·have hin_ : i = n := by omega
   subst hin_
   have HF : Hid (RdQ c (N + sumB k (Cp.at_ c (es.map (·.1)))) s (allO (rd (s.gls.map (·.x)) k (s.sc.map (·.x))) (Cp.at_ c (es.map (·.1)))) w wr (.returned u5) (MkR w.heap.size i)) := by
    have ht : es.take i = es := List.take_of_length_le (by rw [HL.out]; exact Nat.le_refl _)
    rw [ht] at hal hpg
    unfold Hid
    rw [hal]
    exact ⟨u5, s1, rfl, hmk, hpg, hfr, hsm, hub⟩
   clear hS hal hmk hpg hfr hsm hub hes
   go_wp2_with fail
   go_ret
   exact HF.out
theorem RdQ.then_ {c : Cx} {N : Nat} {s : Sg} {ns : List (List Int)} {w w1 w2 : World} {u' : Value} {s' : Sg} {A : Value → World → Prop} (h : PgI c N w1 s' ∧ FrP s s' w w1 ∧ SmP s s' ∧ s'.ub = s.ub ++ ns) (hb : Below w1.heap.size w1 w2) (hA : A u' w2) : RdQ c N s (some ns) w w2 (.returned u') A := by
 have h1 := h.1.below hb
 exact ⟨u', s', rfl, hA, h1.1, h.2.1.trans h1.2, h.2.2.1, h.2.2.2⟩
set_option maxHeartbeats 1000000 in
theorem constant_c (p : Option Addr) (n cc : Nat) (w : World) : Calls Tryz.prog 92 #[.slice p n cc] w fun r w' => ∃ u, r = .returned u ∧ MkV u ∧ Below w.heap.size w w' := by
 have HB : Hid (Below w.heap.size w (w.alloc (.cells #[.slice p n cc] 26))) := below1 _ _
 go_enter Tryz.func92, Tryz.ntmps92
 go_wp2_with fail
 go_ret
 exact ⟨_, rfl, ⟨_, _, _, rfl⟩, HB.out⟩
set_option maxHeartbeats 1000000 in
theorem symbol_c {c : Cx} {N : Nat} {s : Sg} (x : List Int) (w : World) (h : PgI c N w s) (hx : Rg x) (hN : N + 1 ≤ 1000000000) :
  Calls Tryz.prog 161 #[.pointer (some ⟨s.pb, 0, none⟩), .string (strOfNums x)] w fun r w' => RdQ c (N + 1) s (some (lack (s.gls.map (·.x)) (s.sc.map (·.x)) x)) w w' r (fun u _ => MkV u) := by
 have HV := mkC (variable_c x w h hx hN)
 obtain ⟨st, hst⟩ : ∃ st, st = strOfNums x := ⟨_, rfl⟩
 rw [← hst] at HV ⊢
 clear h hx hst
 go_enter Tryz.func161, Tryz.ntmps161
 go_wp2_with fail
 refine HV.out.mono ?_
 rintro r w1 ⟨s', vb, rfl, h1, h2, h3, _, h4, _⟩
 have HF : Hid (∀ u', MkV u' → RdQ c (N + 1) s (some (lack (s.gls.map (·.x)) (s.sc.map (·.x)) x)) w (w1.alloc (.cells #[.pointer (some ⟨vb, 0, none⟩)] 107)) (.returned u') (fun u _ => MkV u)) := fun u' hu' => RdQ.then_ ⟨h1, h2, h3, h4⟩ (below1 _ _) hu'
 clear h1 h2 h3 h4
 go_wp2_with fail
 go_ret
 exact HF.out _ ⟨_, _, _, rfl⟩
set_option maxHeartbeats 1000000 in
theorem call_c {c : Cx} {db dof k : Nat} (hE : ExpC c db dof k) (S : Nat → Prop) (s : Sg) (N : Nat) (w : World) (p : Option Addr) (n cc : Nat) (es : List Pe) (h : PgI c N w s) (hes : EsR c db dof S k w p n cc es) (hn3 : n ≤ 3000) (hN : N + sumB k (Cp.at_ c (es.map (·.1))) ≤ 1000000000) :
  Calls Tryz.prog 184 #[.pointer (some ⟨s.pb, 0, none⟩), .slice p n cc] w fun r w' => RdQ c (N + sumB k (Cp.at_ c (es.map (·.1)))) s (allO (rd (s.gls.map (·.x)) k (s.sc.map (·.x))) (Cp.at_ c (es.map (·.1)))) w w' r (fun u _ => MkV u) := by
 have HX := mkC (expressions_c hE S s N w p n cc es h hes hn3 hN)
 generalize allO (rd (s.gls.map (·.x)) k (s.sc.map (·.x))) (Cp.at_ c (es.map (·.1))) = ro at HX
 generalize N + sumB k (Cp.at_ c (es.map (·.1))) = NN at HX
 clear h hes hN hE
 go_enter Tryz.func184, Tryz.ntmps184
 go_wp2_with fail
 refine HX.out.mono ?_
 intro r w1 hr
 cases ro with
 | none =>
  obtain ⟨rfl, hb3⟩ := hr
  exact ⟨rfl, rfl, hb3⟩
 | some ns =>
  obtain ⟨u, s', rfl, ⟨us, q1, q2, q3⟩, h1, h2, h3, h4⟩ := hr
  obtain ⟨vp, vc, rfl⟩ := owns_form q3
  have HF : Hid (∀ u', MkV u' → RdQ c NN s (some ns) w (w1.alloc (.cells #[.slice vp n vc] 150)) (.returned u') (fun u _ => MkV u)) := fun u' hu' => RdQ.then_ ⟨h1, h2, h3, h4⟩ (below1 _ _) hu'
  clear h1 h2 h3 h4 q1 q2 q3
  go_wp2_with fail
  go_ret
  exact HF.out _ ⟨_, _, _, rfl⟩
set_option maxHeartbeats 1000000 in
theorem misplaced_c {c : Cx} (b : Nat) (p : Option Addr) (n cc : Nat) (w : World) (hb : Below c.w0.heap.size c.w0 w) : Calls Tryz.prog 58 #[.pointer (some ⟨b, 0, none⟩), .slice p n cc] w fun r w' => r = gramE ∧ Below c.w0.heap.size c.w0 w' := by
 have HB := mkC hb
 clear hb
 go_enter Tryz.func58, Tryz.ntmps58
 go_wp2_with fail
 refine (needGrammar_f w).mono ?_
 rintro r w1 ⟨rfl, hw1⟩
 have hw1' := hw1.symm
 clear hw1
 subst hw1'
 exact ⟨rfl, rfl, HB.out⟩
set_option maxHeartbeats 1000000 in
theorem quote_c {c : Cx} {db dof k : Nat} (S : Nat → Prop) (s : Sg) (N : Nat) (w : World) (p : Option Addr) (n cc : Nat) (es : List Pe) (h : PgI c N w s) (hes : EsR c db dof S k w p n cc es) :
  Calls Tryz.prog 49 #[.pointer (some ⟨s.pb, 0, none⟩), .slice p n cc] w fun r w' => RdQ c N s (if es.length = 1 then some [] else none) w w' r (fun u _ => MkV u) := by
 have HI := mkC h
 have hl := hes.1
 have hcc := hes.2.1
 by_cases hn : n = 1
 ·subst hn
  rw [if_pos hl]
  obtain ⟨g, o, cur, rfl, hg, hc⟩ := hes.2.2.1 (by omega)
  have y0 := (hc 0 (by omega)).1
  have hpt := hes.2.2.2 _ (List.getElem_mem (show 0 < es.length by omega))
  obtain ⟨so, sn, sc, hdv⟩ : ∃ so sn sc, (es[0]'(by omega)).2.1 = .slice (some ⟨db, so, none⟩) sn sc := ⟨_, _, _, hpt.ok.1⟩
  rw [hdv, Nat.zero_mul, Nat.add_zero] at y0
  have HC := mkC (constant_c (some ⟨db, so, none⟩) sn sc w)
  have HNG := mkC (needGrammar_t w)
  clear h hes hg hc hpt hdv
  go_enter Tryz.func49, Tryz.ntmps49
  go_wp2_with fail
  refine HNG.out.mono ?_
  rintro r w1 ⟨⟨u, rfl⟩, hw1⟩
  have hw1' := hw1.symm
  clear hw1
  subst hw1'
  go_wp2_with fail
  refine HC.out.mono ?_
  rintro r w2 ⟨u2, rfl, ⟨f, b, cp, rfl⟩, hb2⟩
  have HF : Hid (RdQ c N s (some []) w w2 (.returned (.func f b cp)) (fun u _ => MkV u)) := RdQ.then_ ⟨HI.out, FrP.refl s _, SmP.refl s, (List.append_nil _).symm⟩ hb2 ⟨f, b, cp, rfl⟩
  clear hb2
  go_wp2_with fail
  go_ret
  exact HF.out
 ·rw [if_neg (by omega)]
  have t1 : ((n : Int) == 1) = false := by simp; omega
  have HNG := mkC (needGrammar_f w)
  clear h hes
  go_enter Tryz.func49, Tryz.ntmps49
  go_wp2_with fail
  refine HNG.out.mono ?_
  rintro r w1 ⟨rfl, hw1⟩
  have hw1' := hw1.symm
  clear hw1
  subst hw1'
  exact ⟨rfl, rfl, HI.out.bel⟩
set_option maxHeartbeats 1000000 in
theorem body_c {c : Cx} {db dof k : Nat} (hE : ExpC c db dof k) (S : Nat → Prop) (s : Sg) (N : Nat) (w : World) (p : Option Addr) (n cc : Nat) (es : List Pe) (h : PgI c N w s) (hes : EsR c db dof S k w p n cc es) (hn3 : n ≤ 3000) (hN : N + sumB k (Cp.at_ c (es.map (·.1))) ≤ 1000000000) :
  Calls Tryz.prog 55 #[.pointer (some ⟨s.pb, 0, none⟩), .slice p n cc] w fun r w' => RdQ c (N + sumB k (Cp.at_ c (es.map (·.1)))) s (if es = [] then none else allO (rd (s.gls.map (·.x)) k (s.sc.map (·.x))) (Cp.at_ c (es.map (·.1)))) w w' r (fun u _ => MkV u) := by
 have HI := mkC h
 have hl := hes.1
 by_cases hn : n = 0
 ·subst hn
  rw [if_pos (List.eq_nil_of_length_eq_zero hl)]
  have HNG := mkC (needGrammar_f w)
  clear h hes hE hN
  go_enter Tryz.func55, Tryz.ntmps55
  go_wp2_with fail
  refine HNG.out.mono ?_
  rintro r w1 ⟨rfl, hw1⟩
  have hw1' := hw1.symm
  clear hw1
  subst hw1'
  exact ⟨rfl, rfl, HI.out.bel⟩
 ·rw [if_neg (fun e => hn (by rw [← hl, e]; rfl))]
  have hn0 : 0 < n := by omega
  have HX := mkC (expressions_c hE S s N w p n cc es h hes hn3 hN)
  have HNG := mkC (needGrammar_t w)
  generalize allO (rd (s.gls.map (·.x)) k (s.sc.map (·.x))) (Cp.at_ c (es.map (·.1))) = ro at HX
  generalize N + sumB k (Cp.at_ c (es.map (·.1))) = NN at HX
  clear h hes hN hE hl
  go_enter Tryz.func55, Tryz.ntmps55
  go_wp2_with fail
  refine HNG.out.mono ?_
  rintro r w1 ⟨⟨u, rfl⟩, hw1⟩
  have hw1' := hw1.symm
  clear hw1
  subst hw1'
  go_wp2_with fail
  refine HX.out.mono ?_
  intro r w2 hr
  cases ro with
  | none =>
   obtain ⟨rfl, hb3⟩ := hr
   exact ⟨rfl, rfl, hb3⟩
  | some ns =>
   obtain ⟨u, s', rfl, ⟨us, q1, q2, q3⟩, h1, h2, h3, h4⟩ := hr
   obtain ⟨vp, vc, rfl⟩ := owns_form q3
   have HF : Hid (∀ (z : Int) u', MkV u' → RdQ c NN s (some ns) w ((w2.alloc (.cells #[.slice vp n vc] 150)).alloc (.cells #[.int .i64 z] 3)) (.returned u') (fun u _ => MkV u)) := fun z u' hu' => RdQ.then_ ⟨h1, h2, h3, h4⟩ (below2 _ _ _) hu'
   clear h1 h2 h3 h4 q1 q2 q3
   go_wp2_with fail
   go_ret
   exact HF.out _ _ ⟨_, _, _, rfl⟩
theorem PgI.butM {c : Cx} {N B n : Nat} {w3 w4 : World} {s2 : Sg} {v : Value} {us : List Value} (g3 : PgI c N w3 s2) (q3 : w3.ownsRow B 109 1 v n us) (g8 : Below c.w0.heap.size w3 w4) (g9 : But w3 w4 v) : PgI c N w4 s2 := by
 have hkp : ∀ {j : Nat} {ob : Obj}, w3.heap[j]? = some ob → (∀ a, ob ≠ .cells a 109) → w4.heap[j]? = some ob := fun {j ob} hj hne => (g9 j (Array.getElem?_eq_some_iff.1 hj).1 (fun e' => by
  obtain ⟨_, cur2, hc2'⟩ := owns_lt q3 j e'.symm
  rw [hc2'] at hj
  exact hne _ (Option.some.inj hj).symm)).trans hj
 have hrow4 : ∀ {m size B : Nat} {t : TypeId} {v : Value} {xs : List Value}, w3.ownsRow B t size v m xs → t ≠ 109 → w4.ownsRow B t size v m xs := fun hr ht => owns_of_heap hr (fun j hj => by
  obtain ⟨_, cur2, hc2'⟩ := owns_lt hr j hj
  rw [hc2']
  exact hkp hc2' (fun a e' => by cases e'; exact ht rfl))
 refine ⟨g3.bel.trans g8, g3.pb0, hkp g3.blk (fun a e' => by cases e'), ?_, ?_, g3.gm0, g3.nd, fun v hv => ⟨?_, (g3.vrs v hv).2⟩, hrow4 g3.sco (by decide), hrow4 g3.ubo (by decide), g3.ubr, hrow4 g3.fmo (by decide), g3.len⟩
 ·obtain ⟨es2, clk, z1, z2⟩ := g3.wor
  exact ⟨es2, clk, hkp z1 (fun a e' => by cases e'), z2⟩
 ·obtain ⟨es2, clk, z1, z2⟩ := g3.glo
  exact ⟨es2, clk, hkp z1 (fun a e' => by cases e'), z2⟩
 ·obtain ⟨z1, z2, z3, z4⟩ := (g3.vrs v hv).1
  exact ⟨z1, z2, z3, hkp z4 (fun a e' => by cases e')⟩
theorem FrP.butM {s s2 : Sg} {w w3 w4 : World} {v : Value} (f2 : FrP s s2 w w3) (hv : ∀ j, v.ownBlock = some j → w.heap.size ≤ j) (hsz : w3.heap.size ≤ w4.heap.size) (g9 : But w3 w4 v) : FrP s s2 w w4 := by
 refine ⟨Nat.le_trans f2.size hsz, fun j hj hq => ?_, f2.foot⟩
 rw [g9 j (Nat.lt_of_lt_of_le hj f2.size) (fun e' => by have := hv j e'.symm; omega)]
 exact f2.keep j hj hq
set_option maxRecDepth 20000 in
set_option maxHeartbeats 2000000 in
theorem choice_c {c : Cx} {db dof k : Nat} (hE : ExpC c db dof k) (S : Nat → Prop) (s : Sg) (N : Nat) (w : World) (p : Option Addr) (n cc : Nat) (es : List Pe) (h : PgI c N w s) (hes : EsR c db dof S k w p n cc es) (hN : N + sumB k (Cp.at_ c (es.map (·.1))) ≤ 1000000000) :
  Calls Tryz.prog 50 #[.pointer (some ⟨s.pb, 0, none⟩), .slice p n cc] w fun r w' => RdQ c (N + sumB k (Cp.at_ c (es.map (·.1)))) s (if es.length = 2 ∨ es.length = 3 then allO (rd (s.gls.map (·.x)) k (s.sc.map (·.x))) (Cp.at_ c (es.map (·.1))) else none) w w' r (fun u _ => MkV u) := by
 have HI := mkC h
 have hl := hes.1
 by_cases hn : n = 2 ∨ n = 3
 ·rw [if_pos (by omega)]
  have HX := mkC (expressions_c hE S s N w p n cc es h hes (by omega) hN)
  have HNG := mkC (needGrammar_t w)
  generalize allO (rd (s.gls.map (·.x)) k (s.sc.map (·.x))) (Cp.at_ c (es.map (·.1))) = ro at HX
  generalize N + sumB k (Cp.at_ c (es.map (·.1))) = NN at HX
  clear h hes hN hE hl
  have hn3 : n ≤ 3 := by omega
  have hb2 : (((n : Int) == 2) = true) ∨ (((n : Int) == 2) = false ∧ ((n : Int) == 3) = true) := by
   rcases hn with rfl | rfl
   ·exact Or.inl (by decide)
   ·exact Or.inr ⟨by decide, by decide⟩
  clear hn
  rcases hb2 with t1 | ⟨t1, t2⟩
  all_goals
   go_enter Tryz.func50, Tryz.ntmps50
   go_wp2_with fail
   refine HNG.out.mono ?_
   rintro r w1 ⟨⟨u, rfl⟩, hw1⟩
   have hw1' := hw1.symm
   clear hw1
   subst hw1'
   go_wp2_with fail
   refine HX.out.mono ?_
   intro r w2 hr
   cases ro with
   | none =>
    obtain ⟨rfl, hb3⟩ := hr
    exact ⟨rfl, rfl, hb3⟩
   | some ns =>
    obtain ⟨u, s', rfl, ⟨us, q1, q2, q3⟩, h1, h2, h3, h4⟩ := hr
    obtain ⟨vp, vc, rfl⟩ := owns_form q3
    have HQ := mkC q3
    have hB2 : w.heap.size ≤ w2.heap.size := h2.size
    have HF : Hid (∀ v' w4, Below w.heap.size w2 w4 → But w2 w4 (.slice vp n vc) → ∀ u', MkV u' → RdQ c NN s (some ns) w (w4.alloc (.cells #[v'] 150)) (.returned u') (fun u _ => MkV u)) := fun v' w4 z1 z2 u' hu' => RdQ.then_ ⟨h1.butM q3 (z1.mono HI.out.bel.size) z2, h2.butM (owns_ge q3) z1.size z2, h3, h4⟩ (below1 _ _) hu'
    clear h1 h2 h3 h4 q1 q2 q3
    go_wp2_with (at_builtin; refine appW_at w2 rfl (.tmp 17) (.tmp 18) 150 109 rfl _ 1 8 Tryz.underlying150 infoMk rfl (by decide) w.heap.size (.slice vp n vc) n us (by simp [Act.eval]) HQ.out #[.func (.func 94) #[] #[]] rfl (by simp [Value.oneCell']) (by simp [Act.eval]) (by unfold maxLen; omega) (by omega) hB2 ?_; intro v' w4 ho hb4 hbt hloc hsz; obtain ⟨p4, c4, hv4⟩ := owns_form ho; subst hv4; have HF4 := mkC (HF.out (.slice p4 (n + 1) c4) w4 hb4 hbt); clear ho hb4 hbt hloc hsz)
    go_ret
    exact HF4.out _ ⟨_, _, _, rfl⟩
 ·rw [if_neg (by omega)]
  have t1 : ((n : Int) == 2) = false := by simp; omega
  have t2 : ((n : Int) == 3) = false := by simp; omega
  have HNG := mkC (needGrammar_f w)
  clear h hes hE hN
  go_enter Tryz.func50, Tryz.ntmps50
  go_wp2_with fail
  refine HNG.out.mono ?_
  rintro r w1 ⟨rfl, hw1⟩
  have hw1' := hw1.symm
  clear hw1
  subst hw1'
  exact ⟨rfl, rfl, HI.out.bel⟩
end Cp
end Go.Proofs.YtnnpfoilojicjaaGreatDoor
