import Derived.Test.YtnnpfoilojicjaaGreatDoorJm
namespace Go.Proofs.YtnnpfoilojicjaaGreatDoor
open Go.RowKit Ch1
namespace Cp
theorem nms_none_sy {ls : List (List Dt)} {l : List Dt} (hm : l ∈ ls) (h : isSy l = false) : nmsOf ls = none := by
 unfold nmsOf
 rw [if_neg]
 rintro ⟨h1, _⟩
 have := List.all_eq_true.1 h1 l hm
 rw [h] at this
 cases this
theorem nms_none_dup {a b : List (List Dt)} {l : List Dt} (h : nm l ∈ a.map nm) : nmsOf (a ++ l :: b) = none := by
 unfold nmsOf
 rw [if_neg]
 rintro ⟨_, h2⟩
 rw [List.map_append, List.map_cons, List.nodup_append] at h2
 exact h2.2.2 _ h _ (List.mem_cons_self ..) rfl
theorem nms_some {ls : List (List Dt)} (h1 : ls.all isSy = true) (h2 : (ls.map nm).Nodup) : nmsOf ls = some (ls.map nm) := by
 unfold nmsOf
 rw [if_pos ⟨h1, h2⟩]
theorem PgI.not_fqV {c : Cx} {N k : Nat} {w : World} {s : Sg} {cur : Array Value} (hi : PgI c N w s) (hj : w.heap[k]? = some (.cells cur 107)) (hn : s.scv.ownBlock ≠ some k) : ¬ Fq s k := fun hq => by
 have row : ∀ {n size : Nat} {e : TypeId} {v : Value} {xs : List Value}, w.ownsRow c.w0.heap.size e size v n xs → v.ownBlock = some k → 107 ≠ e → False := fun ho hk ht => by
  obtain ⟨_, cur2, q⟩ := owns_lt ho k hk
  rw [hj] at q
  cases q
  exact ht rfl
 rcases hq with rfl | rfl | hk | hk | hk | ⟨v, hv, rfl⟩
 ·have := hi.blk
  rw [hj] at this
  cases this
 ·obtain ⟨es, clk, q, _⟩ := hi.glo
  rw [hj] at q
  cases q
 ·exact hn hk
 ·exact row hi.ubo hk (by decide)
 ·exact row hi.fmo hk (by decide)
 ·obtain ⟨⟨n, g, bx, q⟩, _⟩ := hi.vrs v hv
  rw [hj] at q
  cases q
def BdQ (c : Cx) (N : Nat) (s : Sg) (o : Option (List (List Int))) (w w' : World) (r : Ending) : Prop := match o with
 | none => r = gramE ∧ Below c.w0.heap.size c.w0 w'
 | some ns => ∃ (v : Value) (bs : List Pv) (s' : Sg), r = .returned v ∧ BdI w.heap.size w' v bs ∧ bs.map (·.x) = ns ∧ PgI c N w' s' ∧ FrP s s' w w' ∧ SmP s s' ∧ s'.ub = s.ub
def BnS (c : Cx) (db dof : Nat) (S : Nat → Prop) (k N : Nat) (s : Sg) (w : World) (p : Option Addr) (n cc : Nat) (es : List Pe) (i : Nat) (v : Value) (w' : World) : Prop := ∃ bs : List Pv, bs.length = i ∧ BdI w.heap.size w' v bs ∧ bs.map (·.x) = (at_ c ((es.take i).map (·.1))).map nm ∧ (bs.map (·.x)).Nodup ∧ (at_ c ((es.take i).map (·.1))).all isSy = true ∧ PgI c (N + i) w' { s with lo := s.lo + i } ∧ FrP s { s with lo := s.lo + i } w w' ∧ EsR c db dof S k w' p n cc es
theorem BnS.step {c : Cx} {db dof k N n cc i : Nat} {S : Nat → Prop} {s : Sg} {w wr W5 w6 : World} {p : Option Addr} {es : List Pe} {e : Pe} {v v6 : Value} {vb : Nat} {bs : List Pv} (h0 : PgI c N w s) (hbl : bs.length = i) (hbd : BdI w.heap.size wr v bs) (hnm : bs.map (·.x) = (at_ c ((es.take i).map (·.1))).map nm) (hnd : (bs.map (·.x)).Nodup) (hsy : (at_ c ((es.take i).map (·.1))).all isSy = true) (hpg : PgI c (N + i) wr { s with lo := s.lo + i }) (hfr : FrP s { s with lo := s.lo + i } w wr) (hes : EsR c db dof S k wr p n cc es) (hsn : es.take (i + 1) = es.take i ++ [e]) (hse : isSy (c.ds.drop e.1) = true) (hrg : Rg (nm (c.ds.drop e.1))) (hne : ((bs.map (·.x)).contains (nm (c.ds.drop e.1))) = false)
  (hb5 : Below wr.heap.size wr W5) (hvb : wr.heap.size ≤ vb) (hvr : VrI W5 ⟨vb, nm (c.ds.drop e.1)⟩) (hrow : w6.ownsRow w.heap.size 107 1 v6 (i + 1) (pvC bs ++ [.pointer (some ⟨vb, 0, none⟩)])) (hb6 : Below w.heap.size W5 w6) (hbt : But W5 w6 v) :
  BnS c db dof S k N s w p n cc es (i + 1) v6 (w6.setCell ⟨s.pb, 3, none⟩ (.int .i64 (((s.lo + i : Nat) : Int) + 1))) := by
 have hatS : at_ c ((es.take (i + 1)).map (·.1)) = at_ c ((es.take i).map (·.1)) ++ [c.ds.drop e.1] := by
  rw [hsn]
  simp [at_]
 have p5 := hpg.below hb5
 have hvrow := hbd.row
 have hvge := owns_ge hvrow
 have hwr := hfr.size
 have hkp : ∀ {j : Nat} {ob : Obj}, W5.heap[j]? = some ob → (∀ a, ob ≠ .cells a 107) → w6.heap[j]? = some ob := fun {j ob} hj hne => (hbt j (Array.getElem?_eq_some_iff.1 hj).1 (fun e' => by
  obtain ⟨hlt, cur2, hc2⟩ := owns_lt hvrow j e'.symm
  rw [hb5.block j hlt, hc2] at hj
  exact hne _ (Option.some.inj hj).symm)).trans hj
 have hnfq : ∀ j, v.ownBlock = some j → ¬ Fq { s with lo := s.lo + i } j := fun j hj => by
  obtain ⟨hlt, cur2, hc2⟩ := owns_lt hvrow j hj
  refine hpg.not_fqV hc2 (fun e' => ?_)
  have h1 := (owns_lt h0.sco j e').1
  have h2 := hvge j hj
  omega
 have hp6 : PgI c (N + i) w6 { s with lo := s.lo + i } := by
  refine p5.1.same (hb6.mono h0.bel.size) (fun j hj hq => hbt j hj (fun e' => ?_))
  rcases hq with hq | hq
  ·exact hnfq j e'.symm hq
  ·obtain ⟨hlt, cur2, hc2⟩ := owns_lt hvrow j e'.symm
   exact hpg.wm_ne hc2 hq
 have hf6 : FrP s { s with lo := s.lo + i } w w6 := (hfr.trans p5.2).butM (fun j hj => hvge j hj) hb6.size hbt
 have hlo := hp6.setLo
 have elo : (((s.lo + i : Nat) : Int) + 1) = ((s.lo + i + 1 : Nat) : Int) := by omega
 rw [elo]
 have hpbb : ∀ {j : Nat} {cur : Array Value} {t : TypeId}, w6.heap[j]? = some (Obj.cells cur t) → t ≠ 59 → (w6.setCell ⟨s.pb, 3, none⟩ (.int .i64 ((s.lo + i + 1 : Nat) : Int))).heap[j]? = some (Obj.cells cur t) := fun {j cur t} hj ht => (set_keep _ (fun e' => by
  have h1 := hp6.blk
  rw [e'] at hj
  rw [hj] at h1
  cases h1
  exact ht rfl)).trans hj
 refine ⟨bs ++ [⟨vb, nm (c.ds.drop e.1)⟩], by rw [List.length_append, hbl]; rfl, ⟨?_, fun u hu => ?_⟩, ?_, ?_, ?_, hlo.1, hf6.trans hlo.2, ?_⟩
 ·rw [List.length_append, hbl, pvC_app]
  exact owns_of_heap hrow (fun j hj => by
   obtain ⟨_, cur, hc⟩ := owns_lt hrow j hj
   rw [hc]
   exact hpbb hc (by decide))
 ·rcases List.mem_append.1 hu with hu | hu
  ·obtain ⟨⟨m, g, bx, h1⟩, h2, h3⟩ := hbd.vrs u hu
   refine ⟨⟨m, g, bx, hpbb (hkp ((hb5.block _ (Array.getElem?_eq_some_iff.1 h1).1).trans h1) (fun a e' => by cases e')) (by decide)⟩, h2, h3⟩
  ·obtain rfl := List.mem_singleton.1 hu
   obtain ⟨m, g, bx, h1⟩ := hvr
   exact ⟨⟨m, g, bx, hpbb (hkp h1 (fun a e' => by cases e')) (by decide)⟩, Nat.le_trans hwr hvb, hrg⟩
 ·rw [List.map_append, hnm, hatS, List.map_append]
  rfl
 ·rw [List.map_append, List.nodup_append]
  refine ⟨hnd, by simp, fun a ha b hb => ?_⟩
  simp at hb
  subst hb
  intro e'
  subst e'
  rw [← Bool.not_eq_true, List.contains_iff_mem] at hne
  exact hne ha
 ·rw [hatS, List.all_append, hsy]
  simp [hse]
 ·refine ((hes.below hb5).of (w' := w6) (fun j cur hj => (hkp hj (fun a e' => by cases e')).trans hj.symm)).of (fun j cur hj => (hpbb hj (by decide)).trans hj.symm)
set_option maxRecDepth 20000 in
set_option maxHeartbeats 4000000 in
theorem bind_c {c : Cx} {db dof k : Nat} (hx : PgX c db dof) (S : Nat → Prop) (s : Sg) (N : Nat) (w : World) (p : Option Addr) (n cc : Nat) (es : List Pe) (h : PgI c N w s) (hes : EsR c db dof S k w p n cc es) (hn3 : n ≤ 3000) (hN : N + n ≤ 1000000000) :
  Calls Tryz.prog 98 #[.pointer (some ⟨s.pb, 0, none⟩), .slice p n cc] w fun r w' => BdQ c (N + n) s (nmsOf (Cp.at_ c (es.map (·.1)))) w w' r := by
 have HX := mkC hx
 have HI := mkC h
 have HL : Hid (es.length = n) := hes.1
 have HST : Hid (BnS c db dof S k N s w p n cc es 0 (.slice none 0 0) w) := ⟨[], rfl, ⟨nil_own _ _ _ _, fun _ hu => by cases hu⟩, rfl, by simp, rfl, h, FrP.refl s w, hes⟩
 clear hx h hes
 go_enter Tryz.func98, Tryz.ntmps98
 go_wp2_with fail
 go_loopw [5, 12] (fun v iv wr => ∃ i : Nat, i ≤ n ∧ iv = .int .i64 (i : Nat) ∧ Hid (BnS c db dof S k N s w p n cc es i v wr)) (fun _ iv _ => n - (intOf iv).toNat)
 case atStart => exact ⟨0, Nat.zero_le _, rfl, HST.out⟩
 case round =>
  obtain ⟨i, hi, rfl, hS⟩ := hrel
  obtain ⟨bs, hbl, hbd, hnm, hnd, hsy, hpg, hfr, hes⟩ := hS.out
  by_cases hlt : i < n
  ·have hil : i < es.length := by rw [HL.out]; exact hlt
   obtain ⟨g, o, cur, rfl, hg, hcl⟩ := hes.2.2.1 (by omega)
   obtain ⟨y0, y1⟩ := hcl i hil
   have hgl := (Array.getElem?_eq_some_iff.1 hg).1
   have hncc := hes.2.1
   have hpt := hes.2.2.2 _ (List.getElem_mem hil)
   have hsp := es_split hil
   have hsn := es_snoc hil
   generalize es[i]'hil = e at y0 y1 hpt hsp hsn
   have hatT : Cp.at_ c (es.map (·.1)) = Cp.at_ c ((es.take i).map (·.1)) ++ c.ds.drop e.1 :: Cp.at_ c ((es.drop (i + 1)).map (·.1)) := by
    conv => lhs; rw [hsp]
    simp [Cp.at_]
   obtain ⟨so, sn, sc, hdv⟩ : ∃ so sn sc, e.2.1 = .slice (some ⟨db, so, none⟩) sn sc := ⟨_, _, _, hpt.ok.1⟩
   obtain ⟨ep, eN, eC, hev⟩ := hpt.row
   obtain ⟨W2, hW2⟩ : ∃ W2, W2 = wr.alloc (.cells #[.slice (some ⟨db, so, none⟩) sn sc, .slice ep eN eC] 102) := ⟨_, rfl⟩
   have hb2 : Below wr.heap.size wr W2 := by rw [hW2]; exact below1 _ _
   have hbc : Below c.w0.heap.size c.w0 W2 := hpg.bel.trans (hb2.mono hpg.bel.size)
   have HNM := mkC (name_c HX.out W2 hbc (hpt.below hb2))
   have HRG := mkC (nm_rg HX.out hpt)
   have HOK := mkC hpt.ok.2.1
   rw [hdv] at y0 HNM
   rw [hev] at y1 HNM
   have HW2 := mkC hW2
   have HB2 := mkC hb2
   obtain ⟨vp, vc, hvf⟩ : ∃ vp vc, u5 = .slice vp i vc := by
    have h1 := hbd.row
    rw [hbl] at h1
    exact owns_form h1
   subst hvf
   have HBC := mkC hbc
   have HBD := mkC hbd
   have HBL := mkC hbl
   have HPG := mkC hpg
   have HNMS := mkC hnm
   have hpb := (Array.getElem?_eq_some_iff.1 hpg.blk).1
   have HBAD : Hid (nmsOf (Cp.at_ c (es.map (·.1))) = none → ∀ w', Below c.w0.heap.size c.w0 w' → BdQ c (N + n) s (nmsOf (Cp.at_ c (es.map (·.1)))) w w' gramE) := fun hno w' hb' => by
    rw [hno]
    exact ⟨rfl, hb'⟩
   have HSTEP : Hid (∀ W5 w6 v6 vb, isSy (c.ds.drop e.1) = true → (bs.map (·.x)).contains (nm (c.ds.drop e.1)) = false → Below wr.heap.size wr W5 → wr.heap.size ≤ vb → VrI W5 ⟨vb, nm (c.ds.drop e.1)⟩ → w6.ownsRow w.heap.size 107 1 v6 (i + 1) (pvC bs ++ [.pointer (some ⟨vb, 0, none⟩)]) → Below w.heap.size W5 w6 → But W5 w6 (.slice vp i vc) → BnS c db dof S k N s w (some ⟨g, o, none⟩) n cc es (i + 1) v6 (w6.setCell ⟨s.pb, 3, none⟩ (.int .i64 (((s.lo + i : Nat) : Int) + 1)))) := fun W5 w6 v6 vb g1 g2 g3 g4 g5 g6 g7 g8 => BnS.step HI.out hbl hbd hnm hnd hsy hpg hfr hes hsn g1 HRG.out g2 g3 g4 g5 g6 g7 g8
   have HDUP : Hid ((bs.map (·.x)).contains (nm (c.ds.drop e.1)) = true → nmsOf (Cp.at_ c (es.map (·.1))) = none) := fun hc => by
    rw [hatT]
    refine nms_none_dup ?_
    rw [← hnm]
    exact List.contains_iff_mem.1 hc
   have HNSY : Hid (isSy (c.ds.drop e.1) = false → nmsOf (Cp.at_ c (es.map (·.1))) = none) := fun hc => by
    refine nms_none_sy (l := c.ds.drop e.1) ?_ hc
    rw [hatT]
    exact List.mem_append_right _ (List.mem_cons_self ..)
   have hbw : w.heap.size ≤ wr.heap.size := hfr.size
   clear hS hbl hbd hnm hnd hsy hpg hfr hes hcl hg hpt hsp hsn hatT hdv hev hb2 hW2 hbc
   have HCON : Hid (∀ w3, Below W2.heap.size W2 w3 → Calls Tryz.prog 153 #[.slice vp i vc, .func (.func 152) #[] #[.pointer (some ⟨w3.heap.size, 0, none⟩)]] (w3.alloc (.cells #[.string (strOfNums (nm (c.ds.drop e.1)))] 9)) fun r w' => r = .returned (.bool ((bs.map (·.x)).contains (nm (c.ds.drop e.1)))) ∧ Below (w3.alloc (.cells #[.string (strOfNums (nm (c.ds.drop e.1)))] 9)).heap.size (w3.alloc (.cells #[.string (strOfNums (nm (c.ds.drop e.1)))] 9)) w') := fun w3 hb3 => by
    have hb4 : Below wr.heap.size wr (w3.alloc (.cells #[.string (strOfNums (nm (c.ds.drop e.1)))] 9)) := (HB2.out.trans (hb3.mono HB2.out.size)).trans ((below1 _ _).mono (Nat.le_trans HB2.out.size hb3.size))
    exact containsFunc_c _ HRG.out _ vp i vc bs (by omega) _ (by simp) (by simp) ((HBD.out.vsr HBL.out).1.below hb4)
   have HB5 : Hid (∀ w3 w5, Below W2.heap.size W2 w3 → Below (w3.alloc (.cells #[.string (strOfNums (nm (c.ds.drop e.1)))] 9)).heap.size (w3.alloc (.cells #[.string (strOfNums (nm (c.ds.drop e.1)))] 9)) w5 → Below wr.heap.size wr w5 ∧ Below c.w0.heap.size c.w0 w5 ∧ w5.cell? ⟨w3.heap.size, 0, none⟩ = some (.string (strOfNums (nm (c.ds.drop e.1))))) := fun w3 w5 hb3 hb5 => by
    have hb4 : Below wr.heap.size wr (w3.alloc (.cells #[.string (strOfNums (nm (c.ds.drop e.1)))] 9)) := (HB2.out.trans (hb3.mono HB2.out.size)).trans ((below1 _ _).mono (Nat.le_trans HB2.out.size hb3.size))
    have hb6 := hb4.trans (hb5.mono hb4.size)
    exact ⟨hb6, HPG.out.bel.trans (hb6.mono HPG.out.bel.size), by rw [hb5.cell (p := ⟨w3.heap.size, 0, none⟩) (by simp)]; simp⟩
   by_cases hsyE : isSy (c.ds.drop e.1) = true
   ·have hne := nm_of_sy HOK.out hsyE
    have HSYE := mkC hsyE
    have t1 : ((strOfNums (nm (c.ds.drop e.1))).toList == []) = false := by
     rw [ByteArray.toList_eq, strOfNums_data]
     cases hq : nm (c.ds.drop e.1) with
     | nil => exact absurd hq hne
     | cons a r => rfl
    clear hne hsyE
    cases hcon : (bs.map (·.x)).contains (nm (c.ds.drop e.1)) with
    | true =>
     have HNO := mkC (HBAD.out (HDUP.out hcon))
     rw [hcon] at HCON
     generalize nm (c.ds.drop e.1) = x at HNM HCON HB5 t1
     generalize strOfNums x = st at HNM HCON HB5 t1
     clear hcon HDUP HNSY HSTEP
     go_wp2_with fail
     rw [← HW2.out]
     refine HNM.out.mono ?_
     rintro r w3 ⟨rfl, hb3⟩
     have HC := mkC (HCON.out w3 hb3)
     have HB5' := mkC (fun w5 => HB5.out w3 w5 hb3)
     clear hb3
     go_wp2_with fail
     refine HC.out.mono ?_
     rintro r w5 ⟨rfl, hb5⟩
     have HBB := mkC (HB5'.out w5 hb5).2.1
     clear hb5
     go_wp2_with fail
     refine (needGrammar_f w5).mono ?_
     rintro r w6 ⟨rfl, hw6⟩
     have hw6' := hw6.symm
     clear hw6
     subst hw6'
     exact ⟨rfl, HNO.out _ HBB.out⟩
    | false =>
     rw [hcon] at HCON
     have HST2 : Hid (∀ w5 w6 v6, Below wr.heap.size wr w5 → w6.ownsRow w.heap.size 107 1 v6 (i + 1) (pvC bs ++ [.pointer (some ⟨w5.heap.size, 0, none⟩)]) → Below w.heap.size (w5.alloc (.cells #[.string (strOfNums (nm (c.ds.drop e.1))), .int .i64 ((s.lo + i : Nat) : Int), .bool false, .bool false] 175)).drew w6 → But (w5.alloc (.cells #[.string (strOfNums (nm (c.ds.drop e.1))), .int .i64 ((s.lo + i : Nat) : Int), .bool false, .bool false] 175)).drew w6 (.slice vp i vc) → BnS c db dof S k N s w (some ⟨g, o, none⟩) n cc es (i + 1) v6 (w6.setCell ⟨s.pb, 3, none⟩ (.int .i64 (((s.lo + i : Nat) : Int) + 1))) ∧ w6.cell? ⟨s.pb, 3, none⟩ = some (.int .i64 ((s.lo + i : Nat) : Int)) ∧ w6.frozen? ⟨s.pb, 3, none⟩ = false) := fun w5 w6 v6 g3 g6 g7 g8 => by
      have g4 : Below wr.heap.size wr (w5.alloc (.cells #[.string (strOfNums (nm (c.ds.drop e.1))), .int .i64 ((s.lo + i : Nat) : Int), .bool false, .bool false] 175)).drew := below_drewC (g3.trans ((below1 _ _).mono g3.size))
      have q2 := (HPG.out.below g4).1.blk
      have q3 := (g8 _ (Array.getElem?_eq_some_iff.1 q2).1 (owns_ne (owns_below HBD.out.row g4) q2 (by decide))).trans q2
      exact ⟨HSTEP.out _ w6 v6 w5.heap.size HSYE.out hcon g4 g3.size ⟨_, _, _, Go.Deep.blk_alloc_new _ _⟩ g6 g7 g8, (cells6 q3).2.2.2.1, (cells6 q3).2.2.2.2.2.2 3⟩
     have HOW : Hid (∀ w5, Below wr.heap.size wr w5 → w5.ownsRow w.heap.size 107 1 (.slice vp i vc) i (pvC bs) ∧ w5.cell? ⟨s.pb, 3, none⟩ = some (.int .i64 ((s.lo + i : Nat) : Int)) ∧ s.pb < w5.heap.size ∧ w5.frozen? ⟨s.pb, 3, none⟩ = false) := fun w5 g => by
      have q := HBD.out.row
      rw [HBL.out] at q
      have q2 := (HPG.out.below g).1.blk
      exact ⟨owns_below q g, (cells6 q2).2.2.2.1, (Array.getElem?_eq_some_iff.1 q2).1, (cells6 q2).2.2.2.2.2.2 3⟩
     have hlo : s.lo + i ≤ 1000000000 := by have := HPG.out.len.2.2.2.2; have e1 : s.lo + i ≤ N + i := this; omega
     generalize nm (c.ds.drop e.1) = x at HNM HCON HB5 t1 HST2
     generalize strOfNums x = st at HNM HCON HB5 t1 HST2
     generalize s.lo + i = lo at HST2 HOW hlo
     clear hcon HDUP HNSY HSTEP HBAD
     go_wp2_with fail
     rw [← HW2.out]
     refine HNM.out.mono ?_
     rintro r w3 ⟨rfl, hb3⟩
     have HC := mkC (HCON.out w3 hb3)
     have HB5' := mkC (fun w5 => HB5.out w3 w5 hb3)
     clear hb3
     go_wp2_with fail
     refine HC.out.mono ?_
     rintro r w5 ⟨rfl, hb5⟩
     obtain ⟨hb6, _, hst5⟩ := HB5'.out w5 hb5
     obtain ⟨hrow5, hlo5, hpb5, hfz5⟩ := HOW.out w5 hb6
     have HRW := mkC hrow5
     have HS5 := mkC (fun w6 v6 => HST2.out w5 w6 v6 hb6)
     have hbw5 : w.heap.size ≤ w5.heap.size := Nat.le_trans hbw hb6.size
     clear hb5 hb6 hrow5
     go_wp2_with fail
     refine (needGrammar_t w5).mono ?_
     rintro r w6 ⟨⟨u, rfl⟩, hw6⟩
     have hw6' := hw6.symm
     clear hw6
     subst hw6'
     clear HC HB5' HOW HST2 HCON HB5 HNM
     have HRD : Hid ((w5.alloc (.cells #[.string st, .int .i64 (lo : Int), .bool false, .bool false] 175)).drew.ownsRow w.heap.size 107 1 (.slice vp i vc) i (pvC bs)) := owns_below HRW.out (below_drewC (below1 _ _))
     have hBd : w.heap.size ≤ (w5.alloc (.cells #[.string st, .int .i64 (lo : Int), .bool false, .bool false] 175)).drew.heap.size := Nat.le_trans hbw5 (below_drewC (below1 w5 (.cells #[.string st, .int .i64 (lo : Int), .bool false, .bool false] 175))).size
     clear HRW
     go_wp2_with fail
     go_region_law (refine appW_stepC (w5.alloc (.cells #[.string st, .int .i64 (lo : Int), .bool false, .bool false] 175)).drew rfl (.tmp 28) (.tmp 36) 56 107 rfl _ 1 8 Tryz.underlying56 infoPv rfl (by decide) w.heap.size (.slice vp i vc) i (pvC bs) ?hs HRD.out #[.pointer (some ⟨w5.heap.size, 0, none⟩)] rfl (by simp [Value.oneCell']) ?hx (by unfold maxLen; omega) (by omega) hBd ?_; (case hs => first | (simp [Act.eval]; done) | (simp [Act.eval, Act.put]; done)); (case hx => first | (simp [Act.eval]; done) | (simp [Act.eval, Act.put]; done)); intro p6 c6 w6 ho6 hb6 hbt6 hloc6; have HFI := mkC (HS5.out w6 _ ho6 hb6 hbt6).1; have z3 := (HS5.out w6 _ ho6 hb6 hbt6).2.1; have zf := (HS5.out w6 _ ho6 hb6 hbt6).2.2; clear ho6 hb6 hbt6 hloc6)
     all_goals go_wp2_with fail
     all_goals exact ⟨⟨i + 1, by omega, by go_num, HFI.out⟩, by simp [intOf]; omega⟩
   ·have hnn : nm (c.ds.drop e.1) = [] := Classical.byContradiction (fun hne => hsyE (sy_of_nm HOK.out hne))
    have HNO := mkC (HBAD.out (HNSY.out (by simpa using hsyE)))
    rw [hnn] at HNM
    have t1 : ((strOfNums []).toList == []) = true := by rw [ByteArray.toList_eq, strOfNums_data]; rfl
    have HBB : Hid (∀ w3 a, Below W2.heap.size W2 w3 → Below c.w0.heap.size c.w0 (w3.alloc a)) := fun w3 a hb3 => by
     have hb4 := HBC.out.trans (hb3.mono HBC.out.size)
     exact hb4.trans ((below1 _ _).mono hb4.size)
    generalize strOfNums [] = st at HNM t1
    clear hnn hsyE HDUP HNSY HSTEP HBAD HCON HB5
    go_wp2_with fail
    rw [← HW2.out]
    refine HNM.out.mono ?_
    rintro r w3 ⟨rfl, hb3⟩
    have HB3 := mkC (fun a => HBB.out w3 a hb3)
    clear hb3
    go_wp2_with fail
    refine (needGrammar_f _).mono ?_
    rintro r w6 ⟨rfl, hw6⟩
    have hw6' := hw6.symm
    clear hw6
    subst hw6'
    exact ⟨rfl, HNO.out _ (HB3.out _)⟩
  ·have hin_ : i = n := by omega
   subst hin_
   have HF : Hid (BdQ c (N + i) s (nmsOf (Cp.at_ c (es.map (·.1)))) w wr (.returned u5)) := by
    have ht : es.take i = es := List.take_of_length_le (by rw [HL.out]; exact Nat.le_refl _)
    rw [ht] at hnm hsy
    unfold Hid
    rw [nms_some hsy (by rw [← hnm]; exact hnd)]
    exact ⟨u5, bs, _, rfl, hbd, hnm, hpg, hfr, ⟨rfl, rfl, rfl, rfl, rfl, rfl, rfl, rfl, rfl⟩, rfl⟩
   clear hS hbl hbd hnm hnd hsy hpg hfr hes
   go_wp2_with fail
   go_ret
   exact HF.out
structure FrX (X : Nat → Prop) (s s' : Sg) (w w' : World) : Prop where
 size : w.heap.size ≤ w'.heap.size
 keep : ∀ k, k < w.heap.size → ¬ Fq s k → ¬ X k → w'.heap[k]? = w.heap[k]?
 foot : ∀ k, Fq s' k → Fq s k ∨ X k ∨ w.heap.size ≤ k
theorem FrP.x {s s' : Sg} {w w' : World} (h : FrP s s' w w') (X : Nat → Prop) : FrX X s s' w w' := ⟨h.size, fun k hk hn _ => h.keep k hk hn, fun k hk => (h.foot k hk).elim Or.inl (fun h => Or.inr (Or.inr h))⟩
theorem FrX.trans {X Y : Nat → Prop} {s1 s2 s3 : Sg} {w1 w2 w3 : World} (h : FrX X s1 s2 w1 w2) (k : FrX Y s2 s3 w2 w3) : FrX (fun j => X j ∨ Y j) s1 s3 w1 w3 :=
 ⟨Nat.le_trans h.size k.size, fun i hi hn hx => (k.keep i (Nat.lt_of_lt_of_le hi h.size) (fun hf => by
   rcases h.foot i hf with h1 | h1 | h1
   ·exact hn h1
   ·exact hx (Or.inl h1)
   ·omega) (fun h1 => hx (Or.inr h1))).trans (h.keep i hi hn (fun h1 => hx (Or.inl h1))), fun i hi => by
  rcases k.foot i hi with h1 | h1 | h1
  ·rcases h.foot i h1 with h2 | h2 | h2
   ·exact Or.inl h2
   ·exact Or.inr (Or.inl (Or.inl h2))
   ·exact Or.inr (Or.inr h2)
  ·exact Or.inr (Or.inl (Or.inr h1))
  ·exact Or.inr (Or.inr (Nat.le_trans h.size h1))⟩
theorem FrP.then_x {X : Nat → Prop} {s1 s2 s3 : Sg} {w1 w2 w3 : World} (h : FrP s1 s2 w1 w2) (k : FrX X s2 s3 w2 w3) (hx : ∀ j, X j → w1.heap.size ≤ j) : FrP s1 s3 w1 w3 := by
 have t := (h.x X).trans k
 exact ⟨t.size, fun i hi hn => t.keep i hi hn (fun h1 => by
  have := h1.elim (hx i) (hx i)
  omega), fun i hi => (t.foot i hi).elim Or.inl (fun h1 => Or.inr (h1.elim (fun h2 => h2.elim (hx i) (hx i)) id))⟩
def RdX (c : Cx) (N : Nat) (X : Nat → Prop) (s : Sg) (o : Option (List (List Int))) (w w' : World) (r : Ending) : Prop := match o with
 | none => r = gramE ∧ Below c.w0.heap.size c.w0 w'
 | some ns => ∃ (u : Value) (s' : Sg), r = .returned u ∧ PgI c N w' s' ∧ FrX X s s' w w' ∧ SmP s s' ∧ s'.ub = s.ub ++ ns
def Bb (bs : List Pv) (k : Nat) : Prop := ∃ v ∈ bs, k = v.b
theorem PgI.setSc {c : Cx} {N M : Nat} {w w1 : World} {s : Sg} (h : PgI c N w s) {v' : Value} {sc' : List Pv} (hM : N ≤ M) (hl : sc'.length ≤ M) (hvr : ∀ v ∈ sc', VrI w v ∧ c.w0.heap.size ≤ v.b ∧ Rg v.x) (ho : w1.ownsRow c.w0.heap.size 107 1 v' sc'.length (pvC sc')) (hb : Below c.w0.heap.size w w1) (hbt : ∀ k, k < w.heap.size → s.scv.ownBlock ≠ some k → w1.heap[k]? = w.heap[k]?) :
  PgI c M (w1.setCell ⟨s.pb, 2, none⟩ v') { s with scv := v', sc := sc' } := by
 have hab := (Array.getElem?_eq_some_iff.1 h.blk).1
 have hab1 : w1.heap[s.pb]? = some _ := (hbt _ hab (fun e => owns_ne h.sco h.blk (by decide) e.symm)).trans h.blk
 have hch : ∀ k, k < w.heap.size → k ≠ s.pb → s.scv.ownBlock ≠ some k → (w1.setCell ⟨s.pb, 2, none⟩ v').heap[k]? = w.heap[k]? := fun k hk h1 h2 => (set_keep v' h1).trans (hbt k hk h2)
 have hob : ∀ {k : Nat} {o : Obj}, w.heap[k]? = some o → (∀ a, o ≠ .cells a 59) → (∀ a, o ≠ .cells a 107) → (w1.setCell ⟨s.pb, 2, none⟩ v').heap[k]? = some o := fun {k o} hk h1 h2 => by
  refine (hch k (Array.getElem?_eq_some_iff.1 hk).1 (fun e => ?_) (fun e => ?_)).trans hk
  ·rw [e, h.blk] at hk
   exact h1 _ (Option.some.inj hk).symm
  ·obtain ⟨_, cur, hc⟩ := owns_lt h.sco k e
   rw [hc] at hk
   exact h2 _ (Option.some.inj hk).symm
 have row : ∀ {n size : Nat} {e : TypeId} {v : Value} {xs : List Value}, w.ownsRow c.w0.heap.size e size v n xs → e ≠ 107 → e ≠ 59 → (w1.setCell ⟨s.pb, 2, none⟩ v').ownsRow c.w0.heap.size e size v n xs := fun hr h9 hp => owns_of_heap hr (fun j hj => by
  obtain ⟨_, cur, hc⟩ := owns_lt hr j hj
  rw [hc]
  exact hob hc (fun a e => by cases e; exact hp rfl) (fun a e => by cases e; exact h9 rfl))
 refine ⟨h.bel.trans (Below.setCell hb (p := ⟨s.pb, 2, none⟩) h.pb0 v'), h.pb0, (set_pg hab1 v').1, ?_, ?_, h.gm0, h.nd, fun v hv => ?_, owns_set ho hab1 (by decide) v', row h.ubo (by decide) (by decide), h.ubr, row h.fmo (by decide) (by decide), ?_⟩
 ·obtain ⟨es, clk, h1, h2⟩ := h.wor
  exact ⟨es, clk, hob h1 (fun a e => by cases e) (fun a e => by cases e), h2⟩
 ·obtain ⟨es, clk, h1, h2⟩ := h.glo
  exact ⟨es, clk, hob h1 (fun a e => by cases e) (fun a e => by cases e), h2⟩
 ·have hv2 : VrI w v ∧ c.w0.heap.size ≤ v.b ∧ Rg v.x := by
   have hv' : v ∈ s.gls ++ sc' := hv
   rcases List.mem_append.1 hv' with h1 | h1
   ·exact h.vrs v (List.mem_append_left _ h1)
   ·exact hvr v h1
  obtain ⟨⟨n, g, bx, h1⟩, h2⟩ := hv2
  exact ⟨⟨n, g, bx, hob h1 (fun a e => by cases e) (fun a e => by cases e)⟩, h2⟩
 ·have h1 := (h.mono hM).len
  exact ⟨h1.1, hl, h1.2.2.1, h1.2.2.2.1, h1.2.2.2.2⟩
theorem appRow_k (w : World) {ops : Array Oper} {rest : List Oper} {o : Oper} {a : Act} {Q : Exit → Act → World → Prop} (hgd : o.guard = none) (s x : Operand)
  (ho : o.op = .call { callee := .builtin .append, args := #[s, x], argTypes := #[56, 56] })
  (B : Nat) (v : Value) (n : Nat) (xs : List Value) (hs : a.eval s = v) (hown : w.ownsRow B 107 1 v n xs) (B2 : Nat) (u : Value) (m : Nat) (ys : List Value) (hx : a.eval x = u) (hou : w.ownsRow B2 107 1 u m ys) (h1 : ∀ y ∈ ys, y.oneCell' = true)
  (hlen : n + m ≤ 1000000000) (hB : B ≤ w.heap.size)
  (h : ∀ p' c' w', w'.ownsRow B 107 1 (.slice p' (n + m) c') (n + m) (xs ++ ys) → Below B w w' → But w w' v → (v = .slice p' n c' ∨ ((Value.slice p' (n + m) c').ownBlock = some w.heap.size ∧ Below w.heap.size w w')) → wpList Tryz.prog ops Q rest (a.put o.dst (.slice p' (n + m) c')) w') : wpList Tryz.prog ops Q (o :: rest) a w := by
 obtain ⟨i, hi', hpr⟩ := Option.map_eq_some_iff.1 infoPv
 simp only [Prod.mk.injEq] at hpr
 have hou' := hou
 obtain ⟨hyl, ⟨rfl, h0⟩ | ⟨g, cap, cur, rfl, hg, hh, _⟩⟩ := hou'
 ·subst h0
  obtain rfl : ys = [] := List.eq_nil_of_length_eq_zero hyl
  obtain ⟨p, k, hv⟩ := owns_form hown
  refine wpList_append_own_none hgd s x 56 ho B 107 i 1 Tryz.underlying56 hi' v n xs hs hown hx ?_
  subst hv
  refine h p k w (by rw [List.append_nil]; exact hown) (Below.refl _ _) (fun _ _ _ => rfl) (Or.inl rfl)
 ·refine wpList_plain hgd fun K hK => ?_
  obtain ⟨v', w', hr, h2, h3, h4⟩ := run_appendK (w := w) 56 o.type 107 i _ 1 8 B Tryz.underlying56 hi' hpr.1 hpr.2.1 hpr.2.2 rfl (by decide) v n xs hown ⟨g, 0, none⟩ m cap ys hyl (hou.cells (g := g) rfl) h1 (by unfold maxLen; omega) (by omega) hB
  unfold Oper.wp execOp
  simp only [ho, resolve, invoke, builtin, Sem.run_bind, Sem.run_pure, Result.andThen_ok, List.map_toArray, List.map_cons, List.map_nil, hs, hx, hr]
  obtain ⟨p', c', hv'⟩ := owns_form h2
  have hbel : Below B w w' := (Below.refl _ _).grown h3 hB (owns_ge hown)
  subst hv'
  have := h p' c' w' h2 hbel (fun k hk hne => h3.block k hk hne) (by
   rcases h4 with ⟨p, k, e1, e2⟩ | h4
   ·cases e2
    exact Or.inl e1
   ·exact Or.inr h4)
  exact hK _ _ this
theorem pvC_one (bs : List Pv) : ∀ y ∈ pvC bs, y.oneCell' = true := by
 intro y hy
 obtain ⟨v, _, rfl⟩ := List.mem_map.1 hy
 simp [Value.oneCell']
def IsQ (c : Cx) (M : Nat) (X : Nat → Prop) (s : Sg) (bs : List Pv) (o : Option (List (List Int))) (w W' : World) (r : Ending) : Prop := match o with
 | none => r = gramE ∧ Below c.w0.heap.size c.w0 W'
 | some ns => (∃ u, r = .returned u) ∧ (∃ (a0 a1 : Value) (a2 : Option Addr) (a3 a4 : Nat) (a5 : Value × Value × Value), W'.heap[s.pb]? = some (.cells #[a0, a1, .slice a2 a3 a4, a5.1, a5.2.1, a5.2.2] 59)) ∧ ∀ u', RdX c M (fun k => Bb bs k ∨ X k) s (some ns) w (W'.setCell ⟨s.pb, 2, none⟩ s.scv) (.returned u')
theorem inScope_in {c : Cx} {N M n cc B L scc c3 : Nat} {s : Sg} {w w3 : World} {p sp p3 : Option Addr} {bs : List Pv} {o : Option (List (List Int))} {X : Nat → Prop} {f : FuncId} {args : Array Value} (h : PgI c N w s) (hsv : s.scv = .slice sp L scc) (hL : s.sc.length = L) (hb : BdI B w (.slice p n cc) bs) (hbl : bs.length = n) (hB0 : c.w0.heap.size ≤ B) (hX : ∀ k, X k → s.scv.ownBlock ≠ some k)
  (H : ∀ W s1, PgI c (N + n) W s1 → FrX (Bb bs) s s1 w W → s1.pb = s.pb → s1.gls = s.gls → s1.sc = s.sc ++ bs → s1.ub = s.ub → Calls Tryz.prog f args W (fun r W' => RdX c M X s1 o W W' r))
  (ho : w3.ownsRow c.w0.heap.size 107 1 (.slice p3 (L + n) c3) (L + n) (pvC s.sc ++ pvC bs)) (hb3 : Below c.w0.heap.size w w3) (hbt : But w w3 (.slice sp L scc)) (halt : Value.slice sp L scc = .slice p3 L c3 ∨ ((Value.slice p3 (L + n) c3).ownBlock = some w.heap.size ∧ Below w.heap.size w w3)) :
  Calls Tryz.prog f args (w3.setCell ⟨s.pb, 2, none⟩ (.slice p3 (L + n) c3)) (fun r W' => IsQ c M X s bs o w W' r) := by
 have hbl2 : (s.sc ++ bs).length = L + n := by rw [List.length_append, hL, hbl]
 have hLN : L ≤ N := by rw [← hL]; exact h.len.2.1
 have hbt' : ∀ k, k < w.heap.size → s.scv.ownBlock ≠ some k → w3.heap[k]? = w.heap[k]? := fun k hk hne => hbt k hk (fun e => hne (by rw [hsv]; exact e.symm))
 have h1 : PgI c (N + n) (w3.setCell ⟨s.pb, 2, none⟩ (.slice p3 (L + n) c3)) { s with scv := .slice p3 (L + n) c3, sc := s.sc ++ bs } := by
  refine h.setSc (by omega) (by rw [hbl2]; omega) (fun v hv => ?_) (by rw [hbl2, pvC_app]; exact ho) hb3 hbt'
  rcases List.mem_append.1 hv with hv | hv
  ·exact h.vrs v (List.mem_append_right _ hv)
  ·exact ⟨(hb.vrs v hv).1, Nat.le_trans hB0 (hb.vrs v hv).2.1, (hb.vrs v hv).2.2⟩
 have h2 : FrX (Bb bs) s { s with scv := .slice p3 (L + n) c3, sc := s.sc ++ bs } w (w3.setCell ⟨s.pb, 2, none⟩ (.slice p3 (L + n) c3)) := by
  refine ⟨by rw [set_size]; exact hb3.size, fun k hk hn _ => (set_keep _ (fun e => hn (Or.inl e))).trans (hbt' k hk (fun e => hn (Or.inr (Or.inr (Or.inl e))))), fun k hk => ?_⟩
  rcases hk with hk | hk | hk | hk | hk | ⟨v, hv, hk⟩
  ·exact Or.inl (Or.inl hk)
  ·exact Or.inl (Or.inr (Or.inl hk))
  ·rcases halt with e | ⟨e, _⟩
   ·refine Or.inl (Or.inr (Or.inr (Or.inl ?_)))
    have hk' : (Value.slice p3 (L + n) c3).ownBlock = some k := hk
    rw [hsv, e]
    cases p3 with
    | none => cases hk'
    | some a => exact hk'
   ·have hk' : (Value.slice p3 (L + n) c3).ownBlock = some k := hk
    rw [e] at hk'
    cases hk'
    exact Or.inr (Or.inr (Nat.le_refl _))
  ·exact Or.inl (Or.inr (Or.inr (Or.inr (Or.inl hk))))
  ·exact Or.inl (Or.inr (Or.inr (Or.inr (Or.inr (Or.inl hk)))))
  ·have hv' : v ∈ s.gls ++ (s.sc ++ bs) := hv
   rw [← List.append_assoc] at hv'
   rcases List.mem_append.1 hv' with hv' | hv'
   ·exact Or.inl (Or.inr (Or.inr (Or.inr (Or.inr (Or.inr ⟨v, hv', hk⟩)))))
   ·exact Or.inr (Or.inl ⟨v, hv', hk⟩)
 refine (H _ _ h1 h2 rfl rfl rfl rfl).mono ?_
 intro r W' hr
 cases o with
 | none => exact hr
 | some ns =>
  obtain ⟨u, s2, rfl, g1, g2, g3, g4⟩ := hr
  have hs2v : s2.scv = .slice p3 (L + n) c3 := g3.scv
  have hs2c : s2.sc = s.sc ++ bs := g3.sc
  have hpb : s2.pb = s.pb := g3.pb
  have hsc : W'.ownsRow c.w0.heap.size 107 1 (.slice sp L scc) L (pvC s.sc) := by
   rcases halt with e | ⟨e, hbn⟩
   ·cases e
    have q := g1.sco
    rw [hs2v, hs2c, hbl2] at q
    have q2 := owns_cut q (k := L) (by omega)
    rw [Nat.mul_one, pvC_app, List.take_left' (by rw [pvC_len, hL])] at q2
    exact q2
   ·have q := h.sco
    rw [hsv, hL] at q
    refine owns_of_heap q (fun j hj => ?_)
    obtain ⟨hjl, cur, hc⟩ := owns_lt q j hj
    have e1 : (w3.setCell ⟨s.pb, 2, none⟩ (.slice p3 (L + n) c3)).heap[j]? = w.heap[j]? := (set_keep _ (fun e' => by
     rw [e', h.blk] at hc
     cases hc)).trans (hbn.block j hjl)
    have e2 : ¬ Fq { s with scv := .slice p3 (L + n) c3, sc := s.sc ++ bs } j := h1.not_fqV (e1.trans hc) (fun e' => by
     have e'' : (Value.slice p3 (L + n) c3).ownBlock = some j := e'
     rw [e] at e''
     cases e''
     exact Nat.lt_irrefl _ hjl)
    exact (g2.keep j (Nat.lt_of_lt_of_le hjl h2.size) e2 (fun hx => hX j hx (by rw [hsv]; exact hj))).trans e1
  have hlen := g1.len.2.1
  rw [hs2c, hbl2] at hlen
  have hfin : PgI c M (W'.setCell ⟨s2.pb, 2, none⟩ s.scv) { s2 with scv := s.scv, sc := s.sc } := by
   refine g1.setSc (Nat.le_refl _) (by rw [hL]; omega) (fun v hv => g1.vrs v (List.mem_append_right _ (by rw [hs2c]; exact List.mem_append_left _ hv))) (by rw [hsv, hL]; exact hsc) (Below.refl _ _) (fun _ _ _ => rfl)
  rw [hpb] at hfin
  have hblk := g1.blk
  rw [hpb, hs2v] at hblk
  refine ⟨⟨u, rfl⟩, ⟨_, _, _, _, _, (_, _, _), hblk⟩, fun u' => ⟨u', _, rfl, hfin, ?_, ⟨rfl, g3.wm, g3.gm, g3.gls, rfl, rfl, g3.fmv, g3.fmn, g3.fm⟩, g4⟩⟩
  have t := h2.trans g2
  refine ⟨by rw [set_size]; exact t.size, fun k hk hn hx => (set_keep _ (fun e => hn (Or.inl e))).trans (t.keep k hk hn hx), fun k hk => ?_⟩
  rcases hk with hk | hk | hk | hk | hk | ⟨v, hv, hk⟩
  ·exact Or.inl (Or.inl hk)
  ·exact Or.inl (Or.inr (Or.inl (hk.trans g3.gm)))
  ·exact Or.inl (Or.inr (Or.inr (Or.inl hk)))
  ·exact t.foot k (Or.inr (Or.inr (Or.inr (Or.inl hk))))
  ·exact t.foot k (Or.inr (Or.inr (Or.inr (Or.inr (Or.inl hk)))))
  ·have hv' : v ∈ s2.gls ++ s.sc := hv
   rw [show s2.gls = s.gls from g3.gls] at hv'
   exact Or.inl (Or.inr (Or.inr (Or.inr (Or.inr (Or.inr ⟨v, hv', hk⟩)))))
set_option maxRecDepth 20000 in
set_option maxHeartbeats 2000000 in
theorem inScopeL_c {c : Cx} {N M : Nat} {s : Sg} (w : World) (p : Option Addr) (n cc : Nat) (bs : List Pv) (B b0 b1 b2 : Nat) (o : Option (List (List Int))) (X : Nat → Prop) (h : PgI c N w s) (hb : BdI B w (.slice p n cc) bs) (hbl : bs.length = n) (hB0 : c.w0.heap.size ≤ B) (hn : N + n ≤ 1000000000) (hX : ∀ k, X k → s.scv.ownBlock ≠ some k)
  (H : ∀ W s1, PgI c (N + n) W s1 → FrX (Bb bs) s s1 w W → s1.pb = s.pb → s1.gls = s.gls → s1.sc = s.sc ++ bs → s1.ub = s.ub → Calls Tryz.prog 100 #[.pointer (some ⟨b0, 0, none⟩), .pointer (some ⟨b1, 0, none⟩), .pointer (some ⟨b2, 0, none⟩)] W (fun r W' => RdX c M X s1 o W W' r)) :
  Calls Tryz.prog 99 #[.pointer (some ⟨s.pb, 0, none⟩), .slice p n cc, .func (.func 100) #[] #[.pointer (some ⟨b0, 0, none⟩), .pointer (some ⟨b1, 0, none⟩), .pointer (some ⟨b2, 0, none⟩)]] w fun r w' => RdX c M (fun k => Bb bs k ∨ X k) s o w w' r := by
 obtain ⟨sp, scc, hsv⟩ := owns_form h.sco
 obtain ⟨L, hL⟩ : ∃ L, s.sc.length = L := ⟨_, rfl⟩
 rw [hL] at hsv
 have e2 := (cells6 h.blk).2.2.1
 have hfz := (cells6 h.blk).2.2.2.2.2.2
 rw [hsv] at e2
 have HIN : Hid (∀ p3 c3 w3, w3.ownsRow c.w0.heap.size 107 1 (.slice p3 (L + n) c3) (L + n) (pvC s.sc ++ pvC bs) → Below c.w0.heap.size w w3 → But w w3 (.slice sp L scc) → (Value.slice sp L scc = .slice p3 L c3 ∨ ((Value.slice p3 (L + n) c3).ownBlock = some w.heap.size ∧ Below w.heap.size w w3)) → Calls Tryz.prog 100 #[.pointer (some ⟨b0, 0, none⟩), .pointer (some ⟨b1, 0, none⟩), .pointer (some ⟨b2, 0, none⟩)] (w3.setCell ⟨s.pb, 2, none⟩ (.slice p3 (L + n) c3)) (fun r W' => IsQ c M X s bs o w W' r)) := fun p3 c3 w3 k1 k2 k3 k4 => inScope_in h hsv hL hb hbl hB0 hX H k1 k2 k3 k4
 have HOW : Hid (w.ownsRow c.w0.heap.size 107 1 (.slice sp L scc) L (pvC s.sc)) := by unfold Hid; have q := h.sco; rw [hsv, hL] at q; exact q
 have HOU : Hid (w.ownsRow B 107 1 (.slice p n cc) n (pvC bs)) := by unfold Hid; have q := hb.row; rw [hbl] at q; exact q
 have HBK := mkC h.blk
 have hB1 : c.w0.heap.size ≤ w.heap.size := h.bel.size
 have hLN : L ≤ N := by rw [← hL]; exact h.len.2.1
 have HSV := mkC hsv
 clear h hsv hb hbl hB0 hX H hL
 go_enter Tryz.func99, Tryz.ntmps99
 go_upto_region 2 with (at_builtin; refine appRow_k w rfl (.tmp 15) (.tmp 16) rfl c.w0.heap.size (.slice sp L scc) L (pvC s.sc) (by simp [Act.eval]) HOW.out B (.slice p n cc) n (pvC bs) (by simp [Act.eval]) HOU.out (pvC_one bs) (by omega) hB1 ?_; intro p3 c3 w3 ho hb3 hbt halt; have HC := mkC (HIN.out p3 c3 w3 ho hb3 hbt halt); have q2 := (cells6 ((hbt _ (Array.getElem?_eq_some_iff.1 HBK.out).1 (owns_ne HOW.out HBK.out (by decide))).trans HBK.out)).2.2.1; have qf := (cells6 ((hbt _ (Array.getElem?_eq_some_iff.1 HBK.out).1 (owns_ne HOW.out HBK.out (by decide))).trans HBK.out)).2.2.2.2.2.2; clear ho hb3 hbt halt e2 hfz)
 obtain ⟨W4, hW4⟩ : ∃ W4, W4 = w3.setCell ⟨s.pb, 2, none⟩ (.slice p3 (L + n) c3) := ⟨_, rfl⟩
 rw [← hW4] at HC ⊢
 clear hW4 q2 qf HIN
 go_wp2_with fail
 refine HC.out.mono ?_
 intro r W' hr
 cases o with
 | none =>
  obtain ⟨rfl, hb3⟩ := hr
  exact ⟨rfl, rfl, hb3⟩
 | some ns =>
  obtain ⟨⟨u, rfl⟩, ⟨a0, a1, a2, a3, a4, a5, hbk⟩, hfin⟩ := hr
  have z2 := (cells6 hbk).2.2.1
  have zf := (cells6 hbk).2.2.2.2.2.2
  rw [HSV.out] at hfin
  have HF := mkC hfin
  clear hbk hfin
  go_wp2_with fail
  go_end0
  exact HF.out _
set_option maxRecDepth 20000 in
set_option maxHeartbeats 2000000 in
theorem inScopeT_c {c : Cx} {N M : Nat} {s : Sg} (w : World) (p : Option Addr) (n cc : Nat) (bs : List Pv) (B b0 b1 b2 : Nat) (o : Option (List (List Int))) (X : Nat → Prop) (h : PgI c N w s) (hb : BdI B w (.slice p n cc) bs) (hbl : bs.length = n) (hB0 : c.w0.heap.size ≤ B) (hn : N + n ≤ 1000000000) (hX : ∀ k, X k → s.scv.ownBlock ≠ some k)
  (H : ∀ W s1, PgI c (N + n) W s1 → FrX (Bb bs) s s1 w W → s1.pb = s.pb → s1.gls = s.gls → s1.sc = s.sc ++ bs → s1.ub = s.ub → Calls Tryz.prog 107 #[.pointer (some ⟨b0, 0, none⟩), .pointer (some ⟨b1, 0, none⟩), .pointer (some ⟨b2, 0, none⟩)] W (fun r W' => RdX c M X s1 o W W' r)) :
  Calls Tryz.prog 99 #[.pointer (some ⟨s.pb, 0, none⟩), .slice p n cc, .func (.func 107) #[] #[.pointer (some ⟨b0, 0, none⟩), .pointer (some ⟨b1, 0, none⟩), .pointer (some ⟨b2, 0, none⟩)]] w fun r w' => RdX c M (fun k => Bb bs k ∨ X k) s o w w' r := by
 obtain ⟨sp, scc, hsv⟩ := owns_form h.sco
 obtain ⟨L, hL⟩ : ∃ L, s.sc.length = L := ⟨_, rfl⟩
 rw [hL] at hsv
 have e2 := (cells6 h.blk).2.2.1
 have hfz := (cells6 h.blk).2.2.2.2.2.2
 rw [hsv] at e2
 have HIN : Hid (∀ p3 c3 w3, w3.ownsRow c.w0.heap.size 107 1 (.slice p3 (L + n) c3) (L + n) (pvC s.sc ++ pvC bs) → Below c.w0.heap.size w w3 → But w w3 (.slice sp L scc) → (Value.slice sp L scc = .slice p3 L c3 ∨ ((Value.slice p3 (L + n) c3).ownBlock = some w.heap.size ∧ Below w.heap.size w w3)) → Calls Tryz.prog 107 #[.pointer (some ⟨b0, 0, none⟩), .pointer (some ⟨b1, 0, none⟩), .pointer (some ⟨b2, 0, none⟩)] (w3.setCell ⟨s.pb, 2, none⟩ (.slice p3 (L + n) c3)) (fun r W' => IsQ c M X s bs o w W' r)) := fun p3 c3 w3 k1 k2 k3 k4 => inScope_in h hsv hL hb hbl hB0 hX H k1 k2 k3 k4
 have HOW : Hid (w.ownsRow c.w0.heap.size 107 1 (.slice sp L scc) L (pvC s.sc)) := by unfold Hid; have q := h.sco; rw [hsv, hL] at q; exact q
 have HOU : Hid (w.ownsRow B 107 1 (.slice p n cc) n (pvC bs)) := by unfold Hid; have q := hb.row; rw [hbl] at q; exact q
 have HBK := mkC h.blk
 have hB1 : c.w0.heap.size ≤ w.heap.size := h.bel.size
 have hLN : L ≤ N := by rw [← hL]; exact h.len.2.1
 have HSV := mkC hsv
 clear h hsv hb hbl hB0 hX H hL
 go_enter Tryz.func99, Tryz.ntmps99
 go_upto_region 2 with (at_builtin; refine appRow_k w rfl (.tmp 15) (.tmp 16) rfl c.w0.heap.size (.slice sp L scc) L (pvC s.sc) (by simp [Act.eval]) HOW.out B (.slice p n cc) n (pvC bs) (by simp [Act.eval]) HOU.out (pvC_one bs) (by omega) hB1 ?_; intro p3 c3 w3 ho hb3 hbt halt; have HC := mkC (HIN.out p3 c3 w3 ho hb3 hbt halt); have q2 := (cells6 ((hbt _ (Array.getElem?_eq_some_iff.1 HBK.out).1 (owns_ne HOW.out HBK.out (by decide))).trans HBK.out)).2.2.1; have qf := (cells6 ((hbt _ (Array.getElem?_eq_some_iff.1 HBK.out).1 (owns_ne HOW.out HBK.out (by decide))).trans HBK.out)).2.2.2.2.2.2; clear ho hb3 hbt halt e2 hfz)
 obtain ⟨W4, hW4⟩ : ∃ W4, W4 = w3.setCell ⟨s.pb, 2, none⟩ (.slice p3 (L + n) c3) := ⟨_, rfl⟩
 rw [← hW4] at HC ⊢
 clear hW4 q2 qf HIN
 go_wp2_with fail
 refine HC.out.mono ?_
 intro r W' hr
 cases o with
 | none =>
  obtain ⟨rfl, hb3⟩ := hr
  exact ⟨rfl, rfl, hb3⟩
 | some ns =>
  obtain ⟨⟨u, rfl⟩, ⟨a0, a1, a2, a3, a4, a5, hbk⟩, hfin⟩ := hr
  have z2 := (cells6 hbk).2.2.1
  have zf := (cells6 hbk).2.2.2.2.2.2
  rw [HSV.out] at hfin
  have HF := mkC hfin
  clear hbk hfin
  go_wp2_with fail
  go_end0
  exact HF.out _
set_option maxRecDepth 20000 in
set_option maxHeartbeats 2000000 in
theorem inScopeR_c {c : Cx} {N M : Nat} {s : Sg} (w : World) (p : Option Addr) (n cc : Nat) (bs : List Pv) (B b0 b1 b2 b3 b4 : Nat) (o : Option (List (List Int))) (X : Nat → Prop) (h : PgI c N w s) (hb : BdI B w (.slice p n cc) bs) (hbl : bs.length = n) (hB0 : c.w0.heap.size ≤ B) (hn : N + n ≤ 1000000000) (hX : ∀ k, X k → s.scv.ownBlock ≠ some k)
  (H : ∀ W s1, PgI c (N + n) W s1 → FrX (Bb bs) s s1 w W → s1.pb = s.pb → s1.gls = s.gls → s1.sc = s.sc ++ bs → s1.ub = s.ub → Calls Tryz.prog 112 #[.pointer (some ⟨b0, 0, none⟩), .pointer (some ⟨b1, 0, none⟩), .pointer (some ⟨b2, 0, none⟩), .pointer (some ⟨b3, 0, none⟩), .pointer (some ⟨b4, 0, none⟩)] W (fun r W' => RdX c M X s1 o W W' r)) :
  Calls Tryz.prog 99 #[.pointer (some ⟨s.pb, 0, none⟩), .slice p n cc, .func (.func 112) #[] #[.pointer (some ⟨b0, 0, none⟩), .pointer (some ⟨b1, 0, none⟩), .pointer (some ⟨b2, 0, none⟩), .pointer (some ⟨b3, 0, none⟩), .pointer (some ⟨b4, 0, none⟩)]] w fun r w' => RdX c M (fun k => Bb bs k ∨ X k) s o w w' r := by
 obtain ⟨sp, scc, hsv⟩ := owns_form h.sco
 obtain ⟨L, hL⟩ : ∃ L, s.sc.length = L := ⟨_, rfl⟩
 rw [hL] at hsv
 have e2 := (cells6 h.blk).2.2.1
 have hfz := (cells6 h.blk).2.2.2.2.2.2
 rw [hsv] at e2
 have HIN : Hid (∀ p3 c3 w3, w3.ownsRow c.w0.heap.size 107 1 (.slice p3 (L + n) c3) (L + n) (pvC s.sc ++ pvC bs) → Below c.w0.heap.size w w3 → But w w3 (.slice sp L scc) → (Value.slice sp L scc = .slice p3 L c3 ∨ ((Value.slice p3 (L + n) c3).ownBlock = some w.heap.size ∧ Below w.heap.size w w3)) → Calls Tryz.prog 112 #[.pointer (some ⟨b0, 0, none⟩), .pointer (some ⟨b1, 0, none⟩), .pointer (some ⟨b2, 0, none⟩), .pointer (some ⟨b3, 0, none⟩), .pointer (some ⟨b4, 0, none⟩)] (w3.setCell ⟨s.pb, 2, none⟩ (.slice p3 (L + n) c3)) (fun r W' => IsQ c M X s bs o w W' r)) := fun p3 c3 w3 k1 k2 k3 k4 => inScope_in h hsv hL hb hbl hB0 hX H k1 k2 k3 k4
 have HOW : Hid (w.ownsRow c.w0.heap.size 107 1 (.slice sp L scc) L (pvC s.sc)) := by unfold Hid; have q := h.sco; rw [hsv, hL] at q; exact q
 have HOU : Hid (w.ownsRow B 107 1 (.slice p n cc) n (pvC bs)) := by unfold Hid; have q := hb.row; rw [hbl] at q; exact q
 have HBK := mkC h.blk
 have hB1 : c.w0.heap.size ≤ w.heap.size := h.bel.size
 have hLN : L ≤ N := by rw [← hL]; exact h.len.2.1
 have HSV := mkC hsv
 clear h hsv hb hbl hB0 hX H hL
 go_enter Tryz.func99, Tryz.ntmps99
 go_upto_region 2 with (at_builtin; refine appRow_k w rfl (.tmp 15) (.tmp 16) rfl c.w0.heap.size (.slice sp L scc) L (pvC s.sc) (by simp [Act.eval]) HOW.out B (.slice p n cc) n (pvC bs) (by simp [Act.eval]) HOU.out (pvC_one bs) (by omega) hB1 ?_; intro p3 c3 w3 ho hb3 hbt halt; have HC := mkC (HIN.out p3 c3 w3 ho hb3 hbt halt); have q2 := (cells6 ((hbt _ (Array.getElem?_eq_some_iff.1 HBK.out).1 (owns_ne HOW.out HBK.out (by decide))).trans HBK.out)).2.2.1; have qf := (cells6 ((hbt _ (Array.getElem?_eq_some_iff.1 HBK.out).1 (owns_ne HOW.out HBK.out (by decide))).trans HBK.out)).2.2.2.2.2.2; clear ho hb3 hbt halt e2 hfz)
 obtain ⟨W4, hW4⟩ : ∃ W4, W4 = w3.setCell ⟨s.pb, 2, none⟩ (.slice p3 (L + n) c3) := ⟨_, rfl⟩
 rw [← hW4] at HC ⊢
 clear hW4 q2 qf HIN
 go_wp2_with fail
 refine HC.out.mono ?_
 intro r W' hr
 cases o with
 | none =>
  obtain ⟨rfl, hb3⟩ := hr
  exact ⟨rfl, rfl, hb3⟩
 | some ns =>
  obtain ⟨⟨u, rfl⟩, ⟨a0, a1, a2, a3, a4, a5, hbk⟩, hfin⟩ := hr
  have z2 := (cells6 hbk).2.2.1
  have zf := (cells6 hbk).2.2.2.2.2.2
  rw [HSV.out] at hfin
  have HF := mkC hfin
  clear hbk hfin
  go_wp2_with fail
  go_end0
  exact HF.out _
attribute [local go_sem] run_store_fn
set_option maxRecDepth 20000 in
theorem step_callQ (w : World) {ops : Array Oper} {o : Oper} {a : Act} {K : Act → World → Prop} {Q : Exit → Act → World → Prop} {E : Prop} (hgd : o.guard = none) (f : FuncId) (s : Array Operand) (ts : Array TypeId)
  (ho : o.op = .call { callee := .value (.func f), args := s, argTypes := ts }) (args : Array Value) (hargs : s.map a.eval = args) (hin : ∀ w, (callFunc f args).run Tryz.prog w = .ok (.enter f args) w) (R : Value → World → Prop) (S : List PanicEntry → World → Prop)
  (h : Calls Tryz.prog f args w (fun e w' => (∃ v, e = .returned v ∧ R v w') ∨ (∃ ch, e = .panicked ch ∧ S ch w'))) (hQ : ∀ ch w', S ch w' → Q (.panic ch) a w') (hK : ∀ v w', R v w' → K (a.put o.dst v) w') :
  if Region.wanted o (yielded ops a.tmps) = true then Oper.wp Tryz.prog o a w K Q else E := by
 have hw : Region.wanted o (yielded ops a.tmps) = true := by simp [Region.wanted, hgd]
 rw [if_pos hw]
 unfold Oper.wp execOp
 simp only [ho, resolve, invoke, Sem.run_bind, hargs]
 have e : (Deferred.ofValue (a.eval (.func f)) args).run Tryz.prog w = .ok { target := .fn (.func f) #[], args := args } w := by simp [Deferred.ofValue, Act.eval]
 rw [e]
 simp only [Result.andThen_ok, Array.append_empty, hin, Oper.upon_enter]
 refine h.mono ?_
 rintro e' w' (⟨v, rfl, hv⟩ | ⟨ch, rfl, hs⟩)
 ·exact hK v w' hv
 ·exact hQ ch w' hs
theorem inBody (args : Array Value) (w : World) : (callFunc 55 args).run Tryz.prog w = .ok (.enter 55 args) w := by kernel_rfl
theorem inBindP (args : Array Value) (w : World) : (callFunc 98 args).run Tryz.prog w = .ok (.enter 98 args) w := by kernel_rfl
def BoQ (c : Cx) (N : Nat) (b : Nat) (s : Sg) (o : Option (List (List Int))) (w w' : World) (u : Value) : Prop := ∃ f bd cp, u = .func f bd cp ∧ (∃ mv, w'.heap[b]? = some (.cells #[mv] 109)) ∧ RdX c N (fun j => j = b) s o w (w'.setCell ⟨b, 0, none⟩ u) (.returned undef)
theorem cells1 {w : World} {k : Nat} {a : Value} {t : TypeId} (h : w.heap[k]? = some (.cells #[a] t)) : w.cell? ⟨k, 0, none⟩ = some a ∧ w.frozen? ⟨k, 0, none⟩ = false := by
 constructor <;> simp [World.cell?, World.frozen?, h]
theorem PgI.setBox {c : Cx} {N b : Nat} {w : World} {s : Sg} {a : Array Value} {t : TypeId} (h : PgI c N w s) (hb0 : c.w0.heap.size ≤ b) (hb : w.heap[b]? = some (.cells a t)) (hq : ¬ Fq s b) (v : Value) : PgI c N (w.setCell ⟨b, 0, none⟩ v) s :=
 h.same (Below.setCell (Below.refl _ _) (p := ⟨b, 0, none⟩) hb0 v) (fun _ _ hk => set_keep v (fun e => by
  subst e
  rcases hk with hk | hk
  ·exact hq hk
  ·exact h.wm_ne hb hk))
theorem FrP.setBox {b : Nat} {s s' : Sg} {w w' : World} (h : FrP s s' w w') (v : Value) : FrX (fun j => j = b) s s' w (w'.setCell ⟨b, 0, none⟩ v) :=
 ⟨by rw [set_size]; exact h.size, fun k hk hn hx => (set_keep v hx).trans (h.keep k hk hn), fun k hk => (h.foot k hk).elim Or.inl (fun h => Or.inr (Or.inr h))⟩
theorem body_q {c : Cx} {db dof k : Nat} (hE : ExpC c db dof k) (S : Nat → Prop) (s : Sg) (N : Nat) (w w1 : World) (p : Option Addr) (n cc : Nat) (es : List Pe) (b : Nat) (mv : Value) (h : PgI c N w s) (hes : EsR c db dof S k w p n cc es) (hn3 : n ≤ 3000) (hN : N + sumB k (Cp.at_ c (es.map (·.1))) ≤ 1000000000) (hb : w.heap[b]? = some (.cells #[mv] 109)) (hb0 : c.w0.heap.size ≤ b) (hb1 : Below w.heap.size w w1) :
  Calls Tryz.prog 55 #[.pointer (some ⟨s.pb, 0, none⟩), .slice p n cc] w1 fun e w' => (∃ v, e = .returned v ∧ BoQ c (N + sumB k (Cp.at_ c (es.map (·.1)))) b s (if es = [] then none else allO (rd (s.gls.map (·.x)) k (s.sc.map (·.x))) (Cp.at_ c (es.map (·.1)))) w w' v) ∨ (∃ ch, e = .panicked ch ∧ .panicked ch = gramE ∧ (if es = [] then none else allO (rd (s.gls.map (·.x)) k (s.sc.map (·.x))) (Cp.at_ c (es.map (·.1)))) = none ∧ Below c.w0.heap.size c.w0 w') := by
 have h1 := h.below hb1
 refine (body_c hE S s N w1 p n cc es h1.1 (hes.below hb1) hn3 hN).mono ?_
 intro e w' hr
 generalize (if es = [] then none else allO (rd (s.gls.map (·.x)) k (s.sc.map (·.x))) (Cp.at_ c (es.map (·.1)))) = o at hr
 cases o with
 | none =>
  obtain ⟨rfl, h2⟩ := hr
  exact Or.inr ⟨_, rfl, rfl, rfl, h2⟩
 | some ns =>
  obtain ⟨u, s', rfl, ⟨f, bd, cp, rfl⟩, g1, g2, g3, g4⟩ := hr
  have hbq : ¬ Fq s b := h.not_fq hb (by decide) (by decide) (by decide) (by decide) (by decide)
  have hf := h1.2.trans g2
  have hlt := (Array.getElem?_eq_some_iff.1 hb).1
  have hbw : w'.heap[b]? = some (.cells #[mv] 109) := (hf.keep b hlt hbq).trans hb
  have hbq' : ¬ Fq s' b := g1.not_fq hbw (by decide) (by decide) (by decide) (by decide) (by decide)
  exact Or.inl ⟨_, rfl, f, bd, cp, rfl, ⟨mv, hbw⟩, undef, s', rfl, g1.setBox hb0 hbw hbq' _, hf.setBox _, g3, g4⟩
theorem gram_post {c : Cx} {N : Nat} {X : Nat → Prop} {s : Sg} {o : Option (List (List Int))} {w w' : World} {ch : List PanicEntry} (h : .panicked ch = gramE ∧ o = none ∧ Below c.w0.heap.size c.w0 w') : RdX c N X s o w w' (.panicked ch) := by
 obtain ⟨h1, rfl, h2⟩ := h
 exact ⟨h1, h2⟩
theorem RdX.undef_ {c : Cx} {N : Nat} {X : Nat → Prop} {s : Sg} {o : Option (List (List Int))} {w w' : World} (h : RdX c N X s o w w' (.returned undef)) (v : Value) : RdX c N X s o w w' (.returned v) := by
 cases o with
 | none =>
  obtain ⟨h1, _⟩ := h
  unfold gramE at h1
  cases h1
 | some ns =>
  obtain ⟨u, s', _, h2⟩ := h
  exact ⟨v, s', rfl, h2⟩
set_option maxRecDepth 20000 in
set_option maxHeartbeats 4000000 in
theorem innerL_c {c : Cx} {db dof k : Nat} (hE : ExpC c db dof k) (S : Nat → Prop) (s : Sg) (N : Nat) (w : World) (p : Option Addr) (n cc b0 b1 b2 : Nat) (x : Pe) (es : List Pe) (mv : Value) (h : PgI c N w s) (hes : EsR c db dof S k w p (n + 1) cc (x :: es)) (hn3 : n ≤ 3000) (hN : N + sumB k (Cp.at_ c (es.map (·.1))) ≤ 1000000000)
  (k0 : w.heap[b0]? = some (.cells #[.pointer (some ⟨s.pb, 0, none⟩)] 49)) (k1 : w.heap[b1]? = some (.cells #[.slice p (n + 1) cc] 71)) (k2 : w.heap[b2]? = some (.cells #[mv] 109)) (hb0 : c.w0.heap.size ≤ b2) :
  Calls Tryz.prog 100 #[.pointer (some ⟨b0, 0, none⟩), .pointer (some ⟨b1, 0, none⟩), .pointer (some ⟨b2, 0, none⟩)] w fun r w' => RdX c (N + sumB k (Cp.at_ c (es.map (·.1)))) (fun j => j = b2) s (if es = [] then none else allO (rd (s.gls.map (·.x)) k (s.sc.map (·.x))) (Cp.at_ c (es.map (·.1)))) w w' r := by
 obtain ⟨g, o, cur, rfl, hg, _⟩ := hes.2.2.1 (by omega)
 have hcc := hes.2.1
 obtain ⟨d, rfl⟩ : ∃ d, cc = d + 1 := ⟨cc - 1, by omega⟩
 have HQ : Hid (∀ p', (0 < n → p' = some ⟨g, o + 2, none⟩) → ∀ w1, Below w.heap.size w w1 → Calls Tryz.prog 55 #[.pointer (some ⟨s.pb, 0, none⟩), .slice p' n d] w1 fun e w' => (∃ v, e = .returned v ∧ BoQ c (N + sumB k (Cp.at_ c (es.map (·.1)))) b2 s (if es = [] then none else allO (rd (s.gls.map (·.x)) k (s.sc.map (·.x))) (Cp.at_ c (es.map (·.1)))) w w' v) ∨ (∃ ch, e = .panicked ch ∧ .panicked ch = gramE ∧ (if es = [] then none else allO (rd (s.gls.map (·.x)) k (s.sc.map (·.x))) (Cp.at_ c (es.map (·.1)))) = none ∧ Below c.w0.heap.size c.w0 w')) := fun p' hp' w1 hw1 => body_q hE S s N w w1 p' n d es b2 mv h (hes.tail hp') hn3 hN k2 hb0 hw1
 have q0 := cells1 k0
 have q1 := cells1 k1
 have HBD : Hid (Below w.heap.size w w.drew) := below_drewC (Below.refl _ _)
 have hd0 : n ≤ d := by omega
 generalize (if es = [] then none else allO (rd (s.gls.map (·.x)) k (s.sc.map (·.x))) (Cp.at_ c (es.map (·.1)))) = ro at HQ
 generalize N + sumB k (Cp.at_ c (es.map (·.1))) = NN at HQ
 obtain ⟨q00, _⟩ := q0
 obtain ⟨q10, _⟩ := q1
 clear h hes hE hN k0 k1 k2 hg
 by_cases hd : d = 0
 ·subst hd
  obtain rfl : n = 0 := by omega
  go_enter Tryz.func100, Tryz.ntmps100
  go_wp2_with fail
  go_region_law (refine step_callQ _ rfl 55 _ _ rfl #[.pointer (some ⟨s.pb, 0, none⟩), .slice (some ⟨g, o, none⟩) 0 0] ?ha (inBody _) _ _ (HQ.out _ (fun h => absurd h (Nat.lt_irrefl 0)) _ HBD.out) ?hq ?_; (case ha => first | (simp [Act.eval]; done) | (simp [Act.eval, Act.put]; done)); (case hq => exact fun ch w' hh => ⟨rfl, gram_post hh⟩); rintro v w2 ⟨f, bd, cp, rfl, ⟨mv2, hmv⟩, hfin⟩; have z0 := (cells1 hmv).1; have zf := (cells1 hmv).2; have HF := mkC hfin; clear hmv hfin)
  all_goals go_wp2_with fail
  all_goals go_end0
  all_goals exact HF.out.undef_ _
 ·have hd1 : 1 ≤ d := by omega
  have hn1 : (1 : Int) ≤ (n : Int) + 1 := by omega
  go_enter Tryz.func100, Tryz.ntmps100
  go_wp2_with fail
  go_region_law (refine step_callQ _ rfl 55 _ _ rfl #[.pointer (some ⟨s.pb, 0, none⟩), .slice (some ⟨g, o + 2, none⟩) n d] ?ha (inBody _) _ _ (HQ.out _ (fun _ => rfl) _ HBD.out) ?hq ?_; (case ha => first | (simp [Act.eval]; done) | (simp [Act.eval, Act.put]; done)); (case hq => exact fun ch w' hh => ⟨rfl, gram_post hh⟩); rintro v w2 ⟨f, bd, cp, rfl, ⟨mv2, hmv⟩, hfin⟩; have z0 := (cells1 hmv).1; have zf := (cells1 hmv).2; have HF := mkC hfin; clear hmv hfin)
  all_goals go_wp2_with fail
  all_goals go_end0
  all_goals exact HF.out.undef_ _
set_option maxRecDepth 20000 in
set_option maxHeartbeats 4000000 in
theorem innerT_c {c : Cx} {db dof k : Nat} (hE : ExpC c db dof k) (S : Nat → Prop) (s : Sg) (N : Nat) (w : World) (p : Option Addr) (n cc b0 b1 b2 : Nat) (x : Pe) (es : List Pe) (mv : Value) (h : PgI c N w s) (hes : EsR c db dof S k w p (n + 1) cc (x :: es)) (hn3 : n ≤ 3000) (hN : N + sumB k (Cp.at_ c (es.map (·.1))) ≤ 1000000000)
  (k0 : w.heap[b0]? = some (.cells #[.pointer (some ⟨s.pb, 0, none⟩)] 49)) (k1 : w.heap[b1]? = some (.cells #[.slice p (n + 1) cc] 71)) (k2 : w.heap[b2]? = some (.cells #[mv] 109)) (hb0 : c.w0.heap.size ≤ b2) :
  Calls Tryz.prog 107 #[.pointer (some ⟨b0, 0, none⟩), .pointer (some ⟨b1, 0, none⟩), .pointer (some ⟨b2, 0, none⟩)] w fun r w' => RdX c (N + sumB k (Cp.at_ c (es.map (·.1)))) (fun j => j = b2) s (if es = [] then none else allO (rd (s.gls.map (·.x)) k (s.sc.map (·.x))) (Cp.at_ c (es.map (·.1)))) w w' r := by
 obtain ⟨g, o, cur, rfl, hg, _⟩ := hes.2.2.1 (by omega)
 have hcc := hes.2.1
 obtain ⟨d, rfl⟩ : ∃ d, cc = d + 1 := ⟨cc - 1, by omega⟩
 have HQ : Hid (∀ p', (0 < n → p' = some ⟨g, o + 2, none⟩) → ∀ w1, Below w.heap.size w w1 → Calls Tryz.prog 55 #[.pointer (some ⟨s.pb, 0, none⟩), .slice p' n d] w1 fun e w' => (∃ v, e = .returned v ∧ BoQ c (N + sumB k (Cp.at_ c (es.map (·.1)))) b2 s (if es = [] then none else allO (rd (s.gls.map (·.x)) k (s.sc.map (·.x))) (Cp.at_ c (es.map (·.1)))) w w' v) ∨ (∃ ch, e = .panicked ch ∧ .panicked ch = gramE ∧ (if es = [] then none else allO (rd (s.gls.map (·.x)) k (s.sc.map (·.x))) (Cp.at_ c (es.map (·.1)))) = none ∧ Below c.w0.heap.size c.w0 w')) := fun p' hp' w1 hw1 => body_q hE S s N w w1 p' n d es b2 mv h (hes.tail hp') hn3 hN k2 hb0 hw1
 have q0 := cells1 k0
 have q1 := cells1 k1
 have HBD : Hid (Below w.heap.size w w.drew) := below_drewC (Below.refl _ _)
 have hd0 : n ≤ d := by omega
 generalize (if es = [] then none else allO (rd (s.gls.map (·.x)) k (s.sc.map (·.x))) (Cp.at_ c (es.map (·.1)))) = ro at HQ
 generalize N + sumB k (Cp.at_ c (es.map (·.1))) = NN at HQ
 obtain ⟨q00, _⟩ := q0
 obtain ⟨q10, _⟩ := q1
 clear h hes hE hN k0 k1 k2 hg
 by_cases hd : d = 0
 ·subst hd
  obtain rfl : n = 0 := by omega
  go_enter Tryz.func107, Tryz.ntmps107
  go_wp2_with fail
  go_region_law (refine step_callQ _ rfl 55 _ _ rfl #[.pointer (some ⟨s.pb, 0, none⟩), .slice (some ⟨g, o, none⟩) 0 0] ?ha (inBody _) _ _ (HQ.out _ (fun h => absurd h (Nat.lt_irrefl 0)) _ HBD.out) ?hq ?_; (case ha => first | (simp [Act.eval]; done) | (simp [Act.eval, Act.put]; done)); (case hq => exact fun ch w' hh => ⟨rfl, gram_post hh⟩); rintro v w2 ⟨f, bd, cp, rfl, ⟨mv2, hmv⟩, hfin⟩; have z0 := (cells1 hmv).1; have zf := (cells1 hmv).2; have HF := mkC hfin; clear hmv hfin)
  all_goals go_wp2_with fail
  all_goals go_end0
  all_goals exact HF.out.undef_ _
 ·have hd1 : 1 ≤ d := by omega
  have hn1 : (1 : Int) ≤ (n : Int) + 1 := by omega
  go_enter Tryz.func107, Tryz.ntmps107
  go_wp2_with fail
  go_region_law (refine step_callQ _ rfl 55 _ _ rfl #[.pointer (some ⟨s.pb, 0, none⟩), .slice (some ⟨g, o + 2, none⟩) n d] ?ha (inBody _) _ _ (HQ.out _ (fun _ => rfl) _ HBD.out) ?hq ?_; (case ha => first | (simp [Act.eval]; done) | (simp [Act.eval, Act.put]; done)); (case hq => exact fun ch w' hh => ⟨rfl, gram_post hh⟩); rintro v w2 ⟨f, bd, cp, rfl, ⟨mv2, hmv⟩, hfin⟩; have z0 := (cells1 hmv).1; have zf := (cells1 hmv).2; have HF := mkC hfin; clear hmv hfin)
  all_goals go_wp2_with fail
  all_goals go_end0
  all_goals exact HF.out.undef_ _
attribute [local go_sem] run_store_fn
theorem RdX.cat {c : Cx} {N : Nat} {X Y : Nat → Prop} {s s1 : Sg} {ns : List (List Int)} {o : Option (List (List Int))} {w w1 w' : World} {r : Ending} (h1 : FrX X s s1 w w1) (h2 : SmP s s1) (h3 : s1.ub = s.ub ++ ns) (h : RdX c N Y s1 o w1 w' r) : RdX c N (fun j => X j ∨ Y j) s (Cp.cat (some ns) o) w w' r := by
 cases o with
 | none => exact h
 | some ms =>
  obtain ⟨u, s', rfl, g1, g2, g3, g4⟩ := h
  exact ⟨u, s', rfl, g1, h1.trans g2, h2.trans g3, by rw [g4, h3, List.append_assoc]⟩
set_option maxRecDepth 20000 in
set_option maxHeartbeats 4000000 in
theorem innerR_c {c : Cx} {db dof k : Nat} (hE : ExpC c db dof k) (S : Nat → Prop) (s : Sg) (N : Nat) (w : World) (p : Option Addr) (n cc b0 b1 b2 b3 b4 : Nat) (x : Pe) (es : List Pe) (vp : Option Addr) (m vc : Nat) (vs : List Pe) (mv av : Value) (h : PgI c N w s) (hes : EsR c db dof S k w p (n + 1) cc (x :: es)) (hvs : EsR c db dof S k w vp m vc vs) (hn3 : n ≤ 3000) (hm3 : m ≤ 3000) (hN : N + sumB k (Cp.at_ c (vs.map (·.1))) + sumB k (Cp.at_ c (es.map (·.1))) ≤ 1000000000)
  (k0 : w.heap[b0]? = some (.cells #[.pointer (some ⟨s.pb, 0, none⟩)] 49)) (k1 : w.heap[b1]? = some (.cells #[.slice vp m vc] 71)) (k2 : w.heap[b2]? = some (.cells #[av] 150)) (k3 : w.heap[b3]? = some (.cells #[.slice p (n + 1) cc] 71)) (k4 : w.heap[b4]? = some (.cells #[mv] 109)) (hb2 : c.w0.heap.size ≤ b2) (hb4 : c.w0.heap.size ≤ b4) :
  Calls Tryz.prog 112 #[.pointer (some ⟨b0, 0, none⟩), .pointer (some ⟨b1, 0, none⟩), .pointer (some ⟨b2, 0, none⟩), .pointer (some ⟨b3, 0, none⟩), .pointer (some ⟨b4, 0, none⟩)] w fun r w' => RdX c (N + sumB k (Cp.at_ c (vs.map (·.1))) + sumB k (Cp.at_ c (es.map (·.1)))) (fun j => j = b2 ∨ j = b4) s (Cp.cat (allO (rd (s.gls.map (·.x)) k (s.sc.map (·.x))) (Cp.at_ c (vs.map (·.1)))) (if es = [] then none else allO (rd (s.gls.map (·.x)) k (s.sc.map (·.x))) (Cp.at_ c (es.map (·.1))))) w w' r := by
 obtain ⟨g, o, cur, rfl, hg, _⟩ := hes.2.2.1 (by omega)
 have hcc := hes.2.1
 obtain ⟨d, rfl⟩ : ∃ d, cc = d + 1 := ⟨cc - 1, by omega⟩
 have HX := mkC (expressions_c hE S s N w vp m vc vs h hvs hm3 (by omega))
 obtain ⟨o1, ho1⟩ : ∃ o1, o1 = allO (rd (s.gls.map (·.x)) k (s.sc.map (·.x))) (Cp.at_ c (vs.map (·.1))) := ⟨_, rfl⟩
 obtain ⟨o2, ho2⟩ : ∃ o2, o2 = (if es = [] then none else allO (rd (s.gls.map (·.x)) k (s.sc.map (·.x))) (Cp.at_ c (es.map (·.1)))) := ⟨_, rfl⟩
 obtain ⟨N1, hN1⟩ : ∃ N1, N1 = N + sumB k (Cp.at_ c (vs.map (·.1))) := ⟨_, rfl⟩
 obtain ⟨NN, hNN⟩ : ∃ NN, NN = N1 + sumB k (Cp.at_ c (es.map (·.1))) := ⟨_, rfl⟩
 have HQ : Hid (∀ W s1 u, PgI c N1 W s1 → FrP s s1 w W → SmP s s1 → ∃ au, W.heap[b2]? = some (.cells #[au] 150) ∧ (W.setCell ⟨b2, 0, none⟩ u).heap[b0]? = some (.cells #[.pointer (some ⟨s.pb, 0, none⟩)] 49) ∧ (W.setCell ⟨b2, 0, none⟩ u).heap[b3]? = some (.cells #[.slice (some ⟨g, o, none⟩) (n + 1) (d + 1)] 71) ∧ ∀ p', (0 < n → p' = some ⟨g, o + 2, none⟩) → ∀ w1, Below (W.setCell ⟨b2, 0, none⟩ u).heap.size (W.setCell ⟨b2, 0, none⟩ u) w1 → Calls Tryz.prog 55 #[.pointer (some ⟨s.pb, 0, none⟩), .slice p' n d] w1 fun e w' => (∃ v, e = .returned v ∧ BoQ c NN b4 s1 o2 (W.setCell ⟨b2, 0, none⟩ u) w' v) ∨ (∃ ch, e = .panicked ch ∧ .panicked ch = gramE ∧ o2 = none ∧ Below c.w0.heap.size c.w0 w')) := fun W s1 u g1 g2 g3 => by
  have nf : ∀ {b : Nat} {a : Array Value} {t : TypeId}, w.heap[b]? = some (.cells a t) → t ≠ 59 → t ≠ 107 → t ≠ 9 → t ≠ 111 → t ≠ 175 → W.heap[b]? = some (.cells a t) := fun {b a t} hk q1 q2 q3 q4 q5 => (g2.keep b (Array.getElem?_eq_some_iff.1 hk).1 (h.not_fq hk q1 q2 q3 q4 q5)).trans hk
  have a0 := nf k0 (by decide) (by decide) (by decide) (by decide) (by decide)
  have a2 := nf k2 (by decide) (by decide) (by decide) (by decide) (by decide)
  have a3 := nf k3 (by decide) (by decide) (by decide) (by decide) (by decide)
  have a4 := nf k4 (by decide) (by decide) (by decide) (by decide) (by decide)
  have st : ∀ {b : Nat} {a : Array Value} {t : TypeId}, W.heap[b]? = some (.cells a t) → t ≠ 150 → (W.setCell ⟨b2, 0, none⟩ u).heap[b]? = some (.cells a t) := fun {b a t} hk ht => (set_keep u (fun e => by
   subst e
   rw [a2] at hk
   cases hk
   exact ht rfl)).trans hk
  have hpg : PgI c N1 (W.setCell ⟨b2, 0, none⟩ u) s1 := g1.setBox hb2 a2 (g1.not_fq a2 (by decide) (by decide) (by decide) (by decide) (by decide)) u
  have hes2 : EsR c db dof S k (W.setCell ⟨b2, 0, none⟩ u) (some ⟨g, o, none⟩) (n + 1) (d + 1) (x :: es) := (hes.frp h g2).of (fun j cur hj => (st hj (by decide)).trans hj.symm)
  refine ⟨_, a2, st a0 (by decide), st a3 (by decide), fun p' hp' w1 hw1 => ?_⟩
  have hq := body_q hE S s1 N1 (W.setCell ⟨b2, 0, none⟩ u) w1 p' n d es b4 mv hpg (hes2.tail hp') hn3 (by rw [hN1]; exact hN) (st a4 (by decide)) hb4 hw1
  rw [g3.gls, g3.sc, ← ho2, g3.pb, ← hNN] at hq
  exact hq
 rw [← ho1, ← hN1] at HX
 rw [← ho1, ← ho2, ← hN1, ← hNN]
 have HBW := mkC h.bel
 have q00 := (cells1 k0).1
 have q10 := (cells1 k1).1
 have hd0 : n ≤ d := by omega
 clear h hes hvs hE hN k0 k1 k2 k3 k4 hg ho1 ho2 hN1 hNN
 go_enter Tryz.func112, Tryz.ntmps112
 go_wp2_with fail
 refine HX.out.mono ?_
 intro r w1 hr
 cases o1 with
 | none =>
  obtain ⟨rfl, hb3⟩ := hr
  exact ⟨rfl, rfl, hb3⟩
 | some ns =>
  obtain ⟨u, s1, rfl, ⟨us, q1, q2, q3⟩, h1, h2, h3, h4⟩ := hr
  obtain ⟨up, uc, rfl⟩ := owns_form q3
  obtain ⟨au, a2, a0, a3, hbo⟩ := HQ.out w1 s1 (.slice up m uc) h1 h2 h3
  have z0 := (cells1 a2).1
  have zf := (cells1 a2).2
  have HFX := mkC (h2.setBox (b := b2) (.slice up m uc))
  have HSM := mkC h3
  have HUB := mkC h4
  obtain ⟨W2, hW2⟩ : ∃ W2, W2 = w1.setCell ⟨b2, 0, none⟩ (.slice up m uc) := ⟨_, rfl⟩
  rw [← hW2] at a0 a3 hbo HFX
  have y0 := (cells1 a0).1
  have y3 := (cells1 a3).1
  have HBO := mkC hbo
  have HW2 := mkC hW2
  have HBD : Hid (Below W2.heap.size W2 W2.drew) := below_drewC (Below.refl _ _)
  clear q1 q2 q3 h1 h2 h3 h4 a0 a2 a3 hbo hW2 HQ
  have HPA : Hid (∀ ch w', .panicked ch = gramE ∧ o2 = none ∧ Below c.w0.heap.size c.w0 w' → RdX c NN (fun j => j = b2 ∨ j = b4) s (Cp.cat (some ns) o2) w w' (.panicked ch)) := fun ch w' hh => RdX.cat HFX.out HSM.out HUB.out (gram_post hh)
  have HEN : Hid (∀ w' v, RdX c NN (fun j => j = b4) s1 o2 W2 w' (.returned undef) → RdX c NN (fun j => j = b2 ∨ j = b4) s (Cp.cat (some ns) o2) w w' (.returned v)) := fun w' v hh => RdX.cat HFX.out HSM.out HUB.out (hh.undef_ v)
  go_upto_region 1 with fail
  rw [← HW2.out]
  clear z0 zf
  by_cases hd : d = 0
  ·subst hd
   obtain rfl : n = 0 := by omega
   go_wp2_with fail
   go_region_law (refine step_callQ _ rfl 55 _ _ rfl #[.pointer (some ⟨s.pb, 0, none⟩), .slice (some ⟨g, o, none⟩) 0 0] ?ha (inBody _) _ _ (HBO.out _ (fun h => absurd h (Nat.lt_irrefl 0)) _ HBD.out) ?hq ?_; (case ha => first | (simp [Act.eval]; done) | (simp [Act.eval, Act.put]; done)); (case hq => exact fun ch w' hh => ⟨rfl, HPA.out ch w' hh⟩); rintro v w2 ⟨f, bd, cp, rfl, ⟨mv2, hmv⟩, hfin⟩; have z0 := (cells1 hmv).1; have zf := (cells1 hmv).2; have HF := mkC hfin; clear hmv hfin)
   all_goals go_wp2_with fail
   all_goals go_end0
   all_goals exact HEN.out _ _ HF.out
  ·have hd1 : 1 ≤ d := by omega
   have hn1 : (1 : Int) ≤ (n : Int) + 1 := by omega
   go_wp2_with fail
   go_region_law (refine step_callQ _ rfl 55 _ _ rfl #[.pointer (some ⟨s.pb, 0, none⟩), .slice (some ⟨g, o + 2, none⟩) n d] ?ha (inBody _) _ _ (HBO.out _ (fun _ => rfl) _ HBD.out) ?hq ?_; (case ha => first | (simp [Act.eval]; done) | (simp [Act.eval, Act.put]; done)); (case hq => exact fun ch w' hh => ⟨rfl, HPA.out ch w' hh⟩); rintro v w2 ⟨f, bd, cp, rfl, ⟨mv2, hmv⟩, hfin⟩; have z0 := (cells1 hmv).1; have zf := (cells1 hmv).2; have HF := mkC hfin; clear hmv hfin)
   all_goals go_wp2_with fail
   all_goals go_end0
   all_goals exact HEN.out _ _ HF.out
end Cp
end Go.Proofs.YtnnpfoilojicjaaGreatDoor
