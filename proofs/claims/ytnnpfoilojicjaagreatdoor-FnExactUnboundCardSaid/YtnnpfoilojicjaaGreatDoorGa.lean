import Derived.Test.YtnnpfoilojicjaaGreatDoorG5
import Derived.Test.YtnnpfoilojicjaaGreatDoorX5
import Derived.Lib.ConvBytes
namespace Go.Proofs.YtnnpfoilojicjaaGreatDoor
open Go.RowKit Ch1
namespace Cp
theorem By.rgC {w : World} {p : Option Addr} {n c : Nat} {xs : List Int} (h : By w p n c xs) : Rg xs := fun x hx => by
 obtain ⟨i, hi, rfl⟩ := List.getElem_of_mem hx
 have := h.rng i
 rw [List.getD_eq_getElem?_getD, List.getElem?_eq_getElem hi] at this
 exact this
theorem nums_strC {xs : List Int} (h : Rg xs) : nums (xs.map fun n => UInt8.ofNat n.toNat) = xs := by
 unfold nums
 rw [List.map_map]
 conv => rhs; rw [← List.map_id xs]
 apply List.map_congr_left
 intro x hx
 obtain ⟨h0, h1⟩ := h x hx
 simp
 omega
theorem str_eqb {xs ys : List Int} (hx : Rg xs) (hy : Rg ys) : ((strOfNums ys).toList == (strOfNums xs).toList) = decide (ys = xs) := by
 by_cases h : ys = xs
 ·subst h
  simp
 ·rw [decide_eq_false h, beq_eq_false_iff_ne]
  intro e
  rw [ByteArray.toList_eq, ByteArray.toList_eq, strOfNums_data, strOfNums_data] at e
  have e2 := congrArg nums e
  rw [nums_strC hx, nums_strC hy] at e2
  exact h e2
theorem conv_nm {c : Cx} {m : Nm} {w : World} (h : NmI c m) (hb : Below c.w0.heap.size c.w0 w) : (convert 34 9 (.slice m.p m.n m.c)).run Tryz.prog w = .ok (.string (strOfNums m.x)) w := by
 have h1 := h.1.below hb
 obtain ⟨b, o, e, hc⟩ := h1.cells h.2.1
 have hl := h1.len
 rw [e, ← hl]
 exact run_convert_bytes_arg (P := Tryz.prog) w 34 5 Tryz.underlying34 Tryz.underlying5 b o m.x.length m.c m.x rfl (fun i hi => hc i (by rw [← hl]; exact hi)) 9 Tryz.underlying9
theorem NmI.rg {c : Cx} {m : Nm} (h : NmI c m) : Rg m.x := By.rgC h.1
theorem hd_drop (ds : List Dt) (i : Nat) : hd (ds.drop i) = ds.getD i dt0 := by
 unfold hd
 rw [List.headD_eq_head?_getD, List.head?_drop, List.getD_eq_getElem?_getD]
set_option maxHeartbeats 1000000 in
theorem l5sym_c {c : Cx} {N : Nat} {st : St} (i : Nat) (w : World) (h : Inv c N w st) (hi : i < c.dn) : Calls Tryz.prog 41 #[.pointer (some ⟨st.ab, 0, none⟩), .int .i64 (i : Nat)] w fun e w' => e = .returned (.bool (isSy (c.ds.drop i))) ∧ w' = w := by
 have e0 := (cells10 h.blk).1
 obtain ⟨b, o, hp, hbl, g⟩ := (h.dat.below h.bel).cells (by omega)
 obtain ⟨tp, tn, tc, he⟩ := g i hi
 have k0 := he.c0
 rw [hp] at e0
 have hdn := h.dn
 have HK : Hid (isSy (c.ds.drop i) = ((c.ds.getD i dt0).kind == 2)) := by unfold Hid isSy; rw [hd_drop, Bool.eq_iff_iff]; simp
 generalize (c.ds.getD i dt0).kind = kd at k0 HK
 rw [HK.out]
 clear h he g HK hp
 go_enter Tryz.func41, Tryz.ntmps41
 go_wp2
 go_ret
 exact ⟨rfl, rfl⟩
theorem Inv.glAt {c : Cx} {N : Nat} {w : World} {st : St} (h : Inv c N w st) : ∃ p gc, st.glv = .slice p st.gl.length gc ∧ (0 < st.gl.length → ∃ g, p = some ⟨g, 0, none⟩ ∧ g < w.heap.size ∧ ∀ i (hi : i < st.gl.length), w.cell? ⟨g, i, none⟩ = some (nmV (st.gl[i]'hi))) := by
 obtain ⟨p, gc, ho⟩ := owns_form h.gl
 have hg := h.gl
 rw [ho] at hg
 obtain ⟨_, _, hc⟩ := owns_cells hg
 refine ⟨p, gc, ho, fun h0 => ?_⟩
 obtain ⟨g, e, h1, _, _, h4⟩ := hc h0
 refine ⟨g, e, h1, fun i hi => ?_⟩
 rw [h4 i (by omega)]
 unfold nmC
 rw [List.getElem?_map, List.getElem?_eq_getElem hi]
 rfl
def IxP (l : List (List Int)) (n : List Int) (z : Int) : Prop := (z = -1 ∧ n ∉ l) ∨ ∃ j : Nat, j < l.length ∧ z = (j : Int) ∧ l[j]? = some n
theorem IxP.iff {l : List (List Int)} {n : List Int} {z : Int} (h : IxP l n z) : (decide (0 ≤ z)) = l.contains n := by
 rcases h with ⟨rfl, h⟩ | ⟨j, hj, rfl, h⟩
 ·rw [Bool.eq_iff_iff]
  simp [h]
 ·rw [Bool.eq_iff_iff]
  have := List.mem_of_getElem? h
  simp [this]
set_option maxHeartbeats 2000000 in
theorem l5global_c {c : Cx} {N : Nat} {st : St} (m : Nm) (w : World) (h : Inv c N w st) (hm : NmI c m) : Calls Tryz.prog 42 #[.pointer (some ⟨st.ab, 0, none⟩), .slice m.p m.n m.c] w fun e w' => (∃ z : Int, e = .returned (.int .i64 z) ∧ IxP (st.gl.map (·.x)) m.x z) ∧ Below w.heap.size w w' := by
 have HI := mkC h
 have HM := mkC hm
 obtain ⟨p, gc, hgv, hga⟩ := h.glAt
 have e1 := (cells10 h.blk).2.1
 rw [hgv] at e1
 have hab := (Array.getElem?_eq_some_iff.1 h.blk).1
 have hgl := h.len.2.2.2.2
 have HGA := mkC hga
 obtain ⟨n, hn⟩ : ∃ n, n = st.gl.length := ⟨_, rfl⟩
 have HN := mkC hn
 rw [← hn] at e1 hgl
 clear h hm hgv hga hn
 go_enter Tryz.func42, Tryz.ntmps42
 go_wp2_with fail
 go_loopw [5] (fun iv wr => ∃ i : Nat, i ≤ n ∧ iv = .int .i64 (i : Nat) ∧ Hid (Below w.heap.size w wr) ∧ Hid (∀ j, j < i → (st.gl.map (·.x))[j]? ≠ some m.x)) (fun iv _ => n - (intOf iv).toNat)
 case atStart => exact ⟨0, Nat.zero_le _, rfl, Below.refl _ _, fun j hj => absurd hj (Nat.not_lt_zero j)⟩
 case round =>
  obtain ⟨i, hi, rfl, hB, hJ⟩ := hrel
  have y1 := cell_keepC hB.out hab e1
  by_cases hlt : i < n
  ·have hil : i < st.gl.length := by rw [← HN.out]; exact hlt
   obtain ⟨g, rfl, hg, hcc⟩ := HGA.out (by omega)
   have y2 := cell_keepC hB.out hg (hcc i hil)
   have hgm := HI.out.gln _ (List.getElem_mem hil)
   have hbw : Below c.w0.heap.size c.w0 wr.drew := below_drewC (HI.out.bel.trans (hB.out.mono HI.out.bel.size))
   have k1 := conv_nm hgm hbw
   have k2 := conv_nm HM.out hbw
   have HEQ := mkC (str_eqb HM.out.rg hgm.rg)
   have HX : Hid ((st.gl.map (·.x))[i]? = some (st.gl[i]'hil).x) := by unfold Hid; rw [List.getElem?_map, List.getElem?_eq_getElem hil]; rfl
   unfold nmV at y2
   generalize st.gl[i]'hil = q at y2 k1 HEQ HX
   obtain ⟨qp, qn, qc, qx⟩ := q
   simp only at y2 k1 HEQ HX
   obtain ⟨s1, hs1⟩ : ∃ s1, s1 = strOfNums qx := ⟨_, rfl⟩
   obtain ⟨s2, hs2⟩ : ∃ s2, s2 = strOfNums m.x := ⟨_, rfl⟩
   rw [← hs1] at k1 HEQ
   rw [← hs2] at k2 HEQ
   clear hgm hbw hcc hs1 hs2
   by_cases hxe : qx = m.x
   ·have heq : (s1.toList == s2.toList) = true := by rw [HEQ.out]; exact decide_eq_true hxe
    clear HEQ
    go_wp2_with fail
    go_region
    all_goals go_wp2
    all_goals go_ret
    all_goals exact ⟨⟨_, rfl, Or.inr ⟨i, by rw [List.length_map]; exact hil, rfl, by rw [HX.out, hxe]⟩⟩, below_drewC hB.out⟩
   ·have heq : (s1.toList == s2.toList) = false := by rw [HEQ.out]; exact decide_eq_false hxe
    clear HEQ
    go_wp2_with fail
    go_region
    all_goals go_wp2
    all_goals exact ⟨⟨i + 1, by omega, by go_num, below_drewC hB.out, fun j hj => by rcases (show j < i ∨ j = i by omega) with h1 | h1; exact hJ.out j h1; rw [h1, HX.out]; exact fun e => hxe (Option.some.inj e)⟩, by simp [intOf]; omega⟩
  ·have HNO : Hid (m.x ∉ st.gl.map (·.x)) := fun hmem => by
    obtain ⟨j, hj, he⟩ := List.getElem_of_mem hmem
    refine hJ.out j (by rw [List.length_map] at hj; have := HN.out; omega) ?_
    rw [List.getElem?_eq_getElem hj, he]
   go_wp2_with fail
   go_ret
   exact ⟨⟨_, rfl, Or.inl ⟨rfl, HNO.out⟩⟩, hB.out⟩
def FdP (st : St) (x : List Int) (z : Int) (p : Option Addr) (n cc : Nat) (s b : Int) : Prop :=
 (z = -1 ∧ (∀ f ∈ st.all, ∀ v ∈ f.vs, v.m.x ≠ x) ∧ p = none ∧ n = 0 ∧ cc = 0 ∧ s = 0 ∧ b = 0) ∨
 ∃ (lev j : Nat) (f : Fn5) (v : Vr), z = (lev : Int) ∧ st.all[lev]? = some f ∧ f.vs[j]? = some v ∧ v.m.x = x ∧ (∀ j' v', j < j' → f.vs[j']? = some v' → v'.m.x ≠ x) ∧ (∀ l' f', lev < l' → st.all[l']? = some f' → ∀ v' ∈ f'.vs, v'.m.x ≠ x) ∧ p = v.m.p ∧ n = v.m.n ∧ cc = v.m.c ∧ s = v.slot ∧ b = (v.bound : Int)
theorem FdP.iff {st : St} {x : List Int} {z : Int} {p : Option Addr} {n cc : Nat} {s b : Int} (h : FdP st x z p n cc s b) : (decide (0 ≤ z)) = st.sc.contains x := by
 have hsc : x ∈ st.sc ↔ ∃ f ∈ st.all, ∃ v ∈ f.vs, v.m.x = x := by simp [St.sc, List.mem_flatMap]
 rw [Bool.eq_iff_iff, decide_eq_true_iff, List.contains_iff_mem, hsc]
 rcases h with ⟨rfl, h, _⟩ | ⟨lev, j, f, v, rfl, h1, h2, h3, _⟩
 ·constructor
  ·intro h0; omega
  ·rintro ⟨f, hf, v, hv, e⟩
   exact absurd e (h f hf v hv)
 ·constructor
  ·intro _; exact ⟨f, List.mem_of_getElem? h1, v, List.mem_of_getElem? h2, h3⟩
  ·intro _; omega
theorem vrC_at (vs : List Vr) (j : Nat) (hj : j < vs.length) : (vrC vs)[j * 3]? = some (nmV (vs[j]'hj).m) ∧ (vrC vs)[j * 3 + 1]? = some (.int .i64 (vs[j]'hj).slot) ∧ (vrC vs)[j * 3 + 2]? = some (.int .i64 ((vs[j]'hj).bound : Nat)) := by
 induction vs generalizing j with
 | nil => exact absurd hj (Nat.not_lt_zero j)
 | cons v vs ih =>
  have e : vrC (v :: vs) = [nmV v.m, .int .i64 v.slot, .int .i64 (v.bound : Nat)] ++ vrC vs := rfl
  cases j with
  | zero => rw [e]; exact ⟨rfl, rfl, rfl⟩
  | succ j =>
   obtain ⟨h1, h2, h3⟩ := ih j (by simpa using hj)
   rw [e, show (j + 1) * 3 = j * 3 + 3 by omega]
   refine ⟨?_, ?_, ?_⟩
   ·rw [List.getElem?_append_right (by simp)]; exact h1
   ·rw [List.getElem?_append_right (by simp)]; exact h2
   ·rw [List.getElem?_append_right (by simp)]; exact h3
theorem FnI.vrAt {c : Cx} {w : World} {f : Fn5} (h : FnI c w f) : ∃ p vc, f.vv = .slice p f.vs.length vc ∧ f.vs.length ≤ vc ∧ vc ≤ maxLen ∧ (0 < f.vs.length → ∃ g, p = some ⟨g, 0, none⟩ ∧ g < w.heap.size ∧ ∀ j (hj : j < f.vs.length), w.cell? ⟨g, j * 3, none⟩ = some (nmV (f.vs[j]'hj).m) ∧ w.cell? ⟨g, j * 3 + 1, none⟩ = some (.int .i64 (f.vs[j]'hj).slot) ∧ w.cell? ⟨g, j * 3 + 2, none⟩ = some (.int .i64 ((f.vs[j]'hj).bound : Nat))) := by
 obtain ⟨p, vc, ho⟩ := owns_form h.vars
 have hg := h.vars
 rw [ho] at hg
 obtain ⟨hc1, hc2, hc⟩ := owns_cells hg
 refine ⟨p, vc, ho, hc1, hc2, fun h0 => ?_⟩
 obtain ⟨g, e, h1, _, _, h4⟩ := hc h0
 refine ⟨g, e, h1, fun j hj => ?_⟩
 obtain ⟨q1, q2, q3⟩ := vrC_at f.vs j hj
 rw [h4 (j * 3) (by omega), h4 (j * 3 + 1) (by omega), h4 (j * 3 + 2) (by omega)]
 exact ⟨q1, q2, q3⟩
theorem infoVr : (Tryz.prog.info? 193).map (fun i => (i.zero, i.size, i.bytes)) = some (some (.agg #[.slice none 0 0, .int .i64 0, .int .i64 0]), 3, 40) := by kernel_rfl
theorem set3 {w : World} {k : Nat} {a b c : Value} {t : TypeId} (e : w.heap[k]? = some (.cells #[a, b, c] t)) (x y z : Value) : (((w.setCell ⟨k, 0, none⟩ x).setCell ⟨k, 1, none⟩ y).setCell ⟨k, 2, none⟩ z).heap[k]? = some (.cells #[x, y, z] t) := by
 have h1 : (w.setCell ⟨k, 0, none⟩ x).heap[k]? = some (.cells #[x, b, c] t) := by simp [World.setCell, Array.getElem?_modify, e]
 have h2 : ((w.setCell ⟨k, 0, none⟩ x).setCell ⟨k, 1, none⟩ y).heap[k]? = some (.cells #[x, y, c] t) := by
  generalize w.setCell ⟨k, 0, none⟩ x = v at h1 ⊢
  simp [World.setCell, Array.getElem?_modify, h1]
 generalize (w.setCell ⟨k, 0, none⟩ x).setCell ⟨k, 1, none⟩ y = v at h2 ⊢
 simp [World.setCell, Array.getElem?_modify, h2]
theorem cells3C {w : World} {k : Nat} {a b c : Value} {t : TypeId} (e : w.heap[k]? = some (.cells #[a, b, c] t)) : w.cell? ⟨k, 0, none⟩ = some a ∧ w.cell? ⟨k, 1, none⟩ = some b ∧ w.cell? ⟨k, 2, none⟩ = some c ∧ ∀ o, w.frozen? ⟨k, o, none⟩ = false := by
 refine ⟨?_, ?_, ?_, fun o => ?_⟩ <;> simp [World.cell?, World.frozen?, e]
set_option maxRecDepth 20000 in
set_option maxHeartbeats 4000000 in
theorem l5find_c {c : Cx} {N : Nat} {st : St} (m : Nm) (w : World) (h : Inv c N w st) (hm : NmI c m) (hN : N ≤ 1000000000) : Calls Tryz.prog 130 #[.pointer (some ⟨st.ab, 0, none⟩), .slice m.p m.n m.c] w fun e w' => (∃ (z : Int) (p : Option Addr) (n cc : Nat) (s b : Int), e = .returned (.tuple #[.int .i64 z, .agg #[.slice p n cc, .int .i64 s, .int .i64 b]]) ∧ FdP st m.x z p n cc s b) ∧ Below w.heap.size w w' := by
 have HM := mkC hm
 obtain ⟨W, hW⟩ : ∃ W, W = w.alloc (.cells #[.slice none 0 0, .int .i64 0, .int .i64 0] 193) := ⟨_, rfl⟩
 have HBW : Hid (Below w.heap.size w W) := by unfold Hid; rw [hW]; exact below1 w _
 have HI := mkC (h.below HBW.out).1
 have HRB : Hid (W.heap[w.heap.size]? = some (.cells #[.slice none 0 0, .int .i64 0, .int .i64 0] 193)) := by unfold Hid; rw [hW]; exact Go.Deep.blk_alloc_new _ _
 have hwW : w.heap.size < W.heap.size := by rw [hW]; simp
 obtain ⟨g, oc, hop, hg, _, _, hcc⟩ := HI.out.opAt
 have e5 := (cells10 HI.out.blk).2.2.2.2.1
 rw [hop] at e5
 have hab := (Array.getElem?_eq_some_iff.1 HI.out.blk).1
 have HCC := mkC hcc
 have hlen := h.len.1
 have hl2 : st.all.length = st.lo.length + 1 := all_len st
 obtain ⟨k, hk⟩ : ∃ k, k = st.lo.length := ⟨_, rfl⟩
 have HK := mkC hk
 rw [← hk] at e5 hl2
 have hkN : k ≤ 1000000000 := by omega
 rw [hW] at e5
 have HWE := mkC hW
 clear h hm hop hcc hk hW hlen
 go_enter Tryz.func130, Tryz.ntmps130
 go_wp2_with fail
 rw [← HWE.out]
 clear e5
 go_loopw [6] (fun lv wr => ∃ L : Int, -1 ≤ L ∧ L ≤ k ∧ lv = .int .i64 L ∧ Hid (Below W.heap.size W wr) ∧ Hid (∀ l' f', L < (l' : Nat) → st.all[l']? = some f' → ∀ v' ∈ f'.vs, v'.m.x ≠ m.x)) (fun lv _ => (intOf lv + 1).toNat)
 case atStart => exact ⟨k, by omega, by omega, rfl, Below.refl _ _, fun l' f' hl hf => by have := (List.getElem?_eq_some_iff.1 hf).1; omega⟩
 case round =>
  obtain ⟨L, hL0, hL1, rfl, hB, hJ⟩ := hrel
  rename World => wo
  have HIr := mkC (HI.out.below hB.out).1
  by_cases hpos : 0 ≤ L
  ·obtain ⟨lev, rfl⟩ := Int.eq_ofNat_of_zero_le hpos
   have hlev : lev < st.all.length := by omega
   have y5 := (cells10 HIr.out.blk).2.2.2.2.1
   obtain ⟨g', oc', hop', _, _, _, hcc'⟩ := HIr.out.opAt
   rw [hop', ← HK.out] at y5
   have y6 := hcc' lev hlev
   have hfi := HIr.out.fns _ (List.getElem_mem hlev)
   have hfw := HIr.out.fnw _ (List.getElem_mem hlev)
   have y7 := (cells5 hfi.blk).1
   obtain ⟨vp, vc, hvv, hvc1, hvc2, hva⟩ := hfi.vrAt
   rw [hvv] at y7
   have hvn : (st.all[lev]'hlev).vs.length ≤ 1000000000 := Nat.le_trans hfw.vn hN
   have HVA := mkC hva
   have HNM : Hid (∀ v ∈ (st.all[lev]'hlev).vs, NmI c v.m) := hfi.nms
   have HFE : Hid (st.all[lev]? = some (st.all[lev]'hlev)) := List.getElem?_eq_getElem hlev
   clear hop' hcc' hfi hfw hvv hva
   generalize st.all[lev]'hlev = f at y6 y7 hvn HVA HNM HFE hvc1
   obtain ⟨n, hn⟩ : ∃ n, n = f.vs.length := ⟨_, rfl⟩
   have HN' := mkC hn
   rw [← hn] at y7 hvn hvc1
   clear hn
   go_wp2_with fail
   go_loopw [8] (fun iv w2 => ∃ I : Int, -1 ≤ I ∧ I + 1 ≤ n ∧ iv = .int .i64 I ∧ Hid (Below wo.heap.size wo w2) ∧ Hid (∀ j' v', I < (j' : Nat) → f.vs[j']? = some v' → v'.m.x ≠ m.x)) (fun iv _ => (intOf iv + 1).toNat)
   case atStart => exact ⟨(n : Int) - 1, by omega, by omega, by go_num, Below.refl _ _, fun j' v' hj hv => by have := (List.getElem?_eq_some_iff.1 hv).1; rw [← HN'.out] at this; omega⟩
   case round =>
    obtain ⟨I, hI0, hI1, rfl, hB2, hJ2⟩ := hrel
    rename World => w2
    clear y5 y6 y7
    by_cases hIp : 0 ≤ I
    ·obtain ⟨j, rfl⟩ := Int.eq_ofNat_of_zero_le hIp
     have hjl : j < f.vs.length := by rw [← HN'.out]; omega
     obtain ⟨vg, rfl, hvg, hvcells⟩ := HVA.out (by omega)
     obtain ⟨z0, z1, z2⟩ := hvcells j hjl
     have z0 := cell_keepC hB2.out hvg z0
     have z1 := cell_keepC hB2.out hvg z1
     have z2 := cell_keepC hB2.out hvg z2
     have hbw : Below c.w0.heap.size c.w0 w2.drew := below_drewC (HIr.out.bel.trans (hB2.out.mono HIr.out.bel.size))
     have hvm := HNM.out _ (List.getElem_mem hjl)
     have k1 := conv_nm hvm hbw
     have k2 := conv_nm HM.out hbw
     have HEQ := mkC (str_eqb HM.out.rg hvm.rg)
     have HVE : Hid (f.vs[j]? = some (f.vs[j]'hjl)) := List.getElem?_eq_getElem hjl
     unfold nmV at z0
     generalize f.vs[j]'hjl = v at z0 z1 z2 k1 HEQ HVE
     obtain ⟨⟨qp, qn, qc, qx⟩, qs, qb⟩ := v
     simp only at z0 z1 z2 k1 HEQ HVE
     obtain ⟨s1, hs1⟩ : ∃ s1, s1 = strOfNums qx := ⟨_, rfl⟩
     obtain ⟨s2, hs2⟩ : ∃ s2, s2 = strOfNums m.x := ⟨_, rfl⟩
     rw [← hs1] at k1 HEQ
     rw [← hs2] at k2 HEQ
     have hHB : Below W.heap.size W w2 := hB.out.trans (hB2.out.mono hB.out.size)
     have HHB := mkC hHB
     have HRB2 : Hid (w2.heap[w.heap.size]? = some (.cells #[.slice none 0 0, .int .i64 0, .int .i64 0] 193)) := (hHB.block _ hwW).trans HRB.out
     clear hvm hbw hvcells hs1 hs2 hHB
     by_cases hxe : qx = m.x
     ·have heq : (s1.toList == s2.toList) = true := by rw [HEQ.out]; exact decide_eq_true hxe
      clear HEQ
      obtain ⟨r0, r1, r2, f0, f1, f2⟩ : w2.cell? ⟨w.heap.size, 0, none⟩ = some (.slice none 0 0) ∧ w2.cell? ⟨w.heap.size, 1, none⟩ = some (.int .i64 0) ∧ w2.cell? ⟨w.heap.size, 2, none⟩ = some (.int .i64 0) ∧ w2.frozen? ⟨w.heap.size, 0, none⟩ = false ∧ w2.frozen? ⟨w.heap.size, 1, none⟩ = false ∧ w2.frozen? ⟨w.heap.size, 2, none⟩ = false := by
       refine ⟨?_, ?_, ?_, ?_, ?_, ?_⟩ <;> simp [World.cell?, World.frozen?, HRB2.out]
      go_wp2_with fail
      go_region
      all_goals go_wp2_with fail
      all_goals go_region
      all_goals go_wp2
      all_goals
       have hfin : ((((w2.setCell ⟨w.heap.size, 0, none⟩ (.slice qp qn qc)).setCell ⟨w.heap.size, 1, none⟩ (.int .i64 qs)).setCell ⟨w.heap.size, 2, none⟩ (.int .i64 (qb : Nat))).drew.drew).heap[w.heap.size]? = some _ := set3 HRB2.out (.slice qp qn qc) (.int .i64 qs) (.int .i64 (qb : Nat))
       have hbf : Below w.heap.size w (((w2.setCell ⟨w.heap.size, 0, none⟩ (.slice qp qn qc)).setCell ⟨w.heap.size, 1, none⟩ (.int .i64 qs)).setCell ⟨w.heap.size, 2, none⟩ (.int .i64 (qb : Nat))).drew.drew := below_drewC (below_drewC (Below.setCell (p := ⟨w.heap.size, 2, none⟩) (Below.setCell (p := ⟨w.heap.size, 1, none⟩) (Below.setCell (p := ⟨w.heap.size, 0, none⟩) (HBW.out.trans (HHB.out.mono HBW.out.size)) (Nat.le_refl _) _) (Nat.le_refl _) _) (Nat.le_refl _) _))
       generalize (((w2.setCell ⟨w.heap.size, 0, none⟩ (.slice qp qn qc)).setCell ⟨w.heap.size, 1, none⟩ (.int .i64 qs)).setCell ⟨w.heap.size, 2, none⟩ (.int .i64 (qb : Nat))).drew.drew = X at hfin hbf ⊢
       obtain ⟨c0, c1, c2, _⟩ := cells3C hfin
       exact bodyPost_ret (v := .tuple #[.int .i64 (lev : Nat), .agg #[.slice qp qn qc, .int .i64 qs, .int .i64 (qb : Nat)]]) (by simp [results, Tryz.results130, go_sem, c0, c1, c2]) rfl ⟨⟨_, _, _, _, _, _, rfl, Or.inr ⟨lev, j, f, _, rfl, HFE.out, HVE.out, hxe, fun j' v' hj hv => hJ2.out j' v' (by omega) hv, fun l' f' hl hf => hJ.out l' f' (by omega) hf, rfl, rfl, rfl, rfl, rfl⟩⟩, hbf⟩
     ·have heq : (s1.toList == s2.toList) = false := by rw [HEQ.out]; exact decide_eq_false hxe
      clear HEQ
      go_wp2_with fail
      go_region
      all_goals go_wp2
      all_goals exact ⟨⟨(j : Int) - 1, by omega, by omega, by go_num, below_drewC hB2.out, fun j' v' hj hv => by rcases (show (j : Int) < j' ∨ j' = j by omega) with h1 | h1; exact hJ2.out j' v' h1 hv; rw [h1, HVE.out] at hv; cases hv; exact hxe⟩, by simp [intOf]⟩
    ·have HNX : Hid (∀ l' f', (lev : Int) - 1 < (l' : Nat) → st.all[l']? = some f' → ∀ v' ∈ f'.vs, v'.m.x ≠ m.x) := fun l' f' hl hf v' hv => by
      rcases (show (lev : Int) < l' ∨ l' = lev by omega) with h1 | h1
      ·exact hJ.out l' f' h1 hf v' hv
      ·rw [h1, HFE.out] at hf
       cases hf
       obtain ⟨j', hj', rfl⟩ := List.getElem_of_mem hv
       exact hJ2.out j' _ (by omega) (List.getElem?_eq_getElem hj')
     go_wp2
     exact ⟨⟨(lev : Int) - 1, by omega, by omega, by go_num, hB.out.trans (hB2.out.mono hB.out.size), HNX.out⟩, by simp [intOf]⟩
  ·have HNO : Hid (∀ f ∈ st.all, ∀ v ∈ f.vs, v.m.x ≠ m.x) := fun f hf v hv => by
    obtain ⟨l', hl', rfl⟩ := List.getElem_of_mem hf
    exact hJ.out l' _ (by omega) (List.getElem?_eq_getElem hl') v hv
   have HRB2 : Hid (wo.heap[w.heap.size]? = some (.cells #[.slice none 0 0, .int .i64 0, .int .i64 0] 193)) := (hB.out.block _ hwW).trans HRB.out
   obtain ⟨r0, r1, r2, f0, f1, f2⟩ : wo.cell? ⟨w.heap.size, 0, none⟩ = some (.slice none 0 0) ∧ wo.cell? ⟨w.heap.size, 1, none⟩ = some (.int .i64 0) ∧ wo.cell? ⟨w.heap.size, 2, none⟩ = some (.int .i64 0) ∧ wo.frozen? ⟨w.heap.size, 0, none⟩ = false ∧ wo.frozen? ⟨w.heap.size, 1, none⟩ = false ∧ wo.frozen? ⟨w.heap.size, 2, none⟩ = false := by
    refine ⟨?_, ?_, ?_, ?_, ?_, ?_⟩ <;> simp [World.cell?, World.frozen?, HRB2.out]
   go_wp2_with fail
   have hfin := set3 HRB2.out (.slice none 0 0) (.int .i64 0) (.int .i64 0)
   have hbf : Below w.heap.size w (((wo.setCell ⟨w.heap.size, 0, none⟩ (.slice none 0 0)).setCell ⟨w.heap.size, 1, none⟩ (.int .i64 0)).setCell ⟨w.heap.size, 2, none⟩ (.int .i64 0)) := Below.setCell (p := ⟨w.heap.size, 2, none⟩) (Below.setCell (p := ⟨w.heap.size, 1, none⟩) (Below.setCell (p := ⟨w.heap.size, 0, none⟩) (HBW.out.trans (hB.out.mono HBW.out.size)) (Nat.le_refl _) _) (Nat.le_refl _) _) (Nat.le_refl _) _
   generalize (((wo.setCell ⟨w.heap.size, 0, none⟩ (.slice none 0 0)).setCell ⟨w.heap.size, 1, none⟩ (.int .i64 0)).setCell ⟨w.heap.size, 2, none⟩ (.int .i64 0)) = X at hfin hbf ⊢
   obtain ⟨c0, c1, c2, _⟩ := cells3C hfin
   exact bodyPost_ret (v := .tuple #[.int .i64 (-1), .agg #[.slice none 0 0, .int .i64 0, .int .i64 0]]) (by simp [results, Tryz.results130, go_sem, c0, c1, c2]) rfl ⟨⟨_, _, _, _, _, _, rfl, Or.inl ⟨rfl, HNO.out, rfl, rfl, rfl, rfl, rfl⟩⟩, hbf⟩
set_option maxHeartbeats 2000000 in
theorem l5means_c {c : Cx} {N : Nat} {st : St} (m : Nm) (w : World) (h : Inv c N w st) (hm : NmI c m) (hN : N ≤ 1000000000) : Calls Tryz.prog 83 #[.pointer (some ⟨st.ab, 0, none⟩), .slice m.p m.n m.c] w fun e w' => e = .returned (.bool (bnd (st.gl.map (·.x)) st.sc m.x)) ∧ Below w.heap.size w w' := by
 have HI := mkC h
 have HM := mkC hm
 have HF := mkC (l5find_c m w h hm hN)
 clear h hm
 go_enter Tryz.func83, Tryz.ntmps83
 go_wp2_with fail
 refine HF.out.mono ?_
 rintro e w1 ⟨⟨z, vp, vn, vc, vs, vb, rfl, hfd⟩, hb1⟩
 have HB1 := mkC hb1
 have HZ := mkC hfd.iff
 clear hfd hb1 HF
 by_cases hz : 0 ≤ z
 ·have HS : Hid (bnd (st.gl.map (·.x)) st.sc m.x = true) := by
   have h1 := HZ.out
   rw [decide_eq_true hz] at h1
   unfold Hid bnd
   rw [← h1]; rfl
  clear HZ
  go_wp2_with fail
  go_ret
  exact ⟨ret_bool HS.out.symm, HB1.out.trans ((below1 _ _).mono HB1.out.size)⟩
 ·have HS : Hid (bnd (st.gl.map (·.x)) st.sc m.x = (st.gl.map (·.x)).contains m.x) := by
   have h1 := HZ.out
   rw [decide_eq_false hz] at h1
   unfold Hid bnd
   rw [← h1]; rfl
  clear HZ
  obtain ⟨W, hW⟩ : ∃ W, W = w1.alloc (.cells #[.slice vp vn vc, .int .i64 vs, .int .i64 vb] 193) := ⟨_, rfl⟩
  have HBW : Hid (Below w.heap.size w W) := by unfold Hid; rw [hW]; exact HB1.out.trans ((below1 _ _).mono HB1.out.size)
  have HG := mkC (l5global_c m W (HI.out.below HBW.out).1 HM.out)
  have HWE := mkC hW
  clear hW
  go_wp2_with fail
  rw [← HWE.out]
  refine HG.out.mono ?_
  rintro e w2 ⟨⟨z2, rfl, hix⟩, hb2⟩
  have HIX := mkC hix.iff
  have HB2 : Hid (Below w.heap.size w w2) := HBW.out.trans (hb2.mono HBW.out.size)
  clear hix hb2
  obtain ⟨bb, hbb⟩ : ∃ bb, bb = (st.gl.map (·.x)).contains m.x := ⟨_, rfl⟩
  rw [← hbb] at HIX HS
  have hd : decide (0 ≤ z2) = bb := HIX.out
  clear hbb
  go_wp2_with fail
  go_ret
  exact ⟨ret_bool (by rw [HS.out, decide_eq_false (show ¬ (0 : Int) ≤ z by omega)]; simp), HB2.out⟩
theorem owns_put {w : World} {B n size g k cap : Nat} {e : TypeId} {xs : List Value} (h : w.ownsRow B e size (.slice (some ⟨g, 0, none⟩) n cap) n xs) (x : Value) : (w.setCell ⟨g, k, none⟩ x).ownsRow B e size (.slice (some ⟨g, 0, none⟩) n cap) n (xs.set k x) := by
 obtain ⟨h1, ⟨hv, _⟩ | ⟨g', cap', cur, hv, hg, hh, h2, h3, h4, h5⟩⟩ := h
 ·cases hv
 ·cases hv
  refine ⟨by simpa using h1, Or.inr ⟨g, cap, cur.setIfInBounds k x, rfl, hg, ?_, h2, h3, by simpa using h4, ?_⟩⟩
  ·simp [World.setCell, Array.getElem?_modify, hh]
  ·rw [Array.toList_setIfInBounds, List.take_set, h5]
def Fn5.aim (f : Fn5) (k : Nat) (x : Value) : Fn5 := { f with cs := f.cs.set k x }
theorem Inv.aim {c : Cx} {N : Nat} {w : World} {st : St} (h : Inv c N w st) {g cap k : Nat} (hv : st.tp.cv = .slice (some ⟨g, 0, none⟩) st.tp.cn cap) (x : Value) : Stp c N st w (st.top (st.tp.aim k x)) (w.setCell ⟨g, k, none⟩ x) := by
 have hf := h.tpI
 have hc := hf.code
 have hgb : st.tp.cv.ownBlock = some g := by rw [hv]; rfl
 obtain ⟨hgl, cur, hgc⟩ := owns_lt hc g hgb
 have hb : Below c.w0.heap.size w (w.setCell ⟨g, k, none⟩ x) := Below.setCell (Below.refl _ _) (p := ⟨g, k, none⟩) (owns_ge hc g hgb) x
 have := h.putT (N' := N) (f' := st.tp.aim k x) hb (fun j hj hn => set_keep x (fun e => hn (Or.inr (Or.inr (Or.inr (by rw [e]; exact hgb)))))) ⟨?_, hf.b0, owns_set hf.vars hgc (by decide) x, owns_set hf.free hgc (by decide) x, ?_, ?_, hf.nms⟩ rfl (fun j hj => Or.inl hj) (fun j hj => Or.inl hj) (fun j hj => Or.inl hj) ?_ (Nat.le_refl _)
 ·exact ⟨this.1, this.2, sm_top rfl rfl (Nat.le_refl _)⟩
 ·exact (set_keep x (fun e : st.tp.b = g => by have := hf.blk; rw [e, hgc] at this; cases this)).trans hf.blk
 ·show World.ownsRow _ _ _ _ st.tp.cv st.tp.cn (st.tp.cs.set k x)
  rw [hv] at hc ⊢
  exact owns_put hc x
 ·show (st.tp.cs.set k x).length = _
  rw [List.length_set]
  exact hf.clen
 ·have hw := h.tpW
  exact ⟨hw.vb, hw.fb, hw.nd, hw.cn, hw.vn⟩
set_option maxHeartbeats 2000000 in
theorem l5aim_c {c : Cx} {N : Nat} {st : St} (at_ : Nat) (w : World) (h : Inv c N w st) (hat : at_ < st.tp.cn) (hN : N ≤ 1000000000) : Calls Tryz.prog 170 #[.pointer (some ⟨st.ab, 0, none⟩), .int .i64 (at_ : Nat)] w fun e w' => (∃ u, e = .returned u) ∧ ∃ st', Stp c N st w st' w' ∧ Qt st st' := by
 have HI := mkC h
 have HT := mkC (l5top_c w h hN)
 have hcn : st.tp.cn ≤ 1000000000 := Nat.le_trans h.tpW.cn hN
 clear h
 go_enter Tryz.func170, Tryz.ntmps170
 go_wp2_with fail
 refine HT.out.mono ?_
 rintro e w1 ⟨rfl, hb1⟩
 have HS1 := mkC (HI.out.stp hb1)
 have hfi := HS1.out.inv.tpI
 have e3 := (cells5 hfi.blk).2.2.2.1
 obtain ⟨p, cap, hcv⟩ := owns_form hfi.code
 have hcode := hfi.code
 rw [hcv] at hcode e3
 obtain ⟨_, _, hcc⟩ := owns_cells hcode
 obtain ⟨g, rfl, hg, _, ⟨cur, hcur⟩, hcells⟩ := hcc (by omega)
 have e4 : ∃ y, w1.cell? ⟨g, at_ * 3 + 1, none⟩ = some y := by
  have h1 := hcells (at_ * 3 + 1) (by omega)
  have h2 : at_ * 3 + 1 < st.tp.cs.length := by rw [hfi.clen]; omega
  rw [List.getElem?_eq_getElem h2] at h1
  exact ⟨_, h1⟩
 obtain ⟨y, e4⟩ := e4
 have e5 : w1.frozen? ⟨g, at_ * 3 + 1, none⟩ = false := by simp [World.frozen?, hcur]
 have HCV := mkC hcv
 obtain ⟨cn, hcnE⟩ : ∃ cn, cn = st.tp.cn := ⟨_, rfl⟩
 have HCN := mkC hcnE
 rw [← hcnE] at hcn hat e3
 have HA : Hid (∀ x, Stp c N st w (st.top (st.tp.aim (at_ * 3 + 1) x)) ((w1.setCell ⟨g, at_ * 3 + 1, none⟩ x).drew)) := fun x => by
  have h1 := HS1.out.trans (HS1.out.inv.aim hcv (k := at_ * 3 + 1) x)
  exact h1.trans (h1.inv.stp (below_drewC (Below.refl _ _)))
 clear hb1 HT hfi hcode hcells hcur hcc hcv hcnE
 go_wp2_with fail
 go_region
 all_goals go_wp2
 all_goals go_end0
 all_goals exact ⟨⟨_, rfl⟩, _, HA.out _, rfl, rfl, rfl⟩
theorem nodup_lt {L : Nat} : ∀ {l : List Nat}, l.Nodup → (∀ x ∈ l, x < L) → l.length ≤ L := by
 induction L with
 | zero =>
  intro l _ h
  cases l with
  | nil => exact Nat.le_refl _
  | cons a l => exact absurd (h a (by simp)) (Nat.not_lt_zero a)
 | succ L ih =>
  intro l hn h
  have h1 := ih (l := l.filter (fun x => decide (x ≠ L))) (hn.filter _) (fun x hx => by
   have h2 := List.mem_filter.1 hx
   have h3 := h x h2.1
   have h4 : x ≠ L := by simpa using h2.2
   omega)
  have h2 : l.length ≤ (l.filter (fun x => decide (x ≠ L))).length + 1 := by
   clear ih h h1
   induction l with
   | nil => simp
   | cons a l ih2 =>
    rw [List.nodup_cons] at hn
    by_cases ha : a = L
    ·subst ha
     have h5 : l.filter (fun x => decide (x ≠ a)) = l := List.filter_eq_self.2 (fun x hx => by simp; exact fun e => hn.1 (e ▸ hx))
     rw [List.filter_cons_of_neg (by simp), h5]
     simp
    ·rw [List.filter_cons_of_pos (by simpa using ha)]
     simp only [List.length_cons]
     have := ih2 hn.2
     omega
  omega
theorem FnI.frAt {c : Cx} {w : World} {f : Fn5} (h : FnI c w f) : ∃ p vc, f.fv = .slice p f.fs.length vc ∧ (0 < f.fs.length → ∃ g, p = some ⟨g, 0, none⟩ ∧ g < w.heap.size ∧ ∀ j (hj : j < f.fs.length), w.cell? ⟨g, j, none⟩ = some (.int .i64 ((f.fs[j]'hj : Nat) : Int))) := by
 obtain ⟨p, vc, ho⟩ := owns_form h.free
 have hg := h.free
 rw [ho] at hg
 obtain ⟨_, _, hc⟩ := owns_cells hg
 refine ⟨p, vc, ho, fun h0 => ?_⟩
 obtain ⟨g, e, h1, _, _, h4⟩ := hc h0
 refine ⟨g, e, h1, fun j hj => ?_⟩
 rw [h4 j (by omega)]
 unfold inC
 rw [List.getElem?_map, List.getElem?_eq_getElem hj]
 rfl
def Fn5.cap (f : Fn5) (v : Value) (x : Nat) : Fn5 := { f with fv := v, fs := f.fs ++ [x] }
theorem put_nf (st : St) (i : Nat) (f : Fn5) : (st.put i f).nf = st.nf := by
 unfold St.put
 split <;> rfl
theorem sm_put {st : St} {i : Nat} {f : Fn5} (hi : i < st.all.length) (hb : f.b = (st.all[i]'hi).b) (hv : f.vs = (st.all[i]'hi).vs) (hc : (st.all[i]'hi).cn ≤ f.cn) : Sm st (st.put i f) := by
 obtain ⟨q1, q2, q3, q4, q5, q6, _⟩ := put_fields st i f
 have hall := all_put (f := f) hi
 refine ⟨q1, q3, q2, ?_, fun j g g' h1 h2 => ?_, by rw [q5]; exact Nat.le_refl _, by rw [q6]; exact Nat.le_refl _, Nat.le_of_eq (put_nf st i f).symm⟩
 ·have := congrArg List.length hall
  rw [List.length_set, all_len, all_len] at this
  omega
 ·rw [hall, List.getElem?_set] at h2
  by_cases hij : i = j
  ·subst hij
   rw [if_pos rfl, if_pos hi] at h2
   cases h2
   rw [List.getElem?_eq_getElem hi] at h1
   cases h1
   exact ⟨hb, hv, hc⟩
  ·rw [if_neg hij, h1] at h2
   cases h2
   exact ⟨rfl, rfl, Nat.le_refl _⟩
theorem qt_put (st : St) (i : Nat) (f : Fn5) : Qt st (st.put i f) := by
 obtain ⟨_, _, _, _, _, q6, _, _, _, _, _, _, q13, _, q15⟩ := put_fields st i f
 exact ⟨q13, q15, q6⟩
theorem Inv.cap {c : Cx} {N : Nat} {w w2 : World} {st : St} (h : Inv c N w st) {i x : Nat} (hi : i < st.all.length) {v' : Value} (hx : x < st.bx.length) (hn : x ∉ (st.all[i]'hi).fs) (ho : w2.ownsRow c.w0.heap.size 3 1 v' ((st.all[i]'hi).fs.length + 1) (inC (st.all[i]'hi).fs ++ [.int .i64 (x : Nat)])) (hb : Below c.w0.heap.size w w2) (hbt : But w w2 (st.all[i]'hi).fv) (hl : ∀ k, v'.ownBlock = some k → (st.all[i]'hi).fv.ownBlock = some k ∨ w.heap.size ≤ k) :
  Stp c N st w (st.put i ((st.all[i]'hi).cap v' x)) (w2.setCell ⟨(st.all[i]'hi).b, 1, none⟩ v') := by
 have hf := h.fns _ (List.getElem_mem hi)
 have hw := h.fnw _ (List.getElem_mem hi)
 generalize hfE : st.all[i]'hi = f at hf hw hn ho hbt hl
 have hbl := (Array.getElem?_eq_some_iff.1 hf.blk).1
 have hb2 : w2.heap[f.b]? = some _ := (hbt _ hbl (owns_ne hf.free hf.blk (by decide))).trans hf.blk
 have hb3 := (set_fn hb2 v').2.1
 have row : ∀ {n size : Nat} {e : TypeId} {v : Value} {xs : List Value}, w2.ownsRow c.w0.heap.size e size v n xs → e ≠ 86 → (w2.setCell ⟨f.b, 1, none⟩ v').ownsRow c.w0.heap.size e size v n xs := fun hv he => owns_set hv hb2 (fun e => he e.symm) v'
 have := h.putF (N' := N) (f' := f.cap v' x) hi (Below.setCell hb (p := ⟨f.b, 1, none⟩) hf.b0 v') (fun k hk hnn => ?_) ⟨hb3, hf.b0, row (owns_but hf.vars (apt_ty hf.vars hf.free (by decide)) hbt) (by decide), ?_, row (owns_but hf.code (apt_ty hf.code hf.free (by decide)) hbt) (by decide), hf.clen, hf.nms⟩ (by rw [hfE]; rfl) (fun k hk => by rw [hfE]; exact Or.inl hk) (fun k hk => by rw [hfE]; exact hl k hk) (fun k hk => by rw [hfE]; exact Or.inl hk) ?_ (Nat.le_refl _)
 ·exact ⟨this.1, this.2, sm_put hi (by rw [hfE]; rfl) (by rw [hfE]; rfl) (by rw [hfE]; exact Nat.le_refl _)⟩
 ·rw [hfE] at hnn
  have h1 : k ≠ f.b := fun e => hnn (Or.inl e)
  exact (set_keep _ h1).trans (hbt k hk (fun e => hnn (Or.inr (Or.inr (Or.inl e.symm)))))
 ·show World.ownsRow _ _ _ _ v' (f.fs ++ [x]).length (inC (f.fs ++ [x]))
  rw [List.length_append]
  unfold inC at ho ⊢
  rw [List.map_append]
  exact row ho (by decide)
 ·refine ⟨hw.vb, fun y hy => ?_, ?_, hw.cn, hw.vn⟩
  ·rcases List.mem_append.1 hy with hy | hy
   ·exact hw.fb y hy
   ·obtain rfl := List.mem_singleton.1 hy
    exact hx
  ·show (f.fs ++ [x]).Nodup
   rw [List.nodup_append]
   exact ⟨hw.nd, by simp, fun a ha b hb' e => by simp at hb'; subst hb'; exact hn (e ▸ ha)⟩
theorem info3C : (Tryz.prog.info? 3).map (fun i => (i.zero, i.size, i.bytes)) = some (some (.int .i64 0), 1, 8) := by kernel_rfl
def CpP (c : Cx) (N : Nat) (st : St) (w w' : World) (e : Ending) : Prop := (∃ z : Int, e = .returned (.int .i64 z)) ∧ ∃ st', Stp c N st w st' w' ∧ Qt st st'
set_option maxHeartbeats 4000000 in
theorem capture_tail {c : Cx} {N : Nat} (lev home x : Nat) (hN : N ≤ 1000000000) (hrec : ∀ (st : St) (w : World), Inv c N w st → lev - 1 < st.all.length → x < st.bx.length → home < lev - 1 → Calls Tryz.prog 169 #[.pointer (some ⟨st.ab, 0, none⟩), .int .i64 ((lev - 1 : Nat) : Int), .int .i64 (home : Nat), .int .i64 (x : Nat)] w fun e w' => CpP c N st w w' e) (st : St) (w : World) (h : Inv c N w st) (hlev : lev < st.all.length) (hx : x < st.bx.length) (hh : home < lev) :
  Calls Tryz.prog 169 #[.pointer (some ⟨st.ab, 0, none⟩), .int .i64 (lev : Nat), .int .i64 (home : Nat), .int .i64 (x : Nat)] w fun e w' => CpP c N st w w' e := by
 have HI := mkC h
 have hlN : lev ≤ 1000000000 := by have := h.len.1; omega
 have hx3 : x < 3000 := by have := h.b2; omega
 have HREC := mkC (hrec st w h)
 clear h hrec
 obtain ⟨b, hb⟩ : ∃ b, b = decide ((home : Int) < (lev : Int) - 1) := ⟨_, rfl⟩
 have hbe : decide ((home : Int) < (lev : Int) - 1) = b := hb.symm
 have HBE := mkC hb
 clear hb
 go_enter Tryz.func169, Tryz.ntmps169
 go_upto_if 14 with fail
 go_cut [] from 11 to 21 (fun wc => ∃ st1, Stp c N st w st1 wc ∧ Qt st st1)
 case first =>
  cases b
  ·go_wp2_with fail
   go_meet
   exact ⟨st, ⟨HI.out, Fr.refl _ _, Sm.refl _⟩, rfl, rfl, rfl⟩
  ·have hlt : home < lev - 1 := by have := of_decide_eq_true HBE.out.symm; omega
   have HR := mkC (HREC.out (by omega) hx hlt)
   rw [show ((lev - 1 : Nat) : Int) = (lev : Int) - 1 by omega] at HR
   go_wp2_with fail
   refine HR.out.mono ?_
   rintro e w1 ⟨⟨z, rfl⟩, st1, h1, h2⟩
   have H1 := mkC h1
   have H2 := mkC h2
   clear h1 h2
   go_wp2_with fail
   go_meet
   exact ⟨st1, H1.out, H2.out⟩
 case rest =>
  obtain ⟨st1, hs1, hq1⟩ := hcut
  have HS1 := mkC hs1
  have HQ1 := mkC hq1
  have HI1 := mkC hs1.inv
  have hlev1 : lev < st1.all.length := by rw [all_len, hs1.sm.len, ← all_len]; exact hlev
  have hx1 : x < st1.bx.length := Nat.lt_of_lt_of_le hx hs1.sm.bx
  have hab1 : st1.ab = st.ab := hs1.sm.ab
  have y5 := (cells10 HI1.out.blk).2.2.2.2.1
  obtain ⟨g, oc, hop, _, _, _, hcc⟩ := HI1.out.opAt
  rw [hop, hab1] at y5
  have y6 := hcc lev hlev1
  have hfi := HI1.out.fns _ (List.getElem_mem hlev1)
  have hfw := HI1.out.fnw _ (List.getElem_mem hlev1)
  have hk1 : st1.lo.length ≤ 1000000000 := by have := HI1.out.len.1; rw [all_len] at this; omega
  have hll : lev < st1.lo.length + 1 := by rw [← all_len]; exact hlev1
  have HCAP : Hid (∀ v' w2, x ∉ (st1.all[lev]'hlev1).fs → w2.ownsRow c.w0.heap.size 3 1 v' ((st1.all[lev]'hlev1).fs.length + 1) (inC (st1.all[lev]'hlev1).fs ++ [.int .i64 (x : Nat)]) → Below c.w0.heap.size wc w2 → But wc w2 (st1.all[lev]'hlev1).fv → (∀ k, v'.ownBlock = some k → (st1.all[lev]'hlev1).fv.ownBlock = some k ∨ wc.heap.size ≤ k) → ∃ st', Stp c N st w st' (w2.setCell ⟨(st1.all[lev]'hlev1).b, 1, none⟩ v') ∧ Qt st st') := fun v' w2 h0 h1 h2 h3 h4 => ⟨_, HS1.out.trans (HI1.out.cap hlev1 hx1 h0 h1 h2 h3 h4), HQ1.out.trans (qt_put _ _ _)⟩
  generalize st1.all[lev]'hlev1 = f at y6 hfi hfw HCAP
  have y1 := (cells5 hfi.blk).2.1
  have hfl : f.fs.length ≤ 3000 := by have := nodup_lt hfw.nd hfw.fb; have := HI1.out.b2; omega
  obtain ⟨fp, fc, hfv, hfa⟩ := hfi.frAt
  have HFA := mkC hfa
  have HFR := mkC hfi.free
  have HFB := mkC hfi.blk
  have hcB : c.w0.heap.size ≤ wc.heap.size := HI1.out.bel.size
  rw [hfv] at y1
  have HFV := mkC hfv
  obtain ⟨n, hn⟩ : ∃ n, n = f.fs.length := ⟨_, rfl⟩
  have HNN := mkC hn
  rw [← hn] at y1 hfl
  generalize st1.lo.length = kk at y5 hk1 hll
  clear hs1 hq1 hop hcc hfi hfw hfa hfv hn
  go_wp2_with fail
  go_loop [10] (fun iv => ∃ i : Nat, i ≤ n ∧ iv = .int .i64 (i : Nat) ∧ Hid (∀ j, j < i → f.fs[j]? ≠ some x)) (fun iv => n - (intOf iv).toNat)
  case atStart => exact ⟨0, Nat.zero_le _, rfl, fun j hj => absurd hj (Nat.not_lt_zero j)⟩
  case round =>
   obtain ⟨i, hi, rfl, hJ⟩ := hrel
   by_cases hlt : i < n
   ·have hil : i < f.fs.length := by rw [← HNN.out]; exact hlt
    obtain ⟨fg, rfl, hfg, hfc⟩ := HFA.out (by omega)
    have y2 := hfc i hil
    have HXE : Hid (f.fs[i]? = some (f.fs[i]'hil)) := List.getElem?_eq_getElem hil
    generalize f.fs[i]'hil = q at y2 HXE
    clear hfc
    by_cases hqe : q = x
    ·have heq : ((q : Int) == (x : Int)) = true := by simp [hqe]
     go_wp2_with fail
     go_ret
     exact ⟨⟨_, rfl⟩, st1, HS1.out, HQ1.out⟩
    ·have heq : ((q : Int) == (x : Int)) = false := by simp; omega
     go_wp2_with fail
     exact ⟨⟨i + 1, by omega, by go_num, fun j hj => by rcases (show j < i ∨ j = i by omega) with h1 | h1; exact hJ.out j h1; rw [h1, HXE.out]; exact fun e => hqe (Option.some.inj e)⟩, by simp [intOf]; omega⟩
   ·have HNO : Hid (x ∉ f.fs) := fun hm => by
     obtain ⟨j, hj, he⟩ := List.getElem_of_mem hm
     exact hJ.out j (by have := HNN.out; omega) (by rw [List.getElem?_eq_getElem hj, he])
    have HOW : Hid (wc.ownsRow c.w0.heap.size 3 1 (.slice fp n fc) n (inC f.fs)) := by unfold Hid; have h1 := HFR.out; rw [HFV.out, ← HNN.out] at h1; exact h1
    go_wp2_with (at_builtin; refine appW_at wc rfl (.tmp 51) (.tmp 53) 77 3 rfl _ 1 8 Tryz.underlying77 info3C rfl (by decide) c.w0.heap.size (.slice fp n fc) n (inC f.fs) (by simp [Act.eval]) HOW.out #[.int .i64 (x : Nat)] rfl (by simp [Value.oneCell']) (by simp [Act.eval]) (by unfold maxLen; omega) (by omega) hcB ?_; intro v' w2 ho hb2 hbt hloc hsz; obtain ⟨p2, c2, hv2⟩ := owns_form ho; subst hv2; have HO := mkC ho; have HB2 := mkC hb2; have HBT := mkC hbt; have HLOC := mkC hloc; have q1 := (cells5 ((HBT.out _ (Array.getElem?_eq_some_iff.1 HFB.out).1 (owns_ne HOW.out HFB.out (by decide))).trans HFB.out)).2.1; have q5 := (cells5 ((HBT.out _ (Array.getElem?_eq_some_iff.1 HFB.out).1 (owns_ne HOW.out HFB.out (by decide))).trans HFB.out)).2.2.2.2.2; clear ho hb2 hbt hloc)
    go_ret
    have hfin := HCAP.out _ w2 HNO.out (by rw [← HNN.out]; exact HO.out) HB2.out (by rw [HFV.out, ← HNN.out]; exact HBT.out) (by rw [HFV.out, ← HNN.out]; exact HLOC.out)
    exact ⟨⟨_, rfl⟩, hfin⟩
theorem capture_c {c : Cx} {N : Nat} (home x : Nat) (hN : N ≤ 1000000000) : ∀ (lev : Nat) (st : St) (w : World), Inv c N w st → lev < st.all.length → x < st.bx.length → home < lev → Calls Tryz.prog 169 #[.pointer (some ⟨st.ab, 0, none⟩), .int .i64 (lev : Nat), .int .i64 (home : Nat), .int .i64 (x : Nat)] w fun e w' => CpP c N st w w' e := by
 intro lev
 induction lev with
 | zero => intro st w _ _ _ hh; exact absurd hh (Nat.not_lt_zero _)
 | succ lev ih => intro st w h hlev hx hh; exact capture_tail (lev + 1) home x hN (fun st w h1 h2 h3 h4 => ih st w h1 h2 h3 h4) st w h hlev hx hh
set_option maxRecDepth 20000 in
set_option maxHeartbeats 1000000 in
theorem l5raw_c {c : Cx} {N : Nat} {st : St} (lev : Nat) (p : Option Addr) (n cc : Nat) (s : Int) (x : Nat) (w : World) (h : Inv c N w st) (hlev : lev < st.all.length) (hx : x < st.bx.length) (hN : N ≤ 1000000000) :
  Calls Tryz.prog 131 #[.pointer (some ⟨st.ab, 0, none⟩), .int .i64 (lev : Nat), .agg #[.slice p n cc, .int .i64 s, .int .i64 (x : Nat)]] w fun e w' => (∃ u, e = .returned u) ∧ DoP c N st w w' := by
 obtain ⟨W, hW⟩ : ∃ W, W = w.alloc (.cells #[.slice p n cc, .int .i64 s, .int .i64 (x : Nat)] 193) := ⟨_, rfl⟩
 have HBW : Hid (Below w.heap.size w W) := by unfold Hid; rw [hW]; exact below1 w _
 have HS := mkC (h.stp HBW.out)
 have y5 := (cells10 HS.out.inv.blk).2.2.2.2.1
 obtain ⟨g, oc, hop, _, _, _, _⟩ := HS.out.inv.opAt
 rw [hop] at y5
 have hk1 : st.lo.length ≤ 1000000000 := by have := h.len.1; rw [all_len] at this; omega
 rw [all_len] at hlev
 obtain ⟨kk, hkk⟩ : ∃ kk, kk = st.lo.length := ⟨_, rfl⟩
 have HKK := mkC hkk
 rw [← hkk] at y5 hk1 hlev
 rw [hW] at y5
 have HWE := mkC hW
 clear h hop hkk
 by_cases hl : lev = kk
 ·have heq : ((lev : Int) == (kk : Int)) = true := by simp [hl]
  have HP := mkC (l5push_c (st := st) 1 s 0 0 W HS.out.inv hN)
  clear hW
  go_enter Tryz.func131, Tryz.ntmps131
  go_wp2_with fail
  rw [← HWE.out]
  refine HP.out.mono ?_
  rintro e w1 ⟨⟨u, rfl⟩, hE⟩
  have HE : Hid (DoP c N st w w1) := by
   obtain ⟨st', h1, h2, _⟩ := hE
   exact ⟨st', HS.out.trans h1, h2⟩
  clear hE y5
  go_wp2_with fail
  go_end0
  exact ⟨⟨_, rfl⟩, HE.out⟩
 ·have heq : ((lev : Int) == (kk : Int)) = false := by simp; omega
  have hw1 : IntKind.i64.wrap (((kk + 1 : Nat) : Int) - 1) = (kk : Int) := by rw [show ((kk + 1 : Nat) : Int) - 1 = (kk : Int) by omega]; simp [IntKind.wrap, IntKind.bits, IntKind.signed]; omega
  have hw2 : IntKind.i64.wrap (kk : Int) = (kk : Int) := by simp [IntKind.wrap, IntKind.bits, IntKind.signed]; omega
  have HSD := mkC (HS.out.trans (HS.out.inv.stp (below_drewC (Below.refl _ W))))
  have HC := mkC (capture_c (N := N) (c := c) lev x hN kk st W.drew HSD.out.inv (by rw [all_len, ← HKK.out]; omega) hx (by omega))
  have z5 : W.cell? ⟨st.ab, 5, none⟩ = some (.slice (some ⟨g, 0, none⟩) (kk + 1) oc) := by rw [HWE.out]; exact y5
  have z2 : W.cell? ⟨w.heap.size, 2, none⟩ = some (.int .i64 (x : Nat)) := by rw [HWE.out]; exact (cells3C (Go.Deep.blk_alloc_new w _)).2.2.1
  clear hW
  go_enter Tryz.func131, Tryz.ntmps131
  go_wp2_with fail
  rw [← HWE.out]
  go_region_with (first | (go_at_call 169; refine HC.out.mono ?_; rintro e w1 ⟨⟨z, rfl⟩, st1, hs1, hq1⟩; have HS1 := mkC (HSD.out.trans hs1); have HQ1 := mkC hq1; have hab : st1.ab = st.ab := hs1.sm.ab; have HP := mkC (l5push_c (st := st1) 2 z 0 0 w1 HS1.out.inv hN); rw [hab] at HP; clear hs1 hq1 hab) | (go_at_call 45; refine HP.out.mono ?_; rintro e w2 ⟨⟨u, rfl⟩, hE⟩; have HE : Hid (DoP c N st w w2) := (by obtain ⟨st', h1, h2, _⟩ := hE; exact ⟨st', HS1.out.trans h1, HQ1.out.trans h2⟩); clear hE))
  all_goals go_wp2
  all_goals go_end0
  all_goals exact ⟨⟨_, rfl⟩, HE.out⟩
def RsP (r : Option (List (List Int))) (st st' : St) : Prop := match r with
 | none => st'.bad = true
 | some ns => st'.bad = st.bad ∧ st'.ub.map (·.x) = st.ub.map (·.x) ++ ns
theorem Qt.rs {st st' : St} (h : Qt st st') : RsP (some []) st st' := ⟨h.1, by rw [h.2.1, List.append_nil]⟩
theorem RsP.then_ {a b d : St} {r : Option (List (List Int))} (h : RsP r a b) (k : Qt b d) : RsP r a d := by
 cases r with
 | none => exact k.1.trans h
 | some ns => exact ⟨k.1.trans h.1, by rw [k.2.1]; exact h.2⟩
theorem Inv.bxAt {c : Cx} {N : Nat} {w : World} {st : St} (h : Inv c N w st) : ∃ p bc, st.bxv = .slice p st.bx.length bc ∧ (0 < st.bx.length → ∃ g, p = some ⟨g, 0, none⟩ ∧ g < w.heap.size ∧ (∃ cur, w.heap[g]? = some (.cells cur 4)) ∧ ∀ i (hi : i < st.bx.length), w.cell? ⟨g, i, none⟩ = some (.bool (st.bx[i]'hi))) := by
 obtain ⟨p, gc, ho⟩ := owns_form h.bx
 have hg := h.bx
 rw [ho] at hg
 obtain ⟨_, _, hc⟩ := owns_cells hg
 refine ⟨p, gc, ho, fun h0 => ?_⟩
 obtain ⟨g, e, h1, _, h3, h4⟩ := hc h0
 refine ⟨g, e, h1, h3, fun i hi => ?_⟩
 rw [h4 i (by omega), List.getElem?_map, List.getElem?_eq_getElem hi]
 rfl
theorem infoSl : (Tryz.prog.info? 34).map (fun i => (i.zero, i.size, i.bytes)) = some (some (.slice none 0 0), 1, 24) := by kernel_rfl
theorem Inv.no_fp {c : Cx} {N : Nat} {w : World} {st : St} (h : Inv c N w st) {k : Nat} (hk : w.heap.size ≤ k) : ¬ Fp st k := fun hf => by have := (h.fp_lt hf).1; omega
def VaP (c : Cx) (N : Nat) (st : St) (x : List Int) (w w' : World) : Prop := ∃ st', Stp c (N + 3) st w st' w' ∧ RsP (some (lack (st.gl.map (·.x)) st.sc x)) st st' ∧ st'.bo = st.bo
set_option maxRecDepth 20000 in
set_option maxHeartbeats 4000000 in
theorem l5variable_c {c : Cx} {N : Nat} {st : St} (m : Nm) (w : World) (h : Inv c N w st) (hm : NmI c m) (hN : N + 3 ≤ 1000000000) : Calls Tryz.prog 80 #[.pointer (some ⟨st.ab, 0, none⟩), .slice m.p m.n m.c] w fun e w' => (∃ u, e = .returned u) ∧ VaP c N st m.x w w' := by
 have HI := mkC h
 have HM := mkC hm
 have HF := mkC (l5find_c m w h hm (by omega))
 clear h hm
 go_enter Tryz.func80, Tryz.ntmps80
 go_wp2_with fail
 refine HF.out.mono ?_
 rintro e w1 ⟨⟨z, vp, vn, vc, vs, vb, rfl, hfd⟩, hb1⟩
 have HB1 := mkC hb1
 have HFD := mkC hfd
 have HZ := mkC hfd.iff
 clear hfd hb1 HF
 obtain ⟨W, hW⟩ : ∃ W, W = w1.alloc (.cells #[.slice vp vn vc, .int .i64 vs, .int .i64 vb] 193) := ⟨_, rfl⟩
 have HBW : Hid (Below w.heap.size w W) := by unfold Hid; rw [hW]; exact HB1.out.trans ((below1 _ _).mono HB1.out.size)
 have HSW := mkC (HI.out.stp HBW.out)
 have HVB : Hid (W.heap[w1.heap.size]? = some (.cells #[.slice vp vn vc, .int .i64 vs, .int .i64 vb] 193)) := by unfold Hid; rw [hW]; exact Go.Deep.blk_alloc_new _ _
 have hw1W : w1.heap.size < W.heap.size := by rw [hW]; simp
 have HNF : Hid (¬ Fp st w1.heap.size) := (HI.out.stp HB1.out).inv.no_fp (Nat.le_refl _)
 have HWE := mkC hW
 clear hW
 by_cases hz : 0 ≤ z
 ·rcases HFD.out with ⟨h1, _⟩ | ⟨lev, j, f, v, h1, h2, h3, h4, _, _, rfl, rfl, rfl, rfl, rfl⟩
  ·omega
  ·subst h1
   have hlev : lev < st.all.length := (List.getElem?_eq_some_iff.1 h2).1
   have hbd : v.bound < st.bx.length := (HI.out.fnw f (List.mem_of_getElem? h2)).vb v (List.mem_of_getElem? h3)
   have HLK : Hid (lack (st.gl.map (·.x)) st.sc m.x = []) := by
    have h1 := HZ.out
    rw [decide_eq_true hz] at h1
    unfold Hid lack bnd
    rw [← h1]; rfl
   have HR := mkC (l5raw_c (N := N) lev v.m.p v.m.n v.m.c v.slot v.bound W HSW.out.inv hlev hbd (by omega))
   clear HZ HFD h2 h3 h4
   obtain ⟨⟨vp, vn, vc, vx⟩, vs, vb⟩ := v
   simp only at hbd HR HVB HWE ⊢
   go_wp2_with fail
   rw [← HWE.out]
   refine HR.out.mono ?_
   rintro e w2 ⟨⟨u, rfl⟩, st2, hs2, hq2⟩
   have HS2 := mkC (HSW.out.trans hs2)
   have HQ2 := mkC hq2
   have hVB2 : w2.heap[w1.heap.size]? = _ := (hs2.fr.keep _ hw1W HNF.out).trans HVB.out
   have q2 := (cells3C hVB2).2.2.1
   have hab2 : st2.ab = st.ab := hs2.sm.ab
   have hbd2 : vb < st2.bx.length := Nat.lt_of_lt_of_le hbd hs2.sm.bx
   have hbx3 := hs2.inv.b2
   obtain ⟨bp, bc, hbv, hba⟩ := hs2.inv.bxAt
   have e2 := (cells10 hs2.inv.blk).2.2.1
   rw [hbv, hab2] at e2
   obtain ⟨bg, rfl, _, _, hbc⟩ := hba (by omega)
   have e3 := hbc vb hbd2
   generalize st2.bx[vb]'hbd2 = bit at e3
   obtain ⟨bl, hbl⟩ : ∃ bl, bl = st2.bx.length := ⟨_, rfl⟩
   rw [← hbl] at e2 hbd2 hbx3
   have HSD := mkC (HS2.out.trans (HS2.out.inv.stp (below_drewC (Below.refl _ w2))))
   have HP := mkC (l5push_c (st := st2) 6 0 0 1 w2.drew HSD.out.inv (by omega))
   rw [hab2] at HP
   clear hs2 hq2 hVB2 hbv hba hbc hab2 hbl
   cases bit
   ·go_wp2_with fail
    go_region
    all_goals go_wp2
    all_goals (refine bodyPost_ret (results_none rfl _ _ _) rfl ?_)
    all_goals exact ⟨⟨_, rfl⟩, st2, HSD.out.mono (by omega), by rw [HLK.out]; exact HQ2.out.rs, HQ2.out.2.2⟩
   ·go_wp2_with fail
    go_region
    all_goals go_wp2_with fail
    all_goals
     refine HP.out.mono ?_
     rintro e w3 ⟨⟨u3, rfl⟩, hE⟩
     have HE : Hid (VaP c N st m.x w w3) := by
      obtain ⟨st3, h1, h2, _⟩ := hE
      exact ⟨st3, (HSD.out.trans h1).mono (by omega), by rw [HLK.out]; exact (HQ2.out.trans h2).rs, (HQ2.out.trans h2).2.2⟩
     clear hE
     go_wp2_with fail
     (refine bodyPost_ret (results_none rfl _ _ _) rfl ?_)
     exact ⟨⟨_, rfl⟩, HE.out⟩
 ·have HG := mkC (l5global_c m W HSW.out.inv HM.out)
  have HSC : Hid (st.sc.contains m.x = false) := by
   have h1 := HZ.out
   rw [decide_eq_false hz] at h1
   exact h1.symm
  clear HZ HFD
  go_wp2_with fail
  rw [← HWE.out]
  refine HG.out.mono ?_
  rintro e w2 ⟨⟨z2, rfl, hix⟩, hb2⟩
  have HS2 := mkC (HSW.out.trans (HSW.out.inv.stp hb2))
  have HIX := mkC hix.iff
  clear hix hb2
  by_cases hz2 : 0 ≤ z2
  ·have HLK : Hid (lack (st.gl.map (·.x)) st.sc m.x = []) := by
    have h1 := HIX.out
    rw [decide_eq_true hz2] at h1
    unfold Hid lack bnd
    rw [← h1, HSC.out]; rfl
   have HP := mkC (l5push_c (st := st) 3 z2 0 0 w2 HS2.out.inv (by omega))
   clear HIX
   go_wp2_with fail
   refine HP.out.mono ?_
   rintro e w3 ⟨⟨u3, rfl⟩, hE⟩
   have HE : Hid (VaP c N st m.x w w3) := by
    obtain ⟨st3, h1, h2, _⟩ := hE
    exact ⟨st3, (HS2.out.trans h1).mono (by omega), by rw [HLK.out]; exact h2.rs, h2.2.2⟩
   clear hE
   go_wp2_with fail
   go_end0
   exact ⟨⟨_, rfl⟩, HE.out⟩
  ·have HLK : Hid (lack (st.gl.map (·.x)) st.sc m.x = [m.x]) := by
    have h1 := HIX.out
    rw [decide_eq_false hz2] at h1
    unfold Hid lack bnd
    rw [← h1, HSC.out]; rfl
   have e9 := (cells10 HS2.out.inv.blk).2.2.2.2.2.2.2.2.1
   obtain ⟨up, uc, huv⟩ := owns_form HS2.out.inv.ub
   rw [huv] at e9
   have hub : st.ub.length ≤ N := HS2.out.inv.len.2.2.2.1
   have HOW := mkC HS2.out.inv.ub
   have HUV := mkC huv
   have HBK := mkC HS2.out.inv.blk
   have hB : c.w0.heap.size ≤ w2.heap.size := HS2.out.inv.bel.size
   have HADD : Hid (∀ v' w3, w3.ownsRow c.w0.heap.size 34 1 v' (st.ub.length + 1) (nmC st.ub ++ [nmV m]) → Below c.w0.heap.size w2 w3 → But w2 w3 st.ubv → (∀ k, v'.ownBlock = some k → st.ubv.ownBlock = some k ∨ w2.heap.size ≤ k) → ∃ st3, Stp c (N + 1) st w st3 (w3.setCell ⟨st.ab, 9, none⟩ v') ∧ RsP (some [m.x]) st st3 ∧ st3.ab = st.ab ∧ st3.bo = st.bo) := fun v' w3 h1 h2 h3 h4 => by
    have h5 := HS2.out.inv.addUb HM.out h1 h2 h3 h4
    exact ⟨_, HS2.out.trans ⟨h5.1, h5.2, ⟨rfl, rfl, rfl, rfl, (Sm.refl st).fn, Nat.le_refl _, Nat.le_refl _, Nat.le_refl _⟩⟩, ⟨rfl, by simp⟩, rfl, rfl⟩
   obtain ⟨n, hn⟩ : ∃ n, n = st.ub.length := ⟨_, rfl⟩
   have HNN := mkC hn
   rw [← hn] at e9 hub huv
   have HOW2 : Hid (w2.ownsRow c.w0.heap.size 34 1 (.slice up n uc) n (nmC st.ub)) := by unfold Hid; have h1 := HOW.out; rw [huv, ← hn] at h1; exact h1
   clear HIX huv hn HOW
   go_wp2_with (at_builtin; refine appW_at w2 rfl (.tmp 38) (.tmp 40) 24 34 rfl _ 1 24 Tryz.underlying24 infoSl rfl (by decide) c.w0.heap.size (.slice up n uc) n (nmC st.ub) (by simp [Act.eval]) HOW2.out #[.slice m.p m.n m.c] rfl (by simp [Value.oneCell']) (by simp [Act.eval]) (by unfold maxLen; omega) (by omega) hB ?_; intro v' w3 ho hb3 hbt hloc hsz; obtain ⟨p2, c2, hv2⟩ := owns_form ho; subst hv2; have HAD := mkC (HADD.out _ w3 (by rw [← HNN.out]; exact ho) hb3 (by rw [HUV.out, ← HNN.out]; exact hbt) (by rw [HUV.out, ← HNN.out]; exact hloc)); have q9 := (cells10 ((hbt _ (Array.getElem?_eq_some_iff.1 HBK.out).1 (owns_ne HOW2.out HBK.out (by decide))).trans HBK.out)).2.2.2.2.2.2.2.2.1; have q5 := (cells10 ((hbt _ (Array.getElem?_eq_some_iff.1 HBK.out).1 (owns_ne HOW2.out HBK.out (by decide))).trans HBK.out)).2.2.2.2.2.2.2.2.2; clear ho hb3 hbt hloc e9)
   obtain ⟨st3, hs3, hr3, hab3, hbo3⟩ := HAD.out
   have HP := mkC (l5push_c (st := st3) 17 0 0 0 _ hs3.inv (by omega))
   rw [hab3] at HP
   have HS3 := mkC hs3
   have HR3 := mkC hr3
   have HBO3 := mkC hbo3
   clear hs3 hr3 hab3 hbo3 HAD HADD
   refine HP.out.mono ?_
   rintro e w4 ⟨⟨u4, rfl⟩, hE⟩
   have HE : Hid (VaP c N st m.x w w4) := by
    obtain ⟨st4, h1, h2, _⟩ := hE
    exact ⟨st4, (HS3.out.trans h1).mono (by omega), by rw [HLK.out]; exact HR3.out.then_ h2, h2.2.2.trans HBO3.out⟩
   clear hE
   go_wp2_with fail
   (refine bodyPost_ret (results_none rfl _ _ _) rfl ?_)
   exact ⟨⟨_, rfl⟩, HE.out⟩
end Cp
end Go.Proofs.YtnnpfoilojicjaaGreatDoor
