import Derived.Test.YtnnpfoilojicjaaGreatDoorGa
import Derived.Test.YtnnpfoilojicjaaGreatDoorX5
import Derived.Deep.Upon
namespace Go.Proofs.YtnnpfoilojicjaaGreatDoor
open Go.RowKit Ch1
namespace Cp
theorem app0_law (w : World) {ops : Array Oper} {rest : List Oper} {o : Oper} {a : Act} {Q : Exit → Act → World → Prop} (hgd : o.guard = none) (s x : Operand)
  (ho : o.op = .call { callee := .builtin .append, args := #[s, x], argTypes := #[34, 34] }) (hs : a.eval s = .slice none 0 0) (q : Option Addr) (c : Nat) (hx : a.eval x = .slice q 0 c)
  (h : wpList Tryz.prog ops Q rest (a.put o.dst (.slice none 0 0)) w) : wpList Tryz.prog ops Q (o :: rest) a w := by
 obtain ⟨i5, hi5, _⟩ := Option.map_eq_some_iff.1 info5
 have hsrc : Src Tryz.prog i5.size 34 (.slice q 0 c) 0 [] w := by
  cases q with
  | none => exact Src.ofNil w Tryz.underlying34 c
  | some ad => exact Src.ofSlice w Tryz.underlying34 ad 0 c [] (by simp) (fun j u hu => by simp at hu) (fun u hu => by cases hu)
 have hr := run_append_nothing (P := Tryz.prog) w 34 34 o.type 5 i5 Tryz.underlying34 hi5 none 0 0 (Nat.le_refl _) (.slice q 0 c) hsrc
 refine wpList_plain hgd fun _ hK => ?_
 unfold Oper.wp execOp
 simp only [ho, resolve, invoke, builtin, Sem.run_bind, Sem.run_pure, Result.andThen_ok, List.map_toArray, List.map_cons, List.map_nil, hs, hx, hr]
 exact hK _ _ h
set_option maxHeartbeats 1000000 in
theorem copyC (p : Option Addr) (n c : Nat) (xs : List Int) (w : World) (hy : By w p n c xs) (hn : n ≤ 1048576) :
  Calls Tryz.prog 16 #[.slice p n c] w fun e w' => ∃ v, e = .returned v ∧ Ow w' w.heap.size v xs ∧ Below w.heap.size w w' := by
 have HY := mkC hy
 by_cases h0 : 0 < n
 ·obtain ⟨b, o, rfl, _⟩ := hy.cells h0
  clear hy
  go_enter Tryz.func16, Tryz.ntmps16
  go_wp2_with (at_builtin; refine app_law _ rfl (.tmp 4) (.tmp 5) rfl w.heap.size (.slice none 0 0) [] xs (by simp [Act.eval]) (Ow.nil _ _) b o n c (by simp [Act.eval]) HY.out (by simp; omega) (Nat.le_refl _) ?_; intro v' w' ho hg _; have HO2 : Hid (Ow w' w.heap.size v' ([] ++ xs)) := ho; have HG : Hid (Below w.heap.size w w') := hg; clear ho hg)
  go_ret
  exact ⟨_, rfl, HO2.out, HG.out⟩
 ·obtain rfl : n = 0 := by omega
  have HX : Hid (xs = []) := List.length_eq_zero_iff.1 hy.len
  clear hy
  go_enter Tryz.func16, Tryz.ntmps16
  go_wp2_with (at_builtin; refine app0_law _ rfl (.tmp 4) (.tmp 5) rfl (by simp [Act.eval]) p c (by simp [Act.eval]) ?_)
  go_ret
  exact ⟨_, rfl, by rw [HX.out]; exact Ow.nil _ _, Below.refl _ _⟩
theorem infoDC : (Tryz.prog.info? 47).map (fun i => (i.zero, i.size, i.bytes)) = some (some (.agg #[.int .i64 0, .int .i64 0, .slice none 0 0, .int .i64 0]), 4, 48) := by kernel_rfl
structure OwD (w : World) (B : Nat) (v : Value) (l : List (Dt × Value)) : Prop where
 row : w.ownsRow B 47 4 v l.length (dtC l)
 txt : ∀ x ∈ l, Ow w B x.2 x.1.text
theorem OwD.below {w w' : World} {B : Nat} {v : Value} {l : List (Dt × Value)} (h : OwD w B v l) (hb : Below w.heap.size w w') : OwD w' B v l := ⟨owns_below h.row hb, fun x hx => owns_below (h.txt x hx) hb⟩
theorem OwD.snoc {w w' : World} {B : Nat} {v v' t : Value} {l : List (Dt × Value)} {d : Dt} (h : OwD w B v l) (ht : Ow w B t d.text) (ho : w'.ownsRow B 47 4 v' (l.length + 1) (dtC l ++ [.int .i64 d.kind, .int .i64 d.n, t, .int .i64 d.count])) (hb : But w w' v) : OwD w' B v' (l ++ [(d, t)]) := by
 refine ⟨?_, fun x hx => ?_⟩
 ·rw [List.length_append]
  unfold dtC at ho ⊢
  rw [List.flatMap_append]
  exact ho
 ·have key : ∀ (u : Value) (xs : List Int), Ow w B u xs → Ow w' B u xs := fun u xs hu => owns_but hu (apt_ty hu h.row (by decide)) hb
  rcases List.mem_append.1 hx with hx | hx
  ·exact key _ _ (h.txt x hx)
  ·obtain rfl := List.mem_singleton.1 hx
   exact key _ _ ht
theorem cells4C {w : World} {k : Nat} {a b c d : Value} {t : TypeId} (e : w.heap[k]? = some (.cells #[a, b, c, d] t)) : w.cell? ⟨k, 0, none⟩ = some a ∧ w.cell? ⟨k, 1, none⟩ = some b ∧ w.cell? ⟨k, 2, none⟩ = some c ∧ w.cell? ⟨k, 3, none⟩ = some d ∧ ∀ o, w.frozen? ⟨k, o, none⟩ = false := by
 refine ⟨?_, ?_, ?_, ?_, fun o => ?_⟩ <;> simp [World.cell?, World.frozen?, e]
theorem set4C {w : World} {k : Nat} {a b c d : Value} {t : TypeId} (e : w.heap[k]? = some (.cells #[a, b, c, d] t)) (v : Value) : (w.setCell ⟨k, 2, none⟩ v).heap[k]? = some (.cells #[a, b, v, d] t) := by simp [World.setCell, Array.getElem?_modify, e]
set_option maxHeartbeats 4000000 in
theorem l5copyData_c (p : Option Addr) (n c : Nat) (ds : List Dt) (w : World) (hD : Da w p n c ds) (hn : n ≤ 3000) (ht : ∀ i, i < n → (ds.getD i dt0).text.length ≤ 100) :
  Calls Tryz.prog 133 #[.slice p n c] w fun e w' => (∃ v l, e = .returned v ∧ OwD w' w.heap.size v l ∧ l.map Prod.fst = ds) ∧ Below w.heap.size w w' := by
 have HD := mkC hD
 have HT := mkC ht
 clear hD ht
 go_enter Tryz.func133, Tryz.ntmps133
 go_wp2_with fail
 go_loopw [3, 4] (fun ov iv wr => ∃ (i : Nat) (q : Option Addr) (cc : Nat) (l : List (Dt × Value)), i ≤ n ∧ iv = .int .i64 (i : Nat) ∧ ov = .slice q i cc ∧ l.length = i ∧ Hid (OwD wr w.heap.size (.slice q i cc) l) ∧ Hid (l.map Prod.fst = ds.take i) ∧ Hid (Below w.heap.size w wr)) (fun _ iv _ => n - (intOf iv).toNat)
 case atStart => exact ⟨0, none, 0, [], Nat.zero_le _, rfl, rfl, rfl, ⟨nil_own _ _ _ _, fun x hx => by cases hx⟩, rfl, Below.refl _ _⟩
 case round =>
  obtain ⟨i, q, cc, l, hi, rfl, rfl, hll, hO, hL, hB⟩ := hrel
  by_cases hlt : i < n
  ·obtain ⟨b, o, rfl, hbl, g⟩ := (HD.out.below hB.out).cells (by omega)
   obtain ⟨tp, tn, tc, he⟩ := g i hlt
   have k0 := he.c0
   have k1 := he.c1
   have k2 := he.c2
   have k3 := he.c3
   obtain ⟨W, hW⟩ : ∃ W, W = wr.alloc (.cells #[.int .i64 (ds.getD i dt0).kind, .int .i64 (ds.getD i dt0).n, .slice tp tn tc, .int .i64 (ds.getD i dt0).count] 47) := ⟨_, rfl⟩
   have HBW : Hid (Below wr.heap.size wr W) := by unfold Hid; rw [hW]; exact below1 _ _
   have HVB : Hid (W.heap[wr.heap.size]? = some (.cells #[.int .i64 (ds.getD i dt0).kind, .int .i64 (ds.getD i dt0).n, .slice tp tn tc, .int .i64 (ds.getD i dt0).count] 47)) := by unfold Hid; rw [hW]; exact Go.Deep.blk_alloc_new _ _
   have hwW : wr.heap.size < W.heap.size := by rw [hW]; simp
   have htl : tn ≤ 100 := by have h1 := HT.out i hlt; rw [he.by_.len] at h1; exact h1
   have HC := mkC (copyC tp tn tc (ds.getD i dt0).text W (he.by_.below HBW.out) (by omega))
   have HDI : Hid (ds.take (i + 1) = ds.take i ++ [ds.getD i dt0]) := by
    have h1 : i < ds.length := by rw [HD.out.len]; exact hlt
    unfold Hid
    rw [List.take_succ_eq_append_getElem h1, List.getD_eq_getElem?_getD, List.getElem?_eq_getElem h1]
    rfl
   have HWE := mkC hW
   generalize ds.getD i dt0 = d at k0 k1 k3 HVB HC HDI HWE
   clear he g hW
   go_wp2_with fail
   rw [← HWE.out]
   refine HC.out.mono ?_
   rintro e w2 ⟨tv, rfl, hto, hb2⟩
   have HTO := mkC hto
   have HB2 := mkC hb2
   have HVB2 : Hid (w2.heap[wr.heap.size]? = some (.cells #[.int .i64 d.kind, .int .i64 d.n, .slice tp tn tc, .int .i64 d.count] 47)) := (hb2.block _ hwW).trans HVB.out
   obtain ⟨r0, r1, r2, r3, rf⟩ := cells4C HVB2.out
   obtain ⟨tp2, tc2, htv⟩ := owns_form hto
   subst htv
   have HBr2 : Hid (Below wr.heap.size wr w2) := HBW.out.trans (hb2.mono HBW.out.size)
   obtain ⟨w3, hw3⟩ : ∃ w3, w3 = w2.setCell ⟨wr.heap.size, 2, none⟩ (.slice tp2 d.text.length tc2) := ⟨_, rfl⟩
   have HB3 : Hid (Below wr.heap.size wr w3) := by unfold Hid; rw [hw3]; exact Below.setCell HBr2.out (p := ⟨wr.heap.size, 2, none⟩) (Nat.le_refl _) _
   have HTO3 : Hid (Ow w3 w.heap.size (.slice tp2 d.text.length tc2) d.text) := by
    unfold Hid
    rw [hw3]
    have h1 := owns_set (w := w2) (j := 2) hto HVB2.out (by decide) (.slice tp2 d.text.length tc2)
    obtain ⟨h2, h3 | ⟨g, cap, cur, h4, h5, h6⟩⟩ := h1
    ·exact ⟨h2, Or.inl h3⟩
    ·exact ⟨h2, Or.inr ⟨g, cap, cur, h4, by have := HBW.out.size; have := hB.out.size; omega, h6⟩⟩
   have HO3 := mkC (hO.out.below HB3.out)
   have HV3 : Hid (w3.heap[wr.heap.size]? = some (.cells #[.int .i64 d.kind, .int .i64 d.n, .slice tp2 d.text.length tc2, .int .i64 d.count] 47)) := by unfold Hid; rw [hw3]; exact set4C HVB2.out _
   have hB3 : w.heap.size ≤ w3.heap.size := by have := HB3.out.size; have := hB.out.size; omega
   have HW3 := mkC hw3
   have HOW : Hid (w3.ownsRow w.heap.size 47 4 (.slice q i cc) i (dtC l)) := by have h1 := HO3.out.row; rw [hll] at h1; exact h1
   obtain ⟨y0, y1, y2, y3, _⟩ := cells4C HV3.out
   rw [hw3] at y0 y1 y2 y3
   clear k0 k1 k2 k3 hto hb2 hw3
   go_wp2_with (at_builtin; rw [← HW3.out]; refine appW_at w3 rfl (.tmp 20) (.tmp 22) 26 47 rfl _ 4 48 Tryz.underlying26 infoDC rfl (by decide) w.heap.size (.slice q i cc) i (dtC l) (by simp [Act.eval]) HOW.out #[.int .i64 d.kind, .int .i64 d.n, .slice tp2 d.text.length tc2, .int .i64 d.count] rfl (by simp [Value.oneCell']) (by simp [Act.eval, HW3.out]) (by unfold maxLen; omega) (by omega) hB3 ?_; intro v' w4 ho hb4 hbt hloc hsz; obtain ⟨p4, c4, hv4⟩ := owns_form ho; subst hv4; have HO4 := mkC (HO3.out.snoc HTO3.out (by rw [hll]; exact ho) hbt); have HB4 := mkC hb4; clear ho hb4 hbt hloc)
   exact ⟨⟨i + 1, p4, c4, l ++ [(d, .slice tp2 d.text.length tc2)], by omega, by go_num, rfl, by simp [hll], HO4, by unfold Hid; rw [List.map_append, hL.out, HDI.out]; rfl, (hB.out.trans (HB3.out.mono hB.out.size)).trans HB4.out⟩, by simp [intOf]; omega⟩
  ·obtain rfl : i = n := by omega
   have HFIN : Hid (l.map Prod.fst = ds) := by unfold Hid; rw [hL.out, List.take_of_length_le (by rw [HD.out.len]; exact Nat.le_refl _)]
   go_wp2_with fail
   go_ret
   exact ⟨⟨_, l, rfl, hO.out, HFIN.out⟩, hB.out⟩
theorem conv_none (c : Nat) (w : World) : (convert 34 9 (.slice none 0 c)).run Tryz.prog w = .ok (.string (strOfNums [])) w := by
 rw [run_convert_bytes_nil (P := Tryz.prog) w 34 5 Tryz.underlying34 Tryz.underlying5 _ _ 9 Tryz.underlying9]
 rfl
theorem conv_zero (a : Addr) (c : Nat) (w : World) : (convert 34 9 (.slice (some a) 0 c)).run Tryz.prog w = .ok (.string (strOfNums [])) w := by kernel_rfl
theorem convB {w : World} {p : Option Addr} {n c : Nat} {xs : List Int} (h : By w p n c xs) : (convert 34 9 (.slice p n c)).run Tryz.prog w = .ok (.string (strOfNums xs)) w := by
 by_cases h0 : 0 < n
 ·obtain ⟨b, o, rfl, hc⟩ := h.cells h0
  obtain rfl := h.len
  exact run_convert_bytes_arg (P := Tryz.prog) w 34 5 Tryz.underlying34 Tryz.underlying5 b o xs.length c xs rfl (fun i hi => hc i hi) 9 Tryz.underlying9
 ·obtain rfl : n = 0 := by omega
  obtain rfl : xs = [] := List.length_eq_zero_iff.1 h.len
  cases p with
  | none => exact conv_none c w
  | some a => exact conv_zero a c w
set_option maxRecDepth 20000 in
set_option maxHeartbeats 4000000 in
theorem l5sameData_c (p q : Option Addr) (n m c d : Nat) (xs ys : List Dt) (w : World) (hX : Da w p n c xs) (hY : Da w q m d ys) (hn : n ≤ 3000) (hm : m ≤ 3000) :
  Calls Tryz.prog 132 #[.slice p n c, .slice q m d] w fun e w' => (∃ b, e = .returned (.bool b)) ∧ Below w.heap.size w w' := by
 have HX := mkC hX
 have HY := mkC hY
 clear hX hY
 by_cases hnm : n = m
 ·subst hnm
  go_enter Tryz.func132, Tryz.ntmps132
  go_wp2_with fail
  go_loopw [5] (fun iv wr => ∃ i : Nat, i ≤ n ∧ iv = .int .i64 (i : Nat) ∧ Hid (Below w.heap.size w wr)) (fun iv _ => n - (intOf iv).toNat)
  case atStart => exact ⟨0, Nat.zero_le _, rfl, Below.refl _ _⟩
  case round =>
   obtain ⟨i, hi, rfl, hB⟩ := hrel
   by_cases hlt : i < n
   ·obtain ⟨b, o, rfl, hbl, g⟩ := (HX.out.below hB.out).cells (by omega)
    obtain ⟨b', o', rfl, hbl', g'⟩ := (HY.out.below hB.out).cells (by omega)
    obtain ⟨tp, tn, tc, he⟩ := g i hlt
    obtain ⟨tp', tn', tc', he'⟩ := g' i hlt
    have k0 := he.c0
    have k1 := he.c1
    have k2 := he.c2
    have k3 := he.c3
    have j0 := he'.c0
    have j1 := he'.c1
    have j2 := he'.c2
    have j3 := he'.c3
    have v1 := convB (he.by_.below (below_drewC (Below.refl _ wr)))
    have v2 := convB (he'.by_.below (below_drewC (Below.refl _ wr)))
    generalize strOfNums (xs.getD i dt0).text = s1 at v1
    generalize strOfNums (ys.getD i dt0).text = s2 at v2
    clear he he' g g'
    generalize xs.getD i dt0 = x at k0 k1 k3
    generalize ys.getD i dt0 = y at j0 j1 j3
    obtain ⟨x0, x1, xt, x3⟩ := x
    obtain ⟨y0, y1, yt, y3⟩ := y
    simp only at k0 k1 k3 j0 j1 j3
    by_cases h0 : x0 = y0
    ·have t0 : (x0 != y0) = false := by simp [h0]
     by_cases h1 : x1 = y1
     ·have t1 : (x1 != y1) = false := by simp [h1]
      by_cases h3 : x3 = y3
      ·have t3 : (x3 != y3) = false := by simp [h3]
       cases t4 : (s1.toList == s2.toList)
       ·go_wp2_with fail
        go_region
        all_goals go_wp2
        all_goals go_ret
        all_goals exact ⟨⟨_, rfl⟩, below_drewC hB.out⟩
       ·go_wp2_with fail
        go_region
        all_goals go_wp2
        all_goals exact ⟨⟨i + 1, by omega, by go_num, below_drewC hB.out⟩, by simp [intOf]; omega⟩
      ·have t3 : (x3 != y3) = true := by simp [h3]
       go_wp2_with fail
       go_region
       all_goals go_wp2
       all_goals go_ret
       all_goals exact ⟨⟨_, rfl⟩, below_drewC hB.out⟩
     ·have t1 : (x1 != y1) = true := by simp [h1]
      go_wp2_with fail
      go_region
      all_goals go_wp2
      all_goals go_ret
      all_goals exact ⟨⟨_, rfl⟩, below_drewC hB.out⟩
    ·have t0 : (x0 != y0) = true := by simp [h0]
     go_wp2_with fail
     go_region
     all_goals go_wp2
     all_goals go_ret
     all_goals exact ⟨⟨_, rfl⟩, below_drewC hB.out⟩
   ·go_wp2_with fail
    go_ret
    exact ⟨⟨_, rfl⟩, hB.out⟩
 ·have hne : ((n : Int) != (m : Int)) = true := by simp; omega
  go_enter Tryz.func132, Tryz.ntmps132
  go_wp2_with fail
  go_ret
  exact ⟨⟨_, rfl⟩, Below.refl _ _⟩
end Cp
end Go.Proofs.YtnnpfoilojicjaaGreatDoor
