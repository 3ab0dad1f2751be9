import Derived.Test.YtdjdhjciealfhaaGreatDoorU3
import Derived.Deep.Upon
import Derived.BigRegion
namespace Go.Proofs.YtdjdhjciealfhaaGreatDoor
open Go.RowKit Ch1
namespace Vf
theorem info3' : ∃ i, Tryz.prog.info? 3 = some i ∧ i.zero = some (.int .i64 0) ∧ i.size = 1 ∧ i.bytes = 8 := by
  obtain ⟨i, hi, hpr⟩ := Option.map_eq_some_iff.1 info3
  simp only [Prod.mk.injEq] at hpr
  exact ⟨i, hi, hpr.1, hpr.2.1, hpr.2.2⟩
theorem Iv_app (xs ys : List Nat) : Iv (xs ++ ys) = Iv xs ++ Iv ys := by simp [Iv]
theorem OwI.form {w : World} {B : Nat} {v : Value} {xs : List Nat} (h : OwI w B v xs) : ∃ p c, v = .slice p xs.length c := owns_form h
/-- append(v, x...), x numbers that may be none. -/
theorem appI_law (w : World) {ops : Array Oper} {rest : List Oper} {o : Oper} {a : Act} {Q : Exit → Act → World → Prop} (hgd : o.guard = none) (s x : Operand)
    (ho : o.op = .call { callee := .builtin .append, args := #[s, x], argTypes := #[69, 69] }) (B : Nat) (v : Value) (xs ys : List Nat) (hs : a.eval s = v) (hown : OwI w B v xs) (q : Option Addr) (m c : Nat) (hx : a.eval x = .slice q m c)
    (hy : Ni w q m c ys) (hlen : xs.length + m ≤ 1000000000) (hB : B ≤ w.heap.size)
    (h : ∀ v' w', OwI w' B v' (xs ++ ys) → Below B w w' → But w w' v → wpList Tryz.prog ops Q rest (a.put o.dst v') w') : wpList Tryz.prog ops Q (o :: rest) a w := by
  obtain ⟨i3, hi3, hz3, hs3, hb3⟩ := info3'
  by_cases hm : m = 0
  · subst hm
    obtain rfl : ys = [] := List.length_eq_zero_iff.1 hy.len
    obtain ⟨p0, k0, rfl⟩ := hown.form
    have hk0 := hown.cell.2.1
    have hsrc : Src Tryz.prog i3.size 69 (.slice q 0 c) 0 [] w := by
      cases q with
      | none => exact Src.ofNil w Tryz.underlying69 c
      | some ad => exact Src.ofSlice w Tryz.underlying69 ad 0 c [] (by simp) (fun j u hu => by simp at hu) (fun u hu => by cases hu)
    have hr := run_append_nothing (P := Tryz.prog) w 69 69 o.type 3 i3 Tryz.underlying69 hi3 p0 xs.length k0 hk0 (.slice q 0 c) hsrc
    refine wpList_plain hgd fun _ hK => ?_
    unfold Oper.wp execOp
    simp only [ho, resolve, invoke, builtin, Sem.run_bind, Sem.run_pure, Result.andThen_ok, List.map_toArray, List.map_cons, List.map_nil, hs, hx, hr]
    exact hK _ _ (h _ w (by rw [List.append_nil]; exact hown) (Below.refl _ _) (fun _ _ _ => rfl))
  · obtain ⟨b', o', rfl, _, hc⟩ := hy.cells (by omega)
    have hl := hy.len
    have hIl : (Iv ys).length = m := by simp [Iv, hl]
    refine wpList_append_own _ hgd s x 69 ho B 3 i3 (.int .i64 0) 1 8 Tryz.underlying69 hi3 hz3 hs3 hb3 rfl (by decide) v xs.length (Iv xs) hs hown ⟨b', o', none⟩ m c (Iv ys) hx (by omega) (fun j u hu => ?_) (by simp [Iv, Value.oneCell']) (by unfold maxLen; omega) (by omega) hB ?_
    · have hj : j < m := by
        have := (List.getElem?_eq_some_iff.1 hu).1
        omega
      have e : (Iv ys)[j]? = some (.int .i64 (ys.getD j 0 : Nat)) := by simp [Iv, List.getD, List.getElem?_eq_getElem (show j < ys.length by omega)]
      rw [e] at hu
      cases hu
      have ea : (Addr.mk b' o' none).add j = ⟨b', o' + j, none⟩ := by simp [Addr.add]
      rw [ea]
      exact hc j hj
    · intro v' w' k1 k2 _
      refine h v' w' ?_ ((Below.refl _ _).grown k2 hB (owns_ge hown)) (fun k hk hne => k2.block k hk hne)
      unfold OwI
      rw [List.length_append, hl, Iv_app]
      exact k1
/-- append(v, k). -/
theorem app1I_law (w : World) {ops : Array Oper} {rest : List Oper} {o : Oper} {a : Act} {Q : Exit → Act → World → Prop} (hgd : o.guard = none) (s x : Operand)
    (ho : o.op = .call { callee := .builtin .append, args := #[s, x], argTypes := #[69, 69] }) (B : Nat) (v : Value) (xs : List Nat) (k : Nat) (hs : a.eval s = v) (hown : OwI w B v xs) (hx : a.eval x = .slice (some ⟨w.heap.size, 0, none⟩) 1 1)
    (hlen : xs.length ≤ 1000000000) (hB : B ≤ w.heap.size)
    (h : ∀ v' w', OwI w' B v' (xs ++ [k]) → Below B w w' → But w w' v → wpList Tryz.prog ops Q rest (a.put o.dst v') w') : wpList Tryz.prog ops Q (o :: rest) a (w.alloc (.cells #[.int .i64 (k : Int)] 3)) := by
  refine appW_law w hgd s x 69 3 ho (.int .i64 0) 1 8 Tryz.underlying69 info3 rfl (by decide) B v xs.length (Iv xs) hs hown #[.int .i64 (k : Int)] rfl (by simp [Value.oneCell']) hx (by unfold maxLen; omega) (by omega) hB ?_
  intro v' w' k1 k2 k3
  refine h v' w' ?_ k2 k3
  unfold OwI
  rw [List.length_append, Iv_app]
  exact k1
end Vf
end Go.Proofs.YtdjdhjciealfhaaGreatDoor
namespace Go.Proofs.YtdjdhjciealfhaaGreatDoor
open Go.RowKit Ch1
namespace Vf
theorem Ni.take {w : World} {p : Option Addr} {n c : Nat} {xs : List Nat} (h : Ni w p n c xs) {k : Nat} (hk : k ≤ n) : Ni w p k c (xs.take k) := by
  refine ⟨by rw [List.length_take, h.len]; omega, by have := h.cap; omega, h.big, fun h0 => ?_⟩
  obtain ⟨b, o, e, hlt, hc⟩ := h.cells (by omega)
  exact ⟨b, o, e, hlt, fun i hi => by rw [getD_take hi]; exact hc i (by omega)⟩
theorem alloc3 (w : World) (a b c : Obj) : (((w.alloc a).alloc b).alloc c).heap[w.heap.size]? = some a ∧ (((w.alloc a).alloc b).alloc c).heap[w.heap.size + 1]? = some b ∧ (((w.alloc a).alloc b).alloc c).heap[w.heap.size + 1 + 1]? = some c := by
  have e : (((w.alloc a).alloc b).alloc c).heap = ((w.heap.push a).push b).push c := rfl
  rw [e]
  refine ⟨?_, ?_, ?_⟩
  · rw [Array.getElem?_push_lt (by simp; omega), Array.getElem_push_lt (by simp), Array.getElem_push_eq]
  · rw [Array.getElem?_push_lt (by simp)]
    congr 1
    have := Array.getElem_push_eq (xs := w.heap.push a) (x := b)
    simpa using this
  · have := Array.getElem?_push_size (xs := (w.heap.push a).push b) (x := c)
    simpa using this
theorem OwI.mono {w : World} {B B' : Nat} {v : Value} {xs : List Nat} (h : OwI w B v xs) (hB : B' ≤ B) : OwI w B' v xs := by
  obtain ⟨h1, h2 | ⟨g, cap, cur, e, hg, r⟩⟩ := h
  · exact ⟨h1, Or.inl h2⟩
  · exact ⟨h1, Or.inr ⟨g, cap, cur, e, Nat.le_trans hB hg, r⟩⟩
/-- What l3after answers. -/
def AfP (m : Md) (f : Fn) (x : In) (s : List Nat) (w w' : World) (e : Ending) : Prop :=
  ∃ v b, e = .returned (.tuple #[v, .bool b]) ∧ Below w.heap.size w w' ∧ (b = true ↔ fits m f x s) ∧ (b = true → OwI w' w.heap.size v (outOf m f x s))
set_option maxRecDepth 20000 in
set_option maxHeartbeats 4000000 in
theorem after_c (cp : Option Addr) (cn cc : Nat) (g : Int) (fp : Option Addr) (fn fc : Nat) (k : Int) (rp : Option Addr) (rl rc : Nat) (dp : Option Addr) (dl dc : Nat) (p : Option Addr) (n c : Nat) (m : Md) (f : Fn) (x : In) (s : List Nat) (w : World)
    (hx : InsOk m f x) (hcs : Dd w cp cn cc m.consts) (hne : x.op = 0 → 0 < (m.consts.getD x.a.toNat []).length) (hfr : Bo w rp rl rc f.free) (hst : Ni w p n c s) (hn : n ≤ 200) :
    Calls Tryz.prog 60 #[.agg #[.slice cp cn cc, .int .i64 g, .slice fp fn fc], .agg #[.int .i64 k, .slice rp rl rc, .slice dp dl dc], .agg #[.int .i64 x.op, .int .i64 x.a, .int .i64 x.b], .slice p n c] w fun e w' => AfP m f x s w w' e := by
  have HX := mkD hx
  have HCS := mkD hcs
  have HNE := mkD hne
  have HFR := mkD hfr
  have HST := mkD hst
  have HLN : Hid (s.length = n) := hst.len
  obtain ⟨W, hW⟩ : ∃ W, W = ((w.alloc (.cells #[.slice cp cn cc, .int .i64 g, .slice fp fn fc] 33)).alloc (.cells #[.int .i64 k, .slice rp rl rc, .slice dp dl dc] 48)).alloc (.cells #[.int .i64 x.op, .int .i64 x.a, .int .i64 x.b] 73) := ⟨_, rfl⟩
  have HBW : Hid (Below w.heap.size w W) := by unfold Hid; rw [hW]; exact below3 w _ _ _
  have hWs : W.heap.size = w.heap.size + 3 := by rw [hW]; simp
  have HM : Hid (W.heap[w.heap.size]? = some (.cells #[.slice cp cn cc, .int .i64 g, .slice fp fn fc] 33)) := by unfold Hid; rw [hW]; exact (alloc3 w _ _ _).1
  have HF : Hid (W.heap[w.heap.size + 1]? = some (.cells #[.int .i64 k, .slice rp rl rc, .slice dp dl dc] 48)) := by unfold Hid; rw [hW]; exact (alloc3 w _ _ _).2.1
  have HI : Hid (W.heap[w.heap.size + 1 + 1]? = some (.cells #[.int .i64 x.op, .int .i64 x.a, .int .i64 x.b] 73)) := by unfold Hid; rw [hW]; exact (alloc3 w _ _ _).2.2
  obtain ⟨t, ht⟩ : ∃ t, t = (allow m x).length := ⟨_, rfl⟩
  have HTT : Hid (t = (allow m x).length) := ht
  obtain ⟨a0, a1, a2, _, _, _⟩ := cells3 HM.out
  obtain ⟨b0, b1, b2, _, _, _⟩ := cells3 HF.out
  obtain ⟨c0, c1, c2, _, _, _⟩ := cells3 HI.out
  have hxa : 0 ≤ x.a := by
    obtain ⟨_, _, ⟨_, h, _⟩ | ⟨_, _, h, _⟩⟩ := hx
    · omega
    · exact h
  clear hx hcs hne hfr hst
  go_enter Tryz.func60, Tryz.ntmps60
  go_wp2_with fail
  rw [← hW]
  clear hW
  have hT := takes_c m f x HX.out W
  rw [← ht] at hT
  refine hT.mono ?_
  clear hT ht
  rintro e w1 ⟨rfl, hb1⟩
  have HB1 := mkD hb1
  have k0 := cell_keepD hb1 (by omega) c0
  have k1 := cell_keepD hb1 (by omega) c1
  have k2 := cell_keepD hb1 (by omega) c2
  have l0 := cell_keepD hb1 (by omega) a0
  have l1 := cell_keepD hb1 (by omega) a1
  have l2 := cell_keepD hb1 (by omega) a2
  have n0 := cell_keepD hb1 (by omega) b0
  have n1 := cell_keepD hb1 (by omega) b1
  have n2 := cell_keepD hb1 (by omega) b2
  have h1s := hb1.size
  clear hb1 a0 a1 a2 b0 b1 b2 c0 c1 c2
  by_cases h1 : t ≤ n
  · by_cases h2 : x.op = 1 → x.a.toNat < n
    · have d1 : decide ((n : Int) < (t : Int)) = false := decide_eq_false (by omega)
      have HH1 : Hid ((allow m x).length ≤ s.length ∧ (x.op = 1 → x.a.toNat < s.length)) := ⟨by rw [← HTT.out, HLN.out]; exact h1, fun e => by rw [HLN.out]; exact h2 e⟩
      have HY0 : Hid (Ni w1 p (n - t) c (s.take (n - t))) := (HST.out.below (HBW.out.trans (HB1.out.mono (by omega)))).take (by omega)
      have hcap := HST.out.cap
      have HTL : Hid ((s.take (n - t)).length = n - t) := by unfold Hid; rw [List.length_take, HLN.out]; omega
      have HOU : Hid (outOf m f x s = s.take (n - t) ++ (if lefts m f x s = 0 then [] else [lefts m f x s])) := by unfold Hid outOf; rw [HLN.out, ← HTT.out]
      have HH2 := mkD h2
      clear h2
      have hb5 : ∃ b5, (x.op == 1) = b5 ∧ (b5 = true → decide ((n : Int) ≤ x.a) = false) := ⟨_, rfl, fun e => decide_eq_false (by have := HH2.out (by simpa using e); omega)⟩
      obtain ⟨b5, e5, d5⟩ := hb5
      cases b5
      · go_wp2_with (at_builtin; refine appI_law _ rfl (.tmp 31) (.tmp 37) rfl W.heap.size (.slice none 0 0) [] (s.take (n - t)) (by simp [Act.eval]) ⟨rfl, Or.inl ⟨rfl, rfl⟩⟩ p (n - t) c (by simp [Act.eval]) HY0.out (by simp; omega) (by omega) ?_; intro v2 w2 ho2 hb2 hbt2; rw [List.nil_append] at ho2; obtain ⟨p2, c2, hv2⟩ := ho2.form; rw [HTL.out] at hv2; subst hv2; have HO2 := mkD ho2; have HB2 := mkD hb2; have u0 := (hb2.cell (p := ⟨w.heap.size, 0, none⟩) (by simp only; omega)).trans l0; have u1 := (hb2.cell (p := ⟨w.heap.size, 1, none⟩) (by simp only; omega)).trans l1; have u2 := (hb2.cell (p := ⟨w.heap.size, 2, none⟩) (by simp only; omega)).trans l2; have v0 := (hb2.cell (p := ⟨w.heap.size + 1, 0, none⟩) (by simp only; omega)).trans n0; have v1 := (hb2.cell (p := ⟨w.heap.size + 1, 1, none⟩) (by simp only; omega)).trans n1; have v2' := (hb2.cell (p := ⟨w.heap.size + 1, 2, none⟩) (by simp only; omega)).trans n2; have z0 := (hb2.cell (p := ⟨w.heap.size + 1 + 1, 0, none⟩) (by simp only; omega)).trans k0; have z1 := (hb2.cell (p := ⟨w.heap.size + 1 + 1, 1, none⟩) (by simp only; omega)).trans k1; have z2 := (hb2.cell (p := ⟨w.heap.size + 1 + 1, 2, none⟩) (by simp only; omega)).trans k2; clear ho2 hb2 hbt2)
        have HBA : Hid (Below w.heap.size w w2) := (HBW.out.trans (HB1.out.mono (by omega))).trans (HB2.out.mono (by omega))
        have HLV : Hid (LvAt w2 cp cn cc rp rl rc p n c m f x s) := ⟨HX.out, HCS.out.below HBA.out, HNE.out, HFR.out.below HBA.out, HST.out.below HBA.out, HH2.out, fun e => by have := allow15 (m := m) e; have := HTT.out; omega⟩
        obtain ⟨l, hl⟩ : ∃ l, l = lefts m f x s := ⟨_, rfl⟩
        have HL : Hid (l = lefts m f x s) := hl
        have hLc := leaves_c cp cn cc g fp fn fc k rp rl rc dp dl dc p n c m f x s w2 HLV.out
        rw [← hl] at hLc
        refine hLc.mono ?_
        clear hLc hl
        rintro e w3 ⟨rfl, hb3⟩
        have HO3 := mkD (HO2.out.below hb3)
        have HBC : Hid (Below w.heap.size w w3) := HBA.out.trans (hb3.mono HBA.out.size)
        have hw3 : W.heap.size ≤ w3.heap.size := by have := HB2.out.size; have := hb3.size; omega
        clear hb3 u0 u1 u2 v0 v1 v2' z0 z1 z2 l0 l1 l2 n0 n1 n2 k0 k1 k2
        by_cases hz : l = 0
        · subst hz
          have HE : Hid (outOf m f x s = s.take (n - t)) := by unfold Hid; rw [HOU.out, if_pos HL.out.symm, List.append_nil]
          have dq : decide (((n - t : Nat) : Int) ≤ 200) = true := decide_eq_true (by omega)
          go_wp2
          refine bodyPost_ret (v := .tuple #[.slice p2 (n - t) c2, .bool true]) (by simp [results, Tryz.results60, go_sem]) rfl ⟨_, _, rfl, HBC.out, ⟨fun _ => ⟨HH1.out.1, HH1.out.2, by rw [HE.out, HTL.out]; omega⟩, fun _ => rfl⟩, fun _ => by rw [HE.out]; exact HO3.out.mono (by omega)⟩
        · have bz : ((l : Int) == 0) = false := by simp [hz]
          have HE : Hid (outOf m f x s = s.take (n - t) ++ [l]) := by unfold Hid; rw [HOU.out, ← HL.out, if_neg hz]
          have HE2 : Hid ((s.take (n - t) ++ [l]).length = n - t + 1) := by unfold Hid; rw [List.length_append, HTL.out]; rfl
          go_wp2_with (at_builtin; refine app1I_law _ rfl (.tmp 46) (.tmp 48) rfl W.heap.size (.slice p2 (n - t) c2) (s.take (n - t)) l (by simp [Act.eval]) HO3.out (by simp [Act.eval]) (by rw [HTL.out]; omega) hw3 ?_; intro v4 w4 ho4 hb4 hbt4; obtain ⟨p4, c4, hv4⟩ := ho4.form; rw [HE2.out] at hv4; subst hv4; have HO4 := mkD ho4; have HB4 := mkD hb4; clear ho4 hb4 hbt4)
          by_cases hq : n - t + 1 ≤ 200
          · have dq : decide (((n - t : Nat) : Int) + 1 ≤ 200) = true := decide_eq_true (by omega)
            go_wp2
            refine bodyPost_ret (v := .tuple #[.slice p4 (n - t + 1) c4, .bool true]) (by simp [results, Tryz.results60, go_sem]; omega) rfl ⟨_, _, rfl, HBC.out.trans (HB4.out.mono (by omega)), ⟨fun _ => ⟨HH1.out.1, HH1.out.2, by rw [HE.out, HE2.out]; exact hq⟩, fun _ => rfl⟩, fun _ => by rw [HE.out]; exact HO4.out.mono (by omega)⟩
          · have dq : decide (((n - t : Nat) : Int) + 1 ≤ 200) = false := decide_eq_false (by omega)
            go_wp2
            refine bodyPost_ret (v := .tuple #[.slice p4 (n - t + 1) c4, .bool false]) (by simp [results, Tryz.results60, go_sem]; omega) rfl ⟨_, _, rfl, HBC.out.trans (HB4.out.mono (by omega)), ⟨fun h => (by cases h), fun h => absurd (by have := h.2.2; rw [HE.out, HE2.out] at this; exact this) hq⟩, fun h => (by cases h)⟩
      · have d5 := d5 rfl
        go_wp2_with (at_builtin; refine appI_law _ rfl (.tmp 31) (.tmp 37) rfl W.heap.size (.slice none 0 0) [] (s.take (n - t)) (by simp [Act.eval]) ⟨rfl, Or.inl ⟨rfl, rfl⟩⟩ p (n - t) c (by simp [Act.eval]) HY0.out (by simp; omega) (by omega) ?_; intro v2 w2 ho2 hb2 hbt2; rw [List.nil_append] at ho2; obtain ⟨p2, c2, hv2⟩ := ho2.form; rw [HTL.out] at hv2; subst hv2; have HO2 := mkD ho2; have HB2 := mkD hb2; have u0 := (hb2.cell (p := ⟨w.heap.size, 0, none⟩) (by simp only; omega)).trans l0; have u1 := (hb2.cell (p := ⟨w.heap.size, 1, none⟩) (by simp only; omega)).trans l1; have u2 := (hb2.cell (p := ⟨w.heap.size, 2, none⟩) (by simp only; omega)).trans l2; have v0 := (hb2.cell (p := ⟨w.heap.size + 1, 0, none⟩) (by simp only; omega)).trans n0; have v1 := (hb2.cell (p := ⟨w.heap.size + 1, 1, none⟩) (by simp only; omega)).trans n1; have v2' := (hb2.cell (p := ⟨w.heap.size + 1, 2, none⟩) (by simp only; omega)).trans n2; have z0 := (hb2.cell (p := ⟨w.heap.size + 1 + 1, 0, none⟩) (by simp only; omega)).trans k0; have z1 := (hb2.cell (p := ⟨w.heap.size + 1 + 1, 1, none⟩) (by simp only; omega)).trans k1; have z2 := (hb2.cell (p := ⟨w.heap.size + 1 + 1, 2, none⟩) (by simp only; omega)).trans k2; clear ho2 hb2 hbt2)
        have HBA : Hid (Below w.heap.size w w2) := (HBW.out.trans (HB1.out.mono (by omega))).trans (HB2.out.mono (by omega))
        have HLV : Hid (LvAt w2 cp cn cc rp rl rc p n c m f x s) := ⟨HX.out, HCS.out.below HBA.out, HNE.out, HFR.out.below HBA.out, HST.out.below HBA.out, HH2.out, fun e => by have := allow15 (m := m) e; have := HTT.out; omega⟩
        obtain ⟨l, hl⟩ : ∃ l, l = lefts m f x s := ⟨_, rfl⟩
        have HL : Hid (l = lefts m f x s) := hl
        have hLc := leaves_c cp cn cc g fp fn fc k rp rl rc dp dl dc p n c m f x s w2 HLV.out
        rw [← hl] at hLc
        refine hLc.mono ?_
        clear hLc hl
        rintro e w3 ⟨rfl, hb3⟩
        have HO3 := mkD (HO2.out.below hb3)
        have HBC : Hid (Below w.heap.size w w3) := HBA.out.trans (hb3.mono HBA.out.size)
        have hw3 : W.heap.size ≤ w3.heap.size := by have := HB2.out.size; have := hb3.size; omega
        clear hb3 u0 u1 u2 v0 v1 v2' z0 z1 z2 l0 l1 l2 n0 n1 n2 k0 k1 k2
        by_cases hz : l = 0
        · subst hz
          have HE : Hid (outOf m f x s = s.take (n - t)) := by unfold Hid; rw [HOU.out, if_pos HL.out.symm, List.append_nil]
          have dq : decide (((n - t : Nat) : Int) ≤ 200) = true := decide_eq_true (by omega)
          go_wp2
          refine bodyPost_ret (v := .tuple #[.slice p2 (n - t) c2, .bool true]) (by simp [results, Tryz.results60, go_sem]) rfl ⟨_, _, rfl, HBC.out, ⟨fun _ => ⟨HH1.out.1, HH1.out.2, by rw [HE.out, HTL.out]; omega⟩, fun _ => rfl⟩, fun _ => by rw [HE.out]; exact HO3.out.mono (by omega)⟩
        · have bz : ((l : Int) == 0) = false := by simp [hz]
          have HE : Hid (outOf m f x s = s.take (n - t) ++ [l]) := by unfold Hid; rw [HOU.out, ← HL.out, if_neg hz]
          have HE2 : Hid ((s.take (n - t) ++ [l]).length = n - t + 1) := by unfold Hid; rw [List.length_append, HTL.out]; rfl
          go_wp2_with (at_builtin; refine app1I_law _ rfl (.tmp 46) (.tmp 48) rfl W.heap.size (.slice p2 (n - t) c2) (s.take (n - t)) l (by simp [Act.eval]) HO3.out (by simp [Act.eval]) (by rw [HTL.out]; omega) hw3 ?_; intro v4 w4 ho4 hb4 hbt4; obtain ⟨p4, c4, hv4⟩ := ho4.form; rw [HE2.out] at hv4; subst hv4; have HO4 := mkD ho4; have HB4 := mkD hb4; clear ho4 hb4 hbt4)
          by_cases hq : n - t + 1 ≤ 200
          · have dq : decide (((n - t : Nat) : Int) + 1 ≤ 200) = true := decide_eq_true (by omega)
            go_wp2
            refine bodyPost_ret (v := .tuple #[.slice p4 (n - t + 1) c4, .bool true]) (by simp [results, Tryz.results60, go_sem]; omega) rfl ⟨_, _, rfl, HBC.out.trans (HB4.out.mono (by omega)), ⟨fun _ => ⟨HH1.out.1, HH1.out.2, by rw [HE.out, HE2.out]; exact hq⟩, fun _ => rfl⟩, fun _ => by rw [HE.out]; exact HO4.out.mono (by omega)⟩
          · have dq : decide (((n - t : Nat) : Int) + 1 ≤ 200) = false := decide_eq_false (by omega)
            go_wp2
            refine bodyPost_ret (v := .tuple #[.slice p4 (n - t + 1) c4, .bool false]) (by simp [results, Tryz.results60, go_sem]; omega) rfl ⟨_, _, rfl, HBC.out.trans (HB4.out.mono (by omega)), ⟨fun h => (by cases h), fun h => absurd (by have := h.2.2; rw [HE.out, HE2.out] at this; exact this) hq⟩, fun h => (by cases h)⟩
    · obtain ⟨h5, h6⟩ : x.op = 1 ∧ ¬ x.a.toNat < n := by
        by_cases h5 : x.op = 1
        · exact ⟨h5, fun h => h2 (fun _ => h)⟩
        · exact absurd (fun e => absurd e h5) h2
      have HN : Hid (¬ fits m f x s) := fun hh => h6 (by have := hh.2.1 h5; rw [HLN.out] at this; exact this)
      have d1 : decide ((n : Int) < (t : Int)) = false := decide_eq_false (by omega)
      have e5 : (x.op == 1) = true := by simp [h5]
      have d5 : decide ((n : Int) ≤ x.a) = true := decide_eq_true (by omega)
      have HBC : Hid (Below w.heap.size w w1) := HBW.out.trans (HB1.out.mono (by omega))
      clear h2 h5
      go_wp2
      refine bodyPost_ret (v := .tuple #[.slice none 0 0, .bool false]) (by simp [results, Tryz.results60, go_sem]) rfl ⟨_, _, rfl, HBC.out, ⟨fun h => (by cases h), fun h => absurd h HN.out⟩, fun h => (by cases h)⟩
  · have HN : Hid (¬ fits m f x s) := fun hh => h1 (by have := hh.1; rw [HLN.out, ← HTT.out] at this; exact this)
    have d1 : decide ((n : Int) < (t : Int)) = true := decide_eq_true (by omega)
    have HBC : Hid (Below w.heap.size w w1) := HBW.out.trans (HB1.out.mono (by omega))
    go_wp2
    refine bodyPost_ret (v := .tuple #[.slice none 0 0, .bool false]) (by simp [results, Tryz.results60, go_sem]) rfl ⟨_, _, rfl, HBC.out, ⟨fun h => (by cases h), fun h => absurd h HN.out⟩, fun h => (by cases h)⟩
end Vf
end Go.Proofs.YtdjdhjciealfhaaGreatDoor
namespace Go.Proofs.YtdjdhjciealfhaaGreatDoor
open Go.RowKit Ch1
namespace Vf
/-- The block of one row alone has turned. -/
structure Sx (v : Value) (w w' : World) : Prop where
  size : w.heap.size ≤ w'.heap.size
  os : w'.os = w.os
  tape : w'.tape = w.tape
  output : w'.output = w.output
  block : ∀ k, k < w.heap.size → v.ownBlock ≠ some k → w'.heap[k]? = w.heap[k]?
theorem Sx.trans {v : Value} {u x w : World} (h : Sx v u x) (k : Sx v x w) : Sx v u w := ⟨Nat.le_trans h.size k.size, k.os.trans h.os, k.tape.trans h.tape, k.output.trans h.output, fun i h1 h2 => (k.block i (Nat.lt_of_lt_of_le h1 h.size) h2).trans (h.block i h1 h2)⟩
theorem Sx.set {v : Value} {b : Nat} (hb : v.ownBlock = some b) (w : World) (j : Nat) (x : Value) : Sx v w (w.setCell ⟨b, j, none⟩ x) := ⟨by simp [World.setCell], rfl, rfl, rfl, fun k _ hk => Below.heap_setCell w ⟨b, j, none⟩ x k (fun e => hk (by rw [hb]; exact congrArg some e.symm))⟩
theorem Sx.of_below {v : Value} {w w' : World} (h : Below w.heap.size w w') : Sx v w w' := ⟨h.size, h.os, h.tape, h.output, fun k hk _ => h.block k hk⟩
theorem Sx.drew {v : Value} {w w' : World} (h : Sx v w w') : Sx v w w'.drew := ⟨h.size, h.os, h.tape, h.output, h.block⟩
theorem Sx.later {v : Value} {u w : World} (h : Sx v u w) {g : Nat} (hg : u.heap.size ≤ g) (j : Nat) (x : Value) : Sx v u (w.setCell ⟨g, j, none⟩ x) :=
  ⟨by have := h.size; simpa [World.setCell] using this, h.os, h.tape, h.output, fun k h1 h2 => (Below.heap_setCell w ⟨g, j, none⟩ x k (by simp only; omega)).trans (h.block k h1 h2)⟩
theorem Sx.below {v : Value} {B : Nat} {w w' : World} (h : Sx v w w') (hv : ∀ k, v.ownBlock = some k → B ≤ k) (hB : B ≤ w.heap.size) : Below B w w' := ⟨h.os, h.tape, h.output, h.size, fun k hk => h.block k (by omega) (fun e => by have := hv k e; omega)⟩
theorem OwI.set {w : World} {B g n c : Nat} {xs : List Nat} (h : OwI w B (.slice (some ⟨g, 0, none⟩) n c) xs) (i v : Nat) : OwI (w.setCell ⟨g, i, none⟩ (.int .i64 (v : Int))) B (.slice (some ⟨g, 0, none⟩) n c) (xs.set i v) := by
  obtain ⟨e0, ⟨hv, _⟩ | ⟨g', cap, cur, hv, hg, hh, h1, h2, h3, h4⟩⟩ := h
  · cases hv
  · cases hv
    refine ⟨by simp [Iv], Or.inr ⟨g, c, cur.setIfInBounds i (.int .i64 (v : Int)), by simp, hg, ?_, by simpa using h1, h2, by simpa using h3, ?_⟩⟩
    · simp [World.setCell, Array.getElem?_modify, hh]
    · rw [List.length_set]
      have e : Iv (xs.set i v) = (Iv xs).set i (.int .i64 (v : Int)) := by simp [Iv, List.map_set]
      rw [e, ← h4, Array.toList_setIfInBounds, List.take_set]
theorem OwI.other {w w' : World} {B : Nat} {u v : Value} {xs : List Nat} (h : OwI w B v xs) (hs : Sx u w w') (hb : ∀ k, v.ownBlock = some k → u.ownBlock ≠ some k) : OwI w' B v xs :=
  owns_of_heap h (fun k hk => hs.block k (owns_lt h k hk).1 (hb k hk))
/-- So far put in. -/
def partJ (s o : List Nat) (i : Nat) : List Nat := (List.range s.length).map (fun k => if k < i then s.getD k 0 ||| o.getD k 0 else s.getD k 0)
theorem partJ_len (s o : List Nat) (i : Nat) : (partJ s o i).length = s.length := by simp [partJ]
theorem partJ_get (s o : List Nat) (i k : Nat) (hk : k < s.length) : (partJ s o i).getD k 0 = if k < i then s.getD k 0 ||| o.getD k 0 else s.getD k 0 := by simp [partJ, List.getD, hk]
theorem partJ_zero (s o : List Nat) : partJ s o 0 = s := ext_getD (partJ_len _ _ _) (fun k => by
  by_cases hk : k < s.length
  · rw [partJ_get _ _ _ _ hk, if_neg (Nat.not_lt_zero k)]
  · simp [List.getD, partJ, hk])
theorem partJ_all (s o : List Nat) : partJ s o s.length = joinL s o := by
  unfold partJ joinL
  refine List.map_congr_left (fun k hk => ?_)
  rw [if_pos (List.mem_range.1 hk)]
theorem partJ_succ (s o : List Nat) (i : Nat) : partJ s o (i + 1) = (partJ s o i).set i (s.getD i 0 ||| o.getD i 0) := by
  refine ext_getD (by rw [List.length_set, partJ_len, partJ_len]) (fun k => ?_)
  by_cases hk : k < s.length
  · rw [partJ_get _ _ _ _ hk]
    have e : ((partJ s o i).set i (s.getD i 0 ||| o.getD i 0)).getD k 0 = if i = k then (s.getD i 0 ||| o.getD i 0) else (partJ s o i).getD k 0 := by
      by_cases hik : i = k
      · subst hik
        rw [if_pos rfl]
        simp [List.getD, partJ_len, hk]
      · rw [if_neg hik]
        simp [List.getD, List.getElem?_set_ne hik]
    rw [e, partJ_get _ _ _ _ hk]
    by_cases hik : i = k
    · subst hik
      rw [if_pos (by omega), if_pos rfl]
    · rw [if_neg hik]
      by_cases h1 : k < i
      · rw [if_pos (by omega), if_pos h1]
      · rw [if_neg (by omega), if_neg h1]
  · have z : ∀ l : List Nat, l.length = s.length → l.getD k 0 = 0 := fun l hl => by simp [List.getD, List.getElem?_eq_none (show l.length ≤ k by omega)]
    rw [z _ (partJ_len _ _ _), z _ (by rw [List.length_set, partJ_len])]
theorem set_getD (l : List Nat) (i : Nat) (hi : i < l.length) : l.set i (l.getD i 0) = l := by
  refine List.ext_getElem (by simp) (fun k h1 h2 => ?_)
  by_cases hik : i = k
  · subst hik; simp [List.getD, List.getElem?_eq_getElem hi]
  · simp [List.getElem_set_ne hik]
theorem partJ_same (s o : List Nat) (i : Nat) (hi : i < s.length) (h : s.getD i 0 ||| o.getD i 0 = s.getD i 0) : partJ s o (i + 1) = partJ s o i := by
  have e : (partJ s o i).getD i 0 = s.getD i 0 := by rw [partJ_get _ _ _ _ hi, if_neg (Nat.lt_irrefl i)]
  rw [partJ_succ, h, ← e]
  exact set_getD _ _ (by rw [partJ_len]; exact hi)
theorem partJ_more (s o : List Nat) (i : Nat) (hi : i < s.length) (h : s.getD i 0 ||| o.getD i 0 ≠ s.getD i 0) : ∀ k, i < k → k ≤ s.length → partJ s o k ≠ s := fun k h1 _ e => h (by
  have e2 : (partJ s o k).getD i 0 = s.getD i 0 := by rw [e]
  rw [partJ_get _ _ _ _ hi, if_pos h1] at e2
  exact e2)
theorem or64 (a b : Nat) (ha : a < 512) (hb : b < 512) : IntKind.i64.wrap (((BitVec.ofInt 64 (a : Int)) ||| (BitVec.ofInt 64 (b : Int))).toNat : Int) = ((a ||| b : Nat) : Int) := by
  have h1 : (BitVec.ofInt 64 (a : Int)).toNat = a := by simp; omega
  have h2 : (BitVec.ofInt 64 (b : Int)).toNat = b := by simp; omega
  rw [BitVec.toNat_or, h1, h2]
  have h3 := Nat.or_lt_two_pow (n := 9) ha hb
  rw [IntKind.wrap_i64]
  omega
theorem or64b (a b : Nat) (ha : a < 512) (hb : b < 512) : bits .or .i64 (a : Int) (b : Int) = ((a ||| b : Nat) : Int) := or64 a b ha hb
end Vf
end Go.Proofs.YtdjdhjciealfhaaGreatDoor
