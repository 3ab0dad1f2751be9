import Derived.Test.YtkkmoaidbmnolaaGreatDoorD1
import Derived.Test.YtkkmoaidbmnolaaGreatDoorEs
import Derived.Deep.Upon
namespace Go.Proofs.YtkkmoaidbmnolaaGreatDoor
open Go.RowKit Ch1
theorem Ow.len {w : World} {B : Nat} {v : Value} {xs : List Int} (h : Ow w B v xs) : ∃ p c, v = .slice p xs.length c ∧ xs.length ≤ c := by
  obtain ⟨_, ⟨rfl, h0⟩ | ⟨g, cap, cur, rfl, hg, hh, h1, h2, h3, h4⟩⟩ := h
  · exact ⟨none, 0, by rw [h0], by omega⟩
  · exact ⟨_, cap, rfl, h1⟩
/-- append(v, x...), x bytes that may be none. -/
theorem appN_law (w : World) {ops : Array Oper} {rest : List Oper} {o : Oper} {a : Act} {Q : Exit → Act → World → Prop} (hgd : o.guard = none) (s x : Operand)
    (ho : o.op = .call { callee := .builtin .append, args := #[s, x], argTypes := #[22, 22] }) (B : Nat) (v : Value) (xs ys : List Int) (hs : a.eval s = v) (hown : Ow w B v xs) (q : Option Addr) (m c : Nat) (hx : a.eval x = .slice q m c)
    (hy : By w q m c ys) (hlen : xs.length + m ≤ 1000000000) (hB : B ≤ w.heap.size)
    (h : ∀ v' w', Ow w' B v' (xs ++ ys) → Below B w w' → But w w' v → wpList Tryz.prog ops Q rest (a.put o.dst v') w') : wpList Tryz.prog ops Q (o :: rest) a w := by
  by_cases hm : m = 0
  · subst hm
    obtain rfl : ys = [] := List.length_eq_zero_iff.1 hy.len
    obtain ⟨i5, hi5, _, _, _⟩ := info5'
    obtain ⟨p0, k0, rfl, hk0⟩ := hown.len
    have hsrc : Src Tryz.prog i5.size 22 (.slice q 0 c) 0 [] w := by
      cases q with
      | none => exact Src.ofNil w Tryz.underlying22 c
      | some ad => exact Src.ofSlice w Tryz.underlying22 ad 0 c [] (by simp) (fun j u hu => by simp at hu) (fun u hu => by cases hu)
    have hr := run_append_nothing (P := Tryz.prog) w 22 22 o.type 5 i5 Tryz.underlying22 hi5 p0 xs.length k0 hk0 (.slice q 0 c) hsrc
    refine wpList_plain hgd fun _ hK => ?_
    unfold Oper.wp execOp
    simp only [ho, resolve, invoke, builtin, Sem.run_bind, Sem.run_pure, Result.andThen_ok, List.map_toArray, List.map_cons, List.map_nil, hs, hx, hr]
    exact hK _ _ (h _ w (by rw [List.append_nil]; exact hown) (Below.refl _ _) (fun _ _ _ => rfl))
  · obtain ⟨b', o', rfl, _⟩ := hy.cells (by omega)
    exact app2_law w hgd s x ho B v xs ys hs hown b' o' m c hx hy hlen hB h
set_option maxHeartbeats 1000000 in
/-- bytes.Clone. -/
theorem clone_c (q : Option Addr) (m c : Nat) (ys : List Int) (w : World) (hy : By w q m c ys) (hm : m ≤ 1048576) :
    Calls Tryz.prog 73 #[.slice q m c] w fun e w' => ∃ v, e = .returned v ∧ Ow w' w.heap.size v ys ∧ Below w.heap.size w w' := by
  have HY : Hid (By w q m c ys) := hy
  have hen := Lib.run_eql_slice_nil (P := Tryz.prog)
  clear hy
  cases q with
  | none =>
    have h0 : m = 0 := by
      rcases Nat.eq_zero_or_pos m with h | h
      · exact h
      · obtain ⟨_, _, e, _⟩ := HY.out.cells h; cases e
    subst h0
    have HE : Hid (ys = []) := List.length_eq_zero_iff.1 HY.out.len
    go_enter Tryz.func73, Tryz.ntmps73
    go_wp2
    go_ret
    exact ⟨_, rfl, by rw [HE.out]; exact Ow.nil _ _, Below.refl _ _⟩
  | some a =>
    go_enter Tryz.func73, Tryz.ntmps73
    go_wp2_with (at_builtin; refine appN_law _ rfl (.tmp 5) (.tmp 6) rfl w.heap.size (.slice (some ⟨w.heap.size, 0, none⟩) 0 0) [] ys (by simp [Act.eval]) (by exact Ow.lit w w.heap.size [] (Nat.le_refl _) (by simp)) (some a) m c (by simp [Act.eval]) (HY.out.below (below1 _ _)) (by simp; omega) (below1 _ _).size ?_; intro v' w' ho hg _; have HO2 : Hid (Ow w' w.heap.size v' ([] ++ ys)) := ho; have HG : Hid (Below w.heap.size w w') := (below1 _ _).trans hg; clear ho hg)
    go_ret
    exact ⟨_, rfl, HO2.out, HG.out⟩
/-! ### what the program's reader reads, on lists -/
def rdN (k : Nat) (xs : List Int) : Option (Int × List Int) := if k ≤ xs.length then some (wrap64 (lnZ (xs.take k)), xs.drop k) else none
/-- What is behind the kind of a datum. -/
def rdR (kind : Int) (xs : List Int) : Option (Dt × List Int) :=
  if kind = 0 then (rdN 8 xs).map (fun r => (⟨0, r.1, [], 0⟩, r.2))
  else if kind = 1 then (rdN 1 xs).map (fun r => (⟨1, r.1, [], 0⟩, r.2))
  else if kind = 2 then (rdN 1 xs).bind (fun r => if r.1.toNat ≤ r.2.length then some (⟨2, 0, r.2.take r.1.toNat, 0⟩, r.2.drop r.1.toNat) else none)
  else if kind = 3 then (rdN 2 xs).map (fun r => (⟨3, 0, [], r.1⟩, r.2))
  else some (⟨kind, 0, [], 0⟩, xs)
def rdD (xs : List Int) : Option (Dt × List Int) := (rdN 1 xs).bind (fun r => rdR r.1 r.2)
/-- The reader's place, whatever it is. -/
def RdE (w : World) (b : Nat) (xs : List Int) : Prop := ∃ p n c, n = xs.length ∧ Rd w b p n c xs
/-- What a reading function answers: a value that fits, or the panic. -/
def ReP {α : Type} (b : Nat) (r : Option (α × List Int)) (V : α → Value → World → World → Prop) (w w' : World) (e : Ending) : Prop :=
  (∃ x rest v, r = some (x, rest) ∧ e = .returned v ∧ V x v w w' ∧ RdE w' b rest ∧ Sr b w w') ∨ (r = none ∧ e = .panicked [{ v := .iface 51 (.agg #[.int .i64 5, .int .i64 0]), recovered := false }] ∧ Sr b w w')
theorem number_c (b k : Nat) (xs : List Int) (w : World) (hR : RdE w b xs) (hn : xs.length ≤ 1048576) (hk8 : k ≤ 8) :
    Calls Tryz.prog 32 #[.pointer (some ⟨b, 0, none⟩), .int .i64 k] w fun e w' => ReP b (rdN k xs) (fun x v _ _ => v = .int .i64 x) w w' e := by
  obtain ⟨p, n, c, hl, hr⟩ := hR
  by_cases hk : k ≤ n
  · refine (number_yes b p n c k xs w hr hk (by omega) hk8).mono ?_
    rintro e w' ⟨he, q, d, h1, h2⟩
    exact Or.inl ⟨_, _, _, by unfold rdN; rw [if_pos (by omega)], he, rfl, ⟨q, n - k, d, by rw [List.length_drop, hl], h1⟩, h2⟩
  · refine (number_no b p n c k xs w hr (by omega)).mono ?_
    rintro e w' ⟨he, rfl⟩
    exact Or.inr ⟨by unfold rdN; rw [if_neg (by omega)], he, Sr.refl _ _⟩
theorem take_c (b k : Nat) (xs : List Int) (w : World) (hR : RdE w b xs) (hn : xs.length ≤ 1048576) :
    Calls Tryz.prog 29 #[.pointer (some ⟨b, 0, none⟩), .int .i64 k] w fun e w' => ReP b (if k ≤ xs.length then some (xs.take k, xs.drop k) else none) (fun ys v _ w' => ∃ q c, v = .slice q k c ∧ By w' q k c ys) w w' e := by
  obtain ⟨p, n, c, hl, hr⟩ := hR
  by_cases hk : k ≤ n
  · refine (take_yes b p n c k xs w hr hk (by omega)).mono ?_
    rintro e w' ⟨he, q, d, h1, h2, h3⟩
    exact Or.inl ⟨_, _, _, by rw [if_pos (by omega)], he, ⟨p, c, rfl, h3⟩, ⟨q, n - k, d, by rw [List.length_drop, hl], h1⟩, h2⟩
  · refine (take_no b p n c k xs w hr (by omega)).mono ?_
    rintro e w' ⟨he, rfl⟩
    exact Or.inr ⟨by rw [if_neg (by omega)], he, Sr.refl _ _⟩
theorem RdE.below {w w' : World} {b : Nat} {xs : List Int} (h : RdE w b xs) (hb : Below w.heap.size w w') : RdE w' b xs := by
  obtain ⟨p, n, c, hl, hr⟩ := h
  exact ⟨p, n, c, hl, hr.below hb⟩
theorem RdE.keep {w w' : World} {b : Nat} {xs : List Int} (h : RdE w b xs) (hk : ∀ k, k ≤ b → w'.heap[k]? = w.heap[k]?) : RdE w' b xs := by
  obtain ⟨p, n, c, hl, hr⟩ := h
  refine ⟨p, n, c, hl, (hk b (Nat.le_refl _)).trans hr.blk, ?_, hr.far⟩
  have hy := hr.by_
  refine ⟨hy.len, hy.cap, hy.big, hy.rng, fun hn => ?_, fun a ha hn => ?_⟩
  · obtain ⟨b', o, e, hc⟩ := hy.cells hn
    have hlt := hr.far _ e hn
    exact ⟨b', o, e, fun i hi => by rw [World.cell?_of_block (w := w) (hk b' (Nat.le_of_lt hlt))]; exact hc i hi⟩
  · have hlt := hr.far a ha hn
    have := (hk a.block (Nat.le_of_lt hlt))
    have hw := hy.old a ha hn
    rw [Array.getElem?_eq_getElem hw] at this
    exact (Array.getElem?_eq_some_iff.1 this).1
theorem RdE.lt {w : World} {b : Nat} {xs : List Int} (h : RdE w b xs) : b < w.heap.size := by
  obtain ⟨p, n, c, hl, hr⟩ := h
  exact hr.lt
/-- Cells of a new block are written. -/
theorem Sr.later {b : Nat} {u w : World} (h : Sr b u w) {g : Nat} (hg : u.heap.size ≤ g) (j : Nat) (v : Value) : Sr b u (w.setCell ⟨g, j, none⟩ v) :=
  ⟨by have := h.size; simpa [World.setCell] using this, h.os, h.tape, h.output, fun k h1 h2 => (Below.heap_setCell w ⟨g, j, none⟩ v k (by simp only; omega)).trans (h.block k h1 h2)⟩
theorem RdE.later {w : World} {b : Nat} {xs : List Int} (h : RdE w b xs) {g : Nat} (hg : b < g) (j : Nat) (v : Value) : RdE (w.setCell ⟨g, j, none⟩ v) b xs :=
  h.keep (fun k hk => Below.heap_setCell w ⟨g, j, none⟩ v k (by simp only; omega))
/-- A truth. -/
def rdT (xs : List Int) : Option (Bool × List Int) := (rdN 1 xs).bind (fun r => if r.1 ≤ 1 then some (decide (r.1 = 1), r.2) else none)
set_option maxRecDepth 20000 in
set_option maxHeartbeats 1000000 in
theorem truthR_c (b : Nat) (xs : List Int) (w : World) (hR : RdE w b xs) (hn : xs.length ≤ 1048576) :
    Calls Tryz.prog 68 #[.pointer (some ⟨b, 0, none⟩)] w fun e w' => ReP b (rdT xs) (fun x v _ _ => v = .bool x) w w' e := by
  have HR : Hid (RdE w b xs) := hR
  clear hR
  go_enter Tryz.func68, Tryz.ntmps68
  go_wp2_with fail
  refine (number_c b 1 xs _ HR.out hn (by omega)).mono ?_
  rintro e w1 (⟨z, rest, v, hr, rfl, rfl, hR1, hs1⟩ | ⟨hr, rfl, hs1⟩)
  · have HRE : Hid (rdN 1 xs = some (z, rest)) := hr
    have HR1 : Hid (RdE w1 b rest) := hR1
    have HS1 : Hid (Sr b w w1) := hs1
    clear hr hR1 hs1
    by_cases hz : z ≤ 1
    · have dz : decide (z ≤ 1) = true := decide_eq_true hz
      go_wp2_with (go_at_call 28; refine (need_yes _ _).mono ?_; rintro e w2 ⟨rfl, hw2⟩; have hw2' := hw2.symm; clear hw2; subst hw2')
      go_ret
      refine Or.inl ⟨decide (z = 1), rest, _, by unfold rdT; rw [HRE.out]; show (if z ≤ 1 then _ else _) = _; rw [if_pos hz], rfl, ?_, HR1.out, HS1.out⟩
      by_cases h1 : z = 1
      · subst h1; rfl
      · have : (z == 1) = decide (z = 1) := by rw [decide_eq_false h1]; simpa using h1
        rw [← this]; rfl
    · have dz : decide (z ≤ 1) = false := decide_eq_false hz
      go_wp2_with (go_at_call 28; refine (need_no _ _).mono ?_; rintro e w2 ⟨rfl, hw2⟩; have hw2' := hw2.symm; clear hw2; subst hw2')
      exact ⟨rfl, Or.inr ⟨by unfold rdT; rw [HRE.out]; show (if z ≤ 1 then _ else _) = _; rw [if_neg (by omega)], rfl, HS1.out⟩⟩
  · exact ⟨rfl, Or.inr ⟨by unfold rdT; rw [hr]; rfl, rfl, hs1⟩⟩
end Go.Proofs.YtkkmoaidbmnolaaGreatDoor
namespace Go.Proofs.YtkkmoaidbmnolaaGreatDoor
open Go.RowKit Ch1
/-- A datum as a value, its text the call's own. -/
def DtV (d : Dt) (v : Value) (w w' : World) : Prop := ∃ q m c, v = .agg #[.int .i64 d.kind, .int .i64 d.n, .slice q m c, .int .i64 d.count] ∧ Ow w' w.heap.size (.slice q m c) d.text
theorem cells4 {w : World} {k : Nat} {a b c d : Value} {t : TypeId} (e : w.heap[k]? = some (.cells #[a, b, c, d] t)) : w.cell? ⟨k, 0, none⟩ = some a ∧ w.cell? ⟨k, 1, none⟩ = some b ∧ w.cell? ⟨k, 2, none⟩ = some c ∧ w.cell? ⟨k, 3, none⟩ = some d ∧ w.frozen? ⟨k, 0, none⟩ = false ∧ w.frozen? ⟨k, 1, none⟩ = false ∧ w.frozen? ⟨k, 2, none⟩ = false ∧ w.frozen? ⟨k, 3, none⟩ = false := by
  refine ⟨?_, ?_, ?_, ?_, ?_, ?_, ?_, ?_⟩ <;> simp [World.cell?, World.frozen?, e]
theorem rdN_len {k : Nat} {xs rest : List Int} {z : Int} (h : rdN k xs = some (z, rest)) : rest.length ≤ xs.length := by
  unfold rdN at h
  split at h
  · simp only [Option.some.injEq, Prod.mk.injEq] at h
    rw [← h.2, List.length_drop]
    omega
  · cases h
theorem rdN_byte {xs rest : List Int} {z : Int} (hr : Rg xs) (h : rdN 1 xs = some (z, rest)) : 0 ≤ z ∧ z < 256 := by
  unfold rdN at h
  split at h
  · simp only [Option.some.injEq, Prod.mk.injEq] at h
    have h1 := lnZ_rg (xs.take 1) (fun x hx => hr x (List.mem_of_mem_take hx))
    have hl : (xs.take 1).length = 1 := by rw [List.length_take]; omega
    rw [hl] at h1
    rw [← h.1, wrap64_small _ (by omega) (by omega)]
    omega
  · cases h
theorem RdE.rg {w : World} {b : Nat} {xs : List Int} (h : RdE w b xs) : Rg xs := by
  obtain ⟨p, n, c, hl, hr⟩ := h
  exact rg_of hr.by_.rng
theorem Ow.low {w : World} {B : Nat} {v : Value} {xs : List Int} (h : Ow w B v xs) {g : Nat} (hg : g < B) (j : Nat) (x : Value) : Ow (w.setCell ⟨g, j, none⟩ x) B v xs := by
  obtain ⟨h1, h2 | ⟨k, cap, cur, rfl, hk, hh, r⟩⟩ := h
  · exact ⟨h1, Or.inl h2⟩
  · exact ⟨h1, Or.inr ⟨k, cap, cur, rfl, hk, by rw [Below.heap_setCell w ⟨g, j, none⟩ x k (by simp only; omega)]; exact hh, r⟩⟩
set_option maxRecDepth 20000 in
set_option maxHeartbeats 4000000 in
theorem datumR_c (b : Nat) (xs : List Int) (w : World) (hR : RdE w b xs) (hn : xs.length ≤ 1048576) :
    Calls Tryz.prog 67 #[.pointer (some ⟨b, 0, none⟩)] w fun e w' => ReP b (rdD xs) DtV w w' e := by
  have HR : Hid (RdE w b xs) := hR
  have hbl := hR.lt
  obtain ⟨W, hWW⟩ : ∃ W, W = w.alloc (.cells #[.int .i64 0, .int .i64 0, .slice none 0 0, .int .i64 0] 41) := ⟨_, rfl⟩
  have HWX : Hid (W.heap[w.heap.size]? = some (.cells #[.int .i64 0, .int .i64 0, .slice none 0 0, .int .i64 0] 41)) := by unfold Hid; rw [hWW]; exact Go.Deep.blk_alloc_new _ _
  have HWB : Hid (Below w.heap.size w W) := by unfold Hid; rw [hWW]; exact below1 _ _
  have HWs : Hid (W.heap.size = w.heap.size + 1) := by unfold Hid; rw [hWW]; simp
  clear hR
  go_enter Tryz.func67, Tryz.ntmps67
  go_wp2_with fail
  rw [← hWW]
  clear hWW
  refine (number_c b 1 xs _ (HR.out.below HWB.out) hn (by omega)).mono ?_
  rintro e w1 (⟨kd, rest, v, hr, rfl, rfl, hR1, hs1⟩ | ⟨hr, rfl, hs1⟩)
  rotate_left
  · exact ⟨rfl, Or.inr ⟨by unfold rdD; rw [hr]; rfl, rfl, (Sr.of_below HWB.out).trans hs1⟩⟩
  have HRE : Hid (rdD xs = rdR kd rest) := by unfold Hid rdD; rw [hr]; rfl
  have HRL : Hid (rest.length ≤ xs.length) := rdN_len hr
  have hrl : rest.length ≤ 1048576 := Nat.le_trans HRL.out hn
  have HS1 : Hid (Sr b w w1) := (Sr.of_below HWB.out).trans hs1
  have HX1 : Hid (w1.heap[w.heap.size]? = some (.cells #[.int .i64 0, .int .i64 0, .slice none 0 0, .int .i64 0] 41)) := (hs1.block _ (by have := HWs.out; omega) (by omega)).trans HWX.out
  have HR1 : Hid (RdE w1 b rest) := hR1
  have hsz : w.heap.size < w1.heap.size := (Array.getElem?_eq_some_iff.1 HX1.out).1
  clear hr hR1 hs1 HWX HWB HWs
  obtain ⟨W1, hW1⟩ : ∃ W1, W1 = w1.alloc (.cells #[.int .i64 kd, .int .i64 0, .slice none 0 0, .int .i64 0] 41) := ⟨_, rfl⟩
  have HB1 : Hid (Below w1.heap.size w1 W1) := by unfold Hid; rw [hW1]; exact below1 _ _
  have HY1 : Hid (W1.heap[w1.heap.size]? = some (.cells #[.int .i64 kd, .int .i64 0, .slice none 0 0, .int .i64 0] 41)) := by unfold Hid; rw [hW1]; exact Go.Deep.blk_alloc_new _ _
  have HWs1 : Hid (W1.heap.size = w1.heap.size + 1) := by unfold Hid; rw [hW1]; simp
  have HSW : Hid (Sr b w W1) := HS1.out.trans (Sr.of_below HB1.out)
  have HXW : Hid (W1.heap[w.heap.size]? = some (.cells #[.int .i64 0, .int .i64 0, .slice none 0 0, .int .i64 0] 41)) := (HB1.out.block _ hsz).trans HX1.out
  have HRW : Hid (RdE W1 b rest) := HR1.out.below HB1.out
  by_cases k0 : kd = 0
  · subst k0
    go_wp2_with fail
    rw [← hW1]
    clear hW1
    refine (number_c b 8 rest _ HRW.out hrl (by omega)).mono ?_
    rintro e w2 (⟨n, r2, v, hr, rfl, rfl, hR2, hs2⟩ | ⟨hr, rfl, hs2⟩)
    rotate_left
    · exact ⟨rfl, Or.inr ⟨by rw [HRE.out]; unfold rdR; rw [if_pos rfl, hr]; rfl, rfl, HSW.out.trans hs2⟩⟩
    have HRR : Hid (rdD xs = some (⟨0, n, [], 0⟩, r2)) := by unfold Hid; rw [HRE.out]; unfold rdR; rw [if_pos rfl, hr]; rfl
    have HS2 : Hid (Sr b w w2) := HSW.out.trans hs2
    have HR2 : Hid (RdE w2 b r2) := hR2
    obtain ⟨a0, a1, a2, a3, b0, b1, b2, b3⟩ := cells4 ((hs2.block _ (by have := HWs1.out; omega) (by omega)).trans HXW.out)
    obtain ⟨d0, d1, d2, d3, e0, e1, e2, e3⟩ := cells4 ((hs2.block _ (by have := HWs1.out; omega) (by omega)).trans HY1.out)
    clear hr hR2 hs2
    have HRF : Hid (∀ v0 v1 v2 v3 v4, RdE (((((w2.setCell ⟨w1.heap.size, 1, none⟩ v0).setCell ⟨w.heap.size, 0, none⟩ v1).setCell ⟨w.heap.size, 1, none⟩ v2).setCell ⟨w.heap.size, 2, none⟩ v3).setCell ⟨w.heap.size, 3, none⟩ v4) b r2 ∧ Sr b w (((((w2.setCell ⟨w1.heap.size, 1, none⟩ v0).setCell ⟨w.heap.size, 0, none⟩ v1).setCell ⟨w.heap.size, 1, none⟩ v2).setCell ⟨w.heap.size, 2, none⟩ v3).setCell ⟨w.heap.size, 3, none⟩ v4)) := fun v0 v1 v2 v3 v4 => ⟨((((HR2.out.later (by omega) 1 v0).later hbl 0 v1).later hbl 1 v2).later hbl 2 v3).later hbl 3 v4, ((((HS2.out.later (by omega) 1 v0).later (Nat.le_refl _) 0 v1).later (Nat.le_refl _) 1 v2).later (Nat.le_refl _) 2 v3).later (Nat.le_refl _) 3 v4⟩
    go_wp2
    exact bodyPost_ret (v := .agg #[.int .i64 0, .int .i64 n, .slice none 0 0, .int .i64 0]) (by simp [results, Tryz.results67, go_sem, World.cell?_setCell_same, a0, a1, a2, a3]) rfl (Or.inl ⟨⟨0, n, [], 0⟩, r2, _, HRR.out, rfl, ⟨_, _, _, rfl, Ow.nil _ _⟩, (HRF.out _ _ _ _ _).1, (HRF.out _ _ _ _ _).2⟩)
  · by_cases k1 : kd = 1
    · subst k1
      go_wp2_with fail
      rw [← hW1]
      clear hW1
      refine (number_c b 1 rest _ HRW.out hrl (by omega)).mono ?_
      rintro e w2 (⟨n, r2, v, hr, rfl, rfl, hR2, hs2⟩ | ⟨hr, rfl, hs2⟩)
      rotate_left
      · exact ⟨rfl, Or.inr ⟨by rw [HRE.out]; unfold rdR; rw [if_neg (by decide), if_pos rfl, hr]; rfl, rfl, HSW.out.trans hs2⟩⟩
      have HRR : Hid (rdD xs = some (⟨1, n, [], 0⟩, r2)) := by unfold Hid; rw [HRE.out]; unfold rdR; rw [if_neg (by decide), if_pos rfl, hr]; rfl
      have HS2 : Hid (Sr b w w2) := HSW.out.trans hs2
      have HR2 : Hid (RdE w2 b r2) := hR2
      obtain ⟨a0, a1, a2, a3, b0, b1, b2, b3⟩ := cells4 ((hs2.block _ (by have := HWs1.out; omega) (by omega)).trans HXW.out)
      obtain ⟨d0, d1, d2, d3, e0, e1, e2, e3⟩ := cells4 ((hs2.block _ (by have := HWs1.out; omega) (by omega)).trans HY1.out)
      clear hr hR2 hs2
      have HRF : Hid (∀ v0 v1 v2 v3 v4, RdE (((((w2.setCell ⟨w1.heap.size, 1, none⟩ v0).setCell ⟨w.heap.size, 0, none⟩ v1).setCell ⟨w.heap.size, 1, none⟩ v2).setCell ⟨w.heap.size, 2, none⟩ v3).setCell ⟨w.heap.size, 3, none⟩ v4) b r2 ∧ Sr b w (((((w2.setCell ⟨w1.heap.size, 1, none⟩ v0).setCell ⟨w.heap.size, 0, none⟩ v1).setCell ⟨w.heap.size, 1, none⟩ v2).setCell ⟨w.heap.size, 2, none⟩ v3).setCell ⟨w.heap.size, 3, none⟩ v4)) := fun v0 v1 v2 v3 v4 => ⟨((((HR2.out.later (by omega) 1 v0).later hbl 0 v1).later hbl 1 v2).later hbl 2 v3).later hbl 3 v4, ((((HS2.out.later (by omega) 1 v0).later (Nat.le_refl _) 0 v1).later (Nat.le_refl _) 1 v2).later (Nat.le_refl _) 2 v3).later (Nat.le_refl _) 3 v4⟩
      go_wp2
      exact bodyPost_ret (v := .agg #[.int .i64 1, .int .i64 n, .slice none 0 0, .int .i64 0]) (by simp [results, Tryz.results67, go_sem, World.cell?_setCell_same, a0, a1, a2, a3]) rfl (Or.inl ⟨⟨1, n, [], 0⟩, r2, _, HRR.out, rfl, ⟨_, _, _, rfl, Ow.nil _ _⟩, (HRF.out _ _ _ _ _).1, (HRF.out _ _ _ _ _).2⟩)
    · by_cases k2 : kd = 2
      · subst k2
        go_wp2_with fail
        rw [← hW1]
        clear hW1
        refine (number_c b 1 rest _ HRW.out hrl (by omega)).mono ?_
        rintro e w2 (⟨z, r2, v, hr, rfl, rfl, hR2, hs2⟩ | ⟨hr, rfl, hs2⟩)
        rotate_left
        · exact ⟨rfl, Or.inr ⟨by rw [HRE.out]; unfold rdR; rw [if_neg (by decide), if_neg (by decide), if_pos rfl, hr]; rfl, rfl, HSW.out.trans hs2⟩⟩
        have hzr := rdN_byte HR1.out.rg hr
        have hr2 := Nat.le_trans (rdN_len hr) hrl
        obtain ⟨zn, rfl⟩ := Int.eq_ofNat_of_zero_le hzr.1
        have HRR : Hid (rdD xs = if zn ≤ r2.length then some (⟨2, 0, r2.take zn, 0⟩, r2.drop zn) else none) := by unfold Hid; rw [HRE.out]; unfold rdR; rw [if_neg (by decide), if_neg (by decide), if_pos rfl, hr]; rfl
        have HS2 : Hid (Sr b w w2) := HSW.out.trans hs2
        have HR2 : Hid (RdE w2 b r2) := hR2
        have HX2 : Hid (w2.heap[w.heap.size]? = some (.cells #[.int .i64 0, .int .i64 0, .slice none 0 0, .int .i64 0] 41)) := (hs2.block _ (by have := HWs1.out; omega) (by omega)).trans HXW.out
        have HY2 : Hid (w2.heap[w1.heap.size]? = some (.cells #[.int .i64 2, .int .i64 0, .slice none 0 0, .int .i64 0] 41)) := (hs2.block _ (by have := HWs1.out; omega) (by omega)).trans HY1.out
        clear hr hR2 hs2 hzr
        go_wp2_with fail
        refine (take_c b zn r2 _ HR2.out hr2).mono ?_
        rintro e w3 (⟨ys, r3, v, hr, rfl, ⟨q, c, rfl, hy⟩, hR3, hs3⟩ | ⟨hr, rfl, hs3⟩)
        rotate_left
        · exact ⟨rfl, Or.inr ⟨by rw [HRR.out]; split at hr; cases hr; rw [if_neg (by assumption)], rfl, HS2.out.trans hs3⟩⟩
        have HRR3 : Hid (rdD xs = some (⟨2, 0, ys, 0⟩, r3)) := by
          unfold Hid
          rw [HRR.out]
          split at hr
          · rw [if_pos (by assumption)]
            simp only [Option.some.injEq, Prod.mk.injEq] at hr
            rw [hr.1, hr.2]
          · cases hr
        have HS3 : Hid (Sr b w w3) := HS2.out.trans hs3
        have HR3 : Hid (RdE w3 b r3) := hR3
        have l2 : w1.heap.size < w2.heap.size := (Array.getElem?_eq_some_iff.1 HY2.out).1
        have l3 := hs3.size
        have HX3 : Hid (w3.heap[w.heap.size]? = some (.cells #[.int .i64 0, .int .i64 0, .slice none 0 0, .int .i64 0] 41)) := (hs3.block _ (by omega) (by omega)).trans HX2.out
        have HY3 : Hid (w3.heap[w1.heap.size]? = some (.cells #[.int .i64 2, .int .i64 0, .slice none 0 0, .int .i64 0] 41)) := (hs3.block _ l2 (by omega)).trans HY2.out
        have HYB : Hid (By w3 q zn c ys) := hy
        have hzn : zn ≤ 1048576 := by
          split at hr
          · omega
          · cases hr
        clear hr hR3 hs3 hy HX2 HY2 HRR
        go_wp2_with fail
        refine (clone_c q zn c ys _ HYB.out hzn).mono ?_
        rintro e w4 ⟨v4, rfl, ho4, hb4⟩
        obtain ⟨q4, c4, rfl, _⟩ := ho4.len
        have HO4 : Hid (Ow w4 w3.heap.size (.slice q4 ys.length c4) ys) := ho4
        have HS4 : Hid (Sr b w w4) := HS3.out.trans (Sr.of_below hb4)
        have HR4 : Hid (RdE w4 b r3) := HR3.out.below hb4
        obtain ⟨a0, a1, a2, a3, b0, b1, b2, b3⟩ := cells4 ((hb4.block _ (by omega)).trans HX3.out)
        obtain ⟨d0, d1, d2, d3, e0, e1, e2, e3⟩ := cells4 ((hb4.block _ (by omega)).trans HY3.out)
        clear ho4 hb4
        obtain ⟨L4, hL4⟩ : ∃ L, L = ys.length := ⟨_, rfl⟩
        rw [← hL4] at HO4 ⊢
        clear hL4
        have HRF : Hid (∀ v0 v1 v2 v3 v4, RdE (((((w4.setCell ⟨w1.heap.size, 2, none⟩ v0).setCell ⟨w.heap.size, 0, none⟩ v1).setCell ⟨w.heap.size, 1, none⟩ v2).setCell ⟨w.heap.size, 2, none⟩ v3).setCell ⟨w.heap.size, 3, none⟩ v4) b r3 ∧ Sr b w (((((w4.setCell ⟨w1.heap.size, 2, none⟩ v0).setCell ⟨w.heap.size, 0, none⟩ v1).setCell ⟨w.heap.size, 1, none⟩ v2).setCell ⟨w.heap.size, 2, none⟩ v3).setCell ⟨w.heap.size, 3, none⟩ v4) ∧ Ow (((((w4.setCell ⟨w1.heap.size, 2, none⟩ v0).setCell ⟨w.heap.size, 0, none⟩ v1).setCell ⟨w.heap.size, 1, none⟩ v2).setCell ⟨w.heap.size, 2, none⟩ v3).setCell ⟨w.heap.size, 3, none⟩ v4) w.heap.size (.slice q4 L4 c4) ys) := fun v0 v1 v2 v3 v4 => ⟨((((HR4.out.later (by omega) 2 v0).later hbl 0 v1).later hbl 1 v2).later hbl 2 v3).later hbl 3 v4, ((((HS4.out.later (by omega) 2 v0).later (Nat.le_refl _) 0 v1).later (Nat.le_refl _) 1 v2).later (Nat.le_refl _) 2 v3).later (Nat.le_refl _) 3 v4, (((((HO4.out.low (by omega) 2 v0).low (by omega) 0 v1).low (by omega) 1 v2).low (by omega) 2 v3).low (by omega) 3 v4).mono (by omega)⟩
        go_wp2
        exact bodyPost_ret (v := .agg #[.int .i64 2, .int .i64 0, .slice q4 L4 c4, .int .i64 0]) (by simp [results, Tryz.results67, go_sem, World.cell?_setCell_same, a0, a1, a2, a3]) rfl (Or.inl ⟨⟨2, 0, ys, 0⟩, r3, _, HRR3.out, rfl, ⟨_, _, _, rfl, (HRF.out _ _ _ _ _).2.2⟩, (HRF.out _ _ _ _ _).1, (HRF.out _ _ _ _ _).2.1⟩)
      · by_cases k3 : kd = 3
        · subst k3
          go_wp2_with fail
          rw [← hW1]
          clear hW1
          refine (number_c b 2 rest _ HRW.out hrl (by omega)).mono ?_
          rintro e w2 (⟨n, r2, v, hr, rfl, rfl, hR2, hs2⟩ | ⟨hr, rfl, hs2⟩)
          rotate_left
          · exact ⟨rfl, Or.inr ⟨by rw [HRE.out]; unfold rdR; rw [if_neg (by decide), if_neg (by decide), if_neg (by decide), if_pos rfl, hr]; rfl, rfl, HSW.out.trans hs2⟩⟩
          have HRR : Hid (rdD xs = some (⟨3, 0, [], n⟩, r2)) := by unfold Hid; rw [HRE.out]; unfold rdR; rw [if_neg (by decide), if_neg (by decide), if_neg (by decide), if_pos rfl, hr]; rfl
          have HS2 : Hid (Sr b w w2) := HSW.out.trans hs2
          have HR2 : Hid (RdE w2 b r2) := hR2
          obtain ⟨a0, a1, a2, a3, b0, b1, b2, b3⟩ := cells4 ((hs2.block _ (by have := HWs1.out; omega) (by omega)).trans HXW.out)
          obtain ⟨d0, d1, d2, d3, e0, e1, e2, e3⟩ := cells4 ((hs2.block _ (by have := HWs1.out; omega) (by omega)).trans HY1.out)
          clear hr hR2 hs2
          have HRF : Hid (∀ v0 v1 v2 v3 v4, RdE (((((w2.setCell ⟨w1.heap.size, 3, none⟩ v0).setCell ⟨w.heap.size, 0, none⟩ v1).setCell ⟨w.heap.size, 1, none⟩ v2).setCell ⟨w.heap.size, 2, none⟩ v3).setCell ⟨w.heap.size, 3, none⟩ v4) b r2 ∧ Sr b w (((((w2.setCell ⟨w1.heap.size, 3, none⟩ v0).setCell ⟨w.heap.size, 0, none⟩ v1).setCell ⟨w.heap.size, 1, none⟩ v2).setCell ⟨w.heap.size, 2, none⟩ v3).setCell ⟨w.heap.size, 3, none⟩ v4)) := fun v0 v1 v2 v3 v4 => ⟨((((HR2.out.later (by omega) 3 v0).later hbl 0 v1).later hbl 1 v2).later hbl 2 v3).later hbl 3 v4, ((((HS2.out.later (by omega) 3 v0).later (Nat.le_refl _) 0 v1).later (Nat.le_refl _) 1 v2).later (Nat.le_refl _) 2 v3).later (Nat.le_refl _) 3 v4⟩
          go_wp2
          exact bodyPost_ret (v := .agg #[.int .i64 3, .int .i64 0, .slice none 0 0, .int .i64 n]) (by simp [results, Tryz.results67, go_sem, World.cell?_setCell_same, a0, a1, a2, a3]) rfl (Or.inl ⟨⟨3, 0, [], n⟩, r2, _, HRR.out, rfl, ⟨_, _, _, rfl, Ow.nil _ _⟩, (HRF.out _ _ _ _ _).1, (HRF.out _ _ _ _ _).2⟩)
        · have HRR : Hid (rdD xs = some (⟨kd, 0, [], 0⟩, rest)) := by unfold Hid; rw [HRE.out]; unfold rdR; rw [if_neg k0, if_neg k1, if_neg k2, if_neg k3]
          have n0 : (kd == 0) = false := by simpa using k0
          have n1 : (kd == 1) = false := by simpa using k1
          have n2 : (kd == 2) = false := by simpa using k2
          have n3 : (kd == 3) = false := by simpa using k3
          obtain ⟨a0, a1, a2, a3, b0, b1, b2, b3⟩ := cells4 HX1.out
          have HRF : Hid (∀ v1 v2 v3 v4 o1, RdE (((((w1.setCell ⟨w.heap.size, 0, none⟩ v1).setCell ⟨w.heap.size, 1, none⟩ v2).setCell ⟨w.heap.size, 2, none⟩ v3).setCell ⟨w.heap.size, 3, none⟩ v4).alloc o1) b rest ∧ Sr b w (((((w1.setCell ⟨w.heap.size, 0, none⟩ v1).setCell ⟨w.heap.size, 1, none⟩ v2).setCell ⟨w.heap.size, 2, none⟩ v3).setCell ⟨w.heap.size, 3, none⟩ v4).alloc o1)) := fun v1 v2 v3 v4 o1 => ⟨((((HR1.out.later hbl 0 v1).later hbl 1 v2).later hbl 2 v3).later hbl 3 v4).below (below1 _ _), ((((HS1.out.later (Nat.le_refl _) 0 v1).later (Nat.le_refl _) 1 v2).later (Nat.le_refl _) 2 v3).later (Nat.le_refl _) 3 v4).trans (Sr.of_below (below1 _ _))⟩
          clear k0 k1 k2 k3 hW1
          go_wp2
          exact bodyPost_ret (v := .agg #[.int .i64 kd, .int .i64 0, .slice none 0 0, .int .i64 0]) (by simp [results, Tryz.results67, go_sem, World.cell?_setCell_same, a0, a1, a2, a3, hsz]) rfl (Or.inl ⟨⟨kd, 0, [], 0⟩, rest, _, HRR.out, rfl, ⟨_, _, _, rfl, Ow.nil _ _⟩, (HRF.out _ _ _ _ _).1, (HRF.out _ _ _ _ _).2⟩)
end Go.Proofs.YtkkmoaidbmnolaaGreatDoor
