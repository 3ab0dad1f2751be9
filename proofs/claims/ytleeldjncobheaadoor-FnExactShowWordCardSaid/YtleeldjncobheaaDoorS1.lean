import Derived.Test.YtleeldjncobheaaDoorSx
import Derived.Test.YtleeldjncobheaaDoorS0
import Derived.Deep.Upon
import Derived.Lib.ConvBytes
namespace Go.Proofs.YtleeldjncobheaaDoor
open Go.RowKit Ch1 Ch2s
/-- append(v, x...) of nothing, in a region that draws. -/
theorem app0_law (w : World) {ops : Array Oper} {o : Oper} {a : Act} {K : Act → World → Prop} {Q : Exit → Act → World → Prop} {E : Prop} (hgd : o.guard = none) (s x : Operand)
    (ho : o.op = .call { callee := .builtin .append, args := #[s, x], argTypes := #[24, 24] }) (p : Option Addr) (n c : Nat) (hs : a.eval s = .slice p n c) (hle : n ≤ c) (q : Option Addr) (d : Nat) (hx : a.eval x = .slice q 0 d)
    (h : K (a.put o.dst (.slice p n c)) w) : if Region.wanted o (yielded ops a.tmps) = true then Oper.wp Tryd.prog o a w K Q else E := by
  obtain ⟨i5, hi5, _, _, _⟩ := info5'
  have hw : Region.wanted o (yielded ops a.tmps) = true := by simp [Region.wanted, hgd]
  have hsrc : Src Tryd.prog i5.size 24 (.slice q 0 d) 0 [] w := by
    cases q with
    | none => exact Src.ofNil w Tryd.underlying24 d
    | some ad => exact Src.ofSlice w Tryd.underlying24 ad 0 d [] (by simp) (fun j u hu => by simp at hu) (fun u hu => by cases hu)
  have hr := run_append_nothing (P := Tryd.prog) w 24 24 o.type 5 i5 Tryd.underlying24 hi5 p n c hle (.slice q 0 d) hsrc
  rw [if_pos hw]
  unfold Oper.wp execOp
  simp only [ho, resolve, invoke, builtin, Sem.run_bind, Sem.run_pure, Result.andThen_ok, List.map_toArray, List.map_cons, List.map_nil, hs, hx, hr]
  exact h
/-- The shower in block b, and what it has written. -/
structure Sh (w : World) (b B : Nat) (hp : Value) (top : Int) (nm v : Value) (xs : List Int) : Prop where
  blk : w.heap[b]? = some (.cells #[hp, .int .i64 top, nm, v] 64)
  ge : B ≤ b
  ow : Ow w B v xs
theorem Sh.lt {w : World} {b B : Nat} {hp : Value} {top : Int} {nm v : Value} {xs : List Int} (h : Sh w b B hp top nm v xs) : b < w.heap.size := (Array.getElem?_eq_some_iff.1 h.blk).1
theorem Sh.below {w w' : World} {b B : Nat} {hp : Value} {top : Int} {nm v : Value} {xs : List Int} (h : Sh w b B hp top nm v xs) (hb : Below w.heap.size w w') : Sh w' b B hp top nm v xs := ⟨(hb.block b h.lt).trans h.blk, h.ge, h.ow.below hb⟩
theorem Sh.cells {w : World} {b B : Nat} {hp : Value} {top : Int} {nm v : Value} {xs : List Int} (h : Sh w b B hp top nm v xs) : w.cell? ⟨b, 0, none⟩ = some hp ∧ w.cell? ⟨b, 1, none⟩ = some (.int .i64 top) ∧ w.cell? ⟨b, 2, none⟩ = some nm ∧ w.cell? ⟨b, 3, none⟩ = some v ∧ w.frozen? ⟨b, 3, none⟩ = false := by
  refine ⟨?_, ?_, ?_, ?_, ?_⟩ <;> simp [World.cell?, World.frozen?, h.blk]
/-- Only the shower and its row have turned. -/
structure Sk (b B : Nat) (w w' : World) : Prop where
  below : Below B w w'
  kept : ∀ (k : Nat) (arr : Array Value) (t : TypeId), w.heap[k]? = some (.cells arr t) → t ≠ 5 → k ≠ b → w'.heap[k]? = some (.cells arr t)
theorem Sk.refl (b B : Nat) (w : World) : Sk b B w w := ⟨Below.refl _ _, fun _ _ _ h _ _ => h⟩
theorem Sk.trans {b B : Nat} {u v w : World} (h : Sk b B u v) (k : Sk b B v w) : Sk b B u w := ⟨h.below.trans k.below, fun x arr t e h1 h2 => k.kept x arr t (h.kept x arr t e h1 h2) h1 h2⟩
theorem Sk.of_below {b B : Nat} {w w' : World} (h : Below w.heap.size w w') (hB : B ≤ w.heap.size) : Sk b B w w' := ⟨h.mono hB, fun k _ _ e _ _ => (h.block k (Array.getElem?_eq_some_iff.1 e).1).trans e⟩
def ShP (b B : Nat) (hp : Value) (top : Int) (nm : Value) (zs : List Int) (w w' : World) : Prop := ∃ v', Sh w' b B hp top nm v' zs ∧ Sk b B w w'
theorem ShP.trans {b B : Nat} {hp : Value} {top : Int} {nm : Value} {zs : List Int} {u w w' : World} (h : Sk b B u w) (k : ShP b B hp top nm zs w w') : ShP b B hp top nm zs u w' := by
  obtain ⟨v, h1, h2⟩ := k
  exact ⟨v, h1, h.trans h2⟩
/-- Behind 's.out = append(s.out, ..)'. -/
theorem Sh.put {w w' : World} {b B : Nat} {hp : Value} {top : Int} {nm v v' : Value} {xs ys : List Int} (h : Sh w b B hp top nm v xs) (ho : Ow w' B v' ys) (hb : Below B w w') (hbt : But w w' v) : Sh (w'.setCell ⟨b, 3, none⟩ v') b B hp top nm v' ys ∧ Sk b B w (w'.setCell ⟨b, 3, none⟩ v') ∧ w'.cell? ⟨b, 3, none⟩ = some v ∧ w'.frozen? ⟨b, 3, none⟩ = false := by
  have hne := own_ne h.ow h.blk (by decide)
  have e' : w'.heap[b]? = some (.cells #[hp, .int .i64 top, nm, v] 64) := (hbt b h.lt hne).trans h.blk
  refine ⟨⟨?_, h.ge, ho.of_heap fun k hk => Below.heap_setCell w' _ v' k ?_⟩, ⟨hb.setCell (by simpa using h.ge) _, fun k arr t e ht hk => ?_⟩, by simp [World.cell?, e'], by simp [World.frozen?, e']⟩
  · obtain ⟨hlt, e2⟩ := Array.getElem?_eq_some_iff.1 e'
    simp [World.setCell, Array.getElem_modify, e2, hlt]
  · intro hh
    simp only at hh
    subst hh
    exact own_ne ho e' (by decide) hk.symm
  · rw [Below.heap_setCell w' ⟨b, 3, none⟩ v' k (by simpa using hk)]
    exact (hbt k (Array.getElem?_eq_some_iff.1 e).1 (own_ne h.ow e ht)).trans e
theorem By.take {w : World} {p : Option Addr} {n c : Nat} {xs : List Int} (h : By w p n c xs) {m : Nat} (hm : m ≤ n) : By w p m c (xs.take m) := by
  refine ⟨by rw [List.length_take, h.len]; omega, Nat.le_trans hm h.cap, h.big, rng_of (fun x hx => rg_of h.rng x (List.mem_of_mem_take hx)), fun h0 => ?_, fun a ha h0 => h.old a ha (by omega)⟩
  obtain ⟨b, o, e, g⟩ := h.cells (by omega)
  exact ⟨b, o, e, fun i hi => by rw [g i (by omega)]; simp [List.getD, hi]⟩
theorem Ow.len {w : World} {B : Nat} {v : Value} {xs : List Int} (h : Ow w B v xs) : ∃ p c, v = .slice p xs.length c ∧ xs.length ≤ c := by
  obtain ⟨_, ⟨rfl, h0⟩ | ⟨g, cap, cur, rfl, hg, hh, h1, h2, h3, h4⟩⟩ := h
  · exact ⟨none, 0, by rw [h0], by omega⟩
  · exact ⟨_, cap, rfl, h1⟩
set_option maxRecDepth 20000 in
set_option maxHeartbeats 2000000 in
theorem put_some (b B : Nat) (hp : Value) (top : Int) (nm v : Value) (xs ts : List Int) (tb to tn tc m : Nat) (w : World) (hW : Sh w b B hp top nm v xs) (hT : By w (some ⟨tb, to, none⟩) tn tc ts) (hm : m = min tn (1000 - xs.length)) (h0 : 0 < m) (hx : xs.length ≤ 1000) (ht : tn ≤ 1048576) (hB : B ≤ w.heap.size) :
    Calls Tryd.prog 57 #[.pointer (some ⟨b, 0, none⟩), .slice (some ⟨tb, to, none⟩) tn tc] w fun e w' => e = .returned (.tuple #[]) ∧ ShP b B hp top nm (putT ts xs) w w' := by
  have hmt : m ≤ tn := by omega
  have HT : Hid (By w (some ⟨tb, to, none⟩) m tc (ts.take m)) := hT.take hmt
  have HP : Hid (putT ts xs = xs ++ ts.take m) := by
    unfold Hid putT
    congr 1
    have := hT.len
    rcases Nat.le_total tn (1000 - xs.length) with h | h
    · rw [hm, Nat.min_eq_left h, List.take_of_length_le (by omega), List.take_of_length_le (by omega)]
    · rw [hm, Nat.min_eq_right h]
  have hc := hT.cap
  obtain ⟨_, _, _, c3, f3⟩ := hW.cells
  have HW : Hid (Sh w b B hp top nm v xs) := hW
  obtain ⟨p0, k0, rfl, _⟩ := hW.ow.len
  have HL : Hid (xs.length = xs.length) := rfl
  obtain ⟨n0, hn0⟩ : ∃ n0, n0 = xs.length := ⟨_, rfl⟩
  rw [← hn0] at hm hx
  rw [← hn0] at c3
  rw [← hn0] at HW
  have HN : Hid (n0 = xs.length) := hn0
  clear hW hT hn0 HL
  have w1 : IntKind.i64.wrap (1000 - (n0 : Int)) = 1000 - n0 := by simp [IntKind.wrap, IntKind.bits, IntKind.signed]; omega
  have w2 : (min (tn : Int) (1000 - n0)) = m := by omega
  have w3 : (0 : Int) ≤ m := by omega
  have hmc : m ≤ tc := by omega
  have hlen : xs.length + m ≤ 1000000000 := by rw [← HN.out]; omega
  have HLEN : Hid (xs.length + m ≤ 1000000000) := hlen
  clear hlen
  clear hm
  go_enter Tryd.func57, Tryd.ntmps57
  go_wp2_with fail
  go_region_law (refine appR_law _ rfl (.tmp 8) (.tmp 19) rfl B (.slice p0 n0 k0) xs (ts.take m) (by simp [Act.eval, Act.put]) (by exact HW.out.ow) tb to m tc (by simp [Act.eval, Act.put]) (by exact HT.out.below (below_drewM (Below.refl _ _))) h0 HLEN.out (by exact hB) ?_; intro v3 w3 ho3 hb3 hbt3; obtain ⟨p3, n3, q3, rfl⟩ := ho3.form; obtain ⟨hw4, hs4, f1, f2⟩ := HW.out.put ho3 (w' := w3) ⟨hb3.os, hb3.tape, hb3.output, hb3.size, hb3.block⟩ hbt3; have HW4 : Hid (Sh (w3.setCell ⟨b, 3, none⟩ (.slice p3 n3 q3)) b B hp top nm (.slice p3 n3 q3) (xs ++ ts.take m)) := hw4; have HS4 : Hid (Sk b B w (w3.setCell ⟨b, 3, none⟩ (.slice p3 n3 q3))) := hs4; clear ho3 hb3 hbt3 hw4 hs4)
  all_goals go_wp2
  all_goals go_end0
  all_goals exact ⟨rfl, _, by rw [HP.out]; exact HW4.out, HS4.out⟩
set_option maxRecDepth 20000 in
set_option maxHeartbeats 2000000 in
theorem put_none (b B : Nat) (hp : Value) (top : Int) (nm v : Value) (xs ts : List Int) (tp : Option Addr) (tn tc : Nat) (w : World) (hW : Sh w b B hp top nm v xs) (hT : By w tp tn tc ts) (hm : min tn (1000 - xs.length) = 0) (hx : xs.length ≤ 1000) (ht : tn ≤ 1048576) :
    Calls Tryd.prog 57 #[.pointer (some ⟨b, 0, none⟩), .slice tp tn tc] w fun e w' => e = .returned (.tuple #[]) ∧ ShP b B hp top nm (putT ts xs) w w' := by
  have HP : Hid (putT ts xs = xs) := by
    unfold Hid putT
    have := hT.len
    rcases Nat.le_total tn (1000 - xs.length) with h | h
    · have e : ts = [] := List.length_eq_zero_iff.1 (by omega)
      rw [e]; simp
    · rw [show 1000 - xs.length = 0 by omega]; simp
  have hc := hT.cap
  obtain ⟨_, _, _, c3, f3⟩ := hW.cells
  have HW : Hid (Sh w b B hp top nm v xs) := hW
  obtain ⟨p0, k0, rfl, hk0⟩ := hW.ow.len
  have HO : Hid (Ow w.drew B (.slice p0 xs.length k0) xs ∧ Below B w w.drew ∧ But w w.drew (.slice p0 xs.length k0)) := ⟨hW.ow.below (below_drewM (Below.refl _ _)), below_drewM (Below.refl _ _), fun k _ _ => rfl⟩
  obtain ⟨hw4, hs4, _, _⟩ := HW.out.put HO.out.1 HO.out.2.1 HO.out.2.2
  have HW4 : Hid (Sh (w.drew.setCell ⟨b, 3, none⟩ (.slice p0 xs.length k0)) b B hp top nm (.slice p0 xs.length k0) xs) := hw4
  have HS4 : Hid (Sk b B w (w.drew.setCell ⟨b, 3, none⟩ (.slice p0 xs.length k0))) := hs4
  clear hW hT hw4 hs4 HO
  generalize xs.length = n0 at *
  have w1 : IntKind.i64.wrap (1000 - (n0 : Int)) = 1000 - n0 := by simp [IntKind.wrap, IntKind.bits, IntKind.signed]; omega
  have w2 : (min (tn : Int) (1000 - n0)) = 0 := by omega
  clear hm
  go_enter Tryd.func57, Tryd.ntmps57
  go_wp2_with fail
  go_region_law (refine app0_law _ rfl (.tmp 8) (.tmp 19) rfl p0 n0 k0 (by simp [Act.eval, Act.put]) hk0 tp tc (by simp [Act.eval, Act.put]) ?_)
  all_goals go_wp2
  all_goals go_end0
  all_goals exact ⟨rfl, _, by rw [HP.out]; exact HW4.out, HS4.out⟩
/-- s.put(text). -/
theorem puts_c (b B : Nat) (hp : Value) (top : Int) (nm v : Value) (xs ts : List Int) (tp : Option Addr) (tn tc : Nat) (w : World) (hW : Sh w b B hp top nm v xs) (hT : By w tp tn tc ts) (hx : xs.length ≤ 1000) (ht : tn ≤ 1048576) (hB : B ≤ w.heap.size) :
    Calls Tryd.prog 57 #[.pointer (some ⟨b, 0, none⟩), .slice tp tn tc] w fun e w' => e = .returned (.tuple #[]) ∧ ShP b B hp top nm (putT ts xs) w w' := by
  by_cases h0 : min tn (1000 - xs.length) = 0
  · exact put_none b B hp top nm v xs ts tp tn tc w hW hT h0 hx ht
  · obtain ⟨tb, to, rfl, _⟩ := hT.cells (by omega)
    exact put_some b B hp top nm v xs ts tb to tn tc _ w hW hT rfl (by omega) hx ht hB
theorem putT_len (ts xs : List Int) (h : xs.length ≤ 1000) : (putT ts xs).length ≤ 1000 ∧ xs.length ≤ (putT ts xs).length := by
  unfold putT; rw [List.length_append, List.length_take]; omega
theorem nums_getD (l : List UInt8) (i : Nat) (h : i < l.length) : (nums l).getD i 0 = ((l.getD i 0).toNat : Int) := by
  simp [nums, List.getD, List.getElem?_eq_getElem h]
/-- A string turned to bytes. -/
theorem conv_str (t : TypeId) {u : TypeDesc} (ht : Tryd.prog.underlying t = some u) (w : World) (s : ByteArray) (hs : s.size ≤ 1048576) : ∃ c w2, (convert t 24 (.string s)).run Tryd.prog w = .ok (.slice (some ⟨w.heap.size, 0, none⟩) s.size c) w2 ∧ By w2 (some ⟨w.heap.size, 0, none⟩) s.size c (nums s.data.toList) ∧ Below w.heap.size w w2 := by
  have hsz : s.data.toList.length = s.size := Array.length_toList
  refine ⟨_, _, Lib.run_convert_string_bytes (P := Tryd.prog) w t 24 5 s ht Tryd.underlying24 Tryd.underlying5, ⟨by rw [nums_length, hsz], grownCap_ge _ _ _ _, grownCap_le_maxLen _ _ _ _ (by unfold maxLen; omega), nums_rng _, fun _ => ⟨w.heap.size, 0, rfl, fun i hi => ?_⟩, fun a ha _ => by cases ha; show w.heap.size < _; rw [Lib.bytesWorld_size]; omega⟩, ?_⟩
  · rw [Nat.zero_add, Lib.bytesWorld_cell w 5 s i hi]
    rw [nums_getD _ _ (by omega)]
  · exact ⟨rfl, rfl, rfl, by rw [Lib.bytesWorld_size]; omega, fun k hk => Lib.bytesWorld_at_old w 5 s k hk⟩
end Go.Proofs.YtleeldjncobheaaDoor
