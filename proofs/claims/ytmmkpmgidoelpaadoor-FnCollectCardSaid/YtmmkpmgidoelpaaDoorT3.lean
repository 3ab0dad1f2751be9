import Derived.Test.YtmmkpmgidoelpaaDoorT1
import Derived.Test.YtmmkpmgidoelpaaDoorC4
import Derived.Deep.Upon
namespace Go.Proofs.YtmmkpmgidoelpaaDoor.Hp
open Go.RowKit Ch2
/-- An own row as the library has it. -/
theorem Fr.own {w : World} {g n cap : Nat} {xs : List Int} (h : Fr w g n cap xs) {B : Nat} (hB : B ≤ g) : w.ownsRow B 3 1 (.slice (some ⟨g, 0, none⟩) n cap) n (xs.map (Value.int .i64)) := by
  obtain ⟨f, ⟨cur, hh, hs, hf⟩, h1⟩ := h.row
  have h2 := h.le
  have h3 := h.len
  refine ⟨by rw [List.length_map]; omega, Or.inr ⟨g, cap, cur, rfl, hB, hh, h.le, h.big, by omega, ?_⟩⟩
  refine List.ext_getElem? (fun j => ?_)
  by_cases hj : j < n
  · have e := hf j (by omega)
    rw [h1 j hj] at e
    rw [List.getElem?_take, if_pos (by omega), List.getElem?_map, List.getElem?_eq_getElem (show j < xs.length by omega)]
    have e' : cur.toList[j]? = cur[j]? := by simp
    rw [e', e]
    simp [List.getD, List.getElem?_eq_getElem (show j < xs.length by omega)]
  · rw [List.getElem?_take, if_neg (by omega), List.getElem?_eq_none (by rw [List.length_map]; omega)]
/-- nil, or an own row. -/
def Fz (w : World) (B : Nat) (v : Value) (xs : List Int) : Prop := (v = .slice none 0 0 ∧ xs = []) ∨ ∃ g cap, v = .slice (some ⟨g, 0, none⟩) xs.length cap ∧ B ≤ g ∧ Fr w g xs.length cap xs
theorem Fz.own {w : World} {B : Nat} {v : Value} {xs : List Int} (h : Fz w B v xs) : w.ownsRow B 3 1 v xs.length (xs.map (Value.int .i64)) := by
  rcases h with ⟨rfl, rfl⟩ | ⟨g, cap, rfl, hg, hf⟩
  · exact ⟨rfl, Or.inl ⟨rfl, rfl⟩⟩
  · exact hf.own hg
theorem Fz.keep {w w' : World} {B : Nat} {v : Value} {xs : List Int} (h : Fz w B v xs) (hk : ∀ g, v.ownBlock = some g → w'.heap[g]? = w.heap[g]?) : Fz w' B v xs := by
  rcases h with h | ⟨g, cap, rfl, hg, hf⟩
  · exact Or.inl h
  · exact Or.inr ⟨g, cap, rfl, hg, hf.of_block (hk g rfl)⟩
theorem Fz.lt {w : World} {B : Nat} {v : Value} {xs : List Int} (h : Fz w B v xs) (g : Nat) (e : v.ownBlock = some g) : B ≤ g ∧ g < w.heap.size := by
  rcases h with ⟨rfl, _⟩ | ⟨g', cap, rfl, hg, hf⟩
  · cases e
  · cases e; exact ⟨hg, hf.lt⟩
theorem Fz.is {w : World} {B : Nat} {v : Value} {xs : List Int} (h : Fz w B v xs) (hr : ∀ i, -9223372036854775808 ≤ xs.getD i 0 ∧ xs.getD i 0 ≤ 9223372036854775807) : ∃ q c, v = .slice q xs.length c ∧ Is w q xs.length c xs := by
  rcases h with ⟨rfl, rfl⟩ | ⟨g, cap, rfl, _, hf⟩
  · exact ⟨none, 0, rfl, ⟨rfl, Nat.le_refl _, Nat.zero_le _, fun i => (by simp), fun h => absurd h (Nat.lt_irrefl 0)⟩⟩
  · exact ⟨_, cap, rfl, hf.is hr⟩
theorem grown_alloc {w w' : World} {o : Obj} {r : Option Nat} (h : (w.alloc o).grownBy w' r) : w.grownBy w' r :=
  ⟨h.os, h.tape, h.output, Nat.le_trans (by simp) h.size, fun k hk hne => (h.block k (by simp; omega) hne).trans ((below1 w o).block k hk)⟩
/-- append of one int onto an own row. -/
theorem appF_law {ops : Array Oper} {rest : List Oper} {o : Oper} {a : Act} {Q : Exit → Act → World → Prop} (w : World) (hgd : o.guard = none) (s x : Operand)
    (ho : o.op = .call { callee := .builtin .append, args := #[s, x], argTypes := #[23, 23] }) (B : Nat) (v : Value) (zs : List Int) (k : Int) (hs : a.eval s = v) (hown : Fz w B v zs) (hx : a.eval x = .slice (some ⟨w.heap.size, 0, none⟩) 1 1)
    (hl : zs.length ≤ 1000000) (hB : B ≤ w.heap.size)
    (h : ∀ g cap w', Fr w' g (zs.length + 1) cap (zs ++ [k]) → B ≤ g → w.grownBy w' v.ownBlock → (v.ownBlock = some g ∨ g = w.heap.size + 1) → wpList Tryd.prog ops Q rest (a.put o.dst (.slice (some ⟨g, 0, none⟩) (zs.length + 1) cap)) w') : wpList Tryd.prog ops Q (o :: rest) a (w.alloc (.cells #[.int .i64 k] 3)) := by
  obtain ⟨i3, hi3, hz3, hs3, hb3⟩ := info3'
  have hown' : (w.alloc (.cells #[.int .i64 k] 3)).ownsRow B 3 1 v zs.length (zs.map (Value.int .i64)) := (hown.keep (fun g e => (below1 w _).block g (hown.lt g e).2)).own
  refine wpList_append_lies _ hgd s x 23 ho B 3 i3 (.int .i64 0) 1 8 Tryd.underlying23 hi3 hz3 hs3 hb3 rfl (by decide) v zs.length (zs.map (Value.int .i64)) hs hown' ⟨w.heap.size, 0, none⟩ 1 1 [.int .i64 k] hx rfl (one_new _ _) (by simp [Value.oneCell']) (by omega) (by unfold maxLen; omega) (by omega) (by simp; omega) _ rfl ?_
  intro g cap w' ho' hg hor hlt
  rw [show zs.map (Value.int .i64) ++ [Value.int .i64 k] = (zs ++ [k]).map (Value.int .i64) by simp] at ho'
  obtain ⟨g', cap', e, h1, h2⟩ := Fr.of_owns ho' (by omega) (by simp)
  cases e
  refine h g cap w' h2 h1 (grown_alloc hg) ?_
  rcases hor with h3 | h3
  · exact Or.inl h3
  · right; rw [h3]; simp
/-- append of a row of ints onto a row of one that was just made. -/
theorem appS_law {ops : Array Oper} {rest : List Oper} {o : Oper} {a : Act} {Q : Exit → Act → World → Prop} (w : World) (hgd : o.guard = none) (s x : Operand)
    (ho : o.op = .call { callee := .builtin .append, args := #[s, x], argTypes := #[23, 23] }) (B : Nat) (v : Value) (zs ys : List Int) (hs : a.eval s = v) (hown : Fz w B v zs) (q : Option Addr) (c : Nat) (hx : a.eval x = .slice q ys.length c) (hy : Is w q ys.length c ys) (hv : 0 < zs.length ∨ 0 < ys.length)
    (hl : zs.length + ys.length ≤ 1000000) (hB : B ≤ w.heap.size)
    (h : ∀ g cap w', Fr w' g (zs.length + ys.length) cap (zs ++ ys) → B ≤ g → w.grownBy w' v.ownBlock → (v.ownBlock = some g ∨ g = w.heap.size) → wpList Tryd.prog ops Q rest (a.put o.dst (.slice (some ⟨g, 0, none⟩) (zs.length + ys.length) cap)) w') : wpList Tryd.prog ops Q (o :: rest) a w := by
  obtain ⟨i3, hi3, hz3, hs3, hb3⟩ := info3'
  by_cases hm : ys.length = 0
  · obtain rfl : ys = [] := List.length_eq_zero_iff.1 hm
    have hsrc : Src Tryd.prog i3.size 23 (.slice q 0 c) 0 [] w := by
      cases q with
      | none => exact Src.ofNil w Tryd.underlying23 c
      | some ad => exact Src.ofSlice w Tryd.underlying23 ad 0 c [] (by simp) (fun j u hu => by simp at hu) (fun u hu => by cases hu)
    rcases hown with ⟨rfl, rfl⟩ | ⟨g, cap, rfl, hg, hf⟩
    · simp at hv
    have hr := run_append_nothing (P := Tryd.prog) w 23 23 o.type 3 i3 Tryd.underlying23 hi3 (some ⟨g, 0, none⟩) zs.length cap hf.le (.slice q 0 c) hsrc
    refine wpList_plain hgd fun _ hK => ?_
    unfold Oper.wp execOp
    simp only [ho, resolve, invoke, builtin, Sem.run_bind, Sem.run_pure, Result.andThen_ok, List.map_toArray, List.map_cons, List.map_nil, hs, hx, List.length_nil, hr]
    refine hK _ _ ?_
    have := h g cap w (by simpa using hf) hg ⟨rfl, rfl, rfl, Nat.le_refl _, fun _ _ _ => rfl⟩ (Or.inl rfl)
    simpa using this
  · obtain ⟨b, oo, rfl, _, _⟩ := hy.cells (by omega)
    refine wpList_append_lies _ hgd s x 23 ho B 3 i3 (.int .i64 0) 1 8 Tryd.underlying23 hi3 hz3 hs3 hb3 rfl (by decide) v zs.length (zs.map (Value.int .i64)) hs hown.own ⟨b, oo, none⟩ ys.length c (ys.map (Value.int .i64)) hx (by simp) (cells_of_is hy (by omega)) (by intro u hu; obtain ⟨n, _, rfl⟩ := List.mem_map.1 hu; rfl) (by omega) (by unfold maxLen; omega) (by omega) hB _ rfl ?_
    intro g cap w' ho' hg hor hlt
    rw [← List.map_append] at ho'
    obtain ⟨g', cap', e, h1, h2⟩ := Fr.of_owns ho' (by omega) (by simp)
    cases e
    exact h g cap w' h2 h1 hg hor
/-- What the model's NewHeap answers, its row with the slice's own room. -/
def NQ (sz : Nat) (w w' : World) (e : Ending) : Prop := ∃ g, e = .returned (.tuple #[.agg #[.slice (some ⟨g, 0, none⟩) sz sz, .int .i64 0], .int .i64 0]) ∧ w.heap.size ≤ g ∧ Fr w' g sz sz (List.replicate sz 0) ∧ Below w.heap.size w w'
set_option maxHeartbeats 1000000 in
theorem specNewHeap_q (n : Nat) (hn : n ≤ 20000) (w : World) : Calls Tryd.prog 32 #[.int .i64 (n : Int)] w fun e w' => NQ n w w' e := by
  have hmk := run_make_row' (P := Tryd.prog) 23 3 (.int .i64 0) 8 Tryd.underlying23 info3 rfl .i64 .i64 n (by omega) (by omega)
  go_enter Tryd.func32, Tryd.ntmps32
  go_wp2
  refine bodyPost_ret (v := .tuple #[.agg #[.slice (some ⟨w.heap.size + 1, 0, none⟩) n n, .int .i64 0], .int .i64 0]) (by simp [results, Tryd.results32, go_sem]) rfl ⟨w.heap.size + 1, rfl, by omega, ?_, below2 w _ _⟩
  have := World.rowIs_made (w.alloc (.cells #[.slice (some ⟨w.heap.size + 1, 0, none⟩) n n, .int .i64 0] 25)) (.int .i64 0) n 3
  exact ⟨⟨_, (by simpa using this), fun j _ => by rw [rep_getD]⟩, Nat.le_refl _, by unfold maxLen; omega, by simp⟩
end Go.Proofs.YtmmkpmgidoelpaaDoor.Hp
