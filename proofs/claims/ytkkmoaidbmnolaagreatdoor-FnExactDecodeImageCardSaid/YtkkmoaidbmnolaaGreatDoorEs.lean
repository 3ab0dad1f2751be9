import Derived.Test.YtkkmoaidbmnolaaGreatDoorMf
import Derived.Test.YtkkmoaidbmnolaaGreatDoorD1
namespace Go.Proofs.YtkkmoaidbmnolaaGreatDoor
open Go.RowKit Ch1
theorem fnFacts {m : Md} (h : GoodM m) {i : Nat} (hi : i < m.funcs.length) : (m.funcs.getD i fn0).free.length ≤ 50 ∧ (m.funcs.getD i fn0).code.length ≤ 5000 := by
  refine ⟨(h.sz.fn i hi).fr, ?_⟩
  have h1 := fSum_le m.funcs (i + 1) (by omega)
  have h2 := fSum_succ m.funcs i hi
  have := h.sz.sum
  omega
/-- Every block but the row's own stands. -/
def But (w w' : World) (v : Value) : Prop := ∀ k, k < w.heap.size → some k ≠ v.ownBlock → w'.heap[k]? = w.heap[k]?
theorem Ow.mono {w : World} {B B' : Nat} {v : Value} {xs : List Int} (h : Ow w B v xs) (hB : B' ≤ B) : Ow w B' v xs := by
  obtain ⟨h1, h2 | ⟨g, cap, cur, hv, hg, r⟩⟩ := h
  · exact ⟨h1, Or.inl h2⟩
  · exact ⟨h1, Or.inr ⟨g, cap, cur, hv, Nat.le_trans hB hg, r⟩⟩
theorem app2_law (w : World) {ops : Array Oper} {rest : List Oper} {o : Oper} {a : Act} {Q : Exit → Act → World → Prop} (hgd : o.guard = none) (s x : Operand)
    (ho : o.op = .call { callee := .builtin .append, args := #[s, x], argTypes := #[22, 22] }) (B : Nat) (v : Value) (xs ys : List Int) (hs : a.eval s = v) (hown : Ow w B v xs) (b' o' m c : Nat) (hx : a.eval x = .slice (some ⟨b', o', none⟩) m c)
    (hy : By w (some ⟨b', o', none⟩) m c ys) (hlen : xs.length + m ≤ 1000000000) (hB : B ≤ w.heap.size)
    (h : ∀ v' w', Ow w' B v' (xs ++ ys) → Below B w w' → But w w' v → wpList Tryz.prog ops Q rest (a.put o.dst v') w') : wpList Tryz.prog ops Q (o :: rest) a w :=
  app_law w hgd s x ho B v xs ys hs hown b' o' m c hx hy hlen hB (fun v' w' h1 h2 h3 => h v' w' h1 h2 (fun k hk hne => h3.block k hk hne))
theorem app1_law (w : World) {ops : Array Oper} {rest : List Oper} {o : Oper} {a : Act} {Q : Exit → Act → World → Prop} (hgd : o.guard = none) (s x : Operand)
    (ho : o.op = .call { callee := .builtin .append, args := #[s, x], argTypes := #[22, 22] }) (B : Nat) (v : Value) (xs : List Int) (y : Int) (h0 : 0 ≤ y) (h1 : y < 256) (hs : a.eval s = v) (hown : Ow w B v xs) (hx : a.eval x = .slice (some ⟨w.heap.size, 0, none⟩) 1 1)
    (hlen : xs.length ≤ 500000000) (hB : B ≤ w.heap.size)
    (h : ∀ v' w', Ow w' B v' (xs ++ [y]) → Below B w w' → But w w' v → wpList Tryz.prog ops Q rest (a.put o.dst v') w') : wpList Tryz.prog ops Q (o :: rest) a (w.alloc (.cells #[.int .u8 y] 5)) :=
  app_law _ hgd s x ho B v xs [y] hs (hown.below (below1 _ _)) w.heap.size 0 1 1 hx (By.lit w y h0 h1) (by omega) (by simp; omega) (fun v' w' k1 k2 k3 => h v' w' k1 (((below1 _ _).mono hB).trans k2) (fun k hk hne => (k3.block k (by simp; omega) hne).trans ((below1 w _).block k hk)))
theorem own_ne {w : World} {B : Nat} {v : Value} {xs : List Int} {fb : Nat} {a : Array Value} {t : TypeId} (h : Ow w B v xs) (hf : w.heap[fb]? = some (.cells a t)) (ht : t ≠ 5) : some fb ≠ v.ownBlock := by
  intro e
  obtain ⟨_, ⟨rfl, _⟩ | ⟨g, cap, cur, rfl, hg, hh, _⟩⟩ := h
  · cases e
  · cases e
    rw [hh] at hf
    cases hf
    exact ht rfl
/-- append onto a full row: the answer is a new row. -/
theorem appG_law (w : World) {ops : Array Oper} {rest : List Oper} {o : Oper} {a : Act} {Q : Exit → Act → World → Prop} (hgd : o.guard = none) (s x : Operand)
    (ho : o.op = .call { callee := .builtin .append, args := #[s, x], argTypes := #[22, 22] }) (b off n : Nat) (xs ys : List Int) (hs : a.eval s = .slice (some ⟨b, off, none⟩) n n) (hxs : By w (some ⟨b, off, none⟩) n n xs) (b' o' m c : Nat) (hx : a.eval x = .slice (some ⟨b', o', none⟩) m c)
    (hy : By w (some ⟨b', o', none⟩) m c ys) (hm : 0 < m) (hlen : n + m ≤ 1000000000)
    (h : ∀ v' w', Ow w' w.heap.size v' (xs ++ ys) → Below w.heap.size w w' → wpList Tryz.prog ops Q rest (a.put o.dst v') w') : wpList Tryz.prog ops Q (o :: rest) a w := by
  obtain ⟨i5, hi5, hz5, hs5, hb5⟩ := info5'
  have hl := hy.len
  have hl2 := hxs.len
  have cellsOf : ∀ {bb oo nn cc : Nat} {zs : List Int}, By w (some ⟨bb, oo, none⟩) nn cc zs → ∀ j u, (zs.map (Value.int .u8))[j]? = some u → w.cell? ((⟨bb, oo, none⟩ : Addr).add j) = some u := by
    intro bb oo nn cc zs hz j u hu
    have hzl := hz.len
    by_cases hj : j < zs.length
    · obtain ⟨b, o, e, g⟩ := hz.cells (by omega)
      cases e
      have := g j (by omega)
      rw [Go.WideShapes.add_plain, this, ← hu]
      simp [List.getD, List.getElem?_eq_getElem hj]
    · rw [List.getElem?_eq_none (by simpa using Nat.le_of_not_lt hj)] at hu; cases hu
  refine wpList_append_grows w hgd s x 22 ho 5 i5 (.int .u8 0) 1 1 Tryz.underlying22 hi5 hz5 hs5 hb5 rfl (by decide) (some ⟨b, off, none⟩) n n (xs.map (.int .u8)) hs (fun h => by cases h) (by simp [hl2]) (fun b2 e j u hu => (by cases e; exact cellsOf hxs j u hu)) ⟨b', o', none⟩ m c (ys.map (.int .u8)) hx (by simp [hl]) (cellsOf hy) ?_ (by omega) (by unfold maxLen; omega) (by omega) ?_
  · intro u hu
    obtain ⟨n, _, rfl⟩ := List.mem_map.1 hu
    rfl
  · intro v' w' h1 h2
    exact h v' w' (Ow.app h1 hl2 hl rfl rfl) ((Below.refl _ w).grown h2 (Nat.le_refl _) (fun k hk => by cases hk))
end Go.Proofs.YtkkmoaidbmnolaaGreatDoor
