import Derived.Test.YtdjdhjciealfhaaGreatDoorM9
import Derived.Test.YtdjdhjciealfhaaGreatDoorU0
import Derived.Deep.LoopGhost
import Derived.Deep.AppendLies
import Derived.Deep.Cut
import Derived.Deep.CutRange
import Derived.Deep.CutBlock
namespace Go.Proofs.YtdjdhjciealfhaaGreatDoor
open Go.RowKit Ch1
namespace Vf
theorem mkD {p : Prop} (h : p) : Hid p := h
/-- Every block but the row's own stands. -/
def But (w w' : World) (v : Value) : Prop := ∀ k, k < w.heap.size → some k ≠ v.ownBlock → w'.heap[k]? = w.heap[k]?
theorem owns_ge {w : World} {B n size : Nat} {e : TypeId} {v : Value} {xs : List Value} (h : w.ownsRow B e size v n xs) : ∀ k, v.ownBlock = some k → B ≤ k := by
  obtain ⟨_, ⟨rfl, _⟩ | ⟨g, cap, cur, rfl, hg, _⟩⟩ := h
  · intro k hk; cases hk
  · intro k hk; cases hk; exact hg
theorem owns_ne {w : World} {B n size : Nat} {e : TypeId} {v : Value} {xs : List Value} {fb : Nat} {a : Array Value} {t : TypeId} (h : w.ownsRow B e size v n xs) (hf : w.heap[fb]? = some (.cells a t)) (ht : t ≠ e) : some fb ≠ v.ownBlock := by
  intro e'
  obtain ⟨_, ⟨rfl, _⟩ | ⟨g, cap, cur, rfl, hg, hh, _⟩⟩ := h
  · cases e'
  · cases e'
    rw [hh] at hf
    cases hf
    exact ht rfl
theorem owns_of_heap {w w' : World} {B n size : Nat} {e : TypeId} {v : Value} {xs : List Value} (h : w.ownsRow B e size v n xs) (hk : ∀ k, v.ownBlock = some k → w'.heap[k]? = w.heap[k]?) : w'.ownsRow B e size v n xs := by
  obtain ⟨h1, h2 | ⟨g, cap, cur, rfl, hg, hh, r⟩⟩ := h
  · exact ⟨h1, Or.inl h2⟩
  · exact ⟨h1, Or.inr ⟨g, cap, cur, rfl, hg, by rw [hk g rfl]; exact hh, r⟩⟩
theorem owns_form {w : World} {B n size : Nat} {e : TypeId} {v : Value} {xs : List Value} (h : w.ownsRow B e size v n xs) : ∃ p c, v = .slice p n c := by
  obtain ⟨_, ⟨rfl, h0⟩ | ⟨g, cap, cur, rfl, _⟩⟩ := h
  · exact ⟨none, 0, by rw [h0]⟩
  · exact ⟨_, cap, rfl⟩
/-- append(v, x) onto an own row of whatever elements, x in a new block. -/
theorem appW_law (w : World) {ops : Array Oper} {rest : List Oper} {o : Oper} {a : Act} {Q : Exit → Act → World → Prop} (hgd : o.guard = none) (s x : Operand) (t e : TypeId)
    (ho : o.op = .call { callee := .builtin .append, args := #[s, x], argTypes := #[t, t] }) (z : Value) (size bytes : Nat) (ht : Tryz.prog.underlying t = some (.slice e)) (hi : (Tryz.prog.info? e).map (fun i => (i.zero, i.size, i.bytes)) = some (some z, size, bytes)) (hzs : z.cells.size = size) (hsz : 0 < size)
    (B : Nat) (v : Value) (n : Nat) (xs : List Value) (hs : a.eval s = v) (hown : w.ownsRow B e size v n xs) (arr : Array Value) (harr : arr.size = size) (h1 : ∀ u ∈ arr.toList, u.oneCell' = true) (hx : a.eval x = .slice (some ⟨w.heap.size, 0, none⟩) 1 1)
    (hlen : n + 1 ≤ maxLen) (hby : (n + 1) * bytes ≤ 140737488355328) (hB : B ≤ w.heap.size)
    (h : ∀ v' w', w'.ownsRow B e size v' (n + 1) (xs ++ arr.toList) → Below B w w' → But w w' v → wpList Tryz.prog ops Q rest (a.put o.dst v') w') : wpList Tryz.prog ops Q (o :: rest) a (w.alloc (.cells arr e)) := by
  obtain ⟨i, hi', hpr⟩ := Option.map_eq_some_iff.1 hi
  simp only [Prod.mk.injEq] at hpr
  have hnew : (w.alloc (.cells arr e)).heap[w.heap.size]? = some (.cells arr e) := Go.Deep.blk_alloc_new _ _
  refine wpList_append_own _ hgd s x t ho B e i z size bytes ht hi' hpr.1 hpr.2.1 hpr.2.2 hzs hsz v n xs hs (ownsRow_below hown (below1 _ _)) ⟨w.heap.size, 0, none⟩ 1 1 arr.toList hx (by rw [Array.length_toList, harr]; omega) (fun j u hu => World.news_of_block hnew j u hu) h1 hlen hby (Nat.le_trans hB (below1 _ _).size) ?_
  intro v' w' k1 k2 _
  exact h v' w' k1 (((below1 _ _).mono hB).trans ((Below.refl _ _).grown k2 (Nat.le_trans hB (below1 _ _).size) (owns_ge hown))) (fun k hk hne => (k2.block k (by simp; omega) hne).trans ((below1 w _).block k hk))
theorem owns_lt {w : World} {B n size : Nat} {e : TypeId} {v : Value} {xs : List Value} (h : w.ownsRow B e size v n xs) : ∀ k, v.ownBlock = some k → k < w.heap.size ∧ ∃ cur, w.heap[k]? = some (.cells cur e) := by
  obtain ⟨_, ⟨rfl, _⟩ | ⟨g, cap, cur, rfl, hg, hh, _⟩⟩ := h
  · intro k hk; cases hk
  · intro k hk; cases hk; exact ⟨(Array.getElem?_eq_some_iff.1 hh).1, cur, hh⟩
theorem cells3 {w : World} {k : Nat} {a b c : Value} {t : TypeId} (e : w.heap[k]? = some (.cells #[a, b, c] t)) : w.cell? ⟨k, 0, none⟩ = some a ∧ w.cell? ⟨k, 1, none⟩ = some b ∧ w.cell? ⟨k, 2, none⟩ = some c ∧ w.frozen? ⟨k, 0, none⟩ = false ∧ w.frozen? ⟨k, 1, none⟩ = false ∧ w.frozen? ⟨k, 2, none⟩ = false := by
  refine ⟨?_, ?_, ?_, ?_, ?_, ?_⟩ <;> simp [World.cell?, World.frozen?, e]
theorem cell_keepD {w w1 : World} {b o : Nat} {v : Value} (hb : Below w.heap.size w w1) (hlt : b < w.heap.size) (h : w.cell? ⟨b, o, none⟩ = some v) : w1.cell? ⟨b, o, none⟩ = some v := by rw [hb.cell (p := ⟨b, o, none⟩) hlt]; exact h
theorem set_one {w : World} {k : Nat} {a b c : Value} {t : TypeId} (e : w.heap[k]? = some (.cells #[a, b, c] t)) (v : Value) : (w.setCell ⟨k, 1, none⟩ v).heap[k]? = some (.cells #[a, v, c] t) := by simp [World.setCell, Array.getElem?_modify, e]
theorem set_two {w : World} {k : Nat} {a b c : Value} {t : TypeId} (e : w.heap[k]? = some (.cells #[a, b, c] t)) (v : Value) : (w.setCell ⟨k, 2, none⟩ v).heap[k]? = some (.cells #[a, b, v] t) := by simp [World.setCell, Array.getElem?_modify, e]
theorem owns_but {w w' : World} {B B2 n m size size2 : Nat} {e e2 : TypeId} {v u : Value} {xs ys : List Value} (h : w.ownsRow B e size v n xs) (g : w.ownsRow B2 e2 size2 u m ys) (hne : e ≠ e2) (hb : But w w' u) : w'.ownsRow B e size v n xs :=
  owns_of_heap h (fun k hk => by obtain ⟨hlt, cur, hc⟩ := owns_lt h k hk; exact hb k hlt (owns_ne g hc hne))
theorem owns_set {w : World} {B n size fb j : Nat} {e t : TypeId} {v : Value} {xs : List Value} {a : Array Value} (h : w.ownsRow B e size v n xs) (hf : w.heap[fb]? = some (.cells a t)) (ht : t ≠ e) (x : Value) : (w.setCell ⟨fb, j, none⟩ x).ownsRow B e size v n xs :=
  owns_of_heap h (fun k hk => Below.heap_setCell _ _ _ k (fun e => owns_ne h hf ht (by rw [hk]; exact congrArg some e.symm)))
theorem set_zero {w : World} {k : Nat} {a b c : Value} {t : TypeId} (e : w.heap[k]? = some (.cells #[a, b, c] t)) (v : Value) : (w.setCell ⟨k, 0, none⟩ v).heap[k]? = some (.cells #[v, b, c] t) := by simp [World.setCell, Array.getElem?_modify, e]
theorem set_size (w : World) (a : Addr) (x : Value) : (w.setCell a x).heap.size = w.heap.size := by simp [World.setCell]
theorem owns_cells {w : World} {B n size c : Nat} {e : TypeId} {p : Option Addr} {xs : List Value} (h : w.ownsRow B e size (.slice p n c) n xs) : n ≤ c ∧ c ≤ maxLen ∧ (0 < n → ∃ g, p = some ⟨g, 0, none⟩ ∧ g < w.heap.size ∧ B ≤ g ∧ ∀ k, k < n * size → w.cell? ⟨g, k, none⟩ = xs[k]?) := by
  obtain ⟨_, ⟨hv, h0⟩ | ⟨g, cap, cur, hv, hg, hh, h1, h2, h3, h4⟩⟩ := h
  · cases hv
    exact ⟨Nat.le_refl _, by unfold maxLen; omega, fun h => absurd h (Nat.lt_irrefl 0)⟩
  · cases hv
    refine ⟨h1, h2, fun _ => ⟨g, rfl, (Array.getElem?_eq_some_iff.1 hh).1, hg, fun k hk => ?_⟩⟩
    have e : (List.take (n * size) cur.toList)[k]? = xs[k]? := by rw [h4]
    rw [List.getElem?_take, if_pos hk] at e
    rw [← e]
    simp [World.cell?, hh]
/-- A row of numbers of the call's own. -/
def Iv (xs : List Nat) : List Value := xs.map (fun v : Nat => Value.int .i64 (v : Int))
def OwI (w : World) (B : Nat) (v : Value) (xs : List Nat) : Prop := w.ownsRow B 3 1 v xs.length (Iv xs)
theorem OwI.cell {w : World} {B n c : Nat} {p : Option Addr} {xs : List Nat} (h : OwI w B (.slice p n c) xs) : xs.length = n ∧ n ≤ c ∧ c ≤ maxLen ∧ (0 < n → ∃ g, p = some ⟨g, 0, none⟩ ∧ g < w.heap.size ∧ B ≤ g ∧ ∀ k, k < n → w.cell? ⟨g, k, none⟩ = some (.int .i64 (xs.getD k 0 : Nat))) := by
  obtain ⟨p', c', e⟩ := owns_form h
  cases e
  obtain ⟨h1, h2, h3⟩ := owns_cells h
  refine ⟨rfl, h1, h2, fun h0 => ?_⟩
  obtain ⟨g, e, hg, hB, hc⟩ := h3 h0
  refine ⟨g, e, hg, hB, fun k hk => ?_⟩
  rw [hc k (by omega)]
  simp [Iv, List.getD, List.getElem?_eq_getElem hk]
theorem OwI.below {w w' : World} {B : Nat} {v : Value} {xs : List Nat} (h : OwI w B v xs) (hb : Below w.heap.size w w') : OwI w' B v xs := ownsRow_below h hb
theorem OwI.new (w : World) (xs : List Nat) (B : Nat) (hB : B ≤ w.heap.size) (_hx : 0 < xs.length) (hs : xs.length ≤ maxLen) : OwI (w.alloc (.cells (Iv xs).toArray 3)) B (.slice (some ⟨w.heap.size, 0, none⟩) xs.length xs.length) xs := by
  have hl : (Iv xs).length = xs.length := by simp [Iv]
  refine ⟨by rw [hl]; omega, Or.inr ⟨w.heap.size, xs.length, (Iv xs).toArray, rfl, hB, Go.Deep.blk_alloc_new _ _, Nat.le_refl _, hs, ?_, ?_⟩⟩
  · simp [hl]
  · rw [List.toList_toArray, Nat.mul_one, ← hl, List.take_length]
theorem OwI.new2 (w : World) (o : Obj) (xs : List Nat) (hx : 0 < xs.length) (hs : xs.length ≤ maxLen) : OwI ((w.alloc o).alloc (.cells (Iv xs).toArray 3)) w.heap.size (.slice (some ⟨w.heap.size + 1, 0, none⟩) xs.length xs.length) xs := by
  have h := OwI.new (w.alloc o) xs w.heap.size (by simp) hx hs
  rw [World.size_alloc] at h
  exact h
theorem info3 : (Tryz.prog.info? 3).map (fun i => (i.zero, i.size, i.bytes)) = some (some (.int .i64 0), 1, 8) := by kernel_rfl
set_option maxHeartbeats 1000000 in
theorem datumKind_c (d : Dt) (q : Option Addr) (n c : Nat) (w : World) : Calls Tryz.prog 104 #[.agg #[.int .i64 d.kind, .int .i64 d.n, .slice q n c, .int .i64 d.count]] w fun e w' => e = .returned (.int .i64 (dtKind d : Nat)) ∧ Below w.heap.size w w' := by
  obtain ⟨kd, n1, t1, ct⟩ := d
  unfold dtKind
  by_cases h0 : kd = 0
  · subst h0
    go_enter Tryz.func104, Tryz.ntmps104
    go_wp2
    go_ret
    exact ⟨rfl, below1 _ _⟩
  by_cases h1 : kd = 1
  · subst h1
    go_enter Tryz.func104, Tryz.ntmps104
    go_wp2
    go_ret
    exact ⟨rfl, below1 _ _⟩
  by_cases h2 : kd = 2
  · subst h2
    go_enter Tryz.func104, Tryz.ntmps104
    go_wp2
    go_ret
    exact ⟨rfl, below1 _ _⟩
  have b0 : (kd == 0) = false := by simp [h0]
  have b1 : (kd == 1) = false := by simp [h1]
  have b2 : (kd == 2) = false := by simp [h2]
  by_cases h3 : ct = 0
  · subst h3
    simp only [if_neg h0, if_neg h1, if_neg h2, if_true]
    go_enter Tryz.func104, Tryz.ntmps104
    go_wp2
    go_ret
    exact ⟨rfl, below1 _ _⟩
  · have b3 : (ct == 0) = false := by simp [h3]
    simp only [if_neg h0, if_neg h1, if_neg h2, if_neg h3]
    go_enter Tryz.func104, Tryz.ntmps104
    go_wp2
    go_ret
    exact ⟨rfl, below1 _ _⟩
end Vf
end Go.Proofs.YtdjdhjciealfhaaGreatDoor
