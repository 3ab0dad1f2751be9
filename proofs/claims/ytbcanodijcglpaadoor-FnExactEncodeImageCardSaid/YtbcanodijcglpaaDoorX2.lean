import Derived.Test.YtbcanodijcglpaaDoorX1
namespace Go.Proofs.YtbcanodijcglpaaDoor
open Go.RowKit Ch1
/-- The call answers a slice that reads as xs; nothing that was there has turned. -/
def Txt (w w' : World) (e : Ending) (xs : List Int) : Prop := ∃ b o c, e = .returned (.slice (some ⟨b, o, none⟩) xs.length c) ∧ By w' (some ⟨b, o, none⟩) xs.length c xs ∧ Below w.heap.size w w'
theorem Ow.txt {w w' : World} {B : Nat} {v : Value} {xs : List Int} (h : Ow w' B v xs) (hr : ∀ i, 0 ≤ xs.getD i 0 ∧ xs.getD i 0 < 256) (h0 : 0 < xs.length) (hb : Below w.heap.size w w') : Txt w w' (.returned v) xs := by
  obtain ⟨p, c, rfl, hy, _⟩ := h.by_ hr
  obtain ⟨b, o, rfl, _⟩ := hy.cells h0
  exact ⟨b, o, c, rfl, hy, hb⟩
theorem itoa_neg (n : Int) (h : n < 0) : itoaZ n = 45 :: nums (Lib.decDigits n.natAbs) := by
  unfold itoaZ Lib.itoa; rw [if_pos h]; rfl
theorem itoa_pos (n : Int) (h : ¬ n < 0) : itoaZ n = nums (Lib.decDigits n.toNat) := by
  unfold itoaZ Lib.itoa; rw [if_neg h]
theorem dec_pos (u : Nat) : 0 < (nums (Lib.decDigits u)).length := by
  rw [nums_length, Lib.decDigits_length]; exact Lib.nDigits_pos u
/-- append(v, x...) onto an own row of bytes. -/
theorem app_law (w : World) {ops : Array Oper} {rest : List Oper} {o : Oper} {a : Act} {Q : Exit → Act → World → Prop} (hgd : o.guard = none) (s x : Operand)
    (ho : o.op = .call { callee := .builtin .append, args := #[s, x], argTypes := #[27, 27] }) (B : Nat) (v : Value) (xs ys : List Int) (hs : a.eval s = v) (hown : Ow w B v xs) (b' o' m c : Nat) (hx : a.eval x = .slice (some ⟨b', o', none⟩) m c)
    (hy : By w (some ⟨b', o', none⟩) m c ys) (hlen : xs.length + m ≤ 1000000000) (hB : B ≤ w.heap.size)
    (h : ∀ v' w', Ow w' B v' (xs ++ ys) → Below B w w' → w.grownBy w' v.ownBlock → wpList Tryd.prog ops Q rest (a.put o.dst v') w') : wpList Tryd.prog ops Q (o :: rest) a w := by
  obtain ⟨i5, hi5, hz5, hs5, hb5⟩ := info5'
  have hl := hy.len
  refine wpList_append_own w hgd s x 27 ho B 5 i5 (.int .u8 0) 1 1 Tryd.underlying27 hi5 hz5 hs5 hb5 rfl (by decide) v xs.length (xs.map (.int .u8)) hs hown ⟨b', o', none⟩ m c (ys.map (.int .u8)) hx (by simp [hl]) ?_ ?_ (by unfold maxLen; omega) (by omega) hB ?_
  · intro j u hu
    by_cases hj : j < ys.length
    · obtain ⟨b, o, e, g⟩ := hy.cells (by omega)
      cases e
      have := g j (by omega)
      rw [Go.WideShapes.add_plain, this, ← hu]
      simp [List.getD, List.getElem?_eq_getElem hj]
    · rw [List.getElem?_eq_none (by simpa using Nat.le_of_not_lt hj)] at hu; cases hu
  · intro u hu
    obtain ⟨n, _, rfl⟩ := List.mem_map.1 hu
    rfl
  · intro v' w' h1 h2 _
    exact h v' w' (Ow.app h1 rfl hl rfl rfl) ((Below.refl _ w).grown h2 hB (own_block_ge hown)) h2
theorem By.lit (w : World) (y : Int) (h0 : 0 ≤ y) (h1 : y < 256) : By (w.alloc (.cells #[.int .u8 y] 5)) (some ⟨w.heap.size, 0, none⟩) 1 1 [y] := by
  refine ⟨rfl, Nat.le_refl _, by unfold maxLen; omega, fun i => ?_, fun _ => ⟨w.heap.size, 0, rfl, fun i hi => ?_⟩, fun a ha _ => by cases ha; simp⟩
  · cases i with
    | zero => exact ⟨h0, h1⟩
    | succ i => simp
  · obtain rfl : i = 0 := by omega
    simp
theorem wrap_neg (n : Int) (h0 : n < 0) (h1 : -9223372036854775808 ≤ n) : IntKind.u64.wrap (-IntKind.u64.wrap n) = -n := by
  simp [IntKind.wrap, IntKind.bits, IntKind.signed]
  omega
end Go.Proofs.YtbcanodijcglpaaDoor
