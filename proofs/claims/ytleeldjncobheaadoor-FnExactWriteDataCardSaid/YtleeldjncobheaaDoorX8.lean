import Derived.Test.YtleeldjncobheaaDoorX7
namespace Go.Proofs.YtleeldjncobheaaDoor
open Go.RowKit Ch1
set_option maxHeartbeats 400000 in
theorem bool30 (n : Int) (w : World) : Calls Tryd.prog 49 #[.int .i64 n] w fun e w' => e = .returned (.string ⟨(if n = 1 then #[35, 116] else #[35, 102])⟩) ∧ w' = w := by
  by_cases h : n = 1
  · rw [if_pos h]
    have h' : (n == 1) = true := by simpa using h
    clear h
    go_enter Tryd.func49, Tryd.ntmps49
    go_wp2
    go_ret
    exact ⟨rfl, rfl⟩
  · rw [if_neg h]
    have h' : (n == 1) = false := by simpa using h
    clear h
    go_enter Tryd.func49, Tryd.ntmps49
    go_wp2
    go_ret
    exact ⟨rfl, rfl⟩
theorem byteCells_nums (l : List UInt8) : Lib.byteCells l = (nums l).map (Value.int .u8) := by simp [Lib.byteCells, nums]
/-- What writeDatum answers. -/
def WD (w0 w' : World) (e : Ending) (xs : List Int) (r : List Dt) : Prop := ∃ v p n c, e = .returned (.tuple #[v, .slice p n c]) ∧ Ow w' w0.heap.size v xs ∧ Da w0 p n c r ∧ Below w0.heap.size w0 w'
def Tab (w : World) : Prop := Lib.TabBelow Tryd.prog w.heap.size w "internal/strconv.uint64pow10" .u64 Lib.pow10Tab
theorem appendInt (i : Int) (h0 : -9223372036854775808 ≤ i) (h1 : i ≤ 9223372036854775807) (v : Value) (acc : List Int) (w0 w : World) (ht : Tab w0) (hb : Below w0.heap.size w0 w) (ho : Ow w w0.heap.size v acc) (hl : acc.length ≤ 1000000) :
    Calls Tryd.prog 48 #[v, .int .i64 i, .int .i64 10] w fun e w' => ∃ v', e = .returned v' ∧ Ow w' w0.heap.size v' (acc ++ itoaZ i) ∧ Below w0.heap.size w w' := by
  refine (appendInt29 w0.heap.size acc.length i h0 h1 v (acc.map (Value.int .u8)) w ho hb.size (by omega) (ht.on hb)).mono ?_
  rintro e w' ⟨v', he, h2, h3, _⟩
  refine ⟨v', he, ?_, h3⟩
  exact Ow.app h2 rfl (by rw [itoaZ, nums_length]) rfl (byteCells_nums _)
/-- append(v, s...), s a string, onto an own row of bytes. -/
theorem appS_law (w : World) {ops : Array Oper} {rest : List Oper} {o : Oper} {a : Act} {Q : Exit → Act → World → Prop} (hgd : o.guard = none) (s x : Operand)
    (ho : o.op = .call { callee := .builtin .append, args := #[s, x], argTypes := #[24, 9] }) (B : Nat) (v : Value) (xs ys : List Int) (hs : a.eval s = v) (hown : Ow w B v xs) (str : ByteArray) (hx : a.eval x = .string str)
    (hy : nums str.data.toList = ys) (hlen : xs.length + str.size ≤ 1000000000) (hB : B ≤ w.heap.size)
    (h : ∀ v' w', Ow w' B v' (xs ++ ys) → Below B w w' → wpList Tryd.prog ops Q rest (a.put o.dst v') w') : wpList Tryd.prog ops Q (o :: rest) a w := by
  obtain ⟨i5, hi5, hz5, hs5, hb5⟩ := info5'
  refine Lib.wpList_append_own_string w hgd s x 24 9 ho B 5 i5 Tryd.underlying24 Tryd.underlying9 hi5 hz5 hs5 hb5 v xs.length (xs.map (.int .u8)) hs hown str hx (by unfold maxLen; omega) (by omega) hB ?_
  intro v' w' h1 h2 _
  refine h v' w' (Ow.app h1 rfl ?_ rfl ?_) ((Below.refl _ w).grown h2 hB (own_block_ge hown))
  · rw [← hy, nums_length, Array.length_toList]; rfl
  · rw [← hy]; simp [Lib.strCells, nums]
end Go.Proofs.YtleeldjncobheaaDoor
