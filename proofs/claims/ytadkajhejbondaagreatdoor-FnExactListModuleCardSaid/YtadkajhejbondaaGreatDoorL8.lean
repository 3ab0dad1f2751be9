import Derived.Test.YtadkajhejbondaaGreatDoorL7
import Derived.Deep.CutRange
namespace Go.Proofs.YtadkajhejbondaaGreatDoor
open Go.RowKit Ch1
/-- A line's words as one string. -/
def jB (ss : List ByteArray) : ByteArray := ⟨(Lib.join (ss.map (·.data.toList)) [32]).toArray⟩
theorem jB_line (ss : List ByteArray) : nums (jB ss).data.toList ++ [10] = lineZ ss := rfl
theorem ba_ext {a b : ByteArray} (h : a.data.toList = b.data.toList) : a = b := by
  cases a; cases b; simp at h; subst h; rfl
theorem join_snoc : ∀ (ss : List (List UInt8)) (x : List UInt8), ss ≠ [] → Lib.join (ss ++ [x]) [32] = Lib.join ss [32] ++ (32 :: x)
  | [], _, h => absurd rfl h
  | [a], x, _ => by simp [Lib.join, List.intercalate]
  | a :: b :: r, x, _ => by
    have ih := join_snoc (b :: r) x (by simp)
    simp [Lib.join, List.intercalate] at ih ⊢
    exact ih
theorem jB_snoc (ss : List ByteArray) (x : ByteArray) (h : ss ≠ []) : jB (ss ++ [x]) = jB ss ++ (⟨#[32]⟩ ++ x) := by
  apply ba_ext
  unfold jB
  rw [List.map_append, List.map_cons, List.map_nil, join_snoc _ _ (by simpa using h)]
  simp
theorem jB_size (ss : List ByteArray) : (jB ss).size ≤ (ss.map (fun s => s.size + 1)).sum := by
  have := lineZ_join ss
  have e : (jB ss).size = (Lib.join (ss.map (·.data.toList)) [32]).length := by
    show (List.toArray _).size = _
    simp
  rw [e]
  exact this
theorem str_itoa (n : Int) : strOfNums (itoaZ n) = itoaB n := by
  apply ba_ext
  unfold itoaZ itoaB nums
  rw [strOfNums_data, List.map_map]
  show _ = Lib.itoa n
  conv => rhs; rw [← List.map_id (Lib.itoa n)]
  apply List.map_congr_left
  intro x _
  simp
theorem nums_str {xs : List Int} (h : Rg xs) : nums (strOfNums xs).data.toList = xs := by
  unfold nums
  rw [strOfNums_data, List.map_map]
  conv => rhs; rw [← List.map_id xs]
  apply List.map_congr_left
  intro x hx
  obtain ⟨h0, h1⟩ := h x hx
  simp
  omega
theorem const_line {i : Int} {ds : List Dt} (h : Rg (txt 100 ds)) : lineZ (cdWs i ds) = nums [99, 111, 110, 115, 116, 32] ++ itoaZ i ++ [32] ++ txt 100 ds ++ [10] := by
  have e := nums_str h
  unfold lineZ cdWs itoaZ itoaB constB
  simp [Lib.join, List.intercalate, nums] at e ⊢
  rw [e]
theorem glob_line (g : Int) : lineZ [globB, itoaB g] = [103, 108, 111, 98, 97, 108, 115, 32] ++ itoaZ g ++ [10] := by
  unfold lineZ itoaZ itoaB globB
  simp [Lib.join, List.intercalate, nums]
theorem fn_head (n p : Int) : jB [⟨#[102, 117, 110, 99]⟩, itoaB n, itoaB p] = ((⟨#[102, 117, 110, 99, 32]⟩ ++ itoaB n) ++ ⟨#[32]⟩) ++ itoaB p := by
  apply ba_ext
  unfold jB itoaB
  simp [Lib.join, List.intercalate]
theorem in_head (k : Int) (x : ByteArray) : jB [⟨#[32, 32]⟩ ++ itoaB k, x] = ((⟨#[32, 32]⟩ ++ itoaB k) ++ ⟨#[32]⟩) ++ x := by
  apply ba_ext
  unfold jB itoaB
  simp [Lib.join, List.intercalate]
theorem box_word (b : Bool) : (⟨#[32]⟩ ++ boxB b : ByteArray) = if b then ⟨#[32, 98, 111, 120]⟩ else ⟨#[32, 97, 110, 121]⟩ := by
  cases b <;> (apply ba_ext; simp [boxB])
/-- The model's decimal text, as a string. -/
theorem decS_c (n : Int) (h0 : -9223372036854775808 ≤ n) (h1 : n ≤ 9223372036854775807) (w : World) : Calls Tryz.prog 16 #[.int .i64 n] w fun e w' => ∃ v, e = .returned v ∧ (∀ w9, Below w'.heap.size w' w9 → (convert 27 9 v).run Tryz.prog w9 = .ok (.string (itoaB n)) w9) ∧ Below w.heap.size w w' := by
  refine (dec24 n h0 h1 w).mono ?_
  rintro e w' ⟨b, o, c, rfl, hy, hb⟩
  refine ⟨_, rfl, fun w9 h9 => ?_, hb⟩
  have hp : 0 < (itoaZ n).length := by
    by_cases h : n < 0
    · rw [itoa_neg n h]; simp
    · rw [itoa_pos n h]; exact dec_pos _
  obtain ⟨b', o', e', hc⟩ := (hy.below h9).cells hp
  cases e'
  rw [← str_itoa]
  exact run_convert_bytes_arg (P := Tryz.prog) w9 27 5 Tryz.underlying27 Tryz.underlying5 b o _ c _ rfl (fun i hi => hc i hi) 9 Tryz.underlying9
theorem app2_law (w : World) {ops : Array Oper} {rest : List Oper} {o : Oper} {a : Act} {Q : Exit → Act → World → Prop} (hgd : o.guard = none) (s x : Operand)
    (ho : o.op = .call { callee := .builtin .append, args := #[s, x], argTypes := #[27, 27] }) (B : Nat) (v : Value) (xs ys : List Int) (hs : a.eval s = v) (hown : Ow w B v xs) (b' o' m c : Nat) (hx : a.eval x = .slice (some ⟨b', o', none⟩) m c)
    (hy : By w (some ⟨b', o', none⟩) m c ys) (hlen : xs.length + m ≤ 1000000000) (hB : B ≤ w.heap.size)
    (h : ∀ v' w', Ow w' B v' (xs ++ ys) → Below B w w' → But w w' v → wpList Tryz.prog ops Q rest (a.put o.dst v') w') : wpList Tryz.prog ops Q (o :: rest) a w :=
  app_law w hgd s x ho B v xs ys hs hown b' o' m c hx hy hlen hB (fun v' w' h1 h2 h3 => h v' w' h1 h2 (fun k hk hne => h3.block k hk hne))
theorem app1_law (w : World) {ops : Array Oper} {rest : List Oper} {o : Oper} {a : Act} {Q : Exit → Act → World → Prop} (hgd : o.guard = none) (s x : Operand)
    (ho : o.op = .call { callee := .builtin .append, args := #[s, x], argTypes := #[27, 27] }) (B : Nat) (v : Value) (xs : List Int) (y : Int) (h0 : 0 ≤ y) (h1 : y < 256) (hs : a.eval s = v) (hown : Ow w B v xs) (hx : a.eval x = .slice (some ⟨w.heap.size, 0, none⟩) 1 1)
    (hlen : xs.length ≤ 500000000) (hB : B ≤ w.heap.size)
    (h : ∀ v' w', Ow w' B v' (xs ++ [y]) → Below B w w' → But w w' v → wpList Tryz.prog ops Q rest (a.put o.dst v') w') : wpList Tryz.prog ops Q (o :: rest) a (w.alloc (.cells #[.int .u8 y] 5)) :=
  app_law _ hgd s x ho B v xs [y] hs (hown.below (below1 _ _)) w.heap.size 0 1 1 hx (By.lit w y h0 h1) (by omega) (by simp; omega) (fun v' w' k1 k2 k3 => h v' w' k1 (((below1 _ _).mono hB).trans k2) (fun k hk hne => (k3.block k (by simp; omega) hne).trans ((below1 w _).block k hk)))
theorem own_ne {w : World} {B : Nat} {v : Value} {xs : List Int} {fb : Nat} {a : Array Value} {t : TypeId} (h : Ow w B v xs) (hf : w.heap[fb]? = some (.cells a t)) (ht : t ≠ 5) : some fb ≠ v.ownBlock := by
  intro e
  obtain ⟨_, ⟨rfl, _⟩ | ⟨g, cap, cur, rfl, hg, hh, _⟩⟩ := h
  · cases e
  · cases e
    rw [hh] at hf
    cases hf
    exact ht rfl
/-- append onto a full row: the answer is a new row. -/
theorem appG_law (w : World) {ops : Array Oper} {rest : List Oper} {o : Oper} {a : Act} {Q : Exit → Act → World → Prop} (hgd : o.guard = none) (s x : Operand)
    (ho : o.op = .call { callee := .builtin .append, args := #[s, x], argTypes := #[27, 27] }) (b off n : Nat) (xs ys : List Int) (hs : a.eval s = .slice (some ⟨b, off, none⟩) n n) (hxs : By w (some ⟨b, off, none⟩) n n xs) (b' o' m c : Nat) (hx : a.eval x = .slice (some ⟨b', o', none⟩) m c)
    (hy : By w (some ⟨b', o', none⟩) m c ys) (hm : 0 < m) (hlen : n + m ≤ 1000000000)
    (h : ∀ v' w', Ow w' w.heap.size v' (xs ++ ys) → Below w.heap.size w w' → wpList Tryz.prog ops Q rest (a.put o.dst v') w') : wpList Tryz.prog ops Q (o :: rest) a w := by
  obtain ⟨i5, hi5, hz5, hs5, hb5⟩ := info5'
  have hl := hy.len
  have hl2 := hxs.len
  have cellsOf : ∀ {bb oo nn cc : Nat} {zs : List Int}, By w (some ⟨bb, oo, none⟩) nn cc zs → ∀ j u, (zs.map (Value.int .u8))[j]? = some u → w.cell? ((⟨bb, oo, none⟩ : Addr).add j) = some u := by
    intro bb oo nn cc zs hz j u hu
    have hzl := hz.len
    by_cases hj : j < zs.length
    · obtain ⟨b, o, e, g⟩ := hz.cells (by omega)
      cases e
      have := g j (by omega)
      rw [Go.WideShapes.add_plain, this, ← hu]
      simp [List.getD, List.getElem?_eq_getElem hj]
    · rw [List.getElem?_eq_none (by simpa using Nat.le_of_not_lt hj)] at hu; cases hu
  refine wpList_append_grows w hgd s x 27 ho 5 i5 (.int .u8 0) 1 1 Tryz.underlying27 hi5 hz5 hs5 hb5 rfl (by decide) (some ⟨b, off, none⟩) n n (xs.map (.int .u8)) hs (fun h => by cases h) (by simp [hl2]) (fun b2 e j u hu => (by cases e; exact cellsOf hxs j u hu)) ⟨b', o', none⟩ m c (ys.map (.int .u8)) hx (by simp [hl]) (cellsOf hy) ?_ (by omega) (by unfold maxLen; omega) (by omega) ?_
  · intro u hu
    obtain ⟨n, _, rfl⟩ := List.mem_map.1 hu
    rfl
  · intro v' w' h1 h2
    exact h v' w' (Ow.app h1 hl2 hl rfl rfl) ((Below.refl _ w).grown h2 (Nat.le_refl _) (fun k hk => by cases hk))
theorem By.glob (w : World) : By (w.alloc (.cells #[.int .u8 103, .int .u8 108, .int .u8 111, .int .u8 98, .int .u8 97, .int .u8 108, .int .u8 115, .int .u8 32] 5 (8, 9))) (some ⟨w.heap.size, 0, none⟩) 8 8 [103, 108, 111, 98, 97, 108, 115, 32] := by
  refine ⟨rfl, Nat.le_refl _, by unfold maxLen; omega, rng_of ?_, fun _ => ⟨w.heap.size, 0, rfl, fun i hi => ?_⟩, fun a ha _ => by cases ha; simp⟩
  · intro z hz; simp at hz; omega
  · rcases (show i = 0 ∨ i = 1 ∨ i = 2 ∨ i = 3 ∨ i = 4 ∨ i = 5 ∨ i = 6 ∨ i = 7 from by omega) with rfl | rfl | rfl | rfl | rfl | rfl | rfl | rfl <;> (rw [World.cell?_alloc_mark]; rfl)
theorem itoaZ_pos (n : Int) : 0 < (itoaZ n).length := by
  by_cases h : n < 0
  · rw [itoa_neg n h]; simp
  · rw [itoa_pos n h]; exact dec_pos _
theorem itoaZ_len (n : Int) (h0 : -9223372036854775808 ≤ n) (h1 : n ≤ 9223372036854775807) : (itoaZ n).length ≤ 21 := by
  have := Lib.itoa_length_le n h0 h1
  unfold itoaZ; rw [nums_length]; omega
end Go.Proofs.YtadkajhejbondaaGreatDoor
