import Derived.Test.YtpfodinoeoejcaaC3
namespace Go.Proofs.Ytpfodinoeoejcaa
open Go.RowKit Ch2
theorem offs_succ (ws : List Int) (ord : List Nat) (i : Nat) (h : i < ord.length) : offs ws ord (i + 1) = offs ws ord i + (1 + cnt (ws.getD (ord.getD i 0) 0)) := by
  have e : ord.getD i 0 = ord[i] := by simp [List.getD, List.getElem?_eq_getElem h]
  unfold offs
  rw [e, List.take_add_one, List.getElem?_eq_getElem h, Option.toList_some, List.map_append, List.sum_append]
  simp only [List.map_cons, List.map_nil, List.sum_cons, List.sum_nil, Nat.add_zero]
theorem offs_mono (ws : List Int) (ord : List Nat) : ∀ (d i : Nat), i + d ≤ ord.length → offs ws ord i ≤ offs ws ord (i + d)
  | 0, _, _ => Nat.le_refl _
  | d + 1, i, h => by
    have := offs_mono ws ord d i (by omega)
    have h2 := offs_succ ws ord (i + d) (by omega)
    rw [← Nat.add_assoc]; omega
/-- What the word t of the object i is in the copy. -/
def valC (ws : List Int) (s : Cs) (i t : Nat) : Int := if t = 0 then ws.getD (s.ord.getD i 0) 0 else mvd s.mv (ws.getD (s.ord.getD i 0 + t) 0)
/-- The first i objects and t words of the next one are copied, the rest is 0. -/
structure Done (ws : List Int) (s : Cs) (n : Nat) (xs : List Int) (i t : Nat) : Prop where
  old : ∀ a, a < i → ∀ b, b ≤ cnt (ws.getD (s.ord.getD a 0) 0) → xs.getD (offs ws s.ord a + b) 0 = valC ws s a b
  now : ∀ b, b < t → xs.getD (offs ws s.ord i + b) 0 = valC ws s i b
  rest : ∀ j, offs ws s.ord i + t ≤ j → j < n → xs.getD j 0 = 0
theorem Done.set {ws : List Int} {s : Cs} {n : Nat} {xs ys : List Int} {i t : Nat} (h : Done ws s n xs i t) (hi : i < s.ord.length) (hy : ∀ j, j < n → ys.getD j 0 = if j = offs ws s.ord i + t then valC ws s i t else xs.getD j 0) (hn : offs ws s.ord i + t < n) : Done ws s n ys i (t + 1) := by
  refine ⟨fun a ha b hb => ?_, fun b hb => ?_, fun j h1 h2 => ?_⟩
  · have h1 := offs_succ ws s.ord a (by omega)
    have h2 := offs_mono ws s.ord (i - (a + 1)) (a + 1) (by omega)
    rw [show a + 1 + (i - (a + 1)) = i by omega] at h2
    rw [hy _ (by omega), if_neg (by omega)]
    exact h.old a ha b hb
  · by_cases e : b = t
    · subst e; rw [hy _ (by omega), if_pos rfl]
    · rw [hy _ (by omega), if_neg (by omega)]; exact h.now b (by omega)
  · rw [hy _ h2, if_neg (by omega)]; exact h.rest j (by omega) h2
theorem Done.next {ws : List Int} {s : Cs} {n : Nat} {xs : List Int} {i : Nat} (h : Done ws s n xs i (1 + cnt (ws.getD (s.ord.getD i 0) 0))) (hi : i < s.ord.length) : Done ws s n xs (i + 1) 0 := by
  refine ⟨fun a ha b hb => ?_, fun b hb => absurd hb (Nat.not_lt_zero b), fun j h1 h2 => ?_⟩
  · by_cases e : a = i
    · subst e; exact h.now b (by omega)
    · exact h.old a (by omega) b hb
  · rw [offs_succ ws s.ord i hi] at h1
    exact h.rest j (by omega) h2
/-- What Collect answers: words, top, roots and code. -/
def CoRes (ws : List Int) (top : Int) (rs : List Int) (ys : List Int) (top' : Int) (zs : List Int) (code : Int) : Prop :=
  (¬ GoodR ws top rs ∧ ys = [] ∧ top' = 0 ∧ zs = [] ∧ code = 1) ∨
  (GoodR ws top rs ∧ ∃ K, (stage ws rs K).ord.length = K ∧ Inv ws top.toNat (stage ws rs K) ∧ ys.length = ws.length ∧ Done ws (stage ws rs K) ws.length ys K 0 ∧ top' = (stage ws rs K).top ∧ zs = rs.map (mvd (stage ws rs K).mv) ∧ code = 0)
theorem stage_stays (ws rs : List Int) (K : Nat) (h : (stage ws rs K).ord.length = K) : ∀ d, stage ws rs (K + d) = stage ws rs K
  | 0 => rfl
  | d + 1 => by
    have ih := stage_stays ws rs K h d
    rw [← Nat.add_assoc, stage, ih, if_neg (by omega)]
theorem cover_offs (ws : List Int) (ord : List Nat) : ∀ (K j : Nat), K ≤ ord.length → j < offs ws ord K → ∃ i b, i < K ∧ b ≤ cnt (ws.getD (ord.getD i 0) 0) ∧ j = offs ws ord i + b
  | 0, j, _, h => by simp [offs] at h
  | K + 1, j, hK, h => by
    rcases Nat.lt_or_ge j (offs ws ord K) with h1 | h1
    · obtain ⟨i, b, h2, h3, h4⟩ := cover_offs ws ord K j (by omega) h1
      exact ⟨i, b, by omega, h3, h4⟩
    · rw [offs_succ ws ord K (by omega)] at h
      exact ⟨K, j - offs ws ord K, by omega, by omega, by omega⟩
theorem CoRes.one {ws : List Int} {top : Int} {rs ys ys' zs zs' : List Int} {t t' c c' : Int} (h : CoRes ws top rs ys t zs c) (h' : CoRes ws top rs ys' t' zs' c') : ys = ys' ∧ t = t' ∧ zs = zs' ∧ c = c' := by
  rcases h with ⟨h1, rfl, rfl, rfl, rfl⟩ | ⟨h1, K, h2, h3, h4, h5, rfl, rfl, rfl⟩ <;>
  rcases h' with ⟨g1, rfl, rfl, rfl, rfl⟩ | ⟨g1, K', g2, g3, g4, g5, rfl, rfl, rfl⟩
  · exact ⟨rfl, rfl, rfl, rfl⟩
  · exact absurd g1 h1
  · exact absurd h1 g1
  · have e : stage ws rs K = stage ws rs K' := by
      rcases Nat.le_total K K' with hk | hk
      · obtain ⟨d, rfl⟩ := Nat.exists_eq_add_of_le hk
        exact (stage_stays ws rs K h2 d).symm
      · obtain ⟨d, rfl⟩ := Nat.exists_eq_add_of_le hk
        exact stage_stays ws rs K' g2 d
    have eK : K = K' := by rw [← h2, ← g2, e]
    subst eK
    refine ⟨list_ext_getD (by omega) (fun j hj => ?_), rfl, rfl, rfl⟩
    rcases Nat.lt_or_ge j (offs ws (stage ws rs K).ord K) with h6 | h6
    · obtain ⟨i, b, h7, h8, rfl⟩ := cover_offs ws _ K j (by omega) h6
      rw [h5.old i h7 b h8, g5.old i h7 b h8]
    · rw [h5.rest j (by omega) (by omega), g5.rest j (by omega) (by omega)]
/-- What both Collects answer. -/
def CoP (ws : List Int) (top : Int) (rs : List Int) (w w' : World) (e : Ending) : Prop := ∃ (p : Option Addr) (n c : Nat) (ys : List Int) (top' : Int) (q : Option Addr) (m d : Nat) (zs : List Int) (code : Int), e = .returned (.tuple #[.agg #[.slice p n c, .int .i64 top'], .slice q m d, .int .i64 code]) ∧ CoRes ws top rs ys top' zs code ∧ Is w' p n c ys ∧ Is w' q m d zs ∧ (∃ M, w.heap.size ≤ M ∧ M ≤ w'.heap.size ∧ ((Wr w' w.heap.size M p n ∧ Wr w' M w'.heap.size q m) ∨ (Wr w' M w'.heap.size p n ∧ Wr w' w.heap.size M q m))) ∧ Below w.heap.size w w'
/-- An own slice of ints. -/
def OwZ (w : World) (B : Nat) (v : Value) (zs : List Int) : Prop := w.ownsRow B 3 1 v zs.length (zs.map (Value.int .i64))
theorem OwZ.nil (w : World) (B : Nat) : OwZ w B (.slice none 0 0) [] := ⟨rfl, Or.inl ⟨rfl, rfl⟩⟩
theorem ownZ_block_ge {w : World} {B : Nat} {v : Value} {xs : List Int} (h : OwZ w B v xs) : ∀ k, v.ownBlock = some k → B ≤ k := by
  obtain ⟨_, ⟨rfl, _⟩ | ⟨g, cap, cur, rfl, hg, _⟩⟩ := h
  · intro k hk; cases hk
  · intro k hk; cases hk; exact hg
theorem appZ_law {ops : Array Oper} {rest : List Oper} {o : Oper} {a : Act} {Q : Exit → Act → World → Prop} (w : World) (hgd : o.guard = none) (s x : Operand)
    (ho : o.op = .call { callee := .builtin .append, args := #[s, x], argTypes := #[29, 29] }) (B : Nat) (v : Value) (ks : List Int) (k : Int) (hs : a.eval s = v) (hown : OwZ w B v ks) (hx : a.eval x = .slice (some ⟨w.heap.size, 0, none⟩) 1 1)
    (hl : ks.length ≤ 1000000) (hB : B ≤ w.heap.size)
    (h : ∀ v' w', OwZ w' B v' (ks ++ [k]) → Below B w w' → wpList Try.prog ops Q rest (a.put o.dst v') w') : wpList Try.prog ops Q (o :: rest) a (w.alloc (.cells #[.int .i64 k] 3)) := by
  obtain ⟨i3, hi3, hz3, hs3, hb3⟩ := info3'
  refine wpList_append_own _ hgd s x 29 ho B 3 i3 (.int .i64 0) 1 8 Try.underlying29 hi3 hz3 hs3 hb3 rfl (by decide) v ks.length (ks.map (Value.int .i64)) hs (ownsRow_below hown (below1 _ _)) ⟨w.heap.size, 0, none⟩ 1 1 [.int .i64 k] hx rfl (one_new _ _) (by simp [Value.oneCell']) (by unfold maxLen; omega) (by omega) (by simp; omega) ?_
  intro v' w' ho' hg _
  refine h v' w' ?_ ((below1 w _).mono hB |>.grown hg (by simp; omega) (ownZ_block_ge hown))
  unfold OwZ
  rw [List.length_append, List.map_append]
  exact ho'
end Go.Proofs.Ytpfodinoeoejcaa
