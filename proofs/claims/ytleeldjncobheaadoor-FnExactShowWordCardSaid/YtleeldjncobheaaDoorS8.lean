import Derived.Test.YtleeldjncobheaaDoorS4
namespace Go.Proofs.YtleeldjncobheaaDoor
open Go.RowKit Ch1 Ch2s
/-! ### how long the specification's text can become -/
theorem vec_le {R : Int → Prop} {g : Int → List Int → List Int} {D : Nat} (ws : List Int) (p : Nat) (hR : ∀ i, R (ws.getD i 0)) (hg : ∀ x o, R x → (g x o).length ≤ max o.length 1000 + D) : ∀ r i o, (vecS g ws p r i o).length ≤ max o.length 1000 + D
  | 0, _, o => by rw [vecS]; omega
  | r + 1, i, o => by
    rw [vecS]
    split
    · omega
    · rename_i h
      have h1 : (if 0 < i then o ++ [32] else o).length ≤ 1000 := by split <;> first | (rw [List.length_append]; simp only [List.length_cons, List.length_nil]; omega) | omega
      have h2 := hg (ws.getD (p + 1 + i) 0) (if 0 < i then o ++ [32] else o) (hR _)
      generalize g (ws.getD (p + 1 + i) 0) (if 0 < i then o ++ [32] else o) = o3 at h2 ⊢
      by_cases h3 : 1000 ≤ o3.length
      · have : vecS g ws p r (i + 1) o3 = o3 := by
          cases r with
          | zero => rfl
          | succ r => rw [vecS, if_pos h3]
        rw [this]; omega
      · have := vec_le ws p hR hg r (i + 1) o3
        omega
theorem pr_R {R : Int → Prop} {g : Int → List Int → List Int} (ws : List Int) (hR : ∀ i, R (ws.getD i 0)) : ∀ f rest o, R rest → R (prS g ws f rest o).1
  | 0, _, _, h => h
  | f + 1, rest, o, h => by
    rw [prS]
    split
    · exact pr_R ws hR f _ _ (hR _)
    · exact h
theorem pr_le {R : Int → Prop} {g : Int → List Int → List Int} {D : Nat} (ws : List Int) (hR : ∀ i, R (ws.getD i 0)) (hg : ∀ x o, R x → (g x o).length ≤ max o.length 1000 + D) : ∀ f rest o, (prS g ws f rest o).2.length ≤ max o.length 1000 + D
  | 0, _, o => by rw [prS]; show o.length ≤ _; omega
  | f + 1, rest, o => by
    rw [prS]
    split
    · rename_i h
      have h2 := hg (ws.getD ((rest / 4).toNat + 1) 0) (o ++ [32]) (hR _)
      simp only [List.length_append, List.length_cons, List.length_nil] at h2
      generalize g (ws.getD ((rest / 4).toNat + 1) 0) (o ++ [32]) = o3 at h2 ⊢
      by_cases h3 : 1000 ≤ o3.length
      · have : prS g ws f (ws.getD ((rest / 4).toNat + 2) 0) o3 = (ws.getD ((rest / 4).toNat + 2) 0, o3) := by
          cases f with
          | zero => rfl
          | succ f => rw [prS, if_neg (by omega)]
        rw [this]; show o3.length ≤ _; omega
      · have := pr_le ws hR hg f (ws.getD ((rest / 4).toNat + 2) 0) o3
        omega
    · show o.length ≤ _; omega
theorem shS_le {R : Int → Prop} (num sym rare : Int → List Int) (ws : List Int) (hR : ∀ i, R (ws.getD i 0)) {C : Nat} (hC : 10 ≤ C) (hl : ∀ w, R w → (leafT num sym rare w).length ≤ C) : ∀ f x o, R x → (shS num sym rare ws f x o).length ≤ max o.length 1000 + (C + 10 * f)
  | 0, x, o, _ => by rw [shS]; omega
  | f + 1, x, o, hx => by
    have ih := shS_le num sym rare ws hR hC hl f
    rw [shS]
    split
    · omega
    · rename_i hfull
      split
      · have := hl x hx
        rw [List.length_append]; omega
      · split
        · simp; omega
        · split
          · simp; omega
          · split
            · have := vec_le ws (x / 4).toNat hR ih (ws.getD (x / 4).toNat 0 / 4).toNat 0 (o ++ [35, 40])
              simp only [List.length_append, List.length_cons, List.length_nil] at this ⊢
              omega
            · have h1 := ih (ws.getD ((x / 4).toNat + 1) 0) (o ++ [40]) (hR _)
              simp only [List.length_append, List.length_cons, List.length_nil] at h1
              generalize shS num sym rare ws f (ws.getD ((x / 4).toNat + 1) 0) (o ++ [40]) = o1 at h1 ⊢
              have h2 : (prS (shS num sym rare ws f) ws 1001 (ws.getD ((x / 4).toNat + 2) 0) o1).2.length ≤ 1001 + (C + 10 * f) := by
                by_cases h3 : 1000 ≤ o1.length
                · rw [prS, if_neg (by omega)]; show o1.length ≤ _; omega
                · have := pr_le ws hR ih 1001 (ws.getD ((x / 4).toNat + 2) 0) o1
                  omega
              have h7 : R (prS (shS num sym rare ws f) ws 1001 (ws.getD ((x / 4).toNat + 2) 0) o1).1 := pr_R ws hR 1001 _ _ (hR _)
              generalize prS (shS num sym rare ws f) ws 1001 (ws.getD ((x / 4).toNat + 2) 0) o1 = q at h2 h7 ⊢
              rw [List.length_append]
              split
              · by_cases h4 : 1000 ≤ (q.2 ++ [32, 46, 32]).length
                · rw [shS_full num sym rare ws f q.1 _ h4]
                  simp; omega
                · have h3 := ih q.1 (q.2 ++ [32, 46, 32]) h7
                  simp only [List.length_append, List.length_cons, List.length_nil] at h3 h4 ⊢
                  omega
              · simp; omega
/-! ### all bytes are bytes -/
theorem rgk (l : List Int) (h : l.all (fun x => decide (0 ≤ x) && decide (x < 256)) = true) : Rg l := by
  intro x hx
  have := List.all_eq_true.1 h x hx
  simpa using this
theorem vec_rg {g : Int → List Int → List Int} (ws : List Int) (p : Nat) (hg : ∀ x o, Rg o → Rg (g x o)) : ∀ r i o, Rg o → Rg (vecS g ws p r i o)
  | 0, _, _, h => h
  | r + 1, i, o, h => by
    rw [vecS]
    split
    · exact h
    · refine vec_rg ws p hg r (i + 1) _ (hg _ _ ?_)
      split
      · exact h.app (rgk [32] (by decide))
      · exact h
theorem pr_rg {g : Int → List Int → List Int} (ws : List Int) (hg : ∀ x o, Rg o → Rg (g x o)) : ∀ f rest o, Rg o → Rg (prS g ws f rest o).2
  | 0, _, _, h => h
  | f + 1, rest, o, h => by
    rw [prS]
    split
    · exact pr_rg ws hg f _ _ (hg _ _ (h.app (rgk [32] (by decide))))
    · exact h
theorem shS_rg (num sym rare : Int → List Int) (ws : List Int) (hl : ∀ w, Rg (leafT num sym rare w)) : ∀ f x o, Rg o → Rg (shS num sym rare ws f x o)
  | 0, _, _, h => h
  | f + 1, x, o, h => by
    have ih := shS_rg num sym rare ws hl f
    rw [shS]
    split
    · exact h
    · split
      · exact h.app (hl _)
      · split
        · exact h.app (rgk _ (by decide))
        · split
          · exact h.app (rgk _ (by decide))
          · split
            · exact (vec_rg ws _ ih _ _ _ (h.app (rgk _ (by decide)))).app (rgk _ (by decide))
            · have h2 := pr_rg ws ih 1001 (ws.getD ((x / 4).toNat + 2) 0) _ (ih (ws.getD ((x / 4).toNat + 1) 0) _ (h.app (rgk [40] (by decide))))
              generalize prS (shS num sym rare ws f) ws 1001 (ws.getD ((x / 4).toNat + 2) 0) (shS num sym rare ws f (ws.getD ((x / 4).toNat + 1) 0) (o ++ [40])) = q at h2 ⊢
              refine Rg.app ?_ (rgk _ (by decide))
              split
              · exact ih _ _ (h2.app (rgk _ (by decide)))
              · exact h2
/-! ### the laws of append -/
theorem appS3_law (w : World) {ops : Array Oper} {rest : List Oper} {o : Oper} {a : Act} {Q : Exit → Act → World → Prop} (hgd : o.guard = none) (s x : Operand)
    (ho : o.op = .call { callee := .builtin .append, args := #[s, x], argTypes := #[24, 9] }) (B : Nat) (v : Value) (xs ys : List Int) (hs : a.eval s = v) (hown : Ow w B v xs) (str : ByteArray) (hx : a.eval x = .string str)
    (hy : nums str.data.toList = ys) (hlen : xs.length + str.size ≤ 1000000000) (hB : B ≤ w.heap.size)
    (h : ∀ v' w', Ow w' B v' (xs ++ ys) → Below B w w' → But w w' v → wpList Tryd.prog ops Q rest (a.put o.dst v') w') : wpList Tryd.prog ops Q (o :: rest) a w := by
  obtain ⟨i5, hi5, hz5, hs5, hb5⟩ := info5'
  refine Lib.wpList_append_own_string w hgd s x 24 9 ho B 5 i5 Tryd.underlying24 Tryd.underlying9 hi5 hz5 hs5 hb5 v xs.length (xs.map (.int .u8)) hs hown str hx (by unfold maxLen; omega) (by omega) hB ?_
  intro v' w' h1 h2 _
  refine h v' w' (Ow.app h1 rfl ?_ rfl ?_) ((Below.refl _ w).grown h2 hB (own_block_ge hown)) (fun k hk hne => h2.block k hk hne)
  · rw [← hy, nums_length, Array.length_toList]; rfl
  · rw [← hy]; simp [Lib.strCells, nums]
theorem app1s_law (w : World) {ops : Array Oper} {rest : List Oper} {o : Oper} {a : Act} {Q : Exit → Act → World → Prop} (hgd : o.guard = none) (s x : Operand)
    (ho : o.op = .call { callee := .builtin .append, args := #[s, x], argTypes := #[24, 24] }) (B : Nat) (v : Value) (xs : List Int) (y : Int) (h0 : 0 ≤ y) (h1 : y < 256) (hs : a.eval s = v) (hown : Ow w B v xs) (hx : a.eval x = .slice (some ⟨w.heap.size, 0, none⟩) 1 1)
    (hlen : xs.length ≤ 500000000) (hB : B ≤ w.heap.size)
    (h : ∀ v' w', Ow w' B v' (xs ++ [y]) → Below B w w' → But w w' v → wpList Tryd.prog ops Q rest (a.put o.dst v') w') : wpList Tryd.prog ops Q (o :: rest) a (w.alloc (.cells #[.int .u8 y] 5)) :=
  app_law _ hgd s x ho B v xs [y] hs (hown.below (below1 _ _)) w.heap.size 0 1 1 hx (By.lit w y h0 h1) (by omega) (by simp; omega) (fun v' w' k1 k2 k3 => h v' w' k1 (((below1 _ _).mono hB).trans k2) (fun k hk hne => (k3.block k (by simp; omega) hne).trans ((below1 w _).block k hk)))
/-- append(v, x...), x bytes that may be none. -/
theorem appN_law (w : World) {ops : Array Oper} {rest : List Oper} {o : Oper} {a : Act} {Q : Exit → Act → World → Prop} (hgd : o.guard = none) (s x : Operand)
    (ho : o.op = .call { callee := .builtin .append, args := #[s, x], argTypes := #[24, 24] }) (B : Nat) (v : Value) (xs ys : List Int) (hs : a.eval s = v) (hown : Ow w B v xs) (q : Option Addr) (m c : Nat) (hx : a.eval x = .slice q m c)
    (hy : By w q m c ys) (hlen : xs.length + m ≤ 1000000000) (hB : B ≤ w.heap.size)
    (h : ∀ v' w', Ow w' B v' (xs ++ ys) → Below B w w' → But w w' v → wpList Tryd.prog ops Q rest (a.put o.dst v') w') : wpList Tryd.prog ops Q (o :: rest) a w := by
  by_cases hm : m = 0
  · subst hm
    obtain rfl : ys = [] := List.length_eq_zero_iff.1 hy.len
    obtain ⟨i5, hi5, _, _, _⟩ := info5'
    obtain ⟨p0, k0, rfl, hk0⟩ := hown.len
    have hsrc : Src Tryd.prog i5.size 24 (.slice q 0 c) 0 [] w := by
      cases q with
      | none => exact Src.ofNil w Tryd.underlying24 c
      | some ad => exact Src.ofSlice w Tryd.underlying24 ad 0 c [] (by simp) (fun j u hu => by simp at hu) (fun u hu => by cases hu)
    have hr := run_append_nothing (P := Tryd.prog) w 24 24 o.type 5 i5 Tryd.underlying24 hi5 p0 xs.length k0 hk0 (.slice q 0 c) hsrc
    refine wpList_plain hgd fun _ hK => ?_
    unfold Oper.wp execOp
    simp only [ho, resolve, invoke, builtin, Sem.run_bind, Sem.run_pure, Result.andThen_ok, List.map_toArray, List.map_cons, List.map_nil, hs, hx, hr]
    exact hK _ _ (h _ w (by rw [List.append_nil]; exact hown) (Below.refl _ _) (fun _ _ _ => rfl))
  · obtain ⟨b', o', rfl, _⟩ := hy.cells (by omega)
    exact app2_law w hgd s x ho B v xs ys hs hown b' o' m c hx hy hlen hB h
/-- Only the row has turned. -/
structure Kp (B : Nat) (w w' : World) : Prop where
  below : Below B w w'
  kept : ∀ (k : Nat) (arr : Array Value) (t : TypeId), w.heap[k]? = some (.cells arr t) → t ≠ 5 → w'.heap[k]? = some (.cells arr t)
theorem Kp.refl (B : Nat) (w : World) : Kp B w w := ⟨Below.refl _ _, fun _ _ _ h _ => h⟩
theorem Kp.trans {B : Nat} {u v w : World} (h : Kp B u v) (k : Kp B v w) : Kp B u w := ⟨h.below.trans k.below, fun x arr t e h1 => k.kept x arr t (h.kept x arr t e h1) h1⟩
theorem Kp.of_below {B : Nat} {w w' : World} (h : Below w.heap.size w w') (hB : B ≤ w.heap.size) : Kp B w w' := ⟨h.mono hB, fun k _ _ e _ => (h.block k (Array.getElem?_eq_some_iff.1 e).1).trans e⟩
theorem Kp.app {B : Nat} {w w' : World} {v : Value} {xs : List Int} (ho : Ow w B v xs) (hb : Below B w w') (hbt : But w w' v) : Kp B w w' :=
  ⟨hb, fun k _ _ e ht => (hbt k (Array.getElem?_eq_some_iff.1 e).1 (own_ne ho e ht)).trans e⟩
/-- What l2show answers. -/
def SP (B : Nat) (zs : List Int) (w w' : World) (e : Ending) : Prop := ∃ q L d, e = .returned (.slice q L d) ∧ Hid (L = zs.length) ∧ Ow w' B (.slice q L d) zs ∧ Kp B w w'
theorem SP.of {B : Nat} {zs : List Int} {w w' : World} {v : Value} (h : Ow w' B v zs) (k : Kp B w w') : SP B zs w w' (.returned v) := by
  obtain ⟨p, c, rfl, _⟩ := h.len
  exact ⟨p, _, c, rfl, rfl, h, k⟩
end Go.Proofs.YtleeldjncobheaaDoor
