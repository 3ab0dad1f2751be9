/- Plain mathematics of shown words: no Go here. -/
import Derived.RowKit3
namespace Go.Proofs.YtleeldjncobheaaDoor
namespace Ch2s
/-- What the specification shows: 'g' shows a word behind a text; the elements of a vector from i on. -/
def vecS (g : Int → List Int → List Int) (ws : List Int) (p : Nat) : Nat → Nat → List Int → List Int
  | 0, _, out => out
  | r + 1, i, out => if 1000 ≤ out.length then out else vecS g ws p r (i + 1) (g (ws.getD (p + 1 + i) 0) (if 0 < i then out ++ [32] else out))
/-- Whether a word points to a pair. -/
def isPr (ws : List Int) (x : Int) : Bool := decide (x % 4 = 1) && decide (ws.getD (x / 4).toNat 0 % 4 = 0)
/-- The pairs behind a pair: where they end, and the text. -/
def prS (g : Int → List Int → List Int) (ws : List Int) : Nat → Int → List Int → Int × List Int
  | 0, rest, out => (rest, out)
  | f + 1, rest, out => if out.length < 1000 ∧ isPr ws rest = true then prS g ws f (ws.getD ((rest / 4).toNat + 2) 0) (g (ws.getD ((rest / 4).toNat + 1) 0) (out ++ [32])) else (rest, out)
/-- A word that is no object. -/
def leafT (num sym rare : Int → List Int) (w : Int) : List Int := if w % 4 = 0 then num (w / 4) else if w % 4 = 2 then sym (w / 4) else rare (w / 4)
def shS (num sym rare : Int → List Int) (ws : List Int) : Nat → Int → List Int → List Int
  | 0, _, out => out
  | f + 1, w, out =>
    if 1000 ≤ out.length then out
    else if w % 4 ≠ 1 then out ++ leafT num sym rare w
    else if ws.getD (w / 4).toNat 0 % 4 = 2 then out ++ [35, 112, 114, 111, 99]
    else if ws.getD (w / 4).toNat 0 % 4 = 3 then out ++ [35, 98, 111, 120]
    else if ws.getD (w / 4).toNat 0 % 4 = 1 then vecS (shS num sym rare ws f) ws (w / 4).toNat (ws.getD (w / 4).toNat 0 / 4).toNat 0 (out ++ [35, 40]) ++ [41]
    else
      (if (prS (shS num sym rare ws f) ws 1001 (ws.getD ((w / 4).toNat + 2) 0) (shS num sym rare ws f (ws.getD ((w / 4).toNat + 1) 0) (out ++ [40]))).1 ≠ 3 then shS num sym rare ws f (prS (shS num sym rare ws f) ws 1001 (ws.getD ((w / 4).toNat + 2) 0) (shS num sym rare ws f (ws.getD ((w / 4).toNat + 1) 0) (out ++ [40]))).1 ((prS (shS num sym rare ws f) ws 1001 (ws.getD ((w / 4).toNat + 2) 0) (shS num sym rare ws f (ws.getD ((w / 4).toNat + 1) 0) (out ++ [40]))).2 ++ [32, 46, 32]) else (prS (shS num sym rare ws f) ws 1001 (ws.getD ((w / 4).toNat + 2) 0) (shS num sym rare ws f (ws.getD ((w / 4).toNat + 1) 0) (out ++ [40]))).2) ++ [41]
/-- As much of a text as there is room for. -/
def putT (t out : List Int) : List Int := out ++ t.take (1000 - out.length)
def vecI (g : Int → List Int → List Int) (ws : List Int) (p : Nat) : Nat → Nat → List Int → List Int
  | 0, _, out => out
  | r + 1, i, out => vecI g ws p r (i + 1) (g (ws.getD (p + 1 + i) 0) (if 0 < i then putT [32] out else out))
def prI (g : Int → List Int → List Int) (ws : List Int) : Nat → Int → List Int → Int × List Int
  | 0, rest, out => (rest, out)
  | f + 1, rest, out => if out.length ≠ 1000 ∧ isPr ws rest = true then prI g ws f (ws.getD ((rest / 4).toNat + 2) 0) (g (ws.getD ((rest / 4).toNat + 1) 0) (putT [32] out)) else (rest, out)
def shI (num sym rare : Int → List Int) (ws : List Int) : Nat → Int → List Int → List Int
  | 0, _, out => out
  | f + 1, w, out =>
    if out.length = 1000 then out
    else if w % 4 ≠ 1 then putT (leafT num sym rare w) out
    else if ws.getD (w / 4).toNat 0 % 4 = 2 then putT [35, 112, 114, 111, 99] out
    else if ws.getD (w / 4).toNat 0 % 4 = 3 then putT [35, 98, 111, 120] out
    else if ws.getD (w / 4).toNat 0 % 4 = 1 then putT [41] (vecI (shI num sym rare ws f) ws (w / 4).toNat (ws.getD (w / 4).toNat 0 / 4).toNat 0 (putT [35, 40] out))
    else
      putT [41] (if (prI (shI num sym rare ws f) ws 1001 (ws.getD ((w / 4).toNat + 2) 0) (shI num sym rare ws f (ws.getD ((w / 4).toNat + 1) 0) (putT [40] out))).1 ≠ 3 then shI num sym rare ws f (prI (shI num sym rare ws f) ws 1001 (ws.getD ((w / 4).toNat + 2) 0) (shI num sym rare ws f (ws.getD ((w / 4).toNat + 1) 0) (putT [40] out))).1 (putT [32, 46, 32] (prI (shI num sym rare ws f) ws 1001 (ws.getD ((w / 4).toNat + 2) 0) (shI num sym rare ws f (ws.getD ((w / 4).toNat + 1) 0) (putT [40] out))).2) else (prI (shI num sym rare ws f) ws 1001 (ws.getD ((w / 4).toNat + 2) 0) (shI num sym rare ws f (ws.getD ((w / 4).toNat + 1) 0) (putT [40] out))).2)
theorem putT_take (t o : List Int) : putT t (o.take 1000) = (o ++ t).take 1000 := by
  unfold putT
  rw [List.take_append, List.length_take]
  by_cases h : o.length ≤ 1000
  · rw [Nat.min_eq_right h]
  · rw [Nat.min_eq_left (by omega), show 1000 - 1000 = 0 from rfl, show 1000 - o.length = 0 by omega]
/-- One shower follows the other. -/
def Fol (b : Nat) (g' g : Int → List Int → List Int) : Prop := ∀ w o, b ≤ o.length → g' w (o.take 1000) = (g w o).take 1000
def Grw (g : Int → List Int → List Int) : Prop := ∀ w o, o.length ≤ (g w o).length
theorem vec_fol {b : Nat} {g' g : Int → List Int → List Int} (ws : List Int) (p : Nat) (hg : Fol b g' g) (hw : Grw g) (hs : ∀ w o, 1000 ≤ o.length → g w o = o) :
    ∀ r i o, b ≤ o.length → vecI g' ws p r i (o.take 1000) = (vecS g ws p r i o).take 1000
  | 0, _, _, _ => rfl
  | r + 1, i, o, hb => by
    have ih := vec_fol ws p hg hw hs r (i + 1)
    have key : ∀ o2 : List Int, o.length ≤ o2.length → g' (ws.getD (p + 1 + i) 0) (o2.take 1000) = (g (ws.getD (p + 1 + i) 0) o2).take 1000 := fun o2 h => hg _ _ (by omega)
    have e : (if 0 < i then putT [32] (o.take 1000) else o.take 1000) = (if 0 < i then o ++ [32] else o).take 1000 := by
      split
      · exact putT_take _ _
      · rfl
    have hl : o.length ≤ (if 0 < i then o ++ [32] else o).length := by split <;> simp
    rw [vecI, e, key _ hl, ih _ (by have := hw (ws.getD (p + 1 + i) 0) (if 0 < i then o ++ [32] else o); omega)]
    by_cases hf : 1000 ≤ o.length
    · rw [vecS, if_pos hf]
      have hfull : ∀ r i o, 1000 ≤ o.length → vecS g ws p r i o = o := by
        intro r
        cases r with
        | zero => intro i o _; rfl
        | succ r => intro i o h; rw [vecS, if_pos h]
      have h2 : 1000 ≤ (if 0 < i then o ++ [32] else o).length := by omega
      rw [hs _ _ h2, hfull _ _ _ h2]
      split
      · rw [List.take_append, show 1000 - o.length = 0 by omega]; simp
      · rfl
    · rw [vecS, if_neg hf]
theorem pr_fol {b : Nat} {g' g : Int → List Int → List Int} (ws : List Int) (hg : Fol b g' g) (hw : Grw g) :
    ∀ f rest o, b ≤ o.length → (prI g' ws f rest (o.take 1000)).1 = (prS g ws f rest o).1 ∧ (prI g' ws f rest (o.take 1000)).2 = (prS g ws f rest o).2.take 1000 ∧ b ≤ (prS g ws f rest o).2.length
  | 0, _, _, hb => ⟨rfl, rfl, hb⟩
  | f + 1, rest, o, hb => by
    rw [prI, prS]
    have hc : ((o.take 1000).length ≠ 1000 ∧ isPr ws rest = true) ↔ (o.length < 1000 ∧ isPr ws rest = true) := by
      rw [List.length_take]; constructor <;> (rintro ⟨h1, h2⟩; exact ⟨by omega, h2⟩)
    by_cases h : o.length < 1000 ∧ isPr ws rest = true
    · rw [if_pos h, if_pos (hc.2 h), putT_take, hg _ _ (by simp; omega)]
      exact pr_fol ws hg hw f _ _ (by have := hw (ws.getD ((rest / 4).toNat + 1) 0) (o ++ [32]); simp only [List.length_append, List.length_cons, List.length_nil] at this; omega)
    · rw [if_neg h, if_neg (fun h2 => h (hc.1 h2))]
      exact ⟨rfl, rfl, hb⟩
theorem vec_grw {g : Int → List Int → List Int} (ws : List Int) (p : Nat) (hw : Grw g) : ∀ r i o, o.length ≤ (vecS g ws p r i o).length
  | 0, _, _ => Nat.le_refl _
  | r + 1, i, o => by
    rw [vecS]
    split
    · exact Nat.le_refl _
    · have h1 := vec_grw ws p hw r (i + 1) (g (ws.getD (p + 1 + i) 0) (if 0 < i then o ++ [32] else o))
      have h2 := hw (ws.getD (p + 1 + i) 0) (if 0 < i then o ++ [32] else o)
      have h3 : o.length ≤ (if 0 < i then o ++ [32] else o).length := by split <;> simp
      omega
theorem pr_grw {g : Int → List Int → List Int} (ws : List Int) (hw : Grw g) : ∀ f rest o, o.length ≤ (prS g ws f rest o).2.length
  | 0, _, _ => Nat.le_refl _
  | f + 1, rest, o => by
    rw [prS]
    split
    · have h1 := pr_grw ws hw f (ws.getD ((rest / 4).toNat + 2) 0) (g (ws.getD ((rest / 4).toNat + 1) 0) (o ++ [32]))
      have h2 := hw (ws.getD ((rest / 4).toNat + 1) 0) (o ++ [32])
      simp only [List.length_append, List.length_cons, List.length_nil] at h2
      omega
    · exact Nat.le_refl _
section
variable (num sym rare : Int → List Int) (ws : List Int)
theorem shS_grw : ∀ f, Grw (shS num sym rare ws f)
  | 0 => fun _ _ => Nat.le_refl _
  | f + 1 => fun w o => by
    have ih := shS_grw f
    rw [shS]
    split
    · exact Nat.le_refl _
    · split
      · simp
      · split
        · simp
        · split
          · simp
          · split
            · have := vec_grw ws (w / 4).toNat ih (ws.getD (w / 4).toNat 0 / 4).toNat 0 (o ++ [35, 40])
              simp only [List.length_append, List.length_cons, List.length_nil] at this ⊢
              omega
            · have h1 := ih (ws.getD ((w / 4).toNat + 1) 0) (o ++ [40])
              have h2 := pr_grw ws ih 1001 (ws.getD ((w / 4).toNat + 2) 0) (shS num sym rare ws f (ws.getD ((w / 4).toNat + 1) 0) (o ++ [40]))
              generalize prS (shS num sym rare ws f) ws 1001 (ws.getD ((w / 4).toNat + 2) 0) (shS num sym rare ws f (ws.getD ((w / 4).toNat + 1) 0) (o ++ [40])) = pr at h2 ⊢
              rw [List.length_append]
              split
              · have h3 := ih pr.1 (pr.2 ++ [32, 46, 32])
                simp only [List.length_append, List.length_cons, List.length_nil] at h3 h1 ⊢
                omega
              · simp only [List.length_append, List.length_cons, List.length_nil] at h1 ⊢
                omega
theorem shS_full (f : Nat) (w : Int) (o : List Int) (h : 1000 ≤ o.length) : shS num sym rare ws f w o = o := by
  cases f with
  | zero => rfl
  | succ f => rw [shS, if_pos h]
/-- The program's text is the specification's, cut. -/
theorem sh_fol : ∀ f, Fol (1001 - f) (shI num sym rare ws f) (shS num sym rare ws f)
  | 0 => fun w o hb => rfl
  | f + 1 => fun w o hb => by
    have ih := sh_fol f
    have hw := shS_grw num sym rare ws f
    rw [shI, shS]
    by_cases hf : 1000 ≤ o.length
    · rw [if_pos hf, if_pos (by rw [List.length_take]; omega)]
    · rw [if_neg hf, if_neg (by rw [List.length_take]; omega)]
      split
      · exact putT_take _ _
      · split
        · exact putT_take _ _
        · split
          · exact putT_take _ _
          · split
            · rw [putT_take, vec_fol ws (w / 4).toNat ih hw (fun w o h => shS_full num sym rare ws f w o h) _ _ _ (by simp; omega), putT_take]
            · have h1 : shI num sym rare ws f (ws.getD ((w / 4).toNat + 1) 0) (putT [40] (o.take 1000)) = (shS num sym rare ws f (ws.getD ((w / 4).toNat + 1) 0) (o ++ [40])).take 1000 := by
                rw [putT_take]; exact ih _ _ (by simp; omega)
              have h2 := pr_fol ws ih hw 1001 (ws.getD ((w / 4).toNat + 2) 0) (shS num sym rare ws f (ws.getD ((w / 4).toNat + 1) 0) (o ++ [40])) (by have := hw (ws.getD ((w / 4).toNat + 1) 0) (o ++ [40]); simp only [List.length_append, List.length_cons, List.length_nil] at this; omega)
              rw [h1]
              generalize prI (shI num sym rare ws f) ws 1001 (ws.getD ((w / 4).toNat + 2) 0) ((shS num sym rare ws f (ws.getD ((w / 4).toNat + 1) 0) (o ++ [40])).take 1000) = qi at h2 ⊢
              generalize prS (shS num sym rare ws f) ws 1001 (ws.getD ((w / 4).toNat + 2) 0) (shS num sym rare ws f (ws.getD ((w / 4).toNat + 1) 0) (o ++ [40])) = qs at h2 ⊢
              obtain ⟨e1, e2, e3⟩ := h2
              rw [e1, e2]
              split
              · rw [putT_take, ih _ _ (by simp; omega), putT_take]
              · rw [putT_take]
end
end Ch2s
end Go.Proofs.YtleeldjncobheaaDoor
