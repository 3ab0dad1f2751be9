import Derived.Test.YtpfodinoeoejcaaC4
namespace Go.Proofs.Ytpfodinoeoejcaa
open Go.RowKit Ch2
/-- A new place that is set stays. -/
theorem visit_keep {ws : List Int} {s : Cs} {p : Nat} (h : 0 ≤ s.mv p) (x : Int) : (visit ws s x).mv p = s.mv p := by
  unfold visit
  split
  · rename_i hc
    show (if p = (x / 4).toNat then (s.top : Int) else s.mv p) = s.mv p
    rw [if_neg (fun e => by rw [← e] at hc; omega)]
  · rfl
theorem visits_keep {ws : List Int} {p : Nat} : ∀ (xs : List Int) (s : Cs), 0 ≤ s.mv p → (visits ws s xs).mv p = s.mv p
  | [], _, _ => rfl
  | x :: xs, s, h => by
    have h1 := visit_keep (ws := ws) h x
    exact (visits_keep xs (visit ws s x) (by rw [h1]; exact h)).trans h1
theorem stage_keep {ws rs : List Int} {p k : Nat} (h : 0 ≤ (stage ws rs k).mv p) : ∀ d, (stage ws rs (k + d)).mv p = (stage ws rs k).mv p
  | 0 => rfl
  | d + 1 => by
    have ih := stage_keep h d
    rw [← Nat.add_assoc, stage]
    split
    · rw [visits_keep _ _ (by rw [ih]; exact h)]; exact ih
    · exact ih
/-- Behind its visit a word's object has its new place. -/
theorem visit_set {ws : List Int} {s : Cs} {x : Int} (h : x % 4 = 1) : 0 ≤ (visit ws s x).mv (x / 4).toNat := by
  unfold visit
  split
  · show 0 ≤ (if (x / 4).toNat = (x / 4).toNat then (s.top : Int) else _)
    rw [if_pos rfl]; omega
  · rename_i hc
    rcases Int.lt_or_le (s.mv (x / 4).toNat) 0 with h1 | h1
    · exact absurd ⟨h, h1⟩ hc
    · exact h1
/-- So what a word becomes at its visit is what it is in the end. -/
theorem mvd_stays {ws : List Int} {s s' : Cs} {x : Int} (hk : ∀ p, 0 ≤ (visit ws s x).mv p → s'.mv p = (visit ws s x).mv p) : mvd s'.mv x = mvd (visit ws s x).mv x := by
  unfold mvd
  by_cases h : x % 4 = 1
  · rw [if_pos h, if_pos h, hk _ (visit_set h)]
  · rw [if_neg h, if_neg h]
end Go.Proofs.Ytpfodinoeoejcaa
