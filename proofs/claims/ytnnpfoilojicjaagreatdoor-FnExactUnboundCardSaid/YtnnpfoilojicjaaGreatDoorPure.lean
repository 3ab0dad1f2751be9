/- Plain mathematics of chapter 1's data: no Go here. -/
import Derived.RowKit3
import Derived.Below
namespace Go.Proofs.YtnnpfoilojicjaaGreatDoor
namespace Ch1
structure Dt where
 kind : Int
 n : Int
 text : List Int
 count : Int
def dt0 : Dt := ⟨0, 0, [], 0⟩
def digB (c : Int) : Bool := decide (48 ≤ c) && decide (c ≤ 57)
def letB (c : Int) : Bool := (decide (97 ≤ c) && decide (c ≤ 122)) || (decide (65 ≤ c) && decide (c ≤ 90))
def marks : List Int := [33, 36, 37, 38, 42, 47, 58, 60, 61, 62, 63, 94, 95, 126, 43, 45]
def symB (c : Int) : Bool := letB c || digB c || marks.contains c
def unsigned (xs : List Int) : List Int := if xs.head? = some 45 then xs.tail else xs
def numB (xs : List Int) : Bool := (unsigned xs).all digB && decide (0 < (unsigned xs).length)
def symTextB (xs : List Int) : Bool := decide (1 ≤ xs.length) && decide (xs.length ≤ 100) && !digB (xs.getD 0 0) && !numB xs && xs.all symB
def smallB (v : Int) : Bool := decide (-2305843009213693952 ≤ v) && decide (v ≤ 2305843009213693951)
def goodB (d : Dt) : Bool :=
 if d.kind = 0 then smallB d.n && decide (d.text.length = 0) && decide (d.count = 0)
 else if d.kind = 1 then (decide (d.n = 0) || decide (d.n = 1)) && decide (d.text.length = 0) && decide (d.count = 0)
 else if d.kind = 2 then decide (d.n = 0) && symTextB d.text && decide (d.count = 0)
 else if d.kind = 3 then decide (d.n = 0) && decide (d.text.length = 0) && decide (0 ≤ d.count)
 else false
def skipN (f : List Dt → Option (List Dt)) : Nat → List Dt → Option (List Dt)
 | 0, r => some r
 | k + 1, r => match f r with
  | none => none
  | some r' => skipN f k r'
def skip : Nat → List Dt → Option (List Dt)
 | _, [] => none
 | 0, d :: r => if goodB d = true then (if d.kind = 3 then none else some r) else none
 | deep + 1, d :: r => if goodB d = true then (if d.kind = 3 then skipN (skip deep) d.count.toNat r else some r) else none
theorem skip_nil (k : Nat) : skip k [] = none := by cases k <;> rfl
theorem skip_bad (k : Nat) (d : Dt) (r : List Dt) (h : goodB d = false) : skip k (d :: r) = none := by cases k <;> simp [skip, h]
theorem skip_atom (k : Nat) (d : Dt) (r : List Dt) (h : goodB d = true) (h3 : d.kind ≠ 3) : skip k (d :: r) = some r := by cases k <;> simp [skip, h, h3]
theorem skip_deep (d : Dt) (r : List Dt) (h3 : d.kind = 3) : skip 0 (d :: r) = none := by simp [skip, h3]
theorem skip_list (k : Nat) (d : Dt) (r : List Dt) (h : goodB d = true) (h3 : d.kind = 3) : skip (k + 1) (d :: r) = skipN (skip k) d.count.toNat r := by simp [skip, h, h3]
theorem skipN_succ_right (f : List Dt → Option (List Dt)) (k : Nat) : ∀ r, skipN f (k + 1) r = (skipN f k r).bind f := by
 induction k with
 | zero => intro r; simp [skipN]; cases f r <;> rfl
 | succ k ih =>
  intro r
  rw [skipN]
  cases h : f r with
  | none => simp [skipN, h]
  | some r' => simp only [ih r']; simp [skipN, h]
theorem skipN_none_mono (f : List Dt → Option (List Dt)) (k j : Nat) (r : List Dt) (h : skipN f k r = none) : skipN f (k + j) r = none := by
 induction j with
 | zero => exact h
 | succ j ih => rw [show k + (j + 1) = (k + j) + 1 from rfl, skipN_succ_right, ih]; rfl
def Eats (f : List Dt → Option (List Dt)) : Prop := ∀ r r', f r = some r' → ∃ k, 1 ≤ k ∧ k ≤ r.length ∧ r' = r.drop k
theorem skipN_eats {f : List Dt → Option (List Dt)} (hf : Eats f) : ∀ (k : Nat) (r r' : List Dt), skipN f k r = some r' → ∃ j, k ≤ j ∧ j ≤ r.length ∧ r' = r.drop j := by
 intro k
 induction k with
 | zero => intro r r' h; simp [skipN] at h; exact ⟨0, Nat.le_refl _, Nat.zero_le _, by simp [h]⟩
 | succ k ih =>
  intro r r' h
  rw [skipN] at h
  cases h1 : f r with
  | none => simp [h1] at h
  | some r1 =>
   simp [h1] at h
   obtain ⟨a, ha1, ha2, rfl⟩ := hf _ _ h1
   obtain ⟨j, hj1, hj2, rfl⟩ := ih _ _ h
   refine ⟨a + j, by omega, ?_, by rw [List.drop_drop]⟩
   rw [List.length_drop] at hj2; omega
theorem skip_eats : ∀ k, Eats (skip k) := by
 intro k
 induction k with
 | zero =>
  intro r r' h
  cases r with
  | nil => simp [skip] at h
  | cons d r =>
   simp only [skip] at h
   split at h
   ·split at h
    ·cases h
    ·cases h; exact ⟨1, Nat.le_refl _, by simp, rfl⟩
   ·cases h
 | succ k ih =>
  intro r r' h
  cases r with
  | nil => simp [skip] at h
  | cons d r =>
   simp only [skip] at h
   split at h
   ·split at h
    ·obtain ⟨j, _, hj2, rfl⟩ := skipN_eats ih _ _ _ h
     exact ⟨j + 1, by omega, by simpa using hj2, by simp⟩
    ·cases h; exact ⟨1, Nat.le_refl _, by simp, rfl⟩
   ·cases h
theorem skipN_many {f : List Dt → Option (List Dt)} (hf : Eats f) (k : Nat) (r : List Dt) (h : r.length < k) : skipN f k r = none := by
 cases e : skipN f k r with
 | none => rfl
 | some r' => obtain ⟨j, h1, h2, _⟩ := skipN_eats hf _ _ _ e; omega
def rowB : Nat → List Dt → Bool
 | _, [] => true
 | 0, _ :: _ => false
 | k + 1, d :: r => match skip 100 (d :: r) with
  | none => false
  | some r' => rowB k r'
theorem rowB_fuel : ∀ (a b : Nat) (r : List Dt), r.length ≤ a → r.length ≤ b → rowB a r = rowB b r := by
 intro a
 induction a with
 | zero => intro b r h _; cases r with | nil => cases b <;> rfl | cons d r => simp at h
 | succ a ih =>
  intro b r h1 h2
  cases r with
  | nil => cases b <;> rfl
  | cons d r =>
   cases b with
   | zero => simp at h2
   | succ b =>
    simp only [rowB]
    cases e : skip 100 (d :: r) with
    | none => rfl
    | some r' =>
     obtain ⟨k, hk1, hk2, rfl⟩ := skip_eats 100 _ _ e
     have hl : ((d :: r).drop k).length = (d :: r).length - k := List.length_drop ..
     exact ih b _ (by omega) (by omega)
def rowOf (r : List Dt) : Bool := rowB r.length r
theorem rowOf_none (r : List Dt) (h0 : r ≠ []) (h : skip 100 r = none) : rowOf r = false := by
 cases r with
 | nil => exact absurd rfl h0
 | cons d r => simp [rowOf, rowB, h]
theorem rowOf_some (r r' : List Dt) (h : skip 100 r = some r') : rowOf r = rowOf r' := by
 cases r with
 | nil => simp [skip_nil] at h
 | cons d r =>
  obtain ⟨k, hk1, hk2, e⟩ := skip_eats 100 _ _ h
  have hl : r'.length = (d :: r).length - k := by rw [e]; exact List.length_drop ..
  show rowB (r.length + 1) (d :: r) = rowOf r'
  simp only [rowB, h]
  exact rowB_fuel _ _ _ (by simp at hl hk2; omega) (Nat.le_refl _)
def validB (ds : List Dt) : Bool := decide (ds.length ≤ 3000) && rowOf ds
def endZ (ds : List Dt) (k i : Nat) : Int := match skip k (ds.drop i) with
 | none => -1
 | some r => ds.length - r.length
end Ch1
end Go.Proofs.YtnnpfoilojicjaaGreatDoor
