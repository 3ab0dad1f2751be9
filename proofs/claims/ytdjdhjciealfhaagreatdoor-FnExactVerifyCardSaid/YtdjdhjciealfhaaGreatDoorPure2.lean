/- Plain mathematics of chapter 1's texts: no Go here. -/
import Derived.Test.YtdjdhjciealfhaaGreatDoorPure
import Derived.Lib.ItoaLen
namespace Go.Proofs.YtdjdhjciealfhaaGreatDoor
namespace Ch1
def nums (l : List UInt8) : List Int := l.map fun b => (b.toNat : Int)
def itoaZ (n : Int) : List Int := nums (Lib.itoa n)
def boolT (n : Int) : List Int := if n = 1 then [35, 116] else [35, 102]
/-- The texts of k data one behind another, a space between. -/
def elems (f : List Dt → Option (List Dt)) (g : List Dt → List Int) : Nat → List Dt → List Int
  | 0, _ => []
  | k + 1, r => elems f g k r ++ ((if k = 0 then [] else [32]) ++ g ((skipN f k r).getD []))
def txt : Nat → List Dt → List Int
  | _, [] => []
  | 0, d :: _ => if d.kind = 0 then itoaZ d.n else if d.kind = 1 then boolT d.n else d.text
  | k + 1, d :: r => if d.kind = 0 then itoaZ d.n else if d.kind = 1 then boolT d.n else if d.kind = 2 then d.text else 40 :: (elems (skip k) (txt k) d.count.toNat r ++ [41])
theorem txt_int (k : Nat) (d : Dt) (r : List Dt) (h : d.kind = 0) : txt k (d :: r) = itoaZ d.n := by cases k <;> simp [txt, h]
theorem txt_bool (k : Nat) (d : Dt) (r : List Dt) (h : d.kind = 1) : txt k (d :: r) = boolT d.n := by cases k <;> simp [txt, h]
theorem txt_sym (k : Nat) (d : Dt) (r : List Dt) (h : d.kind = 2) : txt k (d :: r) = d.text := by cases k <;> simp [txt, h]
theorem txt_list (k : Nat) (d : Dt) (r : List Dt) (h : d.kind = 3) : txt (k + 1) (d :: r) = 40 :: (elems (skip k) (txt k) d.count.toNat r ++ [41]) := by simp [txt, h]
theorem elems_succ (f : List Dt → Option (List Dt)) (g : List Dt → List Int) (k : Nat) (r q : List Dt) (h : skipN f k r = some q) : elems f g (k + 1) r = elems f g k r ++ ((if k = 0 then [] else [32]) ++ g q) := by
  simp [elems, h]
/-- A datum that is good is of one of the four kinds. -/
theorem good_kinds {d : Dt} (h : goodB d = true) : d.kind = 0 ∨ d.kind = 1 ∨ d.kind = 2 ∨ d.kind = 3 := by
  unfold goodB at h
  by_cases h0 : d.kind = 0
  · exact Or.inl h0
  by_cases h1 : d.kind = 1
  · exact Or.inr (Or.inl h1)
  by_cases h2 : d.kind = 2
  · exact Or.inr (Or.inr (Or.inl h2))
  by_cases h3 : d.kind = 3
  · exact Or.inr (Or.inr (Or.inr h3))
  simp [h0, h1, h2, h3] at h
theorem good_small {d : Dt} (h : goodB d = true) (hk : d.kind = 0) : -2305843009213693952 ≤ d.n ∧ d.n ≤ 2305843009213693951 := by
  simp [goodB, hk, smallB] at h; exact h.1.1
theorem good_bit {d : Dt} (h : goodB d = true) (hk : d.kind = 1) : d.n = 0 ∨ d.n = 1 := by
  simp [goodB, hk] at h; exact h.1.1
theorem good_text {d : Dt} (h : goodB d = true) (hk : d.kind = 2) : 1 ≤ d.text.length ∧ d.text.length ≤ 100 := by
  simp [goodB, hk, symTextB] at h; exact ⟨by omega, by omega⟩
theorem good_nonneg {d : Dt} (h : goodB d = true) : 0 ≤ d.count := by
  rcases good_kinds h with hk | hk | hk | hk <;> simp [goodB, hk] at h <;> omega
/-- What a skip says of the first datum. -/
theorem skip_some {k : Nat} {l r : List Dt} (h : skip k l = some r) : ∃ d q, l = d :: q ∧ goodB d = true ∧ ((d.kind ≠ 3 ∧ r = q) ∨ ∃ k', k = k' + 1 ∧ d.kind = 3 ∧ skipN (skip k') d.count.toNat q = some r) := by
  cases l with
  | nil => simp [skip_nil] at h
  | cons d q =>
    cases hg : goodB d with
    | false => simp [skip_bad k d q hg] at h
    | true =>
      refine ⟨d, q, rfl, hg, ?_⟩
      by_cases hk : d.kind = 3
      · cases k with
        | zero => simp [skip_deep d q hk] at h
        | succ k' => rw [skip_list k' d q hg hk] at h; exact Or.inr ⟨k', rfl, hk, h⟩
      · rw [skip_atom k d q hg hk] at h; exact Or.inl ⟨hk, by simpa using h.symm⟩
theorem skipN_succ_some {f : List Dt → Option (List Dt)} {c : Nat} {l r : List Dt} (h : skipN f (c + 1) l = some r) : ∃ q, skipN f c l = some q ∧ f q = some r := by
  rw [skipN_succ_right] at h
  cases e : skipN f c l with
  | none => simp [e] at h
  | some q => rw [e] at h; exact ⟨q, rfl, h⟩
theorem nums_length (l : List UInt8) : (nums l).length = l.length := by simp [nums]
theorem boolT_length (n : Int) : (boolT n).length = 2 := by unfold boolT; split <;> rfl
theorem elems_bound {f : List Dt → Option (List Dt)} {g : List Dt → List Int} (hg : ∀ l r, f l = some r → (g l).length + 1 + 130 * r.length ≤ 130 * l.length) :
    ∀ (c : Nat) (l r : List Dt), skipN f c l = some r → (elems f g c l).length + 130 * r.length ≤ 130 * l.length := by
  intro c
  induction c with
  | zero => intro l r h; simp [skipN] at h; subst h; simp [elems]
  | succ c ih =>
    intro l r h
    obtain ⟨q, h1, h2⟩ := skipN_succ_some h
    have i1 := ih l q h1
    have i2 := hg q r h2
    rw [elems_succ f g c l q h1, List.length_append, List.length_append]
    have : (if c = 0 then ([] : List Int) else [32]).length ≤ 1 := by split <;> simp
    omega
theorem txt_bound : ∀ (k : Nat) (l r : List Dt), skip k l = some r → (txt k l).length + 1 + 130 * r.length ≤ 130 * l.length := by
  intro k
  induction k with
  | zero =>
    intro l r h
    obtain ⟨d, q, rfl, hg, ⟨hk, rfl⟩ | ⟨k', e, _⟩⟩ := skip_some h
    · rcases good_kinds hg with h0 | h0 | h0 | h0
      · have hs := good_small hg h0
        rw [txt_int _ _ _ h0, itoaZ, nums_length]
        have := Lib.itoa_length_le d.n (by omega) (by omega)
        simp; omega
      · rw [txt_bool _ _ _ h0, boolT_length]; simp; omega
      · have := good_text hg h0
        rw [txt_sym _ _ _ h0]; simp; omega
      · exact absurd h0 hk
    · omega
  | succ k ih =>
    intro l r h
    obtain ⟨d, q, rfl, hg, ⟨hk, rfl⟩ | ⟨k', e, hk, hs⟩⟩ := skip_some h
    · rcases good_kinds hg with h0 | h0 | h0 | h0
      · have hs := good_small hg h0
        rw [txt_int _ _ _ h0, itoaZ, nums_length]
        have := Lib.itoa_length_le d.n (by omega) (by omega)
        simp; omega
      · rw [txt_bool _ _ _ h0, boolT_length]; simp; omega
      · have := good_text hg h0
        rw [txt_sym _ _ _ h0]; simp; omega
      · exact absurd h0 hk
    · obtain rfl : k = k' := by omega
      have := elems_bound ih _ _ _ hs
      rw [txt_list _ _ _ hk]
      simp; omega

/-! ### the row -/
def rowX : Nat → List Dt → List Int
  | _, [] => []
  | 0, _ :: _ => []
  | n + 1, d :: r => match skip 100 (d :: r) with
    | none => []
    | some r' => txt 100 (d :: r) ++ 10 :: rowX n r'
theorem rowX_fuel : ∀ (a b : Nat) (r : List Dt), r.length ≤ a → r.length ≤ b → rowX a r = rowX b r := by
  intro a
  induction a with
  | zero => intro b r h _; cases r with | nil => cases b <;> rfl | cons d r => simp at h
  | succ a ih =>
    intro b r h1 h2
    cases r with
    | nil => cases b <;> rfl
    | cons d r =>
      cases b with
      | zero => simp at h2
      | succ b =>
        simp only [rowX]
        cases e : skip 100 (d :: r) with
        | none => rfl
        | some r' =>
          obtain ⟨k, hk1, hk2, rfl⟩ := skip_eats 100 _ _ e
          have hl : ((d :: r).drop k).length = (d :: r).length - k := List.length_drop ..
          simp only
          rw [ih b _ (by omega) (by omega)]
def rowT (r : List Dt) : List Int := rowX r.length r
theorem rowT_nil : rowT [] = [] := rfl
theorem rowT_some (r r' : List Dt) (h : skip 100 r = some r') : rowT r = txt 100 r ++ 10 :: rowT r' := by
  cases r with
  | nil => simp [skip_nil] at h
  | cons d r =>
    obtain ⟨k, hk1, hk2, e⟩ := skip_eats 100 _ _ h
    have hl : r'.length = (d :: r).length - k := by rw [e]; exact List.length_drop ..
    show rowX (r.length + 1) (d :: r) = _
    simp only [rowX, h]
    rw [rowX_fuel r.length r'.length r' (by simp at hl hk2; omega) (Nat.le_refl _)]
    rfl
theorem rowOf_next (l : List Dt) (h : rowOf l = true) (h0 : l ≠ []) : ∃ r, skip 100 l = some r ∧ rowOf r = true := by
  cases e : skip 100 l with
  | none => rw [rowOf_none l h0 e] at h; cases h
  | some r => exact ⟨r, rfl, by rw [← rowOf_some l r e]; exact h⟩

/-! ### counting what is open -/
def opn : Nat → List Dt → Int
  | 0, _ => 0
  | m + 1, l => opn m l + ((l.getD m dt0).count - 1)
theorem drop_getD (l : List Dt) (a m : Nat) : (l.drop a).getD m dt0 = l.getD (a + m) dt0 := by simp [List.getD]
theorem opn_add (a : Nat) : ∀ (b : Nat) (l : List Dt), opn (a + b) l = opn a l + opn b (l.drop a) := by
  intro b
  induction b with
  | zero => intro l; simp [opn]
  | succ b ih => intro l; rw [← Nat.add_assoc, opn, ih l, opn, drop_getD]; omega
theorem dyckN {f : List Dt → Option (List Dt)} (hf : ∀ l r, f l = some r → ∃ m, 1 ≤ m ∧ m ≤ l.length ∧ r = l.drop m ∧ opn m l = -1 ∧ (∀ j, j < m → 0 ≤ opn j l ∧ 0 ≤ (l.getD j dt0).count)) :
    ∀ (c : Nat) (l r : List Dt), skipN f c l = some r → ∃ m, m ≤ l.length ∧ r = l.drop m ∧ opn m l = -c ∧ (∀ j, j < m → -(c : Int) < opn j l ∧ 0 ≤ (l.getD j dt0).count) := by
  intro c
  induction c with
  | zero => intro l r h; simp [skipN] at h; exact ⟨0, Nat.zero_le _, by simp [h], rfl, fun j hj => absurd hj (Nat.not_lt_zero j)⟩
  | succ c ih =>
    intro l r h
    obtain ⟨q, h1, h2⟩ := skipN_succ_some h
    obtain ⟨a, ha, rfl, hoa, hja⟩ := ih l q h1
    obtain ⟨b, hb1, hb2, rfl, hob, hjb⟩ := hf _ _ h2
    rw [List.length_drop] at hb2
    refine ⟨a + b, by omega, by rw [List.drop_drop], by rw [opn_add, hoa, hob]; omega, fun j hj => ?_⟩
    by_cases e : j < a
    · have := hja j e; exact ⟨by omega, this.2⟩
    · obtain ⟨t, rfl⟩ : ∃ t, j = a + t := ⟨j - a, by omega⟩
      have := hjb t (by omega)
      rw [drop_getD] at this
      rw [opn_add, hoa]
      exact ⟨by omega, this.2⟩
theorem opn_cons (d : Dt) (q : List Dt) (m : Nat) : opn (m + 1) (d :: q) = d.count - 1 + opn m q := by
  rw [Nat.add_comm, opn_add]; simp [opn]
theorem dyck : ∀ (k : Nat) (l r : List Dt), skip k l = some r → ∃ m, 1 ≤ m ∧ m ≤ l.length ∧ r = l.drop m ∧ opn m l = -1 ∧ (∀ j, j < m → 0 ≤ opn j l ∧ 0 ≤ (l.getD j dt0).count) := by
  intro k
  induction k with
  | zero =>
    intro l r h
    obtain ⟨d, q, rfl, hg, ⟨hk, rfl⟩ | ⟨k', e, _⟩⟩ := skip_some h
    · have hc : d.count = 0 := by
        rcases good_kinds hg with h0 | h0 | h0 | h0 <;> simp [goodB, h0] at hg <;> first | omega | exact absurd h0 hk
      refine ⟨1, Nat.le_refl _, by simp, rfl, by simp [opn, hc], fun j hj => ?_⟩
      obtain rfl : j = 0 := by omega
      simp [opn, hc]
    · omega
  | succ k ih =>
    intro l r h
    obtain ⟨d, q, rfl, hg, ⟨hk, rfl⟩ | ⟨k', e, hk, hs⟩⟩ := skip_some h
    · have hc : d.count = 0 := by
        rcases good_kinds hg with h0 | h0 | h0 | h0 <;> simp [goodB, h0] at hg <;> first | omega | exact absurd h0 hk
      refine ⟨1, Nat.le_refl _, by simp, rfl, by simp [opn, hc], fun j hj => ?_⟩
      obtain rfl : j = 0 := by omega
      simp [opn, hc]
    · obtain rfl : k = k' := by omega
      have hn := good_nonneg hg
      obtain ⟨m, hm, rfl, ho, hj⟩ := dyckN ih _ _ _ hs
      refine ⟨m + 1, by omega, by simpa using hm, by simp, by rw [opn_cons, ho]; omega, fun j hjm => ?_⟩
      cases j with
      | zero => simp [opn]; exact hn
      | succ j =>
        have := hj j (by omega)
        rw [opn_cons]
        exact ⟨by omega, by simpa [List.getD] using this.2⟩
/-- What is open is never more than what is still to come. -/
theorem opn_le (l : List Dt) (m : Nat) (h : ∀ j, j < m → 0 ≤ (l.getD j dt0).count) : ∀ t, t ≤ m → opn (m - t) l ≤ opn m l + t := by
  intro t
  induction t with
  | zero => intro _; simp
  | succ t ih =>
    intro ht
    have i := ih (by omega)
    have := h (m - (t + 1)) (by omega)
    rw [show m - t = m - (t + 1) + 1 by omega, opn] at i
    omega
end Ch1
end Go.Proofs.YtdjdhjciealfhaaGreatDoor
