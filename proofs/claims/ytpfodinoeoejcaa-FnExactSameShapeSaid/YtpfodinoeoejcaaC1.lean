import Derived.Test.YtpfodinoeoejcaaH7
namespace Go.Proofs.Ytpfodinoeoejcaa
open Go.RowKit Ch2
/-- Where one is while objects are come to: new places (or -1), the top, the places in their order. -/
structure Cs where
  mv : Nat → Int
  top : Nat
  ord : List Nat
def cs0 : Cs := ⟨fun _ => -1, 0, []⟩
/-- A word is come to. -/
def visit (ws : List Int) (s : Cs) (x : Int) : Cs :=
  if x % 4 = 1 ∧ s.mv (x / 4).toNat < 0 then ⟨fun q => if q = (x / 4).toNat then (s.top : Int) else s.mv q, s.top + (1 + cnt (ws.getD (x / 4).toNat 0)), s.ord ++ [(x / 4).toNat]⟩ else s
def visits (ws : List Int) (s : Cs) (xs : List Int) : Cs := xs.foldl (visit ws) s
/-- The fields of the object at p. -/
def flds (ws : List Int) (p : Nat) : List Int := fld ws p (cnt (ws.getD p 0))
/-- Behind the roots and the fields of the first k objects. -/
def stage (ws rs : List Int) : Nat → Cs
  | 0 => visits ws cs0 rs
  | k + 1 => if k < (stage ws rs k).ord.length then visits ws (stage ws rs k) (flds ws ((stage ws rs k).ord.getD k 0)) else stage ws rs k
/-- Words of the first i places of ord. -/
def offs (ws : List Int) (ord : List Nat) (i : Nat) : Nat := ((ord.take i).map (fun p => 1 + cnt (ws.getD p 0))).sum
structure Inv (ws : List Int) (T : Nat) (s : Cs) : Prop where
  st : ∀ p, p ∈ s.ord → St ws T p
  nd : s.ord.Nodup
  top : s.top = offs ws s.ord s.ord.length
  mem : ∀ p, 0 ≤ s.mv p ↔ p ∈ s.ord
  at_ : ∀ i, i < s.ord.length → s.mv (s.ord.getD i 0) = offs ws s.ord i
  lo : ∀ p, -1 ≤ s.mv p
theorem inv0 (ws : List Int) (T : Nat) : Inv ws T cs0 :=
  ⟨fun p hp => (by cases hp), List.nodup_nil, rfl, fun p => (by simp [cs0]), fun i hi => absurd hi (Nat.not_lt_zero i), fun p => (by simp [cs0])⟩
theorem offs_snoc (ws : List Int) (ord : List Nat) (p i : Nat) (h : i ≤ ord.length) : offs ws (ord ++ [p]) i = offs ws ord i := by
  unfold offs; rw [List.take_append_of_le_length h]
theorem offs_all (ws : List Int) (ord : List Nat) (p : Nat) : offs ws (ord ++ [p]) (ord.length + 1) = offs ws ord ord.length + (1 + cnt (ws.getD p 0)) := by
  unfold offs
  rw [List.take_of_length_le (by simp), List.take_of_length_le (Nat.le_refl _)]
  simp
theorem Inv.visit {ws : List Int} {T : Nat} {s : Cs} (h : Inv ws T s) {x : Int} (hx : WordOk ws T x) : Inv ws T (visit ws s x) := by
  unfold Go.Proofs.Ytpfodinoeoejcaa.visit
  split
  · rename_i hc
    obtain ⟨h1, h2⟩ := hc
    have hst : St ws T (x / 4).toNat := by rcases hx with h' | h' | h' | h' <;> first | omega | exact h'.2.2
    generalize (x / 4).toNat = p at h2 hst
    have hn : p ∉ s.ord := fun hm => by have := (h.mem p).2 hm; omega
    refine ⟨fun q hq => ?_, ?_, ?_, fun q => ?_, fun i hi => ?_, fun q => ?_⟩
    · rcases List.mem_append.1 hq with hq | hq
      · exact h.st q hq
      · rw [List.mem_singleton.1 hq]; exact hst
    · rw [List.nodup_append]
      exact ⟨h.nd, by simp, fun a ha b hb => by rw [List.mem_singleton.1 hb]; exact fun e => hn (e ▸ ha)⟩
    · show s.top + _ = _
      rw [h.top, List.length_append, List.length_singleton, offs_all]
    · show 0 ≤ (if q = p then (s.top : Int) else s.mv q) ↔ _
      by_cases e : q = p
      · subst e; simp
      · rw [if_neg e, h.mem q]; simp [e]
    · show (if (s.ord ++ [p]).getD i 0 = p then (s.top : Int) else s.mv ((s.ord ++ [p]).getD i 0)) = _
      rw [List.length_append, List.length_singleton] at hi
      by_cases e : i < s.ord.length
      · have e1 : (s.ord ++ [p]).getD i 0 = s.ord.getD i 0 := by simp [List.getD, List.getElem?_append_left e]
        have e2 : s.ord.getD i 0 ∈ s.ord := by simp [List.getD, List.getElem?_eq_getElem e]
        rw [e1, if_neg (show ¬ s.ord.getD i 0 = p from fun he => hn (by rw [← he]; exact e2)), h.at_ i e, offs_snoc _ _ _ _ (Nat.le_of_lt e)]
      · have e1 : i = s.ord.length := by omega
        subst e1
        have e2 : (s.ord ++ [p]).getD s.ord.length 0 = p := by simp [List.getD]
        rw [e2, if_pos rfl, offs_snoc _ _ _ _ (Nat.le_refl _), h.top]
    · show -1 ≤ (if q = p then (s.top : Int) else s.mv q)
      split
      · omega
      · exact h.lo q
  · exact h
theorem Inv.visits {ws : List Int} {T : Nat} : ∀ (xs : List Int) (s : Cs), Inv ws T s → (∀ i, i < xs.length → WordOk ws T (xs.getD i 0)) → Inv ws T (visits ws s xs)
  | [], _, h, _ => h
  | x :: xs, s, h, hx => by
    have h0 := hx 0 (by simp)
    exact Inv.visits xs _ (h.visit (by simpa using h0)) (fun i hi => by have := hx (i + 1) (by simp; omega); simpa using this)
/-- Lists without repeats of numbers below T are no longer than T. -/
theorem nodup_le : ∀ (T : Nat) (L : List Nat), L.Nodup → (∀ x, x ∈ L → x < T) → L.length ≤ T
  | 0, L, _, h => by
    cases L with
    | nil => simp
    | cons a r => exact absurd (h a (by simp)) (Nat.not_lt_zero a)
  | T + 1, L, hn, h => by
    have h1 : (L.erase T).Nodup := hn.erase T
    have h2 : ∀ x, x ∈ L.erase T → x < T := fun x hx => by
      have := h x (List.mem_of_mem_erase hx)
      have hne : x ≠ T := fun e => by subst e; exact (List.Nodup.not_mem_erase hn) hx
      omega
    have h3 := nodup_le T (L.erase T) h1 h2
    have h4 : L.length ≤ (L.erase T).length + 1 := by rw [List.length_erase]; split <;> omega
    omega
/-- The places of an object's words. -/
def span (ws : List Int) (p : Nat) : List Nat := List.range' p (1 + cnt (ws.getD p 0))
theorem span_flat {ws : List Int} {T : Nat} (hH : ∀ p, St ws T p → p + 1 + cnt (ws.getD p 0) ≤ T) : ∀ (ord : List Nat), ord.Nodup → (∀ p, p ∈ ord → St ws T p) → (ord.flatMap (span ws)).Nodup ∧ ∀ x, x ∈ ord.flatMap (span ws) → x < T ∧ ∃ p, p ∈ ord ∧ p ≤ x ∧ x < p + 1 + cnt (ws.getD p 0)
  | [], _, _ => ⟨by simp, fun x hx => by simp at hx⟩
  | p :: ord, hn, hs => by
    obtain ⟨hp, hn'⟩ := List.nodup_cons.1 hn
    obtain ⟨i1, i2⟩ := span_flat hH ord hn' (fun q hq => hs q (List.mem_cons_of_mem _ hq))
    have hsp := hs p (by simp)
    have m1 : ∀ x, x ∈ span ws p → p ≤ x ∧ x < p + 1 + cnt (ws.getD p 0) := fun x hx => by
      unfold span at hx; rw [List.mem_range'_1] at hx; omega
    refine ⟨?_, fun x hx => ?_⟩
    · rw [List.flatMap_cons, List.nodup_append]
      refine ⟨by unfold span; exact List.nodup_range', i1, fun a ha b hb e => ?_⟩
      subst e
      obtain ⟨_, q, hq, h1, h2⟩ := i2 a hb
      obtain ⟨h3, h4⟩ := m1 a ha
      have hsq := hs q (List.mem_cons_of_mem _ hq)
      have hne : p ≠ q := fun e => hp (e ▸ hq)
      rcases Nat.lt_or_ge p q with h5 | h5
      · obtain ⟨_, j, hj⟩ := hsq
        have := hsp.le hj h5; omega
      · obtain ⟨_, j, hj⟩ := hsp
        have := hsq.le hj (show q < p by omega); omega
    · rw [List.flatMap_cons, List.mem_append] at hx
      rcases hx with hx | hx
      · obtain ⟨h3, h4⟩ := m1 x hx
        have := hH p hsp
        exact ⟨by omega, p, by simp, h3, h4⟩
      · obtain ⟨h3, q, hq, h4⟩ := i2 x hx
        exact ⟨h3, q, List.mem_cons_of_mem _ hq, h4⟩
theorem Inv.top_le {ws : List Int} {T : Nat} {s : Cs} (h : Inv ws T s) (hH : ∀ p, St ws T p → p + 1 + cnt (ws.getD p 0) ≤ T) : s.top ≤ T ∧ s.ord.length ≤ s.top := by
  obtain ⟨h1, h2⟩ := span_flat hH s.ord h.nd h.st
  have h3 := nodup_le T _ h1 (fun x hx => (h2 x hx).1)
  have h4 : ∀ ord : List Nat, (ord.flatMap (span ws)).length = offs ws ord ord.length ∧ ord.length ≤ offs ws ord ord.length := by
    intro ord
    induction ord with
    | nil => simp [offs]
    | cons p r ih =>
      unfold offs at ih ⊢
      rw [List.take_of_length_le (Nat.le_refl _)] at ih ⊢
      simp [span] at ih ⊢
      omega
  rw [h.top]
  rw [(h4 s.ord).1] at h3
  exact ⟨h3, (h4 s.ord).2⟩
end Go.Proofs.Ytpfodinoeoejcaa
