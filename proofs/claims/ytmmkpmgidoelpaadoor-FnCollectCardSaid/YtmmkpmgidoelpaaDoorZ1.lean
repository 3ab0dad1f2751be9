import Derived.Test.YtmmkpmgidoelpaaDoorC1
namespace Go.Proofs.YtmmkpmgidoelpaaDoor.Hp
open Go.RowKit Ch2
/-- Words that are the same but for the places of the objects. -/
def Rl (R : Nat → Nat → Prop) (x y : Int) : Prop := (x % 4 = 1 ∧ y % 4 = 1 ∧ R (x / 4).toNat (y / 4).toNat) ∨ (x = y ∧ ¬ x % 4 = 1)
/-- Objects that are the same but for places. -/
def Ob (ws vs : List Int) (R : Nat → Nat → Prop) (p q : Nat) : Prop := ws.getD p 0 = vs.getD q 0 ∧ ∀ t, t < cnt (ws.getD p 0) → Rl R (ws.getD (p + 1 + t) 0) (vs.getD (q + 1 + t) 0)
/-- A relation of places, one to one, that leads from objects to the same objects. -/
structure Iso (ws vs : List Int) (R : Nat → Nat → Prop) : Prop where
  fn : ∀ p q q', R p q → R p q' → q = q'
  inj : ∀ p p' q, R p q → R p' q → p = p'
  ob : ∀ p q, R p q → Ob ws vs R p q
/-- Rows of words of which each is the same. -/
def Rls (xs ys : List Int) (R : Nat → Nat → Prop) : Prop := xs.length = ys.length ∧ ∀ i, i < xs.length → Rl R (xs.getD i 0) (ys.getD i 0)
/-- The shape is the same. -/
def Shp (ws rs vs os : List Int) : Prop := ∃ R, Iso ws vs R ∧ Rls rs os R
def InL (L : List (Nat × Nat)) (p q : Nat) : Prop := (p, q) ∈ L
theorem Rl.mono {R R' : Nat → Nat → Prop} {x y : Int} (h : Rl R x y) (hm : ∀ p q, R p q → R' p q) : Rl R' x y := by
  rcases h with ⟨h1, h2, h3⟩ | h
  · exact Or.inl ⟨h1, h2, hm _ _ h3⟩
  · exact Or.inr h
theorem Ob.mono {ws vs : List Int} {R R' : Nat → Nat → Prop} {p q : Nat} (h : Ob ws vs R p q) (hm : ∀ p q, R p q → R' p q) : Ob ws vs R' p q := ⟨h.1, fun t ht => (h.2 t ht).mono hm⟩
/-- Pairs of places, each at most once on either side. -/
structure Pb (T : Nat) (L : List (Nat × Nat)) : Prop where
  n1 : (L.map Prod.fst).Nodup
  n2 : (L.map Prod.snd).Nodup
  lt : ∀ a, a ∈ L → a.1 < T
theorem nodup_fst {α β : Type} : ∀ {L : List (α × β)}, (L.map Prod.fst).Nodup → ∀ {p : α} {q q' : β}, (p, q) ∈ L → (p, q') ∈ L → q = q'
  | [], _, _, _, _, h, _ => by cases h
  | (a, b) :: L, hn, p, q, q', h, h' => by
    rw [List.map_cons, List.nodup_cons] at hn
    rcases List.mem_cons.1 h with k | k
    · rcases List.mem_cons.1 h' with k' | k'
      · injection k with _ e; injection k' with _ e'; rw [e, e']
      · injection k with e _
        exact absurd (show a ∈ L.map Prod.fst from e ▸ List.mem_map_of_mem (f := Prod.fst) k') hn.1
    · rcases List.mem_cons.1 h' with k' | k'
      · injection k' with e _
        exact absurd (show a ∈ L.map Prod.fst from e ▸ List.mem_map_of_mem (f := Prod.fst) k) hn.1
      · exact nodup_fst hn.2 k k'
theorem nodup_snd {α β : Type} : ∀ {L : List (α × β)}, (L.map Prod.snd).Nodup → ∀ {p p' : α} {q : β}, (p, q) ∈ L → (p', q) ∈ L → p = p'
  | [], _, _, _, _, h, _ => by cases h
  | (a, b) :: L, hn, p, p', q, h, h' => by
    rw [List.map_cons, List.nodup_cons] at hn
    rcases List.mem_cons.1 h with k | k
    · rcases List.mem_cons.1 h' with k' | k'
      · injection k with e _; injection k' with e' _; rw [e, e']
      · injection k with _ e
        exact absurd (show b ∈ L.map Prod.snd from e ▸ List.mem_map_of_mem (f := Prod.snd) k') hn.1
    · rcases List.mem_cons.1 h' with k' | k'
      · injection k' with _ e
        exact absurd (show b ∈ L.map Prod.snd from e ▸ List.mem_map_of_mem (f := Prod.snd) k) hn.1
      · exact nodup_snd hn.2 k k'
theorem Pb.len {T : Nat} {L : List (Nat × Nat)} (h : Pb T L) : L.length ≤ T := by
  have := nodup_le T (L.map Prod.fst) h.n1 (fun x hx => by
    obtain ⟨a, ha, rfl⟩ := List.mem_map.1 hx
    exact h.lt a ha)
  simpa using this
theorem Pb.add {T p q : Nat} {L : List (Nat × Nat)} (h : Pb T L) (h1 : ∀ q, (p, q) ∉ L) (h2 : ∀ p, (p, q) ∉ L) (hp : p < T) : Pb T (L ++ [(p, q)]) := by
  refine ⟨?_, ?_, fun a ha => ?_⟩
  · rw [List.map_append, List.nodup_append]
    refine ⟨h.n1, by simp, fun a ha b hb e => ?_⟩
    obtain ⟨c, hc, rfl⟩ := List.mem_map.1 ha
    obtain rfl : b = p := by simpa using hb
    subst e
    exact h1 c.2 hc
  · rw [List.map_append, List.nodup_append]
    refine ⟨h.n2, by simp, fun a ha b hb e => ?_⟩
    obtain ⟨c, hc, rfl⟩ := List.mem_map.1 ha
    obtain rfl : b = q := by simpa using hb
    subst e
    exact h2 c.1 hc
  · rcases List.mem_append.1 ha with ha | ha
    · exact h.lt a ha
    · rw [List.mem_singleton.1 ha]; exact hp
/-- What a comparison that began with the pairs L leaves: the pairs, and its answer. -/
structure Cmp (ws vs : List Int) (L L' : List (Nat × Nat)) (b : Bool) (G : (Nat → Nat → Prop) → Prop) : Prop where
  sub : ∀ a, a ∈ L → a ∈ L'
  yes : b = true → G (InL L') ∧ (∀ a, a ∈ L' → a ∉ L → Ob ws vs (InL L') a.1 a.2) ∧ ∀ R, Iso ws vs R → (∀ a, a ∈ L → R a.1 a.2) → G R → ∀ a, a ∈ L' → R a.1 a.2
  no : b = false → ∀ R, Iso ws vs R → (∀ a, a ∈ L → R a.1 a.2) → ¬ G R
/-- Words of which one is no pointer. -/
theorem Cmp.plain {ws vs : List Int} {L : List (Nat × Nat)} {x y : Int} (h : ¬ (x % 4 = 1 ∧ y % 4 = 1)) : Cmp ws vs L L (x == y) (fun R => Rl R x y) := by
  refine ⟨fun _ h => h, fun hb => ?_, fun hb R _ _ hr => ?_⟩
  · have e : x = y := by simpa using hb
    refine ⟨Or.inr ⟨e, fun h1 => h ⟨h1, e ▸ h1⟩⟩, fun a h1 h2 => absurd h1 h2, fun R _ hs _ => hs⟩
  · have e : x ≠ y := by simpa using hb
    rcases hr with ⟨h1, h2, _⟩ | ⟨h1, _⟩
    · exact h ⟨h1, h2⟩
    · exact e h1
/-- The object was met before. -/
theorem Cmp.known {ws vs : List Int} {L : List (Nat × Nat)} {x y : Int} {p q k : Nat} (hx : x % 4 = 1) (hy : y % 4 = 1) (hp : (x / 4).toNat = p) (hq : (y / 4).toNat = q) (hk : (p, k) ∈ L) : Cmp ws vs L L ((k : Int) == (q : Int)) (fun R => Rl R x y) := by
  refine ⟨fun _ h => h, fun hb => ?_, fun hb R hI hs hr => ?_⟩
  · have e : k = q := Int.ofNat.inj (by simpa using hb)
    subst e
    exact ⟨Or.inl ⟨hx, hy, by rw [hp, hq]; exact hk⟩, fun a h1 h2 => absurd h1 h2, fun R _ hs _ => hs⟩
  · have e : k ≠ q := fun e => (by subst e; simp at hb)
    rcases hr with ⟨_, _, h3⟩ | ⟨_, h3⟩
    · rw [hp, hq] at h3
      exact e (hI.fn p k q (hs _ hk) h3)
    · exact h3 hx
/-- The other object was met before, the one not. -/
theorem Cmp.taken {ws vs : List Int} {L : List (Nat × Nat)} {x y : Int} {p q k : Nat} (hx : x % 4 = 1) (hp : (x / 4).toNat = p) (hq : (y / 4).toNat = q) (hn : ∀ q, (p, q) ∉ L) (hk : (k, q) ∈ L) : Cmp ws vs L L false (fun R => Rl R x y) := by
  refine ⟨fun _ h => h, fun hb => (by cases hb), fun _ R hI hs hr => ?_⟩
  rcases hr with ⟨_, _, h3⟩ | ⟨_, h3⟩
  · rw [hp, hq] at h3
    obtain rfl := hI.inj p k q h3 (hs _ hk)
    exact hn q hk
  · exact h3 hx
/-- Other headers. -/
theorem Cmp.head {ws vs : List Int} {L : List (Nat × Nat)} {x y : Int} {p q : Nat} (hx : x % 4 = 1) (hp : (x / 4).toNat = p) (hq : (y / 4).toNat = q) (hh : ws.getD p 0 ≠ vs.getD q 0) : Cmp ws vs L (L ++ [(p, q)]) false (fun R => Rl R x y) := by
  refine ⟨fun a h => List.mem_append_left _ h, fun hb => (by cases hb), fun _ R hI hs hr => ?_⟩
  rcases hr with ⟨_, _, h3⟩ | ⟨_, h3⟩
  · rw [hp, hq] at h3
    exact hh (hI.ob p q h3).1
  · exact h3 hx
theorem flds_getD {ws : List Int} {p t : Nat} (_ : p + 1 + cnt (ws.getD p 0) ≤ ws.length) (ht : t < cnt (ws.getD p 0)) : (flds ws p).getD t 0 = ws.getD (p + 1 + t) 0 := fld_getD ht
/-- The fields decide. -/
theorem Cmp.fields {ws vs : List Int} {L L' : List (Nat × Nat)} {x y : Int} {p q : Nat} {b : Bool} (hx : x % 4 = 1) (hy : y % 4 = 1) (hp : (x / 4).toNat = p) (hq : (y / 4).toNat = q) (hh : ws.getD p 0 = vs.getD q 0) (hlp : p + 1 + cnt (ws.getD p 0) ≤ ws.length) (hlq : q + 1 + cnt (vs.getD q 0) ≤ vs.length)
    (h : Cmp ws vs (L ++ [(p, q)]) L' b (Rls (flds ws p) (flds vs q))) : Cmp ws vs L L' b (fun R => Rl R x y) := by
  have hin : (p, q) ∈ L' := h.sub _ (by simp)
  have hfp : (flds ws p).length = cnt (ws.getD p 0) := fld_len hlp
  have hfq : (flds vs q).length = cnt (vs.getD q 0) := fld_len hlq
  have key : ∀ R, Iso ws vs R → (∀ a, a ∈ L → R a.1 a.2) → Rl R x y → (∀ a, a ∈ L ++ [(p, q)] → R a.1 a.2) ∧ Rls (flds ws p) (flds vs q) R := by
    intro R hI hs hr
    rcases hr with ⟨_, _, h3⟩ | ⟨_, h3⟩
    · rw [hp, hq] at h3
      refine ⟨fun a ha => ?_, by rw [hfp, hfq, hh], fun i hi => ?_⟩
      · rcases List.mem_append.1 ha with ha | ha
        · exact hs a ha
        · rw [List.mem_singleton.1 ha]; exact h3
      · rw [hfp] at hi
        rw [flds_getD hlp hi, flds_getD hlq (by rw [← hh]; exact hi)]
        exact (hI.ob p q h3).2 i hi
    · exact absurd hx h3
  refine ⟨fun a ha => h.sub a (List.mem_append_left _ ha), fun hb => ?_, fun hb R hI hs hr => ?_⟩
  · obtain ⟨h1, h2, h3⟩ := h.yes hb
    refine ⟨Or.inl ⟨hx, hy, by rw [hp, hq]; exact hin⟩, fun a ha hn => ?_, fun R hI hs hr => ?_⟩
    · by_cases e : a = (p, q)
      · subst e
        refine ⟨hh, fun t ht => ?_⟩
        have := h1.2 t (by rw [hfp]; exact ht)
        rw [flds_getD hlp ht, flds_getD hlq (by rw [← hh]; exact ht)] at this
        exact this
      · exact h2 a ha (fun hm => by
          rcases List.mem_append.1 hm with hm | hm
          · exact hn hm
          · exact e (List.mem_singleton.1 hm))
    · obtain ⟨k1, k2⟩ := key R hI hs hr
      exact h3 R hI k1 k2
  · obtain ⟨k1, k2⟩ := key R hI hs hr
    exact h.no hb R hI k1 k2
/-- The first n words of two rows are the same. -/
def RlsN (n : Nat) (xs ys : List Int) (R : Nat → Nat → Prop) : Prop := ∀ i, i < n → Rl R (xs.getD i 0) (ys.getD i 0)
theorem Cmp.zero {ws vs : List Int} {L : List (Nat × Nat)} {xs ys : List Int} : Cmp ws vs L L true (RlsN 0 xs ys) :=
  ⟨fun _ h => h, fun _ => ⟨fun i hi => absurd hi (Nat.not_lt_zero i), fun a h1 h2 => absurd h1 h2, fun R _ hs _ => hs⟩, fun h => by cases h⟩
theorem Cmp.step {ws vs : List Int} {L M L' : List (Nat × Nat)} {xs ys : List Int} {n : Nat} (h : Cmp ws vs L M true (RlsN n xs ys)) (h' : Cmp ws vs M L' true (fun R => Rl R (xs.getD n 0) (ys.getD n 0))) : Cmp ws vs L L' true (RlsN (n + 1) xs ys) := by
  obtain ⟨a1, a2, a3⟩ := h.yes rfl
  obtain ⟨b1, b2, b3⟩ := h'.yes rfl
  have hm : ∀ p q, InL M p q → InL L' p q := fun p q hpq => h'.sub _ hpq
  refine ⟨fun a ha => h'.sub a (h.sub a ha), fun _ => ⟨fun i hi => ?_, fun a ha hn => ?_, fun R hI hs hr => ?_⟩, fun hb => by cases hb⟩
  · by_cases e : i < n
    · exact (a1 i e).mono hm
    · obtain rfl : i = n := by omega
      exact b1
  · by_cases e : a ∈ M
    · exact (a2 a e hn).mono hm
    · exact b2 a ha e
  · have hM := a3 R hI hs (fun i hi => hr i (by omega))
    exact b3 R hI hM (hr n (by omega))
theorem Cmp.stop {ws vs : List Int} {L M L' : List (Nat × Nat)} {xs ys : List Int} {n : Nat} (h : Cmp ws vs L M true (RlsN n xs ys)) (hn : n < xs.length) (h' : Cmp ws vs M L' false (fun R => Rl R (xs.getD n 0) (ys.getD n 0))) : Cmp ws vs L L' false (Rls xs ys) := by
  obtain ⟨a1, a2, a3⟩ := h.yes rfl
  refine ⟨fun a ha => h'.sub a (h.sub a ha), fun hb => (by cases hb), fun _ R hI hs hr => ?_⟩
  exact h'.no rfl R hI (a3 R hI hs (fun i hi => hr.2 i (by omega))) (hr.2 n hn)
theorem Cmp.all {ws vs : List Int} {L L' : List (Nat × Nat)} {xs ys : List Int} (h : Cmp ws vs L L' true (RlsN xs.length xs ys)) (he : xs.length = ys.length) : Cmp ws vs L L' true (Rls xs ys) := by
  obtain ⟨a1, a2, a3⟩ := h.yes rfl
  exact ⟨h.sub, fun _ => ⟨⟨he, a1⟩, a2, fun R hI hs hr => a3 R hI hs hr.2⟩, fun hb => by cases hb⟩
theorem Cmp.lens {ws vs : List Int} {L : List (Nat × Nat)} {xs ys : List Int} (h : xs.length ≠ ys.length) : Cmp ws vs L L false (Rls xs ys) :=
  ⟨fun _ h => h, fun hb => (by cases hb), fun _ R _ _ hr => h hr.1⟩
/-- What the whole comparison says. -/
theorem Cmp.shp {ws vs rs os : List Int} {T : Nat} {L : List (Nat × Nat)} {b : Bool} (h : Cmp ws vs [] L b (Rls rs os)) (hP : Pb T L) : b = true ↔ Shp ws rs vs os := by
  constructor
  · intro hb
    obtain ⟨a1, a2, _⟩ := h.yes hb
    exact ⟨InL L, ⟨fun p q q' => nodup_fst hP.n1, fun p p' q => nodup_snd hP.n2, fun p q hpq => a2 (p, q) hpq (by simp)⟩, a1⟩
  · rintro ⟨R, hI, hr⟩
    cases hb : b with
    | true => rfl
    | false => exact absurd hr (h.no hb R hI (fun a ha => by cases ha))
end Go.Proofs.YtmmkpmgidoelpaaDoor.Hp
