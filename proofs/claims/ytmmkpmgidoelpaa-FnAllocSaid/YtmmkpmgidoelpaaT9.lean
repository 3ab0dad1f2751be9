import Derived.Test.YtmmkpmgidoelpaaZ1
import Derived.Test.YtmmkpmgidoelpaaA3
namespace Go.Proofs.Ytmmkpmgidoelpaa
open Go.RowKit Ch2
theorem sq_congr {ws vs : List Int} {T T' : Nat} (hT : T ≤ T') (h : ∀ i, i < T → vs.getD i 0 = ws.getD i 0) : ∀ k, sq ws T k < T → sq vs T' k = sq ws T k
  | 0, _ => rfl
  | k + 1, hk => by
    have h0 : sq ws T k < T := by have := sq_le ws T k 1; omega
    have ih := sq_congr hT h k h0
    rw [sq_step h0, sq_step (by rw [ih]; omega), ih, h _ h0]
theorem St.up {ws vs : List Int} {T T' p : Nat} (hT : T ≤ T') (h : ∀ i, i < T → vs.getD i 0 = ws.getD i 0) (hp : St ws T p) : St vs T' p := by
  obtain ⟨h1, k, rfl⟩ := hp
  exact ⟨by omega, k, sq_congr hT h k h1⟩
theorem WordOk.up {ws vs : List Int} {T T' : Nat} {x : Int} (hT : T ≤ T') (h : ∀ i, i < T → vs.getD i 0 = ws.getD i 0) (hx : WordOk ws T x) : WordOk vs T' x := by
  rcases hx with hx | hx | ⟨h1, h2, h3⟩ | hx
  · exact Or.inl hx
  · exact Or.inr (Or.inl hx)
  · exact Or.inr (Or.inr (Or.inl ⟨h1, h2, St.up hT h h3⟩))
  · exact Or.inr (Or.inr (Or.inr hx))
/-- The chain of headers of a valid heap comes to its top. -/
theorem sq_top {ws : List Int} {T : Nat} (hH : ∀ p, St ws T p → p + 1 + cnt (ws.getD p 0) ≤ T) : ∃ k, sq ws T k = T := by
  rcases Nat.eq_zero_or_pos T with h0 | h0
  · exact ⟨0, by rw [h0]; rfl⟩
  · obtain ⟨p, hp, h1, h2⟩ := Ch2.cover ws T (T - 1) (by omega)
    obtain ⟨k, hk⟩ := hp.next
    exact ⟨k, by have := hH p hp; omega⟩
/-- What Alloc lays: a valid heap with the object at its end. -/
structure Laid (ws : List Int) (top : Int) (k : Int) (fs ys : List Int) : Prop where
  good : GoodH ys (top + 1 + fs.length)
  st : St ys (top + 1 + fs.length).toNat top.toNat
  old : ∀ p, St ws top.toNat p → St ys (top + 1 + fs.length).toNat p
  back : ∀ p, St ys (top + 1 + fs.length).toNat p → p = top.toNat ∨ St ws top.toNat p
  same : ∀ i, i < top.toNat → ys.getD i 0 = ws.getD i 0
  head : ys.getD top.toNat 0 = 4 * fs.length + k
  fld : ∀ i, i < fs.length → ys.getD (top.toNat + 1 + i) 0 = fs.getD i 0
  cnt : cnt (ys.getD top.toNat 0) = fs.length
theorem AlOk.laid {ws fs : List Int} {top k : Int} (h : AlOk ws top k fs) (hfit : top + 1 + fs.length ≤ ws.length) : Laid ws top k fs (putO ws top.toNat (4 * fs.length + k) fs) := by
  have hlo := h.good.lo
  obtain ⟨T, hT⟩ : ∃ T : Nat, top = T := ⟨top.toNat, by omega⟩
  subst hT
  have hTn : ((T : Nat) : Int).toNat = T := by simp
  have hfit' : T + 1 + fs.length ≤ ws.length := by omega
  have hTT : ((T : Int) + 1 + fs.length).toNat = T + 1 + fs.length := by omega
  rw [hTn]
  have hget := fun j => putO_getD (h := 4 * (fs.length : Int) + k) hfit' j
  have hvc := vc_facts h.cnt
  have hhd : headB (4 * (fs.length : Int) + k) = true := by
    rw [← vcB_head]
    have e1 : (4 * (fs.length : Int) + k) % 4 = k := by omega
    have e2 : (4 * (fs.length : Int) + k) / 4 = fs.length := by omega
    rw [e1, e2]; exact h.cnt
  have hcn : Ch2.cnt (4 * (fs.length : Int) + k) = fs.length := cnt_of (by omega)
  have same : ∀ i, i < T → (putO ws T (4 * fs.length + k) fs).getD i 0 = ws.getD i 0 := fun i hi => by
    rw [hget]; unfold cellO; rw [if_neg (by omega), if_neg (by omega)]
  have head : (putO ws T (4 * fs.length + k) fs).getD T 0 = 4 * fs.length + k := by rw [hget]; unfold cellO; rw [if_pos rfl]
  have fld : ∀ i, i < fs.length → (putO ws T (4 * fs.length + k) fs).getD (T + 1 + i) 0 = fs.getD i 0 := fun i hi => by
    rw [hget]; unfold cellO; rw [if_neg (by omega), if_pos (by omega), show T + 1 + i - (T + 1) = i by omega]
  have hheads : ∀ p, St ws T p → p + 1 + Ch2.cnt (ws.getD p 0) ≤ T := fun p hp => by
    have := (h.good.heads p (by rw [hTn]; exact hp)).2; rw [hTn] at this; exact this
  obtain ⟨K, hK⟩ := sq_top hheads
  have up : ∀ p, St ws T p → St (putO ws T (4 * fs.length + k) fs) (T + 1 + fs.length) p := fun p hp => St.up (by omega) same hp
  -- the chain of the new heap
  have chain : ∀ j, sq ws T j ≤ T → (sq (putO ws T (4 * fs.length + k) fs) (T + 1 + fs.length) j = sq ws T j) ∨ ∃ i, i ≤ j ∧ sq ws T i = T := by
    intro j hj
    induction j with
    | zero => exact Or.inl rfl
    | succ j ih =>
      by_cases hjT : sq ws T j < T
      · rcases ih (by omega) with e | ⟨i, hi, e⟩
        · left
          rw [sq_step hjT, sq_step (by rw [e]; omega), e, same _ hjT]
        · exact Or.inr ⟨i, by omega, e⟩
      · have := sq_le ws T j 1
        exact Or.inr ⟨j, by omega, by omega⟩
  have hnewst : St (putO ws T (4 * fs.length + k) fs) (T + 1 + fs.length) T := by
    refine ⟨by omega, ?_⟩
    -- the first index at which the chain is at T
    have key : ∀ j, sq ws T j = T → ∃ i, sq (putO ws T (4 * fs.length + k) fs) (T + 1 + fs.length) i = T := by
      intro j
      induction j using Nat.strongRecOn with
      | ind j ih =>
        intro hj
        rcases chain j (by omega) with e | ⟨i, hi, e⟩
        · exact ⟨j, by rw [e]; exact hj⟩
        · rcases Nat.lt_or_eq_of_le hi with hlt | rfl
          · exact ih i hlt e
          · cases i with
            | zero => exact ⟨0, by show 0 = T; simpa [sq] using e⟩
            | succ i =>
              by_cases hiT : sq ws T i < T
              · rcases chain i (by omega) with e2 | ⟨i2, hi2, e2⟩
                · exact ⟨i + 1, by rw [sq_step (by rw [e2]; omega), e2, same _ hiT, ← sq_step hiT]; exact e⟩
                · exact ih i2 (by omega) e2
              · have h1 := sq_le ws T i 1
                exact ih i (by omega) (by omega)
    exact key K hK
  have back : ∀ p, St (putO ws T (4 * fs.length + k) fs) (T + 1 + fs.length) p → p = T ∨ St ws T p := by
    intro p hp
    rcases Nat.lt_trichotomy p T with h1 | h1 | h1
    · right
      obtain ⟨q, hq, h2, h3⟩ := Ch2.cover ws T p h1
      rcases Nat.lt_or_ge q p with h4 | h4
      · exfalso
        have := (up q hq).between h4 (by rw [same q hq.1]; exact h3)
        exact this hp
      · obtain rfl : q = p := by omega
        exact hq
    · exact Or.inl h1
    · exfalso
      exact hnewst.between h1 (by rw [head, hcn]; exact hp.1) hp
  refine ⟨⟨?_, by omega, ?_, ?_, ?_, ?_, ?_⟩, ?_, ?_, ?_, same, head, fld, by rw [hTn, head]; exact hcn⟩
  · rw [putO_len hfit']; exact h.good.size
  · rw [putO_len hfit']; omega
  · intro i h1 h2
    rw [putO_len hfit'] at h2
    rw [hget]; unfold cellO; rw [if_neg (by omega), if_neg (by omega)]
    exact h.good.rest i (by omega) h2
  · intro p hp
    rw [hTT] at hp ⊢
    rcases back p hp with rfl | hq
    · exact ⟨by rw [head]; exact hhd, by rw [head, hcn]; omega⟩
    · have h1 := h.good.heads p (by rw [hTn]; exact hq)
      rw [hTn] at h1
      exact ⟨by rw [same p hq.1]; exact h1.1, by rw [same p hq.1]; have := h1.2; omega⟩
  · intro p hp
    rw [hTT] at hp
    rcases back p hp with rfl | hq
    · intro hk
      rw [head] at hk
      have hk2 : k = 2 := by omega
      have h1 := h.fn hk2
      have h2 : 1 ≤ fs.length := by
        have := h.cnt
        rw [hk2] at this
        unfold vcB at this
        simp at this
        omega
      have e := fld 0 (by omega)
      rw [Nat.add_zero] at e
      rw [e]
      generalize fs.getD 0 0 = y at h1 ⊢
      unfold fnB at h1
      simp at h1
      omega
    · have h1 := h.good.fns p (by rw [hTn]; exact hq)
      intro hk
      rw [same p hq.1] at hk
      have h2 := h1 hk
      have h3 := hheads p hq
      have h4 : 1 ≤ Ch2.cnt (ws.getD p 0) := head_clo (h.good.heads p (by rw [hTn]; exact hq)).1 hk
      rw [same (p + 1) (by omega)]
      exact h2
  · intro i h1 h2
    rw [hTT] at h1 h2 ⊢
    rcases Nat.lt_trichotomy i T with h3 | h3 | h3
    · rw [same i h3]
      refine WordOk.up (by rw [hTn]; omega) (by rw [hTn]; exact same) (h.good.words i (by rw [hTn]; exact h3) (fun hs => h2 ?_))
      rw [hTn] at hs
      exact up i hs
    · subst h3; exact absurd hnewst h2
    · have e := fld (i - (T + 1)) (by omega)
      rw [show T + 1 + (i - (T + 1)) = i by omega] at e
      rw [e]
      have := h.words (i - (T + 1)) (by omega)
      rw [hTn] at this
      exact WordOk.up (by omega) same this
  · rw [hTT]; exact hnewst
  · intro p hp; rw [hTT]; rw [hTn] at hp; exact up p hp
  · intro p hp; rw [hTT] at hp; rw [hTn]; exact back p hp
/-- A word is the same as itself beside the identity of places. -/
theorem rl_id {ws : List Int} {T : Nat} {R : Nat → Nat → Prop} {x : Int} (hx : WordOk ws T x) (hR : ∀ p, St ws T p → R p p) : Rl R x x := by
  rcases hx with h | h | ⟨h1, h2, h3⟩ | h
  · exact Or.inr ⟨rfl, by omega⟩
  · exact Or.inr ⟨rfl, by omega⟩
  · exact Or.inl ⟨h1, h1, hR _ h3⟩
  · exact Or.inr ⟨rfl, by omega⟩
/-- Two heaps that both hold the objects of one, and an object more of the same kind and fields. -/
theorem laid_shp {ws fs ys vs us : List Int} {top top2 k : Int} (hG : GoodH ws top) (hf : ∀ i, i < fs.length → WordOk ws top.toNat (fs.getD i 0)) (h1 : Laid ws top k fs ys) (h2 : Laid vs top2 k fs us) (hsub : ∀ i, i < top.toNat → us.getD i 0 = ws.getD i 0) (hlt : top.toNat ≤ top2.toNat) (hl0 : 0 ≤ top) (hl2 : 0 ≤ top2) :
    Shp us [4 * top2 + 1] ys [4 * top + 1] := by
  obtain ⟨T, hT⟩ : ∃ T : Nat, top = T := ⟨top.toNat, by omega⟩
  obtain ⟨T2, hT2⟩ : ∃ T2 : Nat, top2 = T2 := ⟨top2.toNat, by omega⟩
  subst hT hT2
  have hTn : ((T : Nat) : Int).toNat = T := by simp
  have hTn2 : ((T2 : Nat) : Int).toNat = T2 := by simp
  rw [hTn] at hf hsub hlt
  rw [hTn2] at hlt
  have hs := h1.same
  have hh1 := h1.head
  have hh2 := h2.head
  have hf1 := h1.fld
  have hf2 := h2.fld
  have hc1 := h1.cnt
  have hc2 := h2.cnt
  rw [hTn] at hs hh1 hf1 hc1
  rw [hTn2] at hh2 hf2 hc2
  have hH : ∀ p, St ws T p → p + 1 + Ch2.cnt (ws.getD p 0) ≤ T := fun p hp => by have := (hG.heads p (by rw [hTn]; exact hp)).2; rw [hTn] at this; exact this
  have hR : ∀ p, St ws T p → (fun p q => (p = T2 ∧ q = T) ∨ (p = q ∧ St ws T p)) p p := fun p hp => Or.inr ⟨rfl, hp⟩
  refine ⟨fun p q => (p = T2 ∧ q = T) ∨ (p = q ∧ St ws T p), ⟨?_, ?_, ?_⟩, rfl, fun i hi => ?_⟩
  · rintro p q q' (⟨a1, a2⟩ | ⟨a1, a2⟩) (⟨b1, b2⟩ | ⟨b1, b2⟩)
    · omega
    · have := b2.1; omega
    · have := a2.1; omega
    · omega
  · rintro p p' q (⟨a1, a2⟩ | ⟨a1, a2⟩) (⟨b1, b2⟩ | ⟨b1, b2⟩)
    · omega
    · have := b2.1; omega
    · have := a2.1; omega
    · omega
  · rintro p q (⟨rfl, rfl⟩ | ⟨rfl, hp⟩)
    · refine ⟨by rw [hh1, hh2], fun t ht => ?_⟩
      rw [hc2] at ht
      rw [hf2 t ht, hf1 t ht]
      exact rl_id (hf t ht) hR
    · have hpT := hp.1
      have hpc := hH p hp
      refine ⟨by rw [hsub p hpT, hs p hpT], fun t ht => ?_⟩
      rw [hsub p hpT] at ht
      rw [hsub _ (by omega), hs _ (by omega)]
      have := hG.fields (p := p) (by rw [hTn]; exact hp) (i := p + 1 + t) (by omega) (by omega)
      rw [hTn] at this
      exact rl_id this hR
  · have hi0 : i = 0 := by simpa using hi
    subst hi0
    refine Or.inl ⟨by show (4 * (T2 : Int) + 1) % 4 = 1; omega, by show (4 * (T : Int) + 1) % 4 = 1; omega, Or.inl ⟨?_, ?_⟩⟩
    · show ((4 * (T2 : Int) + 1) / 4).toNat = T2; omega
    · show ((4 * (T : Int) + 1) / 4).toNat = T; omega
/-- A heap and itself. -/
theorem self_shp {ys rs : List Int} {top : Int} (hG : GoodR ys top rs) : Shp ys rs ys rs := by
  obtain ⟨T, hT⟩ : ∃ T : Nat, top = T := ⟨top.toNat, by have := hG.good.lo; omega⟩
  subst hT
  have hTn : ((T : Nat) : Int).toNat = T := by simp
  have hR : ∀ p, St ys T p → (fun p q => p = q ∧ St ys T p) p p := fun p hp => ⟨rfl, hp⟩
  refine ⟨fun p q => p = q ∧ St ys T p, ⟨fun p q q' h1 h2 => h1.1.symm.trans h2.1, fun p p' q h1 h2 => h1.1.trans h2.1.symm, ?_⟩, rfl, fun i hi => ?_⟩
  · rintro p q ⟨rfl, hp⟩
    refine ⟨rfl, fun t ht => ?_⟩
    have := hG.good.fields (p := p) (by rw [hTn]; exact hp) (i := p + 1 + t) (by omega) (by omega)
    rw [hTn] at this
    exact rl_id this hR
  · have := hG.roots i hi
    rw [hTn] at this
    exact rl_id this hR
/-- One object on the one side cannot be two on the other. -/
theorem not_shp {ys us : List Int} {a b c : Int} (ha : a % 4 = 1) (hne : (b / 4).toNat ≠ (c / 4).toNat) : ¬ Shp ys [a, a] us [b, c] := by
  rintro ⟨R, hI, _, hr⟩
  have h0 := hr 0 (by simp)
  have h1 := hr 1 (by simp)
  have e0 : Rl R a b := by simpa using h0
  have e1 : Rl R a c := by simpa using h1
  rcases e0 with ⟨_, _, r0⟩ | ⟨_, r0⟩
  · rcases e1 with ⟨_, _, r1⟩ | ⟨_, r1⟩
    · exact hne (hI.fn _ _ _ r0 r1)
    · exact r1 ha
  · exact r0 ha
end Go.Proofs.Ytmmkpmgidoelpaa
