import Derived.Test.YtmmkpmgidoelpaaDoorC4
import Derived.Test.YtmmkpmgidoelpaaDoorZ1
namespace Go.Proofs.YtmmkpmgidoelpaaDoor.Hp
open Go.RowKit Ch2
/-- A new place that is set stays. -/
theorem visit_keep {ws : List Int} {s : Cs} {p : Nat} (h : 0 ≤ s.mv p) (x : Int) : (visit ws s x).mv p = s.mv p := by
  unfold visit
  split
  · rename_i hc
    show (if p = (x / 4).toNat then (s.top : Int) else s.mv p) = s.mv p
    rw [if_neg (fun e => by rw [← e] at hc; omega)]
  · rfl
theorem visits_keep {ws : List Int} {p : Nat} : ∀ (xs : List Int) (s : Cs), 0 ≤ s.mv p → (visits ws s xs).mv p = s.mv p
  | [], _, _ => rfl
  | x :: xs, s, h => by
    have h1 := visit_keep (ws := ws) h x
    exact (visits_keep xs (visit ws s x) (by rw [h1]; exact h)).trans h1
theorem stage_keep {ws rs : List Int} {p k : Nat} (h : 0 ≤ (stage ws rs k).mv p) : ∀ d, (stage ws rs (k + d)).mv p = (stage ws rs k).mv p
  | 0 => rfl
  | d + 1 => by
    have ih := stage_keep h d
    rw [← Nat.add_assoc, stage]
    split
    · rw [visits_keep _ _ (by rw [ih]; exact h)]; exact ih
    · exact ih
/-- Behind its visit a word's object has its new place. -/
theorem visit_set {ws : List Int} {s : Cs} {x : Int} (h : x % 4 = 1) : 0 ≤ (visit ws s x).mv (x / 4).toNat := by
  unfold visit
  split
  · show 0 ≤ (if (x / 4).toNat = (x / 4).toNat then (s.top : Int) else _)
    rw [if_pos rfl]; omega
  · rename_i hc
    rcases Int.lt_or_le (s.mv (x / 4).toNat) 0 with h1 | h1
    · exact absurd ⟨h, h1⟩ hc
    · exact h1
/-- So what a word becomes at its visit is what it is in the end. -/
theorem mvd_stays {ws : List Int} {s s' : Cs} {x : Int} (hk : ∀ p, 0 ≤ (visit ws s x).mv p → s'.mv p = (visit ws s x).mv p) : mvd s'.mv x = mvd (visit ws s x).mv x := by
  unfold mvd
  by_cases h : x % 4 = 1
  · rw [if_pos h, if_pos h, hk _ (visit_set h)]
  · rw [if_neg h, if_neg h]
end Go.Proofs.YtmmkpmgidoelpaaDoor.Hp
namespace Go.Proofs.YtmmkpmgidoelpaaDoor.Hp
open Go.RowKit Ch2
theorem visit_preM (ws : List Int) (s : Cs) (x : Int) : ∃ M, (visit ws s x).ord = s.ord ++ M := by
  unfold visit
  split
  · exact ⟨_, rfl⟩
  · exact ⟨[], by simp⟩
theorem visits_preM (ws : List Int) : ∀ (xs : List Int) (s : Cs), ∃ M, (visits ws s xs).ord = s.ord ++ M
  | [], s => ⟨[], by simp [visits]⟩
  | x :: xs, s => by
    obtain ⟨M, h⟩ := visit_preM ws s x
    obtain ⟨M', h'⟩ := visits_preM ws xs (visit ws s x)
    exact ⟨M ++ M', by show (visits ws (visit ws s x) xs).ord = _; rw [h', h, List.append_assoc]⟩
theorem stage_pre (ws rs : List Int) (k : Nat) : ∀ d, ∃ M, (stage ws rs (k + d)).ord = (stage ws rs k).ord ++ M
  | 0 => ⟨[], by simp⟩
  | d + 1 => by
    obtain ⟨M, h⟩ := stage_pre ws rs k d
    rw [← Nat.add_assoc, stage]
    split
    · obtain ⟨M', h'⟩ := visits_preM ws (flds ws ((stage ws rs (k + d)).ord.getD (k + d) 0)) (stage ws rs (k + d))
      exact ⟨M ++ M', by rw [h', h, List.append_assoc]⟩
    · exact ⟨M, h⟩
/-- Behind its visit each word of a row has its new place. -/
theorem visits_set {ws : List Int} : ∀ (xs : List Int) (s : Cs) (i : Nat), i < xs.length → xs.getD i 0 % 4 = 1 → 0 ≤ (visits ws s xs).mv (xs.getD i 0 / 4).toNat
  | [], _, i, h, _ => absurd h (Nat.not_lt_zero i)
  | x :: xs, s, 0, _, hx => by
    have h1 : 0 ≤ (visit ws s x).mv (x / 4).toNat := visit_set (by simpa using hx)
    have h2 := visits_keep (ws := ws) xs (visit ws s x) h1
    show 0 ≤ (visits ws (visit ws s x) xs).mv (x / 4).toNat
    rw [h2]; exact h1
  | x :: xs, s, i + 1, h, hx => by
    have := visits_set (ws := ws) xs (visit ws s x) i (by simpa using h) (by simpa using hx)
    simpa [visits] using this
theorem flds_ok {ws : List Int} {top : Int} (hG : GoodH ws top) {p : Nat} (hp : St ws top.toNat p) : p + 1 + cnt (ws.getD p 0) ≤ ws.length ∧ ∀ i, i < (flds ws p).length → WordOk ws top.toNat ((flds ws p).getD i 0) := by
  have h1 := (hG.heads p hp).2
  have h2 := hG.hi
  have h3 := hG.lo
  have hl : p + 1 + cnt (ws.getD p 0) ≤ ws.length := by omega
  refine ⟨hl, fun i hi => ?_⟩
  have hfl : (flds ws p).length = cnt (ws.getD p 0) := fld_len hl
  rw [hfl] at hi
  rw [flds_getD hl hi]
  exact hG.fields hp (by omega) (by omega)
theorem getD_mem {L : List Nat} {i : Nat} (h : i < L.length) : L.getD i 0 ∈ L := by simp [List.getD, List.getElem?_eq_getElem h]
theorem stage_inv {ws rs : List Int} {top : Int} (hG : GoodR ws top rs) : ∀ k, Inv ws top.toNat (stage ws rs k)
  | 0 => Inv.visits rs cs0 (inv0 ws _) hG.roots
  | k + 1 => by
    have ih := stage_inv hG k
    rw [stage]
    split
    · rename_i h
      exact Inv.visits _ _ ih (flds_ok hG.good (ih.st _ (getD_mem h))).2
    · exact ih
theorem root_set {ws rs : List Int} {i : Nat} (k : Nat) (h : i < rs.length) (hx : rs.getD i 0 % 4 = 1) : 0 ≤ (stage ws rs k).mv (rs.getD i 0 / 4).toNat := by
  have h1 : 0 ≤ (stage ws rs 0).mv (rs.getD i 0 / 4).toNat := visits_set rs cs0 i h hx
  have := stage_keep (ws := ws) (rs := rs) (k := 0) h1 k
  rw [Nat.zero_add] at this
  rw [this]; exact h1
theorem field_set {ws rs : List Int} {top : Int} (hG : GoodR ws top rs) {K a t : Nat} (ha : a < (stage ws rs K).ord.length) (haK : a < K) (ht : t < cnt (ws.getD ((stage ws rs K).ord.getD a 0) 0)) (hx : ws.getD ((stage ws rs K).ord.getD a 0 + 1 + t) 0 % 4 = 1) (hlen : a < (stage ws rs a).ord.length) : 0 ≤ (stage ws rs K).mv (ws.getD ((stage ws rs K).ord.getD a 0 + 1 + t) 0 / 4).toNat := by
  obtain ⟨d, rfl⟩ : ∃ d, K = a + 1 + d := ⟨K - (a + 1), by omega⟩
  obtain ⟨M, hM⟩ := stage_pre ws rs a (1 + d)
  rw [← Nat.add_assoc] at hM
  have e : (stage ws rs (a + 1 + d)).ord.getD a 0 = (stage ws rs a).ord.getD a 0 := by rw [hM]; simp [List.getD, List.getElem?_append_left hlen]
  rw [e] at ht hx ⊢
  have hst := (stage_inv hG a).st _ (getD_mem hlen)
  obtain ⟨hl, _⟩ := flds_ok hG.good hst
  have hfl : (flds ws ((stage ws rs a).ord.getD a 0)).length = cnt (ws.getD ((stage ws rs a).ord.getD a 0) 0) := fld_len hl
  have h1 : 0 ≤ (stage ws rs (a + 1)).mv (ws.getD ((stage ws rs a).ord.getD a 0 + 1 + t) 0 / 4).toNat := by
    rw [stage, if_pos hlen]
    have := visits_set (ws := ws) (flds ws ((stage ws rs a).ord.getD a 0)) (stage ws rs a) t (by rw [hfl]; exact ht) (by rw [flds_getD hl ht]; exact hx)
    rw [flds_getD hl ht] at this
    exact this
  rw [stage_keep h1 d]; exact h1
/-- Both are at the same point of the same order. -/
structure Sim (R : Nat → Nat → Prop) (s s' : Cs) : Prop where
  top : s.top = s'.top
  len : s.ord.length = s'.ord.length
  ord : ∀ i, i < s.ord.length → R (s.ord.getD i 0) (s'.ord.getD i 0)
  mv : ∀ p q, R p q → s.mv p = s'.mv q
theorem Sim.visit {ws vs : List Int} {R : Nat → Nat → Prop} {s s' : Cs} {x y : Int} (hI : Iso ws vs R) (h : Sim R s s') (hr : Rl R x y) : Sim R (visit ws s x) (visit vs s' y) := by
  rcases hr with ⟨hx, hy, hpq⟩ | ⟨rfl, hx⟩
  · have hm := h.mv _ _ hpq
    obtain ⟨p, hp⟩ : ∃ p, (x / 4).toNat = p := ⟨_, rfl⟩
    obtain ⟨q, hq⟩ : ∃ q, (y / 4).toNat = q := ⟨_, rfl⟩
    rw [hp, hq] at hm hpq
    by_cases hn : s.mv p < 0
    · have e1 : Go.Proofs.YtmmkpmgidoelpaaDoor.Hp.visit ws s x = ⟨fun a => if a = p then (s.top : Int) else s.mv a, s.top + (1 + cnt (ws.getD p 0)), s.ord ++ [p]⟩ := by
        unfold Go.Proofs.YtmmkpmgidoelpaaDoor.Hp.visit; rw [hp, if_pos ⟨hx, hn⟩]
      have e2 : Go.Proofs.YtmmkpmgidoelpaaDoor.Hp.visit vs s' y = ⟨fun a => if a = q then (s'.top : Int) else s'.mv a, s'.top + (1 + cnt (vs.getD q 0)), s'.ord ++ [q]⟩ := by
        unfold Go.Proofs.YtmmkpmgidoelpaaDoor.Hp.visit; rw [hq, if_pos ⟨hy, by rw [← hm]; exact hn⟩]
      rw [e1, e2]
      refine ⟨?_, ?_, fun i hi => ?_, fun a b hab => ?_⟩
      · show s.top + _ = s'.top + _
        rw [h.top, (hI.ob p q hpq).1]
      · show (s.ord ++ [p]).length = (s'.ord ++ [q]).length
        simp [h.len]
      · show R ((s.ord ++ [p]).getD i 0) ((s'.ord ++ [q]).getD i 0)
        have hi' : i < s.ord.length + 1 := by simpa using hi
        by_cases e : i < s.ord.length
        · have e' : i < s'.ord.length := by rw [← h.len]; exact e
          have := h.ord i e
          simpa [List.getD, List.getElem?_append_left e, List.getElem?_append_left e'] using this
        · obtain rfl : i = s.ord.length := by omega
          have a1 : (s.ord ++ [p]).getD s.ord.length 0 = p := by simp [List.getD]
          have a2 : (s'.ord ++ [q]).getD s.ord.length 0 = q := by rw [h.len]; simp [List.getD]
          rw [a1, a2]; exact hpq
      · show (if a = p then (s.top : Int) else s.mv a) = (if b = q then (s'.top : Int) else s'.mv b)
        by_cases e : a = p
        · subst e
          have := hI.fn a b q hab hpq
          rw [if_pos rfl, if_pos this, h.top]
        · have : ¬ b = q := fun e' => e (hI.inj a p b hab (by rw [e']; exact hpq))
          rw [if_neg e, if_neg this]; exact h.mv a b hab
    · have e1 : Go.Proofs.YtmmkpmgidoelpaaDoor.Hp.visit ws s x = s := by
        unfold Go.Proofs.YtmmkpmgidoelpaaDoor.Hp.visit; rw [hp, if_neg (fun hc => hn hc.2)]
      have e2 : Go.Proofs.YtmmkpmgidoelpaaDoor.Hp.visit vs s' y = s' := by
        unfold Go.Proofs.YtmmkpmgidoelpaaDoor.Hp.visit; rw [hq, if_neg (fun hc => hn (by rw [hm]; exact hc.2))]
      rw [e1, e2]; exact h
  · have e1 : Go.Proofs.YtmmkpmgidoelpaaDoor.Hp.visit ws s x = s := by
      unfold Go.Proofs.YtmmkpmgidoelpaaDoor.Hp.visit; rw [if_neg (fun hc => hx hc.1)]
    have e2 : Go.Proofs.YtmmkpmgidoelpaaDoor.Hp.visit vs s' x = s' := by
      unfold Go.Proofs.YtmmkpmgidoelpaaDoor.Hp.visit; rw [if_neg (fun hc => hx hc.1)]
    rw [e1, e2]; exact h
theorem Sim.visits {ws vs : List Int} {R : Nat → Nat → Prop} (hI : Iso ws vs R) : ∀ (xs ys : List Int) (s s' : Cs), Sim R s s' → Rls xs ys R → Sim R (visits ws s xs) (visits vs s' ys)
  | [], [], _, _, h, _ => h
  | [], y :: ys, _, _, _, hr => by have := hr.1; simp at this
  | x :: xs, [], _, _, _, hr => by have := hr.1; simp at this
  | x :: xs, y :: ys, s, s', h, hr => by
    have h0 := hr.2 0 (by simp)
    refine Sim.visits hI xs ys _ _ (h.visit hI (by simpa using h0)) ⟨by have := hr.1; simpa using this, fun i hi => ?_⟩
    have := hr.2 (i + 1) (by simp; omega)
    simpa using this
theorem Iso.flds {ws vs : List Int} {R : Nat → Nat → Prop} (hI : Iso ws vs R) {p q : Nat} (h : R p q) (hl : p + 1 + cnt (ws.getD p 0) ≤ ws.length) (hl' : q + 1 + cnt (vs.getD q 0) ≤ vs.length) : Rls (flds ws p) (flds vs q) R := by
  have e := (hI.ob p q h).1
  have hfp : (Go.Proofs.YtmmkpmgidoelpaaDoor.Hp.flds ws p).length = cnt (ws.getD p 0) := fld_len hl
  have hfq : (Go.Proofs.YtmmkpmgidoelpaaDoor.Hp.flds vs q).length = cnt (vs.getD q 0) := fld_len hl'
  refine ⟨by rw [hfp, hfq, e], fun i hi => ?_⟩
  rw [hfp] at hi
  rw [flds_getD hl hi, flds_getD hl' (by rw [← e]; exact hi)]
  exact (hI.ob p q h).2 i hi
theorem Sim.stage {ws vs rs os : List Int} {top top' : Int} {R : Nat → Nat → Prop} (hI : Iso ws vs R) (hr : Rls rs os R) (hG : GoodR ws top rs) (hG' : GoodR vs top' os) : ∀ k, Sim R (stage ws rs k) (stage vs os k)
  | 0 => Sim.visits hI rs os cs0 cs0 ⟨rfl, rfl, fun i hi => absurd hi (Nat.not_lt_zero i), fun _ _ _ => rfl⟩ hr
  | k + 1 => by
    have ih := Sim.stage hI hr hG hG' k
    rw [Go.Proofs.YtmmkpmgidoelpaaDoor.Hp.stage, Go.Proofs.YtmmkpmgidoelpaaDoor.Hp.stage]
    by_cases h : k < (Go.Proofs.YtmmkpmgidoelpaaDoor.Hp.stage ws rs k).ord.length
    · have h' : k < (Go.Proofs.YtmmkpmgidoelpaaDoor.Hp.stage vs os k).ord.length := by rw [← ih.len]; exact h
      rw [if_pos h, if_pos h']
      exact Sim.visits hI _ _ _ _ ih (hI.flds (ih.ord k h) (flds_ok hG.good ((stage_inv hG k).st _ (getD_mem h))).1 (flds_ok hG'.good ((stage_inv hG' k).st _ (getD_mem h'))).1)
    · rw [if_neg h, if_neg (by rw [← ih.len]; exact h)]; exact ih
theorem mvd_rel {R : Nat → Nat → Prop} {s s' : Cs} (h : Sim R s s') {x y : Int} (hr : Rl R x y) : mvd s.mv x = mvd s'.mv y := by
  rcases hr with ⟨hx, hy, hpq⟩ | ⟨rfl, hx⟩
  · unfold mvd; rw [if_pos hx, if_pos hy, h.mv _ _ hpq]
  · unfold mvd; rw [if_neg hx, if_neg hx]
/-- What is collected is the same. -/
def SameC (ws rs vs os : List Int) : Prop := rs.length = os.length ∧ ∀ (xs ys : List Int) (t t' : Int) (zs zs' : List Int) (c c' : Int) (top top' : Int), CoRes ws top rs xs t zs c → CoRes vs top' os ys t' zs' c' → GoodR ws top rs → GoodR vs top' os → t = t' ∧ (∀ i : Nat, (i : Int) < t → xs.getD i 0 = ys.getD i 0) ∧ zs = zs'
theorem CoRes.good {ws rs ys zs : List Int} {top t c : Int} (h : CoRes ws top rs ys t zs c) (hG : GoodR ws top rs) : ∃ K, (stage ws rs K).ord.length = K ∧ Inv ws top.toNat (stage ws rs K) ∧ ys.length = ws.length ∧ Done ws (stage ws rs K) ws.length ys K 0 ∧ t = (stage ws rs K).top ∧ zs = rs.map (mvd (stage ws rs K).mv) ∧ c = 0 := by
  rcases h with ⟨h, _⟩ | ⟨_, h⟩
  · exact absurd hG h
  · exact h
theorem shp_same {ws rs vs os xs ys zs zs' : List Int} {t t' c c' top top' : Int} (hG : GoodR ws top rs) (hG' : GoodR vs top' os) (h : CoRes ws top rs xs t zs c) (h' : CoRes vs top' os ys t' zs' c') (hs : Shp ws rs vs os) : t = t' ∧ (∀ i : Nat, (i : Int) < t → xs.getD i 0 = ys.getD i 0) ∧ zs = zs' := by
  obtain ⟨R, hI, hr⟩ := hs
  obtain ⟨K, h1, h2, h3, h4, rfl, rfl, _⟩ := h.good hG
  obtain ⟨K', g1, g2, g3, g4, rfl, rfl, _⟩ := h'.good hG'
  have hS := Sim.stage hI hr hG hG'
  have hk : (stage vs os K).ord.length = K := by rw [← (hS K).len]; exact h1
  have e : stage vs os K' = stage vs os K := by
    rcases Nat.le_total K K' with hk' | hk'
    · obtain ⟨d, rfl⟩ := Nat.exists_eq_add_of_le hk'
      exact stage_stays vs os K hk d
    · obtain ⟨d, rfl⟩ := Nat.exists_eq_add_of_le hk'
      exact (stage_stays vs os K' g1 d).symm
  have eK : K' = K := by rw [← g1, e, hk]
  subst eK
  have hSK := hS K'
  refine ⟨by rw [hSK.top], fun j hj => ?_, ?_⟩
  · have hj' : j < offs ws (stage ws rs K').ord K' := by
      have := h2.top; rw [h1] at this; omega
    obtain ⟨i, b, hi, hb, rfl⟩ := cover_offs ws _ K' j (by omega) hj'
    have hil : i < (stage ws rs K').ord.length := by omega
    have hil' : i < (stage vs os K').ord.length := by omega
    have hR := hSK.ord i hil
    have hob := hI.ob _ _ hR
    have eo : offs ws (stage ws rs K').ord i = offs vs (stage vs os K').ord i := by
      have a1 := h2.at_ i hil
      have a2 := g2.at_ i hil'
      have a3 := hSK.mv _ _ hR
      omega
    rw [h4.old i hi b hb, eo, g4.old i hi b (by rw [← hob.1]; exact hb)]
    unfold valC
    by_cases hb0 : b = 0
    · rw [if_pos hb0, if_pos hb0]; exact hob.1
    · rw [if_neg hb0, if_neg hb0]
      have := hob.2 (b - 1) (by omega)
      rw [show (stage ws rs K').ord.getD i 0 + 1 + (b - 1) = (stage ws rs K').ord.getD i 0 + b by omega, show (stage vs os K').ord.getD i 0 + 1 + (b - 1) = (stage vs os K').ord.getD i 0 + b by omega] at this
      exact mvd_rel hSK this
  · refine list_ext_getD (by rw [List.length_map, List.length_map, hr.1]) (fun i hi => ?_)
    rw [List.length_map] at hi
    have hi' : i < os.length := by rw [← hr.1]; exact hi
    have := hr.2 i hi
    have e1 : (rs.map (mvd (stage ws rs K').mv)).getD i 0 = mvd (stage ws rs K').mv (rs.getD i 0) := by simp [List.getD, List.getElem?_eq_getElem hi]
    have e2 : (os.map (mvd (stage vs os K').mv)).getD i 0 = mvd (stage vs os K').mv (os.getD i 0) := by simp [List.getD, List.getElem?_eq_getElem hi']
    rw [e1, e2]
    exact mvd_rel hSK this
theorem rl_of_mvd {R : Nat → Nat → Prop} {f f' : Nat → Int} {x y : Int} (h : mvd f x = mvd f' y) (hR : x % 4 = 1 → y % 4 = 1 → f (x / 4).toNat = f' (y / 4).toNat → R (x / 4).toNat (y / 4).toNat) : Rl R x y := by
  unfold mvd at h
  by_cases hx : x % 4 = 1
  · by_cases hy : y % 4 = 1
    · rw [if_pos hx, if_pos hy] at h
      exact Or.inl ⟨hx, hy, hR hx hy (by omega)⟩
    · rw [if_pos hx, if_neg hy] at h; omega
  · by_cases hy : y % 4 = 1
    · rw [if_neg hx, if_pos hy] at h; omega
    · rw [if_neg hx, if_neg hy] at h; exact Or.inr ⟨h, hx⟩
theorem Inv.index {ws : List Int} {T : Nat} {s : Cs} (h : Inv ws T s) {p : Nat} (hp : p ∈ s.ord) : ∃ i, i < s.ord.length ∧ s.ord.getD i 0 = p ∧ s.mv p = offs ws s.ord i := by
  obtain ⟨i, hi, e⟩ := List.getElem_of_mem hp
  have e' : s.ord.getD i 0 = p := by simp [List.getD, List.getElem?_eq_getElem hi, e]
  exact ⟨i, hi, e', by rw [← e']; exact h.at_ i hi⟩
theorem offs_inj (ws : List Int) (ord : List Nat) {a k : Nat} (ha : a < ord.length) (hk : k < ord.length) (h : offs ws ord a = offs ws ord k) : a = k := by
  rcases Nat.lt_trichotomy a k with h1 | h1 | h1
  · have h2 := offs_succ ws ord a ha
    have h3 := offs_mono ws ord (k - (a + 1)) (a + 1) (by omega)
    rw [show a + 1 + (k - (a + 1)) = k by omega] at h3
    omega
  · exact h1
  · have h2 := offs_succ ws ord k hk
    have h3 := offs_mono ws ord (a - (k + 1)) (k + 1) (by omega)
    rw [show k + 1 + (a - (k + 1)) = a by omega] at h3
    omega
theorem Inv.one {ws : List Int} {T : Nat} {s : Cs} (h : Inv ws T s) {p q : Nat} (hp : p ∈ s.ord) (hq : q ∈ s.ord) (e : s.mv p = s.mv q) : p = q := by
  obtain ⟨i, hi, rfl, h1⟩ := h.index hp
  obtain ⟨j, hj, rfl, h2⟩ := h.index hq
  have := offs_inj ws s.ord hi hj (by omega)
  rw [this]
theorem same_shp {ws rs vs os xs ys zs zs' : List Int} {t t' c c' top top' : Int} (hG : GoodR ws top rs) (hG' : GoodR vs top' os) (h : CoRes ws top rs xs t zs c) (h' : CoRes vs top' os ys t' zs' c') (hl : rs.length = os.length) (ht : t = t') (hw : ∀ i : Nat, (i : Int) < t → xs.getD i 0 = ys.getD i 0) (hz : zs = zs') : Shp ws rs vs os := by
  obtain ⟨K, h1, h2, h3, h4, rfl, rfl, _⟩ := h.good hG
  obtain ⟨K', g1, g2, g3, g4, rfl, rfl, _⟩ := h'.good hG'
  have hlenK : ∀ a, a < K → a < (stage ws rs a).ord.length := fun a ha => by
    rcases Nat.lt_or_ge a (stage ws rs a).ord.length with h5 | h5
    · exact h5
    · exfalso
      have hle : ∀ a, (stage ws rs a).ord.length ≤ a → ∀ d, stage ws rs (a + d) = stage ws rs a := fun a hle d => by
        induction d with
        | zero => rfl
        | succ d ih => rw [← Nat.add_assoc, stage, ih, if_neg (by omega)]
      obtain ⟨d, rfl⟩ : ∃ d, K = a + d := ⟨K - a, by omega⟩
      have := hle a h5 d
      rw [this] at h1; omega
  refine ⟨fun p q => p ∈ (stage ws rs K).ord ∧ q ∈ (stage vs os K').ord ∧ (stage ws rs K).mv p = (stage vs os K').mv q, ⟨?_, ?_, ?_⟩, hl, fun i hi => ?_⟩
  · rintro p q q' ⟨_, a2, a3⟩ ⟨_, b2, b3⟩
    exact g2.one a2 b2 (by rw [← a3, ← b3])
  · rintro p p' q ⟨a1, _, a3⟩ ⟨b1, _, b3⟩
    exact h2.one a1 b1 (by rw [a3, b3])
  · rintro p q ⟨a1, a2, a3⟩
    obtain ⟨i, hi, rfl, ei⟩ := h2.index a1
    obtain ⟨j, hj, rfl, ej⟩ := g2.index a2
    have eo : offs ws (stage ws rs K).ord i = offs vs (stage vs os K').ord j := by omega
    have htop := h2.top
    have hin : ∀ b, b ≤ cnt (ws.getD ((stage ws rs K).ord.getD i 0) 0) → offs ws (stage ws rs K).ord i + b < (stage ws rs K).top := fun b hb => by
      have a1 := offs_succ ws (stage ws rs K).ord i hi
      have a2 := offs_mono ws (stage ws rs K).ord ((stage ws rs K).ord.length - (i + 1)) (i + 1) (by omega)
      rw [show i + 1 + ((stage ws rs K).ord.length - (i + 1)) = (stage ws rs K).ord.length by omega] at a2
      omega
    have hhead : ws.getD ((stage ws rs K).ord.getD i 0) 0 = vs.getD ((stage vs os K').ord.getD j 0) 0 := by
      have := hw (offs ws (stage ws rs K).ord i + 0) (by have := hin 0 (by omega); omega)
      rw [h4.old i (by omega) 0 (by omega), eo, g4.old j (by omega) 0 (by omega)] at this
      simpa [valC] using this
    refine ⟨hhead, fun t ht => ?_⟩
    have := hw (offs ws (stage ws rs K).ord i + (t + 1)) (by have := hin (t + 1) (by omega); omega)
    rw [h4.old i (by omega) (t + 1) (by omega), eo, g4.old j (by omega) (t + 1) (by rw [← hhead]; omega)] at this
    unfold valC at this
    rw [if_neg (by omega), if_neg (by omega)] at this
    rw [show (stage ws rs K).ord.getD i 0 + 1 + t = (stage ws rs K).ord.getD i 0 + (t + 1) by omega, show (stage vs os K').ord.getD j 0 + 1 + t = (stage vs os K').ord.getD j 0 + (t + 1) by omega]
    refine rl_of_mvd this (fun hx hy e => ?_)
    have hp0 : 0 ≤ (stage ws rs K).mv (ws.getD ((stage ws rs K).ord.getD i 0 + (t + 1)) 0 / 4).toNat := by
      have := field_set hG hi (by omega) ht (by rw [Nat.add_assoc, Nat.add_comm 1 t]; exact hx) (hlenK i (by omega))
      rw [Nat.add_assoc, Nat.add_comm 1 t] at this
      exact this
    exact ⟨(h2.mem _).1 hp0, (g2.mem _).1 (by rw [← e]; exact hp0), e⟩
  · have hi' : i < os.length := by rw [← hl]; exact hi
    have e1 : (rs.map (mvd (stage ws rs K).mv)).getD i 0 = mvd (stage ws rs K).mv (rs.getD i 0) := by simp [List.getD, List.getElem?_eq_getElem hi]
    have e2 : (os.map (mvd (stage vs os K').mv)).getD i 0 = mvd (stage vs os K').mv (os.getD i 0) := by simp [List.getD, List.getElem?_eq_getElem hi']
    have e3 : mvd (stage ws rs K).mv (rs.getD i 0) = mvd (stage vs os K').mv (os.getD i 0) := by rw [← e1, ← e2, hz]
    refine rl_of_mvd e3 (fun hx hy e => ?_)
    have hp0 := root_set (ws := ws) K hi hx
    exact ⟨(h2.mem _).1 hp0, (g2.mem _).1 (by rw [← e]; exact hp0), e⟩
end Go.Proofs.YtmmkpmgidoelpaaDoor.Hp
