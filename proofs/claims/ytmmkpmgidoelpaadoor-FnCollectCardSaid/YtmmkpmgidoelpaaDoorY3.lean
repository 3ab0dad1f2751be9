import Derived.Test.YtmmkpmgidoelpaaDoorZ2
import Derived.Test.YtmmkpmgidoelpaaDoorZ1
import Derived.Test.YtmmkpmgidoelpaaDoorS1
import Derived.Test.YtmmkpmgidoelpaaDoorS7
namespace Go.Proofs.YtmmkpmgidoelpaaDoor.Hp
open Go.RowKit Ch2
/-- What is said of a finished collection. -/
structure Fin (ws rs : List Int) (top : Int) (s : Cs) (ys : List Int) : Prop where
  good : GoodR ws top rs
  inv : Inv ws top.toNat s
  len : ys.length = ws.length
  done : Done ws s ws.length ys s.ord.length 0
  root : ∀ i, i < rs.length → rs.getD i 0 % 4 = 1 → 0 ≤ s.mv (rs.getD i 0 / 4).toNat
  fld : ∀ a, a < s.ord.length → ∀ t, t < cnt (ws.getD (s.ord.getD a 0) 0) → ws.getD (s.ord.getD a 0 + 1 + t) 0 % 4 = 1 → 0 ≤ s.mv (ws.getD (s.ord.getD a 0 + 1 + t) 0 / 4).toNat
theorem CoRes.fin {ws rs ys zs : List Int} {top t c : Int} (h : CoRes ws top rs ys t zs c) (hG : GoodR ws top rs) : ∃ s, Fin ws rs top s ys ∧ t = s.top ∧ zs = rs.map (mvd s.mv) ∧ c = 0 := by
  obtain ⟨K, h1, h2, h3, h4, rfl, rfl, hc⟩ := h.good hG
  have hlenK : ∀ a, a < K → a < (stage ws rs a).ord.length := fun a ha => by
    rcases Nat.lt_or_ge a (stage ws rs a).ord.length with h5 | h5
    · exact h5
    · exfalso
      have hle : ∀ d, stage ws rs (a + d) = stage ws rs a := fun d => by
        induction d with
        | zero => rfl
        | succ d ih => rw [← Nat.add_assoc, stage, ih, if_neg (by omega)]
      obtain ⟨d, rfl⟩ : ∃ d, K = a + d := ⟨K - a, by omega⟩
      rw [hle d] at h1; omega
  refine ⟨stage ws rs K, ⟨hG, h2, h3, by rw [h1]; exact h4, fun i hi hx => root_set K hi hx, fun a ha t ht hx => ?_⟩, rfl, rfl, hc⟩
  rw [h1] at ha
  exact field_set hG (by rw [h1]; exact ha) ha ht hx (hlenK a ha)
/-- The word b of the copy of object i. -/
theorem Fin.at_ {ws rs ys : List Int} {top : Int} {s : Cs} (h : Fin ws rs top s ys) {i b : Nat} (hi : i < s.ord.length) (hb : b ≤ cnt (ws.getD (s.ord.getD i 0) 0)) : ys.getD (offs ws s.ord i + b) 0 = valC ws s i b := h.done.old i hi b hb
theorem Fin.head {ws rs ys : List Int} {top : Int} {s : Cs} (h : Fin ws rs top s ys) {i : Nat} (hi : i < s.ord.length) : ys.getD (offs ws s.ord i) 0 = ws.getD (s.ord.getD i 0) 0 := by
  have := h.at_ hi (Nat.zero_le _)
  simpa [valC] using this
theorem Fin.fields {ws rs ys : List Int} {top : Int} {s : Cs} (h : Fin ws rs top s ys) {i t : Nat} (hi : i < s.ord.length) (ht : t < cnt (ws.getD (s.ord.getD i 0) 0)) : ys.getD (offs ws s.ord i + 1 + t) 0 = mvd s.mv (ws.getD (s.ord.getD i 0 + 1 + t) 0) := by
  have := h.at_ hi (show t + 1 ≤ _ from ht)
  unfold valC at this
  rw [if_neg (by omega)] at this
  rw [Nat.add_assoc, Nat.add_comm 1 t, Nat.add_assoc (s.ord.getD i 0), Nat.add_comm 1 t]
  exact this
/-- An object and its copy's place. -/
def relC (s : Cs) (p q : Nat) : Prop := p ∈ s.ord ∧ (q : Int) = s.mv p
theorem Fin.rl {ws rs ys : List Int} {top : Int} {s : Cs} (h : Fin ws rs top s ys) {x : Int} (hx : x % 4 = 1 → 0 ≤ s.mv (x / 4).toNat) : Rl (relC s) x (mvd s.mv x) := by
  unfold mvd
  by_cases h1 : x % 4 = 1
  · rw [if_pos h1]
    have h0 := hx h1
    exact Or.inl ⟨h1, by omega, (h.inv.mem _).1 h0, by omega⟩
  · rw [if_neg h1]; exact Or.inr ⟨rfl, h1⟩
theorem Fin.iso {ws rs ys : List Int} {top : Int} {s : Cs} (h : Fin ws rs top s ys) : Iso ws ys (relC s) := by
  refine ⟨?_, ?_, ?_⟩
  · rintro p q q' ⟨_, a2⟩ ⟨_, b2⟩; omega
  · rintro p p' q ⟨a1, a2⟩ ⟨b1, b2⟩
    exact h.inv.one a1 b1 (by omega)
  · rintro p q ⟨a1, a2⟩
    obtain ⟨i, hi, rfl, ei⟩ := h.inv.index a1
    have eq : q = offs ws s.ord i := by omega
    subst eq
    refine ⟨(h.head hi).symm, fun t ht => ?_⟩
    rw [h.fields hi ht]
    exact h.rl (h.fld i hi t ht)
theorem Fin.roots {ws rs ys : List Int} {top : Int} {s : Cs} (h : Fin ws rs top s ys) : Rls rs (rs.map (mvd s.mv)) (relC s) := by
  refine ⟨by simp, fun i hi => ?_⟩
  have e : (rs.map (mvd s.mv)).getD i 0 = mvd s.mv (rs.getD i 0) := by simp [List.getD, List.getElem?_eq_getElem hi]
  rw [e]
  exact h.rl (h.root i hi)
/-- What is collected has the shape that it had. -/
theorem Fin.shp {ws rs ys : List Int} {top : Int} {s : Cs} (h : Fin ws rs top s ys) : Shp ws rs ys (rs.map (mvd s.mv)) := ⟨relC s, h.iso, h.roots⟩
/-- A pair has two fields. -/
theorem Fin.pair {ws rs ys : List Int} {top : Int} {s : Cs} (h : Fin ws rs top s ys) : ∀ p q, relC s p q → ws.getD p 0 % 4 = 0 → cnt (ws.getD p 0) = 2 := fun p _ hr hk => head_pair (h.good.good.heads p (h.inv.st p hr.1)).1 hk
theorem offs_lt (ws : List Int) (ord : List Nat) {i : Nat} (hi : i < ord.length) : offs ws ord i + 1 + cnt (ws.getD (ord.getD i 0) 0) ≤ offs ws ord ord.length := by
  have h1 := offs_succ ws ord i hi
  have h2 := offs_mono ws ord (ord.length - (i + 1)) (i + 1) (by omega)
  rw [show i + 1 + (ord.length - (i + 1)) = ord.length by omega] at h2
  omega
/-- The places of the copies. -/
theorem Fin.sq {ws rs ys : List Int} {top : Int} {s : Cs} (h : Fin ws rs top s ys) : ∀ j, j ≤ s.ord.length → Ch2.sq ys s.top j = offs ws s.ord j
  | 0, _ => by simp [Ch2.sq, offs]
  | j + 1, hj => by
    have ih := Fin.sq h j (by omega)
    have h1 := offs_lt ws s.ord (show j < s.ord.length by omega)
    have h2 := h.inv.top
    rw [sq_step (by rw [ih]; omega), ih, h.head (by omega), offs_succ ws s.ord j (by omega)]
    omega
theorem Fin.st {ws rs ys : List Int} {top : Int} {s : Cs} (h : Fin ws rs top s ys) (q : Nat) : St ys s.top q ↔ ∃ i, i < s.ord.length ∧ q = offs ws s.ord i := by
  have htop := h.inv.top
  constructor
  · rintro ⟨hq, k, rfl⟩
    rcases Nat.lt_or_ge k s.ord.length with hk | hk
    · exact ⟨k, hk, h.sq k (by omega)⟩
    · have e := h.sq s.ord.length (Nat.le_refl _)
      have := sq_mono ys s.top hk
      omega
  · rintro ⟨i, hi, rfl⟩
    have := offs_lt ws s.ord hi
    exact ⟨by omega, i, h.sq i (by omega)⟩
theorem Fin.word {ws rs ys : List Int} {top : Int} {s : Cs} (h : Fin ws rs top s ys) {x : Int} (hx : WordOk ws top.toNat x) (hm : x % 4 = 1 → 0 ≤ s.mv (x / 4).toNat) : WordOk ys s.top (mvd s.mv x) := by
  unfold mvd
  by_cases h1 : x % 4 = 1
  · rw [if_pos h1]
    have h0 := hm h1
    obtain ⟨i, hi, _, ei⟩ := h.inv.index ((h.inv.mem _).1 h0)
    refine Or.inr (Or.inr (Or.inl ⟨by omega, by omega, ?_⟩))
    rw [h.st]
    exact ⟨i, hi, by omega⟩
  · rw [if_neg h1]
    rcases hx with h' | h' | h' | h'
    · exact Or.inl h'
    · exact Or.inr (Or.inl h')
    · exact absurd h'.1 h1
    · exact Or.inr (Or.inr (Or.inr h'))
/-- What is collected is valid. -/
theorem Fin.goodR {ws rs ys : List Int} {top : Int} {s : Cs} (h : Fin ws rs top s ys) : GoodR ys s.top (rs.map (mvd s.mv)) := by
  have htn : ((s.top : Nat) : Int).toNat = s.top := by simp
  have htl := (h.inv.top_le (fun q hq => (h.good.good.heads q hq).2)).1
  have hhi := h.good.good.hi
  have hlo := h.good.good.lo
  have htop := h.inv.top
  have hst := h.st
  refine ⟨⟨by rw [h.len]; exact h.good.good.size, by omega, by rw [h.len]; omega, fun i h1 h2 => ?_, fun p hp => ?_, fun p hp => ?_, fun i h1 h2 => ?_⟩, by rw [List.length_map]; exact h.good.few, fun i hi => ?_⟩
  · exact h.done.rest i (by omega) (by rw [← h.len]; exact h2)
  · rw [htn] at hp ⊢
    obtain ⟨i, hi, rfl⟩ := (hst p).1 hp
    have hh := h.good.good.heads _ (h.inv.st _ (getD_mem hi))
    have := offs_lt ws s.ord hi
    exact ⟨by rw [h.head hi]; exact hh.1, by rw [h.head hi]; omega⟩
  · rw [htn] at hp
    obtain ⟨i, hi, rfl⟩ := (hst p).1 hp
    have hst' := h.inv.st _ (getD_mem hi)
    have hf := h.good.good.fns _ hst'
    have hh := h.good.good.heads _ hst'
    intro hk
    rw [h.head hi] at hk
    have hc := head_clo hh.1 hk
    have h2 := hf hk
    have e := h.fields hi (t := 0) (by omega)
    rw [Nat.add_zero, Nat.add_zero] at e
    rw [e]
    have hne : ¬ ws.getD (s.ord.getD i 0 + 1) 0 % 4 = 1 := by have := h2.2; omega
    unfold mvd
    rw [if_neg hne]
    exact h2
  · rw [htn] at h1 h2 ⊢
    rw [htop] at h1
    obtain ⟨a, b, ha, hb, rfl⟩ := cover_offs ws s.ord s.ord.length i (Nat.le_refl _) h1
    have hb0 : b ≠ 0 := fun e => h2 ((hst _).2 ⟨a, ha, by omega⟩)
    have hb' : b - 1 < cnt (ws.getD (s.ord.getD a 0) 0) := by omega
    have e := h.fields ha hb'
    rw [show offs ws s.ord a + 1 + (b - 1) = offs ws s.ord a + b by omega] at e
    rw [e]
    exact h.word (h.good.good.fields (h.inv.st _ (getD_mem ha)) (by omega) (by omega)) (h.fld a ha _ hb')
  · rw [List.length_map] at hi
    have e : (rs.map (mvd s.mv)).getD i 0 = mvd s.mv (rs.getD i 0) := by simp [List.getD, List.getElem?_eq_getElem hi]
    rw [e, htn]
    exact h.word (h.good.roots i hi) (h.root i hi)
/-- Collecting once more changes nothing. -/
theorem CoRes.again {ws rs ys zs ys2 zs2 : List Int} {top t t2 c c2 : Int} (hG : GoodR ws top rs) (h : CoRes ws top rs ys t zs c) (h2 : CoRes ys t zs ys2 t2 zs2 c2) : GoodR ys t zs ∧ Shp ws rs ys zs ∧ ys2 = ys ∧ t2 = t ∧ zs2 = zs ∧ c2 = 0 := by
  obtain ⟨s, hF, rfl, rfl, _⟩ := h.fin hG
  have hG2 := hF.goodR
  have hS := hF.shp
  obtain ⟨e1, e2, e3⟩ := shp_same hG hG2 h h2 hS
  obtain ⟨s2, hF2, ht2, _, hc2⟩ := h2.fin hG2
  refine ⟨hG2, hS, ?_, e1.symm, e3.symm, hc2⟩
  refine list_ext_getD hF2.len (fun j hj => ?_)
  rw [hF2.len] at hj
  by_cases hjt : (j : Int) < s.top
  · exact (e2 j hjt).symm
  · have a1 := hG2.good.rest j (by omega) hj
    have a2 := hF2.goodR.good.rest j (by rw [← ht2, ← e1]; omega) (by rw [hF2.len]; exact hj)
    rw [a1, a2]
end Go.Proofs.YtmmkpmgidoelpaaDoor.Hp
namespace Go.Proofs.YtmmkpmgidoelpaaDoor.Hp
open Go.RowKit Ch2 Ch2s
/-- Showers that show the same of the same words. -/
def SameG (R : Nat → Nat → Prop) (g g' : Int → List Int → List Int) : Prop := ∀ x y out, Rl R x y → g x out = g' y out
theorem isPr_rel {ws vs : List Int} {R : Nat → Nat → Prop} (hI : Iso ws vs R) {x y : Int} (h : Rl R x y) : isPr ws x = isPr vs y := by
  unfold isPr
  rcases h with ⟨h1, h2, h3⟩ | ⟨rfl, h1⟩
  · rw [(hI.ob _ _ h3).1, h1, h2]
  · rw [show decide (x % 4 = 1) = false from decide_eq_false h1]; rfl
theorem vecI_rel {ws vs : List Int} {R : Nat → Nat → Prop} {g g' : Int → List Int → List Int} (hg : SameG R g g') (p q : Nat) : ∀ r i out, (∀ t, t < i + r → Rl R (ws.getD (p + 1 + t) 0) (vs.getD (q + 1 + t) 0)) → vecI g ws p r i out = vecI g' vs q r i out
  | 0, _, _, _ => rfl
  | r + 1, i, out, h => by
    rw [vecI, vecI, hg _ _ _ (h i (by omega))]
    exact vecI_rel hg p q r (i + 1) _ (fun t ht => h t (by omega))
theorem prI_rel {ws vs : List Int} {R : Nat → Nat → Prop} {g g' : Int → List Int → List Int} (hI : Iso ws vs R) (hP : ∀ p q, R p q → ws.getD p 0 % 4 = 0 → cnt (ws.getD p 0) = 2) (hg : SameG R g g') : ∀ f x y out, Rl R x y → Rl R (prI g ws f x out).1 (prI g' vs f y out).1 ∧ (prI g ws f x out).2 = (prI g' vs f y out).2
  | 0, _, _, _, h => ⟨h, rfl⟩
  | f + 1, x, y, out, h => by
    rw [prI, prI, ← isPr_rel hI h]
    by_cases hc : out.length ≠ 1000 ∧ isPr ws x = true
    · rw [if_pos hc, if_pos hc]
      have hpr := hc.2
      unfold isPr at hpr
      simp only [Bool.and_eq_true, decide_eq_true_eq] at hpr
      rcases h with ⟨h1, h2, h3⟩ | ⟨_, h1⟩
      · have hc2 := hP _ _ h3 hpr.2
        have hob := (hI.ob _ _ h3).2
        have f0 := hob 0 (by omega)
        have f1 := hob 1 (by omega)
        rw [Nat.add_zero, Nat.add_zero] at f0
        rw [hg _ _ _ f0]
        exact prI_rel hI hP hg f _ _ _ f1
      · exact absurd hpr.1 h1
    · rw [if_neg hc, if_neg hc]
      exact ⟨h, rfl⟩
/-- The same is shown of the same words. -/
theorem shI_rel {ws vs : List Int} {R : Nat → Nat → Prop} (num sym rare : Int → List Int) (hI : Iso ws vs R) (hP : ∀ p q, R p q → ws.getD p 0 % 4 = 0 → cnt (ws.getD p 0) = 2) (hV : ∀ p q, R p q → ((cnt (ws.getD p 0) : Nat) : Int) = ws.getD p 0 / 4) : ∀ f, SameG R (shI num sym rare ws f) (shI num sym rare vs f)
  | 0, _, _, _, _ => rfl
  | f + 1, x, y, out, h => by
    have ih := shI_rel num sym rare hI hP hV f
    rcases h with ⟨h1, h2, h3⟩ | ⟨rfl, h1⟩
    · have hob := hI.ob _ _ h3
      rw [shI, shI, ← hob.1]
      by_cases ho : out.length = 1000
      · rw [if_pos ho, if_pos ho]
      rw [if_neg ho, if_neg ho, if_neg (show ¬ (x % 4 ≠ 1) from fun h => h h1), if_neg (show ¬ (y % 4 ≠ 1) from fun h => h h2)]
      by_cases k2 : ws.getD (x / 4).toNat 0 % 4 = 2
      · rw [if_pos k2, if_pos k2]
      rw [if_neg k2, if_neg k2]
      by_cases k3 : ws.getD (x / 4).toNat 0 % 4 = 3
      · rw [if_pos k3, if_pos k3]
      rw [if_neg k3, if_neg k3]
      by_cases k1 : ws.getD (x / 4).toNat 0 % 4 = 1
      · rw [if_pos k1, if_pos k1]
        have hcv := hV _ _ h3
        rw [vecI_rel ih (x / 4).toNat (y / 4).toNat _ 0 _ (fun t ht => hob.2 t (by omega))]
      · rw [if_neg k1, if_neg k1]
        have k0 : ws.getD (x / 4).toNat 0 % 4 = 0 := by omega
        have hc2 := hP _ _ h3 k0
        have f0 := hob.2 0 (by omega)
        have f1 := hob.2 1 (by omega)
        rw [Nat.add_zero, Nat.add_zero] at f0
        rw [ih _ _ _ f0]
        have hp := prI_rel hI hP ih 1001 _ _ (shI num sym rare vs f (vs.getD ((y / 4).toNat + 1) 0) (putT [40] out)) f1
        rw [show (x / 4).toNat + 2 = (x / 4).toNat + 1 + 1 by omega, show (y / 4).toNat + 2 = (y / 4).toNat + 1 + 1 by omega]
        generalize prI (shI num sym rare ws f) ws 1001 (ws.getD ((x / 4).toNat + 1 + 1) 0) (shI num sym rare vs f (vs.getD ((y / 4).toNat + 1) 0) (putT [40] out)) = A at hp ⊢
        generalize prI (shI num sym rare vs f) vs 1001 (vs.getD ((y / 4).toNat + 1 + 1) 0) (shI num sym rare vs f (vs.getD ((y / 4).toNat + 1) 0) (putT [40] out)) = C at hp ⊢
        obtain ⟨hr, he⟩ := hp
        have e3 : A.1 = 3 ↔ C.1 = 3 := by
          rcases hr with ⟨a1, a2, _⟩ | ⟨a1, _⟩
          · constructor <;> intro e <;> omega
          · rw [a1]
        rw [he]
        by_cases hA : A.1 = 3
        · rw [if_neg (fun h => h hA), if_neg (fun h => h (e3.1 hA))]
        · rw [if_pos hA, if_pos (fun h => hA (e3.2 h)), ih _ _ _ hr]
    · rw [shI, shI]
      by_cases ho : out.length = 1000
      · rw [if_pos ho, if_pos ho]
      rw [if_neg ho, if_neg ho, if_pos h1, if_pos h1]
theorem putT_pos {t o : List Int} (h : 0 < t.length) : 0 < (putT t o).length := by
  unfold putT
  rw [List.length_append, List.length_take]
  rcases Nat.eq_zero_or_pos o.length with h0 | h0
  · omega
  · omega
/-- Something is shown of every word. -/
theorem shI_pos {num sym rare : Int → List Int} {ws : List Int} {f : Nat} {x : Int} (h : ¬ x % 4 = 1 → 0 < (leafT num sym rare x).length) : 0 < (shI num sym rare ws (f + 1) x []).length := by
  rw [shI, if_neg (by simp)]
  by_cases h1 : x % 4 = 1
  · rw [if_neg (fun hn => hn h1)]
    split
    · exact putT_pos (by simp)
    · split
      · exact putT_pos (by simp)
      · split
        · exact putT_pos (by simp)
        · exact putT_pos (by simp)
  · rw [if_pos h1]
    exact putT_pos (h h1)
end Go.Proofs.YtmmkpmgidoelpaaDoor.Hp
namespace Go.Proofs.YtmmkpmgidoelpaaDoor.Hp
open Go.RowKit Ch2 Ch2s Ch1
theorem GoodR.single {ws rs : List Int} {top : Int} (h : GoodR ws top rs) {i : Nat} (hi : i < rs.length) : GoodR ws top [rs.getD i 0] := by
  refine ⟨h.good, by simp, fun j hj => ?_⟩
  have hj0 : j = 0 := by simpa using hj
  subst hj0
  exact h.roots i hi
/-- Each root shows what it showed. -/
theorem Fin.shown {ws rs ys : List Int} {top : Int} {s : Cs} (h : Fin ws rs top s ys) (ns : List (List Int)) {i : Nat} (hi : i < rs.length) : swZ ns ys ((rs.map (mvd s.mv)).getD i 0) = swZ ns ws (rs.getD i 0) := by
  unfold swZ
  refine (shI_rel _ _ _ h.iso h.pair (fun p q hr => ?_) 1001 _ _ [] ?_).symm
  · exact (head_cnt (h.good.good.heads p (h.inv.st p hr.1)).1).2.2.2
  · exact h.roots.2 i hi
theorem itoa_some (k : Int) : 0 < (itoaZ k).length := by
  have h : (Lib.itoa k).length = (itoaZ k).length := by unfold itoaZ; rw [nums_length]
  rw [← h]
  have hd : ∀ u, 0 < (Lib.decDigits u).length := fun u => by rw [Lib.decDigits]; split <;> simp
  unfold Lib.itoa
  split
  · simp
  · exact hd _
/-- Something is shown of every word. -/
theorem swZ_pos {ws : List Int} {top x : Int} (h : GoodR ws top [x]) : 0 < (swZ [[97], [98, 99]] ws x).length := by
  unfold swZ
  refine shI_pos fun h1 => ?_
  have hw := h.roots 0 (by simp)
  have hw : WordOk ws top.toNat x := hw
  unfold leafT
  split
  · exact itoa_some _
  · split
    · unfold symZ
      split
      · rename_i h2 h3 h4
        have hx0 : 0 ≤ x := by rcases hw with h | h | h | h <;> omega
        have h5 : x / 4 < 2 := by simpa using h4
        have h6 : x / 4 = 0 ∨ x / 4 = 1 := by omega
        rcases h6 with h6 | h6 <;> rw [h6] <;> decide
      · rw [List.length_append]
        have := itoa_some (x / 4)
        omega
    · unfold rareZ
      rw [nums_length]
      unfold rareA
      split
      · decide
      · split
        · decide
        · split
          · decide
          · split <;> decide
end Go.Proofs.YtmmkpmgidoelpaaDoor.Hp
