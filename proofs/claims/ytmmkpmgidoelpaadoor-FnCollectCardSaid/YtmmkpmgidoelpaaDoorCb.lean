import Derived.Test.YtmmkpmgidoelpaaDoorZ2
import Derived.Test.YtmmkpmgidoelpaaDoorC8
namespace Go.Proofs.YtmmkpmgidoelpaaDoor.Hp
open Go.RowKit Ch2 Go.Maps
/-- The word b of object a in the copy, where the first k objects and i fields of the next are moved. -/
def valP (ws : List Int) (s : Cs) (k i a b : Nat) : Int := if b = 0 then ws.getD (s.ord.getD a 0) 0 else if a < k ∨ (a = k ∧ b ≤ i) then mvd s.mv (ws.getD (s.ord.getD a 0 + b) 0) else ws.getD (s.ord.getD a 0 + b) 0
/-- All objects that were come to are laid; the first k and i fields of the next are moved; the rest is 0. -/
structure Pl (ws : List Int) (s : Cs) (n : Nat) (xs : List Int) (k i : Nat) : Prop where
  len : xs.length = n
  obj : ∀ a, a < s.ord.length → ∀ b, b ≤ cnt (ws.getD (s.ord.getD a 0) 0) → xs.getD (offs ws s.ord a + b) 0 = valP ws s k i a b
  rest : ∀ j, s.top ≤ j → j < n → xs.getD j 0 = 0
  set : ∀ a, a < s.ord.length → ∀ b, b ≤ cnt (ws.getD (s.ord.getD a 0) 0) → 0 < b → (a < k ∨ (a = k ∧ b ≤ i)) → ws.getD (s.ord.getD a 0 + b) 0 % 4 = 1 → 0 ≤ s.mv (ws.getD (s.ord.getD a 0 + b) 0 / 4).toNat
theorem Pl.zero (ws : List Int) (n : Nat) : Pl ws cs0 n (List.replicate n 0) 0 0 := by
  refine ⟨by simp, fun a ha => absurd ha (Nat.not_lt_zero a), fun j _ hj => by simp [List.getD, hj], fun a ha => absurd ha (Nat.not_lt_zero a)⟩
theorem offs_in (ws : List Int) (ord : List Nat) {a b : Nat} (ha : a < ord.length) (hb : b ≤ cnt (ws.getD (ord.getD a 0) 0)) : offs ws ord a + b < offs ws ord ord.length := by
  have h1 := offs_succ ws ord a ha
  have h2 := offs_mono ws ord (ord.length - (a + 1)) (a + 1) (by omega)
  rw [show a + 1 + (ord.length - (a + 1)) = ord.length by omega] at h2
  omega
theorem offs_apart (ws : List Int) (ord : List Nat) {a b k i : Nat} (ha : a < ord.length) (hb : b ≤ cnt (ws.getD (ord.getD a 0) 0)) (hk : k < ord.length) (hi : i ≤ cnt (ws.getD (ord.getD k 0) 0)) (h : offs ws ord a + b = offs ws ord k + i) : a = k ∧ b = i := by
  rcases Nat.lt_trichotomy a k with h1 | h1 | h1
  · have h2 := offs_succ ws ord a ha
    have h3 := offs_mono ws ord (k - (a + 1)) (a + 1) (by omega)
    rw [show a + 1 + (k - (a + 1)) = k by omega] at h3
    omega
  · subst h1; exact ⟨rfl, by omega⟩
  · have h2 := offs_succ ws ord k hk
    have h3 := offs_mono ws ord (a - (k + 1)) (k + 1) (by omega)
    rw [show k + 1 + (a - (k + 1)) = a by omega] at h3
    omega
theorem Pl.new {ws : List Int} {T n : Nat} {s : Cs} {xs : List Int} {k i m cq : Nat} (h : Pl ws s n xs k i) (hv : Inv ws T s) (hm : s.mv m < 0) (hc : cnt (ws.getD m 0) = cq) (hf : s.top + 1 + cq ≤ n) (hw : m + 1 + cq ≤ ws.length)
    (hk : ∀ b, 0 < b → ¬ (s.ord.length < k ∨ (s.ord.length = k ∧ b ≤ i))) :
    Pl ws ⟨fun q => if q = m then (s.top : Int) else s.mv q, s.top + (1 + cnt (ws.getD m 0)), s.ord ++ [m]⟩ n (putO xs s.top (ws.getD m 0) (fld ws m cq)) k i := by
  have hfl : (fld ws m cq).length = cq := fld_len hw
  have hxl := h.len
  have hget : ∀ j, (putO xs s.top (ws.getD m 0) (fld ws m cq)).getD j 0 = if j = s.top then ws.getD m 0 else if s.top < j ∧ j < s.top + 1 + cq then (fld ws m cq).getD (j - (s.top + 1)) 0 else xs.getD j 0 := fun j => by
    rw [putO_getD (by omega)]; unfold cellO; rw [hfl]
  have hold : ∀ a, a < s.ord.length → (s.ord ++ [m]).getD a 0 = s.ord.getD a 0 := fun a ha => by simp [List.getD, List.getElem?_append_left ha]
  have hnew : (s.ord ++ [m]).getD s.ord.length 0 = m := by simp [List.getD]
  have htop := hv.top
  refine ⟨by rw [putO_len (by omega)]; exact hxl, fun a ha b hb => ?_, fun j h1 h2 => ?_, fun a ha b hb h0 hmv hx => ?_⟩
  · rw [List.length_append, List.length_singleton] at ha
    by_cases e : a < s.ord.length
    · simp only [hold a e] at hb
      show (putO xs s.top (ws.getD m 0) (fld ws m cq)).getD (offs ws (s.ord ++ [m]) a + b) 0 = _
      have hin := offs_in ws s.ord e hb
      rw [offs_snoc _ _ _ _ (Nat.le_of_lt e), hget, if_neg (by omega), if_neg (by omega), h.obj a e b hb]
      unfold valP
      simp only [hold a e]
      by_cases h0 : b = 0
      · rw [if_pos h0, if_pos h0]
      · rw [if_neg h0, if_neg h0]
        by_cases h3 : a < k ∨ (a = k ∧ b ≤ i)
        · rw [if_pos h3, if_pos h3]
          unfold mvd
          by_cases h4 : ws.getD (s.ord.getD a 0 + b) 0 % 4 = 1
          · have := h.set a e b hb (by omega) h3 h4
            rw [if_pos h4, if_pos h4]
            show _ = 4 * (if (ws.getD (s.ord.getD a 0 + b) 0 / 4).toNat = m then (s.top : Int) else s.mv (ws.getD (s.ord.getD a 0 + b) 0 / 4).toNat) + 1
            rw [if_neg (fun e5 => by rw [e5] at this; omega)]
          · rw [if_neg h4, if_neg h4]
        · rw [if_neg h3, if_neg h3]
    · have e1 : a = s.ord.length := by omega
      subst e1
      simp only [hnew] at hb
      rw [hc] at hb
      show (putO xs s.top (ws.getD m 0) (fld ws m cq)).getD (offs ws (s.ord ++ [m]) s.ord.length + b) 0 = _
      rw [offs_snoc _ _ _ _ (Nat.le_refl _), ← htop, hget]
      unfold valP
      simp only [hnew]
      by_cases h0 : b = 0
      · rw [if_pos h0, if_pos (by omega)]
      · rw [if_neg h0, if_neg (by omega), if_pos ⟨by omega, by omega⟩, if_neg (hk b (by omega)), fld_getD (by omega), show m + 1 + (s.top + b - (s.top + 1)) = m + b by omega]
  · simp only at h1
    rw [hget, if_neg (by omega), if_neg (by omega)]
    exact h.rest j (by omega) h2
  · rw [List.length_append, List.length_singleton] at ha
    by_cases e : a < s.ord.length
    · simp only [hold a e] at hb hx ⊢
      have := h.set a e b hb h0 hmv hx
      split
      · omega
      · exact this
    · have e1 : a = s.ord.length := by omega
      subst e1
      exact absurd hmv (hk b h0)
theorem Pl.store {ws : List Int} {T n : Nat} {s : Cs} {xs ys : List Int} {k i : Nat} {x : Int} (h : Pl ws s n xs k i) (hv : Inv ws T s) (htn : s.top ≤ n) (hk : k < s.ord.length) (hi : i < cnt (ws.getD (s.ord.getD k 0) 0)) (hx : ws.getD (s.ord.getD k 0 + (i + 1)) 0 = x) (hs : x % 4 = 1 → 0 ≤ s.mv (x / 4).toNat) (hl : ys.length = n) (hy : ∀ j, j < n → ys.getD j 0 = if j = offs ws s.ord k + (i + 1) then mvd s.mv x else xs.getD j 0) : Pl ws s n ys k (i + 1) := by
  have htop := hv.top
  refine ⟨hl, fun a ha b hb => ?_, fun j h1 h2 => ?_, fun a ha b hb h0 hmv hx' => ?_⟩
  · have hin := offs_in ws s.ord ha hb
    rw [hy _ (by omega)]
    by_cases e : offs ws s.ord a + b = offs ws s.ord k + (i + 1)
    · obtain ⟨rfl, rfl⟩ := offs_apart ws s.ord ha hb hk (by omega) e
      rw [if_pos rfl]
      unfold valP
      rw [if_neg (by omega), if_pos (Or.inr ⟨rfl, Nat.le_refl _⟩), hx]
    · rw [if_neg e, h.obj a ha b hb]
      unfold valP
      by_cases h0 : b = 0
      · rw [if_pos h0, if_pos h0]
      · rw [if_neg h0, if_neg h0]
        by_cases h3 : a < k ∨ (a = k ∧ b ≤ i)
        · rw [if_pos h3, if_pos (by omega)]
        · rw [if_neg h3, if_neg (fun h4 => by rcases h4 with h4 | ⟨rfl, h4⟩ <;> first | omega | exact e (by rw [show b = i + 1 by omega]))]
  · have hin := offs_in ws s.ord hk (show i + 1 ≤ _ from hi)
    rw [hy _ h2, if_neg (by omega)]
    exact h.rest j h1 h2
  · by_cases h3 : a < k ∨ (a = k ∧ b ≤ i)
    · exact h.set a ha b hb h0 h3 hx'
    · have e1 : a = k ∧ b = i + 1 := by omega
      obtain ⟨rfl, rfl⟩ := e1
      rw [hx] at hx' ⊢
      exact hs hx'
theorem Pl.skip {ws : List Int} {T n : Nat} {s : Cs} {xs : List Int} {k i : Nat} {x : Int} (h : Pl ws s n xs k i) (hv : Inv ws T s) (htn : s.top ≤ n) (hk : k < s.ord.length) (hi : i < cnt (ws.getD (s.ord.getD k 0) 0)) (hx : ws.getD (s.ord.getD k 0 + (i + 1)) 0 = x) (hs : ¬ x % 4 = 1) : Pl ws s n xs k (i + 1) := by
  refine h.store hv htn hk hi hx (fun e => absurd e hs) h.len (fun j _ => ?_)
  split
  · rename_i e
    rw [e, h.obj k hk (i + 1) hi]
    unfold valP mvd
    rw [if_neg (by omega), if_neg (by omega), if_neg hs, hx]
  · rfl
theorem Pl.next {ws : List Int} {n : Nat} {s : Cs} {xs : List Int} {k : Nat} (h : Pl ws s n xs k (cnt (ws.getD (s.ord.getD k 0) 0))) : Pl ws s n xs (k + 1) 0 := by
  have key : ∀ a b, 0 < b → b ≤ cnt (ws.getD (s.ord.getD a 0) 0) → ((a < k + 1 ∨ (a = k + 1 ∧ b ≤ 0)) ↔ (a < k ∨ (a = k ∧ b ≤ cnt (ws.getD (s.ord.getD k 0) 0)))) := fun a b h0 hb => by
    constructor
    · rintro (h1 | ⟨_, h1⟩)
      · by_cases e : a = k
        · subst e; exact Or.inr ⟨rfl, hb⟩
        · exact Or.inl (by omega)
      · omega
    · rintro (h1 | ⟨h1, _⟩) <;> exact Or.inl (by omega)
  refine ⟨h.len, fun a ha b hb => ?_, h.rest, fun a ha b hb h0 hmv hx => h.set a ha b hb h0 ((key a b h0 hb).1 hmv) hx⟩
  rw [h.obj a ha b hb]
  unfold valP
  by_cases h0 : b = 0
  · rw [if_pos h0, if_pos h0]
  · rw [if_neg h0, if_neg h0]
    have := key a b (by omega) hb
    by_cases h3 : a < k ∨ (a = k ∧ b ≤ cnt (ws.getD (s.ord.getD k 0) 0))
    · rw [if_pos h3, if_pos (this.2 h3)]
    · rw [if_neg h3, if_neg (fun h4 => h3 (this.1 h4))]
theorem Pl.done {ws : List Int} {T n : Nat} {s : Cs} {xs : List Int} {K i : Nat} (h : Pl ws s n xs K i) (hv : Inv ws T s) (hK : s.ord.length = K) : Done ws s n xs K 0 := by
  refine ⟨fun a ha b hb => ?_, fun b hb => absurd hb (Nat.not_lt_zero b), fun j h1 h2 => h.rest j (by rw [hv.top, hK]; exact h1) h2⟩
  rw [h.obj a (by omega) b hb]
  unfold valP valC
  by_cases h0 : b = 0
  · rw [if_pos h0, if_pos h0]
  · rw [if_neg h0, if_neg h0, if_pos (Or.inl ha)]
end Go.Proofs.YtmmkpmgidoelpaaDoor.Hp
namespace Go.Proofs.YtmmkpmgidoelpaaDoor.Hp
open Go.RowKit Ch2 Go.Maps
theorem Three.refl (x y z : Nat) (w : World) : Three x y z w w := ⟨rfl, rfl, rfl, Nat.le_refl _, fun _ _ _ _ _ => rfl⟩
theorem Three.trans {x y z : Nat} {a b c : World} (h : Three x y z a b) (k : Three x y z b c) : Three x y z a c :=
  ⟨k.os.trans h.os, k.tape.trans h.tape, k.output.trans h.output, Nat.le_trans h.size k.size, fun j hj h1 h2 h3 => (k.block j (Nat.lt_of_lt_of_le hj h.size) h1 h2 h3).trans (h.block j hj h1 h2 h3)⟩
theorem Three.below {x y z B : Nat} {w w' : World} (h : Three x y z w w') (h1 : B ≤ x) (h2 : B ≤ y) (h3 : B ≤ z) (hB : B ≤ w.heap.size) : Below B w w' :=
  ⟨h.os, h.tape, h.output, h.size, fun k hk => h.block k (by omega) (by omega) (by omega) (by omega)⟩
theorem Is.three {x y z : Nat} {w w' : World} {p : Option Addr} {n c : Nat} {xs : List Int} (h : Is w p n c xs) (ht : Three x y z w w') (hp : 0 < n → ∀ a, p = some a → a.block ≠ x ∧ a.block ≠ y ∧ a.block ≠ z) : Is w' p n c xs := by
  refine ⟨h.len, h.cap, h.big, h.rng, fun hn => ?_⟩
  obtain ⟨b, o, e, hlt, hc⟩ := h.cells hn
  obtain ⟨e1, e2, e3⟩ := hp hn _ e
  have := ht.size
  exact ⟨b, o, e, by omega, fun i hi => by rw [World.cell?_of_block (w := w) (ht.block b hlt e1 e2 e3)]; exact hc i hi⟩
/-- Where the copying stands: the copier's variable, the map, the new row, the old words. -/
structure Cst (w : World) (cb mb g : Nat) (p : Option Addr) (n c T : Nat) (ws : List Int) (s : Cs) (xs : List Int) (k i : Nat) (D : DataW Unit) : Prop where
  cp : Cp w cb mb g p n c T s.top s.ord.length D
  mp : MapIs D s.mv
  fr : Fr w g n n xs
  pl : Pl ws s n xs k i
  inv : Inv ws T s
  src : Is w p n c ws
/-- The blocks are not one. -/
structure Apart (cb mb g : Nat) (p : Option Addr) (n : Nat) : Prop where
  d1 : cb ≠ g
  d2 : cb ≠ mb
  d3 : g ≠ mb
  d4 : 0 < n → ∀ a, p = some a → a.block ≠ cb ∧ a.block ≠ g ∧ a.block ≠ mb
/-- What placeOf leaves. -/
def PlaceQ (cb mb g : Nat) (p : Option Addr) (n c T : Nat) (ws : List Int) (s : Cs) (k i m : Nat) (w w' : World) (e : Ending) : Prop := ∃ xs D, e = .returned (.int .i64 (s.mv m)) ∧ Cst w' cb mb g p n c T ws s xs k i D ∧ Three cb mb g w w'
theorem head_fit {ws : List Int} {T p : Nat} (h : GoodH ws (T : Int)) (hp : St ws T p) : headB (ws.getD p 0) = true ∧ p + 1 + cnt (ws.getD p 0) ≤ T := by
  have := h.heads p (by simpa using hp)
  simpa [HeadOk] using this
theorem top_fit {ws : List Int} {T : Nat} {s : Cs} (h : GoodH ws (T : Int)) (hv : Inv ws T s) : s.top ≤ T ∧ s.ord.length ≤ s.top := hv.top_le (fun _ hp => (head_fit h hp).2)
theorem place_c (cb mb g n c T k i m : Nat) (p : Option Addr) (ws xs : List Int) (s : Cs) (D : DataW Unit) (x : Int) (w : World) (hS : Cst w cb mb g p n c T ws s xs k i D) (hA : Apart cb mb g p n) (hG : GoodH ws (T : Int)) (hx : WordOk ws T x) (h1 : x % 4 = 1) (hm : x / 4 = m)
    (hk : ∀ b, 0 < b → ¬ (s.ord.length < k ∨ (s.ord.length = k ∧ b ≤ i))) :
    Calls Tryd.prog 39 #[.pointer (some ⟨cb, 0, none⟩), .int .i64 (m : Int)] w fun e w' => PlaceQ cb mb g p n c T ws (visit ws s x) k i m w w' e := by
  have hst : St ws T m := by
    rcases hx with h' | h' | h' | h'
    · omega
    · omega
    · have := h'.2.2; rw [hm] at this; simpa using this
    · omega
  have hlen := hS.src.len
  have hT : T ≤ n := by have := hG.hi; omega
  have hn : n ≤ 20000 := by have := hG.size; omega
  obtain ⟨hhd, hft⟩ := head_fit hG hst
  obtain ⟨_, _, hc1, hc2⟩ := head_cnt hhd
  have hmn : (x / 4).toNat = m := by omega
  rcases Int.lt_or_le (s.mv m) 0 with h0 | h0
  · have hv : visit ws s x = ⟨fun q => if q = m then (s.top : Int) else s.mv q, s.top + (1 + cnt (ws.getD m 0)), s.ord ++ [m]⟩ := visit_new h1 hmn h0
    have hinv : Inv ws T (visit ws s x) := hS.inv.visit hx
    obtain ⟨t1, t2⟩ := top_fit hG hinv
    obtain ⟨t3, t4⟩ := top_fit hG hS.inv
    have t5 : s.top + 1 + cnt (ws.getD m 0) ≤ n := by rw [hv] at t1; simp only at t1; omega
    refine (placeOf_new cb mb g n c T s.top s.ord.length m (cnt (ws.getD m 0)) p D s.mv ws xs w hS.cp hS.mp hS.src hS.fr hc2.symm hc1 (by omega) t5 hn h0 (by omega) hA.d1 hA.d2 hA.d3 (hA.d4 (by omega))).mono ?_
    rintro e w' ⟨rfl, hcp, hfr, ht⟩
    refine ⟨putO xs s.top (ws.getD m 0) (fld ws m (cnt (ws.getD m 0))), D.put (.int .i64 (m : Int)) (.lit (.int .i64 (s.top : Int))), ?_, ⟨?_, ?_, hfr, ?_, hinv, ?_⟩, ht⟩
    · rw [hv]; simp
    · rw [hv]
      simp only [List.length_append, List.length_singleton]
      rw [← Nat.add_assoc]
      exact hcp
    · rw [hv]; exact hS.mp.put m s.top
    · rw [hv]; exact hS.pl.new hS.inv h0 rfl t5 (by omega) hk
    · exact hS.src.three ht (fun h0 a ha => by obtain ⟨e1, e2, e3⟩ := hA.d4 h0 a ha; exact ⟨e1, e3, e2⟩)
  · have hv : visit ws s x = s := visit_not (fun h => by rw [hmn] at h; omega)
    rw [hv]
    refine (placeOf_old cb mb g n c T s.top s.ord.length m p D s.mv w hS.cp hS.mp (by omega) h0).mono ?_
    rintro e w' ⟨rfl, rfl⟩
    exact ⟨xs, D, rfl, hS, Three.refl _ _ _ _⟩
/-- Where move stands: i words of us are gone through. -/
structure MovJ (r ro m : Nat) (cb : Nat) (us : List Int) (J : Nat → World → Prop) : Prop where
  read : ∀ i w, i < m → J i w → w.cell? ⟨r, ro + i, none⟩ = some (.int .i64 (us.getD i 0))
  skip : ∀ i w, i < m → J i w → ¬ us.getD i 0 % 4 = 1 → J (i + 1) w
  place : ∀ i w, i < m → J i w → us.getD i 0 % 4 = 1 → ∃ q : Nat, us.getD i 0 / 4 = q ∧ Calls Tryd.prog 39 #[.pointer (some ⟨cb, 0, none⟩), .int .i64 (q : Int)] w fun e w' => ∃ v : Nat, e = .returned (.int .i64 (v : Int)) ∧ v ≤ 20000 ∧ w'.frozen? ⟨r, ro + i, none⟩ = false ∧ (∃ y, w'.cell? ⟨r, ro + i, none⟩ = some y) ∧ J (i + 1) (w'.setCell ⟨r, ro + i, none⟩ (.int .i64 (4 * (v : Int) + 1)))
  drew : ∀ i w, J i w → J i w.drew
end Go.Proofs.YtmmkpmgidoelpaaDoor.Hp
