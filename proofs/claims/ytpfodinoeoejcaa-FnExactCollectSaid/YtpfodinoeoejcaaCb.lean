import Derived.Test.YtpfodinoeoejcaaCa
namespace Go.Proofs.Ytpfodinoeoejcaa
open Go.RowKit Ch2 Go.Maps
theorem Three.refl (x y z : Nat) (w : World) : Three x y z w w := ⟨rfl, rfl, rfl, Nat.le_refl _, fun _ _ _ _ _ => rfl⟩
theorem Three.trans {x y z : Nat} {a b c : World} (h : Three x y z a b) (k : Three x y z b c) : Three x y z a c :=
  ⟨k.os.trans h.os, k.tape.trans h.tape, k.output.trans h.output, Nat.le_trans h.size k.size, fun j hj h1 h2 h3 => (k.block j (Nat.lt_of_lt_of_le hj h.size) h1 h2 h3).trans (h.block j hj h1 h2 h3)⟩
theorem Three.below {x y z B : Nat} {w w' : World} (h : Three x y z w w') (h1 : B ≤ x) (h2 : B ≤ y) (h3 : B ≤ z) (hB : B ≤ w.heap.size) : Below B w w' :=
  ⟨h.os, h.tape, h.output, h.size, fun k hk => h.block k (by omega) (by omega) (by omega) (by omega)⟩
theorem Is.three {x y z : Nat} {w w' : World} {p : Option Addr} {n c : Nat} {xs : List Int} (h : Is w p n c xs) (ht : Three x y z w w') (hp : 0 < n → ∀ a, p = some a → a.block ≠ x ∧ a.block ≠ y ∧ a.block ≠ z) : Is w' p n c xs := by
  refine ⟨h.len, h.cap, h.big, h.rng, fun hn => ?_⟩
  obtain ⟨b, o, e, hlt, hc⟩ := h.cells hn
  obtain ⟨e1, e2, e3⟩ := hp hn _ e
  have := ht.size
  exact ⟨b, o, e, by omega, fun i hi => by rw [World.cell?_of_block (w := w) (ht.block b hlt e1 e2 e3)]; exact hc i hi⟩
/-- Where the copying stands: the copier's variable, the map, the new row, the old words. -/
structure Cst (w : World) (cb mb g : Nat) (p : Option Addr) (n c T : Nat) (ws : List Int) (s : Cs) (xs : List Int) (k i : Nat) (D : DataW Unit) : Prop where
  cp : Cp w cb mb g p n c T s.top s.ord.length D
  mp : MapIs D s.mv
  fr : Fr w g n n xs
  pl : Pl ws s n xs k i
  inv : Inv ws T s
  src : Is w p n c ws
/-- The blocks are not one. -/
structure Apart (cb mb g : Nat) (p : Option Addr) (n : Nat) : Prop where
  d1 : cb ≠ g
  d2 : cb ≠ mb
  d3 : g ≠ mb
  d4 : 0 < n → ∀ a, p = some a → a.block ≠ cb ∧ a.block ≠ g ∧ a.block ≠ mb
/-- What placeOf leaves. -/
def PlaceQ (cb mb g : Nat) (p : Option Addr) (n c T : Nat) (ws : List Int) (s : Cs) (k i m : Nat) (w w' : World) (e : Ending) : Prop := ∃ xs D, e = .returned (.int .i64 (s.mv m)) ∧ Cst w' cb mb g p n c T ws s xs k i D ∧ Three cb mb g w w'
theorem head_fit {ws : List Int} {T p : Nat} (h : GoodH ws (T : Int)) (hp : St ws T p) : headB (ws.getD p 0) = true ∧ p + 1 + cnt (ws.getD p 0) ≤ T := by
  have := h.heads p (by simpa using hp)
  simpa [HeadOk] using this
theorem top_fit {ws : List Int} {T : Nat} {s : Cs} (h : GoodH ws (T : Int)) (hv : Inv ws T s) : s.top ≤ T ∧ s.ord.length ≤ s.top := hv.top_le (fun _ hp => (head_fit h hp).2)
theorem place_c (cb mb g n c T k i m : Nat) (p : Option Addr) (ws xs : List Int) (s : Cs) (D : DataW Unit) (x : Int) (w : World) (hS : Cst w cb mb g p n c T ws s xs k i D) (hA : Apart cb mb g p n) (hG : GoodH ws (T : Int)) (hx : WordOk ws T x) (h1 : x % 4 = 1) (hm : x / 4 = m)
    (hk : ∀ b, 0 < b → ¬ (s.ord.length < k ∨ (s.ord.length = k ∧ b ≤ i))) :
    Calls Try.prog 72 #[.pointer (some ⟨cb, 0, none⟩), .int .i64 (m : Int)] w fun e w' => PlaceQ cb mb g p n c T ws (visit ws s x) k i m w w' e := by
  have hst : St ws T m := by
    rcases hx with h' | h' | h' | h'
    · omega
    · omega
    · have := h'.2.2; rw [hm] at this; simpa using this
    · omega
  have hlen := hS.src.len
  have hT : T ≤ n := by have := hG.hi; omega
  have hn : n ≤ 20000 := by have := hG.size; omega
  obtain ⟨hhd, hft⟩ := head_fit hG hst
  obtain ⟨_, _, hc1, hc2⟩ := head_cnt hhd
  have hmn : (x / 4).toNat = m := by omega
  rcases Int.lt_or_le (s.mv m) 0 with h0 | h0
  · have hv : visit ws s x = ⟨fun q => if q = m then (s.top : Int) else s.mv q, s.top + (1 + cnt (ws.getD m 0)), s.ord ++ [m]⟩ := visit_new h1 hmn h0
    have hinv : Inv ws T (visit ws s x) := hS.inv.visit hx
    obtain ⟨t1, t2⟩ := top_fit hG hinv
    obtain ⟨t3, t4⟩ := top_fit hG hS.inv
    have t5 : s.top + 1 + cnt (ws.getD m 0) ≤ n := by rw [hv] at t1; simp only at t1; omega
    refine (placeOf_new cb mb g n c T s.top s.ord.length m (cnt (ws.getD m 0)) p D s.mv ws xs w hS.cp hS.mp hS.src hS.fr hc2.symm hc1 (by omega) t5 hn h0 (by omega) hA.d1 hA.d2 hA.d3 (hA.d4 (by omega))).mono ?_
    rintro e w' ⟨rfl, hcp, hfr, ht⟩
    refine ⟨putO xs s.top (ws.getD m 0) (fld ws m (cnt (ws.getD m 0))), D.put (.int .i64 (m : Int)) (.lit (.int .i64 (s.top : Int))), ?_, ⟨?_, ?_, hfr, ?_, hinv, ?_⟩, ht⟩
    · rw [hv]; simp
    · rw [hv]
      simp only [List.length_append, List.length_singleton]
      rw [← Nat.add_assoc]
      exact hcp
    · rw [hv]; exact hS.mp.put m s.top
    · rw [hv]; exact hS.pl.new hS.inv h0 rfl t5 (by omega) hk
    · exact hS.src.three ht (fun h0 a ha => by obtain ⟨e1, e2, e3⟩ := hA.d4 h0 a ha; exact ⟨e1, e3, e2⟩)
  · have hv : visit ws s x = s := visit_not (fun h => by rw [hmn] at h; omega)
    rw [hv]
    refine (placeOf_old cb mb g n c T s.top s.ord.length m p D s.mv w hS.cp hS.mp (by omega) h0).mono ?_
    rintro e w' ⟨rfl, rfl⟩
    exact ⟨xs, D, rfl, hS, Three.refl _ _ _ _⟩
/-- Where move stands: i words of us are gone through. -/
structure MovJ (r ro m : Nat) (cb : Nat) (us : List Int) (J : Nat → World → Prop) : Prop where
  read : ∀ i w, i < m → J i w → w.cell? ⟨r, ro + i, none⟩ = some (.int .i64 (us.getD i 0))
  skip : ∀ i w, i < m → J i w → ¬ us.getD i 0 % 4 = 1 → J (i + 1) w
  place : ∀ i w, i < m → J i w → us.getD i 0 % 4 = 1 → ∃ q : Nat, us.getD i 0 / 4 = q ∧ Calls Try.prog 72 #[.pointer (some ⟨cb, 0, none⟩), .int .i64 (q : Int)] w fun e w' => ∃ v : Nat, e = .returned (.int .i64 (v : Int)) ∧ v ≤ 20000 ∧ w'.frozen? ⟨r, ro + i, none⟩ = false ∧ (∃ y, w'.cell? ⟨r, ro + i, none⟩ = some y) ∧ J (i + 1) (w'.setCell ⟨r, ro + i, none⟩ (.int .i64 (4 * (v : Int) + 1)))
  drew : ∀ i w, J i w → J i w.drew
end Go.Proofs.Ytpfodinoeoejcaa
