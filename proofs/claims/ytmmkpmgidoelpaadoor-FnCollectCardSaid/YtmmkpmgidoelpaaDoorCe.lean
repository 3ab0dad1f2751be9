import Derived.Test.YtmmkpmgidoelpaaDoorCc
import Derived.Test.YtmmkpmgidoelpaaDoorA5
import Derived.Test.YtmmkpmgidoelpaaDoorC5
namespace Go.Proofs.YtmmkpmgidoelpaaDoor.Hp
open Go.RowKit Ch2 Go.Maps
set_option maxRecDepth 20000 in
set_option maxHeartbeats 4000000 in
theorem move_nil (cb d : Nat) (p : Option Addr) (w : World) :
    Calls Tryd.prog 24 #[.pointer (some ⟨cb, 0, none⟩), .slice p 0 d] w fun e w' => e = .returned (.tuple #[]) ∧ w' = w := by
  go_enter Tryd.func24, Tryd.ntmps24
  go_wp2
  go_loop [8] (fun i => i = .int .i64 0) (fun _ => 0)
  case atStart => exact rfl
  case round =>
    obtain rfl := hrel
    go_wp2
    go_end0
    exact ⟨rfl, rfl⟩
set_option maxRecDepth 20000 in
set_option maxHeartbeats 4000000 in
theorem move_c (r ro m d cb : Nat) (us : List Int) (J : Nat → World → Prop) (w : World) (hJ : MovJ r ro m cb us J) (h0 : J 0 w) (hm : m ≤ 20000) :
    Calls Tryd.prog 24 #[.pointer (some ⟨cb, 0, none⟩), .slice (some ⟨r, ro, none⟩) m d] w fun e w' => e = .returned (.tuple #[]) ∧ J m w' := by
  have HJ : Hid (MovJ r ro m cb us J) := hJ
  have H0 : Hid (J 0 w) := h0
  clear hJ h0
  go_enter Tryd.func24, Tryd.ntmps24
  go_wp2
  go_loopw [8] (fun i wr => ∃ j : Nat, j ≤ m ∧ i = .int .i64 j ∧ Hid (J j wr)) (fun i _ => m - (intOf i).toNat)
  case atStart => exact ⟨0, Nat.zero_le _, rfl, H0⟩
  case round =>
    obtain ⟨j, hj, rfl, hJj⟩ := hrel
    by_cases hlt : j < m
    · have g1 := HJ.out.read j wr hlt hJj.out
      by_cases k1 : us.getD j 0 % 4 = 1
      · obtain ⟨q, hq, hpl⟩ := HJ.out.place j wr hlt hJj.out k1
        obtain ⟨x, hx⟩ : ∃ x, us.getD j 0 = x := ⟨_, rfl⟩
        rw [hx] at g1 k1 hq
        have HPL : Hid (Calls Tryd.prog 39 #[.pointer (some ⟨cb, 0, none⟩), .int .i64 (q : Int)] wr fun e w' => ∃ v : Nat, e = .returned (.int .i64 (v : Int)) ∧ v ≤ 20000 ∧ w'.frozen? ⟨r, ro + j, none⟩ = false ∧ (∃ y, w'.cell? ⟨r, ro + j, none⟩ = some y) ∧ J (j + 1) (w'.setCell ⟨r, ro + j, none⟩ (.int .i64 (4 * (v : Int) + 1)))) := hpl
        clear hpl hx
        go_wp2_with (first | (go_at_call 28; refine (tagOf_c x _).mono ?_; rintro e w2 ⟨rfl, hwx⟩; have hwy := hwx.symm; clear hwx; subst hwy; rw [k1]) | (go_at_call 29; refine (numberOf_c x _).mono ?_; rintro e w2 ⟨rfl, hwx⟩; have hwy := hwx.symm; clear hwx; subst hwy; rw [hq]) | (go_at_call 39; refine HPL.out.mono ?_; rintro e w2 ⟨v, rfl, hv, hf, ⟨y, hy⟩, hJ2⟩; have HJ2 : Hid (J (j + 1) (w2.setCell ⟨r, ro + j, none⟩ (.int .i64 (4 * (v : Int) + 1)))) := hJ2; clear hJ2) | (go_at_call 38; refine (wordOf_c 1 v _ (by omega) (by omega) (by omega) (by omega)).mono ?_; rintro e w4 ⟨rfl, hwx⟩; have hwy := hwx.symm; clear hwx; subst hwy))
        exact ⟨⟨j + 1, by omega, by go_num, HJ2.out⟩, by simp [intOf]; omega⟩
      · have HSK : Hid (J (j + 1) wr) := HJ.out.skip j wr hlt hJj.out k1
        obtain ⟨x, hx⟩ : ∃ x, us.getD j 0 = x := ⟨_, rfl⟩
        rw [hx] at g1 k1
        obtain ⟨y, hy⟩ : ∃ y, x % 4 = y := ⟨_, rfl⟩
        have e0 : (y == 1) = false := by rw [← hy]; simpa using k1
        clear hx
        go_wp2_with (go_at_call 28; refine (tagOf_c x _).mono ?_; rintro e w2 ⟨rfl, hwx⟩; have hwy := hwx.symm; clear hwx; subst hwy; rw [hy])
        exact ⟨⟨j + 1, by omega, by go_num, HSK.out⟩, by simp [intOf]; omega⟩
    · obtain rfl : j = m := by omega
      go_wp2
      go_end0
      exact ⟨rfl, hJj.out⟩
end Go.Proofs.YtmmkpmgidoelpaaDoor.Hp
namespace Go.Proofs.YtmmkpmgidoelpaaDoor.Hp
open Go.RowKit Ch2 Go.Maps
theorem Cp.below {w w' : World} {cb mb g n c T t N : Nat} {p : Option Addr} {D : DataW Unit} (h : Cp w cb mb g p n c T t N D) (hb : Below w.heap.size w w') : Cp w' cb mb g p n c T t N D := by
  have hl := h.to.lt
  refine ⟨by rw [hb.cell (p := ⟨cb, 0, none⟩) hl]; exact h.c0, by rw [hb.cell (p := ⟨cb, 1, none⟩) hl]; exact h.c1, h.to.below hb, by rw [hb.cell (p := ⟨cb, 4, none⟩) hl]; exact h.c4, ?_⟩
  have hm := h.own.lt
  obtain ⟨es, st, hh, rr⟩ := h.own
  exact ⟨es, st, by rw [hb.block mb hm]; exact hh, rr⟩
theorem Cst.below {w w' : World} {cb mb g n c T k i : Nat} {p : Option Addr} {ws xs : List Int} {s : Cs} {D : DataW Unit} (h : Cst w cb mb g p n c T ws s xs k i D) (hb : Below w.heap.size w w') : Cst w' cb mb g p n c T ws s xs k i D :=
  ⟨h.cp.below hb, h.mp, h.fr.below hb, h.pl, h.inv, h.src.below hb⟩
theorem Pl.rng {ws : List Int} {T n : Nat} {s : Cs} {xs : List Int} {k i : Nat} (h : Pl ws s n xs k i) (hv : Inv ws T s) (hw : ∀ i, -9223372036854775808 ≤ ws.getD i 0 ∧ ws.getD i 0 ≤ 9223372036854775807) (hf : ∀ j, -1 ≤ s.mv j ∧ s.mv j ≤ 20000) (j : Nat) : -9223372036854775808 ≤ xs.getD j 0 ∧ xs.getD j 0 ≤ 9223372036854775807 := by
  by_cases hj : j < n
  · rcases Nat.lt_or_ge j s.top with h1 | h1
    · rw [hv.top] at h1
      obtain ⟨a, b, h2, h3, rfl⟩ := cover_offs ws _ _ j (Nat.le_refl _) h1
      rw [h.obj a h2 b h3]
      unfold valP
      split
      · exact hw _
      · split
        · exact mvd_rng hf (hw _)
        · exact hw _
    · rw [h.rest j h1 hj]; omega
  · have : xs.getD j 0 = 0 := by simp [List.getD, List.getElem?_eq_none (show xs.length ≤ j by rw [h.len]; omega)]
    rw [this]; omega
/-- The moved roots. -/
def RtQ (w : World) (cb mb g : Nat) (B : Nat) (q : Option Addr) (rn d : Nat) (zs : List Int) : Prop := 0 < rn → ∃ r, q = some ⟨r, 0, none⟩ ∧ B ≤ r ∧ cb ≠ r ∧ mb ≠ r ∧ g ≠ r ∧ Fr w r rn d zs
theorem RtQ.below {w w' : World} {cb mb g B rn d : Nat} {q : Option Addr} {zs : List Int} (h : RtQ w cb mb g B q rn d zs) (hb : Below w.heap.size w w') : RtQ w' cb mb g B q rn d zs := fun h0 => by
  obtain ⟨r, e, h1, h2, h3, h4, h5⟩ := h h0
  exact ⟨r, e, h1, h2, h3, h4, h5.below hb⟩
theorem RtQ.three {w w' : World} {cb mb g B rn d : Nat} {q : Option Addr} {zs : List Int} (h : RtQ w cb mb g B q rn d zs) (ht : Three cb mb g w w') : RtQ w' cb mb g B q rn d zs := fun h0 => by
  obtain ⟨r, e, h1, h2, h3, h4, h5⟩ := h h0
  exact ⟨r, e, h1, h2, h3, h4, h5.of_block (ht.block r h5.lt (Ne.symm h2) (Ne.symm h3) (Ne.symm h4))⟩
theorem clone_any (p : Option Addr) (n c : Nat) (ws : List Int) (w : World) (h : Is w p n c ws) (hn2 : n ≤ 1048576) :
    Calls Tryd.prog 23 #[.slice p n c] w fun e w' => ∃ q d, e = .returned (.slice q n d) ∧ n ≤ d ∧ d ≤ maxLen ∧ (0 < n → ∃ r, q = some ⟨r, 0, none⟩ ∧ w.heap.size ≤ r ∧ Fr w' r n d ws) ∧ Below w.heap.size w w' := by
  by_cases hn : 0 < n
  · refine (clone_c p n c ws w h hn hn2).mono ?_
    rintro e w' ⟨g, cap, rfl, hg, hf, hb⟩
    exact ⟨_, cap, rfl, hf.le, hf.big, fun _ => ⟨g, rfl, hg, hf⟩, hb⟩
  · obtain rfl : n = 0 := by omega
    cases p with
    | none =>
      refine (clone_nil 0 c w).mono ?_
      rintro e w' ⟨rfl, rfl⟩
      exact ⟨none, 0, rfl, Nat.le_refl _, Nat.zero_le _, fun h => absurd h (Nat.lt_irrefl 0), Below.refl _ _⟩
    | some a =>
      refine (clone_zero a c w).mono ?_
      rintro e w' ⟨v', rfl, ho, _, hb⟩
      obtain ⟨_, ⟨rfl, _⟩ | ⟨g, cap, cur, rfl, hg, hh, h1, h2, _⟩⟩ := ho
      · exact ⟨none, 0, rfl, Nat.le_refl _, Nat.zero_le _, fun h => absurd h (Nat.lt_irrefl 0), hb⟩
      · exact ⟨_, cap, rfl, Nat.zero_le _, h2, fun h => absurd h (Nat.lt_irrefl 0), hb⟩
/-- The roots' move, with any roots. -/
theorem moveRoots_c (cb mb g n c T d rn B : Nat) (p q : Option Addr) (ws rs xs : List Int) (D : DataW Unit) (w : World) (hC : Cst w cb mb g p n c T ws cs0 xs 0 0 D) (hA : Apart cb mb g p n) (hG : GoodR ws (T : Int) rs) (hR : RtQ w cb mb g B q rn d rs) (hl : rs.length = rn) (h4 : ∀ r, q = some ⟨r, 0, none⟩ → 0 < rn → 0 < n → ∀ a, p = some a → a.block ≠ r) (hB1 : B ≤ cb) (hB2 : B ≤ mb) (hB3 : B ≤ g) (hB : B ≤ w.heap.size) :
    Calls Tryd.prog 24 #[.pointer (some ⟨cb, 0, none⟩), .slice q rn d] w fun e w' => e = .returned (.tuple #[]) ∧ ∃ xs D zs, Cst w' cb mb g p n c T ws (stage ws rs 0) xs 0 0 D ∧ RtQ w' cb mb g B q rn d zs ∧ Gone (stage ws rs 0).mv rs zs rn ∧ Below B w w' := by
  have hrn : rn ≤ 20000 := by have := hG.few; omega
  by_cases h0 : 0 < rn
  · obtain ⟨r, rfl, e1, e2, e3, e4, e5⟩ := hR h0
    subst hl
    have hJ := JA_mov (w0 := w) (B := B) (n := n) (c := c) (d := d) hG hA e2 e3 e4 (h4 r rfl h0) hB1 hB2 hB3 e1 hB
    refine (move_c r 0 rs.length d cb rs _ w hJ ⟨xs, D, rs, ?_, e5, ?_, Below.refl _ _⟩ hrn).mono ?_
    · simpa [visits] using hC
    · exact ⟨rfl, fun j _ => by rw [if_neg (Nat.not_lt_zero j)], fun j _ h => absurd h (Nat.not_lt_zero j)⟩
    · rintro e w' ⟨rfl, xs', D', zs, hC', hF, hZ, hb⟩
      rw [List.take_of_length_le (Nat.le_refl _)] at hC' hZ
      exact ⟨rfl, xs', D', zs, hC', fun _ => ⟨r, rfl, e1, e2, e3, e4, hF⟩, hZ, hb⟩
  · obtain rfl : rn = 0 := by omega
    obtain rfl : rs = [] := List.eq_nil_of_length_eq_zero hl
    refine (move_nil cb d q w).mono ?_
    rintro e w' ⟨rfl, rfl⟩
    exact ⟨rfl, xs, D, [], hC, fun h => absurd h (Nat.lt_irrefl 0), ⟨rfl, fun j hj => absurd hj (Nat.not_lt_zero j), fun j hj => absurd hj (Nat.not_lt_zero j)⟩, Below.refl _ _⟩
/-- The move of an object's fields, with any number of them. -/
theorem moveFields_c (cb mb g n c T d k m : Nat) (p q : Option Addr) (ws xs : List Int) (s : Cs) (D : DataW Unit) (w : World) (hC : Cst w cb mb g p n c T ws s xs k 0 D) (hA : Apart cb mb g p n) (hG : GoodH ws (T : Int)) (hn : n = ws.length) (hk : k < s.ord.length) (hm : m = cnt (ws.getD (s.ord.getD k 0) 0)) (hm1 : m ≤ 1000) (hq : 0 < m → q = some ⟨g, offs ws s.ord k + 1, none⟩) :
    Calls Tryd.prog 24 #[.pointer (some ⟨cb, 0, none⟩), .slice q m d] w fun e w' => e = .returned (.tuple #[]) ∧ ∃ xs D, Cst w' cb mb g p n c T ws (visits ws s (flds ws (s.ord.getD k 0))) xs (k + 1) 0 D ∧ Three cb mb g w w' := by
  by_cases h0 : 0 < m
  · obtain rfl := hq h0
    have hJ := JB_mov (w0 := w) (n := n) (c := c) (us := flds ws (s.ord.getD k 0)) hG hn hA hk hC.inv rfl hm
    have hst : St ws T (s.ord.getD k 0) := hC.inv.st _ (by simp [List.getD, List.getElem?_eq_getElem hk])
    obtain ⟨_, hft⟩ := head_fit hG hst
    have hT : T ≤ ws.length := by have := hG.hi; omega
    have hul : (flds ws (s.ord.getD k 0)).length = m := by rw [hm]; exact fld_len (by omega)
    refine (move_c g (offs ws s.ord k + 1) m d cb _ _ w hJ ⟨xs, D, ?_, Three.refl _ _ _ _⟩ (by omega)).mono ?_
    · simpa [visits] using hC
    · rintro e w' ⟨rfl, xs', D', hC', ht⟩
      rw [List.take_of_length_le (by omega)] at hC'
      refine ⟨rfl, xs', D', ⟨hC'.cp, hC'.mp, hC'.fr, Pl.next ?_, hC'.inv, hC'.src⟩, ht⟩
      rw [pre_getD (visits_pre ws _ s) hk, ← hm]
      exact hC'.pl
  · obtain rfl : m = 0 := by omega
    refine (move_nil cb d q w).mono ?_
    rintro e w' ⟨rfl, rfl⟩
    have hul : flds ws (s.ord.getD k 0) = [] := by unfold flds; rw [← hm]; simp [fld]
    refine ⟨rfl, xs, D, ?_, Three.refl _ _ _ _⟩
    rw [hul]
    have hpl := hC.pl
    rw [hm] at hpl
    exact ⟨hC.cp, hC.mp, hC.fr, hpl.next, hC.inv, hC.src⟩
/-- What stands when the copier is laid. -/
def CoLaid (w1 : World) (p : Option Addr) (n c T : Nat) (v : Value) (wc : World) : Prop := ∃ cb mb g, v = .pointer (some ⟨cb, 0, none⟩) ∧ Cp wc cb mb g p n c T 0 0 (.map []) ∧ Fr wc g n n (List.replicate n 0) ∧ cb ≠ g ∧ cb ≠ mb ∧ g ≠ mb ∧ w1.heap.size ≤ cb ∧ w1.heap.size ≤ mb ∧ w1.heap.size ≤ g ∧ Below w1.heap.size w1 wc
theorem MapIs.zero : MapIs (.map []) cs0.mv := ⟨⟨[], rfl⟩, fun p => (by simp [Maps.has, cs0]), fun p h => (by simp [cs0] at h)⟩
end Go.Proofs.YtmmkpmgidoelpaaDoor.Hp
