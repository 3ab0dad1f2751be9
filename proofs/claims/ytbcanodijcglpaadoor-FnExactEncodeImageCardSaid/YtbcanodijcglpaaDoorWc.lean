import Derived.Test.YtbcanodijcglpaaDoorWb
namespace Go.Proofs.YtbcanodijcglpaaDoor
open Go.RowKit Ch1
theorem drop_cons (ds : List Dt) (i : Nat) (h : i < ds.length) : ds.drop i = ds.getD i dt0 :: ds.drop (i + 1) := by
  rw [List.drop_eq_getElem_cons h]; simp [List.getD, List.getElem?_eq_getElem h]
theorem endZ_past (ds : List Dt) (k i : Nat) (h : ds.length ≤ i) : endZ ds k i = -1 := by
  unfold endZ; rw [List.drop_eq_nil_of_le h, skip_nil]
theorem endZ_bad (ds : List Dt) (k i : Nat) (h : i < ds.length) (hg : goodB (ds.getD i dt0) = false) : endZ ds k i = -1 := by
  unfold endZ; rw [drop_cons ds i h, skip_bad _ _ _ hg]
theorem good_atom {d : Dt} (hg : goodB d = true) (hk : d.kind ≠ 3) : d.count = 0 := by
  obtain ⟨kind, n, t, count⟩ := d
  simp only at hk
  by_cases h0 : kind = 0
  · subst h0; rw [good_int n count t t.length rfl] at hg; simp at hg; exact hg.2
  by_cases h1 : kind = 1
  · subst h1; rw [good_bool n count t t.length rfl] at hg; simp at hg; exact hg.2
  by_cases h2 : kind = 2
  · subst h2; rw [good_sym n count t] at hg; simp at hg; exact hg.2
  rw [good_other kind n count t (beq_eq_false_iff_ne.2 h0) (beq_eq_false_iff_ne.2 h1) (beq_eq_false_iff_ne.2 h2) (beq_eq_false_iff_ne.2 hk)] at hg
  cases hg
theorem endZ_many (ds : List Dt) (k i : Nat) (h : i < ds.length) (hg : goodB (ds.getD i dt0) = true) (hc : (ds.length : Int) < (ds.getD i dt0).count) : endZ ds k i = -1 := by
  have hk : (ds.getD i dt0).kind = 3 := by
    by_cases hk : (ds.getD i dt0).kind = 3
    · exact hk
    · have := good_atom hg hk; omega
  unfold endZ
  rw [drop_cons ds i h]
  cases k with
  | zero => rw [skip_deep _ _ hk]
  | succ k =>
    rw [skip_list k _ _ hg hk, skipN_many (skip_eats k)]
    rw [List.length_drop]; omega
theorem endZ_atom (ds : List Dt) (k i : Nat) (h : i < ds.length) (hg : goodB (ds.getD i dt0) = true) (hk : (ds.getD i dt0).kind ≠ 3) : endZ ds k i = i + 1 := by
  unfold endZ; rw [drop_cons ds i h, skip_atom _ _ _ hg hk]
  simp only [List.length_drop]; omega
theorem endZ_deep (ds : List Dt) (i : Nat) (h : i < ds.length) (hk : (ds.getD i dt0).kind = 3) : endZ ds 0 i = -1 := by
  unfold endZ; rw [drop_cons ds i h, skip_deep _ _ hk]
theorem endZ_list_none (ds : List Dt) (k i : Nat) (h : i < ds.length) (hg : goodB (ds.getD i dt0) = true) (hk : (ds.getD i dt0).kind = 3)
    (hs : skipN (skip k) (ds.getD i dt0).count.toNat (ds.drop (i + 1)) = none) : endZ ds (k + 1) i = -1 := by
  unfold endZ; rw [drop_cons ds i h, skip_list k _ _ hg hk, hs]
theorem endZ_list_some (ds : List Dt) (k i j : Nat) (h : i < ds.length) (hg : goodB (ds.getD i dt0) = true) (hk : (ds.getD i dt0).kind = 3) (hj : j ≤ ds.length)
    (hs : skipN (skip k) (ds.getD i dt0).count.toNat (ds.drop (i + 1)) = some (ds.drop j)) : endZ ds (k + 1) i = j := by
  unfold endZ; rw [drop_cons ds i h, skip_list k _ _ hg hk, hs]
  simp only [List.length_drop]; omega
theorem endZ_some (ds : List Dt) (k i : Nat) (r : List Dt) (h : skip k (ds.drop i) = some r) : ∃ j, i < j ∧ j ≤ ds.length ∧ r = ds.drop j ∧ endZ ds k i = j := by
  obtain ⟨a, h1, h2, rfl⟩ := skip_eats k _ _ h
  rw [List.length_drop] at h2
  refine ⟨i + a, by omega, by omega, by rw [List.drop_drop], ?_⟩
  unfold endZ; rw [h]
  simp only [List.length_drop]; omega
theorem endZ_none (ds : List Dt) (k i : Nat) (h : skip k (ds.drop i) = none) : endZ ds k i = -1 := by
  unfold endZ; rw [h]
theorem Da.at {w : World} {p : Option Addr} {n c : Nat} {ds : List Dt} (h : Da w p n c ds) {i : Nat} (hi : i < n) : ∃ b o tp tn tc, p = some ⟨b, o, none⟩ ∧ b < w.heap.size ∧ El w b (o + i * 4) (ds.getD i dt0) tp tn tc := by
  obtain ⟨b, o, e, hb, g⟩ := h.cells (by omega)
  obtain ⟨tp, tn, tc, he⟩ := g i hi
  exact ⟨b, o, tp, tn, tc, e, hb, he⟩
set_option maxHeartbeats 1000000 in
theorem end16_past (deep : Nat) (p : Option Addr) (n c i : Nat) (ds : List Dt) (a : Int) (w : World) (hD : Da w p n c ds) (hi : n ≤ i) :
    Calls Tryd.prog 51 #[.slice p n c, .int .i64 i, .int .i64 a] w fun e w' => e = .returned (.int .i64 (endZ ds deep i)) ∧ Below w.heap.size w w' := by
  have HF : Hid (endZ ds deep i = -1) := endZ_past ds deep i (by rw [hD.len]; exact hi)
  clear hD
  go_enter Tryd.func51, Tryd.ntmps51
  go_wp2
  go_ret
  exact ⟨ret_int HF.out.symm, Below.refl _ _⟩
set_option maxHeartbeats 1000000 in
theorem end16_bad (deep : Nat) (p : Option Addr) (n c i : Nat) (ds : List Dt) (a : Int) (w : World) (hD : Da w p n c ds) (hi : i < n) (hg : goodB (ds.getD i dt0) = false) :
    Calls Tryd.prog 51 #[.slice p n c, .int .i64 i, .int .i64 a] w fun e w' => e = .returned (.int .i64 (endZ ds deep i)) ∧ Below w.heap.size w w' := by
  have HF : Hid (endZ ds deep i = -1) := endZ_bad ds deep i (by rw [hD.len]; exact hi) hg
  have hdec : decide ((n : Int) ≤ (i : Int)) = false := by simp; omega
  obtain ⟨b, o, tp, tn, tc, rfl, hbl, he⟩ := hD.at hi
  generalize ds.getD i dt0 = d at he hg
  have HY : Hid (By w tp tn tc d.text) := he.by_
  have e0 := he.c0
  have e1 := he.c1
  have e2 := he.c2
  have e3 := he.c3
  clear hD he
  go_enter Tryd.func51, Tryd.ntmps51
  go_wp2_with (go_at_call 63; refine (good29 d _ _ _ _ HY.out).mono ?_; rintro e w1 ⟨rfl, hb1⟩; rw [hg])
  go_ret
  exact ⟨ret_int HF.out.symm, hb1⟩
set_option maxHeartbeats 1000000 in
theorem end16_many (deep : Nat) (p : Option Addr) (n c i : Nat) (ds : List Dt) (a : Int) (w : World) (hD : Da w p n c ds) (hi : i < n) (hg : goodB (ds.getD i dt0) = true) (hc : (n : Int) < (ds.getD i dt0).count) :
    Calls Tryd.prog 51 #[.slice p n c, .int .i64 i, .int .i64 a] w fun e w' => e = .returned (.int .i64 (endZ ds deep i)) ∧ Below w.heap.size w w' := by
  have HF : Hid (endZ ds deep i = -1) := endZ_many ds deep i (by rw [hD.len]; exact hi) hg (by rw [hD.len]; exact hc)
  have hdec : decide ((n : Int) ≤ (i : Int)) = false := by simp; omega
  obtain ⟨b, o, tp, tn, tc, rfl, hbl, he⟩ := hD.at hi
  generalize ds.getD i dt0 = d at he hg hc
  have hdec2 : decide ((n : Int) < d.count) = true := by simpa using hc
  have HE : Hid (El w b (o + i * 4) d tp tn tc) := he
  have HY : Hid (By w tp tn tc d.text) := he.by_
  have e0 := he.c0
  have e1 := he.c1
  have e2 := he.c2
  have e3 := he.c3
  clear hD he
  go_enter Tryd.func51, Tryd.ntmps51
  go_wp2_with (go_at_call 63; refine (good29 d _ _ _ _ HY.out).mono ?_; rintro e w1 ⟨rfl, hb1⟩; rw [hg]; clear e0 e1 e2 e3; have e3 := (HE.out.below hbl hb1).c3)
  go_ret
  exact ⟨ret_int HF.out.symm, hb1⟩
set_option maxHeartbeats 1000000 in
theorem end16_atom (deep : Nat) (p : Option Addr) (n c i : Nat) (ds : List Dt) (a : Int) (w : World) (hD : Da w p n c ds) (hi : i < n) (hg : goodB (ds.getD i dt0) = true) (hc : (ds.getD i dt0).count ≤ (n : Int)) (hk : (ds.getD i dt0).kind ≠ 3) :
    Calls Tryd.prog 51 #[.slice p n c, .int .i64 i, .int .i64 a] w fun e w' => e = .returned (.int .i64 (endZ ds deep i)) ∧ Below w.heap.size w w' := by
  have HF : Hid (endZ ds deep i = i + 1) := endZ_atom ds deep i (by rw [hD.len]; exact hi) hg hk
  have hdec : decide ((n : Int) ≤ (i : Int)) = false := by simp; omega
  have hbig : n ≤ 9223372036854775807 := by have := hD.cap; have := hD.big; unfold maxLen at this; omega
  obtain ⟨b, o, tp, tn, tc, rfl, hbl, he⟩ := hD.at hi
  generalize ds.getD i dt0 = d at he hg hc hk
  have hdec2 : decide ((n : Int) < d.count) = false := by simp; omega
  have hk' : (d.kind != 3) = true := by simpa using hk
  clear hk
  have HE : Hid (El w b (o + i * 4) d tp tn tc) := he
  have HY : Hid (By w tp tn tc d.text) := he.by_
  have e0 := he.c0
  have e1 := he.c1
  have e2 := he.c2
  have e3 := he.c3
  clear hD he
  go_enter Tryd.func51, Tryd.ntmps51
  go_wp2_with (go_at_call 63; refine (good29 d _ _ _ _ HY.out).mono ?_; rintro e w1 ⟨rfl, hb1⟩; rw [hg]; clear e0 e1 e2 e3; have e0 := (HE.out.below hbl hb1).c0; have e3 := (HE.out.below hbl hb1).c3)
  go_ret
  exact ⟨ret_int HF.out.symm, hb1⟩
set_option maxHeartbeats 1000000 in
theorem end16_deep (p : Option Addr) (n c i : Nat) (ds : List Dt) (w : World) (hD : Da w p n c ds) (hi : i < n) (hg : goodB (ds.getD i dt0) = true) (hc : (ds.getD i dt0).count ≤ (n : Int)) (hk : (ds.getD i dt0).kind = 3) :
    Calls Tryd.prog 51 #[.slice p n c, .int .i64 i, .int .i64 0] w fun e w' => e = .returned (.int .i64 (endZ ds 0 i)) ∧ Below w.heap.size w w' := by
  have HF : Hid (endZ ds 0 i = -1) := endZ_deep ds i (by rw [hD.len]; exact hi) hk
  have hdec : decide ((n : Int) ≤ (i : Int)) = false := by simp; omega
  obtain ⟨b, o, tp, tn, tc, rfl, hbl, he⟩ := hD.at hi
  generalize ds.getD i dt0 = d at he hg hc hk
  have hdec2 : decide ((n : Int) < d.count) = false := by simp; omega
  have hk' : (d.kind != 3) = false := by simp [hk]
  clear hk
  have HE : Hid (El w b (o + i * 4) d tp tn tc) := he
  have HY : Hid (By w tp tn tc d.text) := he.by_
  have e0 := he.c0
  have e1 := he.c1
  have e2 := he.c2
  have e3 := he.c3
  clear hD he
  go_enter Tryd.func51, Tryd.ntmps51
  go_wp2_with (go_at_call 63; refine (good29 d _ _ _ _ HY.out).mono ?_; rintro e w1 ⟨rfl, hb1⟩; rw [hg]; clear e0 e1 e2 e3; have e0 := (HE.out.below hbl hb1).c0; have e3 := (HE.out.below hbl hb1).c3)
  go_ret
  exact ⟨ret_int HF.out.symm, hb1⟩
end Go.Proofs.YtbcanodijcglpaaDoor
