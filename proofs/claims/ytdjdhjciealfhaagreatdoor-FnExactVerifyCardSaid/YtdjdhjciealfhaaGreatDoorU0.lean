import Derived.Test.YtdjdhjciealfhaaGreatDoorWb
import Derived.Test.YtdjdhjciealfhaaGreatDoorM2
namespace Go.Proofs.YtdjdhjciealfhaaGreatDoor
open Go.RowKit Ch1
theorem drop_cons (ds : List Dt) (i : Nat) (h : i < ds.length) : ds.drop i = ds.getD i dt0 :: ds.drop (i + 1) := by
  rw [List.drop_eq_getElem_cons h]; simp [List.getD, List.getElem?_eq_getElem h]
theorem endZ_past (ds : List Dt) (k i : Nat) (h : ds.length ≤ i) : endZ ds k i = -1 := by
  unfold endZ; rw [List.drop_eq_nil_of_le h, skip_nil]
theorem endZ_bad (ds : List Dt) (k i : Nat) (h : i < ds.length) (hg : goodB (ds.getD i dt0) = false) : endZ ds k i = -1 := by
  unfold endZ; rw [drop_cons ds i h, skip_bad _ _ _ hg]
theorem good_atom {d : Dt} (hg : goodB d = true) (hk : d.kind ≠ 3) : d.count = 0 := by
  obtain ⟨kind, n, t, count⟩ := d
  simp only at hk
  by_cases h0 : kind = 0
  · subst h0; rw [good_int n count t t.length rfl] at hg; simp at hg; exact hg.2
  by_cases h1 : kind = 1
  · subst h1; rw [good_bool n count t t.length rfl] at hg; simp at hg; exact hg.2
  by_cases h2 : kind = 2
  · subst h2; rw [good_sym n count t] at hg; simp at hg; exact hg.2
  rw [good_other kind n count t (beq_eq_false_iff_ne.2 h0) (beq_eq_false_iff_ne.2 h1) (beq_eq_false_iff_ne.2 h2) (beq_eq_false_iff_ne.2 hk)] at hg
  cases hg
theorem endZ_many (ds : List Dt) (k i : Nat) (h : i < ds.length) (hg : goodB (ds.getD i dt0) = true) (hc : (ds.length : Int) < (ds.getD i dt0).count) : endZ ds k i = -1 := by
  have hk : (ds.getD i dt0).kind = 3 := by
    by_cases hk : (ds.getD i dt0).kind = 3
    · exact hk
    · have := good_atom hg hk; omega
  unfold endZ
  rw [drop_cons ds i h]
  cases k with
  | zero => rw [skip_deep _ _ hk]
  | succ k =>
    rw [skip_list k _ _ hg hk, skipN_many (skip_eats k)]
    rw [List.length_drop]; omega
theorem endZ_atom (ds : List Dt) (k i : Nat) (h : i < ds.length) (hg : goodB (ds.getD i dt0) = true) (hk : (ds.getD i dt0).kind ≠ 3) : endZ ds k i = i + 1 := by
  unfold endZ; rw [drop_cons ds i h, skip_atom _ _ _ hg hk]
  simp only [List.length_drop]; omega
theorem endZ_deep (ds : List Dt) (i : Nat) (h : i < ds.length) (hk : (ds.getD i dt0).kind = 3) : endZ ds 0 i = -1 := by
  unfold endZ; rw [drop_cons ds i h, skip_deep _ _ hk]
theorem endZ_list_none (ds : List Dt) (k i : Nat) (h : i < ds.length) (hg : goodB (ds.getD i dt0) = true) (hk : (ds.getD i dt0).kind = 3)
    (hs : skipN (skip k) (ds.getD i dt0).count.toNat (ds.drop (i + 1)) = none) : endZ ds (k + 1) i = -1 := by
  unfold endZ; rw [drop_cons ds i h, skip_list k _ _ hg hk, hs]
theorem endZ_list_some (ds : List Dt) (k i j : Nat) (h : i < ds.length) (hg : goodB (ds.getD i dt0) = true) (hk : (ds.getD i dt0).kind = 3) (hj : j ≤ ds.length)
    (hs : skipN (skip k) (ds.getD i dt0).count.toNat (ds.drop (i + 1)) = some (ds.drop j)) : endZ ds (k + 1) i = j := by
  unfold endZ; rw [drop_cons ds i h, skip_list k _ _ hg hk, hs]
  simp only [List.length_drop]; omega
theorem endZ_some (ds : List Dt) (k i : Nat) (r : List Dt) (h : skip k (ds.drop i) = some r) : ∃ j, i < j ∧ j ≤ ds.length ∧ r = ds.drop j ∧ endZ ds k i = j := by
  obtain ⟨a, h1, h2, rfl⟩ := skip_eats k _ _ h
  rw [List.length_drop] at h2
  refine ⟨i + a, by omega, by omega, by rw [List.drop_drop], ?_⟩
  unfold endZ; rw [h]
  simp only [List.length_drop]; omega
theorem endZ_none (ds : List Dt) (k i : Nat) (h : skip k (ds.drop i) = none) : endZ ds k i = -1 := by
  unfold endZ; rw [h]
theorem Da.at {w : World} {p : Option Addr} {n c : Nat} {ds : List Dt} (h : Da w p n c ds) {i : Nat} (hi : i < n) : ∃ b o tp tn tc, p = some ⟨b, o, none⟩ ∧ b < w.heap.size ∧ El w b (o + i * 4) (ds.getD i dt0) tp tn tc := by
  obtain ⟨b, o, e, hb, g⟩ := h.cells (by omega)
  obtain ⟨tp, tn, tc, he⟩ := g i hi
  exact ⟨b, o, tp, tn, tc, e, hb, he⟩
set_option maxHeartbeats 1000000 in
theorem end16_past (deep : Nat) (p : Option Addr) (n c i : Nat) (ds : List Dt) (a : Int) (w : World) (hD : Da w p n c ds) (hi : n ≤ i) :
    Calls Tryz.prog 57 #[.slice p n c, .int .i64 i, .int .i64 a] w fun e w' => e = .returned (.int .i64 (endZ ds deep i)) ∧ Below w.heap.size w w' := by
  have HF : Hid (endZ ds deep i = -1) := endZ_past ds deep i (by rw [hD.len]; exact hi)
  clear hD
  go_enter Tryz.func57, Tryz.ntmps57
  go_wp2
  go_ret
  exact ⟨ret_int HF.out.symm, Below.refl _ _⟩
set_option maxHeartbeats 1000000 in
theorem end16_bad (deep : Nat) (p : Option Addr) (n c i : Nat) (ds : List Dt) (a : Int) (w : World) (hD : Da w p n c ds) (hi : i < n) (hg : goodB (ds.getD i dt0) = false) :
    Calls Tryz.prog 57 #[.slice p n c, .int .i64 i, .int .i64 a] w fun e w' => e = .returned (.int .i64 (endZ ds deep i)) ∧ Below w.heap.size w w' := by
  have HF : Hid (endZ ds deep i = -1) := endZ_bad ds deep i (by rw [hD.len]; exact hi) hg
  have hdec : decide ((n : Int) ≤ (i : Int)) = false := by simp; omega
  obtain ⟨b, o, tp, tn, tc, rfl, hbl, he⟩ := hD.at hi
  generalize ds.getD i dt0 = d at he hg
  have HY : Hid (By w tp tn tc d.text) := he.by_
  have e0 := he.c0
  have e1 := he.c1
  have e2 := he.c2
  have e3 := he.c3
  clear hD he
  go_enter Tryz.func57, Tryz.ntmps57
  go_wp2_with (go_at_call 84; refine (good29 d _ _ _ _ HY.out).mono ?_; rintro e w1 ⟨rfl, hb1⟩; rw [hg])
  go_ret
  exact ⟨ret_int HF.out.symm, hb1⟩
set_option maxHeartbeats 1000000 in
theorem end16_many (deep : Nat) (p : Option Addr) (n c i : Nat) (ds : List Dt) (a : Int) (w : World) (hD : Da w p n c ds) (hi : i < n) (hg : goodB (ds.getD i dt0) = true) (hc : (n : Int) < (ds.getD i dt0).count) :
    Calls Tryz.prog 57 #[.slice p n c, .int .i64 i, .int .i64 a] w fun e w' => e = .returned (.int .i64 (endZ ds deep i)) ∧ Below w.heap.size w w' := by
  have HF : Hid (endZ ds deep i = -1) := endZ_many ds deep i (by rw [hD.len]; exact hi) hg (by rw [hD.len]; exact hc)
  have hdec : decide ((n : Int) ≤ (i : Int)) = false := by simp; omega
  obtain ⟨b, o, tp, tn, tc, rfl, hbl, he⟩ := hD.at hi
  generalize ds.getD i dt0 = d at he hg hc
  have hdec2 : decide ((n : Int) < d.count) = true := by simpa using hc
  have HE : Hid (El w b (o + i * 4) d tp tn tc) := he
  have HY : Hid (By w tp tn tc d.text) := he.by_
  have e0 := he.c0
  have e1 := he.c1
  have e2 := he.c2
  have e3 := he.c3
  clear hD he
  go_enter Tryz.func57, Tryz.ntmps57
  go_wp2_with (go_at_call 84; refine (good29 d _ _ _ _ HY.out).mono ?_; rintro e w1 ⟨rfl, hb1⟩; rw [hg]; clear e0 e1 e2 e3; have e3 := (HE.out.below hbl hb1).c3)
  go_ret
  exact ⟨ret_int HF.out.symm, hb1⟩
set_option maxHeartbeats 1000000 in
theorem end16_atom (deep : Nat) (p : Option Addr) (n c i : Nat) (ds : List Dt) (a : Int) (w : World) (hD : Da w p n c ds) (hi : i < n) (hg : goodB (ds.getD i dt0) = true) (hc : (ds.getD i dt0).count ≤ (n : Int)) (hk : (ds.getD i dt0).kind ≠ 3) :
    Calls Tryz.prog 57 #[.slice p n c, .int .i64 i, .int .i64 a] w fun e w' => e = .returned (.int .i64 (endZ ds deep i)) ∧ Below w.heap.size w w' := by
  have HF : Hid (endZ ds deep i = i + 1) := endZ_atom ds deep i (by rw [hD.len]; exact hi) hg hk
  have hdec : decide ((n : Int) ≤ (i : Int)) = false := by simp; omega
  have hbig : n ≤ 9223372036854775807 := by have := hD.cap; have := hD.big; unfold maxLen at this; omega
  obtain ⟨b, o, tp, tn, tc, rfl, hbl, he⟩ := hD.at hi
  generalize ds.getD i dt0 = d at he hg hc hk
  have hdec2 : decide ((n : Int) < d.count) = false := by simp; omega
  have hk' : (d.kind != 3) = true := by simpa using hk
  clear hk
  have HE : Hid (El w b (o + i * 4) d tp tn tc) := he
  have HY : Hid (By w tp tn tc d.text) := he.by_
  have e0 := he.c0
  have e1 := he.c1
  have e2 := he.c2
  have e3 := he.c3
  clear hD he
  go_enter Tryz.func57, Tryz.ntmps57
  go_wp2_with (go_at_call 84; refine (good29 d _ _ _ _ HY.out).mono ?_; rintro e w1 ⟨rfl, hb1⟩; rw [hg]; clear e0 e1 e2 e3; have e0 := (HE.out.below hbl hb1).c0; have e3 := (HE.out.below hbl hb1).c3)
  go_ret
  exact ⟨ret_int HF.out.symm, hb1⟩
set_option maxHeartbeats 1000000 in
theorem end16_deep (p : Option Addr) (n c i : Nat) (ds : List Dt) (w : World) (hD : Da w p n c ds) (hi : i < n) (hg : goodB (ds.getD i dt0) = true) (hc : (ds.getD i dt0).count ≤ (n : Int)) (hk : (ds.getD i dt0).kind = 3) :
    Calls Tryz.prog 57 #[.slice p n c, .int .i64 i, .int .i64 0] w fun e w' => e = .returned (.int .i64 (endZ ds 0 i)) ∧ Below w.heap.size w w' := by
  have HF : Hid (endZ ds 0 i = -1) := endZ_deep ds i (by rw [hD.len]; exact hi) hk
  have hdec : decide ((n : Int) ≤ (i : Int)) = false := by simp; omega
  obtain ⟨b, o, tp, tn, tc, rfl, hbl, he⟩ := hD.at hi
  generalize ds.getD i dt0 = d at he hg hc hk
  have hdec2 : decide ((n : Int) < d.count) = false := by simp; omega
  have hk' : (d.kind != 3) = false := by simp [hk]
  clear hk
  have HE : Hid (El w b (o + i * 4) d tp tn tc) := he
  have HY : Hid (By w tp tn tc d.text) := he.by_
  have e0 := he.c0
  have e1 := he.c1
  have e2 := he.c2
  have e3 := he.c3
  clear hD he
  go_enter Tryz.func57, Tryz.ntmps57
  go_wp2_with (go_at_call 84; refine (good29 d _ _ _ _ HY.out).mono ?_; rintro e w1 ⟨rfl, hb1⟩; rw [hg]; clear e0 e1 e2 e3; have e0 := (HE.out.below hbl hb1).c0; have e3 := (HE.out.below hbl hb1).c3)
  go_ret
  exact ⟨ret_int HF.out.symm, hb1⟩
end Go.Proofs.YtdjdhjciealfhaaGreatDoor
namespace Go.Proofs.YtdjdhjciealfhaaGreatDoor
open Go.RowKit Ch1
set_option maxHeartbeats 2000000 in
theorem end16_list (deep : Nat) (p : Option Addr) (n c i : Nat) (ds : List Dt) (a : Int) (w : World) (h0 : 0 < a) (h1 : a ≤ 100)
    (ih : ∀ (p : Option Addr) (n c i : Nat) (ds : List Dt) (w : World), Da w p n c ds → i ≤ n → Calls Tryz.prog 57 #[.slice p n c, .int .i64 i, .int .i64 (a - 1)] w fun e w' => e = .returned (.int .i64 (endZ ds deep i)) ∧ Below w.heap.size w w')
    (hD : Da w p n c ds) (hi : i < n) (hg : goodB (ds.getD i dt0) = true) (hc : (ds.getD i dt0).count ≤ (n : Int)) (hk : (ds.getD i dt0).kind = 3) :
    Calls Tryz.prog 57 #[.slice p n c, .int .i64 i, .int .i64 a] w fun e w' => e = .returned (.int .i64 (endZ ds (deep + 1) i)) ∧ Below w.heap.size w w' := by
  have HN : Hid (skipN (skip deep) (ds.getD i dt0).count.toNat (ds.drop (i + 1)) = none → endZ ds (deep + 1) i = -1) := endZ_list_none ds deep i (by rw [hD.len]; exact hi) hg hk
  have HS : Hid (∀ j, j ≤ n → skipN (skip deep) (ds.getD i dt0).count.toNat (ds.drop (i + 1)) = some (ds.drop j) → endZ ds (deep + 1) i = j) := fun j hj => endZ_list_some ds deep i j (by rw [hD.len]; exact hi) hg hk (by rw [hD.len]; exact hj)
  have IH : Hid (∀ (p : Option Addr) (n c i : Nat) (ds : List Dt) (w : World), Da w p n c ds → i ≤ n → Calls Tryz.prog 57 #[.slice p n c, .int .i64 i, .int .i64 (a - 1)] w fun e w' => e = .returned (.int .i64 (endZ ds deep i)) ∧ Below w.heap.size w w') := ih
  have HD : Hid (Da w p n c ds) := hD
  have hcnt : 0 ≤ (ds.getD i dt0).count := good_count hg hk
  clear ih
  have hdec : decide (n ≤ i) = false := by simp; omega
  have hbig : n ≤ 9223372036854775807 := by have := hD.cap; have := hD.big; unfold maxLen at this; omega
  have ha : (a == 0) = false := beq_eq_false_iff_ne.2 (by omega)
  obtain ⟨b, o, tp, tn, tc, rfl, hbl, he⟩ := hD.at hi
  generalize ds.getD i dt0 = d at he hg hc hk HN HS hcnt
  have hdec2 : decide ((n : Int) < d.count) = false := by simp; omega
  have hk' : (d.kind != 3) = false := by simp [hk]
  clear hk
  have HE : Hid (El w b (o + i * 4) d tp tn tc) := he
  have HY : Hid (By w tp tn tc d.text) := he.by_
  have e0 := he.c0
  have e1 := he.c1
  have e2 := he.c2
  have e3 := he.c3
  clear hD he
  go_enter Tryz.func57, Tryz.ntmps57
  go_wp2_with (go_at_call 84; refine (good29 d _ _ _ _ HY.out).mono ?_; rintro e w1 ⟨rfl, hb1⟩; rw [hg]; clear e0 e1 e2 e3; have e0 := (HE.out.below hbl hb1).c0; have e3 := (HE.out.below hbl hb1).c3)
  have HB : Hid (Below w.heap.size w w1) := hb1
  clear e0 e3 hb1
  go_loopw [7, 8] (fun at_ kk wr => ∃ (k j : Nat), (k : Int) ≤ d.count ∧ j ≤ n ∧ kk = .int .i64 k ∧ at_ = .int .i64 j ∧ Hid (skipN (skip deep) k (ds.drop (i + 1)) = some (ds.drop j)) ∧ Hid (Below w.heap.size w wr)) (fun _ kk _ => (d.count - intOf kk).toNat)
  case atStart => exact ⟨0, i + 1, hcnt, by omega, rfl, by go_num, rfl, HB⟩
  case round =>
    clear HB
    obtain ⟨k, j, hk, hj, rfl, rfl, hs, hb⟩ := hrel
    have e3 := (HE.out.below hbl hb.out).c3
    by_cases hlt : (k : Int) < d.count
    · cases hsk : skip deep (ds.drop j) with
      | none =>
        have HSK : Hid (endZ ds deep j = -1) := endZ_none ds deep j hsk
        have HF : Hid (endZ ds (deep + 1) i = -1) := HN.out (by
          have e : skipN (skip deep) (k + 1) (ds.drop (i + 1)) = none := by rw [skipN_succ_right, hs.out]; exact hsk
          have := skipN_none_mono _ (k + 1) (d.count.toNat - (k + 1)) _ e
          rwa [show k + 1 + (d.count.toNat - (k + 1)) = d.count.toNat by omega] at this)
        clear hsk
        go_wp2_with (go_at_call 57; refine (IH.out _ n c j ds _ (by exact HD.out.below hb.out) hj).mono ?_; rintro e w2 ⟨rfl, hb2⟩; rw [HSK.out])
        go_ret
        exact ⟨ret_int HF.out.symm, hb.out.trans (hb2.mono hb.out.size)⟩
      | some q =>
        obtain ⟨j', hj1, hj2, hq, hez⟩ := endZ_some ds deep j q hsk
        have HSK : Hid (endZ ds deep j = j') := hez
        have HQ : Hid (skip deep (ds.drop j) = some (ds.drop j')) := by unfold Hid; rw [hsk, hq]
        have hj3 : j' ≤ n := by have := HD.out.len; omega
        clear hsk hez hq hj2
        go_wp2_with (go_at_call 57; refine (IH.out _ n c j ds _ (by exact HD.out.below hb.out) hj).mono ?_; rintro e w2 ⟨rfl, hb2⟩; rw [HSK.out])
        go_roundw
        case rel =>
          refine ⟨k + 1, j', by omega, hj3, by go_num, rfl, ?_, hb.out.trans (hb2.mono hb.out.size)⟩
          show skipN (skip deep) (k + 1) (ds.drop (i + 1)) = some (ds.drop j')
          rw [skipN_succ_right, hs.out]
          exact HQ.out
        case measure => simp [intOf]; omega
    · have HK : Hid ((k : Int) = d.count) := by unfold Hid; omega
      go_wp2
      go_ret
      exact ⟨ret_int (HS.out j hj (by rw [← HK.out, Int.toNat_natCast]; exact hs.out)).symm, hb.out⟩
theorem end16 (deep : Nat) : ∀ (a : Int), a = deep → deep ≤ 100 → ∀ (p : Option Addr) (n c i : Nat) (ds : List Dt) (w : World), Da w p n c ds → i ≤ n →
    Calls Tryz.prog 57 #[.slice p n c, .int .i64 i, .int .i64 a] w fun e w' => e = .returned (.int .i64 (endZ ds deep i)) ∧ Below w.heap.size w w' := by
  induction deep with
  | zero =>
    intro a ha _ p n c i ds w hD hin
    by_cases hi : n ≤ i
    · exact end16_past 0 p n c i ds a w hD hi
    cases hg : goodB (ds.getD i dt0)
    · exact end16_bad 0 p n c i ds a w hD (by omega) hg
    by_cases hc : (n : Int) < (ds.getD i dt0).count
    · exact end16_many 0 p n c i ds a w hD (by omega) hg hc
    by_cases hk : (ds.getD i dt0).kind = 3
    · obtain rfl : a = 0 := by omega
      exact end16_deep p n c i ds w hD (by omega) hg (by omega) hk
    · exact end16_atom 0 p n c i ds a w hD (by omega) hg (by omega) hk
  | succ deep ih =>
    intro a ha hle p n c i ds w hD hin
    by_cases hi : n ≤ i
    · exact end16_past (deep + 1) p n c i ds a w hD hi
    cases hg : goodB (ds.getD i dt0)
    · exact end16_bad (deep + 1) p n c i ds a w hD (by omega) hg
    by_cases hc : (n : Int) < (ds.getD i dt0).count
    · exact end16_many (deep + 1) p n c i ds a w hD (by omega) hg hc
    by_cases hk : (ds.getD i dt0).kind = 3
    · exact end16_list deep p n c i ds a w (by omega) (by omega) (ih (a - 1) (by omega) (by omega)) hD (by omega) hg (by omega) hk
    · exact end16_atom (deep + 1) p n c i ds a w hD (by omega) hg (by omega) hk
set_option maxHeartbeats 1000000 in
theorem valid6_long (p : Option Addr) (n c : Nat) (ds : List Dt) (w : World) (hl : ds.length = n) (h : 3000 < n) :
    Calls Tryz.prog 31 #[.slice p n c] w fun e w' => e = .returned (.bool (validB ds)) ∧ Below w.heap.size w w' := by
  have HF : Hid (validB ds = false) := by unfold Hid validB; rw [decide_eq_false (by omega)]; rfl
  clear hl
  go_enter Tryz.func31, Tryz.ntmps31
  go_wp2
  go_ret
  exact ⟨ret_bool HF.out.symm, Below.refl _ _⟩
set_option maxHeartbeats 1000000 in
theorem valid6 (p : Option Addr) (n c : Nat) (ds : List Dt) (w : World) (hD : Da w p n c ds) :
    Calls Tryz.prog 31 #[.slice p n c] w fun e w' => e = .returned (.bool (validB ds)) ∧ Below w.heap.size w w' := by
  by_cases h : 3000 < n
  · exact valid6_long p n c ds w hD.len h
  have HF : Hid (validB ds = rowOf ds) := by unfold Hid validB; rw [decide_eq_true (by rw [hD.len]; omega)]; rfl
  have HD : Hid (Da w p n c ds) := hD
  clear hD
  go_enter Tryz.func31, Tryz.ntmps31
  go_wp2
  go_loopw [3] (fun v wr => ∃ (j : Nat), v = .int .i64 j ∧ j ≤ n ∧ Hid (rowOf ds = rowOf (ds.drop j)) ∧ Hid (Below w.heap.size w wr)) (fun v _ => n - (intOf v).toNat)
  case atStart => exact ⟨0, rfl, by omega, rfl, Below.refl _ _⟩
  case round =>
    obtain ⟨j, rfl, hj, hro, hb⟩ := hrel
    by_cases hlt : j < n
    · have hlen := HD.out.len
      cases hsk : skip 100 (ds.drop j) with
      | none =>
        have HSK : Hid (endZ ds 100 j = -1) := endZ_none ds 100 j hsk
        have HR : Hid (rowOf ds = false) := by
          unfold Hid; rw [hro.out]; exact rowOf_none _ (fun e => by have := congrArg List.length e; rw [List.length_drop] at this; simp at this; omega) hsk
        clear hsk hlen
        go_wp2_with (go_at_call 57; refine (end16 100 100 (by omega) (by omega) p n c j ds _ (by exact HD.out.below hb.out) hj).mono ?_; rintro e w2 ⟨rfl, hb2⟩; rw [HSK.out])
        go_ret
        exact ⟨ret_bool (by rw [HF.out, HR.out]), hb.out.trans (hb2.mono hb.out.size)⟩
      | some q =>
        obtain ⟨j', hj1, hj2, hq, hez⟩ := endZ_some ds 100 j q hsk
        have HSK : Hid (endZ ds 100 j = j') := hez
        have HR : Hid (rowOf ds = rowOf (ds.drop j')) := by unfold Hid; rw [hro.out, ← hq]; exact rowOf_some _ q hsk
        have hj3 : j' ≤ n := by omega
        clear hsk hlen hez hq hj2
        go_wp2_with (go_at_call 57; refine (end16 100 100 (by omega) (by omega) p n c j ds _ (by exact HD.out.below hb.out) hj).mono ?_; rintro e w2 ⟨rfl, hb2⟩; rw [HSK.out])
        exact ⟨⟨j', rfl, hj3, HR, hb.out.trans (hb2.mono hb.out.size)⟩, by simp [intOf]; omega⟩
    · obtain rfl : j = n := by omega
      have HR : Hid (rowOf ds = true) := by
        unfold Hid; rw [hro.out, List.drop_eq_nil_of_le (by rw [HD.out.len]; omega)]; rfl
      go_wp2
      go_ret
      exact ⟨ret_bool (by rw [HF.out, HR.out]), hb.out⟩
end Go.Proofs.YtdjdhjciealfhaaGreatDoor
namespace Go.Proofs.YtdjdhjciealfhaaGreatDoor
open Ch1
/-! ### what Verify means, plainly -/
namespace Vf
def capK (b : Bool) : Nat := if b then 256 else 255
def dtKind (d : Dt) : Nat := if d.kind = 0 then 1 else if d.kind = 1 then 2 else if d.kind = 2 then 8 else if d.count = 0 then 4 else 16
def pArgs (p : Nat) : List Nat := ([[1, 1], [1, 1], [1, 1], [1, 1], [1, 1], [1, 1], [1, 1], [255, 255], [16], [16], [255], [255], [255], [255], [255], [255], [255, 255], [255], [1, 255], [32, 1], [32, 1, 255], [32]] : List (List Nat)).getD p []
def pRes (p : Nat) : Nat := ([1, 1, 1, 1, 1, 2, 2, 16, 255, 255, 2, 2, 2, 2, 2, 2, 2, 2, 32, 255, 128, 1] : List Nat).getD p 1
/-- What an instruction may take, slot by slot. -/
def allow (m : Md) (x : In) : List Nat :=
  if x.op = 4 then [255] else if x.op = 5 then (if x.a = 1 then [] else [255]) else if x.op = 6 then [256] else if x.op = 7 then [256, 255]
  else if x.op = 8 then (m.funcs.getD x.a.toNat fn0).free.map capK else if x.op = 9 ∨ x.op = 10 then List.replicate (1 + x.a.toNat) 255
  else if x.op = 11 then [255] else if x.op = 13 then [255] else if x.op = 14 then List.replicate (pArgs x.a.toNat).length 255
  else if x.op = 15 then List.replicate x.a.toNat 511 ++ [255] else if x.op = 16 then [511] else []
/-- What it leaves, 0 for nothing. -/
def lefts (m : Md) (f : Fn) (x : In) (s : List Nat) : Nat :=
  if x.op = 0 then dtKind ((m.consts.getD x.a.toNat []).getD 0 dt0) else if x.op = 1 then s.getD x.a.toNat 0 else if x.op = 2 then capK (f.free.getD x.a.toNat false)
  else if x.op = 3 then 255 else if x.op = 5 then 256 else if x.op = 6 then 255 else if x.op = 8 then 64 else if x.op = 9 then 255
  else if x.op = 14 then pRes x.a.toNat else if x.op = 15 then s.getD (s.length - 1) 0 else if x.op = 17 then 128 else 0
def outOf (m : Md) (f : Fn) (x : In) (s : List Nat) : List Nat := s.take (s.length - (allow m x).length) ++ (if lefts m f x s = 0 then [] else [lefts m f x s])
/-- There are as many slots as it needs. -/
def fits (m : Md) (f : Fn) (x : In) (s : List Nat) : Prop := (allow m x).length ≤ s.length ∧ (x.op = 1 → x.a.toNat < s.length) ∧ (outOf m f x s).length ≤ 200
/-- The sets of what it takes are as they must be. -/
def asks (m : Md) (x : In) (s : List Nat) : Prop := ∀ i, i < (allow m x).length → s.getD (s.length - (allow m x).length + i) 0 ||| (allow m x).getD i 0 = (allow m x).getD i 0
def nexts (x : In) (a : Nat) : List Nat := if x.op = 10 ∨ x.op = 11 then [] else if x.op = 12 then [x.a.toNat] else if x.op = 13 then [a + 1, x.a.toNat] else [a + 1]
/-- It is proven. -/
def provenB (m : Md) (x : In) (s : List Nat) : Bool :=
  if x.op = 9 ∨ x.op = 10 then s.getD (s.length - (allow m x).length) 0 == 64
  else if x.op = 14 then decide (∀ i, i < (pArgs x.a.toNat).length → s.getD (s.length - (pArgs x.a.toNat).length + i) 0 ||| (pArgs x.a.toNat).getD i 0 = (pArgs x.a.toNat).getD i 0)
  else false
def GoodS (s : List Nat) : Prop := ∀ v ∈ s, 0 < v ∧ v < 512
theorem GoodS.at_ {s : List Nat} (h : GoodS s) {i : Nat} (hi : i < s.length) : 0 < s.getD i 0 ∧ s.getD i 0 < 512 := by
  have := h (s[i]) (List.getElem_mem hi)
  simpa [List.getD, List.getElem?_eq_getElem hi] using this
theorem GoodS.lt {s : List Nat} (h : GoodS s) (i : Nat) : s.getD i 0 < 512 := by
  by_cases hi : i < s.length
  · exact (h.at_ hi).2
  · simp [List.getD, List.getElem?_eq_none (Nat.le_of_not_lt hi)]
/-- Slot by slot within. -/
def Le (s t : List Nat) : Prop := s.length = t.length ∧ ∀ i, s.getD i 0 ||| t.getD i 0 = t.getD i 0
theorem Le.refl (s : List Nat) : Le s s := ⟨rfl, fun _ => Nat.or_self _⟩
theorem or_tr {a b c : Nat} (h : a ||| b = b) (k : b ||| c = c) : a ||| c = c := by rw [← k, ← Nat.or_assoc, h]
theorem or_le {a b : Nat} (h : a ||| b = b) : a ≤ b := by rw [← h]; exact Nat.left_le_or
theorem Le.trans {r s t : List Nat} (h : Le r s) (k : Le s t) : Le r t := ⟨h.1.trans k.1, fun i => or_tr (h.2 i) (k.2 i)⟩
theorem ext_getD {s t : List Nat} (hl : s.length = t.length) (h : ∀ i, s.getD i 0 = t.getD i 0) : s = t := by
  refine List.ext_getElem hl (fun i h1 h2 => ?_)
  have := h i
  simpa [List.getD, List.getElem?_eq_getElem h1, List.getElem?_eq_getElem h2] using this
theorem Le.anti {s t : List Nat} (h : Le s t) (k : Le t s) : s = t := ext_getD h.1 (fun i => by have h1 := or_le (h.2 i); have h2 := or_le (k.2 i); omega)
theorem getD_take {s : List Nat} {n i : Nat} (h : i < n) : (s.take n).getD i 0 = s.getD i 0 := by simp [List.getD, h]
theorem getD_app_l {s t : List Nat} {i : Nat} (h : i < s.length) : (s ++ t).getD i 0 = s.getD i 0 := by simp [List.getD, List.getElem?_append_left h]
theorem getD_app_r {s t : List Nat} {i : Nat} (h : s.length ≤ i) : (s ++ t).getD i 0 = t.getD (i - s.length) 0 := by simp [List.getD, List.getElem?_append_right h]
theorem Le.app {s t s' t' : List Nat} (h : Le s t) (h' : Le s' t') : Le (s ++ s') (t ++ t') := by
  refine ⟨by rw [List.length_append, List.length_append, h.1, h'.1], fun i => ?_⟩
  by_cases hi : i < s.length
  · rw [getD_app_l hi, getD_app_l (by rw [← h.1]; exact hi)]
    exact h.2 i
  · rw [getD_app_r (by omega), getD_app_r (by rw [← h.1]; omega), ← h.1]
    exact h'.2 _
theorem Le.take {s t : List Nat} (h : Le s t) (n : Nat) : Le (s.take n) (t.take n) := by
  refine ⟨by rw [List.length_take, List.length_take, h.1], fun i => ?_⟩
  by_cases hi : i < n
  · rw [getD_take hi, getD_take hi]; exact h.2 i
  · have e : ∀ u : List Nat, (u.take n).getD i 0 = 0 := fun u => by simp [List.getD, List.getElem?_take, hi]
    rw [e, e]
    rfl
theorem Le.one {a b : Nat} (h : a ||| b = b) : Le [a] [b] := ⟨rfl, fun i => by cases i with | zero => exact h | succ i => simp⟩
theorem dtKind_rng (d : Dt) : 0 < dtKind d ∧ dtKind d < 512 := by
  unfold dtKind
  by_cases h1 : d.kind = 0
  · simp [h1]
  by_cases h2 : d.kind = 1
  · simp [h2]
  by_cases h3 : d.kind = 2
  · simp [h3]
  by_cases h4 : d.count = 0
  · simp [h1, h2, h3, h4]
  · simp [h1, h2, h3, h4]
theorem capK_rng (b : Bool) : 0 < capK b ∧ capK b < 512 := by cases b <;> decide
theorem pRes_rng (p : Nat) : 0 < pRes p ∧ pRes p < 512 := by
  by_cases hp : p < 22
  · have hps : p = 0 ∨ p = 1 ∨ p = 2 ∨ p = 3 ∨ p = 4 ∨ p = 5 ∨ p = 6 ∨ p = 7 ∨ p = 8 ∨ p = 9 ∨ p = 10 ∨ p = 11 ∨ p = 12 ∨ p = 13 ∨ p = 14 ∨ p = 15 ∨ p = 16 ∨ p = 17 ∨ p = 18 ∨ p = 19 ∨ p = 20 ∨ p = 21 := by omega
    rcases hps with h | h | h | h | h | h | h | h | h | h | h | h | h | h | h | h | h | h | h | h | h | h <;> subst h <;> decide
  · have : pRes p = 1 := by unfold pRes; simp [List.getD, List.getElem?_eq_none (show ([1, 1, 1, 1, 1, 2, 2, 16, 255, 255, 2, 2, 2, 2, 2, 2, 2, 2, 32, 255, 128, 1] : List Nat).length ≤ p by simp; omega)]
    omega
/-- What is left of less is less; and nothing just where nothing. -/
theorem lefts_le {m : Md} {f : Fn} {x : In} {s t : List Nat} (hg : GoodS s) (h : Le s t) (hl : x.op = 1 → x.a.toNat < s.length) (h5 : x.op = 15 → 0 < s.length) : lefts m f x s ||| lefts m f x t = lefts m f x t ∧ (lefts m f x s = 0 ↔ lefts m f x t = 0) ∧ lefts m f x s < 512 := by
  by_cases c0 : x.op = 0
  · simp only [lefts, if_pos c0]
    exact ⟨Nat.or_self _, trivial, (dtKind_rng _).2⟩
  by_cases c1 : x.op = 1
  · simp only [lefts, if_neg c0, if_pos c1]
    have a := hg.at_ (hl c1)
    have b := or_le (h.2 x.a.toNat)
    exact ⟨h.2 _, ⟨fun e => by omega, fun e => by omega⟩, a.2⟩
  by_cases c2 : x.op = 2
  · simp only [lefts, if_neg c0, if_neg c1, if_pos c2]
    exact ⟨Nat.or_self _, trivial, (capK_rng _).2⟩
  by_cases c3 : x.op = 3
  · simp only [lefts, if_neg c0, if_neg c1, if_neg c2, if_pos c3]
    exact ⟨Nat.or_self _, trivial, by decide⟩
  by_cases c5 : x.op = 5
  · simp only [lefts, if_neg c0, if_neg c1, if_neg c2, if_neg c3, if_pos c5]
    exact ⟨Nat.or_self _, trivial, by decide⟩
  by_cases c6 : x.op = 6
  · simp only [lefts, if_neg c0, if_neg c1, if_neg c2, if_neg c3, if_neg c5, if_pos c6]
    exact ⟨Nat.or_self _, trivial, by decide⟩
  by_cases c8 : x.op = 8
  · simp only [lefts, if_neg c0, if_neg c1, if_neg c2, if_neg c3, if_neg c5, if_neg c6, if_pos c8]
    exact ⟨Nat.or_self _, trivial, by decide⟩
  by_cases c9 : x.op = 9
  · simp only [lefts, if_neg c0, if_neg c1, if_neg c2, if_neg c3, if_neg c5, if_neg c6, if_neg c8, if_pos c9]
    exact ⟨Nat.or_self _, trivial, by decide⟩
  by_cases c14 : x.op = 14
  · simp only [lefts, if_neg c0, if_neg c1, if_neg c2, if_neg c3, if_neg c5, if_neg c6, if_neg c8, if_neg c9, if_pos c14]
    exact ⟨Nat.or_self _, trivial, (pRes_rng _).2⟩
  by_cases c15 : x.op = 15
  · simp only [lefts, if_neg c0, if_neg c1, if_neg c2, if_neg c3, if_neg c5, if_neg c6, if_neg c8, if_neg c9, if_neg c14, if_pos c15]
    have a := hg.at_ (show s.length - 1 < s.length by have := h5 c15; omega)
    have b := or_le (h.2 (s.length - 1))
    rw [← h.1]
    exact ⟨h.2 _, ⟨fun e => by omega, fun e => by omega⟩, a.2⟩
  by_cases c17 : x.op = 17
  · simp only [lefts, if_neg c0, if_neg c1, if_neg c2, if_neg c3, if_neg c5, if_neg c6, if_neg c8, if_neg c9, if_neg c14, if_neg c15, if_pos c17]
    exact ⟨Nat.or_self _, trivial, by decide⟩
  simp only [lefts, if_neg c0, if_neg c1, if_neg c2, if_neg c3, if_neg c5, if_neg c6, if_neg c8, if_neg c9, if_neg c14, if_neg c15, if_neg c17]
  exact ⟨Nat.or_self _, trivial, by decide⟩
theorem allow15 {m : Md} {x : In} (h : x.op = 15) : 0 < (allow m x).length := by unfold allow; simp [h]
/-- An instruction fits less where it fits more, and makes less. -/
theorem fits_le {m : Md} {f : Fn} {x : In} {s t : List Nat} (hg : GoodS s) (h : Le s t) (hf : fits m f x t) : fits m f x s ∧ Le (outOf m f x s) (outOf m f x t) := by
  obtain ⟨h1, h2, h3⟩ := hf
  rw [← h.1] at h1 h2
  obtain ⟨k1, k2, k3⟩ := lefts_le (m := m) (f := f) hg h h2 (fun e => Nat.lt_of_lt_of_le (allow15 (m := m) e) h1)
  have hle : Le (outOf m f x s) (outOf m f x t) := by
    unfold outOf
    rw [← h.1]
    refine (h.take _).app ?_
    by_cases hz : lefts m f x s = 0
    · rw [if_pos hz, if_pos (k2.1 hz)]; exact Le.refl _
    · rw [if_neg hz, if_neg (fun e => hz (k2.2 e))]; exact Le.one k1
  exact ⟨⟨h1, h2, by rw [hle.1]; exact h3⟩, hle⟩
theorem good_out {m : Md} {f : Fn} {x : In} {s : List Nat} (hg : GoodS s) (hf : fits m f x s) : GoodS (outOf m f x s) := by
  intro v hv
  unfold outOf at hv
  rcases List.mem_append.1 hv with hv | hv
  · exact hg v (List.mem_of_mem_take hv)
  · by_cases hz : lefts m f x s = 0
    · rw [if_pos hz] at hv; cases hv
    · rw [if_neg hz] at hv
      obtain rfl := List.mem_singleton.1 hv
      exact ⟨by omega, (lefts_le (m := m) (f := f) hg (Le.refl s) hf.2.1 (fun e => Nat.lt_of_lt_of_le (allow15 (m := m) e) hf.1)).2.2⟩
theorem asks_le {m : Md} {x : In} {s t : List Nat} (h : Le s t) (ha : asks m x t) : asks m x s := fun i hi => by
  have := ha i hi
  rw [← h.1] at this
  exact or_tr (h.2 _) this
/-! ### states of a function -/
abbrev States := Nat → Option (List Nat)
/-- Closed at an instruction. -/
def ClosedAt (m : Md) (f : Fn) (τ : States) (i : Nat) : Prop := ∀ s, τ i = some s → fits m f (f.code.getD i in0) s ∧ ∀ n ∈ nexts (f.code.getD i in0) i, n < f.code.length ∧ ∃ t, τ n = some t ∧ Le (outOf m f (f.code.getD i in0) s) t
def first (f : Fn) : List Nat := List.replicate f.params.toNat 255
/-- States that hold what can come. -/
structure OkS (m : Md) (f : Fn) (τ : States) : Prop where
  start : ∃ t, τ 0 = some t ∧ Le (first f) t
  step : ∀ i, i < f.code.length → ClosedAt m f τ i
def LeS (f : Fn) (σ τ : States) : Prop := ∀ i s, i < f.code.length → σ i = some s → ∃ t, τ i = some t ∧ Le s t
def GoodA (f : Fn) (σ : States) : Prop := ∀ i s, i < f.code.length → σ i = some s → GoodS s ∧ s.length ≤ 200
def joinL (s o : List Nat) : List Nat := (List.range s.length).map (fun i => s.getD i 0 ||| o.getD i 0)
theorem joinL_len (s o : List Nat) : (joinL s o).length = s.length := by simp [joinL]
theorem joinL_get (s o : List Nat) (hl : s.length = o.length) (i : Nat) : (joinL s o).getD i 0 = s.getD i 0 ||| o.getD i 0 := by
  by_cases hi : i < s.length
  · simp [joinL, List.getD, hi]
  · rw [show (joinL s o).getD i 0 = 0 by simp [List.getD, joinL, hi], show s.getD i 0 = 0 by simp [List.getD, List.getElem?_eq_none (Nat.le_of_not_lt hi)], show o.getD i 0 = 0 by simp [List.getD, List.getElem?_eq_none (show o.length ≤ i by omega)]]
    rfl
theorem joinL_l (s o : List Nat) (hl : s.length = o.length) : Le s (joinL s o) := ⟨(joinL_len s o).symm, fun i => by rw [joinL_get s o hl, ← Nat.or_assoc, Nat.or_self]⟩
theorem joinL_r (s o : List Nat) (hl : s.length = o.length) : Le o (joinL s o) := ⟨by rw [joinL_len, hl], fun i => by rw [joinL_get s o hl, Nat.or_comm (s.getD i 0), ← Nat.or_assoc, Nat.or_self]⟩
theorem joinL_le {s o t : List Nat} (h : Le s t) (k : Le o t) : Le (joinL s o) t := ⟨by rw [joinL_len, h.1], fun i => by rw [joinL_get s o (h.1.trans k.1.symm), Nat.or_assoc, k.2 i, h.2 i]⟩
theorem joinL_good {s o : List Nat} (hl : s.length = o.length) (h : GoodS s) (k : GoodS o) : GoodS (joinL s o) := fun v hv => by
  obtain ⟨i, hi, rfl⟩ := List.mem_iff_getElem.1 hv
  have e : (joinL s o)[i] = (joinL s o).getD i 0 := by simp [List.getD, List.getElem?_eq_getElem hi]
  rw [e, joinL_get s o hl]
  rw [joinL_len] at hi
  have h1 := h.at_ hi
  have h2 := k.at_ (show i < o.length by omega)
  refine ⟨Nat.lt_of_lt_of_le h1.1 Nat.left_le_or, ?_⟩
  have := Nat.or_lt_two_pow (n := 9) h1.2 h2.2
  simpa using this
/-- A state with what has come put into it. -/
def joinO (r : Option (List Nat)) (o : List Nat) : List Nat := match r with
  | none => o
  | some s => joinL s o
def put (σ : States) (n : Nat) (o : List Nat) : States := fun k => if k = n then some (joinO (σ n) o) else σ k
theorem put_same (σ : States) (n : Nat) (o : List Nat) : put σ n o n = some (joinO (σ n) o) := by simp [put]
theorem put_other (σ : States) {n k : Nat} (o : List Nat) (h : k ≠ n) : put σ n o k = σ k := by simp [put, h]
/-- What comes of less than an answer is less than it: it can be put in. -/
theorem put_le {m : Md} {f : Fn} {σ τ : States} {i n : Nat} {s : List Nat} (hO : OkS m f τ) (hl : LeS f σ τ) (hg : GoodA f σ) (hi : i < f.code.length) (hs : σ i = some s) : fits m f (f.code.getD i in0) s ∧ (n ∈ nexts (f.code.getD i in0) i → n < f.code.length ∧ (∀ r, σ n = some r → r.length = (outOf m f (f.code.getD i in0) s).length) ∧ LeS f (put σ n (outOf m f (f.code.getD i in0) s)) τ) := by
  obtain ⟨t, ht, hst⟩ := hl i s hi hs
  obtain ⟨hf, hn⟩ := hO.step i hi t ht
  obtain ⟨k1, k2⟩ := fits_le (hg i s hi hs).1 hst hf
  refine ⟨k1, fun hm => ?_⟩
  obtain ⟨hlt, u, hu, hou⟩ := hn n hm
  have hol := k2.trans hou
  refine ⟨hlt, fun r hr => ?_, fun k v hk hv => ?_⟩
  · obtain ⟨u', hu', hru⟩ := hl n r hlt hr
    rw [hu] at hu'
    cases hu'
    exact hru.1.trans hol.1.symm
  · by_cases hkn : k = n
    · subst hkn
      rw [put_same] at hv
      cases hv
      refine ⟨u, hu, ?_⟩
      cases hr : σ k with
      | none => exact hol
      | some r =>
        obtain ⟨u', hu', hru⟩ := hl k r hk hr
        rw [hu] at hu'
        cases hu'
        exact joinL_le hru hol
    · rw [put_other _ _ hkn] at hv
      exact hl k v hk hv
/-- The least ones. -/
structure Least (m : Md) (f : Fn) (σ : States) : Prop where
  ok : OkS m f σ
  good : GoodA f σ
  le : ∀ τ, OkS m f τ → LeS f σ τ
theorem Least.one {m : Md} {f : Fn} {σ τ : States} (h : Least m f σ) (k : Least m f τ) : ∀ i, i < f.code.length → σ i = τ i := fun i hi => by
  cases hs : σ i with
  | none =>
    cases ht : τ i with
    | none => rfl
    | some t =>
      obtain ⟨s, e, _⟩ := k.le σ h.ok i t hi ht
      rw [hs] at e
      cases e
  | some s =>
    obtain ⟨t, e, h1⟩ := h.le τ k.ok i s hi hs
    obtain ⟨s', e', h2⟩ := k.le σ h.ok i t hi e
    rw [hs] at e'
    cases e'
    rw [e, h1.anti h2]
/-- All asks are met. -/
def AskS (m : Md) (f : Fn) (σ : States) : Prop := ∀ i s, i < f.code.length → σ i = some s → asks m (f.code.getD i in0) s
/-- The function is safe. -/
def Safe (m : Md) (f : Fn) : Prop := ∃ τ, OkS m f τ ∧ AskS m f τ
def pvRow (m : Md) (f : Fn) (σ : States) : List Bool := (List.range f.code.length).map (fun i => match σ i with
  | none => false
  | some s => provenB m (f.code.getD i in0) s)
theorem pvRow_one {m : Md} {f : Fn} {σ τ : States} (h : Least m f σ) (k : Least m f τ) : pvRow m f σ = pvRow m f τ := by
  unfold pvRow
  refine List.map_congr_left (fun i hi => ?_)
  rw [h.one k i (List.mem_range.1 hi)]
theorem Least.safe {m : Md} {f : Fn} {σ : States} (h : Least m f σ) : Safe m f ↔ AskS m f σ := by
  constructor
  · rintro ⟨τ, h1, h2⟩ i s hi hs
    obtain ⟨t, ht, hst⟩ := h.le τ h1 i s hi hs
    exact asks_le hst (h2 i t hi ht)
  · exact fun ha => ⟨σ, h.ok, ha⟩
end Vf
end Go.Proofs.YtdjdhjciealfhaaGreatDoor
