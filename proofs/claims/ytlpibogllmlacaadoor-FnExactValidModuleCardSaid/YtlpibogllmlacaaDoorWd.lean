import Derived.Test.YtlpibogllmlacaaDoorWc
namespace Go.Proofs.YtlpibogllmlacaaDoor
open Go.RowKit Ch1
set_option maxHeartbeats 2000000 in
theorem end16_list (deep : Nat) (p : Option Addr) (n c i : Nat) (ds : List Dt) (a : Int) (w : World) (h0 : 0 < a) (h1 : a ≤ 100)
    (ih : ∀ (p : Option Addr) (n c i : Nat) (ds : List Dt) (w : World), Da w p n c ds → i ≤ n → Calls Tryd.prog 23 #[.slice p n c, .int .i64 i, .int .i64 (a - 1)] w fun e w' => e = .returned (.int .i64 (endZ ds deep i)) ∧ Below w.heap.size w w')
    (hD : Da w p n c ds) (hi : i < n) (hg : goodB (ds.getD i dt0) = true) (hc : (ds.getD i dt0).count ≤ (n : Int)) (hk : (ds.getD i dt0).kind = 3) :
    Calls Tryd.prog 23 #[.slice p n c, .int .i64 i, .int .i64 a] w fun e w' => e = .returned (.int .i64 (endZ ds (deep + 1) i)) ∧ Below w.heap.size w w' := by
  have HN : Hid (skipN (skip deep) (ds.getD i dt0).count.toNat (ds.drop (i + 1)) = none → endZ ds (deep + 1) i = -1) := endZ_list_none ds deep i (by rw [hD.len]; exact hi) hg hk
  have HS : Hid (∀ j, j ≤ n → skipN (skip deep) (ds.getD i dt0).count.toNat (ds.drop (i + 1)) = some (ds.drop j) → endZ ds (deep + 1) i = j) := fun j hj => endZ_list_some ds deep i j (by rw [hD.len]; exact hi) hg hk (by rw [hD.len]; exact hj)
  have IH : Hid (∀ (p : Option Addr) (n c i : Nat) (ds : List Dt) (w : World), Da w p n c ds → i ≤ n → Calls Tryd.prog 23 #[.slice p n c, .int .i64 i, .int .i64 (a - 1)] w fun e w' => e = .returned (.int .i64 (endZ ds deep i)) ∧ Below w.heap.size w w') := ih
  have HD : Hid (Da w p n c ds) := hD
  have hcnt : 0 ≤ (ds.getD i dt0).count := good_count hg hk
  clear ih
  have hdec : decide (n ≤ i) = false := by simp; omega
  have hbig : n ≤ 9223372036854775807 := by have := hD.cap; have := hD.big; unfold maxLen at this; omega
  have ha : (a == 0) = false := beq_eq_false_iff_ne.2 (by omega)
  obtain ⟨b, o, tp, tn, tc, rfl, hbl, he⟩ := hD.at hi
  generalize ds.getD i dt0 = d at he hg hc hk HN HS hcnt
  have hdec2 : decide ((n : Int) < d.count) = false := by simp; omega
  have hk' : (d.kind != 3) = false := by simp [hk]
  clear hk
  have HE : Hid (El w b (o + i * 4) d tp tn tc) := he
  have HY : Hid (By w tp tn tc d.text) := he.by_
  have e0 := he.c0
  have e1 := he.c1
  have e2 := he.c2
  have e3 := he.c3
  clear hD he
  go_enter Tryd.func23, Tryd.ntmps23
  go_wp2_with (go_at_call 35; refine (good29 d _ _ _ _ HY.out).mono ?_; rintro e w1 ⟨rfl, hb1⟩; rw [hg]; clear e0 e1 e2 e3; have e0 := (HE.out.below hbl hb1).c0; have e3 := (HE.out.below hbl hb1).c3)
  have HB : Hid (Below w.heap.size w w1) := hb1
  clear e0 e3 hb1
  go_loopw [7, 8] (fun at_ kk wr => ∃ (k j : Nat), (k : Int) ≤ d.count ∧ j ≤ n ∧ kk = .int .i64 k ∧ at_ = .int .i64 j ∧ Hid (skipN (skip deep) k (ds.drop (i + 1)) = some (ds.drop j)) ∧ Hid (Below w.heap.size w wr)) (fun _ kk _ => (d.count - intOf kk).toNat)
  case atStart => exact ⟨0, i + 1, hcnt, by omega, rfl, by go_num, rfl, HB⟩
  case round =>
    clear HB
    obtain ⟨k, j, hk, hj, rfl, rfl, hs, hb⟩ := hrel
    have e3 := (HE.out.below hbl hb.out).c3
    by_cases hlt : (k : Int) < d.count
    · cases hsk : skip deep (ds.drop j) with
      | none =>
        have HSK : Hid (endZ ds deep j = -1) := endZ_none ds deep j hsk
        have HF : Hid (endZ ds (deep + 1) i = -1) := HN.out (by
          have e : skipN (skip deep) (k + 1) (ds.drop (i + 1)) = none := by rw [skipN_succ_right, hs.out]; exact hsk
          have := skipN_none_mono _ (k + 1) (d.count.toNat - (k + 1)) _ e
          rwa [show k + 1 + (d.count.toNat - (k + 1)) = d.count.toNat by omega] at this)
        clear hsk
        go_wp2_with (go_at_call 23; refine (IH.out _ n c j ds _ (by exact HD.out.below hb.out) hj).mono ?_; rintro e w2 ⟨rfl, hb2⟩; rw [HSK.out])
        go_ret
        exact ⟨ret_int HF.out.symm, hb.out.trans (hb2.mono hb.out.size)⟩
      | some q =>
        obtain ⟨j', hj1, hj2, hq, hez⟩ := endZ_some ds deep j q hsk
        have HSK : Hid (endZ ds deep j = j') := hez
        have HQ : Hid (skip deep (ds.drop j) = some (ds.drop j')) := by unfold Hid; rw [hsk, hq]
        have hj3 : j' ≤ n := by have := HD.out.len; omega
        clear hsk hez hq hj2
        go_wp2_with (go_at_call 23; refine (IH.out _ n c j ds _ (by exact HD.out.below hb.out) hj).mono ?_; rintro e w2 ⟨rfl, hb2⟩; rw [HSK.out])
        go_roundw
        case rel =>
          refine ⟨k + 1, j', by omega, hj3, by go_num, rfl, ?_, hb.out.trans (hb2.mono hb.out.size)⟩
          show skipN (skip deep) (k + 1) (ds.drop (i + 1)) = some (ds.drop j')
          rw [skipN_succ_right, hs.out]
          exact HQ.out
        case measure => simp [intOf]; omega
    · have HK : Hid ((k : Int) = d.count) := by unfold Hid; omega
      go_wp2
      go_ret
      exact ⟨ret_int (HS.out j hj (by rw [← HK.out, Int.toNat_natCast]; exact hs.out)).symm, hb.out⟩
theorem end16 (deep : Nat) : ∀ (a : Int), a = deep → deep ≤ 100 → ∀ (p : Option Addr) (n c i : Nat) (ds : List Dt) (w : World), Da w p n c ds → i ≤ n →
    Calls Tryd.prog 23 #[.slice p n c, .int .i64 i, .int .i64 a] w fun e w' => e = .returned (.int .i64 (endZ ds deep i)) ∧ Below w.heap.size w w' := by
  induction deep with
  | zero =>
    intro a ha _ p n c i ds w hD hin
    by_cases hi : n ≤ i
    · exact end16_past 0 p n c i ds a w hD hi
    cases hg : goodB (ds.getD i dt0)
    · exact end16_bad 0 p n c i ds a w hD (by omega) hg
    by_cases hc : (n : Int) < (ds.getD i dt0).count
    · exact end16_many 0 p n c i ds a w hD (by omega) hg hc
    by_cases hk : (ds.getD i dt0).kind = 3
    · obtain rfl : a = 0 := by omega
      exact end16_deep p n c i ds w hD (by omega) hg (by omega) hk
    · exact end16_atom 0 p n c i ds a w hD (by omega) hg (by omega) hk
  | succ deep ih =>
    intro a ha hle p n c i ds w hD hin
    by_cases hi : n ≤ i
    · exact end16_past (deep + 1) p n c i ds a w hD hi
    cases hg : goodB (ds.getD i dt0)
    · exact end16_bad (deep + 1) p n c i ds a w hD (by omega) hg
    by_cases hc : (n : Int) < (ds.getD i dt0).count
    · exact end16_many (deep + 1) p n c i ds a w hD (by omega) hg hc
    by_cases hk : (ds.getD i dt0).kind = 3
    · exact end16_list deep p n c i ds a w (by omega) (by omega) (ih (a - 1) (by omega) (by omega)) hD (by omega) hg (by omega) hk
    · exact end16_atom (deep + 1) p n c i ds a w hD (by omega) hg (by omega) hk
set_option maxHeartbeats 1000000 in
theorem valid6_long (p : Option Addr) (n c : Nat) (ds : List Dt) (w : World) (hl : ds.length = n) (h : 3000 < n) :
    Calls Tryd.prog 11 #[.slice p n c] w fun e w' => e = .returned (.bool (validB ds)) ∧ Below w.heap.size w w' := by
  have HF : Hid (validB ds = false) := by unfold Hid validB; rw [decide_eq_false (by omega)]; rfl
  clear hl
  go_enter Tryd.func11, Tryd.ntmps11
  go_wp2
  go_ret
  exact ⟨ret_bool HF.out.symm, Below.refl _ _⟩
set_option maxHeartbeats 1000000 in
theorem valid6 (p : Option Addr) (n c : Nat) (ds : List Dt) (w : World) (hD : Da w p n c ds) :
    Calls Tryd.prog 11 #[.slice p n c] w fun e w' => e = .returned (.bool (validB ds)) ∧ Below w.heap.size w w' := by
  by_cases h : 3000 < n
  · exact valid6_long p n c ds w hD.len h
  have HF : Hid (validB ds = rowOf ds) := by unfold Hid validB; rw [decide_eq_true (by rw [hD.len]; omega)]; rfl
  have HD : Hid (Da w p n c ds) := hD
  clear hD
  go_enter Tryd.func11, Tryd.ntmps11
  go_wp2
  go_loopw [3] (fun v wr => ∃ (j : Nat), v = .int .i64 j ∧ j ≤ n ∧ Hid (rowOf ds = rowOf (ds.drop j)) ∧ Hid (Below w.heap.size w wr)) (fun v _ => n - (intOf v).toNat)
  case atStart => exact ⟨0, rfl, by omega, rfl, Below.refl _ _⟩
  case round =>
    obtain ⟨j, rfl, hj, hro, hb⟩ := hrel
    by_cases hlt : j < n
    · have hlen := HD.out.len
      cases hsk : skip 100 (ds.drop j) with
      | none =>
        have HSK : Hid (endZ ds 100 j = -1) := endZ_none ds 100 j hsk
        have HR : Hid (rowOf ds = false) := by
          unfold Hid; rw [hro.out]; exact rowOf_none _ (fun e => by have := congrArg List.length e; rw [List.length_drop] at this; simp at this; omega) hsk
        clear hsk hlen
        go_wp2_with (go_at_call 23; refine (end16 100 100 (by omega) (by omega) p n c j ds _ (by exact HD.out.below hb.out) hj).mono ?_; rintro e w2 ⟨rfl, hb2⟩; rw [HSK.out])
        go_ret
        exact ⟨ret_bool (by rw [HF.out, HR.out]), hb.out.trans (hb2.mono hb.out.size)⟩
      | some q =>
        obtain ⟨j', hj1, hj2, hq, hez⟩ := endZ_some ds 100 j q hsk
        have HSK : Hid (endZ ds 100 j = j') := hez
        have HR : Hid (rowOf ds = rowOf (ds.drop j')) := by unfold Hid; rw [hro.out, ← hq]; exact rowOf_some _ q hsk
        have hj3 : j' ≤ n := by omega
        clear hsk hlen hez hq hj2
        go_wp2_with (go_at_call 23; refine (end16 100 100 (by omega) (by omega) p n c j ds _ (by exact HD.out.below hb.out) hj).mono ?_; rintro e w2 ⟨rfl, hb2⟩; rw [HSK.out])
        exact ⟨⟨j', rfl, hj3, HR, hb.out.trans (hb2.mono hb.out.size)⟩, by simp [intOf]; omega⟩
    · obtain rfl : j = n := by omega
      have HR : Hid (rowOf ds = true) := by
        unfold Hid; rw [hro.out, List.drop_eq_nil_of_le (by rw [HD.out.len]; omega)]; rfl
      go_wp2
      go_ret
      exact ⟨ret_bool (by rw [HF.out, HR.out]), hb.out⟩
end Go.Proofs.YtlpibogllmlacaaDoor
