import Derived.Test.YtkkmoaidbmnolaaGreatDoorDy
import Derived.Test.YtkkmoaidbmnolaaGreatDoorR3
namespace Go.Proofs.YtkkmoaidbmnolaaGreatDoor
open Go.RowKit Ch1
/-- What a bool is marked with. -/
def bk (z : Int) : Bool := z % 3 == 0
theorem cell_set (w : World) {t m j : Nat} {e : TypeId} (h : IsR w t e m) (hj : j < m) (v : Value) : (w.setCell ⟨t, j, none⟩ v).cell? ⟨t, j, none⟩ = some v := by
  obtain ⟨f, hf⟩ := h
  have := (hf.set j v).cell hj
  simpa using this
set_option maxHeartbeats 2000000 in
theorem markBool_v (t n m c : Nat) (k : Int) (w : World) (hr : IsR w t 4 m) (hnm : n ≤ m) (hn : n ≤ 1048576) (h0 : 0 ≤ k) (h1 : k ≤ 4000000000000000000) :
    Calls Tryz.prog 37 #[.slice (some ⟨t, 0, none⟩) n c, .int .i64 k] w fun e w' => e = .returned (.int .i64 (k + n)) ∧ IsR w' t 4 m ∧ Within t (t + 1) w w' ∧ ∀ x : Nat, x < n → w'.cell? ⟨t, x, none⟩ = some (.bool (bk (k + x))) := by
  have HR : Hid (IsR w t 4 m) := hr
  clear hr
  go_enter Tryz.func37, Tryz.ntmps37
  go_wp2
  go_loopw [1, 5] (fun kv i wr => ∃ (j : Nat) (z : Int), j ≤ n ∧ i = .int .i64 j ∧ kv = .int .i64 z ∧ Hid (z = k + j) ∧ Hid (IsR wr t 4 m) ∧ Hid (Within t (t + 1) w wr) ∧ Hid (∀ x : Nat, x < j → wr.cell? ⟨t, x, none⟩ = some (.bool (bk (k + x))))) (fun _ i _ => n - (intOf i).toNat)
  case atStart => exact ⟨0, k, Nat.zero_le _, rfl, rfl, by unfold Hid; simp, HR, Within.refl _ _ _, fun x hx => absurd hx (Nat.not_lt_zero x)⟩
  case round =>
    obtain ⟨j, z, hj, rfl, rfl, hz, hR, hW, hC⟩ := hrel
    have hz0 : 0 ≤ z := by rw [hz.out]; omega
    have hz1 : z ≤ 4100000000000000000 := by rw [hz.out]; omega
    by_cases hlt : j < n
    · obtain ⟨⟨y, g2⟩, g3⟩ := hR.out.at (show j < m by omega)
      go_wp2
      refine ⟨⟨j + 1, z + 1, by omega, by go_num, rfl, by unfold Hid; rw [hz.out]; omega, hR.out.setCell _ _ _, hW.out.set (Nat.le_refl _) (Nat.lt_succ_self _) _, fun x hx => ?_⟩, by simp [intOf]; omega⟩
      by_cases e : x = j
      · subst e
        rw [cell_set wr hR.out (show x < m by omega), ← hz.out]
        rfl
      · rw [cell_set_other wr t x j _ e]
        exact hC.out x (by omega)
    · obtain rfl : j = n := by omega
      go_wp2
      go_ret
      exact ⟨ret_int hz.out, hR.out, hW.out, hC.out⟩
set_option maxHeartbeats 1000000 in
theorem heldBool_v (t n c : Nat) (k : Int) (w : World) (hc : ∀ j : Nat, j < n → w.cell? ⟨t, j, none⟩ = some (.bool (bk (k + j)))) (hn : n ≤ 1048576) (h0 : 0 ≤ k) (h1 : k ≤ 4000000000000000000) :
    Calls Tryz.prog 40 #[.slice (some ⟨t, 0, none⟩) n c, .int .i64 k] w fun e w' => e = .returned (.int .i64 (k + n)) ∧ w' = w := by
  have HC : Hid (∀ j : Nat, j < n → w.cell? ⟨t, j, none⟩ = some (.bool (bk (k + j)))) := hc
  clear hc
  go_enter Tryz.func40, Tryz.ntmps40
  go_wp2
  go_loop [1, 5] (fun kv i => ∃ (j : Nat) (z : Int), j ≤ n ∧ i = .int .i64 j ∧ kv = .int .i64 z ∧ Hid (z = k + j)) (fun _ i => n - (intOf i).toNat)
  case atStart => exact ⟨0, k, Nat.zero_le _, rfl, rfl, by unfold Hid; simp⟩
  case round =>
    obtain ⟨j, z, hj, rfl, rfl, hz⟩ := hrel
    have hz0 : 0 ≤ z := by rw [hz.out]; omega
    have hz1 : z ≤ 4100000000000000000 := by rw [hz.out]; omega
    by_cases hlt : j < n
    · have g2 := HC.out j hlt
      rw [← hz.out] at g2
      unfold bk at g2
      obtain ⟨bv, hbv⟩ : ∃ bv, (z % 3 == 0) = bv := ⟨_, rfl⟩
      rw [hbv] at g2
      have hbb : (bv != bv) = false := by simp
      go_wp2
      exact ⟨⟨j + 1, z + 1, by omega, by go_num, rfl, by unfold Hid; rw [hz.out]; omega⟩, by simp [intOf]; omega⟩
    · obtain rfl : j = n := by omega
      go_wp2
      go_ret
      exact ⟨ret_int hz.out, rfl⟩
set_option maxHeartbeats 2000000 in
theorem markIns_v (t n c : Nat) (k : Int) (w : World) (hr : IsR w t 48 (n * 3)) (hn : n ≤ 1048576) (h0 : 0 ≤ k) (h1 : k ≤ 4000000000000000000) :
    Calls Tryz.prog 38 #[.slice (some ⟨t, 0, none⟩) n c, .int .i64 k] w fun e w' => e = .returned (.int .i64 (k + 3 * n)) ∧ IsR w' t 48 (n * 3) ∧ Within t (t + 1) w w' ∧ ∀ x : Nat, x < n * 3 → w'.cell? ⟨t, x, none⟩ = some (.int .i64 (k + x)) := by
  have HR : Hid (IsR w t 48 (n * 3)) := hr
  clear hr
  go_enter Tryz.func38, Tryz.ntmps38
  go_wp2
  go_loopw [1, 5] (fun kv i wr => ∃ (j : Nat) (z : Int), j ≤ n ∧ i = .int .i64 j ∧ kv = .int .i64 z ∧ Hid (z = k + 3 * j) ∧ Hid (IsR wr t 48 (n * 3)) ∧ Hid (Within t (t + 1) w wr) ∧ Hid (∀ x : Nat, x < j * 3 → wr.cell? ⟨t, x, none⟩ = some (.int .i64 (k + x)))) (fun _ i _ => n - (intOf i).toNat)
  case atStart => exact ⟨0, k, Nat.zero_le _, rfl, rfl, by unfold Hid; simp, HR, Within.refl _ _ _, fun x hx => absurd hx (by omega)⟩
  case round =>
    obtain ⟨j, z, hj, rfl, rfl, hz, hR, hW, hC⟩ := hrel
    have hz0 : 0 ≤ z := by rw [hz.out]; omega
    have hz1 : z ≤ 4100000000000000000 := by rw [hz.out]; omega
    by_cases hlt : j < n
    · obtain ⟨⟨y0, a0⟩, b0⟩ := hR.out.at (show j * 3 < n * 3 by omega)
      obtain ⟨⟨y1, a1⟩, b1⟩ := hR.out.at (show j * 3 + 1 < n * 3 by omega)
      obtain ⟨⟨y2, a2⟩, b2⟩ := hR.out.at (show j * 3 + 2 < n * 3 by omega)
      go_wp2
      refine ⟨⟨j + 1, z + 1 + 1 + 1, by omega, by go_num, rfl, by unfold Hid; rw [hz.out]; omega, ((hR.out.setCell _ _ _).setCell _ _ _).setCell _ _ _, ((hW.out.set (Nat.le_refl _) (Nat.lt_succ_self _) _).set (Nat.le_refl _) (Nat.lt_succ_self _) _).set (Nat.le_refl _) (Nat.lt_succ_self _) _, fun x hx => ?_⟩, by simp [intOf]; omega⟩
      have hze := hz.out
      by_cases e2 : x = j * 3 + 2
      · subst e2
        rw [cell_set _ ((hR.out.setCell _ _ _).setCell _ _ _) (show j * 3 + 2 < n * 3 by omega)]
        refine congrArg (fun q : Int => some (Value.int .i64 q)) ?_
        omega
      rw [cell_set_other _ t x (j * 3 + 2) _ e2]
      by_cases e1 : x = j * 3 + 1
      · subst e1
        rw [cell_set _ (hR.out.setCell _ _ _) (show j * 3 + 1 < n * 3 by omega)]
        refine congrArg (fun q : Int => some (Value.int .i64 q)) ?_
        omega
      rw [cell_set_other _ t x (j * 3 + 1) _ e1]
      by_cases e0 : x = j * 3
      · subst e0
        rw [cell_set _ hR.out (show j * 3 < n * 3 by omega)]
        refine congrArg (fun q : Int => some (Value.int .i64 q)) ?_
        omega
      rw [cell_set_other _ t x (j * 3) _ e0]
      exact hC.out x (by omega)
    · obtain rfl : j = n := by omega
      go_wp2
      go_ret
      exact ⟨ret_int hz.out, hR.out, hW.out, hC.out⟩
set_option maxHeartbeats 1000000 in
theorem heldIns_v (t n c : Nat) (k : Int) (w : World) (hc : ∀ j : Nat, j < n * 3 → w.cell? ⟨t, j, none⟩ = some (.int .i64 (k + j))) (hn : n ≤ 1048576) (h0 : 0 ≤ k) (h1 : k ≤ 4000000000000000000) :
    Calls Tryz.prog 41 #[.slice (some ⟨t, 0, none⟩) n c, .int .i64 k] w fun e w' => e = .returned (.int .i64 (k + 3 * n)) ∧ w' = w := by
  have HC : Hid (∀ j : Nat, j < n * 3 → w.cell? ⟨t, j, none⟩ = some (.int .i64 (k + j))) := hc
  clear hc
  go_enter Tryz.func41, Tryz.ntmps41
  go_wp2
  go_loop [1, 5] (fun kv i => ∃ (j : Nat) (z : Int), j ≤ n ∧ i = .int .i64 j ∧ kv = .int .i64 z ∧ Hid (z = k + 3 * j)) (fun _ i => n - (intOf i).toNat)
  case atStart => exact ⟨0, k, Nat.zero_le _, rfl, rfl, by unfold Hid; simp⟩
  case round =>
    obtain ⟨j, z, hj, rfl, rfl, hz⟩ := hrel
    have hz0 : 0 ≤ z := by rw [hz.out]; omega
    have hz1 : z ≤ 4100000000000000000 := by rw [hz.out]; omega
    by_cases hlt : j < n
    · have hze := hz.out
      have g0 := HC.out (j * 3) (by omega)
      have g1 := HC.out (j * 3 + 1) (by omega)
      have g2 := HC.out (j * 3 + 2) (by omega)
      rw [show k + ((j * 3 : Nat) : Int) = z by omega] at g0
      rw [show k + ((j * 3 + 1 : Nat) : Int) = z + 1 by omega] at g1
      rw [show k + ((j * 3 + 2 : Nat) : Int) = z + 1 + 1 by omega] at g2
      clear hze
      go_wp2
      exact ⟨⟨j + 1, z + 1 + 1 + 1, by omega, by go_num, rfl, by unfold Hid; rw [hz.out]; omega⟩, by simp [intOf]; omega⟩
    · obtain rfl : j = n := by omega
      go_wp2
      go_ret
      exact ⟨ret_int hz.out, rfl⟩
end Go.Proofs.YtkkmoaidbmnolaaGreatDoor
namespace Go.Proofs.YtkkmoaidbmnolaaGreatDoor
open Go.RowKit Ch1
theorem heldBool_nil (p : Option Addr) (c : Nat) (k : Int) (w : World) :
    Calls Tryz.prog 40 #[.slice p 0 c, .int .i64 k] w fun e w' => e = .returned (.int .i64 k) ∧ w' = w := by
  go_enter Tryz.func40, Tryz.ntmps40
  go_wp2
  go_loop [1, 5] (fun kv i => i = .int .i64 0 ∧ kv = .int .i64 k) (fun _ i => 0)
  case atStart => exact ⟨rfl, rfl⟩
  case round =>
    obtain ⟨rfl, rfl⟩ := hrel
    go_wp2
    go_ret
    exact ⟨rfl, rfl⟩
theorem heldIns_nil (p : Option Addr) (c : Nat) (k : Int) (w : World) :
    Calls Tryz.prog 41 #[.slice p 0 c, .int .i64 k] w fun e w' => e = .returned (.int .i64 k) ∧ w' = w := by
  go_enter Tryz.func41, Tryz.ntmps41
  go_wp2
  go_loop [1, 5] (fun kv i => i = .int .i64 0 ∧ kv = .int .i64 k) (fun _ i => 0)
  case atStart => exact ⟨rfl, rfl⟩
  case round =>
    obtain ⟨rfl, rfl⟩ := hrel
    go_wp2
    go_ret
    exact ⟨rfl, rfl⟩
/-- Bools that hold their marks from k on. -/
def HB (w : World) (p : Option Addr) (n : Nat) (k : Int) : Prop := 0 < n → ∃ t, p = some ⟨t, 0, none⟩ ∧ ∀ j : Nat, j < n → w.cell? ⟨t, j, none⟩ = some (.bool (bk (k + j)))
/-- Instructions that hold their marks from k on. -/
def HI (w : World) (p : Option Addr) (n : Nat) (k : Int) : Prop := 0 < n → ∃ t, p = some ⟨t, 0, none⟩ ∧ ∀ j : Nat, j < n * 3 → w.cell? ⟨t, j, none⟩ = some (.int .i64 (k + j))
theorem heldBool_p (p : Option Addr) (n c : Nat) (k : Int) (w : World) (h : HB w p n k) (hn : n ≤ 1048576) (h0 : 0 ≤ k) (h1 : k ≤ 4000000000000000000) :
    Calls Tryz.prog 40 #[.slice p n c, .int .i64 k] w fun e w' => e = .returned (.int .i64 (k + n)) ∧ w' = w := by
  by_cases hz : 0 < n
  · obtain ⟨t, rfl, hc⟩ := h hz
    exact heldBool_v t n c k w hc hn h0 h1
  · obtain rfl : n = 0 := by omega
    refine (heldBool_nil p c k w).mono ?_
    rintro e w' ⟨rfl, rfl⟩
    exact ⟨by simp, rfl⟩
theorem heldIns_p (p : Option Addr) (n c : Nat) (k : Int) (w : World) (h : HI w p n k) (hn : n ≤ 1048576) (h0 : 0 ≤ k) (h1 : k ≤ 4000000000000000000) :
    Calls Tryz.prog 41 #[.slice p n c, .int .i64 k] w fun e w' => e = .returned (.int .i64 (k + 3 * n)) ∧ w' = w := by
  by_cases hz : 0 < n
  · obtain ⟨t, rfl, hc⟩ := h hz
    exact heldIns_v t n c k w hc hn h0 h1
  · obtain rfl : n = 0 := by omega
    refine (heldIns_nil p c k w).mono ?_
    rintro e w' ⟨rfl, rfl⟩
    exact ⟨by simp, rfl⟩
/-- Functions that hold their marks: ks i is the first mark of function i. -/
def HF (w : World) (t n : Nat) (ks : Nat → Int) : Prop := ∀ i : Nat, i < n → ∃ fp nf fc cp nc cc, w.cell? ⟨t, i * 3, none⟩ = some (.int .i64 (ks i)) ∧ w.cell? ⟨t, i * 3 + 1, none⟩ = some (.slice fp nf fc) ∧ w.cell? ⟨t, i * 3 + 2, none⟩ = some (.slice cp nc cc) ∧ HB w fp nf (ks i + 1) ∧ HI w cp nc (ks i + 1 + (nf : Int)) ∧ ks (i + 1) = ks i + 1 + (nf : Int) + 3 * (nc : Int) ∧ nf ≤ 1048576 ∧ nc ≤ 1048576 ∧ 0 ≤ ks i ∧ ks i ≤ 3900000000000000000
set_option maxHeartbeats 2000000 in
theorem heldFunc_v (t n c : Nat) (ks : Nat → Int) (w : World) (h : HF w t n ks) (hn : n ≤ 1048576) :
    Calls Tryz.prog 23 #[.slice (some ⟨t, 0, none⟩) n c, .int .i64 (ks 0)] w fun e w' => e = .returned (.int .i64 (ks n)) ∧ w' = w := by
  have HC : Hid (HF w t n ks) := h
  clear h
  obtain ⟨k0, hk0⟩ : ∃ k0, k0 = ks 0 := ⟨_, rfl⟩
  rw [← hk0]
  have HK : Hid (k0 = ks 0) := hk0
  clear hk0
  go_enter Tryz.func23, Tryz.ntmps23
  go_wp2
  go_loop [1, 5] (fun kv iv => ∃ (j : Nat) (z : Int), j ≤ n ∧ iv = .int .i64 j ∧ kv = .int .i64 z ∧ Hid (z = ks j)) (fun _ iv => n - (intOf iv).toNat)
  case atStart => exact ⟨0, k0, Nat.zero_le _, rfl, rfl, HK⟩
  case round =>
    obtain ⟨j, z, hj, rfl, rfl, hz⟩ := hrel
    by_cases hlt : j < n
    · obtain ⟨fp, nf, fc, cp, nc, cc, g0, g1, g2, hb, hi, hk, b1, b2, b3, b4⟩ := HC.out j hlt
      rw [← hz.out] at g0 hb hi hk b3 b4
      have HBb : Hid (HB w fp nf (z + 1)) := hb
      have HIi : Hid (HI w cp nc (z + 1 + (nf : Int))) := hi
      have HKk : Hid (ks (j + 1) = z + 1 + (nf : Int) + 3 * (nc : Int)) := hk
      have q1 : ¬ (z + 1 + (nf : Int) < 0) := by omega
      have q2 : ¬ (z + 1 + (nf : Int) + 3 * (nc : Int) < 0) := by omega
      clear hb hi hk
      go_wp2_with (first | (go_at_call 40; refine (heldBool_p fp nf fc (z + 1) _ HBb.out b1 (by omega) (by omega)).mono ?_; rintro e w1 ⟨rfl, rfl⟩) | (go_at_call 41; refine (heldIns_p cp nc cc (z + 1 + (nf : Int)) _ HIi.out b2 (by omega) (by omega)).mono ?_; rintro e w1 ⟨rfl, rfl⟩))
      exact ⟨⟨j + 1, z + 1 + (nf : Int) + 3 * (nc : Int), by omega, by go_num, rfl, HKk.out.symm⟩, by simp [intOf]; omega⟩
    · obtain rfl : j = n := by omega
      go_wp2
      go_ret
      exact ⟨ret_int hz.out, rfl⟩
theorem heldFunc_nil (p : Option Addr) (c : Nat) (k : Int) (w : World) :
    Calls Tryz.prog 23 #[.slice p 0 c, .int .i64 k] w fun e w' => e = .returned (.int .i64 k) ∧ w' = w := by
  go_enter Tryz.func23, Tryz.ntmps23
  go_wp2
  go_loop [1, 5] (fun kv i => i = .int .i64 0 ∧ kv = .int .i64 k) (fun _ i => 0)
  case atStart => exact ⟨rfl, rfl⟩
  case round =>
    obtain ⟨rfl, rfl⟩ := hrel
    go_wp2
    go_ret
    exact ⟨rfl, rfl⟩
end Go.Proofs.YtkkmoaidbmnolaaGreatDoor
namespace Go.Proofs.YtkkmoaidbmnolaaGreatDoor
open Go.RowKit Ch1
/-- Bytes that hold their marks from k on. -/
def HY (w : World) (p : Option Addr) (n : Nat) (k : Int) : Prop := 0 < n → ∃ t, p = some ⟨t, 0, none⟩ ∧ ∀ j : Nat, j < n → w.cell? ⟨t, j, none⟩ = some (.int .u8 (mk (k + j)))
theorem heldByte_p (p : Option Addr) (n c : Nat) (k : Int) (w : World) (h : HY w p n k) (hn : n ≤ 1048576) (h0 : 0 ≤ k) (h1 : k ≤ 4000000000000000000) :
    Calls Tryz.prog 60 #[.slice p n c, .int .i64 k] w fun e w' => e = .returned (.int .i64 (k + n)) ∧ w' = w := by
  by_cases hz : 0 < n
  · obtain ⟨t, rfl, hc⟩ := h hz
    exact held12 t n c k w hc (by omega) h0 h1
  · obtain rfl : n = 0 := by omega
    refine (held12_nil p c k w).mono ?_
    rintro e w' ⟨rfl, rfl⟩
    exact ⟨by simp, rfl⟩
/-- Data that hold their marks: ks i is the first mark of datum i. -/
def HD (w : World) (t n : Nat) (ks : Nat → Int) : Prop := ∀ i : Nat, i < n → ∃ p m c, w.cell? ⟨t, i * 4, none⟩ = some (.int .i64 (ks i)) ∧ w.cell? ⟨t, i * 4 + 1, none⟩ = some (.int .i64 (ks i + 1)) ∧ w.cell? ⟨t, i * 4 + 2, none⟩ = some (.slice p m c) ∧ HY w p m (ks i + 1 + 1) ∧ w.cell? ⟨t, i * 4 + 3, none⟩ = some (.int .i64 (ks i + 1 + 1 + (m : Int))) ∧ ks (i + 1) = ks i + 1 + 1 + (m : Int) + 1 ∧ m ≤ 1048576 ∧ 0 ≤ ks i ∧ ks i ≤ 3900000000000000000
set_option maxHeartbeats 2000000 in
theorem heldDatum_v (t n c : Nat) (ks : Nat → Int) (w : World) (h : HD w t n ks) (hn : n ≤ 1048576) :
    Calls Tryz.prog 39 #[.slice (some ⟨t, 0, none⟩) n c, .int .i64 (ks 0)] w fun e w' => e = .returned (.int .i64 (ks n)) ∧ w' = w := by
  have HC : Hid (HD w t n ks) := h
  clear h
  obtain ⟨k0, hk0⟩ : ∃ k0, k0 = ks 0 := ⟨_, rfl⟩
  rw [← hk0]
  have HK : Hid (k0 = ks 0) := hk0
  clear hk0
  go_enter Tryz.func39, Tryz.ntmps39
  go_wp2
  go_loop [1, 5] (fun kv iv => ∃ (j : Nat) (z : Int), j ≤ n ∧ iv = .int .i64 j ∧ kv = .int .i64 z ∧ Hid (z = ks j)) (fun _ iv => n - (intOf iv).toNat)
  case atStart => exact ⟨0, k0, Nat.zero_le _, rfl, rfl, HK⟩
  case round =>
    obtain ⟨j, z, hj, rfl, rfl, hz⟩ := hrel
    by_cases hlt : j < n
    · obtain ⟨p, m, cc, g0, g1, g2, hy, g3, hk, b1, b3, b4⟩ := HC.out j hlt
      rw [← hz.out] at g0 g1 g3 hy hk b3 b4
      have HYy : Hid (HY w p m (z + 1 + 1)) := hy
      have HKk : Hid (ks (j + 1) = z + 1 + 1 + (m : Int) + 1) := hk
      have q1 : ¬ (z + 1 + 1 + (m : Int) < 0) := by omega
      clear hy hk
      go_wp2_with (go_at_call 60; refine (heldByte_p p m cc (z + 1 + 1) _ HYy.out b1 (by omega) (by omega)).mono ?_; rintro e w1 ⟨rfl, rfl⟩)
      exact ⟨⟨j + 1, z + 1 + 1 + (m : Int) + 1, by omega, by go_num, rfl, HKk.out.symm⟩, by simp [intOf]; omega⟩
    · obtain rfl : j = n := by omega
      go_wp2
      go_ret
      exact ⟨ret_int hz.out, rfl⟩
theorem heldDatum_nil (p : Option Addr) (c : Nat) (k : Int) (w : World) :
    Calls Tryz.prog 39 #[.slice p 0 c, .int .i64 k] w fun e w' => e = .returned (.int .i64 k) ∧ w' = w := by
  go_enter Tryz.func39, Tryz.ntmps39
  go_wp2
  go_loop [1, 5] (fun kv i => i = .int .i64 0 ∧ kv = .int .i64 k) (fun _ i => 0)
  case atStart => exact ⟨rfl, rfl⟩
  case round =>
    obtain ⟨rfl, rfl⟩ := hrel
    go_wp2
    go_ret
    exact ⟨rfl, rfl⟩
/-- A list of data that holds its marks from a to ahead of b. -/
def HDp (w : World) (p : Option Addr) (n : Nat) (a b : Int) : Prop := (n = 0 ∧ b = a) ∨ ∃ t ks, p = some ⟨t, 0, none⟩ ∧ HD w t n ks ∧ ks 0 = a ∧ ks n = b
theorem heldDatum_p (p : Option Addr) (n c : Nat) (a b : Int) (w : World) (h : HDp w p n a b) (hn : n ≤ 1048576) :
    Calls Tryz.prog 39 #[.slice p n c, .int .i64 a] w fun e w' => e = .returned (.int .i64 b) ∧ w' = w := by
  rcases h with ⟨rfl, rfl⟩ | ⟨t, ks, rfl, hd, rfl, rfl⟩
  · exact heldDatum_nil p c _ w
  · exact heldDatum_v t n c ks w hd hn
/-- Lists of data that hold their marks: ks i is the first mark of list i. -/
def HS (w : World) (t n : Nat) (ks : Nat → Int) : Prop := ∀ i : Nat, i < n → ∃ p m c, w.cell? ⟨t, i, none⟩ = some (.slice p m c) ∧ HDp w p m (ks i) (ks (i + 1)) ∧ m ≤ 1048576 ∧ 0 ≤ ks (i + 1) ∧ ks (i + 1) ≤ 3900000000000000000
set_option maxHeartbeats 2000000 in
theorem heldDatumS_v (t n c : Nat) (ks : Nat → Int) (w : World) (h : HS w t n ks) (hn : n ≤ 1048576) :
    Calls Tryz.prog 22 #[.slice (some ⟨t, 0, none⟩) n c, .int .i64 (ks 0)] w fun e w' => e = .returned (.int .i64 (ks n)) ∧ w' = w := by
  have HC : Hid (HS w t n ks) := h
  clear h
  obtain ⟨k0, hk0⟩ : ∃ k0, k0 = ks 0 := ⟨_, rfl⟩
  rw [← hk0]
  have HK : Hid (k0 = ks 0) := hk0
  clear hk0
  go_enter Tryz.func22, Tryz.ntmps22
  go_wp2
  go_loop [1, 5] (fun kv iv => ∃ (j : Nat) (z : Int), j ≤ n ∧ iv = .int .i64 j ∧ kv = .int .i64 z ∧ Hid (z = ks j)) (fun _ iv => n - (intOf iv).toNat)
  case atStart => exact ⟨0, k0, Nat.zero_le _, rfl, rfl, HK⟩
  case round =>
    obtain ⟨j, z, hj, rfl, rfl, hz⟩ := hrel
    by_cases hlt : j < n
    · obtain ⟨p, m, cc, g0, hd, b1, b3, b4⟩ := HC.out j hlt
      rw [← hz.out] at hd
      obtain ⟨z1, hz1⟩ : ∃ z1, z1 = ks (j + 1) := ⟨_, rfl⟩
      rw [← hz1] at hd b3 b4
      have HDd : Hid (HDp w p m z z1) := hd
      have HKk : Hid (z1 = ks (j + 1)) := hz1
      have q1 : ¬ (z1 < 0) := by omega
      clear hd hz1
      go_wp2_with (go_at_call 39; refine (heldDatum_p p m cc z z1 _ HDd.out b1).mono ?_; rintro e w1 ⟨rfl, rfl⟩)
      exact ⟨⟨j + 1, z1, by omega, by go_num, rfl, HKk⟩, by simp [intOf]; omega⟩
    · obtain rfl : j = n := by omega
      go_wp2
      go_ret
      exact ⟨ret_int hz.out, rfl⟩
theorem heldDatumS_nil (p : Option Addr) (c : Nat) (k : Int) (w : World) :
    Calls Tryz.prog 22 #[.slice p 0 c, .int .i64 k] w fun e w' => e = .returned (.int .i64 k) ∧ w' = w := by
  go_enter Tryz.func22, Tryz.ntmps22
  go_wp2
  go_loop [1, 5] (fun kv i => i = .int .i64 0 ∧ kv = .int .i64 k) (fun _ i => 0)
  case atStart => exact ⟨rfl, rfl⟩
  case round =>
    obtain ⟨rfl, rfl⟩ := hrel
    go_wp2
    go_ret
    exact ⟨rfl, rfl⟩
end Go.Proofs.YtkkmoaidbmnolaaGreatDoor
namespace Go.Proofs.YtkkmoaidbmnolaaGreatDoor
open Go.RowKit Ch1
def HSp (w : World) (p : Option Addr) (n : Nat) (a b : Int) : Prop := (n = 0 ∧ b = a) ∨ ∃ t ks, p = some ⟨t, 0, none⟩ ∧ HS w t n ks ∧ ks 0 = a ∧ ks n = b
def HFp (w : World) (p : Option Addr) (n : Nat) (a b : Int) : Prop := (n = 0 ∧ b = a) ∨ ∃ t ks, p = some ⟨t, 0, none⟩ ∧ HF w t n ks ∧ ks 0 = a ∧ ks n = b
theorem heldDatumS_p (p : Option Addr) (n c : Nat) (a b : Int) (w : World) (h : HSp w p n a b) (hn : n ≤ 1048576) :
    Calls Tryz.prog 22 #[.slice p n c, .int .i64 a] w fun e w' => e = .returned (.int .i64 b) ∧ w' = w := by
  rcases h with ⟨rfl, rfl⟩ | ⟨t, ks, rfl, hd, rfl, rfl⟩
  · exact heldDatumS_nil p c _ w
  · exact heldDatumS_v t n c ks w hd hn
theorem heldFunc_p (p : Option Addr) (n c : Nat) (a b : Int) (w : World) (h : HFp w p n a b) (hn : n ≤ 1048576) :
    Calls Tryz.prog 23 #[.slice p n c, .int .i64 a] w fun e w' => e = .returned (.int .i64 b) ∧ w' = w := by
  rcases h with ⟨rfl, rfl⟩ | ⟨t, ks, rfl, hd, rfl, rfl⟩
  · exact heldFunc_nil p c _ w
  · exact heldFunc_v t n c ks w hd hn
/-- What is told of a cell of w holds in w'. -/
def Cs (w w' : World) : Prop := ∀ a v, w.cell? a = some v → w'.cell? a = some v
theorem cs_below {w w' : World} (hb : Below w.heap.size w w') : Cs w w' := fun a v h => by
  have hl : a.block < w.heap.size := by
    simp only [World.cell?] at h
    by_cases hh : a.block < w.heap.size
    · exact hh
    · rw [Array.getElem?_eq_none (by omega)] at h; simp at h
  rw [hb.cell (p := a) hl]; exact h
theorem HB.cs {w w' : World} {p : Option Addr} {n : Nat} {k : Int} (h : HB w p n k) (c : Cs w w') : HB w' p n k := fun h0 => by
  obtain ⟨t, e, f⟩ := h h0
  exact ⟨t, e, fun j hj => c _ _ (f j hj)⟩
theorem HI.cs {w w' : World} {p : Option Addr} {n : Nat} {k : Int} (h : HI w p n k) (c : Cs w w') : HI w' p n k := fun h0 => by
  obtain ⟨t, e, f⟩ := h h0
  exact ⟨t, e, fun j hj => c _ _ (f j hj)⟩
theorem HY.cs {w w' : World} {p : Option Addr} {n : Nat} {k : Int} (h : HY w p n k) (c : Cs w w') : HY w' p n k := fun h0 => by
  obtain ⟨t, e, f⟩ := h h0
  exact ⟨t, e, fun j hj => c _ _ (f j hj)⟩
theorem HF.cs {w w' : World} {t n : Nat} {ks : Nat → Int} (h : HF w t n ks) (c : Cs w w') : HF w' t n ks := fun i hi => by
  obtain ⟨fp, nf, fc, cp, nc, cc, g0, g1, g2, g3, g4, g5⟩ := h i hi
  exact ⟨fp, nf, fc, cp, nc, cc, c _ _ g0, c _ _ g1, c _ _ g2, g3.cs c, g4.cs c, g5⟩
theorem HD.cs {w w' : World} {t n : Nat} {ks : Nat → Int} (h : HD w t n ks) (c : Cs w w') : HD w' t n ks := fun i hi => by
  obtain ⟨p, m, cc, g0, g1, g2, g3, g4, g5⟩ := h i hi
  exact ⟨p, m, cc, c _ _ g0, c _ _ g1, c _ _ g2, g3.cs c, c _ _ g4, g5⟩
theorem HDp.cs {w w' : World} {p : Option Addr} {n : Nat} {a b : Int} (h : HDp w p n a b) (c : Cs w w') : HDp w' p n a b := by
  rcases h with h | ⟨t, ks, e, h, r⟩
  · exact Or.inl h
  · exact Or.inr ⟨t, ks, e, h.cs c, r⟩
theorem HS.cs {w w' : World} {t n : Nat} {ks : Nat → Int} (h : HS w t n ks) (c : Cs w w') : HS w' t n ks := fun i hi => by
  obtain ⟨p, m, cc, g0, g1, g2⟩ := h i hi
  exact ⟨p, m, cc, c _ _ g0, g1.cs c, g2⟩
theorem HSp.cs {w w' : World} {p : Option Addr} {n : Nat} {a b : Int} (h : HSp w p n a b) (c : Cs w w') : HSp w' p n a b := by
  rcases h with h | ⟨t, ks, e, h, r⟩
  · exact Or.inl h
  · exact Or.inr ⟨t, ks, e, h.cs c, r⟩
theorem HFp.cs {w w' : World} {p : Option Addr} {n : Nat} {a b : Int} (h : HFp w p n a b) (c : Cs w w') : HFp w' p n a b := by
  rcases h with h | ⟨t, ks, e, h, r⟩
  · exact Or.inl h
  · exact Or.inr ⟨t, ks, e, h.cs c, r⟩
set_option maxHeartbeats 1000000 in
/-- A module that holds its marks. -/
theorem heldModule_v (p q : Option Addr) (n c m d : Nat) (g a b z : Int) (w : World) (h : HSp w p n a b) (k : HFp w q m b z) (hn : n ≤ 1048576) (hm : m ≤ 1048576) (hb : 0 ≤ b) (hz : 0 ≤ z) :
    Calls Tryz.prog 11 #[.agg #[.slice p n c, .int .i64 g, .slice q m d], .int .i64 a] w fun e w' => e = .returned (.int .i64 z) ∧ Below w.heap.size w w' := by
  obtain ⟨W, hW⟩ : ∃ W, W = w.alloc (.cells #[.slice p n c, .int .i64 g, .slice q m d] 26) := ⟨_, rfl⟩
  have HX0 : Hid (B3 W w.heap.size (.slice p n c) (.int .i64 g) (.slice q m d)) := by unfold Hid; rw [hW]; exact B3.new w _ _ _ _
  have HWB : Hid (Below w.heap.size w W) := by unfold Hid; rw [hW]; exact below1 _ _
  have H1 : Hid (HSp W p n a b) := h.cs (cs_below HWB.out)
  have H2 : Hid (HFp W q m b z) := k.cs (cs_below HWB.out)
  have q1 : ¬ (b < 0) := by omega
  have q2 : ¬ (z < 0) := by omega
  clear h k
  go_enter Tryz.func11, Tryz.ntmps11
  go_wp2_with fail
  rw [← hW]
  clear hW
  refine (heldDatumS_p p n c a b _ H1.out hn).mono ?_
  rintro e w1 ⟨rfl, rfl⟩
  have c2 := HX0.out.c2
  go_wp2_with fail
  refine (heldFunc_p q m d b z _ H2.out hm).mono ?_
  rintro e w2 ⟨rfl, rfl⟩
  go_wp2
  go_ret
  exact ⟨rfl, HWB.out⟩
end Go.Proofs.YtkkmoaidbmnolaaGreatDoor
