import Derived.Test.YtkkmoaidbmnolaaGreatDoorWd
import Derived.Test.YtkkmoaidbmnolaaGreatDoorQ0
namespace Go.Proofs.YtkkmoaidbmnolaaGreatDoor
open Go.RowKit
theorem crcK_succ (k : Nat) (h : Int) : crcK (k + 1) h = crcB (crcK k h) := rfl
theorem crcB_odd {h : Int} (e : h % 2 = 1) : crcB h = bits .xor .u32 (h / 2) 3988292384 := if_pos e
theorem crcB_even {h : Int} (e : ¬ h % 2 = 1) : crcB h = h / 2 := if_neg e
set_option maxHeartbeats 1000000 in
theorem specCrc_c (p : Option Addr) (n c : Nat) (xs : List Int) (w : World) (h : By w p n c xs) :
    Calls Tryz.prog 47 #[.slice p n c] w fun e w' => e = .returned (.int .u32 (crcZ xs)) ∧ w' = w := by
  have hbig : n ≤ 9223372036854775807 := by have := h.cap; have := h.big; unfold maxLen at this; omega
  have HL : Hid (xs.length = n) := h.len
  have HC : Hid (Lib.BytesIn w p n xs) := h.cells
  have HR : Hid (∀ i, 0 ≤ xs.getD i 0 ∧ xs.getD i 0 < 256) := h.rng
  clear h
  go_enter Tryz.func47, Tryz.ntmps47
  go_wp2
  go_loop [3, 4] (fun hv iv => ∃ k : Nat, k ≤ n ∧ iv = .int .i64 k ∧ hv = .int .u32 (crcL xs k)) (fun _ iv => n - (intOf iv).toNat)
  case atStart => exact ⟨0, Nat.zero_le _, rfl, rfl⟩
  case round =>
    obtain ⟨k, hk, rfl, rfl⟩ := hrel
    have HI : Hid (0 ≤ crcL xs k ∧ crcL xs k < 4294967296) := crcL_rng xs HR.out k
    by_cases hlt : k < n
    · obtain ⟨b, o, rfl, g⟩ := HC.out (by omega)
      have g1 := g k hlt
      clear g
      have hx0 := (HR.out k).1
      have hx1 := (HR.out k).2
      have HN : Hid (crcL xs (k + 1) = crcK 8 (bits .xor .u32 (crcL xs k) (xs.getD k 0))) := rfl
      have HI2 : Hid (0 ≤ bits .xor .u32 (crcL xs k) (xs.getD k 0) ∧ bits .xor .u32 (crcL xs k) (xs.getD k 0) < 4294967296) := xor32_rng _ _ HI.out.1 HI.out.2 hx0 (by omega)
      generalize crcL xs k = h0 at HN HI HI2 ⊢
      generalize xs.getD k 0 = x at g1 hx0 hx1 HN HI2
      go_wp2
      go_loop [3, 5] (fun hv jv => ∃ j : Nat, j ≤ 8 ∧ jv = .int .i64 j ∧ hv = .int .u32 (crcK j (bits .xor .u32 h0 x))) (fun _ jv => 8 - (intOf jv).toNat)
      case atStart => exact ⟨0, Nat.zero_le _, rfl, rfl⟩
      case round =>
        obtain ⟨j, hj, rfl, rfl⟩ := hrel
        have hs := crcK_rng j _ HI2.out.1 HI2.out.2
        have HS : Hid (crcK (j + 1) (bits .xor .u32 h0 x) = crcB (crcK j (bits .xor .u32 h0 x))) := rfl
        have HS8 : Hid (j = 8 → crcL xs (k + 1) = crcK j (bits .xor .u32 h0 x)) := fun e => by rw [HN.out, e]
        generalize crcK j (bits .xor .u32 h0 x) = s at hs HS HS8 ⊢
        obtain ⟨hs0, hs1⟩ := hs
        by_cases hj8 : j < 8
        · by_cases ho : s % 2 = 1
          · have t : (s % 2 == 1) = true := by simp [ho]
            go_wp2
            exact ⟨⟨j + 1, by omega, by go_num, by rw [HS.out, crcB_odd ho]⟩, by simp [intOf]; omega⟩
          · have t : (s % 2 == 1) = false := by simp [ho]
            go_wp2
            exact ⟨⟨j + 1, by omega, by go_num, by rw [HS.out, crcB_even ho]⟩, by simp [intOf]; omega⟩
        · go_wp2
          exact ⟨⟨k + 1, by omega, by go_num, by rw [HS8.out (by omega)]⟩, by simp [intOf]; omega⟩
    · obtain rfl : k = n := by omega
      go_wp2
      go_ret
      exact ⟨ret_int (by unfold crcZ; rw [HL.out]), rfl⟩
set_option maxHeartbeats 1000000 in
theorem implCrc_c (p : Option Addr) (n c : Nat) (xs : List Int) (w : World) (h : By w p n c xs) :
    Calls Tryz.prog 31 #[.slice p n c] w fun e w' => e = .returned (.int .u32 (crcZ xs)) ∧ w' = w := by
  have hbig : n ≤ 9223372036854775807 := by have := h.cap; have := h.big; unfold maxLen at this; omega
  have HL : Hid (xs.length = n) := h.len
  have HC : Hid (Lib.BytesIn w p n xs) := h.cells
  have HR : Hid (∀ i, 0 ≤ xs.getD i 0 ∧ xs.getD i 0 < 256) := h.rng
  clear h
  go_enter Tryz.func31, Tryz.ntmps31
  go_wp2
  go_loop [3, 9] (fun hv iv => ∃ k : Nat, k ≤ n ∧ iv = .int .i64 k ∧ hv = .int .u32 (crcL xs k)) (fun _ iv => n - (intOf iv).toNat)
  case atStart => exact ⟨0, Nat.zero_le _, rfl, rfl⟩
  case round =>
    obtain ⟨k, hk, rfl, rfl⟩ := hrel
    have HI : Hid (0 ≤ crcL xs k ∧ crcL xs k < 4294967296) := crcL_rng xs HR.out k
    by_cases hlt : k < n
    · obtain ⟨b, o, rfl, g⟩ := HC.out (by omega)
      have g1 := g k hlt
      clear g
      have hx0 := (HR.out k).1
      have hx1 := (HR.out k).2
      have HN : Hid (crcL xs (k + 1) = crcK 8 (bits .xor .u32 (crcL xs k) (xs.getD k 0))) := rfl
      have HI2 : Hid (0 ≤ bits .xor .u32 (crcL xs k) (xs.getD k 0) ∧ bits .xor .u32 (crcL xs k) (xs.getD k 0) < 4294967296) := xor32_rng _ _ HI.out.1 HI.out.2 hx0 (by omega)
      generalize crcL xs k = h0 at HN HI HI2 ⊢
      generalize xs.getD k 0 = x at g1 hx0 hx1 HN HI2
      go_wp2
      go_loop [3, 17] (fun hv jv => ∃ j : Nat, j ≤ 8 ∧ jv = .int .i64 j ∧ hv = .int .u32 (crcK j (bits .xor .u32 h0 x))) (fun _ jv => 8 - (intOf jv).toNat)
      case atStart => exact ⟨0, Nat.zero_le _, rfl, rfl⟩
      case round =>
        obtain ⟨j, hj, rfl, rfl⟩ := hrel
        have hs := crcK_rng j _ HI2.out.1 HI2.out.2
        have HS : Hid (crcK (j + 1) (bits .xor .u32 h0 x) = crcB (crcK j (bits .xor .u32 h0 x))) := rfl
        have HS8 : Hid (j = 8 → crcL xs (k + 1) = crcK j (bits .xor .u32 h0 x)) := fun e => by rw [HN.out, e]
        generalize crcK j (bits .xor .u32 h0 x) = s at hs HS HS8 ⊢
        obtain ⟨hs0, hs1⟩ := hs
        have ha := and32_one s hs0 hs1
        by_cases hj8 : j < 8
        · by_cases ho : s % 2 = 1
          · have t : (bits .and .u32 s 1 == 1) = true := by simp [ha, ho]
            clear ha
            go_wp2
            exact ⟨⟨j + 1, by omega, by go_num, by rw [HS.out, crcB_odd ho]⟩, by simp [intOf]; omega⟩
          · have t : (bits .and .u32 s 1 == 1) = false := by simp [ha, ho]
            clear ha
            go_wp2
            exact ⟨⟨j + 1, by omega, by go_num, by rw [HS.out, crcB_even ho]⟩, by simp [intOf]; omega⟩
        · go_wp2
          exact ⟨⟨k + 1, by omega, by go_num, by rw [HS8.out (by omega)]⟩, by simp [intOf]; omega⟩
    · obtain rfl : k = n := by omega
      go_wp2
      go_ret
      exact ⟨ret_int (by unfold crcZ; rw [HL.out]), rfl⟩
end Go.Proofs.YtkkmoaidbmnolaaGreatDoor
