import Derived.Test.YtbcanodijcglpaaDoorW9
import Derived.WalkKit
import Derived.Laws.BitsAllLaws
namespace Go.Proofs.YtbcanodijcglpaaDoor
/-- One bit of the checksum. -/
def crcB (h : Int) : Int := if h % 2 = 1 then bits .xor .u32 (h / 2) 3988292384 else h / 2
/-- Some bits of the checksum. -/
def crcK : Nat → Int → Int
  | 0, h => h
  | k + 1, h => crcB (crcK k h)
/-- One byte of the checksum. -/
def crcY (h x : Int) : Int := crcK 8 (bits .xor .u32 h x)
/-- The checksum's state behind the first k bytes. -/
def crcL (xs : List Int) : Nat → Int
  | 0 => 4294967295
  | k + 1 => crcY (crcL xs k) (xs.getD k 0)
/-- The checksum. -/
def crcZ (xs : List Int) : Int := bits .xor .u32 (crcL xs xs.length) 4294967295
theorem xor32_rng (a b : Int) (h1 : 0 ≤ a) (h2 : a < 4294967296) (h3 : 0 ≤ b) (h4 : b < 4294967296) : 0 ≤ bits .xor .u32 a b ∧ bits .xor .u32 a b < 4294967296 := by
  rw [u32_xor a b h1 h2 h3 h4]
  have : a.toNat ^^^ b.toNat < 2 ^ 32 := Nat.xor_lt_two_pow (by omega) (by omega)
  omega
theorem and32_one (a : Int) (h1 : 0 ≤ a) (h2 : a < 4294967296) : bits .and .u32 a 1 = a % 2 := by
  rw [u32_and a 1 h1 h2 (by omega) (by omega)]
  have : a.toNat &&& (1 : Int).toNat = a.toNat % 2 := Nat.and_two_pow_sub_one_eq_mod a.toNat 1
  rw [this]
  omega
theorem crcB_rng (h : Int) (h1 : 0 ≤ h) (h2 : h < 4294967296) : 0 ≤ crcB h ∧ crcB h < 4294967296 := by
  unfold crcB
  split
  · exact xor32_rng _ _ (by omega) (by omega) (by omega) (by omega)
  · omega
theorem crcK_rng (k : Nat) (h : Int) (h1 : 0 ≤ h) (h2 : h < 4294967296) : 0 ≤ crcK k h ∧ crcK k h < 4294967296 := by
  induction k with
  | zero => exact ⟨h1, h2⟩
  | succ k ih => exact crcB_rng _ ih.1 ih.2
theorem crcY_rng (h x : Int) (h1 : 0 ≤ h) (h2 : h < 4294967296) (h3 : 0 ≤ x) (h4 : x < 256) : 0 ≤ crcY h x ∧ crcY h x < 4294967296 := by
  have := xor32_rng h x h1 h2 h3 (by omega)
  exact crcK_rng 8 _ this.1 this.2
theorem crcL_rng (xs : List Int) (hx : ∀ i, 0 ≤ xs.getD i 0 ∧ xs.getD i 0 < 256) (k : Nat) : 0 ≤ crcL xs k ∧ crcL xs k < 4294967296 := by
  induction k with
  | zero => simp [crcL]
  | succ k ih => exact crcY_rng _ _ ih.1 ih.2 (hx k).1 (hx k).2
end Go.Proofs.YtbcanodijcglpaaDoor
namespace Go.Proofs.YtbcanodijcglpaaDoor
open Go.RowKit
theorem crcK_succ (k : Nat) (h : Int) : crcK (k + 1) h = crcB (crcK k h) := rfl
theorem crcB_odd {h : Int} (e : h % 2 = 1) : crcB h = bits .xor .u32 (h / 2) 3988292384 := if_pos e
theorem crcB_even {h : Int} (e : ¬ h % 2 = 1) : crcB h = h / 2 := if_neg e
set_option maxHeartbeats 1000000 in
theorem specCrc_c (p : Option Addr) (n c : Nat) (xs : List Int) (w : World) (h : By w p n c xs) :
    Calls Tryd.prog 35 #[.slice p n c] w fun e w' => e = .returned (.int .u32 (crcZ xs)) ∧ w' = w := by
  have hbig : n ≤ 9223372036854775807 := by have := h.cap; have := h.big; unfold maxLen at this; omega
  have HL : Hid (xs.length = n) := h.len
  have HC : Hid (Lib.BytesIn w p n xs) := h.cells
  have HR : Hid (∀ i, 0 ≤ xs.getD i 0 ∧ xs.getD i 0 < 256) := h.rng
  clear h
  go_enter Tryd.func35, Tryd.ntmps35
  go_wp2
  go_loop [3, 4] (fun hv iv => ∃ k : Nat, k ≤ n ∧ iv = .int .i64 k ∧ hv = .int .u32 (crcL xs k)) (fun _ iv => n - (intOf iv).toNat)
  case atStart => exact ⟨0, Nat.zero_le _, rfl, rfl⟩
  case round =>
    obtain ⟨k, hk, rfl, rfl⟩ := hrel
    have HI : Hid (0 ≤ crcL xs k ∧ crcL xs k < 4294967296) := crcL_rng xs HR.out k
    by_cases hlt : k < n
    · obtain ⟨b, o, rfl, g⟩ := HC.out (by omega)
      have g1 := g k hlt
      clear g
      have hx0 := (HR.out k).1
      have hx1 := (HR.out k).2
      have HN : Hid (crcL xs (k + 1) = crcK 8 (bits .xor .u32 (crcL xs k) (xs.getD k 0))) := rfl
      have HI2 : Hid (0 ≤ bits .xor .u32 (crcL xs k) (xs.getD k 0) ∧ bits .xor .u32 (crcL xs k) (xs.getD k 0) < 4294967296) := xor32_rng _ _ HI.out.1 HI.out.2 hx0 (by omega)
      generalize crcL xs k = h0 at HN HI HI2 ⊢
      generalize xs.getD k 0 = x at g1 hx0 hx1 HN HI2
      go_wp2
      go_loop [3, 5] (fun hv jv => ∃ j : Nat, j ≤ 8 ∧ jv = .int .i64 j ∧ hv = .int .u32 (crcK j (bits .xor .u32 h0 x))) (fun _ jv => 8 - (intOf jv).toNat)
      case atStart => exact ⟨0, Nat.zero_le _, rfl, rfl⟩
      case round =>
        obtain ⟨j, hj, rfl, rfl⟩ := hrel
        have hs := crcK_rng j _ HI2.out.1 HI2.out.2
        have HS : Hid (crcK (j + 1) (bits .xor .u32 h0 x) = crcB (crcK j (bits .xor .u32 h0 x))) := rfl
        have HS8 : Hid (j = 8 → crcL xs (k + 1) = crcK j (bits .xor .u32 h0 x)) := fun e => by rw [HN.out, e]
        generalize crcK j (bits .xor .u32 h0 x) = s at hs HS HS8 ⊢
        obtain ⟨hs0, hs1⟩ := hs
        by_cases hj8 : j < 8
        · by_cases ho : s % 2 = 1
          · have t : (s % 2 == 1) = true := by simp [ho]
            go_wp2
            exact ⟨⟨j + 1, by omega, by go_num, by rw [HS.out, crcB_odd ho]⟩, by simp [intOf]; omega⟩
          · have t : (s % 2 == 1) = false := by simp [ho]
            go_wp2
            exact ⟨⟨j + 1, by omega, by go_num, by rw [HS.out, crcB_even ho]⟩, by simp [intOf]; omega⟩
        · go_wp2
          exact ⟨⟨k + 1, by omega, by go_num, by rw [HS8.out (by omega)]⟩, by simp [intOf]; omega⟩
    · obtain rfl : k = n := by omega
      go_wp2
      go_ret
      exact ⟨ret_int (by unfold crcZ; rw [HL.out]), rfl⟩
set_option maxHeartbeats 1000000 in
theorem implCrc_c (p : Option Addr) (n c : Nat) (xs : List Int) (w : World) (h : By w p n c xs) :
    Calls Tryd.prog 23 #[.slice p n c] w fun e w' => e = .returned (.int .u32 (crcZ xs)) ∧ w' = w := by
  have hbig : n ≤ 9223372036854775807 := by have := h.cap; have := h.big; unfold maxLen at this; omega
  have HL : Hid (xs.length = n) := h.len
  have HC : Hid (Lib.BytesIn w p n xs) := h.cells
  have HR : Hid (∀ i, 0 ≤ xs.getD i 0 ∧ xs.getD i 0 < 256) := h.rng
  clear h
  go_enter Tryd.func23, Tryd.ntmps23
  go_wp2
  go_loop [3, 9] (fun hv iv => ∃ k : Nat, k ≤ n ∧ iv = .int .i64 k ∧ hv = .int .u32 (crcL xs k)) (fun _ iv => n - (intOf iv).toNat)
  case atStart => exact ⟨0, Nat.zero_le _, rfl, rfl⟩
  case round =>
    obtain ⟨k, hk, rfl, rfl⟩ := hrel
    have HI : Hid (0 ≤ crcL xs k ∧ crcL xs k < 4294967296) := crcL_rng xs HR.out k
    by_cases hlt : k < n
    · obtain ⟨b, o, rfl, g⟩ := HC.out (by omega)
      have g1 := g k hlt
      clear g
      have hx0 := (HR.out k).1
      have hx1 := (HR.out k).2
      have HN : Hid (crcL xs (k + 1) = crcK 8 (bits .xor .u32 (crcL xs k) (xs.getD k 0))) := rfl
      have HI2 : Hid (0 ≤ bits .xor .u32 (crcL xs k) (xs.getD k 0) ∧ bits .xor .u32 (crcL xs k) (xs.getD k 0) < 4294967296) := xor32_rng _ _ HI.out.1 HI.out.2 hx0 (by omega)
      generalize crcL xs k = h0 at HN HI HI2 ⊢
      generalize xs.getD k 0 = x at g1 hx0 hx1 HN HI2
      go_wp2
      go_loop [3, 17] (fun hv jv => ∃ j : Nat, j ≤ 8 ∧ jv = .int .i64 j ∧ hv = .int .u32 (crcK j (bits .xor .u32 h0 x))) (fun _ jv => 8 - (intOf jv).toNat)
      case atStart => exact ⟨0, Nat.zero_le _, rfl, rfl⟩
      case round =>
        obtain ⟨j, hj, rfl, rfl⟩ := hrel
        have hs := crcK_rng j _ HI2.out.1 HI2.out.2
        have HS : Hid (crcK (j + 1) (bits .xor .u32 h0 x) = crcB (crcK j (bits .xor .u32 h0 x))) := rfl
        have HS8 : Hid (j = 8 → crcL xs (k + 1) = crcK j (bits .xor .u32 h0 x)) := fun e => by rw [HN.out, e]
        generalize crcK j (bits .xor .u32 h0 x) = s at hs HS HS8 ⊢
        obtain ⟨hs0, hs1⟩ := hs
        have ha := and32_one s hs0 hs1
        by_cases hj8 : j < 8
        · by_cases ho : s % 2 = 1
          · have t : (bits .and .u32 s 1 == 1) = true := by simp [ha, ho]
            clear ha
            go_wp2
            exact ⟨⟨j + 1, by omega, by go_num, by rw [HS.out, crcB_odd ho]⟩, by simp [intOf]; omega⟩
          · have t : (bits .and .u32 s 1 == 1) = false := by simp [ha, ho]
            clear ha
            go_wp2
            exact ⟨⟨j + 1, by omega, by go_num, by rw [HS.out, crcB_even ho]⟩, by simp [intOf]; omega⟩
        · go_wp2
          exact ⟨⟨k + 1, by omega, by go_num, by rw [HS8.out (by omega)]⟩, by simp [intOf]; omega⟩
    · obtain rfl : k = n := by omega
      go_wp2
      go_ret
      exact ⟨ret_int (by unfold crcZ; rw [HL.out]), rfl⟩
end Go.Proofs.YtbcanodijcglpaaDoor
