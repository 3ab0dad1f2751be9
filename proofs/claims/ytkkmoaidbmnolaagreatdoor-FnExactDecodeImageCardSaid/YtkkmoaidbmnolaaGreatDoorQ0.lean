import Derived.WalkKit
import Derived.Laws.BitsAllLaws
namespace Go.Proofs.YtkkmoaidbmnolaaGreatDoor
/-- One bit of the checksum. -/
def crcB (h : Int) : Int := if h % 2 = 1 then bits .xor .u32 (h / 2) 3988292384 else h / 2
/-- Some bits of the checksum. -/
def crcK : Nat → Int → Int
  | 0, h => h
  | k + 1, h => crcB (crcK k h)
/-- One byte of the checksum. -/
def crcY (h x : Int) : Int := crcK 8 (bits .xor .u32 h x)
/-- The checksum's state behind the first k bytes. -/
def crcL (xs : List Int) : Nat → Int
  | 0 => 4294967295
  | k + 1 => crcY (crcL xs k) (xs.getD k 0)
/-- The checksum. -/
def crcZ (xs : List Int) : Int := bits .xor .u32 (crcL xs xs.length) 4294967295
theorem xor32_rng (a b : Int) (h1 : 0 ≤ a) (h2 : a < 4294967296) (h3 : 0 ≤ b) (h4 : b < 4294967296) : 0 ≤ bits .xor .u32 a b ∧ bits .xor .u32 a b < 4294967296 := by
  rw [u32_xor a b h1 h2 h3 h4]
  have : a.toNat ^^^ b.toNat < 2 ^ 32 := Nat.xor_lt_two_pow (by omega) (by omega)
  omega
theorem and32_one (a : Int) (h1 : 0 ≤ a) (h2 : a < 4294967296) : bits .and .u32 a 1 = a % 2 := by
  rw [u32_and a 1 h1 h2 (by omega) (by omega)]
  have : a.toNat &&& (1 : Int).toNat = a.toNat % 2 := Nat.and_two_pow_sub_one_eq_mod a.toNat 1
  rw [this]
  omega
theorem crcB_rng (h : Int) (h1 : 0 ≤ h) (h2 : h < 4294967296) : 0 ≤ crcB h ∧ crcB h < 4294967296 := by
  unfold crcB
  split
  · exact xor32_rng _ _ (by omega) (by omega) (by omega) (by omega)
  · omega
theorem crcK_rng (k : Nat) (h : Int) (h1 : 0 ≤ h) (h2 : h < 4294967296) : 0 ≤ crcK k h ∧ crcK k h < 4294967296 := by
  induction k with
  | zero => exact ⟨h1, h2⟩
  | succ k ih => exact crcB_rng _ ih.1 ih.2
theorem crcY_rng (h x : Int) (h1 : 0 ≤ h) (h2 : h < 4294967296) (h3 : 0 ≤ x) (h4 : x < 256) : 0 ≤ crcY h x ∧ crcY h x < 4294967296 := by
  have := xor32_rng h x h1 h2 h3 (by omega)
  exact crcK_rng 8 _ this.1 this.2
theorem crcL_rng (xs : List Int) (hx : ∀ i, 0 ≤ xs.getD i 0 ∧ xs.getD i 0 < 256) (k : Nat) : 0 ≤ crcL xs k ∧ crcL xs k < 4294967296 := by
  induction k with
  | zero => simp [crcL]
  | succ k ih => exact crcY_rng _ _ ih.1 ih.2 (hx k).1 (hx k).2
end Go.Proofs.YtkkmoaidbmnolaaGreatDoor
