import Derived.Test.YtpfodinoeoejcaaQ1
namespace Go.Proofs.Ytpfodinoeoejcaa
open Go.RowKit
set_option maxHeartbeats 1000000 in
theorem lawCrc (p : Option Addr) (n c : Nat) (xs : List Int) (w : World) (h : By w p n c xs) :
    Calls Try.prog 9 #[.slice p n c] w fun e w' => e = .returned (.bool true) ∧ Below w.heap.size w w' := by
  have hbig : n ≤ 9223372036854775807 := by have := h.cap; have := h.big; unfold maxLen at this; omega
  have HY : Hid (By w p n c xs) := h
  clear h
  go_enter Try.func9, Try.ntmps9
  by_cases hn : (1048576 : Int) < n
  · go_wp2
    go_ret
    exact ⟨rfl, Below.refl _ _⟩
  have d1 : decide ((1048576 : Int) < n) = false := decide_eq_false hn
  have hnn : n ≤ 1048576 := by omega
  go_wp2_with fail
  refine (toByte30 p n c xs _ HY.out hnn).mono ?_
  rintro e w1 ⟨rfl, hy1, hb1⟩
  have HB1 : Hid (Below w.heap.size w w1) := hb1
  have HY1 : Hid (By w1 (some ⟨w.heap.size, 0, none⟩) n n xs) := hy1
  clear hy1 hb1
  go_wp2_with fail
  refine (specCrc_c _ n n xs _ HY1.out).mono ?_
  rintro e w2 ⟨rfl, hw2⟩
  have hw2' := hw2.symm
  clear hw2
  subst hw2'
  go_wp2_with fail
  refine (toByte30 p n c xs _ (HY.out.below HB1.out) hnn).mono ?_
  rintro e w3 ⟨rfl, hy3, hb3⟩
  have HB3 : Hid (Below w.heap.size w w3) := HB1.out.trans (hb3.mono HB1.out.size)
  have HY3 : Hid (By w3 (some ⟨w1.heap.size, 0, none⟩) n n xs) := hy3
  clear hy3 hb3
  go_wp2_with fail
  refine (implCrc_c _ n n xs _ HY3.out).mono ?_
  rintro e w4 ⟨rfl, hw4⟩
  have hw4' := hw4.symm
  clear hw4
  subst hw4'
  have hne : (crcZ xs != crcZ xs) = false := by simp
  go_wp2_with fail
  refine (toByte30 p n c xs _ (HY.out.below HB3.out) hnn).mono ?_
  rintro e w5 ⟨rfl, hy5, hb5⟩
  have HB5 : Hid (Below w.heap.size w w5) := HB3.out.trans (hb5.mono HB3.out.size)
  have HY5 : Hid (By w5 (some ⟨w3.heap.size, 0, none⟩) n n xs) := hy5
  have HY35 : Hid (By w5 (some ⟨w1.heap.size, 0, none⟩) n n xs) := HY3.out.below hb5
  clear hy5 hb5
  go_wp2_with fail
  refine (eqByte32 _ _ n n n xs _ HY35.out HY5.out).mono ?_
  rintro e w6 ⟨rfl, q6, hw6⟩
  have HB6 : Hid (Below w.heap.size w w6) := by rw [hw6]; exact below_drewN' HB5.out q6
  clear hw6
  go_wp2
  go_ret
  exact ⟨rfl, HB6.out⟩
end Go.Proofs.Ytpfodinoeoejcaa
