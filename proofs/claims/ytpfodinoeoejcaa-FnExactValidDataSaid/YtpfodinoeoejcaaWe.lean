import Derived.Test.YtpfodinoeoejcaaWd
import Derived.Test.YtpfodinoeoejcaaWv
namespace Go.Proofs.Ytpfodinoeoejcaa
open Go.RowKit Ch1
set_option maxHeartbeats 1000000 in
theorem law3 (p : Option Addr) (n c : Nat) (ds : List Dt) (w : World) (hD : Da w p n c ds) :
    Calls Try.prog 3 #[.slice p n c] w fun e w' => e = .returned (.bool true) ∧ Below w.heap.size w w' := by
  have HD : Hid (Da w p n c ds) := hD
  clear hD
  go_enter Try.func3, Try.ntmps3
  go_wp2_with fail
  refine (szDatumS5 p n c ds 1048576 _ HD.out (by omega) (by omega)).mono ?_
  rintro e w1 ⟨v, rfl, hv, hb1⟩
  have HB1 : Hid (Below w.heap.size w w1) := hb1
  have HV : Hid (0 ≤ v → (n : Int) ≤ 1048576 ∧ ∀ i, i < n → ((ds.getD i dt0).text.length : Int) ≤ 1048576) := hv
  clear hv hb1
  by_cases hneg : v < 0
  · go_wp2
    go_ret
    exact ⟨rfl, HB1.out⟩
  · have hn : n ≤ 1048576 := by have := (HV.out (by omega)).1; omega
    have HT : Hid (∀ i, i < n → ((ds.getD i dt0).text.length : Int) ≤ 1048576) := (HV.out (by omega)).2
    have HD1 : Hid (Da w1 p n c ds) := HD.out.below HB1.out
    clear HV
    go_wp2_with fail
    refine (toDatumS7 p n c ds _ HD1.out hn HT.out).mono ?_
    rintro e w2 ⟨rfl, hd2, hb2⟩
    have HB2 : Hid (Below w1.heap.size w1 w2) := hb2
    have HX2 : Hid (Da w2 (some ⟨w1.heap.size, 0, none⟩) n n ds) := hd2
    have HD2 : Hid (Da w2 p n c ds) := HD1.out.below hb2
    clear hb2 hd2
    go_wp2_with fail
    refine (valid6 _ n n ds _ HX2.out).mono ?_
    rintro e w3 ⟨rfl, hb3⟩
    have HB3 : Hid (Below w2.heap.size w2 w3) := hb3
    have HD3 : Hid (Da w3 p n c ds) := HD2.out.below hb3
    clear hb3 HX2
    go_wp2_with fail
    refine (toDatumS7 p n c ds _ HD3.out hn HT.out).mono ?_
    rintro e w4 ⟨rfl, hd4, hb4⟩
    have HB4 : Hid (Below w3.heap.size w3 w4) := hb4
    have HX4 : Hid (Da w4 (some ⟨w3.heap.size, 0, none⟩) n n ds) := hd4
    have HD4 : Hid (Da w4 p n c ds) := HD3.out.below hb4
    clear hb4 hd4
    go_wp2_with fail
    refine (valid8 _ n n ds _ HX4.out).mono ?_
    rintro e w5 ⟨rfl, hb5⟩
    have HB5 : Hid (Below w4.heap.size w4 w5) := hb5
    have HX5 : Hid (Da w5 (some ⟨w3.heap.size, 0, none⟩) n n ds) := HX4.out.below hb5
    have HD5 : Hid (Da w5 p n c ds) := HD4.out.below hb5
    clear hb5
    generalize validB ds = vb
    cases vb
    all_goals
      go_wp2_with fail
      refine (toDatumS7 p n c ds _ HD5.out hn HT.out).mono ?_
      rintro e w6 ⟨rfl, hd6, hb6⟩
      have HB6 : Hid (Below w5.heap.size w5 w6) := hb6
      have HX6 : Hid (Da w6 (some ⟨w5.heap.size, 0, none⟩) n n ds) := hd6
      have HX56 : Hid (Da w6 (some ⟨w3.heap.size, 0, none⟩) n n ds) := HX5.out.below hb6
      clear hb6 hd6
      go_wp2_with fail
      refine (eqDatumS9 _ _ n n n ds _ HX56.out HX6.out).mono ?_
      rintro e w7 ⟨rfl, hb7⟩
      have HB7 : Hid (Below w6.heap.size w6 w7) := hb7
      clear hb7
      go_wp2
      go_ret
      have k1 := HB1.out
      have k2 := k1.trans (HB2.out.mono k1.size)
      have k3 := k2.trans (HB3.out.mono k2.size)
      have k4 := k3.trans (HB4.out.mono k3.size)
      have k5 := k4.trans (HB5.out.mono k4.size)
      have k6 := k5.trans (HB6.out.mono k5.size)
      exact ⟨rfl, k6.trans (HB7.out.mono k6.size)⟩
end Go.Proofs.Ytpfodinoeoejcaa
