import Derived.Test.YtbcanodijcglpaaDoorW8
import Derived.Deep.RegionWith
namespace Go.Proofs.YtbcanodijcglpaaDoor
open Go.RowKit Ch1
theorem below_drewN' {B : Nat} {a w : World} (h : Below B a w) (q : Nat) : Below B a (w.drewN q) := ⟨h.os, h.tape, h.output, h.size, h.block⟩
set_option maxHeartbeats 1000000 in
theorem eqDatum19 (k n c : Int) (p1 p2 : Option Addr) (tn c1 c2 : Nat) (xs : List Int) (w : World) (h1 : By w p1 tn c1 xs) (h2 : By w p2 tn c2 xs) :
    Calls Tryd.prog 59 #[.agg #[.int .i64 k, .int .i64 n, .slice p1 tn c1, .int .i64 c], .agg #[.int .i64 k, .int .i64 n, .slice p2 tn c2, .int .i64 c]] w fun e w' => e = .returned (.bool true) ∧ Below w.heap.size w w' := by
  have H1 : Hid (By w p1 tn c1 xs) := h1
  have H2 : Hid (By w p2 tn c2 xs) := h2
  clear h1 h2
  go_enter Tryd.func59, Tryd.ntmps59
  go_wp2_with (go_at_call 8; refine (eqByte32 _ _ _ _ _ xs _ (by exact H1.out.below (below2 w _ _)) (by exact H2.out.below (below2 w _ _))).mono ?_; rintro e w1 ⟨rfl, q, hw1⟩; have hw2 := hw1.symm; clear hw1; subst hw2)
  go_ret
  exact ⟨rfl, below_drewN' (below2 w _ _) q⟩
set_option maxHeartbeats 1000000 in
theorem eqDatumS9 (p1 p2 : Option Addr) (n c1 c2 : Nat) (ds : List Dt) (w : World) (h1 : Da w p1 n c1 ds) (h2 : Da w p2 n c2 ds) :
    Calls Tryd.prog 43 #[.slice p1 n c1, .slice p2 n c2] w fun e w' => e = .returned (.bool true) ∧ Below w.heap.size w w' := by
  have hbig : n ≤ 9223372036854775807 := by have := h1.cap; have := h1.big; unfold maxLen at this; omega
  have H1 : Hid (Da w p1 n c1 ds) := h1
  have H2 : Hid (Da w p2 n c2 ds) := h2
  clear h1 h2
  go_enter Tryd.func43, Tryd.ntmps43
  go_wp2
  go_loopw [5] (fun i wr => ∃ k : Nat, k ≤ n ∧ i = .int .i64 k ∧ Hid (Below w.heap.size w wr)) (fun i _ => n - (intOf i).toNat)
  case atStart => exact ⟨0, Nat.zero_le _, rfl, Below.refl _ _⟩
  case round =>
    obtain ⟨k, hk, rfl, hb⟩ := hrel
    by_cases hlt : k < n
    · obtain ⟨b, o, rfl, hbl, g⟩ := H1.out.cells (by omega)
      obtain ⟨tp, tn, tc, he⟩ := g k hlt
      obtain ⟨b', o', rfl, hbl', g'⟩ := H2.out.cells (by omega)
      obtain ⟨tp', tn', tc', he'⟩ := g' k hlt
      have e1 := he.by_.len
      have e2 := he'.by_.len
      obtain rfl : tn = tn' := by omega
      clear g g' e1 e2
      replace he := he.below (w' := wr) hbl hb.out
      replace he' := he'.below (w' := wr) hbl' hb.out
      generalize ds.getD k dt0 = d at he he'
      have HY : Hid (By wr tp tn tc d.text) := he.by_
      have HY' : Hid (By wr tp' tn tc' d.text) := he'.by_
      have e0 := he.c0
      have e1 := he.c1
      have e2 := he.c2
      have e3 := he.c3
      have f0 := he'.c0
      have f1 := he'.c1
      have f2 := he'.c2
      have f3 := he'.c3
      clear he he'
      go_wp2
      go_region_with (go_at_call 59; refine (eqDatum19 _ _ _ tp tp' tn tc tc' d.text _ ?y1 ?y2).mono ?_; (case y1 => exact HY.out.below (below_drewN' (Below.refl _ _) _)); (case y2 => exact HY'.out.below (below_drewN' (Below.refl _ _) _)); rintro e w1 ⟨rfl, hb1⟩)
      all_goals
        go_wp2
        exact ⟨⟨k + 1, by omega, by go_num, hb.out.trans ((Below.refl _ wr).drew.trans (hb1.mono hb.out.size))⟩, by simp [intOf]; omega⟩
    · go_wp2
      go_ret
      exact ⟨rfl, hb.out⟩
end Go.Proofs.YtbcanodijcglpaaDoor
