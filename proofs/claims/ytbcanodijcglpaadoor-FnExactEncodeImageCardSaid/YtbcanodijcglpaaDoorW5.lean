import Derived.Test.YtbcanodijcglpaaDoorW4
namespace Go.Proofs.YtbcanodijcglpaaDoor
open Go.RowKit Ch1
theorem nat_beq0 (n : Nat) : ((n : Int) == 0) = decide (n = 0) := by rw [Bool.eq_iff_iff]; simp
theorem good_int (n count : Int) (t : List Int) (tn : Nat) (hl : t.length = tn) : goodB ⟨0, n, t, count⟩ = (smallB n && ((tn : Int) == 0) && (count == 0)) := by
  simp [goodB, hl, nat_beq0]; rfl
theorem good_bool (n count : Int) (t : List Int) (tn : Nat) (hl : t.length = tn) : goodB ⟨1, n, t, count⟩ = (((n == 0) || (n == 1)) && ((tn : Int) == 0) && (count == 0)) := by
  simp [goodB, hl, nat_beq0]; rfl
theorem good_sym (n count : Int) (t : List Int) : goodB ⟨2, n, t, count⟩ = ((n == 0) && symTextB t && (count == 0)) := by
  simp [goodB]; rfl
theorem good_list (n count : Int) (t : List Int) (tn : Nat) (hl : t.length = tn) : goodB ⟨3, n, t, count⟩ = ((n == 0) && ((tn : Int) == 0) && decide (0 ≤ count)) := by
  simp [goodB, hl, nat_beq0]; rfl
theorem good_other (kind n count : Int) (t : List Int) (h0 : (kind == 0) = false) (h1 : (kind == 1) = false) (h2 : (kind == 2) = false) (h3 : (kind == 3) = false) : goodB ⟨kind, n, t, count⟩ = false := by
  rw [beq_eq_false_iff_ne] at h0 h1 h2 h3
  simp [goodB, h0, h1, h2, h3]

set_option maxHeartbeats 1000000 in
theorem alone31_int (n count : Int) (p : Option Addr) (tn tc : Nat) (t : List Int) (w : World) (hB : By w p tn tc t) :
    Calls Tryd.prog 71 #[.agg #[.int .i64 0, .int .i64 n, .slice p tn tc, .int .i64 count]] w fun e w' => e = .returned (.bool (goodB ⟨0, n, t, count⟩)) ∧ Below w.heap.size w w' := by
  have HF : Hid (goodB ⟨0, n, t, count⟩ = (smallB n && ((tn : Int) == 0) && (count == 0))) := good_int n count t tn hB.len
  clear hB
  obtain ⟨b1, h1⟩ : ∃ b, smallB n = b := ⟨_, rfl⟩
  obtain ⟨b2, h2⟩ : ∃ b, ((tn : Int) == 0) = b := ⟨_, rfl⟩
  obtain ⟨b3, h3⟩ : ∃ b, (count == 0) = b := ⟨_, rfl⟩
  cases b1
  · go_enter Tryd.func71, Tryd.ntmps71
    go_wp2_with (go_at_call 76; refine (small40 n _).mono ?_; rintro e w' ⟨rfl, rfl⟩; rw [h1])
    go_ret
    exact ⟨ret_bool (by rw [HF.out, h1]; simp), (Below.refl _ _).alloc (Nat.le_refl _) _⟩
  · cases b2
    · go_enter Tryd.func71, Tryd.ntmps71
      go_wp2_with (go_at_call 76; refine (small40 n _).mono ?_; rintro e w' ⟨rfl, rfl⟩; rw [h1])
      go_ret
      exact ⟨ret_bool (by rw [HF.out, h2]; simp), (Below.refl _ _).alloc (Nat.le_refl _) _⟩
    · go_enter Tryd.func71, Tryd.ntmps71
      go_wp2_with (go_at_call 76; refine (small40 n _).mono ?_; rintro e w' ⟨rfl, rfl⟩; rw [h1])
      go_ret
      exact ⟨ret_bool (by rw [HF.out, h1, h2]; simp [h3]), (Below.refl _ _).alloc (Nat.le_refl _) _⟩

theorem bcell {W w1 : World} (hb : Below W.heap.size W w1) : (∀ b o, b < W.heap.size → w1.cell? ⟨b, o, none⟩ = W.cell? ⟨b, o, none⟩) ∧ (∀ b o, b < W.heap.size → w1.frozen? ⟨b, o, none⟩ = W.frozen? ⟨b, o, none⟩) :=
  ⟨fun b o h => hb.cell (p := ⟨b, o, none⟩) h, fun b o h => hb.frozen (p := ⟨b, o, none⟩) h⟩
set_option maxHeartbeats 1000000 in
theorem alone31_bool (n count : Int) (p : Option Addr) (tn tc : Nat) (t : List Int) (w : World) (hB : By w p tn tc t) :
    Calls Tryd.prog 71 #[.agg #[.int .i64 1, .int .i64 n, .slice p tn tc, .int .i64 count]] w fun e w' => e = .returned (.bool (goodB ⟨1, n, t, count⟩)) ∧ Below w.heap.size w w' := by
  have HF : Hid (goodB ⟨1, n, t, count⟩ = (((n == 0) || (n == 1)) && ((tn : Int) == 0) && (count == 0))) := good_bool n count t tn hB.len
  clear hB
  obtain ⟨b1, h1⟩ : ∃ b, (n == 0) = b := ⟨_, rfl⟩
  obtain ⟨b4, h4⟩ : ∃ b, (n == 1) = b := ⟨_, rfl⟩
  obtain ⟨b2, h2⟩ : ∃ b, ((tn : Int) == 0) = b := ⟨_, rfl⟩
  obtain ⟨b3, h3⟩ : ∃ b, (count == 0) = b := ⟨_, rfl⟩
  cases b1
  · cases b4
    · go_enter Tryd.func71, Tryd.ntmps71
      go_wp2
      go_ret
      exact ⟨ret_bool (by rw [HF.out, h1, h4]; simp), (Below.refl _ _).alloc (Nat.le_refl _) _⟩
    · cases b2
      · go_enter Tryd.func71, Tryd.ntmps71
        go_wp2
        go_ret
        exact ⟨ret_bool (by rw [HF.out, h2]; simp), (Below.refl _ _).alloc (Nat.le_refl _) _⟩
      · go_enter Tryd.func71, Tryd.ntmps71
        go_wp2
        go_ret
        exact ⟨ret_bool (by rw [HF.out, h1, h4, h2]; simp [h3]), (Below.refl _ _).alloc (Nat.le_refl _) _⟩
  · clear h4
    cases b2
    · go_enter Tryd.func71, Tryd.ntmps71
      go_wp2
      go_ret
      exact ⟨ret_bool (by rw [HF.out, h2]; simp), (Below.refl _ _).alloc (Nat.le_refl _) _⟩
    · go_enter Tryd.func71, Tryd.ntmps71
      go_wp2
      go_ret
      exact ⟨ret_bool (by rw [HF.out, h1, h2]; simp [h3]), (Below.refl _ _).alloc (Nat.le_refl _) _⟩
set_option maxHeartbeats 1000000 in
theorem alone31_list (n count : Int) (p : Option Addr) (tn tc : Nat) (t : List Int) (w : World) (hB : By w p tn tc t) :
    Calls Tryd.prog 71 #[.agg #[.int .i64 3, .int .i64 n, .slice p tn tc, .int .i64 count]] w fun e w' => e = .returned (.bool (goodB ⟨3, n, t, count⟩)) ∧ Below w.heap.size w w' := by
  have HF : Hid (goodB ⟨3, n, t, count⟩ = ((n == 0) && ((tn : Int) == 0) && decide (0 ≤ count))) := good_list n count t tn hB.len
  clear hB
  obtain ⟨b1, h1⟩ : ∃ b, (n == 0) = b := ⟨_, rfl⟩
  obtain ⟨b2, h2⟩ : ∃ b, ((tn : Int) == 0) = b := ⟨_, rfl⟩
  cases b1
  · go_enter Tryd.func71, Tryd.ntmps71
    go_wp2
    go_ret
    exact ⟨ret_bool (by rw [HF.out, h1]; simp), (Below.refl _ _).alloc (Nat.le_refl _) _⟩
  · cases b2
    · go_enter Tryd.func71, Tryd.ntmps71
      go_wp2
      go_ret
      exact ⟨ret_bool (by rw [HF.out, h2]; simp), (Below.refl _ _).alloc (Nat.le_refl _) _⟩
    · go_enter Tryd.func71, Tryd.ntmps71
      go_wp2
      go_ret
      exact ⟨ret_bool (by rw [HF.out, h1, h2]; simp), (Below.refl _ _).alloc (Nat.le_refl _) _⟩
set_option maxHeartbeats 1000000 in
theorem alone31_other (kind n count : Int) (p : Option Addr) (tn tc : Nat) (t : List Int) (w : World) (h0 : (kind == 0) = false) (h1 : (kind == 1) = false) (h2 : (kind == 2) = false) (h3 : (kind == 3) = false) :
    Calls Tryd.prog 71 #[.agg #[.int .i64 kind, .int .i64 n, .slice p tn tc, .int .i64 count]] w fun e w' => e = .returned (.bool (goodB ⟨kind, n, t, count⟩)) ∧ Below w.heap.size w w' := by
  have HF : Hid (goodB ⟨kind, n, t, count⟩ = false) := good_other kind n count t h0 h1 h2 h3
  go_enter Tryd.func71, Tryd.ntmps71
  go_wp2
  go_ret
  exact ⟨ret_bool HF.out.symm, (Below.refl _ _).alloc (Nat.le_refl _) _⟩
set_option maxHeartbeats 1000000 in
theorem alone31_sym (n count : Int) (p : Option Addr) (tn tc : Nat) (t : List Int) (w : World) (hB : By w p tn tc t) :
    Calls Tryd.prog 71 #[.agg #[.int .i64 2, .int .i64 n, .slice p tn tc, .int .i64 count]] w fun e w' => e = .returned (.bool (goodB ⟨2, n, t, count⟩)) ∧ Below w.heap.size w w' := by
  have HF : Hid (goodB ⟨2, n, t, count⟩ = ((n == 0) && symTextB t && (count == 0))) := good_sym n count t
  have HB : Hid (By w p tn tc t) := hB
  clear hB
  obtain ⟨b1, h1⟩ : ∃ b, (n == 0) = b := ⟨_, rfl⟩
  obtain ⟨b2, h2⟩ : ∃ b, symTextB t = b := ⟨_, rfl⟩
  cases b1
  · go_enter Tryd.func71, Tryd.ntmps71
    go_wp2
    go_ret
    exact ⟨ret_bool (by rw [HF.out, h1]; simp), (Below.refl _ _).alloc (Nat.le_refl _) _⟩
  · cases b2
    · go_enter Tryd.func71, Tryd.ntmps71
      go_wp2_with (go_at_call 77; refine (symbol41 _ _ _ t _ (by exact HB.out.below ((Below.refl _ w).alloc (Nat.le_refl _) _))).mono ?_; rintro e w1 ⟨rfl, hb1⟩; rw [h2]; have hz := hb1.size; obtain ⟨hc1, hf1⟩ := bcell hb1)
      go_ret
      exact ⟨ret_bool (by rw [HF.out, h2]; simp), ((Below.refl _ w).alloc (Nat.le_refl _) _).trans (hb1.mono (by simp))⟩
    · go_enter Tryd.func71, Tryd.ntmps71
      go_wp2_with (go_at_call 77; refine (symbol41 _ _ _ t _ (by exact HB.out.below ((Below.refl _ w).alloc (Nat.le_refl _) _))).mono ?_; rintro e w1 ⟨rfl, hb1⟩; rw [h2]; have hz := hb1.size; obtain ⟨hc1, hf1⟩ := bcell hb1)
      go_ret
      exact ⟨ret_bool (by rw [HF.out, h1, h2]; simp), ((Below.refl _ w).alloc (Nat.le_refl _) _).trans (hb1.mono (by simp))⟩
end Go.Proofs.YtbcanodijcglpaaDoor
