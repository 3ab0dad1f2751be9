import Derived.Test.YtbcanodijcglpaaDoorW5
namespace Go.Proofs.YtbcanodijcglpaaDoor
open Go.RowKit Ch1
theorem bne_of_beq {a b : Int} {x : Bool} (h : (a == b) = x) : (a != b) = !x := by rw [← h]; rfl
set_option maxHeartbeats 1000000 in
theorem good29_int (n count : Int) (p : Option Addr) (tn tc : Nat) (t : List Int) (w : World) (hB : By w p tn tc t) :
    Calls Tryd.prog 63 #[.agg #[.int .i64 0, .int .i64 n, .slice p tn tc, .int .i64 count]] w fun e w' => e = .returned (.bool (goodB ⟨0, n, t, count⟩)) ∧ Below w.heap.size w w' := by
  have HF : Hid (goodB ⟨0, n, t, count⟩ = (smallB n && ((tn : Int) == 0) && (count == 0))) := good_int n count t tn hB.len
  clear hB
  obtain ⟨b2, h2⟩ : ∃ b, ((tn : Int) == 0) = b := ⟨_, rfl⟩
  obtain ⟨b3, h3⟩ : ∃ b, (count == 0) = b := ⟨_, rfl⟩
  have h2' := bne_of_beq h2
  have h3' := bne_of_beq h3
  cases b3
  · simp only [Bool.not_false] at h3'
    go_enter Tryd.func63, Tryd.ntmps63
    go_wp2
    go_ret
    exact ⟨ret_bool (by rw [HF.out, h3]; simp), (Below.refl _ _).alloc (Nat.le_refl _) _⟩
  · simp only [Bool.not_true] at h3'
    cases b2
    · simp only [Bool.not_false] at h2'
      go_enter Tryd.func63, Tryd.ntmps63
      go_wp2
      go_ret
      exact ⟨ret_bool (by rw [HF.out, h2]; simp), (Below.refl _ _).alloc (Nat.le_refl _) _⟩
    · simp only [Bool.not_true] at h2'
      go_enter Tryd.func63, Tryd.ntmps63
      go_wp2_with (go_at_call 70; refine (small39 n _).mono ?_; rintro e w' ⟨rfl, rfl⟩)
      go_ret
      exact ⟨ret_bool (by rw [HF.out, h3, h2]; simp), (Below.refl _ _).alloc (Nat.le_refl _) _⟩
set_option maxHeartbeats 1000000 in
theorem good29_bool (n count : Int) (p : Option Addr) (tn tc : Nat) (t : List Int) (w : World) (hB : By w p tn tc t) :
    Calls Tryd.prog 63 #[.agg #[.int .i64 1, .int .i64 n, .slice p tn tc, .int .i64 count]] w fun e w' => e = .returned (.bool (goodB ⟨1, n, t, count⟩)) ∧ Below w.heap.size w w' := by
  have HF : Hid (goodB ⟨1, n, t, count⟩ = (((n == 0) || (n == 1)) && ((tn : Int) == 0) && (count == 0))) := good_bool n count t tn hB.len
  clear hB
  obtain ⟨b1, h1⟩ : ∃ b, (n == 0) = b := ⟨_, rfl⟩
  obtain ⟨b2, h2⟩ : ∃ b, ((tn : Int) == 0) = b := ⟨_, rfl⟩
  obtain ⟨b3, h3⟩ : ∃ b, (count == 0) = b := ⟨_, rfl⟩
  have h2' := bne_of_beq h2
  have h3' := bne_of_beq h3
  cases b3
  · simp only [Bool.not_false] at h3'
    go_enter Tryd.func63, Tryd.ntmps63
    go_wp2
    go_ret
    exact ⟨ret_bool (by rw [HF.out, h3]; simp), (Below.refl _ _).alloc (Nat.le_refl _) _⟩
  · simp only [Bool.not_true] at h3'
    cases b2
    · simp only [Bool.not_false] at h2'
      go_enter Tryd.func63, Tryd.ntmps63
      go_wp2
      go_ret
      exact ⟨ret_bool (by rw [HF.out, h2]; simp), (Below.refl _ _).alloc (Nat.le_refl _) _⟩
    · simp only [Bool.not_true] at h2'
      cases b1
      · go_enter Tryd.func63, Tryd.ntmps63
        go_wp2
        go_ret
        exact ⟨ret_bool (by rw [HF.out, h3, h2, h1]; simp), (Below.refl _ _).alloc (Nat.le_refl _) _⟩
      · go_enter Tryd.func63, Tryd.ntmps63
        go_wp2
        go_ret
        exact ⟨ret_bool (by rw [HF.out, h3, h2, h1]; simp), (Below.refl _ _).alloc (Nat.le_refl _) _⟩
set_option maxHeartbeats 1000000 in
theorem good29_list (n count : Int) (p : Option Addr) (tn tc : Nat) (t : List Int) (w : World) (hB : By w p tn tc t) :
    Calls Tryd.prog 63 #[.agg #[.int .i64 3, .int .i64 n, .slice p tn tc, .int .i64 count]] w fun e w' => e = .returned (.bool (goodB ⟨3, n, t, count⟩)) ∧ Below w.heap.size w w' := by
  have HF : Hid (goodB ⟨3, n, t, count⟩ = ((n == 0) && ((tn : Int) == 0) && decide (0 ≤ count))) := good_list n count t tn hB.len
  clear hB
  obtain ⟨b1, h1⟩ : ∃ b, (n == 0) = b := ⟨_, rfl⟩
  obtain ⟨b2, h2⟩ : ∃ b, ((tn : Int) == 0) = b := ⟨_, rfl⟩
  have h2' := bne_of_beq h2
  cases b2
  · simp only [Bool.not_false] at h2'
    go_enter Tryd.func63, Tryd.ntmps63
    go_wp2
    go_ret
    exact ⟨ret_bool (by rw [HF.out, h2]; simp), (Below.refl _ _).alloc (Nat.le_refl _) _⟩
  · simp only [Bool.not_true] at h2'
    cases b1
    · go_enter Tryd.func63, Tryd.ntmps63
      go_wp2
      go_ret
      exact ⟨ret_bool (by rw [HF.out, h1]; simp), (Below.refl _ _).alloc (Nat.le_refl _) _⟩
    · go_enter Tryd.func63, Tryd.ntmps63
      go_wp2
      go_ret
      exact ⟨ret_bool (by rw [HF.out, h1, h2]; simp), (Below.refl _ _).alloc (Nat.le_refl _) _⟩
set_option maxHeartbeats 1000000 in
theorem good29_other (kind n count : Int) (p : Option Addr) (tn tc : Nat) (t : List Int) (w : World) (h0 : (kind == 0) = false) (h1 : (kind == 1) = false) (h2 : (kind == 2) = false) (h3 : (kind == 3) = false) :
    Calls Tryd.prog 63 #[.agg #[.int .i64 kind, .int .i64 n, .slice p tn tc, .int .i64 count]] w fun e w' => e = .returned (.bool (goodB ⟨kind, n, t, count⟩)) ∧ Below w.heap.size w w' := by
  have HF : Hid (goodB ⟨kind, n, t, count⟩ = false) := good_other kind n count t h0 h1 h2 h3
  have h3' : (kind != 3) = true := by rw [bne_of_beq h3]; rfl
  obtain ⟨b4, h4⟩ : ∃ b, ((tn : Int) != 0) = b := ⟨_, rfl⟩
  obtain ⟨b5, h5⟩ : ∃ b, (count != 0) = b := ⟨_, rfl⟩
  cases b5
  · cases b4
    · go_enter Tryd.func63, Tryd.ntmps63
      go_wp2
      go_ret
      exact ⟨ret_bool HF.out.symm, (Below.refl _ _).alloc (Nat.le_refl _) _⟩
    · go_enter Tryd.func63, Tryd.ntmps63
      go_wp2
      go_ret
      exact ⟨ret_bool HF.out.symm, (Below.refl _ _).alloc (Nat.le_refl _) _⟩
  · go_enter Tryd.func63, Tryd.ntmps63
    go_wp2
    go_ret
    exact ⟨ret_bool HF.out.symm, (Below.refl _ _).alloc (Nat.le_refl _) _⟩
set_option maxHeartbeats 1000000 in
theorem good29_sym (n count : Int) (p : Option Addr) (tn tc : Nat) (t : List Int) (w : World) (hB : By w p tn tc t) :
    Calls Tryd.prog 63 #[.agg #[.int .i64 2, .int .i64 n, .slice p tn tc, .int .i64 count]] w fun e w' => e = .returned (.bool (goodB ⟨2, n, t, count⟩)) ∧ Below w.heap.size w w' := by
  have HF : Hid (goodB ⟨2, n, t, count⟩ = ((n == 0) && symTextB t && (count == 0))) := good_sym n count t
  have HB : Hid (By w p tn tc t) := hB
  clear hB
  obtain ⟨b1, h1⟩ : ∃ b, (n == 0) = b := ⟨_, rfl⟩
  obtain ⟨b3, h3⟩ : ∃ b, (count == 0) = b := ⟨_, rfl⟩
  have h3' := bne_of_beq h3
  cases b3
  · simp only [Bool.not_false] at h3'
    go_enter Tryd.func63, Tryd.ntmps63
    go_wp2
    go_ret
    exact ⟨ret_bool (by rw [HF.out, h3]; simp), (Below.refl _ _).alloc (Nat.le_refl _) _⟩
  · simp only [Bool.not_true] at h3'
    cases b1
    · go_enter Tryd.func63, Tryd.ntmps63
      go_wp2
      go_ret
      exact ⟨ret_bool (by rw [HF.out, h1]; simp), (Below.refl _ _).alloc (Nat.le_refl _) _⟩
    · go_enter Tryd.func63, Tryd.ntmps63
      go_wp2_with (go_at_call 69; refine (symbol38 _ _ _ t _ (by exact HB.out.below ((Below.refl _ w).alloc (Nat.le_refl _) _))).mono ?_; rintro e w1 ⟨rfl, hw1⟩; have hw2 := hw1.symm; clear hw1; subst hw2)
      go_ret
      exact ⟨ret_bool (by rw [HF.out, h1, h3]; simp), (Below.refl _ _).alloc (Nat.le_refl _) _⟩
theorem good29 (d : Dt) (p : Option Addr) (tn tc : Nat) (w : World) (hB : By w p tn tc d.text) :
    Calls Tryd.prog 63 #[.agg #[.int .i64 d.kind, .int .i64 d.n, .slice p tn tc, .int .i64 d.count]] w fun e w' => e = .returned (.bool (goodB d)) ∧ Below w.heap.size w w' := by
  obtain ⟨kind, n, t, count⟩ := d
  by_cases h0 : kind = 0
  · subst h0; exact good29_int n count p tn tc t w hB
  by_cases h1 : kind = 1
  · subst h1; exact good29_bool n count p tn tc t w hB
  by_cases h2 : kind = 2
  · subst h2; exact good29_sym n count p tn tc t w hB
  by_cases h3 : kind = 3
  · subst h3; exact good29_list n count p tn tc t w hB
  exact good29_other kind n count p tn tc t w (beq_eq_false_iff_ne.2 h0) (beq_eq_false_iff_ne.2 h1) (beq_eq_false_iff_ne.2 h2) (beq_eq_false_iff_ne.2 h3)
theorem alone31 (d : Dt) (p : Option Addr) (tn tc : Nat) (w : World) (hB : By w p tn tc d.text) :
    Calls Tryd.prog 71 #[.agg #[.int .i64 d.kind, .int .i64 d.n, .slice p tn tc, .int .i64 d.count]] w fun e w' => e = .returned (.bool (goodB d)) ∧ Below w.heap.size w w' := by
  obtain ⟨kind, n, t, count⟩ := d
  by_cases h0 : kind = 0
  · subst h0; exact alone31_int n count p tn tc t w hB
  by_cases h1 : kind = 1
  · subst h1; exact alone31_bool n count p tn tc t w hB
  by_cases h2 : kind = 2
  · subst h2; exact alone31_sym n count p tn tc t w hB
  by_cases h3 : kind = 3
  · subst h3; exact alone31_list n count p tn tc t w hB
  exact alone31_other kind n count p tn tc t w (beq_eq_false_iff_ne.2 h0) (beq_eq_false_iff_ne.2 h1) (beq_eq_false_iff_ne.2 h2) (beq_eq_false_iff_ne.2 h3)
end Go.Proofs.YtbcanodijcglpaaDoor
