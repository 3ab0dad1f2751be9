import Derived.Test.YtpfodinoeoejcaaH3
import Derived.Deep.RegionWith
namespace Go.Proofs.Ytpfodinoeoejcaa
open Go.RowKit Ch2
set_option maxHeartbeats 1000000 in
theorem validWord_c (x : Int) (p : Option Addr) (n c : Nat) (f : Nat → Bool) (w : World) (h : Sb w p n c f) (hx0 : -9223372036854775808 ≤ x) (hx1 : x ≤ 9223372036854775807) :
    Calls Try.prog 70 #[.int .i64 x, .slice p n c] w fun e w' => e = .returned (.bool (wordOf f n x)) ∧ w' = w := by
  have HS : Hid (Sb w p n c f) := h
  have hn := h.small.1
  clear h
  by_cases k0 : x % 4 = 0
  · have HF : Hid (wordOf f n x = true) := by unfold Hid wordOf; simp [k0]
    go_enter Try.func70, Try.ntmps70
    go_wp2_with (go_at_call 61; refine (tagOf_c x _).mono ?_; rintro e w' ⟨rfl, rfl⟩; rw [k0])
    go_ret
    exact ⟨ret_bool HF.out.symm, rfl⟩
  · by_cases k2 : x % 4 = 2
    · have HF : Hid (wordOf f n x = decide (0 ≤ x)) := by unfold Hid wordOf; simp [k2]
      go_enter Try.func70, Try.ntmps70
      go_wp2_with (go_at_call 61; refine (tagOf_c x _).mono ?_; rintro e w' ⟨rfl, rfl⟩; rw [k2])
      go_ret
      exact ⟨ret_bool HF.out.symm, rfl⟩
    · by_cases k1 : x % 4 = 1
      · have HF : Hid (wordOf f n x = (decide (0 ≤ x) && decide (x / 4 < n) && f (x / 4).toNat)) := by unfold Hid wordOf; simp [k1]
        by_cases h0 : 0 ≤ x
        · obtain ⟨m, hm⟩ : ∃ m : Nat, x / 4 = m := ⟨(x / 4).toNat, by omega⟩
          have HM : Hid (x / 4 = m) := hm
          have hmb : m ≤ 9223372036854775807 := by omega
          by_cases hlt : m < n
          · obtain ⟨b, o, rfl, _, g⟩ := HS.out.cells (by omega)
            have g1 := g m hlt
            clear g
            go_enter Try.func70, Try.ntmps70
            go_wp2_with (first | (go_at_call 61; refine (tagOf_c x _).mono ?_; rintro e w' ⟨rfl, rfl⟩; rw [k1]) | (go_at_call 62; refine (numberOf_c x _).mono ?_; rintro e w' ⟨rfl, rfl⟩; rw [hm]))
            go_ret
            exact ⟨ret_bool (by rw [HF.out, HM.out]; simp [h0, hlt]), rfl⟩
          · have HL : Hid (¬ m < n) := hlt
            go_enter Try.func70, Try.ntmps70
            go_wp2_with (first | (go_at_call 61; refine (tagOf_c x _).mono ?_; rintro e w' ⟨rfl, rfl⟩; rw [k1]) | (go_at_call 62; refine (numberOf_c x _).mono ?_; rintro e w' ⟨rfl, rfl⟩; rw [hm]))
            go_ret
            exact ⟨ret_bool (by have := HL.out; rw [HF.out, HM.out, show decide ((m : Int) < n) = false by simp; omega]; simp), rfl⟩
        · have hneg : x / 4 < 0 := by omega
          obtain ⟨y, hy⟩ : ∃ y, x / 4 = y := ⟨_, rfl⟩
          rw [hy] at hneg
          have HX0 : Hid (¬ 0 ≤ x) := h0
          go_enter Try.func70, Try.ntmps70
          go_wp2_with (first | (go_at_call 61; refine (tagOf_c x _).mono ?_; rintro e w' ⟨rfl, rfl⟩; rw [k1]) | (go_at_call 62; refine (numberOf_c x _).mono ?_; rintro e w' ⟨rfl, rfl⟩; rw [hy]))
          go_ret
          exact ⟨ret_bool (by have := HX0.out; rw [HF.out, show decide (0 ≤ x) = false by simp; omega]; rfl), rfl⟩
      · have k3 : x % 4 = 3 := by omega
        have HF : Hid (wordOf f n x = (decide (3 ≤ x) && decide (x ≤ 19))) := by unfold Hid wordOf; simp [k3]
        by_cases h0 : 3 ≤ x
        · go_enter Try.func70, Try.ntmps70
          go_wp2_with (go_at_call 61; refine (tagOf_c x _).mono ?_; rintro e w' ⟨rfl, rfl⟩; rw [k3])
          go_ret
          exact ⟨ret_bool (by rw [HF.out]; simp [h0]), rfl⟩
        · go_enter Try.func70, Try.ntmps70
          go_wp2_with (go_at_call 61; refine (tagOf_c x _).mono ?_; rintro e w' ⟨rfl, rfl⟩; rw [k3])
          go_ret
          exact ⟨ret_bool (by rw [HF.out, show decide (3 ≤ x) = false by simp; omega]; rfl), rfl⟩
theorem all_true {f : Int → Bool} {xs : List Int} (h : ∀ j, j < xs.length → f (xs.getD j 0) = true) : xs.all f = true := by
  rw [List.all_eq_true]
  intro x hx
  obtain ⟨j, hj, e⟩ := List.getElem_of_mem hx
  have := h j hj
  simpa [List.getD, List.getElem?_eq_getElem hj, e] using this
theorem all_false {f : Int → Bool} {xs : List Int} {j : Nat} (hj : j < xs.length) (h : f (xs.getD j 0) = false) : xs.all f = false := by
  rw [Bool.eq_false_iff]
  intro ha
  rw [List.all_eq_true] at ha
  have := ha (xs.getD j 0) (by simp [List.getD, List.getElem?_eq_getElem hj])
  rw [h] at this; cases this
set_option maxHeartbeats 1000000 in
theorem validWords_c (p1 : Option Addr) (n1 c1 : Nat) (xs : List Int) (p : Option Addr) (n c : Nat) (f : Nat → Bool) (w : World) (hI : Is w p1 n1 c1 xs) (hS : Sb w p n c f) :
    Calls Try.prog 47 #[.slice p1 n1 c1, .slice p n c] w fun e w' => e = .returned (.bool (xs.all (wordOf f n))) ∧ w' = w := by
  have hbig := hI.small.1
  have HI : Hid (Is w p1 n1 c1 xs) := hI
  have HS : Hid (Sb w p n c f) := hS
  have hlen : Hid (xs.length = n1) := hI.len
  clear hI hS
  go_enter Try.func47, Try.ntmps47
  go_wp2
  go_loop [9] (fun i => ∃ k : Nat, k ≤ n1 ∧ i = .int .i64 k ∧ Hid (∀ j, j < k → wordOf f n (xs.getD j 0) = true)) (fun i => n1 - (intOf i).toNat)
  case atStart => exact ⟨0, Nat.zero_le _, rfl, fun j hj => absurd hj (Nat.not_lt_zero j)⟩
  case round =>
    obtain ⟨k, hk, rfl, hn⟩ := hrel
    by_cases hlt : k < n1
    · obtain ⟨b, o, rfl, _, g⟩ := HI.out.cells (by omega)
      have gk := g k hlt
      have hrg := HI.out.rng k
      clear g
      obtain ⟨bd, hbd⟩ : ∃ bd, wordOf f n (xs.getD k 0) = bd := ⟨_, rfl⟩
      generalize hxk : xs.getD k 0 = xk at gk hbd hrg
      have HXK : Hid (xs.getD k 0 = xk) := hxk
      clear hxk
      obtain ⟨r0, r1⟩ := hrg
      cases bd
      · go_wp2_with (go_at_call 70; refine (validWord_c xk p n c f _ HS.out r0 r1).mono ?_; rintro e w' ⟨rfl, rfl⟩; rw [hbd])
        go_ret
        exact ⟨ret_bool (all_false (by rw [hlen.out]; exact hlt) (by rw [HXK.out]; exact hbd)).symm, rfl⟩
      · go_wp2_with (go_at_call 70; refine (validWord_c xk p n c f _ HS.out r0 r1).mono ?_; rintro e w' ⟨rfl, rfl⟩; rw [hbd])
        refine ⟨⟨k + 1, by omega, by go_num, fun j hj => ?_⟩, by simp [intOf]; omega⟩
        by_cases e : j < k
        · exact hn.out j e
        · rw [show j = k by omega, HXK.out]; exact hbd
    · obtain rfl : k = n1 := by omega
      go_wp2
      go_ret
      exact ⟨ret_bool (all_true (fun j hj => hn.out j (by rw [← hlen.out]; exact hj))).symm, rfl⟩
/-- Whether an object of a kind may have so many fields. -/
def vcB (k c : Int) : Bool := if k = 0 then decide (c = 2) else if k = 1 then decide (0 ≤ c) && decide (c ≤ 1000) else if k = 2 then decide (1 ≤ c) && decide (c ≤ 1000) else if k = 3 then decide (c = 1) else false
theorem vcB_head (x : Int) : vcB (x % 4) (x / 4) = headB x := by
  unfold vcB headB
  have h : x % 4 = 0 ∨ x % 4 = 1 ∨ x % 4 = 2 ∨ x % 4 = 3 := by omega
  rw [Bool.eq_iff_iff]
  rcases h with h | h | h | h <;> rw [h] <;> simp <;> omega
theorem dec_beq (a b : Int) : (a == b) = decide (a = b) := by
  by_cases h : a = b
  · simp [h]
  · simp [h]
set_option maxHeartbeats 1000000 in
theorem validCount_c (k c : Int) (w : World) : Calls Try.prog 49 #[.int .i64 k, .int .i64 c] w fun e w' => e = .returned (.bool (vcB k c)) ∧ w' = w := by
  by_cases k0 : k = 0
  · subst k0
    have HF : Hid (vcB 0 c = (c == 2)) := by unfold Hid vcB; simp [dec_beq]
    go_enter Try.func49, Try.ntmps49
    go_wp2
    go_ret
    exact ⟨ret_bool HF.out.symm, rfl⟩
  · by_cases k1 : k = 1
    · subst k1
      by_cases h : 0 ≤ c
      · have HF : Hid (vcB 1 c = decide (c ≤ 1000)) := by unfold Hid vcB; simp [h]
        go_enter Try.func49, Try.ntmps49
        go_wp2
        go_ret
        exact ⟨ret_bool HF.out.symm, rfl⟩
      · have HF : Hid (vcB 1 c = false) := by unfold Hid vcB; simp; omega
        go_enter Try.func49, Try.ntmps49
        go_wp2
        go_ret
        exact ⟨ret_bool HF.out.symm, rfl⟩
    · by_cases k2 : k = 2
      · subst k2
        by_cases h : 1 ≤ c
        · have HF : Hid (vcB 2 c = decide (c ≤ 1000)) := by unfold Hid vcB; simp [h]
          go_enter Try.func49, Try.ntmps49
          go_wp2
          go_ret
          exact ⟨ret_bool HF.out.symm, rfl⟩
        · have HF : Hid (vcB 2 c = false) := by unfold Hid vcB; simp; omega
          go_enter Try.func49, Try.ntmps49
          go_wp2
          go_ret
          exact ⟨ret_bool HF.out.symm, rfl⟩
      · by_cases k3 : k = 3
        · subst k3
          have HF : Hid (vcB 3 c = (c == 1)) := by unfold Hid vcB; simp [dec_beq]
          go_enter Try.func49, Try.ntmps49
          go_wp2
          go_ret
          exact ⟨ret_bool HF.out.symm, rfl⟩
        · have HF : Hid (vcB k c = false) := by unfold Hid vcB; simp [k0, k1, k2, k3]
          have e0 : (k == 0) = false := by simpa using k0
          have e1 : (k == 1) = false := by simpa using k1
          have e2 : (k == 2) = false := by simpa using k2
          have e3 : (k == 3) = false := by simpa using k3
          clear k0 k1 k2 k3
          go_enter Try.func49, Try.ntmps49
          go_wp2
          go_ret
          exact ⟨ret_bool HF.out.symm, rfl⟩
def fnB (x : Int) : Bool := decide (x % 4 = 0) && decide (0 ≤ x)
set_option maxHeartbeats 1000000 in
theorem functionWord_c (x : Int) (w : World) : Calls Try.prog 71 #[.int .i64 x] w fun e w' => e = .returned (.bool (fnB x)) ∧ w' = w := by
  by_cases k0 : x % 4 = 0
  · have HF : Hid (fnB x = decide (0 ≤ x)) := by unfold Hid fnB; simp [k0]
    go_enter Try.func71, Try.ntmps71
    go_wp2_with (go_at_call 61; refine (tagOf_c x _).mono ?_; rintro e w' ⟨rfl, rfl⟩; rw [k0])
    go_ret
    exact ⟨ret_bool HF.out.symm, rfl⟩
  · have HF : Hid (fnB x = false) := by unfold Hid fnB; simp [k0]
    obtain ⟨y, hy⟩ : ∃ y, x % 4 = y := ⟨_, rfl⟩
    have e0 : (y == 0) = false := by rw [← hy]; simpa using k0
    go_enter Try.func71, Try.ntmps71
    go_wp2_with (go_at_call 61; refine (tagOf_c x _).mono ?_; rintro e w' ⟨rfl, rfl⟩; rw [hy])
    go_ret
    exact ⟨ret_bool HF.out.symm, rfl⟩
def voB (h : Int) (xs : List Int) (f : Nat → Bool) (n : Nat) : Bool := (decide (h % 4 ≠ 2) || fnB (xs.getD 0 0)) && xs.all (wordOf f n)
set_option maxHeartbeats 1000000 in
theorem validObject_c (hd : Int) (p1 : Option Addr) (n1 c1 : Nat) (xs : List Int) (p : Option Addr) (n c : Nat) (f : Nat → Bool) (w : World) (hI : Is w p1 n1 c1 xs) (hS : Sb w p n c f) (hpos : hd % 4 = 2 → 0 < n1) :
    Calls Try.prog 51 #[.int .i64 hd, .slice p1 n1 c1, .slice p n c] w fun e w' => e = .returned (.bool (voB hd xs f n)) ∧ w' = w := by
  have HI : Hid (Is w p1 n1 c1 xs) := hI
  have HS : Hid (Sb w p n c f) := hS
  clear hI hS
  by_cases k2 : hd % 4 = 2
  · have hn1 := hpos k2
    clear hpos
    obtain ⟨b, o, rfl, _, g⟩ := HI.out.cells hn1
    have g0 := g 0 hn1
    rw [Nat.add_zero] at g0
    clear g
    obtain ⟨bf, hbf⟩ : ∃ bf, fnB (xs.getD 0 0) = bf := ⟨_, rfl⟩
    have HF : Hid (voB hd xs f n = (bf && xs.all (wordOf f n))) := by unfold Hid voB; rw [hbf]; simp [k2]
    generalize xs.getD 0 0 = x0 at g0 hbf
    cases bf
    · go_enter Try.func51, Try.ntmps51
      go_wp2_with (first | (go_at_call 61; refine (tagOf_c hd _).mono ?_; rintro e w' ⟨rfl, rfl⟩; rw [k2]) | (go_at_call 71; refine (functionWord_c x0 _).mono ?_; rintro e w' ⟨rfl, rfl⟩; rw [hbf]))
      go_ret
      exact ⟨ret_bool (by rw [HF.out]; rfl), rfl⟩
    · go_enter Try.func51, Try.ntmps51
      go_wp2_with (first | (go_at_call 61; refine (tagOf_c hd _).mono ?_; rintro e w' ⟨rfl, rfl⟩; rw [k2]) | (go_at_call 71; refine (functionWord_c x0 _).mono ?_; rintro e w' ⟨rfl, rfl⟩; rw [hbf]) | (go_at_call 47; refine (validWords_c _ n1 c1 xs p n c f _ HI.out HS.out).mono ?_; rintro e w' ⟨rfl, rfl⟩))
      go_ret
      exact ⟨ret_bool (by rw [HF.out]; simp), rfl⟩
  · have HF : Hid (voB hd xs f n = xs.all (wordOf f n)) := by unfold Hid voB; simp [k2]
    obtain ⟨y, hy⟩ : ∃ y, hd % 4 = y := ⟨_, rfl⟩
    have e0 : (y == 2) = false := by rw [← hy]; simpa using k2
    clear hpos k2
    go_enter Try.func51, Try.ntmps51
    go_wp2_with (first | (go_at_call 61; refine (tagOf_c hd _).mono ?_; rintro e w' ⟨rfl, rfl⟩; rw [hy]) | (go_at_call 47; refine (validWords_c p1 n1 c1 xs p n c f _ HI.out HS.out).mono ?_; rintro e w' ⟨rfl, rfl⟩))
    go_ret
    exact ⟨ret_bool HF.out.symm, rfl⟩
end Go.Proofs.Ytpfodinoeoejcaa
