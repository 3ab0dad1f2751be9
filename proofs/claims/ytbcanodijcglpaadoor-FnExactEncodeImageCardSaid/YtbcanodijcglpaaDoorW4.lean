import Derived.Test.YtbcanodijcglpaaDoorW3
namespace Go.Proofs.YtbcanodijcglpaaDoor
open Go.RowKit Ch1
theorem symText_short {xs : List Int} (h : xs.length < 1) : symTextB xs = false := by unfold symTextB; rw [decide_eq_false (show ¬ 1 ≤ xs.length by omega)]; simp
theorem symText_long {xs : List Int} (h : 100 < xs.length) : symTextB xs = false := by unfold symTextB; rw [decide_eq_false (show ¬ xs.length ≤ 100 by omega)]; simp
theorem symText_dig {xs : List Int} (h : digB (xs.getD 0 0) = true) : symTextB xs = false := by unfold symTextB; rw [h]; simp
theorem symText_num {xs : List Int} (h : numB xs = true) : symTextB xs = false := by unfold symTextB; rw [h]; simp
theorem symText_bad {xs : List Int} {j : Nat} (hj : j < xs.length) (h : symB (xs.getD j 0) = false) : symTextB xs = false := by unfold symTextB; rw [not_all_getD hj h]; simp
theorem symText_good {xs : List Int} (h1 : 1 ≤ xs.length) (h2 : xs.length ≤ 100) (h3 : digB (xs.getD 0 0) = false) (h4 : numB xs = false) (h : ∀ j, j < xs.length → symB (xs.getD j 0) = true) : symTextB xs = true := by
  unfold symTextB; rw [all_getD h, h3, h4]; simp [h1, h2]

set_option maxHeartbeats 400000 in
theorem symbol38_short (p : Option Addr) (n c : Nat) (xs : List Int) (w : World) (hl : xs.length = n) (h : n < 1) :
    Calls Tryd.prog 69 #[.slice p n c] w fun e w' => e = .returned (.bool (symTextB xs)) ∧ w' = w := by
  have HF : Hid (symTextB xs = false) := symText_short (by omega)
  obtain rfl : n = 0 := by omega
  clear hl
  go_enter Tryd.func69, Tryd.ntmps69
  go_wp2
  go_ret
  exact ⟨ret_bool HF.out.symm, rfl⟩
set_option maxHeartbeats 400000 in
theorem symbol38_long (p : Option Addr) (n c : Nat) (xs : List Int) (w : World) (hl : xs.length = n) (h : 100 < n) :
    Calls Tryd.prog 69 #[.slice p n c] w fun e w' => e = .returned (.bool (symTextB xs)) ∧ w' = w := by
  have HF : Hid (symTextB xs = false) := symText_long (by omega)
  have hd : decide ((n : Int) < 1) = false := by simp; omega
  have hd' : decide ((100 : Int) < n) = true := by simp; omega
  clear hl
  go_enter Tryd.func69, Tryd.ntmps69
  go_wp2
  go_ret
  exact ⟨ret_bool HF.out.symm, rfl⟩
set_option maxHeartbeats 400000 in
theorem symbol38_dig (p : Option Addr) (n c : Nat) (xs : List Int) (w : World) (hB : By w p n c xs) (h1 : 1 ≤ n) (h2 : n ≤ 100) (hdg : digB (xs.getD 0 0) = true) :
    Calls Tryd.prog 69 #[.slice p n c] w fun e w' => e = .returned (.bool (symTextB xs)) ∧ w' = w := by
  have HF : Hid (symTextB xs = false) := symText_dig hdg
  obtain ⟨b, o, rfl, g⟩ := hB.cells (by omega)
  have g0 := g 0 (by omega)
  rw [Nat.add_zero] at g0
  generalize hx : xs.getD 0 0 = x0 at g0 hdg
  clear g hB hx
  have hd : decide ((n : Int) < 1) = false := by simp; omega
  have hd' : decide ((100 : Int) < n) = false := by simp; omega
  go_enter Tryd.func69, Tryd.ntmps69
  go_wp2_with (go_at_call 73; refine (digit48 x0 _).mono ?_; rintro e w' ⟨rfl, rfl⟩; rw [hdg])
  go_ret
  exact ⟨ret_bool HF.out.symm, rfl⟩
set_option maxHeartbeats 400000 in
theorem symbol38_num (p : Option Addr) (n c : Nat) (xs : List Int) (w : World) (hB : By w p n c xs) (h1 : 1 ≤ n) (h2 : n ≤ 100) (hdg : digB (xs.getD 0 0) = false) (hnum : numB xs = true) :
    Calls Tryd.prog 69 #[.slice p n c] w fun e w' => e = .returned (.bool (symTextB xs)) ∧ w' = w := by
  have HF : Hid (symTextB xs = false) := symText_num hnum
  have HB : Hid (By w p n c xs) := hB
  obtain ⟨b, o, rfl, g⟩ := hB.cells (by omega)
  have g0 := g 0 (by omega)
  rw [Nat.add_zero] at g0
  generalize hx : xs.getD 0 0 = x0 at g0 hdg
  clear g hB hx
  have hd : decide ((n : Int) < 1) = false := by simp; omega
  have hd' : decide ((100 : Int) < n) = false := by simp; omega
  go_enter Tryd.func69, Tryd.ntmps69
  go_wp2_with (first | (go_at_call 73; refine (digit48 x0 _).mono ?_; rintro e w' ⟨rfl, rfl⟩; rw [hdg]) | (go_at_call 74; refine (number49 _ _ _ xs _ HB.out).mono ?_; rintro e w' ⟨rfl, rfl⟩; rw [hnum]))
  go_ret
  exact ⟨ret_bool HF.out.symm, rfl⟩
set_option maxHeartbeats 400000 in
theorem symbol38_loop (p : Option Addr) (n c : Nat) (xs : List Int) (w : World) (hB : By w p n c xs) (h1 : 1 ≤ n) (h2 : n ≤ 100) (hdg : digB (xs.getD 0 0) = false) (hnum : numB xs = false) :
    Calls Tryd.prog 69 #[.slice p n c] w fun e w' => e = .returned (.bool (symTextB xs)) ∧ w' = w := by
  have HB : Hid (By w p n c xs) := hB
  have hl : Hid (xs.length = n) := hB.len
  have HD : Hid (digB (xs.getD 0 0) = false) := hdg
  obtain ⟨b, o, rfl, g⟩ := hB.cells (by omega)
  have HC : Hid (∀ i, i < n → w.cell? ⟨b, o + i, none⟩ = some (.int .u8 (xs.getD i 0))) := g
  have g0 := g 0 (by omega)
  rw [Nat.add_zero] at g0
  generalize hx : xs.getD 0 0 = x0 at g0 hdg
  clear g hB hx
  have hd : decide ((n : Int) < 1) = false := by simp; omega
  have hd' : decide ((100 : Int) < n) = false := by simp; omega
  go_enter Tryd.func69, Tryd.ntmps69
  go_wp2_with (first | (go_at_call 73; refine (digit48 x0 _).mono ?_; rintro e w' ⟨rfl, rfl⟩; rw [hdg]) | (go_at_call 74; refine (number49 _ _ _ xs _ HB.out).mono ?_; rintro e w' ⟨rfl, rfl⟩; rw [hnum]))
  go_loop [3] (fun i => ∃ k : Nat, k ≤ n ∧ i = .int .i64 k ∧ Hid (∀ j, j < k → symB (xs.getD j 0) = true)) (fun i => n - (intOf i).toNat)
  case atStart => exact ⟨0, Nat.zero_le _, rfl, fun j hj => absurd hj (Nat.not_lt_zero j)⟩
  case round =>
    obtain ⟨k, hk, rfl, hn⟩ := hrel
    by_cases hlt : k < n
    · have gk := HC.out k hlt
      obtain ⟨bd, hbd⟩ : ∃ bd, symB (xs.getD k 0) = bd := ⟨_, rfl⟩
      generalize hxk : xs.getD k 0 = xk at gk hbd
      have HXK : Hid (xs.getD k 0 = xk) := hxk
      clear hxk
      cases bd
      · go_wp2_with (go_at_call 75; refine (byte50 xk _).mono ?_; rintro e w' ⟨rfl, rfl⟩; rw [hbd])
        go_ret
        exact ⟨ret_bool (symText_bad (by rw [hl.out]; exact hlt) (by rw [HXK.out]; exact hbd)).symm, rfl⟩
      · go_wp2_with (go_at_call 75; refine (byte50 xk _).mono ?_; rintro e w' ⟨rfl, rfl⟩; rw [hbd])
        refine ⟨⟨k + 1, by omega, by go_num, fun j hj => ?_⟩, by simp [intOf]; omega⟩
        by_cases e : j < k
        · exact hn.out j e
        · rw [show j = k by omega, HXK.out]; exact hbd
    · have : k = n := by omega
      subst this
      go_wp2
      go_ret
      exact ⟨ret_bool (symText_good (by rw [hl.out]; exact h1) (by rw [hl.out]; exact h2) HD.out hnum (fun j hj => hn.out j (by rw [← hl.out]; exact hj))).symm, rfl⟩
theorem symbol38 (p : Option Addr) (n c : Nat) (xs : List Int) (w : World) (hB : By w p n c xs) :
    Calls Tryd.prog 69 #[.slice p n c] w fun e w' => e = .returned (.bool (symTextB xs)) ∧ w' = w := by
  by_cases h1 : n < 1
  · exact symbol38_short p n c xs w hB.len h1
  by_cases h2 : 100 < n
  · exact symbol38_long p n c xs w hB.len h2
  cases h3 : digB (xs.getD 0 0)
  · cases h4 : numB xs
    · exact symbol38_loop p n c xs w hB (by omega) (by omega) h3 h4
    · exact symbol38_num p n c xs w hB (by omega) (by omega) h3 h4
  · exact symbol38_dig p n c xs w hB (by omega) (by omega) h3

/-! ### symbolText -/
set_option maxHeartbeats 400000 in
theorem symbol41_short (p : Option Addr) (n c : Nat) (xs : List Int) (w : World) (hl : xs.length = n) (h : n < 1) :
    Calls Tryd.prog 77 #[.slice p n c] w fun e w' => e = .returned (.bool (symTextB xs)) ∧ Below w.heap.size w w' := by
  have HF : Hid (symTextB xs = false) := symText_short (by omega)
  obtain rfl : n = 0 := by omega
  clear hl
  go_enter Tryd.func77, Tryd.ntmps77
  go_wp2
  go_ret
  exact ⟨ret_bool HF.out.symm, Below.refl _ _⟩
set_option maxHeartbeats 400000 in
theorem symbol41_long (p : Option Addr) (n c : Nat) (xs : List Int) (w : World) (hl : xs.length = n) (h : 100 < n) :
    Calls Tryd.prog 77 #[.slice p n c] w fun e w' => e = .returned (.bool (symTextB xs)) ∧ Below w.heap.size w w' := by
  have HF : Hid (symTextB xs = false) := symText_long (by omega)
  have hd : ((n : Int) == 0) = false := beq_eq_false_iff_ne.2 (by omega)
  have hd' : decide ((100 : Int) < n) = true := by simp; omega
  clear hl
  go_enter Tryd.func77, Tryd.ntmps77
  go_wp2
  go_ret
  exact ⟨ret_bool HF.out.symm, Below.refl _ _⟩
theorem symText_rest {xs : List Int} (h1 : 1 ≤ xs.length) (h2 : xs.length ≤ 100) (h : ∀ j, j < xs.length → symB (xs.getD j 0) = true) : symTextB xs = (!digB (xs.getD 0 0) && !numB xs) := by
  unfold symTextB; rw [all_getD h, decide_eq_true h1, decide_eq_true h2]; simp
set_option maxHeartbeats 400000 in
theorem symbol41_loop (p : Option Addr) (n c : Nat) (xs : List Int) (w : World) (hB : By w p n c xs) (h1 : 1 ≤ n) (h2 : n ≤ 100) :
    Calls Tryd.prog 77 #[.slice p n c] w fun e w' => e = .returned (.bool (symTextB xs)) ∧ Below w.heap.size w w' := by
  have HB : Hid (By w p n c xs) := hB
  have hl : Hid (xs.length = n) := hB.len
  obtain ⟨b, o, rfl, g⟩ := hB.cells (by omega)
  have HC : Hid (∀ i, i < n → w.cell? ⟨b, o + i, none⟩ = some (.int .u8 (xs.getD i 0))) := g
  clear g hB
  have hd : ((n : Int) == 0) = false := beq_eq_false_iff_ne.2 (by omega)
  have hd' : decide ((100 : Int) < n) = false := by simp; omega
  go_enter Tryd.func77, Tryd.ntmps77
  go_wp2
  go_loop [15] (fun i => ∃ k : Nat, k ≤ n ∧ i = .int .i64 k ∧ Hid (∀ j, j < k → symB (xs.getD j 0) = true)) (fun i => n - (intOf i).toNat)
  case atStart => exact ⟨0, Nat.zero_le _, rfl, fun j hj => absurd hj (Nat.not_lt_zero j)⟩
  case round =>
    obtain ⟨k, hk, rfl, hn⟩ := hrel
    by_cases hlt : k < n
    · have gk := HC.out k hlt
      have hr := HB.out.rng k
      obtain ⟨bd, hbd⟩ : ∃ bd, symB (xs.getD k 0) = bd := ⟨_, rfl⟩
      generalize hxk : xs.getD k 0 = xk at gk hbd hr
      have HXK : Hid (xs.getD k 0 = xk) := hxk
      clear hxk
      cases bd
      · go_wp2_with (go_at_call 79; refine (symbol51 xk hr.1 hr.2 _).mono ?_; rintro e w' ⟨rfl, rfl⟩; rw [hbd])
        go_ret
        exact ⟨ret_bool (symText_bad (by rw [hl.out]; exact hlt) (by rw [HXK.out]; exact hbd)).symm, Below.refl _ _⟩
      · go_wp2_with (go_at_call 79; refine (symbol51 xk hr.1 hr.2 _).mono ?_; rintro e w' ⟨rfl, rfl⟩; rw [hbd])
        refine ⟨⟨k + 1, by omega, by go_num, fun j hj => ?_⟩, by simp [intOf]; omega⟩
        by_cases e : j < k
        · exact hn.out j e
        · rw [show j = k by omega, HXK.out]; exact hbd
    · have : k = n := by omega
      subst this
      have HS : Hid (symTextB xs = (!digB (xs.getD 0 0) && !numB xs)) := symText_rest (by rw [hl.out]; exact h1) (by rw [hl.out]; exact h2) (fun j hj => hn.out j (by rw [← hl.out]; exact hj))
      have g0 := HC.out 0 (by omega)
      rw [Nat.add_zero] at g0
      clear hn
      obtain ⟨bd, hbd⟩ : ∃ bd, digB (xs.getD 0 0) = bd := ⟨_, rfl⟩
      generalize hxk : xs.getD 0 0 = x0 at g0 hbd HS
      clear hxk
      cases bd
      · go_wp2_with (first | (go_at_call 80; refine (digit52 x0 _).mono ?_; rintro e w' ⟨rfl, rfl⟩; rw [hbd]) | (go_at_call 81; refine (number53 _ _ _ xs _ HB.out).mono ?_; rintro e w' ⟨rfl, hbel⟩))
        go_ret
        exact ⟨ret_bool (by rw [HS.out, hbd]; simp), hbel⟩
      · go_wp2_with (go_at_call 80; refine (digit52 x0 _).mono ?_; rintro e w' ⟨rfl, rfl⟩; rw [hbd])
        go_ret
        exact ⟨ret_bool (by rw [HS.out, hbd]; simp), Below.refl _ _⟩
theorem symbol41 (p : Option Addr) (n c : Nat) (xs : List Int) (w : World) (hB : By w p n c xs) :
    Calls Tryd.prog 77 #[.slice p n c] w fun e w' => e = .returned (.bool (symTextB xs)) ∧ Below w.heap.size w w' := by
  by_cases h1 : n < 1
  · exact symbol41_short p n c xs w hB.len h1
  by_cases h2 : 100 < n
  · exact symbol41_long p n c xs w hB.len h2
  exact symbol41_loop p n c xs w hB (by omega) (by omega)
end Go.Proofs.YtbcanodijcglpaaDoor
