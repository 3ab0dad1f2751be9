import Derived.Test.YtdjdhjciealfhaaGreatDoorW2
import Derived.Lib.SlBytesConst
namespace Go.Proofs.YtdjdhjciealfhaaGreatDoor
open Go.RowKit Ch1
set_option maxHeartbeats 400000 in
theorem number53 (p : Option Addr) (n c : Nat) (xs : List Int) (w : World) (h : By w p n c xs) :
    Calls Tryz.prog 121 #[.slice p n c] w fun e w' => e = .returned (.bool (numB xs)) ∧ Below w.heap.size w w' := by
  have hW : Below w.heap.size w (w.alloc (.cells #[.int .u8 45] 5 (1, 2))) := (Below.refl _ w).alloc (Nat.le_refl _) _
  have h' := h.below hW
  obtain ⟨p', n', c', ys, htr, hbh⟩ := trimmed p n c xs _ h'
  have HT : Hid (Lib.trimPrefixV p n c xs [45] = .slice p' n' c') := htr
  have HH : Hid (Behind (w.alloc (.cells #[.int .u8 45] 5 (1, 2))) xs p' n' c' ys) := hbh
  have hl : Hid (ys.length = n') := hbh.by_.len
  have hbig : n' ≤ 9223372036854775807 := by have := hbh.by_.cap; have := hbh.by_.big; unfold maxLen at this; omega
  have hx : Hid (xs.length = n) := h.len
  have hnc : n ≤ c := h.cap
  have HP : Hid (Lib.BytesIn (w.alloc (.cells #[.int .u8 45] 5 (1, 2))) p n xs) := h'.cells
  have HQ : Hid (Lib.BytesIn (w.alloc (.cells #[.int .u8 45] 5 (1, 2))) (some ⟨w.heap.size, 0, none⟩) 1 [45]) :=
    (fun _ => ⟨w.heap.size, 0, rfl, fun i hi => by
      rw [World.cell?_alloc_mark]
      obtain rfl : i = 0 := by omega
      rfl⟩)
  clear htr hbh h h' hW
  have kc := fun (w : World) (C : Array Value) (n c : Nat) => Lib.run_convert_bytes_const (P := Tryz.prog) w 108 5 C n c Tryz.underlying108 Tryz.underlying5
  go_enter Tryz.func121, Tryz.ntmps121
  go_wp2_with fail
  refine (trimPrefix58 p (some ⟨w.heap.size, 0, none⟩) n c 1 1 xs [45] (w.alloc (.cells #[.int .u8 45] 5 (1, 2))) hx.out rfl hnc HP.out HQ.out).mono ?_
  rintro e w' ⟨rfl, hw'⟩
  have hw'' := hw'.symm
  clear hw'
  subst hw''
  rw [HT.out]
  clear kc HP HQ hx
  go_wp2
  go_loop [12] (fun i => ∃ k : Nat, k ≤ n' ∧ i = .int .i64 k ∧ Hid (∀ j, j < k → digB (ys.getD j 0) = true)) (fun i => n' - (intOf i).toNat)
  case atStart => exact ⟨0, Nat.zero_le _, rfl, fun j hj => absurd hj (Nat.not_lt_zero j)⟩
  case round =>
    obtain ⟨k, hk, rfl, hn⟩ := hrel
    by_cases hlt : k < n'
    · obtain ⟨b, o, rfl, g⟩ := HH.out.by_.cells (by omega)
      have gk := g k hlt
      clear g
      obtain ⟨bd, hbd⟩ : ∃ bd, digB (ys.getD k 0) = bd := ⟨_, rfl⟩
      generalize hxk : ys.getD k 0 = xk at gk hbd
      have HXK : Hid (ys.getD k 0 = xk) := hxk
      clear hxk
      cases bd
      · go_wp2_with (go_at_call 120; refine (digit52 xk _).mono ?_; rintro e w' ⟨rfl, rfl⟩; rw [hbd])
        go_ret
        exact ⟨ret_bool (numB_false HH.out.un (by rw [hl.out]; exact hlt) (by rw [HXK.out]; exact hbd)).symm, (Below.refl _ w).alloc (Nat.le_refl _) _⟩
      · go_wp2_with (go_at_call 120; refine (digit52 xk _).mono ?_; rintro e w' ⟨rfl, rfl⟩; rw [hbd])
        refine ⟨⟨k + 1, by omega, by go_num, fun j hj => ?_⟩, by simp [intOf]; omega⟩
        by_cases e : j < k
        · exact hn.out j e
        · rw [show j = k by omega, HXK.out]; exact hbd
    · have : k = n' := by omega
      subst this
      go_wp2
      go_ret
      exact ⟨ret_bool (by rw [numB_true HH.out.un (fun j hj => hn.out j (by rw [← hl.out]; exact hj)), hl.out]), (Below.refl _ w).alloc (Nat.le_refl _) _⟩
end Go.Proofs.YtdjdhjciealfhaaGreatDoor
namespace Go.Proofs.YtdjdhjciealfhaaGreatDoor
open Go.RowKit Ch1
theorem symText_short {xs : List Int} (h : xs.length < 1) : symTextB xs = false := by unfold symTextB; rw [decide_eq_false (show ¬ 1 ≤ xs.length by omega)]; simp
theorem symText_long {xs : List Int} (h : 100 < xs.length) : symTextB xs = false := by unfold symTextB; rw [decide_eq_false (show ¬ xs.length ≤ 100 by omega)]; simp
theorem symText_dig {xs : List Int} (h : digB (xs.getD 0 0) = true) : symTextB xs = false := by unfold symTextB; rw [h]; simp
theorem symText_num {xs : List Int} (h : numB xs = true) : symTextB xs = false := by unfold symTextB; rw [h]; simp
theorem symText_bad {xs : List Int} {j : Nat} (hj : j < xs.length) (h : symB (xs.getD j 0) = false) : symTextB xs = false := by unfold symTextB; rw [not_all_getD hj h]; simp
theorem symText_good {xs : List Int} (h1 : 1 ≤ xs.length) (h2 : xs.length ≤ 100) (h3 : digB (xs.getD 0 0) = false) (h4 : numB xs = false) (h : ∀ j, j < xs.length → symB (xs.getD j 0) = true) : symTextB xs = true := by
  unfold symTextB; rw [all_getD h, h3, h4]; simp [h1, h2]

set_option maxHeartbeats 400000 in
theorem symbol38_short (p : Option Addr) (n c : Nat) (xs : List Int) (w : World) (hl : xs.length = n) (h : n < 1) :
    Calls Tryz.prog 102 #[.slice p n c] w fun e w' => e = .returned (.bool (symTextB xs)) ∧ w' = w := by
  have HF : Hid (symTextB xs = false) := symText_short (by omega)
  obtain rfl : n = 0 := by omega
  clear hl
  go_enter Tryz.func102, Tryz.ntmps102
  go_wp2
  go_ret
  exact ⟨ret_bool HF.out.symm, rfl⟩
set_option maxHeartbeats 400000 in
theorem symbol38_long (p : Option Addr) (n c : Nat) (xs : List Int) (w : World) (hl : xs.length = n) (h : 100 < n) :
    Calls Tryz.prog 102 #[.slice p n c] w fun e w' => e = .returned (.bool (symTextB xs)) ∧ w' = w := by
  have HF : Hid (symTextB xs = false) := symText_long (by omega)
  have hd : decide ((n : Int) < 1) = false := by simp; omega
  have hd' : decide ((100 : Int) < n) = true := by simp; omega
  clear hl
  go_enter Tryz.func102, Tryz.ntmps102
  go_wp2
  go_ret
  exact ⟨ret_bool HF.out.symm, rfl⟩
set_option maxHeartbeats 400000 in
theorem symbol38_dig (p : Option Addr) (n c : Nat) (xs : List Int) (w : World) (hB : By w p n c xs) (h1 : 1 ≤ n) (h2 : n ≤ 100) (hdg : digB (xs.getD 0 0) = true) :
    Calls Tryz.prog 102 #[.slice p n c] w fun e w' => e = .returned (.bool (symTextB xs)) ∧ w' = w := by
  have HF : Hid (symTextB xs = false) := symText_dig hdg
  obtain ⟨b, o, rfl, g⟩ := hB.cells (by omega)
  have g0 := g 0 (by omega)
  rw [Nat.add_zero] at g0
  generalize hx : xs.getD 0 0 = x0 at g0 hdg
  clear g hB hx
  have hd : decide ((n : Int) < 1) = false := by simp; omega
  have hd' : decide ((100 : Int) < n) = false := by simp; omega
  go_enter Tryz.func102, Tryz.ntmps102
  go_wp2_with (go_at_call 110; refine (digit48 x0 _).mono ?_; rintro e w' ⟨rfl, rfl⟩; rw [hdg])
  go_ret
  exact ⟨ret_bool HF.out.symm, rfl⟩
set_option maxHeartbeats 400000 in
theorem symbol38_num (p : Option Addr) (n c : Nat) (xs : List Int) (w : World) (hB : By w p n c xs) (h1 : 1 ≤ n) (h2 : n ≤ 100) (hdg : digB (xs.getD 0 0) = false) (hnum : numB xs = true) :
    Calls Tryz.prog 102 #[.slice p n c] w fun e w' => e = .returned (.bool (symTextB xs)) ∧ w' = w := by
  have HF : Hid (symTextB xs = false) := symText_num hnum
  have HB : Hid (By w p n c xs) := hB
  obtain ⟨b, o, rfl, g⟩ := hB.cells (by omega)
  have g0 := g 0 (by omega)
  rw [Nat.add_zero] at g0
  generalize hx : xs.getD 0 0 = x0 at g0 hdg
  clear g hB hx
  have hd : decide ((n : Int) < 1) = false := by simp; omega
  have hd' : decide ((100 : Int) < n) = false := by simp; omega
  go_enter Tryz.func102, Tryz.ntmps102
  go_wp2_with (first | (go_at_call 110; refine (digit48 x0 _).mono ?_; rintro e w' ⟨rfl, rfl⟩; rw [hdg]) | (go_at_call 111; refine (number49 _ _ _ xs _ HB.out).mono ?_; rintro e w' ⟨rfl, rfl⟩; rw [hnum]))
  go_ret
  exact ⟨ret_bool HF.out.symm, rfl⟩
set_option maxHeartbeats 400000 in
theorem symbol38_loop (p : Option Addr) (n c : Nat) (xs : List Int) (w : World) (hB : By w p n c xs) (h1 : 1 ≤ n) (h2 : n ≤ 100) (hdg : digB (xs.getD 0 0) = false) (hnum : numB xs = false) :
    Calls Tryz.prog 102 #[.slice p n c] w fun e w' => e = .returned (.bool (symTextB xs)) ∧ w' = w := by
  have HB : Hid (By w p n c xs) := hB
  have hl : Hid (xs.length = n) := hB.len
  have HD : Hid (digB (xs.getD 0 0) = false) := hdg
  obtain ⟨b, o, rfl, g⟩ := hB.cells (by omega)
  have HC : Hid (∀ i, i < n → w.cell? ⟨b, o + i, none⟩ = some (.int .u8 (xs.getD i 0))) := g
  have g0 := g 0 (by omega)
  rw [Nat.add_zero] at g0
  generalize hx : xs.getD 0 0 = x0 at g0 hdg
  clear g hB hx
  have hd : decide ((n : Int) < 1) = false := by simp; omega
  have hd' : decide ((100 : Int) < n) = false := by simp; omega
  go_enter Tryz.func102, Tryz.ntmps102
  go_wp2_with (first | (go_at_call 110; refine (digit48 x0 _).mono ?_; rintro e w' ⟨rfl, rfl⟩; rw [hdg]) | (go_at_call 111; refine (number49 _ _ _ xs _ HB.out).mono ?_; rintro e w' ⟨rfl, rfl⟩; rw [hnum]))
  go_loop [3] (fun i => ∃ k : Nat, k ≤ n ∧ i = .int .i64 k ∧ Hid (∀ j, j < k → symB (xs.getD j 0) = true)) (fun i => n - (intOf i).toNat)
  case atStart => exact ⟨0, Nat.zero_le _, rfl, fun j hj => absurd hj (Nat.not_lt_zero j)⟩
  case round =>
    obtain ⟨k, hk, rfl, hn⟩ := hrel
    by_cases hlt : k < n
    · have gk := HC.out k hlt
      obtain ⟨bd, hbd⟩ : ∃ bd, symB (xs.getD k 0) = bd := ⟨_, rfl⟩
      generalize hxk : xs.getD k 0 = xk at gk hbd
      have HXK : Hid (xs.getD k 0 = xk) := hxk
      clear hxk
      cases bd
      · go_wp2_with (go_at_call 112; refine (byte50 xk _).mono ?_; rintro e w' ⟨rfl, rfl⟩; rw [hbd])
        go_ret
        exact ⟨ret_bool (symText_bad (by rw [hl.out]; exact hlt) (by rw [HXK.out]; exact hbd)).symm, rfl⟩
      · go_wp2_with (go_at_call 112; refine (byte50 xk _).mono ?_; rintro e w' ⟨rfl, rfl⟩; rw [hbd])
        refine ⟨⟨k + 1, by omega, by go_num, fun j hj => ?_⟩, by simp [intOf]; omega⟩
        by_cases e : j < k
        · exact hn.out j e
        · rw [show j = k by omega, HXK.out]; exact hbd
    · have : k = n := by omega
      subst this
      go_wp2
      go_ret
      exact ⟨ret_bool (symText_good (by rw [hl.out]; exact h1) (by rw [hl.out]; exact h2) HD.out hnum (fun j hj => hn.out j (by rw [← hl.out]; exact hj))).symm, rfl⟩
theorem symbol38 (p : Option Addr) (n c : Nat) (xs : List Int) (w : World) (hB : By w p n c xs) :
    Calls Tryz.prog 102 #[.slice p n c] w fun e w' => e = .returned (.bool (symTextB xs)) ∧ w' = w := by
  by_cases h1 : n < 1
  · exact symbol38_short p n c xs w hB.len h1
  by_cases h2 : 100 < n
  · exact symbol38_long p n c xs w hB.len h2
  cases h3 : digB (xs.getD 0 0)
  · cases h4 : numB xs
    · exact symbol38_loop p n c xs w hB (by omega) (by omega) h3 h4
    · exact symbol38_num p n c xs w hB (by omega) (by omega) h3 h4
  · exact symbol38_dig p n c xs w hB (by omega) (by omega) h3

/-! ### symbolText -/
set_option maxHeartbeats 400000 in
theorem symbol41_short (p : Option Addr) (n c : Nat) (xs : List Int) (w : World) (hl : xs.length = n) (h : n < 1) :
    Calls Tryz.prog 114 #[.slice p n c] w fun e w' => e = .returned (.bool (symTextB xs)) ∧ Below w.heap.size w w' := by
  have HF : Hid (symTextB xs = false) := symText_short (by omega)
  obtain rfl : n = 0 := by omega
  clear hl
  go_enter Tryz.func114, Tryz.ntmps114
  go_wp2
  go_ret
  exact ⟨ret_bool HF.out.symm, Below.refl _ _⟩
set_option maxHeartbeats 400000 in
theorem symbol41_long (p : Option Addr) (n c : Nat) (xs : List Int) (w : World) (hl : xs.length = n) (h : 100 < n) :
    Calls Tryz.prog 114 #[.slice p n c] w fun e w' => e = .returned (.bool (symTextB xs)) ∧ Below w.heap.size w w' := by
  have HF : Hid (symTextB xs = false) := symText_long (by omega)
  have hd : ((n : Int) == 0) = false := beq_eq_false_iff_ne.2 (by omega)
  have hd' : decide ((100 : Int) < n) = true := by simp; omega
  clear hl
  go_enter Tryz.func114, Tryz.ntmps114
  go_wp2
  go_ret
  exact ⟨ret_bool HF.out.symm, Below.refl _ _⟩
theorem symText_rest {xs : List Int} (h1 : 1 ≤ xs.length) (h2 : xs.length ≤ 100) (h : ∀ j, j < xs.length → symB (xs.getD j 0) = true) : symTextB xs = (!digB (xs.getD 0 0) && !numB xs) := by
  unfold symTextB; rw [all_getD h, decide_eq_true h1, decide_eq_true h2]; simp
set_option maxHeartbeats 400000 in
theorem symbol41_loop (p : Option Addr) (n c : Nat) (xs : List Int) (w : World) (hB : By w p n c xs) (h1 : 1 ≤ n) (h2 : n ≤ 100) :
    Calls Tryz.prog 114 #[.slice p n c] w fun e w' => e = .returned (.bool (symTextB xs)) ∧ Below w.heap.size w w' := by
  have HB : Hid (By w p n c xs) := hB
  have hl : Hid (xs.length = n) := hB.len
  obtain ⟨b, o, rfl, g⟩ := hB.cells (by omega)
  have HC : Hid (∀ i, i < n → w.cell? ⟨b, o + i, none⟩ = some (.int .u8 (xs.getD i 0))) := g
  clear g hB
  have hd : ((n : Int) == 0) = false := beq_eq_false_iff_ne.2 (by omega)
  have hd' : decide ((100 : Int) < n) = false := by simp; omega
  go_enter Tryz.func114, Tryz.ntmps114
  go_wp2
  go_loop [15] (fun i => ∃ k : Nat, k ≤ n ∧ i = .int .i64 k ∧ Hid (∀ j, j < k → symB (xs.getD j 0) = true)) (fun i => n - (intOf i).toNat)
  case atStart => exact ⟨0, Nat.zero_le _, rfl, fun j hj => absurd hj (Nat.not_lt_zero j)⟩
  case round =>
    obtain ⟨k, hk, rfl, hn⟩ := hrel
    by_cases hlt : k < n
    · have gk := HC.out k hlt
      have hr := HB.out.rng k
      obtain ⟨bd, hbd⟩ : ∃ bd, symB (xs.getD k 0) = bd := ⟨_, rfl⟩
      generalize hxk : xs.getD k 0 = xk at gk hbd hr
      have HXK : Hid (xs.getD k 0 = xk) := hxk
      clear hxk
      cases bd
      · go_wp2_with (go_at_call 119; refine (symbol51 xk hr.1 hr.2 _).mono ?_; rintro e w' ⟨rfl, rfl⟩; rw [hbd])
        go_ret
        exact ⟨ret_bool (symText_bad (by rw [hl.out]; exact hlt) (by rw [HXK.out]; exact hbd)).symm, Below.refl _ _⟩
      · go_wp2_with (go_at_call 119; refine (symbol51 xk hr.1 hr.2 _).mono ?_; rintro e w' ⟨rfl, rfl⟩; rw [hbd])
        refine ⟨⟨k + 1, by omega, by go_num, fun j hj => ?_⟩, by simp [intOf]; omega⟩
        by_cases e : j < k
        · exact hn.out j e
        · rw [show j = k by omega, HXK.out]; exact hbd
    · have : k = n := by omega
      subst this
      have HS : Hid (symTextB xs = (!digB (xs.getD 0 0) && !numB xs)) := symText_rest (by rw [hl.out]; exact h1) (by rw [hl.out]; exact h2) (fun j hj => hn.out j (by rw [← hl.out]; exact hj))
      have g0 := HC.out 0 (by omega)
      rw [Nat.add_zero] at g0
      clear hn
      obtain ⟨bd, hbd⟩ : ∃ bd, digB (xs.getD 0 0) = bd := ⟨_, rfl⟩
      generalize hxk : xs.getD 0 0 = x0 at g0 hbd HS
      clear hxk
      cases bd
      · go_wp2_with (first | (go_at_call 120; refine (digit52 x0 _).mono ?_; rintro e w' ⟨rfl, rfl⟩; rw [hbd]) | (go_at_call 121; refine (number53 _ _ _ xs _ HB.out).mono ?_; rintro e w' ⟨rfl, hbel⟩))
        go_ret
        exact ⟨ret_bool (by rw [HS.out, hbd]; simp), hbel⟩
      · go_wp2_with (go_at_call 120; refine (digit52 x0 _).mono ?_; rintro e w' ⟨rfl, rfl⟩; rw [hbd])
        go_ret
        exact ⟨ret_bool (by rw [HS.out, hbd]; simp), Below.refl _ _⟩
theorem symbol41 (p : Option Addr) (n c : Nat) (xs : List Int) (w : World) (hB : By w p n c xs) :
    Calls Tryz.prog 114 #[.slice p n c] w fun e w' => e = .returned (.bool (symTextB xs)) ∧ Below w.heap.size w w' := by
  by_cases h1 : n < 1
  · exact symbol41_short p n c xs w hB.len h1
  by_cases h2 : 100 < n
  · exact symbol41_long p n c xs w hB.len h2
  exact symbol41_loop p n c xs w hB (by omega) (by omega)
end Go.Proofs.YtdjdhjciealfhaaGreatDoor
namespace Go.Proofs.YtdjdhjciealfhaaGreatDoor
open Go.RowKit Ch1
theorem nat_beq0 (n : Nat) : ((n : Int) == 0) = decide (n = 0) := by rw [Bool.eq_iff_iff]; simp
theorem good_int (n count : Int) (t : List Int) (tn : Nat) (hl : t.length = tn) : goodB ⟨0, n, t, count⟩ = (smallB n && ((tn : Int) == 0) && (count == 0)) := by
  simp [goodB, hl, nat_beq0]; rfl
theorem good_bool (n count : Int) (t : List Int) (tn : Nat) (hl : t.length = tn) : goodB ⟨1, n, t, count⟩ = (((n == 0) || (n == 1)) && ((tn : Int) == 0) && (count == 0)) := by
  simp [goodB, hl, nat_beq0]; rfl
theorem good_sym (n count : Int) (t : List Int) : goodB ⟨2, n, t, count⟩ = ((n == 0) && symTextB t && (count == 0)) := by
  simp [goodB]; rfl
theorem good_list (n count : Int) (t : List Int) (tn : Nat) (hl : t.length = tn) : goodB ⟨3, n, t, count⟩ = ((n == 0) && ((tn : Int) == 0) && decide (0 ≤ count)) := by
  simp [goodB, hl, nat_beq0]; rfl
theorem good_other (kind n count : Int) (t : List Int) (h0 : (kind == 0) = false) (h1 : (kind == 1) = false) (h2 : (kind == 2) = false) (h3 : (kind == 3) = false) : goodB ⟨kind, n, t, count⟩ = false := by
  rw [beq_eq_false_iff_ne] at h0 h1 h2 h3
  simp [goodB, h0, h1, h2, h3]

set_option maxHeartbeats 1000000 in
theorem alone31_int (n count : Int) (p : Option Addr) (tn tc : Nat) (t : List Int) (w : World) (hB : By w p tn tc t) :
    Calls Tryz.prog 105 #[.agg #[.int .i64 0, .int .i64 n, .slice p tn tc, .int .i64 count]] w fun e w' => e = .returned (.bool (goodB ⟨0, n, t, count⟩)) ∧ Below w.heap.size w w' := by
  have HF : Hid (goodB ⟨0, n, t, count⟩ = (smallB n && ((tn : Int) == 0) && (count == 0))) := good_int n count t tn hB.len
  clear hB
  obtain ⟨b1, h1⟩ : ∃ b, smallB n = b := ⟨_, rfl⟩
  obtain ⟨b2, h2⟩ : ∃ b, ((tn : Int) == 0) = b := ⟨_, rfl⟩
  obtain ⟨b3, h3⟩ : ∃ b, (count == 0) = b := ⟨_, rfl⟩
  cases b1
  · go_enter Tryz.func105, Tryz.ntmps105
    go_wp2_with (go_at_call 113; refine (small40 n _).mono ?_; rintro e w' ⟨rfl, rfl⟩; rw [h1])
    go_ret
    exact ⟨ret_bool (by rw [HF.out, h1]; simp), (Below.refl _ _).alloc (Nat.le_refl _) _⟩
  · cases b2
    · go_enter Tryz.func105, Tryz.ntmps105
      go_wp2_with (go_at_call 113; refine (small40 n _).mono ?_; rintro e w' ⟨rfl, rfl⟩; rw [h1])
      go_ret
      exact ⟨ret_bool (by rw [HF.out, h2]; simp), (Below.refl _ _).alloc (Nat.le_refl _) _⟩
    · go_enter Tryz.func105, Tryz.ntmps105
      go_wp2_with (go_at_call 113; refine (small40 n _).mono ?_; rintro e w' ⟨rfl, rfl⟩; rw [h1])
      go_ret
      exact ⟨ret_bool (by rw [HF.out, h1, h2]; simp [h3]), (Below.refl _ _).alloc (Nat.le_refl _) _⟩

theorem bcell {W w1 : World} (hb : Below W.heap.size W w1) : (∀ b o, b < W.heap.size → w1.cell? ⟨b, o, none⟩ = W.cell? ⟨b, o, none⟩) ∧ (∀ b o, b < W.heap.size → w1.frozen? ⟨b, o, none⟩ = W.frozen? ⟨b, o, none⟩) :=
  ⟨fun b o h => hb.cell (p := ⟨b, o, none⟩) h, fun b o h => hb.frozen (p := ⟨b, o, none⟩) h⟩
set_option maxHeartbeats 1000000 in
theorem alone31_bool (n count : Int) (p : Option Addr) (tn tc : Nat) (t : List Int) (w : World) (hB : By w p tn tc t) :
    Calls Tryz.prog 105 #[.agg #[.int .i64 1, .int .i64 n, .slice p tn tc, .int .i64 count]] w fun e w' => e = .returned (.bool (goodB ⟨1, n, t, count⟩)) ∧ Below w.heap.size w w' := by
  have HF : Hid (goodB ⟨1, n, t, count⟩ = (((n == 0) || (n == 1)) && ((tn : Int) == 0) && (count == 0))) := good_bool n count t tn hB.len
  clear hB
  obtain ⟨b1, h1⟩ : ∃ b, (n == 0) = b := ⟨_, rfl⟩
  obtain ⟨b4, h4⟩ : ∃ b, (n == 1) = b := ⟨_, rfl⟩
  obtain ⟨b2, h2⟩ : ∃ b, ((tn : Int) == 0) = b := ⟨_, rfl⟩
  obtain ⟨b3, h3⟩ : ∃ b, (count == 0) = b := ⟨_, rfl⟩
  cases b1
  · cases b4
    · go_enter Tryz.func105, Tryz.ntmps105
      go_wp2
      go_ret
      exact ⟨ret_bool (by rw [HF.out, h1, h4]; simp), (Below.refl _ _).alloc (Nat.le_refl _) _⟩
    · cases b2
      · go_enter Tryz.func105, Tryz.ntmps105
        go_wp2
        go_ret
        exact ⟨ret_bool (by rw [HF.out, h2]; simp), (Below.refl _ _).alloc (Nat.le_refl _) _⟩
      · go_enter Tryz.func105, Tryz.ntmps105
        go_wp2
        go_ret
        exact ⟨ret_bool (by rw [HF.out, h1, h4, h2]; simp [h3]), (Below.refl _ _).alloc (Nat.le_refl _) _⟩
  · clear h4
    cases b2
    · go_enter Tryz.func105, Tryz.ntmps105
      go_wp2
      go_ret
      exact ⟨ret_bool (by rw [HF.out, h2]; simp), (Below.refl _ _).alloc (Nat.le_refl _) _⟩
    · go_enter Tryz.func105, Tryz.ntmps105
      go_wp2
      go_ret
      exact ⟨ret_bool (by rw [HF.out, h1, h2]; simp [h3]), (Below.refl _ _).alloc (Nat.le_refl _) _⟩
set_option maxHeartbeats 1000000 in
theorem alone31_list (n count : Int) (p : Option Addr) (tn tc : Nat) (t : List Int) (w : World) (hB : By w p tn tc t) :
    Calls Tryz.prog 105 #[.agg #[.int .i64 3, .int .i64 n, .slice p tn tc, .int .i64 count]] w fun e w' => e = .returned (.bool (goodB ⟨3, n, t, count⟩)) ∧ Below w.heap.size w w' := by
  have HF : Hid (goodB ⟨3, n, t, count⟩ = ((n == 0) && ((tn : Int) == 0) && decide (0 ≤ count))) := good_list n count t tn hB.len
  clear hB
  obtain ⟨b1, h1⟩ : ∃ b, (n == 0) = b := ⟨_, rfl⟩
  obtain ⟨b2, h2⟩ : ∃ b, ((tn : Int) == 0) = b := ⟨_, rfl⟩
  cases b1
  · go_enter Tryz.func105, Tryz.ntmps105
    go_wp2
    go_ret
    exact ⟨ret_bool (by rw [HF.out, h1]; simp), (Below.refl _ _).alloc (Nat.le_refl _) _⟩
  · cases b2
    · go_enter Tryz.func105, Tryz.ntmps105
      go_wp2
      go_ret
      exact ⟨ret_bool (by rw [HF.out, h2]; simp), (Below.refl _ _).alloc (Nat.le_refl _) _⟩
    · go_enter Tryz.func105, Tryz.ntmps105
      go_wp2
      go_ret
      exact ⟨ret_bool (by rw [HF.out, h1, h2]; simp), (Below.refl _ _).alloc (Nat.le_refl _) _⟩
set_option maxHeartbeats 1000000 in
theorem alone31_other (kind n count : Int) (p : Option Addr) (tn tc : Nat) (t : List Int) (w : World) (h0 : (kind == 0) = false) (h1 : (kind == 1) = false) (h2 : (kind == 2) = false) (h3 : (kind == 3) = false) :
    Calls Tryz.prog 105 #[.agg #[.int .i64 kind, .int .i64 n, .slice p tn tc, .int .i64 count]] w fun e w' => e = .returned (.bool (goodB ⟨kind, n, t, count⟩)) ∧ Below w.heap.size w w' := by
  have HF : Hid (goodB ⟨kind, n, t, count⟩ = false) := good_other kind n count t h0 h1 h2 h3
  go_enter Tryz.func105, Tryz.ntmps105
  go_wp2
  go_ret
  exact ⟨ret_bool HF.out.symm, (Below.refl _ _).alloc (Nat.le_refl _) _⟩
set_option maxHeartbeats 1000000 in
theorem alone31_sym (n count : Int) (p : Option Addr) (tn tc : Nat) (t : List Int) (w : World) (hB : By w p tn tc t) :
    Calls Tryz.prog 105 #[.agg #[.int .i64 2, .int .i64 n, .slice p tn tc, .int .i64 count]] w fun e w' => e = .returned (.bool (goodB ⟨2, n, t, count⟩)) ∧ Below w.heap.size w w' := by
  have HF : Hid (goodB ⟨2, n, t, count⟩ = ((n == 0) && symTextB t && (count == 0))) := good_sym n count t
  have HB : Hid (By w p tn tc t) := hB
  clear hB
  obtain ⟨b1, h1⟩ : ∃ b, (n == 0) = b := ⟨_, rfl⟩
  obtain ⟨b2, h2⟩ : ∃ b, symTextB t = b := ⟨_, rfl⟩
  cases b1
  · go_enter Tryz.func105, Tryz.ntmps105
    go_wp2
    go_ret
    exact ⟨ret_bool (by rw [HF.out, h1]; simp), (Below.refl _ _).alloc (Nat.le_refl _) _⟩
  · cases b2
    · go_enter Tryz.func105, Tryz.ntmps105
      go_wp2_with (go_at_call 114; refine (symbol41 _ _ _ t _ (by exact HB.out.below ((Below.refl _ w).alloc (Nat.le_refl _) _))).mono ?_; rintro e w1 ⟨rfl, hb1⟩; rw [h2]; have hz := hb1.size; obtain ⟨hc1, hf1⟩ := bcell hb1)
      go_ret
      exact ⟨ret_bool (by rw [HF.out, h2]; simp), ((Below.refl _ w).alloc (Nat.le_refl _) _).trans (hb1.mono (by simp))⟩
    · go_enter Tryz.func105, Tryz.ntmps105
      go_wp2_with (go_at_call 114; refine (symbol41 _ _ _ t _ (by exact HB.out.below ((Below.refl _ w).alloc (Nat.le_refl _) _))).mono ?_; rintro e w1 ⟨rfl, hb1⟩; rw [h2]; have hz := hb1.size; obtain ⟨hc1, hf1⟩ := bcell hb1)
      go_ret
      exact ⟨ret_bool (by rw [HF.out, h1, h2]; simp), ((Below.refl _ w).alloc (Nat.le_refl _) _).trans (hb1.mono (by simp))⟩
end Go.Proofs.YtdjdhjciealfhaaGreatDoor
