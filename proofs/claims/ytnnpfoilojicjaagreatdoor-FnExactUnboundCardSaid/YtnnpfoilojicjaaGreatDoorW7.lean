import Derived.Test.YtnnpfoilojicjaaGreatDoorW2
import Derived.Lib.SlBytesConst
namespace Go.Proofs.YtnnpfoilojicjaaGreatDoor
open Go.RowKit Ch1
set_option maxHeartbeats 400000 in
theorem number53 (p : Option Addr) (n c : Nat) (xs : List Int) (w : World) (h : By w p n c xs) :
  Calls Tryz.prog 178 #[.slice p n c] w fun e w' => e = .returned (.bool (numB xs)) ∧ Below w.heap.size w w' := by
 have hW : Below w.heap.size w (w.alloc (.cells #[.int .u8 45] 5 (1, 2))) := (Below.refl _ w).alloc (Nat.le_refl _) _
 have h' := h.below hW
 obtain ⟨p', n', c', ys, htr, hbh⟩ := trimmed p n c xs _ h'
 have HT : Hid (Lib.trimPrefixV p n c xs [45] = .slice p' n' c') := htr
 have HH : Hid (Behind (w.alloc (.cells #[.int .u8 45] 5 (1, 2))) xs p' n' c' ys) := hbh
 have hl : Hid (ys.length = n') := hbh.by_.len
 have hbig : n' ≤ 9223372036854775807 := by have := hbh.by_.cap; have := hbh.by_.big; unfold maxLen at this; omega
 have hx : Hid (xs.length = n) := h.len
 have hnc : n ≤ c := h.cap
 have HP : Hid (Lib.BytesIn (w.alloc (.cells #[.int .u8 45] 5 (1, 2))) p n xs) := h'.cells
 have HQ : Hid (Lib.BytesIn (w.alloc (.cells #[.int .u8 45] 5 (1, 2))) (some ⟨w.heap.size, 0, none⟩) 1 [45]) :=
  (fun _ => ⟨w.heap.size, 0, rfl, fun i hi => by
   rw [World.cell?_alloc_mark]
   obtain rfl : i = 0 := by omega
   rfl⟩)
 clear htr hbh h h' hW
 have kc := fun (w : World) (C : Array Value) (n c : Nat) => Lib.run_convert_bytes_const (P := Tryz.prog) w 34 5 C n c Tryz.underlying34 Tryz.underlying5
 go_enter Tryz.func178, Tryz.ntmps178
 go_wp2_with fail
 refine (trimPrefix58 p (some ⟨w.heap.size, 0, none⟩) n c 1 1 xs [45] (w.alloc (.cells #[.int .u8 45] 5 (1, 2))) hx.out rfl hnc HP.out HQ.out).mono ?_
 rintro e w' ⟨rfl, hw'⟩
 have hw'' := hw'.symm
 clear hw'
 subst hw''
 rw [HT.out]
 clear kc HP HQ hx
 go_wp2
 go_loop [12] (fun i => ∃ k : Nat, k ≤ n' ∧ i = .int .i64 k ∧ Hid (∀ j, j < k → digB (ys.getD j 0) = true)) (fun i => n' - (intOf i).toNat)
 case atStart => exact ⟨0, Nat.zero_le _, rfl, fun j hj => absurd hj (Nat.not_lt_zero j)⟩
 case round =>
  obtain ⟨k, hk, rfl, hn⟩ := hrel
  by_cases hlt : k < n'
  ·obtain ⟨b, o, rfl, g⟩ := HH.out.by_.cells (by omega)
   have gk := g k hlt
   clear g
   obtain ⟨bd, hbd⟩ : ∃ bd, digB (ys.getD k 0) = bd := ⟨_, rfl⟩
   generalize hxk : ys.getD k 0 = xk at gk hbd
   have HXK : Hid (ys.getD k 0 = xk) := hxk
   clear hxk
   cases bd
   ·go_wp2_with (go_at_call 177; refine (digit52 xk _).mono ?_; rintro e w' ⟨rfl, rfl⟩; rw [hbd])
    go_ret
    exact ⟨ret_bool (numB_false HH.out.un (by rw [hl.out]; exact hlt) (by rw [HXK.out]; exact hbd)).symm, (Below.refl _ w).alloc (Nat.le_refl _) _⟩
   ·go_wp2_with (go_at_call 177; refine (digit52 xk _).mono ?_; rintro e w' ⟨rfl, rfl⟩; rw [hbd])
    refine ⟨⟨k + 1, by omega, by go_num, fun j hj => ?_⟩, by simp [intOf]; omega⟩
    by_cases e : j < k
    ·exact hn.out j e
    ·rw [show j = k by omega, HXK.out]; exact hbd
  ·have : k = n' := by omega
   subst this
   go_wp2
   go_ret
   exact ⟨ret_bool (by rw [numB_true HH.out.un (fun j hj => hn.out j (by rw [← hl.out]; exact hj)), hl.out]), (Below.refl _ w).alloc (Nat.le_refl _) _⟩
theorem symText_short {xs : List Int} (h : xs.length < 1) : symTextB xs = false := by unfold symTextB; rw [decide_eq_false (show ¬ 1 ≤ xs.length by omega)]; simp
theorem symText_long {xs : List Int} (h : 100 < xs.length) : symTextB xs = false := by unfold symTextB; rw [decide_eq_false (show ¬ xs.length ≤ 100 by omega)]; simp
theorem symText_dig {xs : List Int} (h : digB (xs.getD 0 0) = true) : symTextB xs = false := by unfold symTextB; rw [h]; simp
theorem symText_num {xs : List Int} (h : numB xs = true) : symTextB xs = false := by unfold symTextB; rw [h]; simp
theorem symText_bad {xs : List Int} {j : Nat} (hj : j < xs.length) (h : symB (xs.getD j 0) = false) : symTextB xs = false := by unfold symTextB; rw [not_all_getD hj h]; simp
theorem symText_good {xs : List Int} (h1 : 1 ≤ xs.length) (h2 : xs.length ≤ 100) (h3 : digB (xs.getD 0 0) = false) (h4 : numB xs = false) (h : ∀ j, j < xs.length → symB (xs.getD j 0) = true) : symTextB xs = true := by
 unfold symTextB; rw [all_getD h, h3, h4]; simp [h1, h2]
set_option maxHeartbeats 400000 in
theorem symbol38_short (p : Option Addr) (n c : Nat) (xs : List Int) (w : World) (hl : xs.length = n) (h : n < 1) :
  Calls Tryz.prog 76 #[.slice p n c] w fun e w' => e = .returned (.bool (symTextB xs)) ∧ w' = w := by
 have HF : Hid (symTextB xs = false) := symText_short (by omega)
 obtain rfl : n = 0 := by omega
 clear hl
 go_enter Tryz.func76, Tryz.ntmps76
 go_wp2
 go_ret
 exact ⟨ret_bool HF.out.symm, rfl⟩
set_option maxHeartbeats 400000 in
theorem symbol38_long (p : Option Addr) (n c : Nat) (xs : List Int) (w : World) (hl : xs.length = n) (h : 100 < n) :
  Calls Tryz.prog 76 #[.slice p n c] w fun e w' => e = .returned (.bool (symTextB xs)) ∧ w' = w := by
 have HF : Hid (symTextB xs = false) := symText_long (by omega)
 have hd : decide ((n : Int) < 1) = false := by simp; omega
 have hd' : decide ((100 : Int) < n) = true := by simp; omega
 clear hl
 go_enter Tryz.func76, Tryz.ntmps76
 go_wp2
 go_ret
 exact ⟨ret_bool HF.out.symm, rfl⟩
set_option maxHeartbeats 400000 in
theorem symbol38_dig (p : Option Addr) (n c : Nat) (xs : List Int) (w : World) (hB : By w p n c xs) (h1 : 1 ≤ n) (h2 : n ≤ 100) (hdg : digB (xs.getD 0 0) = true) :
  Calls Tryz.prog 76 #[.slice p n c] w fun e w' => e = .returned (.bool (symTextB xs)) ∧ w' = w := by
 have HF : Hid (symTextB xs = false) := symText_dig hdg
 obtain ⟨b, o, rfl, g⟩ := hB.cells (by omega)
 have g0 := g 0 (by omega)
 rw [Nat.add_zero] at g0
 generalize hx : xs.getD 0 0 = x0 at g0 hdg
 clear g hB hx
 have hd : decide ((n : Int) < 1) = false := by simp; omega
 have hd' : decide ((100 : Int) < n) = false := by simp; omega
 go_enter Tryz.func76, Tryz.ntmps76
 go_wp2_with (go_at_call 127; refine (digit48 x0 _).mono ?_; rintro e w' ⟨rfl, rfl⟩; rw [hdg])
 go_ret
 exact ⟨ret_bool HF.out.symm, rfl⟩
set_option maxHeartbeats 400000 in
theorem symbol38_num (p : Option Addr) (n c : Nat) (xs : List Int) (w : World) (hB : By w p n c xs) (h1 : 1 ≤ n) (h2 : n ≤ 100) (hdg : digB (xs.getD 0 0) = false) (hnum : numB xs = true) :
  Calls Tryz.prog 76 #[.slice p n c] w fun e w' => e = .returned (.bool (symTextB xs)) ∧ w' = w := by
 have HF : Hid (symTextB xs = false) := symText_num hnum
 have HB : Hid (By w p n c xs) := hB
 obtain ⟨b, o, rfl, g⟩ := hB.cells (by omega)
 have g0 := g 0 (by omega)
 rw [Nat.add_zero] at g0
 generalize hx : xs.getD 0 0 = x0 at g0 hdg
 clear g hB hx
 have hd : decide ((n : Int) < 1) = false := by simp; omega
 have hd' : decide ((100 : Int) < n) = false := by simp; omega
 go_enter Tryz.func76, Tryz.ntmps76
 go_wp2_with (first | (go_at_call 127; refine (digit48 x0 _).mono ?_; rintro e w' ⟨rfl, rfl⟩; rw [hdg]) | (go_at_call 128; refine (number49 _ _ _ xs _ HB.out).mono ?_; rintro e w' ⟨rfl, rfl⟩; rw [hnum]))
 go_ret
 exact ⟨ret_bool HF.out.symm, rfl⟩
set_option maxHeartbeats 400000 in
theorem symbol38_loop (p : Option Addr) (n c : Nat) (xs : List Int) (w : World) (hB : By w p n c xs) (h1 : 1 ≤ n) (h2 : n ≤ 100) (hdg : digB (xs.getD 0 0) = false) (hnum : numB xs = false) :
  Calls Tryz.prog 76 #[.slice p n c] w fun e w' => e = .returned (.bool (symTextB xs)) ∧ w' = w := by
 have HB : Hid (By w p n c xs) := hB
 have hl : Hid (xs.length = n) := hB.len
 have HD : Hid (digB (xs.getD 0 0) = false) := hdg
 obtain ⟨b, o, rfl, g⟩ := hB.cells (by omega)
 have HC : Hid (∀ i, i < n → w.cell? ⟨b, o + i, none⟩ = some (.int .u8 (xs.getD i 0))) := g
 have g0 := g 0 (by omega)
 rw [Nat.add_zero] at g0
 generalize hx : xs.getD 0 0 = x0 at g0 hdg
 clear g hB hx
 have hd : decide ((n : Int) < 1) = false := by simp; omega
 have hd' : decide ((100 : Int) < n) = false := by simp; omega
 go_enter Tryz.func76, Tryz.ntmps76
 go_wp2_with (first | (go_at_call 127; refine (digit48 x0 _).mono ?_; rintro e w' ⟨rfl, rfl⟩; rw [hdg]) | (go_at_call 128; refine (number49 _ _ _ xs _ HB.out).mono ?_; rintro e w' ⟨rfl, rfl⟩; rw [hnum]))
 go_loop [3] (fun i => ∃ k : Nat, k ≤ n ∧ i = .int .i64 k ∧ Hid (∀ j, j < k → symB (xs.getD j 0) = true)) (fun i => n - (intOf i).toNat)
 case atStart => exact ⟨0, Nat.zero_le _, rfl, fun j hj => absurd hj (Nat.not_lt_zero j)⟩
 case round =>
  obtain ⟨k, hk, rfl, hn⟩ := hrel
  by_cases hlt : k < n
  ·have gk := HC.out k hlt
   obtain ⟨bd, hbd⟩ : ∃ bd, symB (xs.getD k 0) = bd := ⟨_, rfl⟩
   generalize hxk : xs.getD k 0 = xk at gk hbd
   have HXK : Hid (xs.getD k 0 = xk) := hxk
   clear hxk
   cases bd
   ·go_wp2_with (go_at_call 129; refine (byte50 xk _).mono ?_; rintro e w' ⟨rfl, rfl⟩; rw [hbd])
    go_ret
    exact ⟨ret_bool (symText_bad (by rw [hl.out]; exact hlt) (by rw [HXK.out]; exact hbd)).symm, rfl⟩
   ·go_wp2_with (go_at_call 129; refine (byte50 xk _).mono ?_; rintro e w' ⟨rfl, rfl⟩; rw [hbd])
    refine ⟨⟨k + 1, by omega, by go_num, fun j hj => ?_⟩, by simp [intOf]; omega⟩
    by_cases e : j < k
    ·exact hn.out j e
    ·rw [show j = k by omega, HXK.out]; exact hbd
  ·have : k = n := by omega
   subst this
   go_wp2
   go_ret
   exact ⟨ret_bool (symText_good (by rw [hl.out]; exact h1) (by rw [hl.out]; exact h2) HD.out hnum (fun j hj => hn.out j (by rw [← hl.out]; exact hj))).symm, rfl⟩
theorem symbol38 (p : Option Addr) (n c : Nat) (xs : List Int) (w : World) (hB : By w p n c xs) :
  Calls Tryz.prog 76 #[.slice p n c] w fun e w' => e = .returned (.bool (symTextB xs)) ∧ w' = w := by
 by_cases h1 : n < 1
 ·exact symbol38_short p n c xs w hB.len h1
 by_cases h2 : 100 < n
 ·exact symbol38_long p n c xs w hB.len h2
 cases h3 : digB (xs.getD 0 0)
 ·cases h4 : numB xs
  ·exact symbol38_loop p n c xs w hB (by omega) (by omega) h3 h4
  ·exact symbol38_num p n c xs w hB (by omega) (by omega) h3 h4
 ·exact symbol38_dig p n c xs w hB (by omega) (by omega) h3
set_option maxHeartbeats 400000 in
theorem symbol41_short (p : Option Addr) (n c : Nat) (xs : List Int) (w : World) (hl : xs.length = n) (h : n < 1) :
  Calls Tryz.prog 144 #[.slice p n c] w fun e w' => e = .returned (.bool (symTextB xs)) ∧ Below w.heap.size w w' := by
 have HF : Hid (symTextB xs = false) := symText_short (by omega)
 obtain rfl : n = 0 := by omega
 clear hl
 go_enter Tryz.func144, Tryz.ntmps144
 go_wp2
 go_ret
 exact ⟨ret_bool HF.out.symm, Below.refl _ _⟩
set_option maxHeartbeats 400000 in
theorem symbol41_long (p : Option Addr) (n c : Nat) (xs : List Int) (w : World) (hl : xs.length = n) (h : 100 < n) :
  Calls Tryz.prog 144 #[.slice p n c] w fun e w' => e = .returned (.bool (symTextB xs)) ∧ Below w.heap.size w w' := by
 have HF : Hid (symTextB xs = false) := symText_long (by omega)
 have hd : ((n : Int) == 0) = false := beq_eq_false_iff_ne.2 (by omega)
 have hd' : decide ((100 : Int) < n) = true := by simp; omega
 clear hl
 go_enter Tryz.func144, Tryz.ntmps144
 go_wp2
 go_ret
 exact ⟨ret_bool HF.out.symm, Below.refl _ _⟩
theorem symText_rest {xs : List Int} (h1 : 1 ≤ xs.length) (h2 : xs.length ≤ 100) (h : ∀ j, j < xs.length → symB (xs.getD j 0) = true) : symTextB xs = (!digB (xs.getD 0 0) && !numB xs) := by
 unfold symTextB; rw [all_getD h, decide_eq_true h1, decide_eq_true h2]; simp
set_option maxHeartbeats 400000 in
theorem symbol41_loop (p : Option Addr) (n c : Nat) (xs : List Int) (w : World) (hB : By w p n c xs) (h1 : 1 ≤ n) (h2 : n ≤ 100) :
  Calls Tryz.prog 144 #[.slice p n c] w fun e w' => e = .returned (.bool (symTextB xs)) ∧ Below w.heap.size w w' := by
 have HB : Hid (By w p n c xs) := hB
 have hl : Hid (xs.length = n) := hB.len
 obtain ⟨b, o, rfl, g⟩ := hB.cells (by omega)
 have HC : Hid (∀ i, i < n → w.cell? ⟨b, o + i, none⟩ = some (.int .u8 (xs.getD i 0))) := g
 clear g hB
 have hd : ((n : Int) == 0) = false := beq_eq_false_iff_ne.2 (by omega)
 have hd' : decide ((100 : Int) < n) = false := by simp; omega
 go_enter Tryz.func144, Tryz.ntmps144
 go_wp2
 go_loop [15] (fun i => ∃ k : Nat, k ≤ n ∧ i = .int .i64 k ∧ Hid (∀ j, j < k → symB (xs.getD j 0) = true)) (fun i => n - (intOf i).toNat)
 case atStart => exact ⟨0, Nat.zero_le _, rfl, fun j hj => absurd hj (Nat.not_lt_zero j)⟩
 case round =>
  obtain ⟨k, hk, rfl, hn⟩ := hrel
  by_cases hlt : k < n
  ·have gk := HC.out k hlt
   have hr := HB.out.rng k
   obtain ⟨bd, hbd⟩ : ∃ bd, symB (xs.getD k 0) = bd := ⟨_, rfl⟩
   generalize hxk : xs.getD k 0 = xk at gk hbd hr
   have HXK : Hid (xs.getD k 0 = xk) := hxk
   clear hxk
   cases bd
   ·go_wp2_with (go_at_call 176; refine (symbol51 xk hr.1 hr.2 _).mono ?_; rintro e w' ⟨rfl, rfl⟩; rw [hbd])
    go_ret
    exact ⟨ret_bool (symText_bad (by rw [hl.out]; exact hlt) (by rw [HXK.out]; exact hbd)).symm, Below.refl _ _⟩
   ·go_wp2_with (go_at_call 176; refine (symbol51 xk hr.1 hr.2 _).mono ?_; rintro e w' ⟨rfl, rfl⟩; rw [hbd])
    refine ⟨⟨k + 1, by omega, by go_num, fun j hj => ?_⟩, by simp [intOf]; omega⟩
    by_cases e : j < k
    ·exact hn.out j e
    ·rw [show j = k by omega, HXK.out]; exact hbd
  ·have : k = n := by omega
   subst this
   have HS : Hid (symTextB xs = (!digB (xs.getD 0 0) && !numB xs)) := symText_rest (by rw [hl.out]; exact h1) (by rw [hl.out]; exact h2) (fun j hj => hn.out j (by rw [← hl.out]; exact hj))
   have g0 := HC.out 0 (by omega)
   rw [Nat.add_zero] at g0
   clear hn
   obtain ⟨bd, hbd⟩ : ∃ bd, digB (xs.getD 0 0) = bd := ⟨_, rfl⟩
   generalize hxk : xs.getD 0 0 = x0 at g0 hbd HS
   clear hxk
   cases bd
   ·go_wp2_with (first | (go_at_call 177; refine (digit52 x0 _).mono ?_; rintro e w' ⟨rfl, rfl⟩; rw [hbd]) | (go_at_call 178; refine (number53 _ _ _ xs _ HB.out).mono ?_; rintro e w' ⟨rfl, hbel⟩))
    go_ret
    exact ⟨ret_bool (by rw [HS.out, hbd]; simp), hbel⟩
   ·go_wp2_with (go_at_call 177; refine (digit52 x0 _).mono ?_; rintro e w' ⟨rfl, rfl⟩; rw [hbd])
    go_ret
    exact ⟨ret_bool (by rw [HS.out, hbd]; simp), Below.refl _ _⟩
theorem symbol41 (p : Option Addr) (n c : Nat) (xs : List Int) (w : World) (hB : By w p n c xs) :
  Calls Tryz.prog 144 #[.slice p n c] w fun e w' => e = .returned (.bool (symTextB xs)) ∧ Below w.heap.size w w' := by
 by_cases h1 : n < 1
 ·exact symbol41_short p n c xs w hB.len h1
 by_cases h2 : 100 < n
 ·exact symbol41_long p n c xs w hB.len h2
 exact symbol41_loop p n c xs w hB (by omega) (by omega)
theorem nat_beq0 (n : Nat) : ((n : Int) == 0) = decide (n = 0) := by rw [Bool.eq_iff_iff]; simp
theorem good_int (n count : Int) (t : List Int) (tn : Nat) (hl : t.length = tn) : goodB ⟨0, n, t, count⟩ = (smallB n && ((tn : Int) == 0) && (count == 0)) := by
 simp [goodB, hl, nat_beq0]; rfl
theorem good_bool (n count : Int) (t : List Int) (tn : Nat) (hl : t.length = tn) : goodB ⟨1, n, t, count⟩ = (((n == 0) || (n == 1)) && ((tn : Int) == 0) && (count == 0)) := by
 simp [goodB, hl, nat_beq0]; rfl
theorem good_sym (n count : Int) (t : List Int) : goodB ⟨2, n, t, count⟩ = ((n == 0) && symTextB t && (count == 0)) := by
 simp [goodB]; rfl
theorem good_list (n count : Int) (t : List Int) (tn : Nat) (hl : t.length = tn) : goodB ⟨3, n, t, count⟩ = ((n == 0) && ((tn : Int) == 0) && decide (0 ≤ count)) := by
 simp [goodB, hl, nat_beq0]; rfl
theorem good_other (kind n count : Int) (t : List Int) (h0 : (kind == 0) = false) (h1 : (kind == 1) = false) (h2 : (kind == 2) = false) (h3 : (kind == 3) = false) : goodB ⟨kind, n, t, count⟩ = false := by
 rw [beq_eq_false_iff_ne] at h0 h1 h2 h3
 simp [goodB, h0, h1, h2, h3]
set_option maxHeartbeats 1000000 in
theorem alone31_int (n count : Int) (p : Option Addr) (tn tc : Nat) (t : List Int) (w : World) (hB : By w p tn tc t) :
  Calls Tryz.prog 87 #[.agg #[.int .i64 0, .int .i64 n, .slice p tn tc, .int .i64 count]] w fun e w' => e = .returned (.bool (goodB ⟨0, n, t, count⟩)) ∧ Below w.heap.size w w' := by
 have HF : Hid (goodB ⟨0, n, t, count⟩ = (smallB n && ((tn : Int) == 0) && (count == 0))) := good_int n count t tn hB.len
 clear hB
 obtain ⟨b1, h1⟩ : ∃ b, smallB n = b := ⟨_, rfl⟩
 obtain ⟨b2, h2⟩ : ∃ b, ((tn : Int) == 0) = b := ⟨_, rfl⟩
 obtain ⟨b3, h3⟩ : ∃ b, (count == 0) = b := ⟨_, rfl⟩
 cases b1
 ·go_enter Tryz.func87, Tryz.ntmps87
  go_wp2_with (go_at_call 143; refine (small40 n _).mono ?_; rintro e w' ⟨rfl, rfl⟩; rw [h1])
  go_ret
  exact ⟨ret_bool (by rw [HF.out, h1]; simp), (Below.refl _ _).alloc (Nat.le_refl _) _⟩
 ·cases b2
  ·go_enter Tryz.func87, Tryz.ntmps87
   go_wp2_with (go_at_call 143; refine (small40 n _).mono ?_; rintro e w' ⟨rfl, rfl⟩; rw [h1])
   go_ret
   exact ⟨ret_bool (by rw [HF.out, h2]; simp), (Below.refl _ _).alloc (Nat.le_refl _) _⟩
  ·go_enter Tryz.func87, Tryz.ntmps87
   go_wp2_with (go_at_call 143; refine (small40 n _).mono ?_; rintro e w' ⟨rfl, rfl⟩; rw [h1])
   go_ret
   exact ⟨ret_bool (by rw [HF.out, h1, h2]; simp [h3]), (Below.refl _ _).alloc (Nat.le_refl _) _⟩
theorem bcell {W w1 : World} (hb : Below W.heap.size W w1) : (∀ b o, b < W.heap.size → w1.cell? ⟨b, o, none⟩ = W.cell? ⟨b, o, none⟩) ∧ (∀ b o, b < W.heap.size → w1.frozen? ⟨b, o, none⟩ = W.frozen? ⟨b, o, none⟩) :=
 ⟨fun b o h => hb.cell (p := ⟨b, o, none⟩) h, fun b o h => hb.frozen (p := ⟨b, o, none⟩) h⟩
set_option maxHeartbeats 1000000 in
theorem alone31_bool (n count : Int) (p : Option Addr) (tn tc : Nat) (t : List Int) (w : World) (hB : By w p tn tc t) :
  Calls Tryz.prog 87 #[.agg #[.int .i64 1, .int .i64 n, .slice p tn tc, .int .i64 count]] w fun e w' => e = .returned (.bool (goodB ⟨1, n, t, count⟩)) ∧ Below w.heap.size w w' := by
 have HF : Hid (goodB ⟨1, n, t, count⟩ = (((n == 0) || (n == 1)) && ((tn : Int) == 0) && (count == 0))) := good_bool n count t tn hB.len
 clear hB
 obtain ⟨b1, h1⟩ : ∃ b, (n == 0) = b := ⟨_, rfl⟩
 obtain ⟨b4, h4⟩ : ∃ b, (n == 1) = b := ⟨_, rfl⟩
 obtain ⟨b2, h2⟩ : ∃ b, ((tn : Int) == 0) = b := ⟨_, rfl⟩
 obtain ⟨b3, h3⟩ : ∃ b, (count == 0) = b := ⟨_, rfl⟩
 cases b1
 ·cases b4
  ·go_enter Tryz.func87, Tryz.ntmps87
   go_wp2
   go_ret
   exact ⟨ret_bool (by rw [HF.out, h1, h4]; simp), (Below.refl _ _).alloc (Nat.le_refl _) _⟩
  ·cases b2
   ·go_enter Tryz.func87, Tryz.ntmps87
    go_wp2
    go_ret
    exact ⟨ret_bool (by rw [HF.out, h2]; simp), (Below.refl _ _).alloc (Nat.le_refl _) _⟩
   ·go_enter Tryz.func87, Tryz.ntmps87
    go_wp2
    go_ret
    exact ⟨ret_bool (by rw [HF.out, h1, h4, h2]; simp [h3]), (Below.refl _ _).alloc (Nat.le_refl _) _⟩
 ·clear h4
  cases b2
  ·go_enter Tryz.func87, Tryz.ntmps87
   go_wp2
   go_ret
   exact ⟨ret_bool (by rw [HF.out, h2]; simp), (Below.refl _ _).alloc (Nat.le_refl _) _⟩
  ·go_enter Tryz.func87, Tryz.ntmps87
   go_wp2
   go_ret
   exact ⟨ret_bool (by rw [HF.out, h1, h2]; simp [h3]), (Below.refl _ _).alloc (Nat.le_refl _) _⟩
set_option maxHeartbeats 1000000 in
theorem alone31_list (n count : Int) (p : Option Addr) (tn tc : Nat) (t : List Int) (w : World) (hB : By w p tn tc t) :
  Calls Tryz.prog 87 #[.agg #[.int .i64 3, .int .i64 n, .slice p tn tc, .int .i64 count]] w fun e w' => e = .returned (.bool (goodB ⟨3, n, t, count⟩)) ∧ Below w.heap.size w w' := by
 have HF : Hid (goodB ⟨3, n, t, count⟩ = ((n == 0) && ((tn : Int) == 0) && decide (0 ≤ count))) := good_list n count t tn hB.len
 clear hB
 obtain ⟨b1, h1⟩ : ∃ b, (n == 0) = b := ⟨_, rfl⟩
 obtain ⟨b2, h2⟩ : ∃ b, ((tn : Int) == 0) = b := ⟨_, rfl⟩
 cases b1
 ·go_enter Tryz.func87, Tryz.ntmps87
  go_wp2
  go_ret
  exact ⟨ret_bool (by rw [HF.out, h1]; simp), (Below.refl _ _).alloc (Nat.le_refl _) _⟩
 ·cases b2
  ·go_enter Tryz.func87, Tryz.ntmps87
   go_wp2
   go_ret
   exact ⟨ret_bool (by rw [HF.out, h2]; simp), (Below.refl _ _).alloc (Nat.le_refl _) _⟩
  ·go_enter Tryz.func87, Tryz.ntmps87
   go_wp2
   go_ret
   exact ⟨ret_bool (by rw [HF.out, h1, h2]; simp), (Below.refl _ _).alloc (Nat.le_refl _) _⟩
set_option maxHeartbeats 1000000 in
theorem alone31_other (kind n count : Int) (p : Option Addr) (tn tc : Nat) (t : List Int) (w : World) (h0 : (kind == 0) = false) (h1 : (kind == 1) = false) (h2 : (kind == 2) = false) (h3 : (kind == 3) = false) :
  Calls Tryz.prog 87 #[.agg #[.int .i64 kind, .int .i64 n, .slice p tn tc, .int .i64 count]] w fun e w' => e = .returned (.bool (goodB ⟨kind, n, t, count⟩)) ∧ Below w.heap.size w w' := by
 have HF : Hid (goodB ⟨kind, n, t, count⟩ = false) := good_other kind n count t h0 h1 h2 h3
 go_enter Tryz.func87, Tryz.ntmps87
 go_wp2
 go_ret
 exact ⟨ret_bool HF.out.symm, (Below.refl _ _).alloc (Nat.le_refl _) _⟩
set_option maxHeartbeats 1000000 in
theorem alone31_sym (n count : Int) (p : Option Addr) (tn tc : Nat) (t : List Int) (w : World) (hB : By w p tn tc t) :
  Calls Tryz.prog 87 #[.agg #[.int .i64 2, .int .i64 n, .slice p tn tc, .int .i64 count]] w fun e w' => e = .returned (.bool (goodB ⟨2, n, t, count⟩)) ∧ Below w.heap.size w w' := by
 have HF : Hid (goodB ⟨2, n, t, count⟩ = ((n == 0) && symTextB t && (count == 0))) := good_sym n count t
 have HB : Hid (By w p tn tc t) := hB
 clear hB
 obtain ⟨b1, h1⟩ : ∃ b, (n == 0) = b := ⟨_, rfl⟩
 obtain ⟨b2, h2⟩ : ∃ b, symTextB t = b := ⟨_, rfl⟩
 cases b1
 ·go_enter Tryz.func87, Tryz.ntmps87
  go_wp2
  go_ret
  exact ⟨ret_bool (by rw [HF.out, h1]; simp), (Below.refl _ _).alloc (Nat.le_refl _) _⟩
 ·cases b2
  ·go_enter Tryz.func87, Tryz.ntmps87
   go_wp2_with (go_at_call 144; refine (symbol41 _ _ _ t _ (by exact HB.out.below ((Below.refl _ w).alloc (Nat.le_refl _) _))).mono ?_; rintro e w1 ⟨rfl, hb1⟩; rw [h2]; have hz := hb1.size; obtain ⟨hc1, hf1⟩ := bcell hb1)
   go_ret
   exact ⟨ret_bool (by rw [HF.out, h2]; simp), ((Below.refl _ w).alloc (Nat.le_refl _) _).trans (hb1.mono (by simp))⟩
  ·go_enter Tryz.func87, Tryz.ntmps87
   go_wp2_with (go_at_call 144; refine (symbol41 _ _ _ t _ (by exact HB.out.below ((Below.refl _ w).alloc (Nat.le_refl _) _))).mono ?_; rintro e w1 ⟨rfl, hb1⟩; rw [h2]; have hz := hb1.size; obtain ⟨hc1, hf1⟩ := bcell hb1)
   go_ret
   exact ⟨ret_bool (by rw [HF.out, h1, h2]; simp), ((Below.refl _ w).alloc (Nat.le_refl _) _).trans (hb1.mono (by simp))⟩
theorem bne_of_beq {a b : Int} {x : Bool} (h : (a == b) = x) : (a != b) = !x := by rw [← h]; rfl
set_option maxHeartbeats 1000000 in
theorem good29_int (n count : Int) (p : Option Addr) (tn tc : Nat) (t : List Int) (w : World) (hB : By w p tn tc t) :
  Calls Tryz.prog 37 #[.agg #[.int .i64 0, .int .i64 n, .slice p tn tc, .int .i64 count]] w fun e w' => e = .returned (.bool (goodB ⟨0, n, t, count⟩)) ∧ Below w.heap.size w w' := by
 have HF : Hid (goodB ⟨0, n, t, count⟩ = (smallB n && ((tn : Int) == 0) && (count == 0))) := good_int n count t tn hB.len
 clear hB
 obtain ⟨b2, h2⟩ : ∃ b, ((tn : Int) == 0) = b := ⟨_, rfl⟩
 obtain ⟨b3, h3⟩ : ∃ b, (count == 0) = b := ⟨_, rfl⟩
 have h2' := bne_of_beq h2
 have h3' := bne_of_beq h3
 cases b3
 ·simp only [Bool.not_false] at h3'
  go_enter Tryz.func37, Tryz.ntmps37
  go_wp2
  go_ret
  exact ⟨ret_bool (by rw [HF.out, h3]; simp), (Below.refl _ _).alloc (Nat.le_refl _) _⟩
 ·simp only [Bool.not_true] at h3'
  cases b2
  ·simp only [Bool.not_false] at h2'
   go_enter Tryz.func37, Tryz.ntmps37
   go_wp2
   go_ret
   exact ⟨ret_bool (by rw [HF.out, h2]; simp), (Below.refl _ _).alloc (Nat.le_refl _) _⟩
  ·simp only [Bool.not_true] at h2'
   go_enter Tryz.func37, Tryz.ntmps37
   go_wp2_with (go_at_call 77; refine (small39 n _).mono ?_; rintro e w' ⟨rfl, rfl⟩)
   go_ret
   exact ⟨ret_bool (by rw [HF.out, h3, h2]; simp), (Below.refl _ _).alloc (Nat.le_refl _) _⟩
set_option maxHeartbeats 1000000 in
theorem good29_bool (n count : Int) (p : Option Addr) (tn tc : Nat) (t : List Int) (w : World) (hB : By w p tn tc t) :
  Calls Tryz.prog 37 #[.agg #[.int .i64 1, .int .i64 n, .slice p tn tc, .int .i64 count]] w fun e w' => e = .returned (.bool (goodB ⟨1, n, t, count⟩)) ∧ Below w.heap.size w w' := by
 have HF : Hid (goodB ⟨1, n, t, count⟩ = (((n == 0) || (n == 1)) && ((tn : Int) == 0) && (count == 0))) := good_bool n count t tn hB.len
 clear hB
 obtain ⟨b1, h1⟩ : ∃ b, (n == 0) = b := ⟨_, rfl⟩
 obtain ⟨b2, h2⟩ : ∃ b, ((tn : Int) == 0) = b := ⟨_, rfl⟩
 obtain ⟨b3, h3⟩ : ∃ b, (count == 0) = b := ⟨_, rfl⟩
 have h2' := bne_of_beq h2
 have h3' := bne_of_beq h3
 cases b3
 ·simp only [Bool.not_false] at h3'
  go_enter Tryz.func37, Tryz.ntmps37
  go_wp2
  go_ret
  exact ⟨ret_bool (by rw [HF.out, h3]; simp), (Below.refl _ _).alloc (Nat.le_refl _) _⟩
 ·simp only [Bool.not_true] at h3'
  cases b2
  ·simp only [Bool.not_false] at h2'
   go_enter Tryz.func37, Tryz.ntmps37
   go_wp2
   go_ret
   exact ⟨ret_bool (by rw [HF.out, h2]; simp), (Below.refl _ _).alloc (Nat.le_refl _) _⟩
  ·simp only [Bool.not_true] at h2'
   cases b1
   ·go_enter Tryz.func37, Tryz.ntmps37
    go_wp2
    go_ret
    exact ⟨ret_bool (by rw [HF.out, h3, h2, h1]; simp), (Below.refl _ _).alloc (Nat.le_refl _) _⟩
   ·go_enter Tryz.func37, Tryz.ntmps37
    go_wp2
    go_ret
    exact ⟨ret_bool (by rw [HF.out, h3, h2, h1]; simp), (Below.refl _ _).alloc (Nat.le_refl _) _⟩
set_option maxHeartbeats 1000000 in
theorem good29_list (n count : Int) (p : Option Addr) (tn tc : Nat) (t : List Int) (w : World) (hB : By w p tn tc t) :
  Calls Tryz.prog 37 #[.agg #[.int .i64 3, .int .i64 n, .slice p tn tc, .int .i64 count]] w fun e w' => e = .returned (.bool (goodB ⟨3, n, t, count⟩)) ∧ Below w.heap.size w w' := by
 have HF : Hid (goodB ⟨3, n, t, count⟩ = ((n == 0) && ((tn : Int) == 0) && decide (0 ≤ count))) := good_list n count t tn hB.len
 clear hB
 obtain ⟨b1, h1⟩ : ∃ b, (n == 0) = b := ⟨_, rfl⟩
 obtain ⟨b2, h2⟩ : ∃ b, ((tn : Int) == 0) = b := ⟨_, rfl⟩
 have h2' := bne_of_beq h2
 cases b2
 ·simp only [Bool.not_false] at h2'
  go_enter Tryz.func37, Tryz.ntmps37
  go_wp2
  go_ret
  exact ⟨ret_bool (by rw [HF.out, h2]; simp), (Below.refl _ _).alloc (Nat.le_refl _) _⟩
 ·simp only [Bool.not_true] at h2'
  cases b1
  ·go_enter Tryz.func37, Tryz.ntmps37
   go_wp2
   go_ret
   exact ⟨ret_bool (by rw [HF.out, h1]; simp), (Below.refl _ _).alloc (Nat.le_refl _) _⟩
  ·go_enter Tryz.func37, Tryz.ntmps37
   go_wp2
   go_ret
   exact ⟨ret_bool (by rw [HF.out, h1, h2]; simp), (Below.refl _ _).alloc (Nat.le_refl _) _⟩
set_option maxHeartbeats 1000000 in
theorem good29_other (kind n count : Int) (p : Option Addr) (tn tc : Nat) (t : List Int) (w : World) (h0 : (kind == 0) = false) (h1 : (kind == 1) = false) (h2 : (kind == 2) = false) (h3 : (kind == 3) = false) :
  Calls Tryz.prog 37 #[.agg #[.int .i64 kind, .int .i64 n, .slice p tn tc, .int .i64 count]] w fun e w' => e = .returned (.bool (goodB ⟨kind, n, t, count⟩)) ∧ Below w.heap.size w w' := by
 have HF : Hid (goodB ⟨kind, n, t, count⟩ = false) := good_other kind n count t h0 h1 h2 h3
 have h3' : (kind != 3) = true := by rw [bne_of_beq h3]; rfl
 obtain ⟨b4, h4⟩ : ∃ b, ((tn : Int) != 0) = b := ⟨_, rfl⟩
 obtain ⟨b5, h5⟩ : ∃ b, (count != 0) = b := ⟨_, rfl⟩
 cases b5
 ·cases b4
  ·go_enter Tryz.func37, Tryz.ntmps37
   go_wp2
   go_ret
   exact ⟨ret_bool HF.out.symm, (Below.refl _ _).alloc (Nat.le_refl _) _⟩
  ·go_enter Tryz.func37, Tryz.ntmps37
   go_wp2
   go_ret
   exact ⟨ret_bool HF.out.symm, (Below.refl _ _).alloc (Nat.le_refl _) _⟩
 ·go_enter Tryz.func37, Tryz.ntmps37
  go_wp2
  go_ret
  exact ⟨ret_bool HF.out.symm, (Below.refl _ _).alloc (Nat.le_refl _) _⟩
set_option maxHeartbeats 1000000 in
theorem good29_sym (n count : Int) (p : Option Addr) (tn tc : Nat) (t : List Int) (w : World) (hB : By w p tn tc t) :
  Calls Tryz.prog 37 #[.agg #[.int .i64 2, .int .i64 n, .slice p tn tc, .int .i64 count]] w fun e w' => e = .returned (.bool (goodB ⟨2, n, t, count⟩)) ∧ Below w.heap.size w w' := by
 have HF : Hid (goodB ⟨2, n, t, count⟩ = ((n == 0) && symTextB t && (count == 0))) := good_sym n count t
 have HB : Hid (By w p tn tc t) := hB
 clear hB
 obtain ⟨b1, h1⟩ : ∃ b, (n == 0) = b := ⟨_, rfl⟩
 obtain ⟨b3, h3⟩ : ∃ b, (count == 0) = b := ⟨_, rfl⟩
 have h3' := bne_of_beq h3
 cases b3
 ·simp only [Bool.not_false] at h3'
  go_enter Tryz.func37, Tryz.ntmps37
  go_wp2
  go_ret
  exact ⟨ret_bool (by rw [HF.out, h3]; simp), (Below.refl _ _).alloc (Nat.le_refl _) _⟩
 ·simp only [Bool.not_true] at h3'
  cases b1
  ·go_enter Tryz.func37, Tryz.ntmps37
   go_wp2
   go_ret
   exact ⟨ret_bool (by rw [HF.out, h1]; simp), (Below.refl _ _).alloc (Nat.le_refl _) _⟩
  ·go_enter Tryz.func37, Tryz.ntmps37
   go_wp2_with (go_at_call 76; refine (symbol38 _ _ _ t _ (by exact HB.out.below ((Below.refl _ w).alloc (Nat.le_refl _) _))).mono ?_; rintro e w1 ⟨rfl, hw1⟩; have hw2 := hw1.symm; clear hw1; subst hw2)
   go_ret
   exact ⟨ret_bool (by rw [HF.out, h1, h3]; simp), (Below.refl _ _).alloc (Nat.le_refl _) _⟩
theorem good29 (d : Dt) (p : Option Addr) (tn tc : Nat) (w : World) (hB : By w p tn tc d.text) :
  Calls Tryz.prog 37 #[.agg #[.int .i64 d.kind, .int .i64 d.n, .slice p tn tc, .int .i64 d.count]] w fun e w' => e = .returned (.bool (goodB d)) ∧ Below w.heap.size w w' := by
 obtain ⟨kind, n, t, count⟩ := d
 by_cases h0 : kind = 0
 ·subst h0; exact good29_int n count p tn tc t w hB
 by_cases h1 : kind = 1
 ·subst h1; exact good29_bool n count p tn tc t w hB
 by_cases h2 : kind = 2
 ·subst h2; exact good29_sym n count p tn tc t w hB
 by_cases h3 : kind = 3
 ·subst h3; exact good29_list n count p tn tc t w hB
 exact good29_other kind n count p tn tc t w (beq_eq_false_iff_ne.2 h0) (beq_eq_false_iff_ne.2 h1) (beq_eq_false_iff_ne.2 h2) (beq_eq_false_iff_ne.2 h3)
theorem alone31 (d : Dt) (p : Option Addr) (tn tc : Nat) (w : World) (hB : By w p tn tc d.text) :
  Calls Tryz.prog 87 #[.agg #[.int .i64 d.kind, .int .i64 d.n, .slice p tn tc, .int .i64 d.count]] w fun e w' => e = .returned (.bool (goodB d)) ∧ Below w.heap.size w w' := by
 obtain ⟨kind, n, t, count⟩ := d
 by_cases h0 : kind = 0
 ·subst h0; exact alone31_int n count p tn tc t w hB
 by_cases h1 : kind = 1
 ·subst h1; exact alone31_bool n count p tn tc t w hB
 by_cases h2 : kind = 2
 ·subst h2; exact alone31_sym n count p tn tc t w hB
 by_cases h3 : kind = 3
 ·subst h3; exact alone31_list n count p tn tc t w hB
 exact alone31_other kind n count p tn tc t w (beq_eq_false_iff_ne.2 h0) (beq_eq_false_iff_ne.2 h1) (beq_eq_false_iff_ne.2 h2) (beq_eq_false_iff_ne.2 h3)
structure El (w : World) (b o : Nat) (d : Dt) (tp : Option Addr) (tn tc : Nat) : Prop where
 c0 : w.cell? ⟨b, o, none⟩ = some (.int .i64 d.kind)
 c1 : w.cell? ⟨b, o + 1, none⟩ = some (.int .i64 d.n)
 c2 : w.cell? ⟨b, o + 2, none⟩ = some (.slice tp tn tc)
 c3 : w.cell? ⟨b, o + 3, none⟩ = some (.int .i64 d.count)
 by_ : By w tp tn tc d.text
 lo : -9223372036854775808 ≤ d.count
 hi : d.count ≤ 9223372036854775807
structure Da (w : World) (p : Option Addr) (n c : Nat) (ds : List Dt) : Prop where
 len : ds.length = n
 cap : n ≤ c
 big : c ≤ maxLen
 cells : 0 < n → ∃ b o, p = some ⟨b, o, none⟩ ∧ b < w.heap.size ∧ ∀ i, i < n → ∃ tp tn tc, El w b (o + i * 4) (ds.getD i dt0) tp tn tc
theorem El.below {w w' : World} {b o : Nat} {d : Dt} {tp : Option Addr} {tn tc : Nat} (h : El w b o d tp tn tc) (hlt : b < w.heap.size) (hb : Below w.heap.size w w') : El w' b o d tp tn tc :=
 ⟨by rw [hb.cell (p := ⟨b, o, none⟩) hlt]; exact h.c0, by rw [hb.cell (p := ⟨b, o + 1, none⟩) hlt]; exact h.c1, by rw [hb.cell (p := ⟨b, o + 2, none⟩) hlt]; exact h.c2, by rw [hb.cell (p := ⟨b, o + 3, none⟩) hlt]; exact h.c3, h.by_.below hb, h.lo, h.hi⟩
theorem Da.below {w w' : World} {p : Option Addr} {n c : Nat} {ds : List Dt} (h : Da w p n c ds) (hb : Below w.heap.size w w') : Da w' p n c ds := by
 refine ⟨h.len, h.cap, h.big, fun hn => ?_⟩
 obtain ⟨b, o, e, hlt, hc⟩ := h.cells hn
 refine ⟨b, o, e, Nat.lt_of_lt_of_le hlt hb.size, fun i hi => ?_⟩
 obtain ⟨tp, tn, tc, he⟩ := hc i hi
 exact ⟨tp, tn, tc, he.below hlt hb⟩
def szOf (left : Int) (n : Nat) : Int := if left - n < 0 then -1 else left - n
set_option maxHeartbeats 400000 in
theorem szDatum15 (k n c : Int) (tp : Option Addr) (tn tc : Nat) (left : Int) (w : World) (hn : tn ≤ 9223372036854775807) (h0 : 0 ≤ left) (h1 : left ≤ 1048576) :
  Calls Tryz.prog 13 #[.agg #[.int .i64 k, .int .i64 n, .slice tp tn tc, .int .i64 c], .int .i64 left] w fun e w' => e = .returned (.int .i64 (szOf left tn)) ∧ Below w.heap.size w w' := by
 by_cases h : left - tn < 0
 ·have HS : Hid (szOf left tn = -1) := by unfold Hid szOf; rw [if_pos h]
  have HI : Hid ((if left - tn < 0 then (-1 : Int) else left - tn) = -1) := if_pos h
  go_enter Tryz.func13, Tryz.ntmps13
  go_wp2_with (go_at_call 25; refine (szByte28 _ _ _ _ _ hn h0 h1).mono ?_; rintro e w' ⟨rfl, rfl⟩; rw [HI.out])
  go_ret
  exact ⟨ret_int HS.out.symm, (Below.refl _ _).alloc (Nat.le_refl _) _⟩
 ·have HS : Hid (szOf left tn = left - tn) := by unfold Hid szOf; rw [if_neg h]
  have HI : Hid ((if left - tn < 0 then (-1 : Int) else left - tn) = left - tn) := if_neg h
  go_enter Tryz.func13, Tryz.ntmps13
  go_wp2_with (go_at_call 25; refine (szByte28 _ _ _ _ _ hn h0 h1).mono ?_; rintro e w' ⟨rfl, rfl⟩; rw [HI.out])
  go_ret
  exact ⟨ret_int HS.out.symm, (Below.refl _ _).alloc (Nat.le_refl _) _⟩
set_option maxHeartbeats 400000 in
theorem szDatumS5 (p : Option Addr) (n c : Nat) (ds : List Dt) (left : Int) (w : World) (hD : Da w p n c ds) (h0 : 0 ≤ left) (h1 : left ≤ 1048576) :
  Calls Tryz.prog 4 #[.slice p n c, .int .i64 left] w fun e w' => ∃ v : Int, e = .returned (.int .i64 v) ∧ (0 ≤ v → (n : Int) ≤ left ∧ ∀ i, i < n → ((ds.getD i dt0).text.length : Int) ≤ left) ∧ Below w.heap.size w w' := by
 have hbig : n ≤ 9223372036854775807 := by have := hD.cap; have := hD.big; unfold maxLen at this; omega
 have HD : Hid (Da w p n c ds) := hD
 clear hD
 by_cases hneg : left - n < 0
 ·go_enter Tryz.func4, Tryz.ntmps4
  go_wp2
  go_ret
  exact ⟨-1, rfl, fun h => by omega, Below.refl _ _⟩
 ·go_enter Tryz.func4, Tryz.ntmps4
  go_wp2
  go_loopw [1, 5] (fun l i wr => ∃ (k : Nat) (v : Int), k ≤ n ∧ i = .int .i64 k ∧ l = .int .i64 v ∧ 0 ≤ v ∧ v ≤ left ∧ Hid (∀ j, j < k → ((ds.getD j dt0).text.length : Int) ≤ left) ∧ Hid (Below w.heap.size w wr)) (fun _ i _ => n - (intOf i).toNat)
  case atStart => exact ⟨0, _, Nat.zero_le _, rfl, rfl, by omega, by omega, fun j hj => absurd hj (Nat.not_lt_zero j), Below.refl _ _⟩
  case round =>
   obtain ⟨k, v, hk, rfl, rfl, hv0, hv1, hn, hb⟩ := hrel
   by_cases hlt : k < n
   ·obtain ⟨b, o, rfl, hbl, g⟩ := HD.out.cells (by omega)
    obtain ⟨tp, tn, tc, he⟩ := g k hlt
    clear g
    have htn : tn ≤ 9223372036854775807 := by have := he.by_.cap; have := he.by_.big; unfold maxLen at this; omega
    have htl : Hid ((ds.getD k dt0).text.length = tn) := he.by_.len
    have he' := he.below (w' := wr) hbl hb.out
    have e0 := he'.c0
    have e1 := he'.c1
    have e2 := he'.c2
    have e3 := he'.c3
    clear he he'
    generalize ds.getD k dt0 = d at e0 e1 e2 e3
    by_cases hs : v - tn < 0
    ·have HS : Hid (szOf v tn = -1) := by unfold Hid szOf; rw [if_pos hs]
     go_wp2_with (go_at_call 13; refine (szDatum15 _ _ _ tp tn tc v _ htn hv0 (by omega)).mono ?_; rintro e w1 ⟨rfl, hb1⟩; rw [HS.out])
     go_ret
     exact ⟨-1, rfl, fun h => by omega, hb.out.trans (hb1.mono hb.out.size)⟩
    ·have HS : Hid (szOf v tn = v - tn) := by unfold Hid szOf; rw [if_neg hs]
     go_wp2_with (go_at_call 13; refine (szDatum15 _ _ _ tp tn tc v _ htn hv0 (by omega)).mono ?_; rintro e w1 ⟨rfl, hb1⟩; rw [HS.out])
     refine ⟨⟨k + 1, _, by omega, by go_num, rfl, by omega, by omega, fun j hj => ?_, hb.out.trans (hb1.mono hb.out.size)⟩, by simp [intOf]; omega⟩
     by_cases e : j < k
     ·exact hn.out j e
     ·rw [show j = k by omega, htl.out]; omega
   ·have : k = n := by omega
    subst this
    go_wp2
    go_ret
    exact ⟨v, rfl, fun _ => ⟨by omega, hn.out⟩, hb.out⟩
theorem By.setCell {w : World} {g n c : Nat} {xs : List Int} (h : By w (some ⟨g, 0, none⟩) n c xs) {a : Addr} (ha : g ≠ a.block) (v : Value) : By (w.setCell a v) (some ⟨g, 0, none⟩) n c xs := by
 refine ⟨h.len, h.cap, h.big, h.rng, fun hn => ?_, fun x hx hn => by have := h.old x hx hn; simpa [World.setCell] using this⟩
 obtain ⟨b, o, e, hc⟩ := h.cells hn
 cases e
 refine ⟨g, 0, rfl, fun i hi => ?_⟩
 rw [World.cell?_of_block (w := w) (Below.heap_setCell w a v g ha)]
 exact hc i hi
theorem below1 (w : World) (o : Obj) : Below w.heap.size w (w.alloc o) := (Below.refl _ w).alloc (Nat.le_refl _) _
theorem below2 (w : World) (o o2 : Obj) : Below w.heap.size w ((w.alloc o).alloc o2) := (below1 w o).alloc (by simp) _
theorem below3 (w : World) (o o2 o3 : Obj) : Below w.heap.size w (((w.alloc o).alloc o2).alloc o3) := (below2 w o o2).alloc (by simp; omega) _
end Go.Proofs.YtnnpfoilojicjaaGreatDoor
