import Derived.Test.YtnnpfoilojicjaaGreatDoorProg
import Derived.Test.YtnnpfoilojicjaaGreatDoorPure
import Derived.Test.YtnnpfoilojicjaaGreatDoorShelf
import Derived.WalkKit
import Derived.WalkSpells
import Derived.WalkLawsBesides
namespace Go.Proofs.YtnnpfoilojicjaaGreatDoor
open Go.RowKit Ch1
theorem ret_bool {a b : Bool} (h : a = b) : Ending.returned (.bool a) = .returned (.bool b) := by rw [h]
theorem ret_int {k : IntKind} {a b : Int} (h : a = b) : Ending.returned (.int k a) = .returned (.int k b) := by rw [h]
set_option maxHeartbeats 400000 in
theorem digit48 (c : Int) (w : World) : Calls Tryz.prog 127 #[.int .u8 c] w fun e w' => e = .returned (.bool (digB c)) ∧ w' = w := by
 unfold digB
 by_cases h1 : 48 ≤ c
 ·go_enter Tryz.func127, Tryz.ntmps127
  go_wp2
  go_ret
  exact ⟨by simp [h1], rfl⟩
 ·have h1' : decide (48 ≤ c) = false := by simpa using h1
  go_enter Tryz.func127, Tryz.ntmps127
  go_wp2
  go_ret
  exact ⟨by simp, rfl⟩
set_option maxHeartbeats 400000 in
theorem digit52 (c : Int) (w : World) : Calls Tryz.prog 177 #[.int .u8 c] w fun e w' => e = .returned (.bool (digB c)) ∧ w' = w := by
 unfold digB
 by_cases h1 : 48 ≤ c
 ·go_enter Tryz.func177, Tryz.ntmps177
  go_wp2
  go_ret
  exact ⟨by simp [h1], rfl⟩
 ·have h1' : decide (48 ≤ c) = false := by simpa using h1
  go_enter Tryz.func177, Tryz.ntmps177
  go_wp2
  go_ret
  exact ⟨by simp, rfl⟩
set_option maxHeartbeats 400000 in
theorem small39 (c : Int) (w : World) : Calls Tryz.prog 77 #[.int .i64 c] w fun e w' => e = .returned (.bool (smallB c)) ∧ w' = w := by
 unfold smallB
 by_cases h1 : -2305843009213693952 ≤ c
 ·go_enter Tryz.func77, Tryz.ntmps77
  go_wp2
  go_ret
  exact ⟨by simp [h1], rfl⟩
 ·have h1' : decide (-2305843009213693952 ≤ c) = false := by simpa using h1
  go_enter Tryz.func77, Tryz.ntmps77
  go_wp2
  go_ret
  exact ⟨by simp, rfl⟩
set_option maxHeartbeats 400000 in
theorem small40 (c : Int) (w : World) : Calls Tryz.prog 143 #[.int .i64 c] w fun e w' => e = .returned (.bool (smallB c)) ∧ w' = w := by
 unfold smallB
 by_cases h1 : -2305843009213693952 ≤ c
 ·go_enter Tryz.func143, Tryz.ntmps143
  go_wp2
  go_ret
  exact ⟨by simp [h1], rfl⟩
 ·have h1' : decide (-2305843009213693952 ≤ c) = false := by simpa using h1
  go_enter Tryz.func143, Tryz.ntmps143
  go_wp2
  go_ret
  exact ⟨by simp, rfl⟩
set_option maxHeartbeats 400000 in
theorem letter56 (c : Int) (w : World) : Calls Tryz.prog 168 #[.int .u8 c] w fun e w' => e = .returned (.bool (letB c)) ∧ w' = w := by
 unfold letB
 by_cases h1 : 97 ≤ c
 ·have h2 : decide (65 ≤ c) = true := by simp; omega
  have h3 : decide (97 ≤ c) = true := by simpa using h1
  by_cases h4 : c ≤ 122
  ·have h5 : decide (c ≤ 122) = true := by simpa using h4
   go_enter Tryz.func168, Tryz.ntmps168
   go_wp2
   go_ret
   exact ⟨by simp; omega, rfl⟩
  ·have h5 : decide (c ≤ 122) = false := by simpa using h4
   go_enter Tryz.func168, Tryz.ntmps168
   go_wp2
   go_ret
   exact ⟨by simp, rfl⟩
 ·have h3 : decide (97 ≤ c) = false := by simpa using h1
  by_cases h2 : 65 ≤ c
  ·have h5 : decide (65 ≤ c) = true := by simpa using h2
   go_enter Tryz.func168, Tryz.ntmps168
   go_wp2
   go_ret
   exact ⟨by simp, rfl⟩
  ·have h5 : decide (65 ≤ c) = false := by simpa using h2
   go_enter Tryz.func168, Tryz.ntmps168
   go_wp2
   go_ret
   exact ⟨by simp, rfl⟩
theorem marks_len : marks.length = 16 := rfl
theorem symB_of_mark {c : Int} (k : Nat) (hk : k < 16) (h : marks.getD k 0 = c) : symB c = true := by
 unfold symB
 have : marks.contains c = true := by
  rw [List.contains_iff_mem, ← h]
  simp [List.getD, List.getElem?_eq_getElem (show k < marks.length by rw [marks_len]; exact hk)]
 rw [this]; simp
theorem symB_of_none {c : Int} (h : ∀ k, k < 16 → marks.getD k 0 ≠ c) : symB c = (letB c || digB c) := by
 unfold symB
 have : marks.contains c = false := by
  rw [Bool.eq_false_iff]
  intro hc
  rw [List.contains_iff_mem] at hc
  obtain ⟨k, hk, e⟩ := List.getElem_of_mem hc
  refine h k (by simpa [marks_len] using hk) ?_
  simp [List.getD, List.getElem?_eq_getElem hk, e]
 rw [this]; simp
theorem mark_at (k : Nat) (h : k < (⟨#[33, 36, 37, 38, 42, 47, 58, 60, 61, 62, 63, 94, 95, 126, 43, 45]⟩ : ByteArray).size) :
  (((⟨#[33, 36, 37, 38, 42, 47, 58, 60, 61, 62, 63, 94, 95, 126, 43, 45]⟩ : ByteArray)[k]).toNat : Int) = marks.getD k 0 := by
 have key : ∀ j : Fin 16, (((⟨#[33, 36, 37, 38, 42, 47, 58, 60, 61, 62, 63, 94, 95, 126, 43, 45]⟩ : ByteArray)[j.val]'(by exact j.2)).toNat : Int) = marks.getD j.val 0 := by decide
 exact key ⟨k, h⟩
set_option maxHeartbeats 1000000 in
theorem byte50 (c : Int) (w : World) : Calls Tryz.prog 129 #[.int .u8 c] w fun e w' => e = .returned (.bool (symB c)) ∧ w' = w := by
 go_enter Tryz.func129, Tryz.ntmps129
 go_wp2
 go_loop [4] (fun i => ∃ k : Nat, k ≤ 16 ∧ i = .int .i64 k ∧ Hid (∀ j, j < k → marks.getD j 0 ≠ c)) (fun i => 16 - (intOf i).toNat)
 case atStart => exact ⟨0, Nat.zero_le _, rfl, fun j hj => absurd hj (Nat.not_lt_zero j)⟩
 case round =>
  obtain ⟨k, hk, rfl, hn⟩ := hrel
  by_cases hlt : k < 16
  ·go_wp2
   ·have h := ‹((_ : Int) == c) = true›
    rw [mark_at k hlt, beq_iff_eq] at h
    go_ret
    exact ⟨ret_bool (symB_of_mark k hlt h).symm, rfl⟩
   ·have h := ‹((_ : Int) == c) = false›
    rw [mark_at k hlt, beq_eq_false_iff_ne] at h
    refine ⟨⟨k + 1, by omega, by go_num, fun j hj => ?_⟩, by simp [intOf]; omega⟩
    by_cases e : j < k
    ·exact hn.out j e
    ·have : j = k := by omega
     subst this; exact h
  ·have : k = 16 := by omega
   subst this
   have hs : symB c = (letB c || digB c) := symB_of_none hn.out
   have HS : Hid (symB c = (letB c || digB c)) := hs
   clear hs hn
   obtain ⟨b, hb⟩ : ∃ b, letB c = b := ⟨_, rfl⟩
   cases b
   ·go_wp2_with (first | (go_at_call 168; refine (letter56 c _).mono ?_; rintro e w' ⟨rfl, rfl⟩; rw [hb]) | (go_at_call 127; refine (digit48 c _).mono ?_; rintro e w' ⟨rfl, rfl⟩))
    go_ret
    exact ⟨ret_bool (by rw [HS.out, hb]; simp), rfl⟩
   ·go_wp2_with (first | (go_at_call 168; refine (letter56 c _).mono ?_; rintro e w' ⟨rfl, rfl⟩; rw [hb]) | (go_at_call 127; refine (digit48 c _).mono ?_; rintro e w' ⟨rfl, rfl⟩))
    go_ret
    exact ⟨ret_bool (by rw [HS.out, hb]; simp), rfl⟩
theorem index_marks (c : Int) (h0 : 0 ≤ c) (h1 : c < 256) :
  decide (0 ≤ Lib.indexByte (⟨#[33, 36, 37, 38, 42, 47, 58, 60, 61, 62, 63, 94, 95, 126, 43, 45]⟩ : ByteArray).data.toList c.toNat.toUInt8) = marks.contains c := by
 obtain ⟨n, rfl⟩ := Int.eq_ofNat_of_zero_le h0
 have hn : n < 256 := by omega
 have key : ∀ j : Fin 256, decide (0 ≤ Lib.indexByte (⟨#[33, 36, 37, 38, 42, 47, 58, 60, 61, 62, 63, 94, 95, 126, 43, 45]⟩ : ByteArray).data.toList (j.val : Int).toNat.toUInt8) = marks.contains (j.val : Int) := by decide +kernel
 exact key ⟨n, hn⟩
set_option maxHeartbeats 1000000 in
theorem symbol51 (c : Int) (h0 : 0 ≤ c) (h1 : c < 256) (w : World) : Calls Tryz.prog 176 #[.int .u8 c] w fun e w' => e = .returned (.bool (symB c)) ∧ w' = w := by
 have hm := index_marks c h0 h1
 have HS : Hid (symB c = (letB c || digB c || decide (0 ≤ Lib.indexByte (⟨#[33, 36, 37, 38, 42, 47, 58, 60, 61, 62, 63, 94, 95, 126, 43, 45]⟩ : ByteArray).data.toList c.toNat.toUInt8))) := by
  unfold Hid symB; rw [hm]
 clear hm
 generalize hix : Lib.indexByte (⟨#[33, 36, 37, 38, 42, 47, 58, 60, 61, 62, 63, 94, 95, 126, 43, 45]⟩ : ByteArray).data.toList c.toNat.toUInt8 = ix at HS
 have HX : Hid (Lib.indexByte (⟨#[33, 36, 37, 38, 42, 47, 58, 60, 61, 62, 63, 94, 95, 126, 43, 45]⟩ : ByteArray).data.toList c.toNat.toUInt8 = ix) := hix
 clear hix
 have hl : Hid (letB c = ((decide (97 ≤ c) && decide (c ≤ 122)) || (decide (65 ≤ c) && decide (c ≤ 90)))) := rfl
 obtain ⟨bd, hbd⟩ : ∃ b, digB c = b := ⟨_, rfl⟩
 by_cases g1 : 97 ≤ c
 ·have g2 : decide (97 ≤ c) = true := by simpa using g1
  have g3 : decide (65 ≤ c) = true := by simp; omega
  by_cases g4 : c ≤ 122
  ·have g5 : decide (c ≤ 122) = true := by simpa using g4
   have HF : Hid (symB c = true) := by unfold Hid; rw [HS.out, hl.out]; simp [g1, g4]
   go_enter Tryz.func176, Tryz.ntmps176
   go_wp2
   go_ret
   exact ⟨ret_bool (by rw [HF.out]), rfl⟩
  ·have g5 : decide (c ≤ 122) = false := by simpa using g4
   have g6 : decide (c ≤ 90) = false := by simp; omega
   have HF : Hid (letB c = false) := by unfold Hid; rw [hl.out]; simp [g5, g6]
   cases bd
   ·go_enter Tryz.func176, Tryz.ntmps176
    go_wp2_with (first | (go_at_call 177; refine (digit52 c _).mono ?_; rintro e w' ⟨rfl, rfl⟩; rw [hbd]) | (go_at_call 188; refine (indexByte57 _ c _).mono ?_; rintro e w' ⟨rfl, rfl⟩; rw [HX.out]))
    go_ret
    exact ⟨ret_bool (by rw [HS.out, HF.out, hbd]; simp), rfl⟩
   ·go_enter Tryz.func176, Tryz.ntmps176
    go_wp2_with (first | (go_at_call 177; refine (digit52 c _).mono ?_; rintro e w' ⟨rfl, rfl⟩; rw [hbd]) | (go_at_call 188; refine (indexByte57 _ c _).mono ?_; rintro e w' ⟨rfl, rfl⟩; rw [HX.out]))
    go_ret
    exact ⟨ret_bool (by rw [HS.out, HF.out, hbd]; simp), rfl⟩
 ·have g2 : decide (97 ≤ c) = false := by simpa using g1
  by_cases g3 : 65 ≤ c
  ·have g4 : decide (65 ≤ c) = true := by simpa using g3
   by_cases g5 : c ≤ 90
   ·have g6 : decide (c ≤ 90) = true := by simpa using g5
    have HF : Hid (symB c = true) := by unfold Hid; rw [HS.out, hl.out]; simp [g4, g6]
    go_enter Tryz.func176, Tryz.ntmps176
    go_wp2
    go_ret
    exact ⟨ret_bool (by rw [HF.out]), rfl⟩
   ·have g6 : decide (c ≤ 90) = false := by simpa using g5
    have HF : Hid (letB c = false) := by unfold Hid; rw [hl.out]; simp [g2, g6]
    cases bd
    ·go_enter Tryz.func176, Tryz.ntmps176
     go_wp2_with (first | (go_at_call 177; refine (digit52 c _).mono ?_; rintro e w' ⟨rfl, rfl⟩; rw [hbd]) | (go_at_call 188; refine (indexByte57 _ c _).mono ?_; rintro e w' ⟨rfl, rfl⟩; rw [HX.out]))
     go_ret
     exact ⟨ret_bool (by rw [HS.out, HF.out, hbd]; simp), rfl⟩
    ·go_enter Tryz.func176, Tryz.ntmps176
     go_wp2_with (first | (go_at_call 177; refine (digit52 c _).mono ?_; rintro e w' ⟨rfl, rfl⟩; rw [hbd]) | (go_at_call 188; refine (indexByte57 _ c _).mono ?_; rintro e w' ⟨rfl, rfl⟩; rw [HX.out]))
     go_ret
     exact ⟨ret_bool (by rw [HS.out, HF.out, hbd]; simp), rfl⟩
  ·have g4 : decide (65 ≤ c) = false := by simpa using g3
   have HF : Hid (letB c = false) := by unfold Hid; rw [hl.out]; simp [g2, g4]
   cases bd
   ·go_enter Tryz.func176, Tryz.ntmps176
    go_wp2_with (first | (go_at_call 177; refine (digit52 c _).mono ?_; rintro e w' ⟨rfl, rfl⟩; rw [hbd]) | (go_at_call 188; refine (indexByte57 _ c _).mono ?_; rintro e w' ⟨rfl, rfl⟩; rw [HX.out]))
    go_ret
    exact ⟨ret_bool (by rw [HS.out, HF.out, hbd]; simp), rfl⟩
   ·go_enter Tryz.func176, Tryz.ntmps176
    go_wp2_with (first | (go_at_call 177; refine (digit52 c _).mono ?_; rintro e w' ⟨rfl, rfl⟩; rw [hbd]) | (go_at_call 188; refine (indexByte57 _ c _).mono ?_; rintro e w' ⟨rfl, rfl⟩; rw [HX.out]))
    go_ret
    exact ⟨ret_bool (by rw [HS.out, HF.out, hbd]; simp), rfl⟩
end Go.Proofs.YtnnpfoilojicjaaGreatDoor
