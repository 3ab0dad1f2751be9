import Derived.Test.YtnnpfoilojicjaaGreatDoorGa
namespace Go.Proofs.YtnnpfoilojicjaaGreatDoor
open Go.RowKit Ch1
namespace Cp
def primX (j : Nat) : List Int := (prims.getD j ([], 0)).1
def primA (j : Nat) : Nat := (prims.getD j ([], 0)).2
def primS (j : Nat) : ByteArray := strOfNums (primX j)
def PrN (j : Nat) (w w' : World) (e : Ending) : Prop := ∃ (p : Option Addr) (v2 : Value), e = .returned (.tuple #[.string (primS j), .slice p (primA j) (primA j), v2]) ∧ Below w.heap.size w w'
set_option maxHeartbeats 4000000 in
theorem l3prim_n (j : Nat) (hj : j < 22) (w : World) : Calls Tryz.prog 135 #[.int .i64 (j : Int)] w fun e w' => PrN j w w' e := by
 have hops : j = 0 ∨ j = 1 ∨ j = 2 ∨ j = 3 ∨ j = 4 ∨ j = 5 ∨ j = 6 ∨ j = 7 ∨ j = 8 ∨ j = 9 ∨ j = 10 ∨ j = 11 ∨ j = 12 ∨ j = 13 ∨ j = 14 ∨ j = 15 ∨ j = 16 ∨ j = 17 ∨ j = 18 ∨ j = 19 ∨ j = 20 ∨ j = 21 := by omega
 rcases hops with h | h | h | h | h | h | h | h | h | h | h | h | h | h | h | h | h | h | h | h | h | h <;> subst h
 ·go_enter Tryz.func135, Tryz.ntmps135
  go_wp2
  exact bodyPost_ret (v := .tuple #[.string (primS 0), .slice (some ⟨w.heap.size + 1, 0, none⟩) 2 2, .int .i64 1]) (by simp [results, Tryz.results135, go_sem]; rfl) rfl ⟨_, _, rfl, below2 _ _ _⟩
 ·go_enter Tryz.func135, Tryz.ntmps135
  go_wp2
  exact bodyPost_ret (v := .tuple #[.string (primS 1), .slice (some ⟨w.heap.size + 1, 0, none⟩) 2 2, .int .i64 1]) (by simp [results, Tryz.results135, go_sem]; rfl) rfl ⟨_, _, rfl, below2 _ _ _⟩
 ·go_enter Tryz.func135, Tryz.ntmps135
  go_wp2
  exact bodyPost_ret (v := .tuple #[.string (primS 2), .slice (some ⟨w.heap.size + 1, 0, none⟩) 2 2, .int .i64 1]) (by simp [results, Tryz.results135, go_sem]; rfl) rfl ⟨_, _, rfl, below2 _ _ _⟩
 ·go_enter Tryz.func135, Tryz.ntmps135
  go_wp2
  exact bodyPost_ret (v := .tuple #[.string (primS 3), .slice (some ⟨w.heap.size + 1, 0, none⟩) 2 2, .int .i64 1]) (by simp [results, Tryz.results135, go_sem]; rfl) rfl ⟨_, _, rfl, below2 _ _ _⟩
 ·go_enter Tryz.func135, Tryz.ntmps135
  go_wp2
  exact bodyPost_ret (v := .tuple #[.string (primS 4), .slice (some ⟨w.heap.size + 1, 0, none⟩) 2 2, .int .i64 1]) (by simp [results, Tryz.results135, go_sem]; rfl) rfl ⟨_, _, rfl, below2 _ _ _⟩
 ·go_enter Tryz.func135, Tryz.ntmps135
  go_wp2
  exact bodyPost_ret (v := .tuple #[.string (primS 5), .slice (some ⟨w.heap.size + 1, 0, none⟩) 2 2, .int .i64 2]) (by simp [results, Tryz.results135, go_sem]; rfl) rfl ⟨_, _, rfl, below2 _ _ _⟩
 ·go_enter Tryz.func135, Tryz.ntmps135
  go_wp2
  exact bodyPost_ret (v := .tuple #[.string (primS 6), .slice (some ⟨w.heap.size + 1, 0, none⟩) 2 2, .int .i64 2]) (by simp [results, Tryz.results135, go_sem]; rfl) rfl ⟨_, _, rfl, below2 _ _ _⟩
 ·go_enter Tryz.func135, Tryz.ntmps135
  go_wp2
  exact bodyPost_ret (v := .tuple #[.string (primS 7), .slice (some ⟨w.heap.size + 1, 0, none⟩) 2 2, .int .i64 16]) (by simp [results, Tryz.results135, go_sem]; rfl) rfl ⟨_, _, rfl, below2 _ _ _⟩
 ·go_enter Tryz.func135, Tryz.ntmps135
  go_wp2
  exact bodyPost_ret (v := .tuple #[.string (primS 8), .slice (some ⟨w.heap.size + 1, 0, none⟩) 1 1, .int .i64 255]) (by simp [results, Tryz.results135, go_sem]; rfl) rfl ⟨_, _, rfl, below2 _ _ _⟩
 ·go_enter Tryz.func135, Tryz.ntmps135
  go_wp2
  exact bodyPost_ret (v := .tuple #[.string (primS 9), .slice (some ⟨w.heap.size + 1, 0, none⟩) 1 1, .int .i64 255]) (by simp [results, Tryz.results135, go_sem]; rfl) rfl ⟨_, _, rfl, below2 _ _ _⟩
 ·go_enter Tryz.func135, Tryz.ntmps135
  go_wp2
  exact bodyPost_ret (v := .tuple #[.string (primS 10), .slice (some ⟨w.heap.size + 1, 0, none⟩) 1 1, .int .i64 2]) (by simp [results, Tryz.results135, go_sem]; rfl) rfl ⟨_, _, rfl, below2 _ _ _⟩
 ·go_enter Tryz.func135, Tryz.ntmps135
  go_wp2
  exact bodyPost_ret (v := .tuple #[.string (primS 11), .slice (some ⟨w.heap.size + 1, 0, none⟩) 1 1, .int .i64 2]) (by simp [results, Tryz.results135, go_sem]; rfl) rfl ⟨_, _, rfl, below2 _ _ _⟩
 ·go_enter Tryz.func135, Tryz.ntmps135
  go_wp2
  exact bodyPost_ret (v := .tuple #[.string (primS 12), .slice (some ⟨w.heap.size + 1, 0, none⟩) 1 1, .int .i64 2]) (by simp [results, Tryz.results135, go_sem]; rfl) rfl ⟨_, _, rfl, below2 _ _ _⟩
 ·go_enter Tryz.func135, Tryz.ntmps135
  go_wp2
  exact bodyPost_ret (v := .tuple #[.string (primS 13), .slice (some ⟨w.heap.size + 1, 0, none⟩) 1 1, .int .i64 2]) (by simp [results, Tryz.results135, go_sem]; rfl) rfl ⟨_, _, rfl, below2 _ _ _⟩
 ·go_enter Tryz.func135, Tryz.ntmps135
  go_wp2
  exact bodyPost_ret (v := .tuple #[.string (primS 14), .slice (some ⟨w.heap.size + 1, 0, none⟩) 1 1, .int .i64 2]) (by simp [results, Tryz.results135, go_sem]; rfl) rfl ⟨_, _, rfl, below2 _ _ _⟩
 ·go_enter Tryz.func135, Tryz.ntmps135
  go_wp2
  exact bodyPost_ret (v := .tuple #[.string (primS 15), .slice (some ⟨w.heap.size + 1, 0, none⟩) 1 1, .int .i64 2]) (by simp [results, Tryz.results135, go_sem]; rfl) rfl ⟨_, _, rfl, below2 _ _ _⟩
 ·go_enter Tryz.func135, Tryz.ntmps135
  go_wp2
  exact bodyPost_ret (v := .tuple #[.string (primS 16), .slice (some ⟨w.heap.size + 1, 0, none⟩) 2 2, .int .i64 2]) (by simp [results, Tryz.results135, go_sem]; rfl) rfl ⟨_, _, rfl, below2 _ _ _⟩
 ·go_enter Tryz.func135, Tryz.ntmps135
  go_wp2
  exact bodyPost_ret (v := .tuple #[.string (primS 17), .slice (some ⟨w.heap.size + 1, 0, none⟩) 1 1, .int .i64 2]) (by simp [results, Tryz.results135, go_sem]; rfl) rfl ⟨_, _, rfl, below2 _ _ _⟩
 ·go_enter Tryz.func135, Tryz.ntmps135
  go_wp2
  exact bodyPost_ret (v := .tuple #[.string (primS 18), .slice (some ⟨w.heap.size + 1, 0, none⟩) 2 2, .int .i64 32]) (by simp [results, Tryz.results135, go_sem]; rfl) rfl ⟨_, _, rfl, below2 _ _ _⟩
 ·go_enter Tryz.func135, Tryz.ntmps135
  go_wp2
  exact bodyPost_ret (v := .tuple #[.string (primS 19), .slice (some ⟨w.heap.size + 1, 0, none⟩) 2 2, .int .i64 255]) (by simp [results, Tryz.results135, go_sem]; rfl) rfl ⟨_, _, rfl, below2 _ _ _⟩
 ·go_enter Tryz.func135, Tryz.ntmps135
  go_wp2
  exact bodyPost_ret (v := .tuple #[.string (primS 20), .slice (some ⟨w.heap.size + 1, 0, none⟩) 3 3, .int .i64 128]) (by simp [results, Tryz.results135, go_sem]; rfl) rfl ⟨_, _, rfl, below2 _ _ _⟩
 ·go_enter Tryz.func135, Tryz.ntmps135
  go_wp2
  exact bodyPost_ret (v := .tuple #[.string (primS 21), .slice (some ⟨w.heap.size + 1, 0, none⟩) 1 1, .int .i64 1]) (by simp [results, Tryz.results135, go_sem]; rfl) rfl ⟨_, _, rfl, below2 _ _ _⟩
theorem primX_rg : ∀ j, j < 22 → Rg (primX j) := by
 unfold Rg
 decide
def PoP (x : List Int) (z : Int) : Prop := (z = -1 ∧ primN x = none) ∨ ∃ j : Nat, j < 22 ∧ z = (j : Nat) ∧ primN x = some (primA j)
theorem po_find : ∀ (l : List (List Int × Nat)) (x : List Int) (i : Nat) (_hi : i < l.length), (∀ j, j < i → (l.getD j ([], 0)).1 ≠ x) → (l.getD i ([], 0)).1 = x → (l.find? (fun p => p.1 == x)).map (·.2) = some (l.getD i ([], 0)).2
 | [], _, i, hi, _, _ => absurd hi (Nat.not_lt_zero i)
 | a :: l, x, 0, _, _, h2 => by
  simp only [List.getD_cons_zero] at h2 ⊢
  rw [List.find?_cons_of_pos (by simp [h2])]
  rfl
 | a :: l, x, i + 1, hi, h1, h2 => by
  have h3 := h1 0 (Nat.succ_pos i)
  simp only [List.getD_cons_zero] at h3
  rw [List.find?_cons_of_neg (by simp [h3])]
  simp only [List.getD_cons_succ] at h2 ⊢
  exact po_find l x i (by simpa using hi) (fun j hj => by
   have := h1 (j + 1) (by omega)
   simpa using this) h2
theorem po_none {x : List Int} (h : ∀ j, j < 22 → primX j ≠ x) : primN x = none := by
 unfold primN
 rw [Option.map_eq_none_iff, List.find?_eq_none]
 intro p hp
 obtain ⟨i, hi, rfl⟩ := List.getElem_of_mem hp
 have h1 := h i (by simpa [prims] using hi)
 unfold primX at h1
 rw [List.getD_eq_getElem?_getD, List.getElem?_eq_getElem hi] at h1
 simpa using h1
theorem po_some {x : List Int} {i : Nat} (hi : i < 22) (h : ∀ j, j < i → primX j ≠ x) (he : primX i = x) : primN x = some (primA i) :=
 po_find prims x i (by simpa [prims] using hi) h he
set_option maxRecDepth 20000 in
set_option maxHeartbeats 2000000 in
theorem l3primOf_c {c : Cx} (m : Nm) (w : World) (hb : Below c.w0.heap.size c.w0 w) (hm : NmI c m) : Calls Tryz.prog 134 #[.slice m.p m.n m.c] w fun e w' => (∃ z : Int, e = .returned (.int .i64 z) ∧ PoP m.x z) ∧ Below w.heap.size w w' := by
 have HB := mkC hb
 have HM := mkC hm
 clear hb hm
 obtain ⟨mp, mn, mc, mx⟩ := m
 go_enter Tryz.func134, Tryz.ntmps134
 go_wp2_with fail
 go_loopw [3] (fun iv wr => ∃ i : Nat, i ≤ 22 ∧ iv = .int .i64 (i : Nat) ∧ Hid (Below w.heap.size w wr) ∧ Hid (∀ j, j < i → primX j ≠ mx)) (fun iv _ => 22 - (intOf iv).toNat)
 case atStart => exact ⟨0, Nat.zero_le _, rfl, Below.refl _ _, fun j hj => absurd hj (Nat.not_lt_zero j)⟩
 case round =>
  obtain ⟨i, hi, rfl, hB, hJ⟩ := hrel
  by_cases hlt : i < 22
  ·have HPR := mkC (l3prim_n i hlt wr)
   go_wp2_with fail
   refine HPR.out.mono ?_
   rintro e w1 ⟨pp, v2, rfl, hb1⟩
   have HB1 : Hid (Below w.heap.size w w1) := hB.out.trans (hb1.mono hB.out.size)
   have k2 := conv_nm HM.out (HB.out.trans (HB1.out.mono HB.out.size))
   have HEQ := mkC (str_eqb HM.out.rg (primX_rg i hlt))
   simp only at k2 HEQ
   obtain ⟨s1, hs1⟩ : ∃ s1, s1 = primS i := ⟨_, rfl⟩
   obtain ⟨s2, hs2⟩ : ∃ s2, s2 = strOfNums mx := ⟨_, rfl⟩
   rw [← hs1]
   unfold primS at hs1
   rw [← hs2] at k2 HEQ
   rw [← hs1] at HEQ
   clear hb1 HPR hs1 hs2
   by_cases hxe : primX i = mx
   ·have heq : (s1.toList == s2.toList) = true := by rw [HEQ.out]; exact decide_eq_true hxe
    have HPO := mkC (po_some hlt hJ.out hxe)
    clear HEQ hxe
    go_wp2_with fail
    go_ret
    exact ⟨⟨_, rfl, Or.inr ⟨i, hlt, rfl, HPO.out⟩⟩, HB1.out⟩
   ·have heq : (s1.toList == s2.toList) = false := by rw [HEQ.out]; exact decide_eq_false hxe
    clear HEQ
    have HNX := mkC hxe
    clear hxe
    go_wp2_with fail
    exact ⟨⟨i + 1, by omega, by go_num, HB1.out, fun j hj => by rcases (show j < i ∨ j = i by omega) with h1 | h1; exact hJ.out j h1; rw [h1]; exact HNX.out⟩, by simp [intOf]; omega⟩
  ·obtain rfl : i = 22 := by omega
   have HNO := mkC (po_none hJ.out)
   go_wp2_with fail
   go_ret
   exact ⟨⟨_, rfl, Or.inl ⟨rfl, HNO.out⟩⟩, hB.out⟩
end Cp
end Go.Proofs.YtnnpfoilojicjaaGreatDoor
