import Derived.Test.YtnnpfoilojicjaaGreatDoorWd
namespace Go.Proofs.YtnnpfoilojicjaaGreatDoor
open Go.RowKit Ch1
def lenOf : Value → Nat | .slice _ n _ => n | _ => 0
set_option maxHeartbeats 1000000 in
theorem valid8_long (p : Option Addr) (n c : Nat) (ds : List Dt) (w : World) (hl : ds.length = n) (h : 3000 < n) :
  Calls Tryz.prog 29 #[.slice p n c] w fun e w' => e = .returned (.bool (validB ds)) ∧ Below w.heap.size w w' := by
 have HF : Hid (validB ds = false) := by unfold Hid validB; rw [decide_eq_false (by omega)]; rfl
 clear hl
 go_enter Tryz.func29, Tryz.ntmps29
 go_wp2
 go_ret
 exact ⟨ret_bool HF.out.symm, Below.refl _ _⟩
set_option maxHeartbeats 1000000 in
theorem valid8 (p : Option Addr) (n c : Nat) (ds : List Dt) (w : World) (hD : Da w p n c ds) :
  Calls Tryz.prog 29 #[.slice p n c] w fun e w' => e = .returned (.bool (validB ds)) ∧ Below w.heap.size w w' := by
 by_cases h : 3000 < n
 ·exact valid8_long p n c ds w hD.len h
 have HF : Hid (validB ds = rowOf ds) := by unfold Hid validB; rw [decide_eq_true (by rw [hD.len]; omega)]; rfl
 have HD : Hid (Da w p n c ds) := hD
 clear hD
 go_enter Tryz.func29, Tryz.ntmps29
 go_wp2
 go_loopw [0] (fun v wr => ∃ (q : List Dt) (p' : Option Addr) (n' c' : Nat), v = .slice p' n' c' ∧ n' ≤ 3000 ∧ Hid (rowOf ds = rowOf q) ∧ Hid (Da wr p' n' c' q) ∧ Hid (Below w.heap.size w wr)) (fun v _ => lenOf v)
 case atStart => exact ⟨ds, p, n, c, rfl, by omega, rfl, HD, Below.refl _ _⟩
 case round =>
  obtain ⟨q, p', n', c', rfl, hn', hro, hDa, hb⟩ := hrel
  by_cases hlt : 0 < n'
  ·have hlen := hDa.out.len
   cases hsk : skip 100 q with
   | none =>
    have HSK : Hid (skip 100 q = none) := hsk
    have HR : Hid (rowOf ds = false) := by
     unfold Hid; rw [hro.out]; exact rowOf_none q (fun e => by subst e; simp at hlen; omega) hsk
    clear hsk hlen
    go_wp2_with (go_at_call 47; refine (behind18 100 0 (by omega) (by omega) p' n' c' q _ hDa.out).mono ?_; rintro e w2 ⟨ho, hb2⟩; rw [HSK.out] at ho; simp only [Out] at ho; subst ho)
    go_ret
    exact ⟨ret_bool (by rw [HF.out, HR.out]), hb.out.trans (hb2.mono hb.out.size)⟩
   | some q' =>
    have HSK : Hid (skip 100 q = some q') := hsk
    have HR : Hid (rowOf ds = rowOf q') := by unfold Hid; rw [hro.out]; exact rowOf_some q q' hsk
    have HL : q'.length < n' := by
     obtain ⟨k, hk1, hk2, e⟩ := skip_eats 100 _ _ hsk
     rw [e, List.length_drop]; omega
    clear hsk hlen
    go_wp2_with (go_at_call 47; refine (behind18 100 0 (by omega) (by omega) p' n' c' q _ hDa.out).mono ?_; rintro e w2 ⟨ho, hb2⟩; rw [HSK.out] at ho; simp only [Out] at ho; obtain ⟨p2, n2, c2, rfl, hD2⟩ := ho; have HD2 : Hid (Da w2 p2 n2 c2 q') := hD2; clear hD2)
    have hl2 := HD2.out.len
    exact ⟨⟨q', p2, n2, c2, rfl, by omega, HR, HD2, hb.out.trans (hb2.mono hb.out.size)⟩, by simp [lenOf]; omega⟩
  ·obtain rfl : n' = 0 := by omega
   have HR : Hid (rowOf ds = true) := by
    unfold Hid; rw [hro.out, hDa.out.nil]; rfl
   go_wp2
   go_ret
   exact ⟨ret_bool (by rw [HF.out, HR.out]), hb.out⟩
end Go.Proofs.YtnnpfoilojicjaaGreatDoor
