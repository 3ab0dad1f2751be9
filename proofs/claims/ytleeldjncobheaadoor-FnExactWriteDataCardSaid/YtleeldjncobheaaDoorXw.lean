import Derived.Test.YtleeldjncobheaaDoorXa
import Derived.Test.YtleeldjncobheaaDoorWv
namespace Go.Proofs.YtleeldjncobheaaDoor
open Go.RowKit Ch1
set_option maxHeartbeats 1000000 in
theorem write7_bad (p : Option Addr) (n c : Nat) (ds : List Dt) (w : World) (hD : Da w p n c ds) (hv : validB ds = false) :
    Calls Tryd.prog 8 #[.slice p n c] w fun e w' => OwT w w' e (outT ds) := by
  have HT : Hid (outT ds = []) := by unfold Hid outT; rw [hv]; rfl
  have HD : Hid (Da w p n c ds) := hD
  clear hD
  go_enter Tryd.func8, Tryd.ntmps8
  go_wp2_with (go_at_call 29; refine (valid8 _ n c ds _ HD.out).mono ?_; rintro e w1 ⟨rfl, hb1⟩; rw [hv])
  go_ret
  rw [HT.out]
  exact ⟨_, rfl, Ow.nil _ _, hb1⟩
set_option maxHeartbeats 1000000 in
theorem write7_good (p : Option Addr) (n c : Nat) (ds : List Dt) (w : World) (hD : Da w p n c ds) (ht : Tab w) (hv : validB ds = true) :
    Calls Tryd.prog 8 #[.slice p n c] w fun e w' => OwT w w' e (outT ds) := by
  have HT : Hid (outT ds = rowT ds) := by unfold Hid outT; rw [hv]; rfl
  have hn : n ≤ 3000 := by have := (valid_small hv).1; rw [hD.len] at this; exact this
  have HR : Hid (rowOf ds = true) := (valid_small hv).2
  have HD : Hid (Da w p n c ds) := hD
  have HTB : Hid (Tab w) := ht
  clear hD ht
  go_enter Tryd.func8, Tryd.ntmps8
  go_wp2_with (go_at_call 29; refine (valid8 _ n c ds _ HD.out).mono ?_; rintro e w1 ⟨rfl, hb1⟩; rw [hv]; have HB1 : Hid (Below w.heap.size w w1) := hb1; clear hb1)
  go_loopw [0, 3] (fun dv ov wr => ∃ (q : List Dt) (p' : Option Addr) (n' c' : Nat) (acc : List Int), dv = .slice p' n' c' ∧ acc.length + 130 * n' ≤ 390000 ∧ Hid (rowOf q = true) ∧ Hid (rowT ds = acc ++ rowT q) ∧ Hid (Da w p' n' c' q) ∧ Hid (Ow wr w.heap.size ov acc) ∧ Hid (Below w.heap.size w wr)) (fun dv _ _ => lenOf dv)
  case atStart => exact ⟨ds, p, n, c, [], rfl, by simp; omega, HR, rfl, HD, Ow.nil _ _, HB1⟩
  case round =>
    clear HB1
    obtain ⟨q, p', n', c', acc, rfl, hal, hro, hrt, hDa, hO, hb⟩ := hrel
    have hln : Hid (q.length = n') := hDa.out.len
    by_cases hlt : 0 < n'
    · obtain ⟨q1, hq1, hq2⟩ := rowOf_next q hro.out (fun e => by have := hln.out; rw [e] at this; simp at this; omega)
      have HQ1 : Hid (skip 100 q = some q1) := hq1
      have HQ2 : Hid (rowOf q1 = true) := hq2
      have HRT : Hid (rowT ds = acc ++ txt 100 q ++ [10] ++ rowT q1) := by unfold Hid; rw [hrt.out, rowT_some q q1 hq1]; simp
      have hbd := txt_bound 100 _ _ hq1
      rw [hln.out] at hbd
      clear hq1 hq2
      have hsz := hb.out.size
      go_wp2_with (first | (go_at_call 30; refine (wd19 100 _ p' n' c' q q1 acc w _ hDa.out hb.out hO.out HTB.out HQ1.out (by omega)).mono ?_; rintro e w2 ⟨v2, p2, n2, c2, rfl, ho2, hd2, hb2⟩; have HO2 : Hid (Ow w2 w.heap.size v2 (acc ++ txt 100 q)) := ho2; have HD2 : Hid (Da w p2 n2 c2 q1) := hd2; have HB2 : Hid (Below w.heap.size w w2) := hb2; have hsz2 := hb2.size; have hln2 := hd2.len; clear ho2 hd2 hb2) | (at_builtin; refine app_law _ rfl (.tmp 16) (.tmp 17) rfl w.heap.size v2 (acc ++ txt 100 q) [10] (by simp [Act.eval]) (by exact HO2.out.below (below1 _ _)) w2.heap.size 0 1 1 (by simp [Act.eval]) (By.lit w2 10 (by omega) (by omega)) (by simp; omega) (by simp; omega) ?_; intro v3 w3 ho hg _; have HO3 : Hid (Ow w3 w.heap.size v3 (acc ++ txt 100 q ++ [10])) := ho; have HB3 : Hid (Below w.heap.size w w3) := (HB2.out.alloc hsz2 _).trans hg; clear ho hg))
      refine ⟨⟨q1, p2, n2, c2, acc ++ txt 100 q ++ [10], rfl, by simp; omega, HQ2, HRT, HD2, HO3, HB3⟩, ?_⟩
      simp [lenOf]; omega
    · obtain rfl : n' = 0 := by omega
      have hq0 : q = [] := List.length_eq_zero_iff.1 hln.out
      have HRT : Hid (rowT ds = acc) := by unfold Hid; rw [hrt.out, hq0, rowT_nil, List.append_nil]
      go_wp2
      go_ret
      rw [HT.out, HRT.out]
      exact ⟨_, rfl, hO.out, hb.out⟩
theorem write7 (p : Option Addr) (n c : Nat) (ds : List Dt) (w : World) (hD : Da w p n c ds) (ht : Tab w) : Calls Tryd.prog 8 #[.slice p n c] w fun e w' => OwT w w' e (outT ds) := by
  cases hv : validB ds
  · exact write7_bad p n c ds w hD hv
  · exact write7_good p n c ds w hD ht hv
end Go.Proofs.YtleeldjncobheaaDoor
