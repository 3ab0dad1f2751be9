import Derived.Test.YtpfodinoeoejcaaH9
namespace Go.Proofs.Ytpfodinoeoejcaa
open Go.RowKit Ch2
set_option maxRecDepth 20000 in
set_option maxHeartbeats 8000000 in
theorem lawValidHeap (p : Option Addr) (n c : Nat) (top : Int) (ws : List Int) (rp : Option Addr) (rn rc : Nat) (rs : List Int) (w : World) (h : Is w p n c ws) (ht0 : -9223372036854775808 ≤ top) (ht1 : top ≤ 9223372036854775807) (hr : Is w rp rn rc rs) :
    Calls Try.prog 5 #[.agg #[.slice p n c, .int .i64 top], .slice rp rn rc] w fun e w' => e = .returned (.bool true) ∧ Below w.heap.size w w' := by
  have HI : Hid (Is w p n c ws) := h
  have HR : Hid (Is w rp rn rc rs) := hr
  have hsn := h.small.1
  have hsr := hr.small.1
  have HLn : Hid (ws.length = n) := h.len
  have HLr : Hid (rs.length = rn) := hr.len
  have HRG : Hid (∀ i, -9223372036854775808 ≤ ws.getD i 0 ∧ ws.getD i 0 ≤ 9223372036854775807) := h.rng
  have HRR : Hid (∀ i, -9223372036854775808 ≤ rs.getD i 0 ∧ rs.getD i 0 ≤ 9223372036854775807) := hr.rng
  clear h hr
  by_cases hrn : 1048576 < rn
  · have hd : decide ((1048576 : Int) < (rn : Int)) = true := decide_eq_true (by omega)
    go_enter Try.func5, Try.ntmps5
    go_wp2
    go_ret
    exact ⟨rfl, below1 w _⟩
  have hd : decide ((1048576 : Int) < (rn : Int)) = false := decide_eq_false (by omega)
  have hrm : rn ≤ maxLen := by unfold maxLen; omega
  go_enter Try.func5, Try.ntmps5
  go_wp2_with fail
  clear hd
  refine (szHeap_c p n c top 1048576 _ hsn (by omega) (by omega)).mono ?_
  rintro e w1 ⟨rfl, hb1⟩
  have HA1 : Hid (Bx w1 w.heap.size p n c top) := (Bx.new w p n c top _).below hb1
  have HB1 : Hid (Below w.heap.size w w1) := below_alloc hb1
  clear hb1
  have a0 := HA1.out.c0
  have a1 := HA1.out.c1
  by_cases hneg : (1048576 : Int) - n < 0
  · rw [show szOf 1048576 n = -1 by unfold szOf; rw [if_pos hneg]]
    go_wp2
    go_ret
    exact ⟨rfl, HB1.out⟩
  rw [show szOf 1048576 n = 1048576 - n by unfold szOf; rw [if_neg hneg]]
  have hn : n ≤ 1048576 := by omega
  have hnm : n ≤ maxLen := by unfold maxLen; omega
  have hdl : decide ((1048576 : Int) - n < 0) = false := decide_eq_false hneg
  go_wp2_with fail
  clear hdl
  refine (toHeap_c p n c top ws _ (HI.out.below HB1.out) hn).mono ?_
  rintro e w2 ⟨g1, rfl, hg1, ho1, hb2⟩
  have HO1 : Hid (Ro w2 g1 n ws) := ho1
  have HA2 : Hid (Bx w2 w.heap.size p n c top) := HA1.out.below hb2
  have HB2 : Hid (Below w.heap.size w w2) := HB1.out.trans (hb2.mono HB1.out.size)
  clear ho1 hb2 hg1 a0 a1 HA1
  go_wp2_with fail
  refine (toIntS_c rp rn rc rs _ (HR.out.below HB2.out) (by omega)).mono ?_
  rintro e w3 ⟨rfl, ho2, hb3⟩
  have HO2 : Hid (Ro w3 w2.heap.size rn rs) := ho2
  have HO13 : Hid (Ro w3 g1 n ws) := HO1.out.below hb3
  have HA3 : Hid (Bx w3 w.heap.size p n c top) := HA2.out.below hb3
  have HB3 : Hid (Below w.heap.size w w3) := HB2.out.trans (hb3.mono HB2.out.size)
  clear ho2 hb3 HA2 HO1
  go_wp2_with fail
  refine (specValidHeap_c _ n n top ws _ rn rn rs _ (HO13.out.is HLn.out hnm HRG.out) ht0 ht1 (HO2.out.is HLr.out hrm HRR.out)).mono ?_
  rintro e w4 ⟨b, rfl, hbb, hb4⟩
  have HBB : Hid (b = true ↔ GoodR ws top rs) := hbb
  have HA4 : Hid (Bx w4 w.heap.size p n c top) := HA3.out.below hb4
  have HB4 : Hid (Below w.heap.size w w4) := HB3.out.trans (hb4.mono HB3.out.size)
  clear hbb hb4 HA3 HO13 HO2
  have a0 := HA4.out.c0
  have a1 := HA4.out.c1
  go_wp2_with fail
  refine (toHeap_c p n c top ws _ (HI.out.below HB4.out) hn).mono ?_
  rintro e w5 ⟨g2, rfl, _, ho5, hb5⟩
  have HO5 : Hid (Ro w5 g2 n ws) := ho5
  have HA5 : Hid (Bx w5 w.heap.size p n c top) := HA4.out.below hb5
  have HB5 : Hid (Below w.heap.size w w5) := HB4.out.trans (hb5.mono HB4.out.size)
  clear ho5 hb5 a0 a1 HA4
  go_wp2_with fail
  refine (toIntS_c rp rn rc rs _ (HR.out.below (HB5.out.trans ((below1 _ _).mono HB5.out.size))) (by omega)).mono ?_
  rintro e w6 ⟨rfl, ho6, hb6⟩
  have HO6 : Hid (Ro w6 (w5.heap.size + 1) rn rs) := by unfold Hid; simpa using ho6
  have HX6 : Hid (Bx w6 w5.heap.size (some ⟨g2, 0, none⟩) n n top) := (Bx.new w5 _ n n top _).below hb6
  have HA6 : Hid (Bx w6 w.heap.size p n c top) := (HA5.out.below (below1 _ _)).below hb6
  have HO56 : Hid (Ro w6 g2 n ws) := (HO5.out.below (below1 _ _)).below hb6
  have HB6 : Hid (Below w.heap.size w w6) := HB5.out.trans ((below_alloc hb6).mono HB5.out.size)
  have x0 := HX6.out.c0
  have x1 := HX6.out.c1
  clear ho6 hb6 HA5 HO5
  go_wp2_with fail
  refine (implValidHeap_c _ n n top ws _ rn rn rs _ (HO56.out.is HLn.out hnm HRG.out) ht0 ht1 (by exact HO6.out.is HLr.out hrm HRR.out)).mono ?_
  rintro e w7 ⟨b', rfl, hbb, hb7⟩
  obtain rfl : b = b' := by
    have h1 := HBB.out
    cases b <;> cases b' <;> simp_all
  have hbn : (b != b) = false := by simp
  have HA7 : Hid (Bx w7 w.heap.size p n c top) := HA6.out.below hb7
  have HX7 : Hid (Bx w7 w5.heap.size (some ⟨g2, 0, none⟩) n n top) := HX6.out.below hb7
  have HO57 : Hid (Ro w7 g2 n ws) := HO56.out.below hb7
  have HO67 : Hid (Ro w7 (w5.heap.size + 1) rn rs) := HO6.out.below hb7
  have HB7 : Hid (Below w.heap.size w w7) := HB6.out.trans (hb7.mono HB6.out.size)
  clear hbb hb7 HA6 HX6 HO56 HO6 x0 x1 HBB
  have a0 := HA7.out.c0
  have a1 := HA7.out.c1
  have x0 := HX7.out.c0
  have x1 := HX7.out.c1
  go_wp2_with fail
  go_region_with (first | (go_at_call 22; refine (toHeap_c p n c top ws _ ?y1 hn).mono ?_; (case y1 => exact HI.out.below (below_drew HB7.out)); rintro e w8 ⟨g3, rfl, _, ho8, hb8⟩; have HO8 : Hid (Ro w8 g3 n ws) := ho8; have HO58 : Hid (Ro w8 g2 n ws) := (HO57.out.below (below_drew (Below.refl _ _))).below hb8; have HB78 : Hid (Below w7.heap.size w7 w8) := (below_drew (Below.refl _ _)).trans hb8; have x8 := (HX7.out.below HB78.out).c0; have x9 := (HX7.out.below HB78.out).c1; clear ho8 hb8) | (go_at_call 17; refine (eqHeap_c _ _ n n n top ws _ (HO58.out.is HLn.out hnm HRG.out) (HO8.out.is HLn.out hnm HRG.out)).mono ?_; rintro e w9 ⟨rfl, hb9⟩; have HB79 : Hid (Below w7.heap.size w7 w9) := HB78.out.trans (hb9.mono HB78.out.size); clear hb9))
  all_goals go_wp2_with fail
  all_goals refine (toIntS_c rp rn rc rs _ (HR.out.below (HB7.out.trans (HB79.out.mono HB7.out.size))) (by omega)).mono ?_
  all_goals rintro e w10 ⟨rfl, ho10, hb10⟩
  all_goals have HO10 : Hid (Ro w10 w9.heap.size rn rs) := ho10
  all_goals have HO610 : Hid (Ro w10 (w5.heap.size + 1) rn rs) := (HO67.out.below HB79.out).below hb10
  all_goals have HB10 : Hid (Below w.heap.size w w10) := HB7.out.trans ((HB79.out.trans (hb10.mono HB79.out.size)).mono HB7.out.size)
  all_goals clear ho10 hb10
  all_goals go_wp2_with fail
  all_goals refine (eqIntS_c _ _ rn rn rn rs _ (HO610.out.is HLr.out hrm HRR.out) (HO10.out.is HLr.out hrm HRR.out)).mono ?_
  all_goals rintro e w11 ⟨rfl, q, hw11⟩
  all_goals have HB11 : Hid (Below w.heap.size w w11) := by rw [hw11]; exact below_drewN' HB10.out q
  all_goals clear hw11
  all_goals go_wp2
  all_goals go_ret
  all_goals exact ⟨rfl, HB11.out⟩
end Go.Proofs.Ytpfodinoeoejcaa
