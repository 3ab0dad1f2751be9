import Derived.Test.YtpfodinoeoejcaaZ7
import Derived.Deep.RegionHeld
namespace Go.Proofs.Ytpfodinoeoejcaa
open Go.RowKit Ch2
theorem Bx.cells {w : World} {b : Nat} {p : Option Addr} {n c : Nat} {top : Int} (h : Bx w b p n c top) : w.cell? ⟨b, 0, none⟩ = some (.slice p n c) ∧ w.cell? ⟨b, 1, none⟩ = some (.int .i64 top) := ⟨h.c0, h.c1⟩
set_option maxRecDepth 20000 in
set_option maxHeartbeats 8000000 in
theorem lawSameShape (p : Option Addr) (n c : Nat) (top : Int) (ws : List Int) (rp : Option Addr) (rn rc : Nat) (rs : List Int) (p' : Option Addr) (n' c' : Nat) (top' : Int) (vs : List Int) (op : Option Addr) (on oc : Nat) (os : List Int) (w : World) (hI : Is w p n c ws) (ht0 : -9223372036854775808 ≤ top) (ht1 : top ≤ 9223372036854775807) (hR : Is w rp rn rc rs) (hI' : Is w p' n' c' vs) (ht0' : -9223372036854775808 ≤ top') (ht1' : top' ≤ 9223372036854775807) (hO : Is w op on oc os) :
    Calls Try.prog 8 #[.agg #[.slice p n c, .int .i64 top], .slice rp rn rc, .agg #[.slice p' n' c', .int .i64 top'], .slice op on oc] w fun e w' => e = .returned (.bool true) ∧ Below w.heap.size w w' := by
  have HI : Hid (Is w p n c ws) := hI
  have HR : Hid (Is w rp rn rc rs) := hR
  have HI' : Hid (Is w p' n' c' vs) := hI'
  have HO : Hid (Is w op on oc os) := hO
  have hsn := hI.small.1
  have hsn' := hI'.small.1
  have hsr := hR.small.1
  have hso := hO.small.1
  have HLn : Hid (ws.length = n) := hI.len
  have HLn' : Hid (vs.length = n') := hI'.len
  have HLr : Hid (rs.length = rn) := hR.len
  have HLo : Hid (os.length = on) := hO.len
  have RG : Hid (∀ i, -9223372036854775808 ≤ ws.getD i 0 ∧ ws.getD i 0 ≤ 9223372036854775807) := hI.rng
  have RG' : Hid (∀ i, -9223372036854775808 ≤ vs.getD i 0 ∧ vs.getD i 0 ≤ 9223372036854775807) := hI'.rng
  have RR : Hid (∀ i, -9223372036854775808 ≤ rs.getD i 0 ∧ rs.getD i 0 ≤ 9223372036854775807) := hR.rng
  have RO : Hid (∀ i, -9223372036854775808 ≤ os.getD i 0 ∧ os.getD i 0 ≤ 9223372036854775807) := hO.rng
  clear hI hR hI' hO
  obtain ⟨W, hW⟩ : ∃ W, W = (w.alloc (.cells #[.slice p n c, .int .i64 top] 37)).alloc (.cells #[.slice p' n' c', .int .i64 top'] 37) := ⟨_, rfl⟩
  have HB : Hid (Below w.heap.size w W) := by unfold Hid; rw [hW]; exact below2 w _ _
  have HA : Hid (Bx W w.heap.size p n c top) := by unfold Hid; rw [hW]; exact (Bx.new w p n c top _).below (below1 _ _)
  have HG : Hid (Bx W (w.heap.size + 1) p' n' c' top') := by
    have := Bx.new (w.alloc (.cells #[.slice p n c, .int .i64 top] 37)) p' n' c' top' 37
    unfold Hid; rw [hW]; simpa using this
  by_cases hrn : 1048576 < rn
  · have hd : decide ((1048576 : Int) < (rn : Int)) = true := decide_eq_true (by omega)
    go_enter Try.func8, Try.ntmps8
    go_wp2_with fail
    go_ret
    exact ⟨rfl, below2 w _ _⟩
  have hd : decide ((1048576 : Int) < (rn : Int)) = false := decide_eq_false (by omega)
  by_cases hon : 1048576 < on
  · have hd2 : decide ((1048576 : Int) < (on : Int)) = true := decide_eq_true (by omega)
    go_enter Try.func8, Try.ntmps8
    go_wp2_with fail
    go_ret
    exact ⟨rfl, below2 w _ _⟩
  have hd2 : decide ((1048576 : Int) < (on : Int)) = false := decide_eq_false (by omega)
  have hrm : rn ≤ maxLen := by unfold maxLen; omega
  have hom : on ≤ maxLen := by unfold maxLen; omega
  go_enter Try.func8, Try.ntmps8
  go_wp2_with fail
  rw [← hW]
  clear hW hd hd2
  refine (szHeap_c p n c top 1048576 W hsn (by omega) (by omega)).mono ?_
  rintro e w1 ⟨rfl, hb1⟩
  have HB1 : Hid (Below w.heap.size w w1) := HB.out.trans (hb1.mono HB.out.size)
  have HG1 : Hid (Bx w1 (w.heap.size + 1) p' n' c' top') := HG.out.below hb1
  have HA1 : Hid (Bx w1 w.heap.size p n c top) := HA.out.below hb1
  clear hb1
  have g0 := HG1.out.c0
  have g1 := HG1.out.c1
  by_cases hneg : (1048576 : Int) - n < 0
  · rw [show szOf 1048576 n = -1 by unfold szOf; rw [if_pos hneg]]
    go_wp2_with fail
    go_ret
    exact ⟨rfl, HB1.out⟩
  rw [show szOf 1048576 n = 1048576 - n by unfold szOf; rw [if_neg hneg]]
  have hn : n ≤ 1048576 := by omega
  have hnm : n ≤ maxLen := by unfold maxLen; omega
  have hdl : decide ((1048576 : Int) - n < 0) = false := decide_eq_false hneg
  go_wp2_with fail
  clear hdl g0 g1
  refine (szHeap_c p' n' c' top' (1048576 - n) w1 hsn' (by omega) (by omega)).mono ?_
  rintro e w2 ⟨rfl, hb2⟩
  have HB2 : Hid (Below w.heap.size w w2) := HB1.out.trans (hb2.mono HB1.out.size)
  have HG2 : Hid (Bx w2 (w.heap.size + 1) p' n' c' top') := HG1.out.below hb2
  have HA2 : Hid (Bx w2 w.heap.size p n c top) := HA1.out.below hb2
  clear hb2
  by_cases hneg' : (1048576 : Int) - n - n' < 0
  · rw [show szOf (1048576 - n) n' = -1 by unfold szOf; rw [if_pos hneg']]
    go_wp2_with fail
    go_ret
    exact ⟨rfl, HB2.out⟩
  rw [show szOf (1048576 - n) n' = 1048576 - n - n' by unfold szOf; rw [if_neg hneg']]
  have hn' : n' ≤ 1048576 := by omega
  have hnm' : n' ≤ maxLen := by unfold maxLen; omega
  have hdl : decide ((1048576 : Int) - n - n' < 0) = false := decide_eq_false hneg'
  have SK : Hid (∀ wx, Below w2.heap.size w2 wx → (wx.cell? ⟨w.heap.size, 0, none⟩ = some (.slice p n c) ∧ wx.cell? ⟨w.heap.size, 1, none⟩ = some (.int .i64 top)) ∧ wx.cell? ⟨w.heap.size + 1, 0, none⟩ = some (.slice p' n' c') ∧ wx.cell? ⟨w.heap.size + 1, 1, none⟩ = some (.int .i64 top')) := fun wx hb => ⟨(HA2.out.below hb).cells, (HG2.out.below hb).cells⟩
  go_wp2_with fail
  clear hdl
  go_cut [10] from 32 (fun v wc => ∃ b, v = .bool b ∧ (b = true ↔ GoodR ws top rs ∧ GoodR vs top' os ∧ Shp ws rs vs os) ∧ Below w2.heap.size w2 wc)
  case first =>
    have HCUR : Hid (Below w2.heap.size w2 w2.drew) := below_drew (Below.refl _ _)
    go_region_held (fun wx => (wx.cell? ⟨w.heap.size, 0, none⟩ = some (.slice p n c) ∧ wx.cell? ⟨w.heap.size, 1, none⟩ = some (.int .i64 top)) ∧ wx.cell? ⟨w.heap.size + 1, 0, none⟩ = some (.slice p' n' c') ∧ wx.cell? ⟨w.heap.size + 1, 1, none⟩ = some (.int .i64 top')) (exact SK.out _ HCUR.out) (first
      | (go_at_call 22; with_reducible (refine (toHeap_c p n c top ws _ ?y1 hn).mono ?_); (case y1 => exact HI.out.below (HB2.out.trans (HCUR.out.mono HB2.out.size))); rintro e wx ⟨gA, rfl, _, ho, hb⟩; have HOA := Hid.mk' ho; (try (have HOG := Hid.mk' (HOG.out.below hb))); (try (have HOR := Hid.mk' (HOR.out.below hb))); (try (have HOO := Hid.mk' (HOO.out.below hb))); have HCUR := Hid.mk' (HCUR.out.trans (hb.mono HCUR.out.size)); clear ho hb)
      | (go_at_call 22; with_reducible (refine (toHeap_c p' n' c' top' vs _ ?y2 hn').mono ?_); (case y2 => exact HI'.out.below (HB2.out.trans (HCUR.out.mono HB2.out.size))); rintro e wx ⟨gG, rfl, _, ho, hb⟩; have HOG := Hid.mk' ho; (try (have HOA := Hid.mk' (HOA.out.below hb))); (try (have HOR := Hid.mk' (HOR.out.below hb))); (try (have HOO := Hid.mk' (HOO.out.below hb))); have HCUR := Hid.mk' (HCUR.out.trans (hb.mono HCUR.out.size)); clear ho hb)
      | (go_at_call 23; with_reducible (refine (toIntS_c rp rn rc rs _ ?y3 (by omega)).mono ?_); (case y3 => exact HR.out.below (HB2.out.trans (HCUR.out.mono HB2.out.size))); rintro e wx ⟨rfl, ho, hb⟩; have HOR := Hid.mk' ho; (try (have HOA := Hid.mk' (HOA.out.below hb))); (try (have HOG := Hid.mk' (HOG.out.below hb))); (try (have HOO := Hid.mk' (HOO.out.below hb))); have HCUR := Hid.mk' (HCUR.out.trans (hb.mono HCUR.out.size)); clear ho hb)
      | (go_at_call 23; with_reducible (refine (toIntS_c op on oc os _ ?y4 (by omega)).mono ?_); (case y4 => exact HO.out.below (HB2.out.trans (HCUR.out.mono HB2.out.size))); rintro e wx ⟨rfl, ho, hb⟩; have HOO := Hid.mk' ho; (try (have HOA := Hid.mk' (HOA.out.below hb))); (try (have HOG := Hid.mk' (HOG.out.below hb))); (try (have HOR := Hid.mk' (HOR.out.below hb))); have HCUR := Hid.mk' (HCUR.out.trans (hb.mono HCUR.out.size)); clear ho hb)
      | (go_at_call 32; refine (specSameShape_c _ n n top ws _ rn rn rs _ n' n' top' vs _ on on os _ (HOA.out.is HLn.out hnm RG.out) ht0 ht1 (HOR.out.is HLr.out hrm RR.out) (HOG.out.is HLn'.out hnm' RG'.out) ht0' ht1' (HOO.out.is HLo.out hom RO.out) hn hn').mono ?_; rintro e wx ⟨b, rfl, hbb, hb⟩; have HBB := Hid.mk' hbb; have HCUR := Hid.mk' (HCUR.out.trans (hb.mono HCUR.out.size)); clear hbb hb))
    all_goals go_wp2_with fail
    all_goals go_meet
    all_goals exact ⟨_, rfl, HBB.out, HCUR.out⟩
  case rest =>
    obtain ⟨b, rfl, hbb, hbc⟩ := hcut
    have HBB : Hid (b = true ↔ GoodR ws top rs ∧ GoodR vs top' os ∧ Shp ws rs vs os) := hbb
    have HB3 : Hid (Below w.heap.size w wc) := HB2.out.trans (hbc.mono HB2.out.size)
    have HA3 : Hid (Bx wc w.heap.size p n c top) := HA2.out.below hbc
    have HG3 : Hid (Bx wc (w.heap.size + 1) p' n' c' top') := HG2.out.below hbc
    clear hbb hbc SK
    have a0 := HA3.out.c0
    have a1 := HA3.out.c1
    go_wp2_with fail
    refine (toHeap_c p n c top ws wc (HI.out.below HB3.out) hn).mono ?_
    rintro e w5 ⟨gA, rfl, _, ho5, hb5⟩
    obtain ⟨W5, hW5⟩ : ∃ W5, W5 = w5.alloc (.cells #[.slice (some ⟨gA, 0, none⟩) n n, .int .i64 top] 31) := ⟨_, rfl⟩
    have hB5 : Below w5.heap.size w5 W5 := by rw [hW5]; exact below1 _ _
    have HX5 : Hid (Bx W5 w5.heap.size (some ⟨gA, 0, none⟩) n n top) := by unfold Hid; rw [hW5]; exact Bx.new _ _ _ _ _ _
    have hC5 : Below wc.heap.size wc W5 := hb5.trans (hB5.mono hb5.size)
    have HB5 : Hid (Below w.heap.size w W5) := HB3.out.trans (hC5.mono HB3.out.size)
    have HA5 : Hid (Bx W5 w.heap.size p n c top) := HA3.out.below hC5
    have HG5 : Hid (Bx W5 (w.heap.size + 1) p' n' c' top') := HG3.out.below hC5
    have HO5 : Hid (Ro W5 gA n ws) := ho5.below hB5
    clear ho5 hb5 hB5 hC5 a0 a1
    go_wp2_with fail
    rw [← hW5]
    clear hW5
    refine (toIntS_c rp rn rc rs W5 (HR.out.below HB5.out) (by omega)).mono ?_
    rintro e w6 ⟨rfl, ho6, hb6⟩
    obtain ⟨gR, hgR⟩ : ∃ gR, W5.heap.size = gR := ⟨_, rfl⟩
    rw [hgR] at ho6 ⊢
    have HX6 : Hid (Bx w6 w5.heap.size (some ⟨gA, 0, none⟩) n n top) := HX5.out.below hb6
    have HB6 : Hid (Below w.heap.size w w6) := HB5.out.trans (hb6.mono HB5.out.size)
    have HA6 : Hid (Bx w6 w.heap.size p n c top) := HA5.out.below hb6
    have HG6 : Hid (Bx w6 (w.heap.size + 1) p' n' c' top') := HG5.out.below hb6
    have HO6 : Hid (Ro w6 gA n ws) := HO5.out.below hb6
    have HR6 : Hid (Ro w6 gR rn rs) := ho6
    clear ho6 hb6 hgR
    have g0 := HG6.out.c0
    have g1 := HG6.out.c1
    go_wp2_with fail
    refine (toHeap_c p' n' c' top' vs w6 (HI'.out.below HB6.out) hn').mono ?_
    rintro e w7 ⟨gG, rfl, _, ho7, hb7⟩
    obtain ⟨W7, hW7⟩ : ∃ W7, W7 = w7.alloc (.cells #[.slice (some ⟨gG, 0, none⟩) n' n', .int .i64 top'] 31) := ⟨_, rfl⟩
    have hB7 : Below w7.heap.size w7 W7 := by rw [hW7]; exact below1 _ _
    have HY7 : Hid (Bx W7 w7.heap.size (some ⟨gG, 0, none⟩) n' n' top') := by unfold Hid; rw [hW7]; exact Bx.new _ _ _ _ _ _
    have hC7 : Below w6.heap.size w6 W7 := hb7.trans (hB7.mono hb7.size)
    have HB7 : Hid (Below w.heap.size w W7) := HB6.out.trans (hC7.mono HB6.out.size)
    have HA7 : Hid (Bx W7 w.heap.size p n c top) := HA6.out.below hC7
    have HG7 : Hid (Bx W7 (w.heap.size + 1) p' n' c' top') := HG6.out.below hC7
    have HX7 : Hid (Bx W7 w5.heap.size (some ⟨gA, 0, none⟩) n n top) := HX6.out.below hC7
    have HO7 : Hid (Ro W7 gA n ws) := HO6.out.below hC7
    have HR7 : Hid (Ro W7 gR rn rs) := HR6.out.below hC7
    have HQ7 : Hid (Ro W7 gG n' vs) := ho7.below hB7
    clear ho7 hb7 hB7 hC7 g0 g1
    go_wp2_with fail
    rw [← hW7]
    clear hW7
    refine (toIntS_c op on oc os W7 (HO.out.below HB7.out) (by omega)).mono ?_
    rintro e w8 ⟨rfl, ho8, hb8⟩
    obtain ⟨gO, hgO⟩ : ∃ gO, W7.heap.size = gO := ⟨_, rfl⟩
    rw [hgO] at ho8 ⊢
    have HX8 : Hid (Bx w8 w5.heap.size (some ⟨gA, 0, none⟩) n n top) := HX7.out.below hb8
    have HY8 : Hid (Bx w8 w7.heap.size (some ⟨gG, 0, none⟩) n' n' top') := HY7.out.below hb8
    have HB8 : Hid (Below w.heap.size w w8) := HB7.out.trans (hb8.mono HB7.out.size)
    have HA8 : Hid (Bx w8 w.heap.size p n c top) := HA7.out.below hb8
    have HG8 : Hid (Bx w8 (w.heap.size + 1) p' n' c' top') := HG7.out.below hb8
    have HO8 : Hid (Ro w8 gA n ws) := HO7.out.below hb8
    have HR8 : Hid (Ro w8 gR rn rs) := HR7.out.below hb8
    have HQ8 : Hid (Ro w8 gG n' vs) := HQ7.out.below hb8
    have HT8 : Hid (Ro w8 gO on os) := ho8
    clear ho8 hb8 hgO
    have x0 := HX8.out.c0
    have x1 := HX8.out.c1
    have y0 := HY8.out.c0
    have y1 := HY8.out.c1
    go_wp2_with fail
    refine (implSameShape_c _ n n top ws _ rn rn rs _ n' n' top' vs _ on on os w8 (HO8.out.is HLn.out hnm RG.out) ht0 ht1 (HR8.out.is HLr.out hrm RR.out) (HQ8.out.is HLn'.out hnm' RG'.out) ht0' ht1' (HT8.out.is HLo.out hom RO.out)).mono ?_
    rintro e w9 ⟨b', rfl, hbb, hb9⟩
    obtain rfl : b' = b := by
      have h1 := HBB.out
      cases b <;> cases b' <;> simp_all
    have HF9 : Hid (Below w8.heap.size w8 w9) := hb9
    have HB9 : Hid (Below w.heap.size w w9) := HB8.out.trans (hb9.mono HB8.out.size)
    have HX9 : Hid (Bx w9 w5.heap.size (some ⟨gA, 0, none⟩) n n top) := HX8.out.below hb9
    have HY9 : Hid (Bx w9 w7.heap.size (some ⟨gG, 0, none⟩) n' n' top') := HY8.out.below hb9
    have HA9 : Hid (Bx w9 w.heap.size p n c top) := HA8.out.below hb9
    have HG9 : Hid (Bx w9 (w.heap.size + 1) p' n' c' top') := HG8.out.below hb9
    have HO9 : Hid (Ro w9 gA n ws) := HO8.out.below hb9
    have HR9 : Hid (Ro w9 gR rn rs) := HR8.out.below hb9
    have HQ9 : Hid (Ro w9 gG n' vs) := HQ8.out.below hb9
    have HT9 : Hid (Ro w9 gO on os) := HT8.out.below hb9
    clear hbb hb9 x0 x1 y0 y1 HBB
    have hbn : (b' != b') = false := by simp
    have SK : Hid (∀ wx, Below w9.heap.size w9 wx → (wx.cell? ⟨w.heap.size, 0, none⟩ = some (.slice p n c) ∧ wx.cell? ⟨w.heap.size, 1, none⟩ = some (.int .i64 top)) ∧ wx.cell? ⟨w5.heap.size, 0, none⟩ = some (.slice (some ⟨gA, 0, none⟩) n n) ∧ wx.cell? ⟨w5.heap.size, 1, none⟩ = some (.int .i64 top)) := fun wx hb => ⟨(HA9.out.below hb).cells, (HX9.out.below hb).cells⟩
    go_wp2_with fail
    clear hbn
    go_cut [61] from 57 (fun v wd => v = .bool false ∧ Below w9.heap.size w9 wd)
    case first =>
      have HCUR : Hid (Below w9.heap.size w9 w9.drew) := below_drew (Below.refl _ _)
      go_region_held (fun wx => (wx.cell? ⟨w.heap.size, 0, none⟩ = some (.slice p n c) ∧ wx.cell? ⟨w.heap.size, 1, none⟩ = some (.int .i64 top)) ∧ wx.cell? ⟨w5.heap.size, 0, none⟩ = some (.slice (some ⟨gA, 0, none⟩) n n) ∧ wx.cell? ⟨w5.heap.size, 1, none⟩ = some (.int .i64 top)) (exact SK.out _ HCUR.out) (first
        | (go_at_call 22; refine (toHeap_c p n c top ws _ ?y1 hn).mono ?_; (case y1 => exact HI.out.below (HB9.out.trans (HCUR.out.mono HB9.out.size))); rintro e wx ⟨gB, rfl, _, ho, hb⟩; have HOB := Hid.mk' ho; have HCUR := Hid.mk' (HCUR.out.trans (hb.mono HCUR.out.size)); clear ho hb)
        | (go_at_call 17; refine (eqHeap_c _ _ n n n top ws _ ((HO9.out.below HCUR.out).is HLn.out hnm RG.out) (HOB.out.is HLn.out hnm RG.out)).mono ?_; rintro e wx ⟨rfl, hb⟩; have HCUR := Hid.mk' (HCUR.out.trans (hb.mono HCUR.out.size)); clear hb))
      all_goals go_wp2_with fail
      all_goals go_meet
      all_goals exact ⟨rfl, HCUR.out⟩
    case rest =>
      obtain ⟨rfl, hbc⟩ := hcut
      rename World => wD
      have HBD : Hid (Below w.heap.size w wD) := HB9.out.trans (hbc.mono HB9.out.size)
      have HGD : Hid (Bx wD (w.heap.size + 1) p' n' c' top') := HG9.out.below hbc
      have HYD : Hid (Bx wD w7.heap.size (some ⟨gG, 0, none⟩) n' n' top') := HY9.out.below hbc
      have HRD : Hid (Ro wD gR rn rs) := HR9.out.below hbc
      have HQD : Hid (Ro wD gG n' vs) := HQ9.out.below hbc
      have HTD : Hid (Ro wD gO on os) := HT9.out.below hbc
      clear hbc SK
      go_wp2_with fail
      refine (toIntS_c rp rn rc rs wD (HR.out.below HBD.out) (by omega)).mono ?_
      rintro e w11 ⟨rfl, ho11, hb11⟩
      have HO11 : Hid (Ro w11 wD.heap.size rn rs) := ho11
      have HR11 : Hid (Ro w11 gR rn rs) := HRD.out.below hb11
      have HB11 : Hid (Below wD.heap.size wD w11) := hb11
      clear ho11 hb11
      go_wp2_with fail
      refine (eqIntS_c _ _ rn rn rn rs _ (HR11.out.is HLr.out hrm RR.out) (HO11.out.is HLr.out hrm RR.out)).mono ?_
      rintro e w12 ⟨rfl, q12, hw12⟩
      have hb12 : Below w11.heap.size w11 w12 := by rw [hw12]; exact below_drewN' (Below.refl _ _) q12
      have hC12 : Below wD.heap.size wD w12 := HB11.out.trans (hb12.mono HB11.out.size)
      have HB12 : Hid (Below w.heap.size w w12) := HBD.out.trans (hC12.mono HBD.out.size)
      have HG12 : Hid (Bx w12 (w.heap.size + 1) p' n' c' top') := HGD.out.below hC12
      have HY12 : Hid (Bx w12 w7.heap.size (some ⟨gG, 0, none⟩) n' n' top') := HYD.out.below hC12
      have HQ12 : Hid (Ro w12 gG n' vs) := HQD.out.below hC12
      have HT12 : Hid (Ro w12 gO on os) := HTD.out.below hC12
      clear hw12 hb12 hC12
      have SK : Hid (∀ wx, Below w12.heap.size w12 wx → (wx.cell? ⟨w.heap.size + 1, 0, none⟩ = some (.slice p' n' c') ∧ wx.cell? ⟨w.heap.size + 1, 1, none⟩ = some (.int .i64 top')) ∧ wx.cell? ⟨w7.heap.size, 0, none⟩ = some (.slice (some ⟨gG, 0, none⟩) n' n') ∧ wx.cell? ⟨w7.heap.size, 1, none⟩ = some (.int .i64 top')) := fun wx hb => ⟨(HG12.out.below hb).cells, (HY12.out.below hb).cells⟩
      go_wp2_with fail
      go_cut [71] from 67 (fun v wd => v = .bool false ∧ Below w12.heap.size w12 wd)
      case first =>
        have HCUR : Hid (Below w12.heap.size w12 w12.drew) := below_drew (Below.refl _ _)
        go_region_held (fun wx => (wx.cell? ⟨w.heap.size + 1, 0, none⟩ = some (.slice p' n' c') ∧ wx.cell? ⟨w.heap.size + 1, 1, none⟩ = some (.int .i64 top')) ∧ wx.cell? ⟨w7.heap.size, 0, none⟩ = some (.slice (some ⟨gG, 0, none⟩) n' n') ∧ wx.cell? ⟨w7.heap.size, 1, none⟩ = some (.int .i64 top')) (exact SK.out _ HCUR.out) (first
          | (go_at_call 22; refine (toHeap_c p' n' c' top' vs _ ?y1 hn').mono ?_; (case y1 => exact HI'.out.below (HB12.out.trans (HCUR.out.mono HB12.out.size))); rintro e wx ⟨gB, rfl, _, ho, hb⟩; have HOB := Hid.mk' ho; have HCUR := Hid.mk' (HCUR.out.trans (hb.mono HCUR.out.size)); clear ho hb)
          | (go_at_call 17; refine (eqHeap_c _ _ n' n' n' top' vs _ ((HQ12.out.below HCUR.out).is HLn'.out hnm' RG'.out) (HOB.out.is HLn'.out hnm' RG'.out)).mono ?_; rintro e wx ⟨rfl, hb⟩; have HCUR := Hid.mk' (HCUR.out.trans (hb.mono HCUR.out.size)); clear hb))
        all_goals go_wp2_with fail
        all_goals go_meet
        all_goals exact ⟨rfl, HCUR.out⟩
      case rest =>
        obtain ⟨rfl, hbc⟩ := hcut
        rename World => wE
        have HBE : Hid (Below w.heap.size w wE) := HB12.out.trans (hbc.mono HB12.out.size)
        have HTE : Hid (Ro wE gO on os) := HT12.out.below hbc
        clear hbc SK
        go_wp2_with fail
        refine (toIntS_c op on oc os wE (HO.out.below HBE.out) (by omega)).mono ?_
        rintro e w13 ⟨rfl, ho13, hb13⟩
        have HO13 : Hid (Ro w13 wE.heap.size on os) := ho13
        have HT13 : Hid (Ro w13 gO on os) := HTE.out.below hb13
        have HB13 : Hid (Below w.heap.size w w13) := HBE.out.trans (hb13.mono HBE.out.size)
        clear ho13 hb13
        go_wp2_with fail
        refine (eqIntS_c _ _ on on on os _ (HT13.out.is HLo.out hom RO.out) (HO13.out.is HLo.out hom RO.out)).mono ?_
        rintro e w14 ⟨rfl, q14, hw14⟩
        have HB14 : Hid (Below w.heap.size w w14) := by unfold Hid; rw [hw14]; exact HB13.out.trans ((below_drewN' (Below.refl _ _) q14).mono HB13.out.size)
        clear hw14
        go_wp2_with fail
        go_ret
        exact ⟨rfl, HB14.out⟩
end Go.Proofs.Ytpfodinoeoejcaa
