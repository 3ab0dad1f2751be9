import Derived.Test.YtleeldjncobheaaDoorS8
namespace Go.Proofs.YtleeldjncobheaaDoor
open Go.RowKit Ch1 Ch2s
/-- The contract of l2show at a depth. -/
def ShowS (w0 : World) (p : Option Addr) (n c : Nat) (top : Int) (ws : List Int) (np : Option Addr) (nn nc : Nat) (ns : List (List Int)) (f : Nat) : Prop :=
  ∀ (x : Int) (q : Option Addr) (L d : Nat) (xs : List Int) (w : World), L = xs.length → Ow w w0.heap.size (.slice q L d) xs → Below w0.heap.size w0 w → Hp.Ch2.WordOk ws top.toNat x → (-9223372036854775808 ≤ x ∧ x ≤ 9223372036854775807) → 1001 - L ≤ f → L ≤ 2000000 →
    Calls Tryd.prog 35 #[.agg #[.slice p n c, .int .i64 top], .int .i64 x, .slice np nn nc, .slice q L d] w fun e w' => SP w0.heap.size (shS itoaZ (symZ ns) rareZ ws f x xs) w w' e
theorem rareA_size (k : Int) : (rareA k).size ≤ 6 := by
  unfold rareA
  split
  · decide
  · split
    · decide
    · split
      · decide
      · split <;> decide
theorem rare_bound {L : Nat} (h : L < 1000) (k : Int) : L + (rareA k).size ≤ 1000000000 := by have := rareA_size k; omega
section
variable {w0 : World} {p : Option Addr} {n c : Nat} {top : Int} {ws : List Int} {np : Option Addr} {nn nc : Nat} {ns : List (List Int)}
set_option maxRecDepth 20000 in
set_option maxHeartbeats 1000000 in
theorem shows_full (x : Int) (q : Option Addr) (L d : Nat) (xs : List Int) (w : World) (hO : Ow w w0.heap.size (.slice q L d) xs) (hB : w0.heap.size ≤ w.heap.size) (hx : 1000 ≤ L) (hL : L ≤ 2000000) :
    Calls Tryd.prog 35 #[.agg #[.slice p n c, .int .i64 top], .int .i64 x, .slice np nn nc, .slice q L d] w fun e w' => SP w0.heap.size xs w w' e := by
  have HO : Hid (Ow w w0.heap.size (.slice q L d) xs) := hO
  have hx2 : decide ((1000 : Int) ≤ L) = true := decide_eq_true (by omega)
  have hx3 : decide (1000 ≤ L) = true := decide_eq_true hx
  clear hO
  go_enter Tryd.func35, Tryd.ntmps35
  go_wp2
  go_ret
  exact SP.of (HO.out.below (below1 _ _)) (Kp.of_below (below1 _ _) hB)
theorem tdiv_mul (x : Int) (h : x % 4 = 0) : x.tdiv 4 = x / 4 := Int.tdiv_eq_ediv_of_dvd (Int.dvd_of_emod_eq_zero h)
set_option maxRecDepth 20000 in
set_option maxHeartbeats 4000000 in
theorem shows_num (x : Int) (hx4 : x % 4 = 0) (hr : -9223372036854775808 ≤ x ∧ x ≤ 9223372036854775807) (q : Option Addr) (L d : Nat) (xs : List Int) (w : World) (hLx : L = xs.length) (hO : Ow w w0.heap.size (.slice q L d) xs) (hB : w0.heap.size ≤ w.heap.size) (hx : L < 1000) :
    Calls Tryd.prog 35 #[.agg #[.slice p n c, .int .i64 top], .int .i64 x, .slice np nn nc, .slice q L d] w fun e w' => SP w0.heap.size (xs ++ itoaZ (x / 4)) w w' e := by
  have HO : Hid (Ow w w0.heap.size (.slice q L d) xs) := hO
  have HL : Hid (L = xs.length) := hLx
  have hq := tdiv_mul x hx4
  have hx2 : decide ((1000 : Int) ≤ L) = false := decide_eq_false (by omega)
  have hx3 : decide (1000 ≤ L) = false := decide_eq_false (by omega)
  have hln : (itoaZ (x / 4)).length ≤ 1000 := by
    have := small_itoa (x / 4) (by omega) (by omega)
    have e : (itoaZ (x / 4)).length = (⟨(Lib.itoa (x / 4)).toArray⟩ : ByteArray).size := by unfold itoaZ; rw [nums_length]; rfl
    omega
  have h1 := hr.1
  have h2 := hr.2
  have h3 : -2305843009213693952 ≤ x / 4 := by omega
  have h4 : x / 4 ≤ 2305843009213693951 := by omega
  obtain ⟨k, hk⟩ : ∃ k, k = x / 4 := ⟨_, rfl⟩
  rw [← hk] at hq hln h3 h4 ⊢
  clear hO hLx hr hk
  go_enter Tryd.func35, Tryd.ntmps35
  go_wp2_with (go_at_call 52; refine (Hp.l2tag_c x _).mono ?_; rintro e w1 ⟨rfl, hw1⟩; rw [hx4]; subst hw1)
  refine (dec24 k (by omega) (by omega) _).mono ?_
  rintro e w1 ⟨b1, o1, c1, rfl, hy, hb1⟩
  have HB1 : Hid (Below w.heap.size w w1) := (below1 w _).trans (hb1.mono (below1 w _).size)
  have HY : Hid (By w1 (some ⟨b1, o1, none⟩) (itoaZ k).length c1 (itoaZ k)) := hy
  have hs1 := Nat.le_trans hB HB1.out.size
  have HLn : Hid (xs.length + (itoaZ k).length ≤ 1000000000) := by unfold Hid; rw [← HL.out]; omega
  clear hy hb1
  go_wp2_with (at_builtin; refine app2_law _ rfl (.tmp 24) (.tmp 27) rfl w0.heap.size (.slice q L d) xs (itoaZ k) (by simp [Act.eval]) (by exact HO.out.below HB1.out) b1 o1 (itoaZ k).length c1 (by simp [Act.eval]) HY.out HLn.out hs1 ?_; intro v' w' ho hg hbt; have HO2 : Hid (Ow w' w0.heap.size v' (xs ++ itoaZ k)) := ho; have HK : Hid (Kp w0.heap.size w w') := (Kp.of_below HB1.out hB).trans (Kp.app (HO.out.below HB1.out) hg hbt); clear ho hg hbt)
  go_ret
  exact SP.of HO2.out HK.out
set_option maxRecDepth 20000 in
set_option maxHeartbeats 4000000 in
theorem shows_symY (hC : Cx w0 p n c top ws np nn nc ns) (x : Int) (hx4 : x % 4 = 2) (h0 : 0 ≤ x) (h1 : x ≤ 9223372036854775807) (q : Option Addr) (L d : Nat) (xs : List Int) (w : World) (hLx : L = xs.length) (hO : Ow w w0.heap.size (.slice q L d) xs) (hb : Below w0.heap.size w0 w) (hx : L < 1000) (hlt : x / 4 < nn) :
    Calls Tryd.prog 35 #[.agg #[.slice p n c, .int .i64 top], .int .i64 x, .slice np nn nc, .slice q L d] w fun e w' => SP w0.heap.size (xs ++ symZ ns (x / 4)) w w' e := by
  have HO : Hid (Ow w w0.heap.size (.slice q L d) xs) := hO
  have HL : Hid (L = xs.length) := hLx
  have hx2 : decide ((1000 : Int) ≤ L) = false := decide_eq_false (by omega)
  have hx3 : decide (1000 ≤ L) = false := decide_eq_false (by omega)
  have hB := hb.size
  obtain ⟨j, hj⟩ := Int.eq_ofNat_of_zero_le (show 0 ≤ x / 4 by omega)
  have HZ : Hid (symZ ns (x / 4) = ns.getD j []) := by unfold Hid symZ; rw [if_pos (by have := hC.nm.len; omega), hj]; rfl
  obtain ⟨nb, no, rfl, hnb, hcell⟩ := (hC.nm.below hb).cells (by omega)
  obtain ⟨nq, m, nd, e0, hy⟩ := hcell j (by omega)
  have HY : Hid (By w nq m nd (ns.getD j [])) := hy
  have hm : m ≤ 1048576 := by have h1 := hy.len; have h2 := hC.nl j; omega
  have hs := small_ofS hC.nm.cap hC.nm.big
  have hjn : j < nn := by omega
  have y0 := fun o1 => cell_keep (below1 w o1) hnb e0
  clear hO hLx hC hb hy hcell hlt
  go_enter Tryd.func35, Tryd.ntmps35
  go_wp2_with (first | (go_at_call 52; refine (Hp.l2tag_c x _).mono ?_; rintro e w1 ⟨rfl, hw1⟩; rw [hx4]; subst hw1) | (at_builtin; refine appN_law _ rfl (.tmp 36) (.tmp 41) rfl w0.heap.size (.slice q L d) xs (ns.getD j []) (by simp [Act.eval]) (by exact HO.out.below (below1 _ _)) nq m nd (by simp [Act.eval]) (HY.out.below (below1 _ _)) (by rw [← HL.out]; omega) (Nat.le_trans hB (below1 _ _).size) ?_; intro v' w' ho hg hbt; have HO2 : Hid (Ow w' w0.heap.size v' (xs ++ ns.getD j [])) := ho; have HK : Hid (Kp w0.heap.size w w') := (Kp.of_below (below1 _ _) hB).trans (Kp.app (HO.out.below (below1 _ _)) hg hbt); clear ho hg hbt))
  go_ret
  exact SP.of (by rw [HZ.out]; exact HO2.out) HK.out
set_option maxRecDepth 20000 in
set_option maxHeartbeats 4000000 in
theorem shows_symN (hC : Cx w0 p n c top ws np nn nc ns) (x : Int) (hx4 : x % 4 = 2) (h0 : 0 ≤ x) (h1 : x ≤ 9223372036854775807) (q : Option Addr) (L d : Nat) (xs : List Int) (w : World) (hLx : L = xs.length) (hO : Ow w w0.heap.size (.slice q L d) xs) (hb : Below w0.heap.size w0 w) (hx : L < 1000) (hlt : ¬ x / 4 < nn) :
    Calls Tryd.prog 35 #[.agg #[.slice p n c, .int .i64 top], .int .i64 x, .slice np nn nc, .slice q L d] w fun e w' => SP w0.heap.size (xs ++ symZ ns (x / 4)) w w' e := by
  have HO : Hid (Ow w w0.heap.size (.slice q L d) xs) := hO
  have HL : Hid (L = xs.length) := hLx
  have hx2 : decide ((1000 : Int) ≤ L) = false := decide_eq_false (by omega)
  have hx3 : decide (1000 ≤ L) = false := decide_eq_false (by omega)
  have hB := hb.size
  have HZ : Hid (xs ++ symZ ns (x / 4) = (xs ++ [115, 121, 109]) ++ itoaZ (x / 4)) := by unfold Hid symZ; rw [if_neg (by have := hC.nm.len; omega), List.append_assoc]
  have hs := small_ofS hC.nm.cap hC.nm.big
  have hln : (itoaZ (x / 4)).length ≤ 1000 := by
    have := small_itoa (x / 4) (by omega) (by omega)
    have e : (itoaZ (x / 4)).length = (⟨(Lib.itoa (x / 4)).toArray⟩ : ByteArray).size := by unfold itoaZ; rw [nums_length]; rfl
    omega
  have hd1 : decide (x / 4 < (nn : Int)) = false := decide_eq_false hlt
  clear hO hLx hC hb hlt
  go_enter Tryd.func35, Tryd.ntmps35
  go_wp2_with (first | (go_at_call 52; refine (Hp.l2tag_c x _).mono ?_; rintro e w1 ⟨rfl, hw1⟩; rw [hx4]; subst hw1) | (at_builtin; refine appS3_law _ rfl (.tmp 43) _ rfl w0.heap.size (.slice q L d) xs [115, 121, 109] (by simp [Act.eval]) (by exact HO.out.below (below1 _ _)) ⟨#[115, 121, 109]⟩ (by simp [Act.eval]) rfl (by rw [← HL.out]; show L + 3 ≤ _; omega) (Nat.le_trans hB (below1 _ _).size) ?_; intro v' w' ho hg hbt; have HO2 : Hid (Ow w' w0.heap.size v' (xs ++ [115, 121, 109])) := ho; have HK : Hid (Kp w0.heap.size w w') := (Kp.of_below (below1 _ _) hB).trans (Kp.app (HO.out.below (below1 _ _)) hg hbt); clear ho hg hbt))
  refine (dec24 (x / 4) (by omega) (by omega) _).mono ?_
  rintro e w3 ⟨b1, o1, c1, rfl, hy, hb1⟩
  have HB1 : Hid (Below w'.heap.size w' w3) := hb1
  have HY : Hid (By w3 (some ⟨b1, o1, none⟩) (itoaZ (x / 4)).length c1 (itoaZ (x / 4))) := hy
  have HBB : Hid (w0.heap.size ≤ w'.heap.size) := Nat.le_trans hB HK.out.below.size
  have hs1 := Nat.le_trans HBB.out HB1.out.size
  clear hy hb1
  go_wp2_with (at_builtin; refine app2_law _ rfl (.tmp 44) (.tmp 47) rfl w0.heap.size v' (xs ++ [115, 121, 109]) (itoaZ (x / 4)) (by simp [Act.eval]) (by exact HO2.out.below HB1.out) b1 o1 (itoaZ (x / 4)).length c1 (by simp [Act.eval]) HY.out (by rw [List.length_append, ← HL.out]; simp; omega) hs1 ?_; intro v3 w4 ho hg hbt; have HO3 : Hid (Ow w4 w0.heap.size v3 ((xs ++ [115, 121, 109]) ++ itoaZ (x / 4))) := ho; have HK3 : Hid (Kp w0.heap.size w w4) := (HK.out.trans (Kp.of_below HB1.out HBB.out)).trans (Kp.app (HO2.out.below HB1.out) hg hbt); clear ho hg hbt)
  go_ret
  exact SP.of (by rw [HZ.out]; exact HO3.out) HK3.out
set_option maxRecDepth 20000 in
set_option maxHeartbeats 4000000 in
theorem shows_rare (x : Int) (hx4 : x % 4 = 3) (h0 : 3 ≤ x) (h1 : x ≤ 19) (q : Option Addr) (L d : Nat) (xs : List Int) (w : World) (hLx : L = xs.length) (hO : Ow w w0.heap.size (.slice q L d) xs) (hB : w0.heap.size ≤ w.heap.size) (hx : L < 1000) :
    Calls Tryd.prog 35 #[.agg #[.slice p n c, .int .i64 top], .int .i64 x, .slice np nn nc, .slice q L d] w fun e w' => SP w0.heap.size (xs ++ rareZ (x / 4)) w w' e := by
  have HO : Hid (Ow w w0.heap.size (.slice q L d) xs) := hO
  have HL : Hid (L = xs.length) := hLx
  have hx2 : decide ((1000 : Int) ≤ L) = false := decide_eq_false (by omega)
  have hx3 : decide (1000 ≤ L) = false := decide_eq_false (by omega)
  clear hO hLx
  rcases (show x = 3 ∨ x = 7 ∨ x = 11 ∨ x = 15 ∨ x = 19 by omega) with rfl | rfl | rfl | rfl | rfl
  all_goals
    go_enter Tryd.func35, Tryd.ntmps35
    go_wp2_with (first | (go_at_call 52; refine (Hp.l2tag_c _ _).mono ?_; rintro e w1 ⟨rfl, hw1⟩; rw [hx4]; subst hw1) | (at_builtin; refine appS3_law _ rfl (.tmp 52) (.tmp 57) rfl w0.heap.size (.slice q L d) xs (rareZ _) (by simp [Act.eval]) (by exact HO.out.below (below2 _ _ _)) (rareA _) (by simp [Act.eval]; first | rfl | exact (rfl : _ = rareA 0) | exact (rfl : _ = rareA 1) | exact (rfl : _ = rareA 2) | exact (rfl : _ = rareA 3) | exact (rfl : _ = rareA 4)) rfl (by rw [← HL.out]; exact rare_bound hx _) (Nat.le_trans hB (below2 _ _ _).size) ?_; intro v' w' ho hg hbt; have HO2 : Hid (Ow w' w0.heap.size v' (xs ++ rareZ _)) := ho; have HK : Hid (Kp w0.heap.size w w') := (Kp.of_below (below2 _ _ _) hB).trans (Kp.app (HO.out.below (below2 _ _ _)) hg hbt); clear ho hg hbt))
    go_ret
    exact SP.of HO2.out HK.out
set_option maxRecDepth 20000 in
set_option maxHeartbeats 4000000 in
theorem shows_proc (hI : Hp.Is w0 p n c ws) (x : Int) (hx4 : x % 4 = 1) (h0 : 0 ≤ x) (h1 : x ≤ 9223372036854775807) (a : Nat) (ha : x / 4 = a) (han : a < n) (hh : 0 ≤ ws.getD a 0) (hk : ws.getD a 0 % 4 = 2) (q : Option Addr) (L d : Nat) (xs : List Int) (w : World) (hLx : L = xs.length) (hO : Ow w w0.heap.size (.slice q L d) xs) (hb : Below w0.heap.size w0 w) (hx : L < 1000) :
    Calls Tryd.prog 35 #[.agg #[.slice p n c, .int .i64 top], .int .i64 x, .slice np nn nc, .slice q L d] w fun e w' => SP w0.heap.size (xs ++ [35, 112, 114, 111, 99]) w w' e := by
  have HO : Hid (Ow w w0.heap.size (.slice q L d) xs) := hO
  have HL : Hid (L = xs.length) := hLx
  have hx2 : decide ((1000 : Int) ≤ L) = false := decide_eq_false (by omega)
  have hx3 : decide (1000 ≤ L) = false := decide_eq_false (by omega)
  have hB := hb.size
  have hn := (hI.below hb).small.1
  obtain ⟨b, o, rfl, hbl, hc⟩ := (hI.below hb).cells (by omega)
  have ca := hc a han
  have y0 := fun o1 => cell_keep (below1 w o1) hbl ca
  generalize ws.getD a 0 = hd at hh hk ca y0
  have ian : (a : Int) < n := by omega
  clear hO hLx hI hb hc
  go_enter Tryd.func35, Tryd.ntmps35
  go_wp2_with (first | (go_at_call 52; refine (Hp.l2tag_c x _).mono ?_; rintro e w1 ⟨rfl, hw1⟩; rw [hx4]; subst hw1) | (at_builtin; refine appS3_law _ rfl (.tmp 69) _ rfl w0.heap.size (.slice q L d) xs [35, 112, 114, 111, 99] (by simp [Act.eval]) (by exact HO.out.below (below1 _ _)) ⟨#[35, 112, 114, 111, 99]⟩ (by simp [Act.eval]) rfl (by rw [← HL.out]; show L + 5 ≤ _; omega) (Nat.le_trans hB (below1 _ _).size) ?_; intro v' w' ho hg hbt; have HO2 : Hid (Ow w' w0.heap.size v' (xs ++ [35, 112, 114, 111, 99])) := ho; have HK : Hid (Kp w0.heap.size w w') := (Kp.of_below (below1 _ _) hB).trans (Kp.app (HO.out.below (below1 _ _)) hg hbt); clear ho hg hbt))
  go_ret
  exact SP.of HO2.out HK.out
set_option maxRecDepth 20000 in
set_option maxHeartbeats 4000000 in
theorem shows_box (hI : Hp.Is w0 p n c ws) (x : Int) (hx4 : x % 4 = 1) (h0 : 0 ≤ x) (h1 : x ≤ 9223372036854775807) (a : Nat) (ha : x / 4 = a) (han : a < n) (hh : 0 ≤ ws.getD a 0) (hk : ws.getD a 0 % 4 = 3) (q : Option Addr) (L d : Nat) (xs : List Int) (w : World) (hLx : L = xs.length) (hO : Ow w w0.heap.size (.slice q L d) xs) (hb : Below w0.heap.size w0 w) (hx : L < 1000) :
    Calls Tryd.prog 35 #[.agg #[.slice p n c, .int .i64 top], .int .i64 x, .slice np nn nc, .slice q L d] w fun e w' => SP w0.heap.size (xs ++ [35, 98, 111, 120]) w w' e := by
  have HO : Hid (Ow w w0.heap.size (.slice q L d) xs) := hO
  have HL : Hid (L = xs.length) := hLx
  have hx2 : decide ((1000 : Int) ≤ L) = false := decide_eq_false (by omega)
  have hx3 : decide (1000 ≤ L) = false := decide_eq_false (by omega)
  have hB := hb.size
  have hn := (hI.below hb).small.1
  obtain ⟨b, o, rfl, hbl, hc⟩ := (hI.below hb).cells (by omega)
  have ca := hc a han
  have y0 := fun o1 => cell_keep (below1 w o1) hbl ca
  generalize ws.getD a 0 = hd at hh hk ca y0
  have ian : (a : Int) < n := by omega
  clear hO hLx hI hb hc
  go_enter Tryd.func35, Tryd.ntmps35
  go_wp2_with (first | (go_at_call 52; refine (Hp.l2tag_c x _).mono ?_; rintro e w1 ⟨rfl, hw1⟩; rw [hx4]; subst hw1) | (at_builtin; refine appS3_law _ rfl (.tmp 73) _ rfl w0.heap.size (.slice q L d) xs [35, 98, 111, 120] (by simp [Act.eval]) (by exact HO.out.below (below1 _ _)) ⟨#[35, 98, 111, 120]⟩ (by simp [Act.eval]) rfl (by rw [← HL.out]; show L + 4 ≤ _; omega) (Nat.le_trans hB (below1 _ _).size) ?_; intro v' w' ho hg hbt; have HO2 : Hid (Ow w' w0.heap.size v' (xs ++ [35, 98, 111, 120])) := ho; have HK : Hid (Kp w0.heap.size w w') := (Kp.of_below (below1 _ _) hB).trans (Kp.app (HO.out.below (below1 _ _)) hg hbt); clear ho hg hbt))
  go_ret
  exact SP.of HO2.out HK.out
end
end Go.Proofs.YtleeldjncobheaaDoor
