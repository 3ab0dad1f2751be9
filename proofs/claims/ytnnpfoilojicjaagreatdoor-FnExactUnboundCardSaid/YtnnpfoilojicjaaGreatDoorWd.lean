import Derived.Test.YtnnpfoilojicjaaGreatDoorW8
import Derived.Deep.RegionWith
namespace Go.Proofs.YtnnpfoilojicjaaGreatDoor
open Go.RowKit Ch1
theorem below_drewN' {B : Nat} {a w : World} (h : Below B a w) (q : Nat) : Below B a (w.drewN q) := ⟨h.os, h.tape, h.output, h.size, h.block⟩
set_option maxHeartbeats 1000000 in
theorem eqDatum19 (k n c : Int) (p1 p2 : Option Addr) (tn c1 c2 : Nat) (xs : List Int) (w : World) (h1 : By w p1 tn c1 xs) (h2 : By w p2 tn c2 xs) :
  Calls Tryz.prog 22 #[.agg #[.int .i64 k, .int .i64 n, .slice p1 tn c1, .int .i64 c], .agg #[.int .i64 k, .int .i64 n, .slice p2 tn c2, .int .i64 c]] w fun e w' => e = .returned (.bool true) ∧ Below w.heap.size w w' := by
 have H1 : Hid (By w p1 tn c1 xs) := h1
 have H2 : Hid (By w p2 tn c2 xs) := h2
 clear h1 h2
 go_enter Tryz.func22, Tryz.ntmps22
 go_wp2_with (go_at_call 21; refine (eqByte32 _ _ _ _ _ xs _ (by exact H1.out.below (below2 w _ _)) (by exact H2.out.below (below2 w _ _))).mono ?_; rintro e w1 ⟨rfl, q, hw1⟩; have hw2 := hw1.symm; clear hw1; subst hw2)
 go_ret
 exact ⟨rfl, below_drewN' (below2 w _ _) q⟩
set_option maxHeartbeats 1000000 in
theorem eqDatumS9 (p1 p2 : Option Addr) (n c1 c2 : Nat) (ds : List Dt) (w : World) (h1 : Da w p1 n c1 ds) (h2 : Da w p2 n c2 ds) :
  Calls Tryz.prog 9 #[.slice p1 n c1, .slice p2 n c2] w fun e w' => e = .returned (.bool true) ∧ Below w.heap.size w w' := by
 have hbig : n ≤ 9223372036854775807 := by have := h1.cap; have := h1.big; unfold maxLen at this; omega
 have H1 : Hid (Da w p1 n c1 ds) := h1
 have H2 : Hid (Da w p2 n c2 ds) := h2
 clear h1 h2
 go_enter Tryz.func9, Tryz.ntmps9
 go_wp2
 go_loopw [5] (fun i wr => ∃ k : Nat, k ≤ n ∧ i = .int .i64 k ∧ Hid (Below w.heap.size w wr)) (fun i _ => n - (intOf i).toNat)
 case atStart => exact ⟨0, Nat.zero_le _, rfl, Below.refl _ _⟩
 case round =>
  obtain ⟨k, hk, rfl, hb⟩ := hrel
  by_cases hlt : k < n
  ·obtain ⟨b, o, rfl, hbl, g⟩ := H1.out.cells (by omega)
   obtain ⟨tp, tn, tc, he⟩ := g k hlt
   obtain ⟨b', o', rfl, hbl', g'⟩ := H2.out.cells (by omega)
   obtain ⟨tp', tn', tc', he'⟩ := g' k hlt
   have e1 := he.by_.len
   have e2 := he'.by_.len
   obtain rfl : tn = tn' := by omega
   clear g g' e1 e2
   replace he := he.below (w' := wr) hbl hb.out
   replace he' := he'.below (w' := wr) hbl' hb.out
   generalize ds.getD k dt0 = d at he he'
   have HY : Hid (By wr tp tn tc d.text) := he.by_
   have HY' : Hid (By wr tp' tn tc' d.text) := he'.by_
   have e0 := he.c0
   have e1 := he.c1
   have e2 := he.c2
   have e3 := he.c3
   have f0 := he'.c0
   have f1 := he'.c1
   have f2 := he'.c2
   have f3 := he'.c3
   clear he he'
   go_wp2
   go_region_with (go_at_call 22; refine (eqDatum19 _ _ _ tp tp' tn tc tc' d.text _ ?y1 ?y2).mono ?_; (case y1 => exact HY.out.below (below_drewN' (Below.refl _ _) _)); (case y2 => exact HY'.out.below (below_drewN' (Below.refl _ _) _)); rintro e w1 ⟨rfl, hb1⟩)
   all_goals
    go_wp2
    exact ⟨⟨k + 1, by omega, by go_num, hb.out.trans ((Below.refl _ wr).drew.trans (hb1.mono hb.out.size))⟩, by simp [intOf]; omega⟩
  ·go_wp2
   go_ret
   exact ⟨rfl, hb.out⟩
theorem Da.nil {w : World} {p : Option Addr} {c : Nat} {ds : List Dt} (h : Da w p 0 c ds) : ds = [] := List.length_eq_zero_iff.1 h.len
theorem Da.head {w : World} {p : Option Addr} {m c : Nat} {d : Dt} {r : List Dt} (h : Da w p (m + 1) c (d :: r)) : ∃ b o tp tn tc, p = some ⟨b, o, none⟩ ∧ b < w.heap.size ∧ El w b o d tp tn tc := by
 obtain ⟨b, o, e, hb, g⟩ := h.cells (by omega)
 obtain ⟨tp, tn, tc, he⟩ := g 0 (by omega)
 exact ⟨b, o, tp, tn, tc, e, hb, by simpa using he⟩
theorem Da.tail {w : World} {b o m c : Nat} {d : Dt} {r : List Dt} (h : Da w (some ⟨b, o, none⟩) (m + 1) (c + 1) (d :: r)) : Da w (some ⟨b, o + 4, none⟩) m c r := by
 have h1 := h.len; have h2 := h.cap; have h3 := h.big
 refine ⟨by simpa using h1, by omega, by omega, fun hm => ?_⟩
 obtain ⟨b', o', e, hb, g⟩ := h.cells (by omega)
 cases e
 refine ⟨b, o + 4, rfl, hb, fun i hi => ?_⟩
 obtain ⟨tp, tn, tc, he⟩ := g (i + 1) (by omega)
 refine ⟨tp, tn, tc, ?_⟩
 rw [show o + 4 + i * 4 = o + (i + 1) * 4 by omega]
 simpa using he
theorem Da.last {w : World} {p p' : Option Addr} {m : Nat} {d : Dt} {r : List Dt} (h : Da w p (m + 1) 1 (d :: r)) : m = 0 ∧ Da w p' 0 0 r := by
 have h1 := h.len; have h2 := h.cap
 obtain rfl : m = 0 := by omega
 exact ⟨rfl, by simpa using h1, Nat.le_refl _, by unfold maxLen; omega, fun h => absurd h (Nat.lt_irrefl 0)⟩
def Out (o : Option (List Dt)) (e : Ending) (w' : World) : Prop := match o with
 | none => e = .returned (.tuple #[.slice none 0 0, .bool false])
 | some r => ∃ p n c, e = .returned (.tuple #[.slice p n c, .bool true]) ∧ Da w' p n c r
set_option maxHeartbeats 1000000 in
theorem behind18_nil (deep : Nat) (p : Option Addr) (c : Nat) (a : Int) (w : World) :
  Calls Tryz.prog 47 #[.slice p 0 c, .int .i64 a] w fun e w' => Out (skip deep []) e w' ∧ Below w.heap.size w w' := by
 have HO : Hid (skip deep [] = none) := skip_nil deep
 go_enter Tryz.func47, Tryz.ntmps47
 go_wp2
 go_ret2
 rw [HO.out]
 exact ⟨rfl, Below.refl _ _⟩
set_option maxHeartbeats 1000000 in
theorem behind18_bad (deep : Nat) (p : Option Addr) (m c : Nat) (d : Dt) (r : List Dt) (a : Int) (w : World) (hD : Da w p (m + 1) c (d :: r)) (hg : goodB d = false) :
  Calls Tryz.prog 47 #[.slice p (m + 1) c, .int .i64 a] w fun e w' => Out (skip deep (d :: r)) e w' ∧ Below w.heap.size w w' := by
 have HO : Hid (skip deep (d :: r) = none) := skip_bad deep d r hg
 obtain ⟨b, o, tp, tn, tc, rfl, hbl, he⟩ := hD.head
 have HY : Hid (By w tp tn tc d.text) := he.by_
 have e0 := he.c0
 have e1 := he.c1
 have e2 := he.c2
 have e3 := he.c3
 have hm : ((m : Int) + 1 == 0) = false := beq_eq_false_iff_ne.2 (by omega)
 clear hD he
 go_enter Tryz.func47, Tryz.ntmps47
 go_wp2_with (go_at_call 87; refine (alone31 d _ _ _ _ HY.out).mono ?_; rintro e w1 ⟨rfl, hb1⟩; rw [hg])
 go_ret2
 rw [HO.out]
 exact ⟨rfl, hb1⟩
theorem Da.rest {w : World} {b o m c : Nat} {d : Dt} {r : List Dt} (h : Da w (some ⟨b, o, none⟩) (m + 1) (c + 1) (d :: r)) : ∃ p1, (if c = 0 then (some ⟨b, o, none⟩ : Option Addr) else some ⟨b, o + 4, none⟩) = p1 ∧ Da w p1 m c r := by
 by_cases hc : c = 0
 ·subst hc
  obtain ⟨rfl, h'⟩ := h.last (p' := some ⟨b, o, none⟩)
  exact ⟨_, if_pos rfl, h'⟩
 ·exact ⟨_, if_neg hc, h.tail⟩
set_option maxHeartbeats 1000000 in
theorem behind18_atom (deep : Nat) (b o m c : Nat) (d : Dt) (r : List Dt) (a : Int) (w : World) (hD : Da w (some ⟨b, o, none⟩) (m + 1) (c + 1) (d :: r)) (hg : goodB d = true) (hk : (d.kind != 3) = true) :
  Calls Tryz.prog 47 #[.slice (some ⟨b, o, none⟩) (m + 1) (c + 1), .int .i64 a] w fun e w' => Out (skip deep (d :: r)) e w' ∧ Below w.heap.size w w' := by
 have HO : Hid (skip deep (d :: r) = some r) := skip_atom deep d r hg (by simpa using hk)
 obtain ⟨p1, hp1, hT⟩ := hD.rest
 have HT : Hid (Da w p1 m c r) := hT
 obtain ⟨b', o', tp, tn, tc, e, hbl, he⟩ := hD.head
 cases e
 have HY : Hid (By w tp tn tc d.text) := he.by_
 have hcap : m + 1 ≤ c + 1 := hD.cap
 have hbig : c + 1 ≤ 9223372036854775807 := by have := hD.big; unfold maxLen at this; omega
 have HE : Hid (El w b o d tp tn tc) := he
 have e0 := he.c0
 have e1 := he.c1
 have e2 := he.c2
 have e3 := he.c3
 have hm : ((m : Int) + 1 == 0) = false := beq_eq_false_iff_ne.2 (by omega)
 clear hD he hT
 go_enter Tryz.func47, Tryz.ntmps47
 go_wp2_with (go_at_call 87; refine (alone31 d _ _ _ _ HY.out).mono ?_; rintro e w1 ⟨rfl, hb1⟩; rw [hg]; clear e0 e1 e2 e3; have e0 := (HE.out.below hbl hb1).c0; have e1 := (HE.out.below hbl hb1).c1; have e2 := (HE.out.below hbl hb1).c2; have e3 := (HE.out.below hbl hb1).c3; have hlt1 : b < w1.heap.size := Nat.lt_of_lt_of_le hbl hb1.size)
 have h1m : (1 : Int) ≤ (m : Int) + 1 := by omega
 go_region
 go_wp2
 go_ret2
 rw [HO.out]
 have hB : Below w.heap.size w (w1.alloc (.cells #[.int .i64 d.kind, .int .i64 d.n, .slice tp tn tc, .int .i64 d.count] 47)).drew := (hb1.alloc hb1.size _).drew
 exact ⟨⟨_, _, _, rfl, HT.out.below hB⟩, hB⟩
set_option maxHeartbeats 1000000 in
theorem behind18_deep (b o m c : Nat) (d : Dt) (r : List Dt) (w : World) (hD : Da w (some ⟨b, o, none⟩) (m + 1) (c + 1) (d :: r)) (hg : goodB d = true) (hk : d.kind = 3) :
  Calls Tryz.prog 47 #[.slice (some ⟨b, o, none⟩) (m + 1) (c + 1), .int .i64 100] w fun e w' => Out (skip 0 (d :: r)) e w' ∧ Below w.heap.size w w' := by
 have HO : Hid (skip 0 (d :: r) = none) := skip_deep d r hk
 have hk' : (d.kind != 3) = false := by simp [hk]
 clear hk
 obtain ⟨p1, hp1, hT⟩ := hD.rest
 obtain ⟨b', o', tp, tn, tc, e, hbl, he⟩ := hD.head
 cases e
 have HY : Hid (By w tp tn tc d.text) := he.by_
 have hcap : m + 1 ≤ c + 1 := hD.cap
 have hbig : c + 1 ≤ 9223372036854775807 := by have := hD.big; unfold maxLen at this; omega
 have HE : Hid (El w b o d tp tn tc) := he
 have e0 := he.c0
 have e1 := he.c1
 have e2 := he.c2
 have e3 := he.c3
 have hm : ((m : Int) + 1 == 0) = false := beq_eq_false_iff_ne.2 (by omega)
 clear hD he hT
 go_enter Tryz.func47, Tryz.ntmps47
 go_wp2_with (go_at_call 87; refine (alone31 d _ _ _ _ HY.out).mono ?_; rintro e w1 ⟨rfl, hb1⟩; rw [hg]; clear e0 e1 e2 e3; have e0 := (HE.out.below hbl hb1).c0; have e1 := (HE.out.below hbl hb1).c1; have e2 := (HE.out.below hbl hb1).c2; have e3 := (HE.out.below hbl hb1).c3; have hlt1 : b < w1.heap.size := Nat.lt_of_lt_of_le hbl hb1.size)
 have h1m : (1 : Int) ≤ (m : Int) + 1 := by omega
 go_region
 go_wp2
 go_ret2
 rw [HO.out]
 exact ⟨rfl, (hb1.alloc hb1.size _).drew⟩
theorem good_count {d : Dt} (hg : goodB d = true) (hk : d.kind = 3) : 0 ≤ d.count := by
 obtain ⟨kind, n, t, count⟩ := d
 simp only at hk
 subst hk
 rw [good_list n count t t.length rfl] at hg
 simp at hg
 exact hg.2
set_option maxHeartbeats 2000000 in
theorem behind18_list (deep : Nat) (b o m c : Nat) (d : Dt) (r : List Dt) (a : Int) (w : World) (h0 : 0 ≤ a) (h1 : a < 100)
  (ih : ∀ (p : Option Addr) (n c : Nat) (ds : List Dt) (w : World), Da w p n c ds → Calls Tryz.prog 47 #[.slice p n c, .int .i64 (a + 1)] w fun e w' => Out (skip deep ds) e w' ∧ Below w.heap.size w w')
  (hD : Da w (some ⟨b, o, none⟩) (m + 1) (c + 1) (d :: r)) (hg : goodB d = true) (hk : d.kind = 3) :
  Calls Tryz.prog 47 #[.slice (some ⟨b, o, none⟩) (m + 1) (c + 1), .int .i64 a] w fun e w' => Out (skip (deep + 1) (d :: r)) e w' ∧ Below w.heap.size w w' := by
 have HO : Hid (skip (deep + 1) (d :: r) = skipN (skip deep) d.count.toNat r) := skip_list deep d r hg hk
 have IH : Hid (∀ (p : Option Addr) (n c : Nat) (ds : List Dt) (w : World), Da w p n c ds → Calls Tryz.prog 47 #[.slice p n c, .int .i64 (a + 1)] w fun e w' => Out (skip deep ds) e w' ∧ Below w.heap.size w w') := ih
 clear ih
 have ha : (a == 100) = false := beq_eq_false_iff_ne.2 (by omega)
 have hcnt : 0 ≤ d.count := good_count hg hk
 have hk' : (d.kind != 3) = false := by simp [hk]
 clear hk
 obtain ⟨p1, hp1, hT⟩ := hD.rest
 have HT : Hid (Da w p1 m c r) := hT
 obtain ⟨b', o', tp, tn, tc, e, hbl, he⟩ := hD.head
 cases e
 have HY : Hid (By w tp tn tc d.text) := he.by_
 have hcap : m + 1 ≤ c + 1 := hD.cap
 have hbig : c + 1 ≤ 9223372036854775807 := by have := hD.big; unfold maxLen at this; omega
 have HE : Hid (El w b o d tp tn tc) := he
 have hhi : d.count ≤ 9223372036854775807 := he.hi
 have e0 := he.c0
 have e1 := he.c1
 have e2 := he.c2
 have e3 := he.c3
 have hm : ((m : Int) + 1 == 0) = false := beq_eq_false_iff_ne.2 (by omega)
 clear hD he hT
 go_enter Tryz.func47, Tryz.ntmps47
 go_wp2_with (go_at_call 87; refine (alone31 d _ _ _ _ HY.out).mono ?_; rintro e w1 ⟨rfl, hb1⟩; rw [hg]; clear e0 e1 e2 e3; have e0 := (HE.out.below hbl hb1).c0; have e1 := (HE.out.below hbl hb1).c1; have e2 := (HE.out.below hbl hb1).c2; have e3 := (HE.out.below hbl hb1).c3; have hlt1 : b < w1.heap.size := Nat.lt_of_lt_of_le hbl hb1.size)
 have h1m : (1 : Int) ≤ (m : Int) + 1 := by omega
 go_region
 have HB : Hid (Below w.heap.size w (w1.alloc (.cells #[.int .i64 d.kind, .int .i64 d.n, .slice tp tn tc, .int .i64 d.count] 47)).drew) := (hb1.alloc hb1.size _).drew
 clear e0 e1 e2 e3 hb1
 go_wp2
 go_loopw [7, 33] (fun rest i wr => ∃ (k : Nat) (q : List Dt) (p' : Option Addr) (n' c' : Nat), (k : Int) ≤ d.count ∧ i = .int .i64 k ∧ rest = .slice p' n' c' ∧ Hid (skipN (skip deep) k r = some q) ∧ Hid (Da wr p' n' c' q) ∧ Hid (Below w.heap.size w wr)) (fun _ i _ => (d.count - intOf i).toNat)
 case atStart => exact ⟨0, r, p1, m, c, hcnt, rfl, rfl, rfl, HT.out.below HB.out, HB⟩
 case round =>
  clear HB HT HE HY hp1
  obtain ⟨k, q, p', n', c', hk, rfl, rfl, hs, hD, hb⟩ := hrel
  by_cases hlt : (k : Int) < d.count
  ·cases hsk : skip deep q with
   | none =>
    have HSK : Hid (skip deep q = none) := hsk
    have HF : Hid (skipN (skip deep) d.count.toNat r = none) := by
     have e : skipN (skip deep) (k + 1) r = none := by rw [skipN_succ_right, hs.out]; exact hsk
     have := skipN_none_mono _ (k + 1) (d.count.toNat - (k + 1)) r e
     rwa [show k + 1 + (d.count.toNat - (k + 1)) = d.count.toNat by omega] at this
    clear hsk
    go_wp2_with (go_at_call 47; refine (IH.out p' n' c' q _ hD.out).mono ?_; rintro e w2 ⟨ho, hb2⟩; rw [HSK.out] at ho; simp only [Out] at ho; subst ho)
    go_ret2
    rw [HO.out, HF.out]
    exact ⟨rfl, hb.out.trans (hb2.mono hb.out.size)⟩
   | some q' =>
    have HSK : Hid (skip deep q = some q') := hsk
    clear hsk
    go_wp2_with (go_at_call 47; refine (IH.out p' n' c' q _ hD.out).mono ?_; rintro e w2 ⟨ho, hb2⟩; rw [HSK.out] at ho; simp only [Out] at ho; obtain ⟨p2, n2, c2, rfl, hD2⟩ := ho; have HD2 : Hid (Da w2 p2 n2 c2 q') := hD2; clear hD2)
    refine ⟨⟨k + 1, q', p2, n2, c2, by omega, by go_num, rfl, ?_, HD2, hb.out.trans (hb2.mono hb.out.size)⟩, by simp [intOf]; omega⟩
    show skipN (skip deep) (k + 1) r = some q'
    rw [skipN_succ_right, hs.out]
    exact HSK.out
  ·have hke : (k : Int) = d.count := by omega
   have HK : Hid ((k : Int) = d.count) := hke
   clear hke
   go_wp2
   go_ret2
   rw [HO.out, ← HK.out, Int.toNat_natCast, hs.out]
   exact ⟨⟨_, _, _, rfl, hD.out⟩, hb.out⟩
theorem behind18 (deep : Nat) : ∀ (a : Int), a = 100 - deep → deep ≤ 100 → ∀ (p : Option Addr) (n c : Nat) (ds : List Dt) (w : World), Da w p n c ds →
  Calls Tryz.prog 47 #[.slice p n c, .int .i64 a] w fun e w' => Out (skip deep ds) e w' ∧ Below w.heap.size w w' := by
 induction deep with
 | zero =>
  intro a ha _ p n c ds w hD
  cases ds with
  | nil =>
   obtain rfl : n = 0 := hD.len.symm
   exact behind18_nil 0 p c a w
  | cons d r =>
   obtain ⟨m, rfl⟩ : ∃ m, n = m + 1 := ⟨r.length, hD.len.symm⟩
   cases hg : goodB d
   ·exact behind18_bad 0 p m c d r a w hD hg
   ·obtain ⟨c', rfl⟩ : ∃ c', c = c' + 1 := ⟨c - 1, by have := hD.cap; omega⟩
    obtain ⟨b, o, _, _, _, rfl, _, _⟩ := hD.head
    by_cases hk : d.kind = 3
    ·obtain rfl : a = 100 := by omega
     exact behind18_deep b o m c' d r w hD hg hk
    ·exact behind18_atom 0 b o m c' d r a w hD hg (by simpa using hk)
 | succ deep ih =>
  intro a ha hle p n c ds w hD
  cases ds with
  | nil =>
   obtain rfl : n = 0 := hD.len.symm
   exact behind18_nil (deep + 1) p c a w
  | cons d r =>
   obtain ⟨m, rfl⟩ : ∃ m, n = m + 1 := ⟨r.length, hD.len.symm⟩
   cases hg : goodB d
   ·exact behind18_bad (deep + 1) p m c d r a w hD hg
   ·obtain ⟨c', rfl⟩ : ∃ c', c = c' + 1 := ⟨c - 1, by have := hD.cap; omega⟩
    obtain ⟨b, o, _, _, _, rfl, _, _⟩ := hD.head
    by_cases hk : d.kind = 3
    ·exact behind18_list deep b o m c' d r a w (by omega) (by omega) (ih (a + 1) (by omega) (by omega)) hD hg hk
    ·exact behind18_atom (deep + 1) b o m c' d r a w hD hg (by simpa using hk)
theorem drop_cons (ds : List Dt) (i : Nat) (h : i < ds.length) : ds.drop i = ds.getD i dt0 :: ds.drop (i + 1) := by
 rw [List.drop_eq_getElem_cons h]; simp [List.getD, List.getElem?_eq_getElem h]
theorem endZ_past (ds : List Dt) (k i : Nat) (h : ds.length ≤ i) : endZ ds k i = -1 := by
 unfold endZ; rw [List.drop_eq_nil_of_le h, skip_nil]
theorem endZ_bad (ds : List Dt) (k i : Nat) (h : i < ds.length) (hg : goodB (ds.getD i dt0) = false) : endZ ds k i = -1 := by
 unfold endZ; rw [drop_cons ds i h, skip_bad _ _ _ hg]
theorem good_atom {d : Dt} (hg : goodB d = true) (hk : d.kind ≠ 3) : d.count = 0 := by
 obtain ⟨kind, n, t, count⟩ := d
 simp only at hk
 by_cases h0 : kind = 0
 ·subst h0; rw [good_int n count t t.length rfl] at hg; simp at hg; exact hg.2
 by_cases h1 : kind = 1
 ·subst h1; rw [good_bool n count t t.length rfl] at hg; simp at hg; exact hg.2
 by_cases h2 : kind = 2
 ·subst h2; rw [good_sym n count t] at hg; simp at hg; exact hg.2
 rw [good_other kind n count t (beq_eq_false_iff_ne.2 h0) (beq_eq_false_iff_ne.2 h1) (beq_eq_false_iff_ne.2 h2) (beq_eq_false_iff_ne.2 hk)] at hg
 cases hg
theorem endZ_many (ds : List Dt) (k i : Nat) (h : i < ds.length) (hg : goodB (ds.getD i dt0) = true) (hc : (ds.length : Int) < (ds.getD i dt0).count) : endZ ds k i = -1 := by
 have hk : (ds.getD i dt0).kind = 3 := by
  by_cases hk : (ds.getD i dt0).kind = 3
  ·exact hk
  ·have := good_atom hg hk; omega
 unfold endZ
 rw [drop_cons ds i h]
 cases k with
 | zero => rw [skip_deep _ _ hk]
 | succ k =>
  rw [skip_list k _ _ hg hk, skipN_many (skip_eats k)]
  rw [List.length_drop]; omega
theorem endZ_atom (ds : List Dt) (k i : Nat) (h : i < ds.length) (hg : goodB (ds.getD i dt0) = true) (hk : (ds.getD i dt0).kind ≠ 3) : endZ ds k i = i + 1 := by
 unfold endZ; rw [drop_cons ds i h, skip_atom _ _ _ hg hk]
 simp only [List.length_drop]; omega
theorem endZ_deep (ds : List Dt) (i : Nat) (h : i < ds.length) (hk : (ds.getD i dt0).kind = 3) : endZ ds 0 i = -1 := by
 unfold endZ; rw [drop_cons ds i h, skip_deep _ _ hk]
theorem endZ_list_none (ds : List Dt) (k i : Nat) (h : i < ds.length) (hg : goodB (ds.getD i dt0) = true) (hk : (ds.getD i dt0).kind = 3)
  (hs : skipN (skip k) (ds.getD i dt0).count.toNat (ds.drop (i + 1)) = none) : endZ ds (k + 1) i = -1 := by
 unfold endZ; rw [drop_cons ds i h, skip_list k _ _ hg hk, hs]
theorem endZ_list_some (ds : List Dt) (k i j : Nat) (h : i < ds.length) (hg : goodB (ds.getD i dt0) = true) (hk : (ds.getD i dt0).kind = 3) (hj : j ≤ ds.length)
  (hs : skipN (skip k) (ds.getD i dt0).count.toNat (ds.drop (i + 1)) = some (ds.drop j)) : endZ ds (k + 1) i = j := by
 unfold endZ; rw [drop_cons ds i h, skip_list k _ _ hg hk, hs]
 simp only [List.length_drop]; omega
theorem endZ_some (ds : List Dt) (k i : Nat) (r : List Dt) (h : skip k (ds.drop i) = some r) : ∃ j, i < j ∧ j ≤ ds.length ∧ r = ds.drop j ∧ endZ ds k i = j := by
 obtain ⟨a, h1, h2, rfl⟩ := skip_eats k _ _ h
 rw [List.length_drop] at h2
 refine ⟨i + a, by omega, by omega, by rw [List.drop_drop], ?_⟩
 unfold endZ; rw [h]
 simp only [List.length_drop]; omega
theorem endZ_none (ds : List Dt) (k i : Nat) (h : skip k (ds.drop i) = none) : endZ ds k i = -1 := by
 unfold endZ; rw [h]
theorem Da.at {w : World} {p : Option Addr} {n c : Nat} {ds : List Dt} (h : Da w p n c ds) {i : Nat} (hi : i < n) : ∃ b o tp tn tc, p = some ⟨b, o, none⟩ ∧ b < w.heap.size ∧ El w b (o + i * 4) (ds.getD i dt0) tp tn tc := by
 obtain ⟨b, o, e, hb, g⟩ := h.cells (by omega)
 obtain ⟨tp, tn, tc, he⟩ := g i hi
 exact ⟨b, o, tp, tn, tc, e, hb, he⟩
set_option maxHeartbeats 1000000 in
theorem end16_past (deep : Nat) (p : Option Addr) (n c i : Nat) (ds : List Dt) (a : Int) (w : World) (hD : Da w p n c ds) (hi : n ≤ i) :
  Calls Tryz.prog 26 #[.slice p n c, .int .i64 i, .int .i64 a] w fun e w' => e = .returned (.int .i64 (endZ ds deep i)) ∧ Below w.heap.size w w' := by
 have HF : Hid (endZ ds deep i = -1) := endZ_past ds deep i (by rw [hD.len]; exact hi)
 clear hD
 go_enter Tryz.func26, Tryz.ntmps26
 go_wp2
 go_ret
 exact ⟨ret_int HF.out.symm, Below.refl _ _⟩
set_option maxHeartbeats 1000000 in
theorem end16_bad (deep : Nat) (p : Option Addr) (n c i : Nat) (ds : List Dt) (a : Int) (w : World) (hD : Da w p n c ds) (hi : i < n) (hg : goodB (ds.getD i dt0) = false) :
  Calls Tryz.prog 26 #[.slice p n c, .int .i64 i, .int .i64 a] w fun e w' => e = .returned (.int .i64 (endZ ds deep i)) ∧ Below w.heap.size w w' := by
 have HF : Hid (endZ ds deep i = -1) := endZ_bad ds deep i (by rw [hD.len]; exact hi) hg
 have hdec : decide ((n : Int) ≤ (i : Int)) = false := by simp; omega
 obtain ⟨b, o, tp, tn, tc, rfl, hbl, he⟩ := hD.at hi
 generalize ds.getD i dt0 = d at he hg
 have HY : Hid (By w tp tn tc d.text) := he.by_
 have e0 := he.c0
 have e1 := he.c1
 have e2 := he.c2
 have e3 := he.c3
 clear hD he
 go_enter Tryz.func26, Tryz.ntmps26
 go_wp2_with (go_at_call 37; refine (good29 d _ _ _ _ HY.out).mono ?_; rintro e w1 ⟨rfl, hb1⟩; rw [hg])
 go_ret
 exact ⟨ret_int HF.out.symm, hb1⟩
set_option maxHeartbeats 1000000 in
theorem end16_many (deep : Nat) (p : Option Addr) (n c i : Nat) (ds : List Dt) (a : Int) (w : World) (hD : Da w p n c ds) (hi : i < n) (hg : goodB (ds.getD i dt0) = true) (hc : (n : Int) < (ds.getD i dt0).count) :
  Calls Tryz.prog 26 #[.slice p n c, .int .i64 i, .int .i64 a] w fun e w' => e = .returned (.int .i64 (endZ ds deep i)) ∧ Below w.heap.size w w' := by
 have HF : Hid (endZ ds deep i = -1) := endZ_many ds deep i (by rw [hD.len]; exact hi) hg (by rw [hD.len]; exact hc)
 have hdec : decide ((n : Int) ≤ (i : Int)) = false := by simp; omega
 obtain ⟨b, o, tp, tn, tc, rfl, hbl, he⟩ := hD.at hi
 generalize ds.getD i dt0 = d at he hg hc
 have hdec2 : decide ((n : Int) < d.count) = true := by simpa using hc
 have HE : Hid (El w b (o + i * 4) d tp tn tc) := he
 have HY : Hid (By w tp tn tc d.text) := he.by_
 have e0 := he.c0
 have e1 := he.c1
 have e2 := he.c2
 have e3 := he.c3
 clear hD he
 go_enter Tryz.func26, Tryz.ntmps26
 go_wp2_with (go_at_call 37; refine (good29 d _ _ _ _ HY.out).mono ?_; rintro e w1 ⟨rfl, hb1⟩; rw [hg]; clear e0 e1 e2 e3; have e3 := (HE.out.below hbl hb1).c3)
 go_ret
 exact ⟨ret_int HF.out.symm, hb1⟩
set_option maxHeartbeats 1000000 in
theorem end16_atom (deep : Nat) (p : Option Addr) (n c i : Nat) (ds : List Dt) (a : Int) (w : World) (hD : Da w p n c ds) (hi : i < n) (hg : goodB (ds.getD i dt0) = true) (hc : (ds.getD i dt0).count ≤ (n : Int)) (hk : (ds.getD i dt0).kind ≠ 3) :
  Calls Tryz.prog 26 #[.slice p n c, .int .i64 i, .int .i64 a] w fun e w' => e = .returned (.int .i64 (endZ ds deep i)) ∧ Below w.heap.size w w' := by
 have HF : Hid (endZ ds deep i = i + 1) := endZ_atom ds deep i (by rw [hD.len]; exact hi) hg hk
 have hdec : decide ((n : Int) ≤ (i : Int)) = false := by simp; omega
 have hbig : n ≤ 9223372036854775807 := by have := hD.cap; have := hD.big; unfold maxLen at this; omega
 obtain ⟨b, o, tp, tn, tc, rfl, hbl, he⟩ := hD.at hi
 generalize ds.getD i dt0 = d at he hg hc hk
 have hdec2 : decide ((n : Int) < d.count) = false := by simp; omega
 have hk' : (d.kind != 3) = true := by simpa using hk
 clear hk
 have HE : Hid (El w b (o + i * 4) d tp tn tc) := he
 have HY : Hid (By w tp tn tc d.text) := he.by_
 have e0 := he.c0
 have e1 := he.c1
 have e2 := he.c2
 have e3 := he.c3
 clear hD he
 go_enter Tryz.func26, Tryz.ntmps26
 go_wp2_with (go_at_call 37; refine (good29 d _ _ _ _ HY.out).mono ?_; rintro e w1 ⟨rfl, hb1⟩; rw [hg]; clear e0 e1 e2 e3; have e0 := (HE.out.below hbl hb1).c0; have e3 := (HE.out.below hbl hb1).c3)
 go_ret
 exact ⟨ret_int HF.out.symm, hb1⟩
set_option maxHeartbeats 1000000 in
theorem end16_deep (p : Option Addr) (n c i : Nat) (ds : List Dt) (w : World) (hD : Da w p n c ds) (hi : i < n) (hg : goodB (ds.getD i dt0) = true) (hc : (ds.getD i dt0).count ≤ (n : Int)) (hk : (ds.getD i dt0).kind = 3) :
  Calls Tryz.prog 26 #[.slice p n c, .int .i64 i, .int .i64 0] w fun e w' => e = .returned (.int .i64 (endZ ds 0 i)) ∧ Below w.heap.size w w' := by
 have HF : Hid (endZ ds 0 i = -1) := endZ_deep ds i (by rw [hD.len]; exact hi) hk
 have hdec : decide ((n : Int) ≤ (i : Int)) = false := by simp; omega
 obtain ⟨b, o, tp, tn, tc, rfl, hbl, he⟩ := hD.at hi
 generalize ds.getD i dt0 = d at he hg hc hk
 have hdec2 : decide ((n : Int) < d.count) = false := by simp; omega
 have hk' : (d.kind != 3) = false := by simp [hk]
 clear hk
 have HE : Hid (El w b (o + i * 4) d tp tn tc) := he
 have HY : Hid (By w tp tn tc d.text) := he.by_
 have e0 := he.c0
 have e1 := he.c1
 have e2 := he.c2
 have e3 := he.c3
 clear hD he
 go_enter Tryz.func26, Tryz.ntmps26
 go_wp2_with (go_at_call 37; refine (good29 d _ _ _ _ HY.out).mono ?_; rintro e w1 ⟨rfl, hb1⟩; rw [hg]; clear e0 e1 e2 e3; have e0 := (HE.out.below hbl hb1).c0; have e3 := (HE.out.below hbl hb1).c3)
 go_ret
 exact ⟨ret_int HF.out.symm, hb1⟩
set_option maxHeartbeats 2000000 in
theorem end16_list (deep : Nat) (p : Option Addr) (n c i : Nat) (ds : List Dt) (a : Int) (w : World) (h0 : 0 < a) (h1 : a ≤ 100)
  (ih : ∀ (p : Option Addr) (n c i : Nat) (ds : List Dt) (w : World), Da w p n c ds → i ≤ n → Calls Tryz.prog 26 #[.slice p n c, .int .i64 i, .int .i64 (a - 1)] w fun e w' => e = .returned (.int .i64 (endZ ds deep i)) ∧ Below w.heap.size w w')
  (hD : Da w p n c ds) (hi : i < n) (hg : goodB (ds.getD i dt0) = true) (hc : (ds.getD i dt0).count ≤ (n : Int)) (hk : (ds.getD i dt0).kind = 3) :
  Calls Tryz.prog 26 #[.slice p n c, .int .i64 i, .int .i64 a] w fun e w' => e = .returned (.int .i64 (endZ ds (deep + 1) i)) ∧ Below w.heap.size w w' := by
 have HN : Hid (skipN (skip deep) (ds.getD i dt0).count.toNat (ds.drop (i + 1)) = none → endZ ds (deep + 1) i = -1) := endZ_list_none ds deep i (by rw [hD.len]; exact hi) hg hk
 have HS : Hid (∀ j, j ≤ n → skipN (skip deep) (ds.getD i dt0).count.toNat (ds.drop (i + 1)) = some (ds.drop j) → endZ ds (deep + 1) i = j) := fun j hj => endZ_list_some ds deep i j (by rw [hD.len]; exact hi) hg hk (by rw [hD.len]; exact hj)
 have IH : Hid (∀ (p : Option Addr) (n c i : Nat) (ds : List Dt) (w : World), Da w p n c ds → i ≤ n → Calls Tryz.prog 26 #[.slice p n c, .int .i64 i, .int .i64 (a - 1)] w fun e w' => e = .returned (.int .i64 (endZ ds deep i)) ∧ Below w.heap.size w w') := ih
 have HD : Hid (Da w p n c ds) := hD
 have hcnt : 0 ≤ (ds.getD i dt0).count := good_count hg hk
 clear ih
 have hdec : decide (n ≤ i) = false := by simp; omega
 have hbig : n ≤ 9223372036854775807 := by have := hD.cap; have := hD.big; unfold maxLen at this; omega
 have ha : (a == 0) = false := beq_eq_false_iff_ne.2 (by omega)
 obtain ⟨b, o, tp, tn, tc, rfl, hbl, he⟩ := hD.at hi
 generalize ds.getD i dt0 = d at he hg hc hk HN HS hcnt
 have hdec2 : decide ((n : Int) < d.count) = false := by simp; omega
 have hk' : (d.kind != 3) = false := by simp [hk]
 clear hk
 have HE : Hid (El w b (o + i * 4) d tp tn tc) := he
 have HY : Hid (By w tp tn tc d.text) := he.by_
 have e0 := he.c0
 have e1 := he.c1
 have e2 := he.c2
 have e3 := he.c3
 clear hD he
 go_enter Tryz.func26, Tryz.ntmps26
 go_wp2_with (go_at_call 37; refine (good29 d _ _ _ _ HY.out).mono ?_; rintro e w1 ⟨rfl, hb1⟩; rw [hg]; clear e0 e1 e2 e3; have e0 := (HE.out.below hbl hb1).c0; have e3 := (HE.out.below hbl hb1).c3)
 have HB : Hid (Below w.heap.size w w1) := hb1
 clear e0 e3 hb1
 go_loopw [7, 8] (fun at_ kk wr => ∃ (k j : Nat), (k : Int) ≤ d.count ∧ j ≤ n ∧ kk = .int .i64 k ∧ at_ = .int .i64 j ∧ Hid (skipN (skip deep) k (ds.drop (i + 1)) = some (ds.drop j)) ∧ Hid (Below w.heap.size w wr)) (fun _ kk _ => (d.count - intOf kk).toNat)
 case atStart => exact ⟨0, i + 1, hcnt, by omega, rfl, by go_num, rfl, HB⟩
 case round =>
  clear HB
  obtain ⟨k, j, hk, hj, rfl, rfl, hs, hb⟩ := hrel
  have e3 := (HE.out.below hbl hb.out).c3
  by_cases hlt : (k : Int) < d.count
  ·cases hsk : skip deep (ds.drop j) with
   | none =>
    have HSK : Hid (endZ ds deep j = -1) := endZ_none ds deep j hsk
    have HF : Hid (endZ ds (deep + 1) i = -1) := HN.out (by
     have e : skipN (skip deep) (k + 1) (ds.drop (i + 1)) = none := by rw [skipN_succ_right, hs.out]; exact hsk
     have := skipN_none_mono _ (k + 1) (d.count.toNat - (k + 1)) _ e
     rwa [show k + 1 + (d.count.toNat - (k + 1)) = d.count.toNat by omega] at this)
    clear hsk
    go_wp2_with (go_at_call 26; refine (IH.out _ n c j ds _ (by exact HD.out.below hb.out) hj).mono ?_; rintro e w2 ⟨rfl, hb2⟩; rw [HSK.out])
    go_ret
    exact ⟨ret_int HF.out.symm, hb.out.trans (hb2.mono hb.out.size)⟩
   | some q =>
    obtain ⟨j', hj1, hj2, hq, hez⟩ := endZ_some ds deep j q hsk
    have HSK : Hid (endZ ds deep j = j') := hez
    have HQ : Hid (skip deep (ds.drop j) = some (ds.drop j')) := by unfold Hid; rw [hsk, hq]
    have hj3 : j' ≤ n := by have := HD.out.len; omega
    clear hsk hez hq hj2
    go_wp2_with (go_at_call 26; refine (IH.out _ n c j ds _ (by exact HD.out.below hb.out) hj).mono ?_; rintro e w2 ⟨rfl, hb2⟩; rw [HSK.out])
    go_roundw
    case rel =>
     refine ⟨k + 1, j', by omega, hj3, by go_num, rfl, ?_, hb.out.trans (hb2.mono hb.out.size)⟩
     show skipN (skip deep) (k + 1) (ds.drop (i + 1)) = some (ds.drop j')
     rw [skipN_succ_right, hs.out]
     exact HQ.out
    case measure => simp [intOf]; omega
  ·have HK : Hid ((k : Int) = d.count) := by unfold Hid; omega
   go_wp2
   go_ret
   exact ⟨ret_int (HS.out j hj (by rw [← HK.out, Int.toNat_natCast]; exact hs.out)).symm, hb.out⟩
theorem end16 (deep : Nat) : ∀ (a : Int), a = deep → deep ≤ 100 → ∀ (p : Option Addr) (n c i : Nat) (ds : List Dt) (w : World), Da w p n c ds → i ≤ n →
  Calls Tryz.prog 26 #[.slice p n c, .int .i64 i, .int .i64 a] w fun e w' => e = .returned (.int .i64 (endZ ds deep i)) ∧ Below w.heap.size w w' := by
 induction deep with
 | zero =>
  intro a ha _ p n c i ds w hD hin
  by_cases hi : n ≤ i
  ·exact end16_past 0 p n c i ds a w hD hi
  cases hg : goodB (ds.getD i dt0)
  ·exact end16_bad 0 p n c i ds a w hD (by omega) hg
  by_cases hc : (n : Int) < (ds.getD i dt0).count
  ·exact end16_many 0 p n c i ds a w hD (by omega) hg hc
  by_cases hk : (ds.getD i dt0).kind = 3
  ·obtain rfl : a = 0 := by omega
   exact end16_deep p n c i ds w hD (by omega) hg (by omega) hk
  ·exact end16_atom 0 p n c i ds a w hD (by omega) hg (by omega) hk
 | succ deep ih =>
  intro a ha hle p n c i ds w hD hin
  by_cases hi : n ≤ i
  ·exact end16_past (deep + 1) p n c i ds a w hD hi
  cases hg : goodB (ds.getD i dt0)
  ·exact end16_bad (deep + 1) p n c i ds a w hD (by omega) hg
  by_cases hc : (n : Int) < (ds.getD i dt0).count
  ·exact end16_many (deep + 1) p n c i ds a w hD (by omega) hg hc
  by_cases hk : (ds.getD i dt0).kind = 3
  ·exact end16_list deep p n c i ds a w (by omega) (by omega) (ih (a - 1) (by omega) (by omega)) hD (by omega) hg (by omega) hk
  ·exact end16_atom (deep + 1) p n c i ds a w hD (by omega) hg (by omega) hk
set_option maxHeartbeats 1000000 in
theorem valid6_long (p : Option Addr) (n c : Nat) (ds : List Dt) (w : World) (hl : ds.length = n) (h : 3000 < n) :
  Calls Tryz.prog 14 #[.slice p n c] w fun e w' => e = .returned (.bool (validB ds)) ∧ Below w.heap.size w w' := by
 have HF : Hid (validB ds = false) := by unfold Hid validB; rw [decide_eq_false (by omega)]; rfl
 clear hl
 go_enter Tryz.func14, Tryz.ntmps14
 go_wp2
 go_ret
 exact ⟨ret_bool HF.out.symm, Below.refl _ _⟩
set_option maxHeartbeats 1000000 in
theorem valid6 (p : Option Addr) (n c : Nat) (ds : List Dt) (w : World) (hD : Da w p n c ds) :
  Calls Tryz.prog 14 #[.slice p n c] w fun e w' => e = .returned (.bool (validB ds)) ∧ Below w.heap.size w w' := by
 by_cases h : 3000 < n
 ·exact valid6_long p n c ds w hD.len h
 have HF : Hid (validB ds = rowOf ds) := by unfold Hid validB; rw [decide_eq_true (by rw [hD.len]; omega)]; rfl
 have HD : Hid (Da w p n c ds) := hD
 clear hD
 go_enter Tryz.func14, Tryz.ntmps14
 go_wp2
 go_loopw [3] (fun v wr => ∃ (j : Nat), v = .int .i64 j ∧ j ≤ n ∧ Hid (rowOf ds = rowOf (ds.drop j)) ∧ Hid (Below w.heap.size w wr)) (fun v _ => n - (intOf v).toNat)
 case atStart => exact ⟨0, rfl, by omega, rfl, Below.refl _ _⟩
 case round =>
  obtain ⟨j, rfl, hj, hro, hb⟩ := hrel
  by_cases hlt : j < n
  ·have hlen := HD.out.len
   cases hsk : skip 100 (ds.drop j) with
   | none =>
    have HSK : Hid (endZ ds 100 j = -1) := endZ_none ds 100 j hsk
    have HR : Hid (rowOf ds = false) := by
     unfold Hid; rw [hro.out]; exact rowOf_none _ (fun e => by have := congrArg List.length e; rw [List.length_drop] at this; simp at this; omega) hsk
    clear hsk hlen
    go_wp2_with (go_at_call 26; refine (end16 100 100 (by omega) (by omega) p n c j ds _ (by exact HD.out.below hb.out) hj).mono ?_; rintro e w2 ⟨rfl, hb2⟩; rw [HSK.out])
    go_ret
    exact ⟨ret_bool (by rw [HF.out, HR.out]), hb.out.trans (hb2.mono hb.out.size)⟩
   | some q =>
    obtain ⟨j', hj1, hj2, hq, hez⟩ := endZ_some ds 100 j q hsk
    have HSK : Hid (endZ ds 100 j = j') := hez
    have HR : Hid (rowOf ds = rowOf (ds.drop j')) := by unfold Hid; rw [hro.out, ← hq]; exact rowOf_some _ q hsk
    have hj3 : j' ≤ n := by omega
    clear hsk hlen hez hq hj2
    go_wp2_with (go_at_call 26; refine (end16 100 100 (by omega) (by omega) p n c j ds _ (by exact HD.out.below hb.out) hj).mono ?_; rintro e w2 ⟨rfl, hb2⟩; rw [HSK.out])
    exact ⟨⟨j', rfl, hj3, HR, hb.out.trans (hb2.mono hb.out.size)⟩, by simp [intOf]; omega⟩
  ·obtain rfl : j = n := by omega
   have HR : Hid (rowOf ds = true) := by
    unfold Hid; rw [hro.out, List.drop_eq_nil_of_le (by rw [HD.out.len]; omega)]; rfl
   go_wp2
   go_ret
   exact ⟨ret_bool (by rw [HF.out, HR.out]), hb.out⟩
end Go.Proofs.YtnnpfoilojicjaaGreatDoor
