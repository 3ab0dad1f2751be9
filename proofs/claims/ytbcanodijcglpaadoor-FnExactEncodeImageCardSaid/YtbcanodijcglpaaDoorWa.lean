import Derived.Test.YtbcanodijcglpaaDoorW9
namespace Go.Proofs.YtbcanodijcglpaaDoor
open Go.RowKit Ch1
theorem Da.nil {w : World} {p : Option Addr} {c : Nat} {ds : List Dt} (h : Da w p 0 c ds) : ds = [] := List.length_eq_zero_iff.1 h.len
/-- The first element. -/
theorem Da.head {w : World} {p : Option Addr} {m c : Nat} {d : Dt} {r : List Dt} (h : Da w p (m + 1) c (d :: r)) : ∃ b o tp tn tc, p = some ⟨b, o, none⟩ ∧ b < w.heap.size ∧ El w b o d tp tn tc := by
  obtain ⟨b, o, e, hb, g⟩ := h.cells (by omega)
  obtain ⟨tp, tn, tc, he⟩ := g 0 (by omega)
  exact ⟨b, o, tp, tn, tc, e, hb, by simpa using he⟩
/-- All but the first. -/
theorem Da.tail {w : World} {b o m c : Nat} {d : Dt} {r : List Dt} (h : Da w (some ⟨b, o, none⟩) (m + 1) (c + 1) (d :: r)) : Da w (some ⟨b, o + 4, none⟩) m c r := by
  have h1 := h.len; have h2 := h.cap; have h3 := h.big
  refine ⟨by simpa using h1, by omega, by omega, fun hm => ?_⟩
  obtain ⟨b', o', e, hb, g⟩ := h.cells (by omega)
  cases e
  refine ⟨b, o + 4, rfl, hb, fun i hi => ?_⟩
  obtain ⟨tp, tn, tc, he⟩ := g (i + 1) (by omega)
  refine ⟨tp, tn, tc, ?_⟩
  rw [show o + 4 + i * 4 = o + (i + 1) * 4 by omega]
  simpa using he
theorem Da.last {w : World} {p p' : Option Addr} {m : Nat} {d : Dt} {r : List Dt} (h : Da w p (m + 1) 1 (d :: r)) : m = 0 ∧ Da w p' 0 0 r := by
  have h1 := h.len; have h2 := h.cap
  obtain rfl : m = 0 := by omega
  exact ⟨rfl, by simpa using h1, Nat.le_refl _, by unfold maxLen; omega, fun h => absurd h (Nat.lt_irrefl 0)⟩
/-- What behindDatum answers. -/
def Out (o : Option (List Dt)) (e : Ending) (w' : World) : Prop := match o with
  | none => e = .returned (.tuple #[.slice none 0 0, .bool false])
  | some r => ∃ p n c, e = .returned (.tuple #[.slice p n c, .bool true]) ∧ Da w' p n c r
set_option maxHeartbeats 1000000 in
theorem behind18_nil (deep : Nat) (p : Option Addr) (c : Nat) (a : Int) (w : World) :
    Calls Tryd.prog 66 #[.slice p 0 c, .int .i64 a] w fun e w' => Out (skip deep []) e w' ∧ Below w.heap.size w w' := by
  have HO : Hid (skip deep [] = none) := skip_nil deep
  go_enter Tryd.func66, Tryd.ntmps66
  go_wp2
  go_ret2
  rw [HO.out]
  exact ⟨rfl, Below.refl _ _⟩
set_option maxHeartbeats 1000000 in
theorem behind18_bad (deep : Nat) (p : Option Addr) (m c : Nat) (d : Dt) (r : List Dt) (a : Int) (w : World) (hD : Da w p (m + 1) c (d :: r)) (hg : goodB d = false) :
    Calls Tryd.prog 66 #[.slice p (m + 1) c, .int .i64 a] w fun e w' => Out (skip deep (d :: r)) e w' ∧ Below w.heap.size w w' := by
  have HO : Hid (skip deep (d :: r) = none) := skip_bad deep d r hg
  obtain ⟨b, o, tp, tn, tc, rfl, hbl, he⟩ := hD.head
  have HY : Hid (By w tp tn tc d.text) := he.by_
  have e0 := he.c0
  have e1 := he.c1
  have e2 := he.c2
  have e3 := he.c3
  have hm : ((m : Int) + 1 == 0) = false := beq_eq_false_iff_ne.2 (by omega)
  clear hD he
  go_enter Tryd.func66, Tryd.ntmps66
  go_wp2_with (go_at_call 71; refine (alone31 d _ _ _ _ HY.out).mono ?_; rintro e w1 ⟨rfl, hb1⟩; rw [hg])
  go_ret2
  rw [HO.out]
  exact ⟨rfl, hb1⟩

/-- What stands behind the first element, at whatever address. -/
theorem Da.rest {w : World} {b o m c : Nat} {d : Dt} {r : List Dt} (h : Da w (some ⟨b, o, none⟩) (m + 1) (c + 1) (d :: r)) : ∃ p1, (if c = 0 then (some ⟨b, o, none⟩ : Option Addr) else some ⟨b, o + 4, none⟩) = p1 ∧ Da w p1 m c r := by
  by_cases hc : c = 0
  · subst hc
    obtain ⟨rfl, h'⟩ := h.last (p' := some ⟨b, o, none⟩)
    exact ⟨_, if_pos rfl, h'⟩
  · exact ⟨_, if_neg hc, h.tail⟩
set_option maxHeartbeats 1000000 in
theorem behind18_atom (deep : Nat) (b o m c : Nat) (d : Dt) (r : List Dt) (a : Int) (w : World) (hD : Da w (some ⟨b, o, none⟩) (m + 1) (c + 1) (d :: r)) (hg : goodB d = true) (hk : (d.kind != 3) = true) :
    Calls Tryd.prog 66 #[.slice (some ⟨b, o, none⟩) (m + 1) (c + 1), .int .i64 a] w fun e w' => Out (skip deep (d :: r)) e w' ∧ Below w.heap.size w w' := by
  have HO : Hid (skip deep (d :: r) = some r) := skip_atom deep d r hg (by simpa using hk)
  obtain ⟨p1, hp1, hT⟩ := hD.rest
  have HT : Hid (Da w p1 m c r) := hT
  obtain ⟨b', o', tp, tn, tc, e, hbl, he⟩ := hD.head
  cases e
  have HY : Hid (By w tp tn tc d.text) := he.by_
  have hcap : m + 1 ≤ c + 1 := hD.cap
  have hbig : c + 1 ≤ 9223372036854775807 := by have := hD.big; unfold maxLen at this; omega
  have HE : Hid (El w b o d tp tn tc) := he
  have e0 := he.c0
  have e1 := he.c1
  have e2 := he.c2
  have e3 := he.c3
  have hm : ((m : Int) + 1 == 0) = false := beq_eq_false_iff_ne.2 (by omega)
  clear hD he hT
  go_enter Tryd.func66, Tryd.ntmps66
  go_wp2_with (go_at_call 71; refine (alone31 d _ _ _ _ HY.out).mono ?_; rintro e w1 ⟨rfl, hb1⟩; rw [hg]; clear e0 e1 e2 e3; have e0 := (HE.out.below hbl hb1).c0; have e1 := (HE.out.below hbl hb1).c1; have e2 := (HE.out.below hbl hb1).c2; have e3 := (HE.out.below hbl hb1).c3; have hlt1 : b < w1.heap.size := Nat.lt_of_lt_of_le hbl hb1.size)
  have h1m : (1 : Int) ≤ (m : Int) + 1 := by omega
  go_region
  go_wp2
  go_ret2
  rw [HO.out]
  have hB : Below w.heap.size w (w1.alloc (.cells #[.int .i64 d.kind, .int .i64 d.n, .slice tp tn tc, .int .i64 d.count] 75)).drew := (hb1.alloc hb1.size _).drew
  exact ⟨⟨_, _, _, rfl, HT.out.below hB⟩, hB⟩
set_option maxHeartbeats 1000000 in
theorem behind18_deep (b o m c : Nat) (d : Dt) (r : List Dt) (w : World) (hD : Da w (some ⟨b, o, none⟩) (m + 1) (c + 1) (d :: r)) (hg : goodB d = true) (hk : d.kind = 3) :
    Calls Tryd.prog 66 #[.slice (some ⟨b, o, none⟩) (m + 1) (c + 1), .int .i64 100] w fun e w' => Out (skip 0 (d :: r)) e w' ∧ Below w.heap.size w w' := by
  have HO : Hid (skip 0 (d :: r) = none) := skip_deep d r hk
  have hk' : (d.kind != 3) = false := by simp [hk]
  clear hk
  obtain ⟨p1, hp1, hT⟩ := hD.rest
  obtain ⟨b', o', tp, tn, tc, e, hbl, he⟩ := hD.head
  cases e
  have HY : Hid (By w tp tn tc d.text) := he.by_
  have hcap : m + 1 ≤ c + 1 := hD.cap
  have hbig : c + 1 ≤ 9223372036854775807 := by have := hD.big; unfold maxLen at this; omega
  have HE : Hid (El w b o d tp tn tc) := he
  have e0 := he.c0
  have e1 := he.c1
  have e2 := he.c2
  have e3 := he.c3
  have hm : ((m : Int) + 1 == 0) = false := beq_eq_false_iff_ne.2 (by omega)
  clear hD he hT
  go_enter Tryd.func66, Tryd.ntmps66
  go_wp2_with (go_at_call 71; refine (alone31 d _ _ _ _ HY.out).mono ?_; rintro e w1 ⟨rfl, hb1⟩; rw [hg]; clear e0 e1 e2 e3; have e0 := (HE.out.below hbl hb1).c0; have e1 := (HE.out.below hbl hb1).c1; have e2 := (HE.out.below hbl hb1).c2; have e3 := (HE.out.below hbl hb1).c3; have hlt1 : b < w1.heap.size := Nat.lt_of_lt_of_le hbl hb1.size)
  have h1m : (1 : Int) ≤ (m : Int) + 1 := by omega
  go_region
  go_wp2
  go_ret2
  rw [HO.out]
  exact ⟨rfl, (hb1.alloc hb1.size _).drew⟩
end Go.Proofs.YtbcanodijcglpaaDoor
