import Derived.Test.YtdjdhjciealfhaaGreatDoorM5
import Derived.Test.YtdjdhjciealfhaaGreatDoorM2
namespace Go.Proofs.YtdjdhjciealfhaaGreatDoor
open Go.RowKit Ch1
set_option maxHeartbeats 1000000 in
theorem eqFuncS_c (p1 p2 : Option Addr) (n c1 c2 : Nat) (fs : List Fn) (w : World) (h1 : Fu w p1 n c1 fs) (h2 : Fu w p2 n c2 fs) :
    Calls Tryz.prog 24 #[.slice p1 n c1, .slice p2 n c2] w fun e w' => e = .returned (.bool true) ∧ Below w.heap.size w w' := by
  have hbig := small_of h1.cap h1.big
  have H1 : Hid (Fu w p1 n c1 fs) := h1
  have H2 : Hid (Fu w p2 n c2 fs) := h2
  clear h1 h2
  go_enter Tryz.func24, Tryz.ntmps24
  go_wp2
  go_loopw [5] (fun i wr => ∃ k : Nat, k ≤ n ∧ i = .int .i64 k ∧ Hid (Below w.heap.size w wr)) (fun i _ => n - (intOf i).toNat)
  case atStart => exact ⟨0, Nat.zero_le _, rfl, Below.refl _ _⟩
  case round =>
    obtain ⟨k, hk, rfl, hb⟩ := hrel
    by_cases hlt : k < n
    · obtain ⟨b, o, rfl, hbl, g⟩ := H1.out.cells (by omega)
      obtain ⟨fp, fl, fc, cp, cl, cc, he⟩ := g k hlt
      obtain ⟨b', o', rfl, hbl', g'⟩ := H2.out.cells (by omega)
      obtain ⟨fp', fl', fc', cp', cl', cc', he'⟩ := g' k hlt
      have e1 := he.free.len
      have e2 := he'.free.len
      have e3 := he.code.len
      have e4 := he'.code.len
      obtain rfl : fl = fl' := by omega
      obtain rfl : cl = cl' := by omega
      clear g g' e1 e2 e3 e4
      replace he := he.below (w' := wr) hbl hb.out
      replace he' := he'.below (w' := wr) hbl' hb.out
      generalize fs.getD k fn0 = d at he he'
      have HY : Hid (Bo wr fp fl fc d.free) := he.free
      have HY' : Hid (Bo wr fp' fl fc' d.free) := he'.free
      have HZ : Hid (Ii wr cp cl cc d.code) := he.code
      have HZ' : Hid (Ii wr cp' cl cc' d.code) := he'.code
      have e0 := he.c0
      have e1 := he.c1
      have e2 := he.c2
      have f0 := he'.c0
      have f1 := he'.c1
      have f2 := he'.c2
      clear he he'
      go_wp2
      go_region_with (go_at_call 51; refine (eqFunc_c _ fp fp' fl fc fc' cp cp' cl cc cc' d.free d.code _ ?y1 ?y2 ?y3 ?y4).mono ?_; (case y1 => exact HY.out.below (below_drewN' (Below.refl _ _) _)); (case y2 => exact HY'.out.below (below_drewN' (Below.refl _ _) _)); (case y3 => exact HZ.out.below (below_drewN' (Below.refl _ _) _)); (case y4 => exact HZ'.out.below (below_drewN' (Below.refl _ _) _)); rintro e w1 ⟨rfl, hb1⟩)
      all_goals
        go_wp2
        exact ⟨⟨k + 1, by omega, by go_num, hb.out.trans ((Below.refl _ wr).drew.trans (hb1.mono hb.out.size))⟩, by simp [intOf]; omega⟩
    · go_wp2
      go_ret
      exact ⟨rfl, hb.out⟩
set_option maxHeartbeats 1000000 in
theorem eqDatumSS_c (p1 p2 : Option Addr) (n c1 c2 : Nat) (ls : List (List Dt)) (w : World) (h1 : Dd w p1 n c1 ls) (h2 : Dd w p2 n c2 ls) :
    Calls Tryz.prog 23 #[.slice p1 n c1, .slice p2 n c2] w fun e w' => e = .returned (.bool true) ∧ Below w.heap.size w w' := by
  have hbig := small_of h1.cap h1.big
  have H1 : Hid (Dd w p1 n c1 ls) := h1
  have H2 : Hid (Dd w p2 n c2 ls) := h2
  clear h1 h2
  go_enter Tryz.func23, Tryz.ntmps23
  go_wp2
  go_loopw [5] (fun i wr => ∃ k : Nat, k ≤ n ∧ i = .int .i64 k ∧ Hid (Below w.heap.size w wr)) (fun i _ => n - (intOf i).toNat)
  case atStart => exact ⟨0, Nat.zero_le _, rfl, Below.refl _ _⟩
  case round =>
    obtain ⟨k, hk, rfl, hb⟩ := hrel
    by_cases hlt : k < n
    · obtain ⟨b, o, rfl, hbl, g⟩ := (H1.out.below hb.out).cells (by omega)
      obtain ⟨q, m, d, e0, he⟩ := g k hlt
      obtain ⟨b', o', rfl, hbl', g'⟩ := (H2.out.below hb.out).cells (by omega)
      obtain ⟨q', m', d', f0, he'⟩ := g' k hlt
      have e1 := he.len
      have e2 := he'.len
      obtain rfl : m = m' := by omega
      clear g g' e1 e2
      generalize ls.getD k [] = x at he he'
      have HY : Hid (Da wr q m d x) := he
      have HY' : Hid (Da wr q' m d' x) := he'
      clear he he'
      go_wp2
      go_region_with (go_at_call 50; refine (eqDatumS9 q q' m d d' x _ ?y1 ?y2).mono ?_; (case y1 => exact HY.out.below (below_drewN' (Below.refl _ _) _)); (case y2 => exact HY'.out.below (below_drewN' (Below.refl _ _) _)); rintro e w1 ⟨rfl, hb1⟩)
      all_goals
        go_wp2
        exact ⟨⟨k + 1, by omega, by go_num, hb.out.trans ((Below.refl _ wr).drew.trans (hb1.mono hb.out.size))⟩, by simp [intOf]; omega⟩
    · go_wp2
      go_ret
      exact ⟨rfl, hb.out⟩
set_option maxHeartbeats 1000000 in
theorem eqModule_c (cp cp' : Option Addr) (cn cc cc' : Nat) (fp fp' : Option Addr) (fn fc fc' : Nat) (m : Md) (w : World) (h1 : Mo w cp cn cc fp fn fc m) (h2 : Mo w cp' cn cc' fp' fn fc' m) :
    Calls Tryz.prog 9 #[.agg #[.slice cp cn cc, .int .i64 m.globals, .slice fp fn fc], .agg #[.slice cp' cn cc', .int .i64 m.globals, .slice fp' fn fc']] w fun e w' => e = .returned (.bool true) ∧ Below w.heap.size w w' := by
  have H1 : Hid (Mo w cp cn cc fp fn fc m) := h1
  have H2 : Hid (Mo w cp' cn cc' fp' fn fc' m) := h2
  clear h1 h2
  go_enter Tryz.func9, Tryz.ntmps9
  go_wp2_with fail
  refine (eqDatumSS_c cp cp' cn cc cc' m.consts _ (by exact H1.out.cs.below (below2 w _ _)) (by exact H2.out.cs.below (below2 w _ _))).mono ?_
  rintro e w1 ⟨rfl, hb1⟩
  have HB1 : Hid (Below w.heap.size w w1) := (below2 w _ _).trans (hb1.mono (by simp; omega))
  have HA : Hid (B3 w1 w.heap.size (.slice cp cn cc) (.int .i64 m.globals) (.slice fp fn fc)) := ((B3.new w (.slice cp cn cc) (.int .i64 m.globals) (.slice fp fn fc) 33).below (below1 _ _)).below hb1
  have HX : Hid (B3 w1 (w.heap.size + 1) (.slice cp' cn cc') (.int .i64 m.globals) (.slice fp' fn fc')) := by
    have := (B3.new (w.alloc (.cells #[.slice cp cn cc, .int .i64 m.globals, .slice fp fn fc] 33)) (.slice cp' cn cc') (.int .i64 m.globals) (.slice fp' fn fc') 33).below hb1
    unfold Hid; simpa using this
  have a1 := HA.out.c1
  have a2 := HA.out.c2
  have x1 := HX.out.c1
  have x2 := HX.out.c2
  clear hb1
  go_wp2_with fail
  refine (eqFuncS_c fp fp' fn fc fc' m.funcs _ (H1.out.fs.below HB1.out) (H2.out.fs.below HB1.out)).mono ?_
  rintro e w2 ⟨rfl, hb2⟩
  have HB2 : Hid (Below w.heap.size w w2) := HB1.out.trans (hb2.mono HB1.out.size)
  clear hb2
  go_wp2
  go_ret
  exact ⟨rfl, HB2.out⟩
end Go.Proofs.YtdjdhjciealfhaaGreatDoor
namespace Go.Proofs.YtdjdhjciealfhaaGreatDoor
open Go.RowKit Ch1
theorem Da.nil {w : World} {p : Option Addr} {c : Nat} {ds : List Dt} (h : Da w p 0 c ds) : ds = [] := List.length_eq_zero_iff.1 h.len
/-- The first element. -/
theorem Da.head {w : World} {p : Option Addr} {m c : Nat} {d : Dt} {r : List Dt} (h : Da w p (m + 1) c (d :: r)) : ∃ b o tp tn tc, p = some ⟨b, o, none⟩ ∧ b < w.heap.size ∧ El w b o d tp tn tc := by
  obtain ⟨b, o, e, hb, g⟩ := h.cells (by omega)
  obtain ⟨tp, tn, tc, he⟩ := g 0 (by omega)
  exact ⟨b, o, tp, tn, tc, e, hb, by simpa using he⟩
/-- All but the first. -/
theorem Da.tail {w : World} {b o m c : Nat} {d : Dt} {r : List Dt} (h : Da w (some ⟨b, o, none⟩) (m + 1) (c + 1) (d :: r)) : Da w (some ⟨b, o + 4, none⟩) m c r := by
  have h1 := h.len; have h2 := h.cap; have h3 := h.big
  refine ⟨by simpa using h1, by omega, by omega, fun hm => ?_⟩
  obtain ⟨b', o', e, hb, g⟩ := h.cells (by omega)
  cases e
  refine ⟨b, o + 4, rfl, hb, fun i hi => ?_⟩
  obtain ⟨tp, tn, tc, he⟩ := g (i + 1) (by omega)
  refine ⟨tp, tn, tc, ?_⟩
  rw [show o + 4 + i * 4 = o + (i + 1) * 4 by omega]
  simpa using he
theorem Da.last {w : World} {p p' : Option Addr} {m : Nat} {d : Dt} {r : List Dt} (h : Da w p (m + 1) 1 (d :: r)) : m = 0 ∧ Da w p' 0 0 r := by
  have h1 := h.len; have h2 := h.cap
  obtain rfl : m = 0 := by omega
  exact ⟨rfl, by simpa using h1, Nat.le_refl _, by unfold maxLen; omega, fun h => absurd h (Nat.lt_irrefl 0)⟩
/-- What behindDatum answers. -/
def Out (o : Option (List Dt)) (e : Ending) (w' : World) : Prop := match o with
  | none => e = .returned (.tuple #[.slice none 0 0, .bool false])
  | some r => ∃ p n c, e = .returned (.tuple #[.slice p n c, .bool true]) ∧ Da w' p n c r
set_option maxHeartbeats 1000000 in
theorem behind18_nil (deep : Nat) (p : Option Addr) (c : Nat) (a : Int) (w : World) :
    Calls Tryz.prog 88 #[.slice p 0 c, .int .i64 a] w fun e w' => Out (skip deep []) e w' ∧ Below w.heap.size w w' := by
  have HO : Hid (skip deep [] = none) := skip_nil deep
  go_enter Tryz.func88, Tryz.ntmps88
  go_wp2
  go_ret2
  rw [HO.out]
  exact ⟨rfl, Below.refl _ _⟩
set_option maxHeartbeats 1000000 in
theorem behind18_bad (deep : Nat) (p : Option Addr) (m c : Nat) (d : Dt) (r : List Dt) (a : Int) (w : World) (hD : Da w p (m + 1) c (d :: r)) (hg : goodB d = false) :
    Calls Tryz.prog 88 #[.slice p (m + 1) c, .int .i64 a] w fun e w' => Out (skip deep (d :: r)) e w' ∧ Below w.heap.size w w' := by
  have HO : Hid (skip deep (d :: r) = none) := skip_bad deep d r hg
  obtain ⟨b, o, tp, tn, tc, rfl, hbl, he⟩ := hD.head
  have HY : Hid (By w tp tn tc d.text) := he.by_
  have e0 := he.c0
  have e1 := he.c1
  have e2 := he.c2
  have e3 := he.c3
  have hm : ((m : Int) + 1 == 0) = false := beq_eq_false_iff_ne.2 (by omega)
  clear hD he
  go_enter Tryz.func88, Tryz.ntmps88
  go_wp2_with (go_at_call 105; refine (alone31 d _ _ _ _ HY.out).mono ?_; rintro e w1 ⟨rfl, hb1⟩; rw [hg])
  go_ret2
  rw [HO.out]
  exact ⟨rfl, hb1⟩

/-- What stands behind the first element, at whatever address. -/
theorem Da.rest {w : World} {b o m c : Nat} {d : Dt} {r : List Dt} (h : Da w (some ⟨b, o, none⟩) (m + 1) (c + 1) (d :: r)) : ∃ p1, (if c = 0 then (some ⟨b, o, none⟩ : Option Addr) else some ⟨b, o + 4, none⟩) = p1 ∧ Da w p1 m c r := by
  by_cases hc : c = 0
  · subst hc
    obtain ⟨rfl, h'⟩ := h.last (p' := some ⟨b, o, none⟩)
    exact ⟨_, if_pos rfl, h'⟩
  · exact ⟨_, if_neg hc, h.tail⟩
set_option maxHeartbeats 1000000 in
theorem behind18_atom (deep : Nat) (b o m c : Nat) (d : Dt) (r : List Dt) (a : Int) (w : World) (hD : Da w (some ⟨b, o, none⟩) (m + 1) (c + 1) (d :: r)) (hg : goodB d = true) (hk : (d.kind != 3) = true) :
    Calls Tryz.prog 88 #[.slice (some ⟨b, o, none⟩) (m + 1) (c + 1), .int .i64 a] w fun e w' => Out (skip deep (d :: r)) e w' ∧ Below w.heap.size w w' := by
  have HO : Hid (skip deep (d :: r) = some r) := skip_atom deep d r hg (by simpa using hk)
  obtain ⟨p1, hp1, hT⟩ := hD.rest
  have HT : Hid (Da w p1 m c r) := hT
  obtain ⟨b', o', tp, tn, tc, e, hbl, he⟩ := hD.head
  cases e
  have HY : Hid (By w tp tn tc d.text) := he.by_
  have hcap : m + 1 ≤ c + 1 := hD.cap
  have hbig : c + 1 ≤ 9223372036854775807 := by have := hD.big; unfold maxLen at this; omega
  have HE : Hid (El w b o d tp tn tc) := he
  have e0 := he.c0
  have e1 := he.c1
  have e2 := he.c2
  have e3 := he.c3
  have hm : ((m : Int) + 1 == 0) = false := beq_eq_false_iff_ne.2 (by omega)
  clear hD he hT
  go_enter Tryz.func88, Tryz.ntmps88
  go_wp2_with (go_at_call 105; refine (alone31 d _ _ _ _ HY.out).mono ?_; rintro e w1 ⟨rfl, hb1⟩; rw [hg]; clear e0 e1 e2 e3; have e0 := (HE.out.below hbl hb1).c0; have e1 := (HE.out.below hbl hb1).c1; have e2 := (HE.out.below hbl hb1).c2; have e3 := (HE.out.below hbl hb1).c3; have hlt1 : b < w1.heap.size := Nat.lt_of_lt_of_le hbl hb1.size)
  have h1m : (1 : Int) ≤ (m : Int) + 1 := by omega
  go_region
  go_wp2
  go_ret2
  rw [HO.out]
  have hB : Below w.heap.size w (w1.alloc (.cells #[.int .i64 d.kind, .int .i64 d.n, .slice tp tn tc, .int .i64 d.count] 121)).drew := (hb1.alloc hb1.size _).drew
  exact ⟨⟨_, _, _, rfl, HT.out.below hB⟩, hB⟩
set_option maxHeartbeats 1000000 in
theorem behind18_deep (b o m c : Nat) (d : Dt) (r : List Dt) (w : World) (hD : Da w (some ⟨b, o, none⟩) (m + 1) (c + 1) (d :: r)) (hg : goodB d = true) (hk : d.kind = 3) :
    Calls Tryz.prog 88 #[.slice (some ⟨b, o, none⟩) (m + 1) (c + 1), .int .i64 100] w fun e w' => Out (skip 0 (d :: r)) e w' ∧ Below w.heap.size w w' := by
  have HO : Hid (skip 0 (d :: r) = none) := skip_deep d r hk
  have hk' : (d.kind != 3) = false := by simp [hk]
  clear hk
  obtain ⟨p1, hp1, hT⟩ := hD.rest
  obtain ⟨b', o', tp, tn, tc, e, hbl, he⟩ := hD.head
  cases e
  have HY : Hid (By w tp tn tc d.text) := he.by_
  have hcap : m + 1 ≤ c + 1 := hD.cap
  have hbig : c + 1 ≤ 9223372036854775807 := by have := hD.big; unfold maxLen at this; omega
  have HE : Hid (El w b o d tp tn tc) := he
  have e0 := he.c0
  have e1 := he.c1
  have e2 := he.c2
  have e3 := he.c3
  have hm : ((m : Int) + 1 == 0) = false := beq_eq_false_iff_ne.2 (by omega)
  clear hD he hT
  go_enter Tryz.func88, Tryz.ntmps88
  go_wp2_with (go_at_call 105; refine (alone31 d _ _ _ _ HY.out).mono ?_; rintro e w1 ⟨rfl, hb1⟩; rw [hg]; clear e0 e1 e2 e3; have e0 := (HE.out.below hbl hb1).c0; have e1 := (HE.out.below hbl hb1).c1; have e2 := (HE.out.below hbl hb1).c2; have e3 := (HE.out.below hbl hb1).c3; have hlt1 : b < w1.heap.size := Nat.lt_of_lt_of_le hbl hb1.size)
  have h1m : (1 : Int) ≤ (m : Int) + 1 := by omega
  go_region
  go_wp2
  go_ret2
  rw [HO.out]
  exact ⟨rfl, (hb1.alloc hb1.size _).drew⟩
end Go.Proofs.YtdjdhjciealfhaaGreatDoor
namespace Go.Proofs.YtdjdhjciealfhaaGreatDoor
open Go.RowKit Ch1
theorem good_count {d : Dt} (hg : goodB d = true) (hk : d.kind = 3) : 0 ≤ d.count := by
  obtain ⟨kind, n, t, count⟩ := d
  simp only at hk
  subst hk
  rw [good_list n count t t.length rfl] at hg
  simp at hg
  exact hg.2
set_option maxHeartbeats 2000000 in
theorem behind18_list (deep : Nat) (b o m c : Nat) (d : Dt) (r : List Dt) (a : Int) (w : World) (h0 : 0 ≤ a) (h1 : a < 100)
    (ih : ∀ (p : Option Addr) (n c : Nat) (ds : List Dt) (w : World), Da w p n c ds → Calls Tryz.prog 88 #[.slice p n c, .int .i64 (a + 1)] w fun e w' => Out (skip deep ds) e w' ∧ Below w.heap.size w w')
    (hD : Da w (some ⟨b, o, none⟩) (m + 1) (c + 1) (d :: r)) (hg : goodB d = true) (hk : d.kind = 3) :
    Calls Tryz.prog 88 #[.slice (some ⟨b, o, none⟩) (m + 1) (c + 1), .int .i64 a] w fun e w' => Out (skip (deep + 1) (d :: r)) e w' ∧ Below w.heap.size w w' := by
  have HO : Hid (skip (deep + 1) (d :: r) = skipN (skip deep) d.count.toNat r) := skip_list deep d r hg hk
  have IH : Hid (∀ (p : Option Addr) (n c : Nat) (ds : List Dt) (w : World), Da w p n c ds → Calls Tryz.prog 88 #[.slice p n c, .int .i64 (a + 1)] w fun e w' => Out (skip deep ds) e w' ∧ Below w.heap.size w w') := ih
  clear ih
  have ha : (a == 100) = false := beq_eq_false_iff_ne.2 (by omega)
  have hcnt : 0 ≤ d.count := good_count hg hk
  have hk' : (d.kind != 3) = false := by simp [hk]
  clear hk
  obtain ⟨p1, hp1, hT⟩ := hD.rest
  have HT : Hid (Da w p1 m c r) := hT
  obtain ⟨b', o', tp, tn, tc, e, hbl, he⟩ := hD.head
  cases e
  have HY : Hid (By w tp tn tc d.text) := he.by_
  have hcap : m + 1 ≤ c + 1 := hD.cap
  have hbig : c + 1 ≤ 9223372036854775807 := by have := hD.big; unfold maxLen at this; omega
  have HE : Hid (El w b o d tp tn tc) := he
  have hhi : d.count ≤ 9223372036854775807 := he.hi
  have e0 := he.c0
  have e1 := he.c1
  have e2 := he.c2
  have e3 := he.c3
  have hm : ((m : Int) + 1 == 0) = false := beq_eq_false_iff_ne.2 (by omega)
  clear hD he hT
  go_enter Tryz.func88, Tryz.ntmps88
  go_wp2_with (go_at_call 105; refine (alone31 d _ _ _ _ HY.out).mono ?_; rintro e w1 ⟨rfl, hb1⟩; rw [hg]; clear e0 e1 e2 e3; have e0 := (HE.out.below hbl hb1).c0; have e1 := (HE.out.below hbl hb1).c1; have e2 := (HE.out.below hbl hb1).c2; have e3 := (HE.out.below hbl hb1).c3; have hlt1 : b < w1.heap.size := Nat.lt_of_lt_of_le hbl hb1.size)
  have h1m : (1 : Int) ≤ (m : Int) + 1 := by omega
  go_region
  have HB : Hid (Below w.heap.size w (w1.alloc (.cells #[.int .i64 d.kind, .int .i64 d.n, .slice tp tn tc, .int .i64 d.count] 121)).drew) := (hb1.alloc hb1.size _).drew
  clear e0 e1 e2 e3 hb1
  go_wp2
  go_loopw [7, 33] (fun rest i wr => ∃ (k : Nat) (q : List Dt) (p' : Option Addr) (n' c' : Nat), (k : Int) ≤ d.count ∧ i = .int .i64 k ∧ rest = .slice p' n' c' ∧ Hid (skipN (skip deep) k r = some q) ∧ Hid (Da wr p' n' c' q) ∧ Hid (Below w.heap.size w wr)) (fun _ i _ => (d.count - intOf i).toNat)
  case atStart => exact ⟨0, r, p1, m, c, hcnt, rfl, rfl, rfl, HT.out.below HB.out, HB⟩
  case round =>
    clear HB HT HE HY hp1
    obtain ⟨k, q, p', n', c', hk, rfl, rfl, hs, hD, hb⟩ := hrel
    by_cases hlt : (k : Int) < d.count
    · cases hsk : skip deep q with
      | none =>
        have HSK : Hid (skip deep q = none) := hsk
        have HF : Hid (skipN (skip deep) d.count.toNat r = none) := by
          have e : skipN (skip deep) (k + 1) r = none := by rw [skipN_succ_right, hs.out]; exact hsk
          have := skipN_none_mono _ (k + 1) (d.count.toNat - (k + 1)) r e
          rwa [show k + 1 + (d.count.toNat - (k + 1)) = d.count.toNat by omega] at this
        clear hsk
        go_wp2_with (go_at_call 88; refine (IH.out p' n' c' q _ hD.out).mono ?_; rintro e w2 ⟨ho, hb2⟩; rw [HSK.out] at ho; simp only [Out] at ho; subst ho)
        go_ret2
        rw [HO.out, HF.out]
        exact ⟨rfl, hb.out.trans (hb2.mono hb.out.size)⟩
      | some q' =>
        have HSK : Hid (skip deep q = some q') := hsk
        clear hsk
        go_wp2_with (go_at_call 88; refine (IH.out p' n' c' q _ hD.out).mono ?_; rintro e w2 ⟨ho, hb2⟩; rw [HSK.out] at ho; simp only [Out] at ho; obtain ⟨p2, n2, c2, rfl, hD2⟩ := ho; have HD2 : Hid (Da w2 p2 n2 c2 q') := hD2; clear hD2)
        refine ⟨⟨k + 1, q', p2, n2, c2, by omega, by go_num, rfl, ?_, HD2, hb.out.trans (hb2.mono hb.out.size)⟩, by simp [intOf]; omega⟩
        show skipN (skip deep) (k + 1) r = some q'
        rw [skipN_succ_right, hs.out]
        exact HSK.out
    · have hke : (k : Int) = d.count := by omega
      have HK : Hid ((k : Int) = d.count) := hke
      clear hke
      go_wp2
      go_ret2
      rw [HO.out, ← HK.out, Int.toNat_natCast, hs.out]
      exact ⟨⟨_, _, _, rfl, hD.out⟩, hb.out⟩

theorem behind18 (deep : Nat) : ∀ (a : Int), a = 100 - deep → deep ≤ 100 → ∀ (p : Option Addr) (n c : Nat) (ds : List Dt) (w : World), Da w p n c ds →
    Calls Tryz.prog 88 #[.slice p n c, .int .i64 a] w fun e w' => Out (skip deep ds) e w' ∧ Below w.heap.size w w' := by
  induction deep with
  | zero =>
    intro a ha _ p n c ds w hD
    cases ds with
    | nil =>
      obtain rfl : n = 0 := hD.len.symm
      exact behind18_nil 0 p c a w
    | cons d r =>
      obtain ⟨m, rfl⟩ : ∃ m, n = m + 1 := ⟨r.length, hD.len.symm⟩
      cases hg : goodB d
      · exact behind18_bad 0 p m c d r a w hD hg
      · obtain ⟨c', rfl⟩ : ∃ c', c = c' + 1 := ⟨c - 1, by have := hD.cap; omega⟩
        obtain ⟨b, o, _, _, _, rfl, _, _⟩ := hD.head
        by_cases hk : d.kind = 3
        · obtain rfl : a = 100 := by omega
          exact behind18_deep b o m c' d r w hD hg hk
        · exact behind18_atom 0 b o m c' d r a w hD hg (by simpa using hk)
  | succ deep ih =>
    intro a ha hle p n c ds w hD
    cases ds with
    | nil =>
      obtain rfl : n = 0 := hD.len.symm
      exact behind18_nil (deep + 1) p c a w
    | cons d r =>
      obtain ⟨m, rfl⟩ : ∃ m, n = m + 1 := ⟨r.length, hD.len.symm⟩
      cases hg : goodB d
      · exact behind18_bad (deep + 1) p m c d r a w hD hg
      · obtain ⟨c', rfl⟩ : ∃ c', c = c' + 1 := ⟨c - 1, by have := hD.cap; omega⟩
        obtain ⟨b, o, _, _, _, rfl, _, _⟩ := hD.head
        by_cases hk : d.kind = 3
        · exact behind18_list deep b o m c' d r a w (by omega) (by omega) (ih (a + 1) (by omega) (by omega)) hD hg hk
        · exact behind18_atom (deep + 1) b o m c' d r a w hD hg (by simpa using hk)
end Go.Proofs.YtdjdhjciealfhaaGreatDoor
