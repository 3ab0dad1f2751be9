import Derived.Test.YtdjdhjciealfhaaGreatDoorW8
import Derived.Deep.RegionWith
namespace Go.Proofs.YtdjdhjciealfhaaGreatDoor
open Go.RowKit Ch1
theorem below_drewN' {B : Nat} {a w : World} (h : Below B a w) (q : Nat) : Below B a (w.drewN q) := ⟨h.os, h.tape, h.output, h.size, h.block⟩
set_option maxHeartbeats 1000000 in
theorem eqDatum19 (k n c : Int) (p1 p2 : Option Addr) (tn c1 c2 : Nat) (xs : List Int) (w : World) (h1 : By w p1 tn c1 xs) (h2 : By w p2 tn c2 xs) :
    Calls Tryz.prog 80 #[.agg #[.int .i64 k, .int .i64 n, .slice p1 tn c1, .int .i64 c], .agg #[.int .i64 k, .int .i64 n, .slice p2 tn c2, .int .i64 c]] w fun e w' => e = .returned (.bool true) ∧ Below w.heap.size w w' := by
  have H1 : Hid (By w p1 tn c1 xs) := h1
  have H2 : Hid (By w p2 tn c2 xs) := h2
  clear h1 h2
  go_enter Tryz.func80, Tryz.ntmps80
  go_wp2_with (go_at_call 100; refine (eqByte32 _ _ _ _ _ xs _ (by exact H1.out.below (below2 w _ _)) (by exact H2.out.below (below2 w _ _))).mono ?_; rintro e w1 ⟨rfl, q, hw1⟩; have hw2 := hw1.symm; clear hw1; subst hw2)
  go_ret
  exact ⟨rfl, below_drewN' (below2 w _ _) q⟩
set_option maxHeartbeats 1000000 in
theorem eqDatumS9 (p1 p2 : Option Addr) (n c1 c2 : Nat) (ds : List Dt) (w : World) (h1 : Da w p1 n c1 ds) (h2 : Da w p2 n c2 ds) :
    Calls Tryz.prog 50 #[.slice p1 n c1, .slice p2 n c2] w fun e w' => e = .returned (.bool true) ∧ Below w.heap.size w w' := by
  have hbig : n ≤ 9223372036854775807 := by have := h1.cap; have := h1.big; unfold maxLen at this; omega
  have H1 : Hid (Da w p1 n c1 ds) := h1
  have H2 : Hid (Da w p2 n c2 ds) := h2
  clear h1 h2
  go_enter Tryz.func50, Tryz.ntmps50
  go_wp2
  go_loopw [5] (fun i wr => ∃ k : Nat, k ≤ n ∧ i = .int .i64 k ∧ Hid (Below w.heap.size w wr)) (fun i _ => n - (intOf i).toNat)
  case atStart => exact ⟨0, Nat.zero_le _, rfl, Below.refl _ _⟩
  case round =>
    obtain ⟨k, hk, rfl, hb⟩ := hrel
    by_cases hlt : k < n
    · obtain ⟨b, o, rfl, hbl, g⟩ := H1.out.cells (by omega)
      obtain ⟨tp, tn, tc, he⟩ := g k hlt
      obtain ⟨b', o', rfl, hbl', g'⟩ := H2.out.cells (by omega)
      obtain ⟨tp', tn', tc', he'⟩ := g' k hlt
      have e1 := he.by_.len
      have e2 := he'.by_.len
      obtain rfl : tn = tn' := by omega
      clear g g' e1 e2
      replace he := he.below (w' := wr) hbl hb.out
      replace he' := he'.below (w' := wr) hbl' hb.out
      generalize ds.getD k dt0 = d at he he'
      have HY : Hid (By wr tp tn tc d.text) := he.by_
      have HY' : Hid (By wr tp' tn tc' d.text) := he'.by_
      have e0 := he.c0
      have e1 := he.c1
      have e2 := he.c2
      have e3 := he.c3
      have f0 := he'.c0
      have f1 := he'.c1
      have f2 := he'.c2
      have f3 := he'.c3
      clear he he'
      go_wp2
      go_region_with (go_at_call 80; refine (eqDatum19 _ _ _ tp tp' tn tc tc' d.text _ ?y1 ?y2).mono ?_; (case y1 => exact HY.out.below (below_drewN' (Below.refl _ _) _)); (case y2 => exact HY'.out.below (below_drewN' (Below.refl _ _) _)); rintro e w1 ⟨rfl, hb1⟩)
      all_goals
        go_wp2
        exact ⟨⟨k + 1, by omega, by go_num, hb.out.trans ((Below.refl _ wr).drew.trans (hb1.mono hb.out.size))⟩, by simp [intOf]; omega⟩
    · go_wp2
      go_ret
      exact ⟨rfl, hb.out⟩
end Go.Proofs.YtdjdhjciealfhaaGreatDoor
namespace Go.Proofs.YtdjdhjciealfhaaGreatDoor
open Go.RowKit Ch1
/-- An instruction. -/
structure In where
  op : Int
  a : Int
  b : Int
def in0 : In := ⟨0, 0, 0⟩
/-- A function. -/
structure Fn where
  params : Int
  free : List Bool
  code : List In
def fn0 : Fn := ⟨0, [], []⟩
/-- A slice of bools that lies in w and reads as bs. -/
structure Bo (w : World) (p : Option Addr) (n c : Nat) (bs : List Bool) : Prop where
  len : bs.length = n
  cap : n ≤ c
  big : c ≤ maxLen
  cells : 0 < n → ∃ b o, p = some ⟨b, o, none⟩ ∧ b < w.heap.size ∧ ∀ i, i < n → w.cell? ⟨b, o + i, none⟩ = some (.bool (bs.getD i false))
/-- A slice of instructions. -/
structure Ii (w : World) (p : Option Addr) (n c : Nat) (xs : List In) : Prop where
  len : xs.length = n
  cap : n ≤ c
  big : c ≤ maxLen
  cells : 0 < n → ∃ b o, p = some ⟨b, o, none⟩ ∧ b < w.heap.size ∧ ∀ i, i < n → w.cell? ⟨b, o + i * 3, none⟩ = some (.int .i64 (xs.getD i in0).op) ∧ w.cell? ⟨b, o + i * 3 + 1, none⟩ = some (.int .i64 (xs.getD i in0).a) ∧ w.cell? ⟨b, o + i * 3 + 2, none⟩ = some (.int .i64 (xs.getD i in0).b)
/-- A function at ⟨b, o⟩. -/
structure Fe (w : World) (b o : Nat) (f : Fn) (fp : Option Addr) (fl fc : Nat) (cp : Option Addr) (cl cc : Nat) : Prop where
  c0 : w.cell? ⟨b, o, none⟩ = some (.int .i64 f.params)
  c1 : w.cell? ⟨b, o + 1, none⟩ = some (.slice fp fl fc)
  c2 : w.cell? ⟨b, o + 2, none⟩ = some (.slice cp cl cc)
  free : Bo w fp fl fc f.free
  code : Ii w cp cl cc f.code
/-- A slice of functions. -/
structure Fu (w : World) (p : Option Addr) (n c : Nat) (fs : List Fn) : Prop where
  len : fs.length = n
  cap : n ≤ c
  big : c ≤ maxLen
  cells : 0 < n → ∃ b o, p = some ⟨b, o, none⟩ ∧ b < w.heap.size ∧ ∀ i, i < n → ∃ fp fl fc cp cl cc, Fe w b (o + i * 3) (fs.getD i fn0) fp fl fc cp cl cc
/-- A slice of slices of data. -/
structure Dd (w : World) (p : Option Addr) (n c : Nat) (ls : List (List Dt)) : Prop where
  len : ls.length = n
  cap : n ≤ c
  big : c ≤ maxLen
  cells : 0 < n → ∃ b o, p = some ⟨b, o, none⟩ ∧ b < w.heap.size ∧ ∀ i, i < n → ∃ q m d, w.cell? ⟨b, o + i, none⟩ = some (.slice q m d) ∧ Da w q m d (ls.getD i [])
theorem Bo.below {w w' : World} {p : Option Addr} {n c : Nat} {bs : List Bool} (h : Bo w p n c bs) (hb : Below w.heap.size w w') : Bo w' p n c bs := by
  refine ⟨h.len, h.cap, h.big, fun hn => ?_⟩
  obtain ⟨b, o, e, hlt, hc⟩ := h.cells hn
  exact ⟨b, o, e, Nat.lt_of_lt_of_le hlt hb.size, fun i hi => by rw [hb.cell (p := ⟨b, o + i, none⟩) hlt]; exact hc i hi⟩
theorem Ii.below {w w' : World} {p : Option Addr} {n c : Nat} {xs : List In} (h : Ii w p n c xs) (hb : Below w.heap.size w w') : Ii w' p n c xs := by
  refine ⟨h.len, h.cap, h.big, fun hn => ?_⟩
  obtain ⟨b, o, e, hlt, hc⟩ := h.cells hn
  refine ⟨b, o, e, Nat.lt_of_lt_of_le hlt hb.size, fun i hi => ?_⟩
  obtain ⟨h0, h1, h2⟩ := hc i hi
  exact ⟨by rw [hb.cell (p := ⟨b, o + i * 3, none⟩) hlt]; exact h0, by rw [hb.cell (p := ⟨b, o + i * 3 + 1, none⟩) hlt]; exact h1, by rw [hb.cell (p := ⟨b, o + i * 3 + 2, none⟩) hlt]; exact h2⟩
theorem Fe.below {w w' : World} {b o : Nat} {f : Fn} {fp : Option Addr} {fl fc : Nat} {cp : Option Addr} {cl cc : Nat} (h : Fe w b o f fp fl fc cp cl cc) (hlt : b < w.heap.size) (hb : Below w.heap.size w w') : Fe w' b o f fp fl fc cp cl cc :=
  ⟨by rw [hb.cell (p := ⟨b, o, none⟩) hlt]; exact h.c0, by rw [hb.cell (p := ⟨b, o + 1, none⟩) hlt]; exact h.c1, by rw [hb.cell (p := ⟨b, o + 2, none⟩) hlt]; exact h.c2, h.free.below hb, h.code.below hb⟩
theorem Fu.below {w w' : World} {p : Option Addr} {n c : Nat} {fs : List Fn} (h : Fu w p n c fs) (hb : Below w.heap.size w w') : Fu w' p n c fs := by
  refine ⟨h.len, h.cap, h.big, fun hn => ?_⟩
  obtain ⟨b, o, e, hlt, hc⟩ := h.cells hn
  refine ⟨b, o, e, Nat.lt_of_lt_of_le hlt hb.size, fun i hi => ?_⟩
  obtain ⟨fp, fl, fc, cp, cl, cc, he⟩ := hc i hi
  exact ⟨fp, fl, fc, cp, cl, cc, he.below hlt hb⟩
theorem Dd.below {w w' : World} {p : Option Addr} {n c : Nat} {ls : List (List Dt)} (h : Dd w p n c ls) (hb : Below w.heap.size w w') : Dd w' p n c ls := by
  refine ⟨h.len, h.cap, h.big, fun hn => ?_⟩
  obtain ⟨b, o, e, hlt, hc⟩ := h.cells hn
  refine ⟨b, o, e, Nat.lt_of_lt_of_le hlt hb.size, fun i hi => ?_⟩
  obtain ⟨q, m, d, h0, h1⟩ := hc i hi
  exact ⟨q, m, d, by rw [hb.cell (p := ⟨b, o + i, none⟩) hlt]; exact h0, h1.below hb⟩
theorem below_alloc {w w' : World} {o : Obj} (h : Below (w.alloc o).heap.size (w.alloc o) w') : Below w.heap.size w w' := (below1 w o).trans (h.mono (by simp))
theorem small_of {n c : Nat} (h1 : n ≤ c) (h2 : c ≤ maxLen) : n ≤ 9223372036854775807 := by unfold maxLen at h2; omega
/-! ### sizes -/
set_option maxHeartbeats 400000 in
theorem szBoolS_c (p : Option Addr) (n c : Nat) (left : Int) (w : World) (hn : n ≤ 9223372036854775807) (h0 : 0 ≤ left) (h1 : left ≤ 1048576) :
    Calls Tryz.prog 55 #[.slice p n c, .int .i64 left] w fun e w' => e = .returned (.int .i64 (szOf left n)) ∧ w' = w := by
  unfold szOf
  by_cases h : left - n < 0
  · rw [if_pos h]
    go_enter Tryz.func55, Tryz.ntmps55
    go_wp2
    go_ret
    exact ⟨rfl, rfl⟩
  · rw [if_neg h]
    go_enter Tryz.func55, Tryz.ntmps55
    go_wp2
    go_ret
    exact ⟨rfl, rfl⟩
set_option maxHeartbeats 400000 in
theorem szInsS_c (p : Option Addr) (n c : Nat) (left : Int) (w : World) (hn : n ≤ 9223372036854775807) (h0 : 0 ≤ left) (h1 : left ≤ 1048576) :
    Calls Tryz.prog 56 #[.slice p n c, .int .i64 left] w fun e w' => e = .returned (.int .i64 (szOf left n)) ∧ w' = w := by
  unfold szOf
  by_cases h : left - n < 0
  · rw [if_pos h]
    go_enter Tryz.func56, Tryz.ntmps56
    go_wp2
    go_ret
    exact ⟨rfl, rfl⟩
  · rw [if_neg h]
    go_enter Tryz.func56, Tryz.ntmps56
    go_wp2
    go_ret
    exact ⟨rfl, rfl⟩
theorem szOf_cases (left : Int) (n : Nat) : (szOf left n = -1 ∧ left - n < 0) ∨ (szOf left n = left - n ∧ 0 ≤ left - n) := by
  unfold szOf
  by_cases h : left - n < 0
  · exact Or.inl ⟨if_pos h, h⟩
  · exact Or.inr ⟨if_neg h, by omega⟩
set_option maxHeartbeats 400000 in
theorem szFunc_c (k : Int) (fp : Option Addr) (fl fc : Nat) (cp : Option Addr) (cl cc : Nat) (left : Int) (w : World) (hf : fl ≤ 9223372036854775807) (hc : cl ≤ 9223372036854775807) (h0 : 0 ≤ left) (h1 : left ≤ 1048576) :
    Calls Tryz.prog 30 #[.agg #[.int .i64 k, .slice fp fl fc, .slice cp cl cc], .int .i64 left] w fun e w' => ∃ v : Int, e = .returned (.int .i64 v) ∧ v ≤ left ∧ -1 ≤ v ∧ (0 ≤ v → (fl : Int) ≤ left ∧ (cl : Int) ≤ left) ∧ Below w.heap.size w w' := by
  rcases szOf_cases left fl with ⟨e1, g1⟩ | ⟨e1, g1⟩
  · go_enter Tryz.func30, Tryz.ntmps30
    go_wp2_with (go_at_call 55; refine (szBoolS_c _ _ _ _ _ hf h0 h1).mono ?_; rintro e w' ⟨rfl, rfl⟩; rw [e1])
    go_ret
    exact ⟨-1, rfl, by omega, by omega, fun h => by omega, below1 _ _⟩
  · rcases szOf_cases (left - fl) cl with ⟨e2, g2⟩ | ⟨e2, g2⟩
    · go_enter Tryz.func30, Tryz.ntmps30
      go_wp2_with (first | (go_at_call 55; refine (szBoolS_c _ _ _ _ _ hf h0 h1).mono ?_; rintro e w' ⟨rfl, rfl⟩; rw [e1]) | (go_at_call 56; refine (szInsS_c _ _ _ _ _ hc g1 (by omega)).mono ?_; rintro e w' ⟨rfl, rfl⟩; rw [e2]))
      go_ret
      exact ⟨-1, rfl, by omega, by omega, fun h => by omega, below1 _ _⟩
    · go_enter Tryz.func30, Tryz.ntmps30
      go_wp2_with (first | (go_at_call 55; refine (szBoolS_c _ _ _ _ _ hf h0 h1).mono ?_; rintro e w' ⟨rfl, rfl⟩; rw [e1]) | (go_at_call 56; refine (szInsS_c _ _ _ _ _ hc g1 (by omega)).mono ?_; rintro e w' ⟨rfl, rfl⟩; rw [e2]))
      go_ret
      exact ⟨left - fl - cl, rfl, by omega, by omega, fun h => ⟨by omega, by omega⟩, below1 _ _⟩
/-- What a sum of sizes tells of functions. -/
def FnsFit (fs : List Fn) (n : Nat) (left : Int) : Prop := ∀ i, i < n → ((fs.getD i fn0).free.length : Int) ≤ left ∧ ((fs.getD i fn0).code.length : Int) ≤ left
set_option maxHeartbeats 1000000 in
theorem szFuncS_c (p : Option Addr) (n c : Nat) (fs : List Fn) (left : Int) (w : World) (hF : Fu w p n c fs) (h0 : 0 ≤ left) (h1 : left ≤ 1048576) :
    Calls Tryz.prog 14 #[.slice p n c, .int .i64 left] w fun e w' => ∃ v : Int, e = .returned (.int .i64 v) ∧ v ≤ left ∧ (0 ≤ v → (n : Int) ≤ left ∧ FnsFit fs n left) ∧ Below w.heap.size w w' := by
  have hbig := small_of hF.cap hF.big
  have HF : Hid (Fu w p n c fs) := hF
  clear hF
  by_cases hneg : left - n < 0
  · go_enter Tryz.func14, Tryz.ntmps14
    go_wp2
    go_ret
    exact ⟨-1, rfl, by omega, fun h => by omega, Below.refl _ _⟩
  · go_enter Tryz.func14, Tryz.ntmps14
    go_wp2
    go_loopw [1, 5] (fun l i wr => ∃ (k : Nat) (v : Int), k ≤ n ∧ i = .int .i64 k ∧ l = .int .i64 v ∧ 0 ≤ v ∧ v ≤ left ∧ Hid (FnsFit fs k left) ∧ Hid (Below w.heap.size w wr)) (fun _ i _ => n - (intOf i).toNat)
    case atStart => exact ⟨0, _, Nat.zero_le _, rfl, rfl, by omega, by omega, fun j hj => absurd hj (Nat.not_lt_zero j), Below.refl _ _⟩
    case round =>
      obtain ⟨k, v, hk, rfl, rfl, hv0, hv1, hn, hb⟩ := hrel
      by_cases hlt : k < n
      · obtain ⟨b, o, rfl, hbl, g⟩ := HF.out.cells (by omega)
        obtain ⟨fp, fl, fc, cp, cl, cc, he⟩ := g k hlt
        clear g
        have htf := small_of he.free.cap he.free.big
        have htc := small_of he.code.cap he.code.big
        have HFL : Hid ((fs.getD k fn0).free.length = fl) := he.free.len
        have HCL : Hid ((fs.getD k fn0).code.length = cl) := he.code.len
        have he' := he.below (w' := wr) hbl hb.out
        have e0 := he'.c0
        have e1 := he'.c1
        have e2 := he'.c2
        clear he he'
        generalize fs.getD k fn0 = f at e0 e1 e2
        go_wp2_with fail
        refine (szFunc_c _ fp fl fc cp cl cc v _ htf htc hv0 (by omega)).mono ?_
        rintro e w1 ⟨u, rfl, hu1, hu2, hu3, hb1⟩
        have HU : Hid (0 ≤ u → (fl : Int) ≤ v ∧ (cl : Int) ≤ v) := hu3
        have HB1 : Hid (Below w.heap.size w w1) := hb.out.trans (hb1.mono hb.out.size)
        clear hu3 hb1
        by_cases hs : u < 0
        · go_wp2
          go_ret
          exact ⟨-1, rfl, by omega, fun h => by omega, HB1.out⟩
        · go_wp2
          refine ⟨⟨k + 1, u, by omega, by go_num, rfl, by omega, by omega, fun j hj => ?_, HB1.out⟩, by simp [intOf]; omega⟩
          by_cases e : j < k
          · exact hn.out j e
          · have := HU.out (by omega)
            rw [show j = k by omega, HFL.out, HCL.out]
            exact ⟨by omega, by omega⟩
      · have : k = n := by omega
        subst this
        go_wp2
        go_ret
        exact ⟨v, rfl, hv1, fun _ => ⟨by omega, hn.out⟩, hb.out⟩
/-- What a sum of sizes tells of data. -/
def DsFit (ds : List Dt) (left : Int) : Prop := (ds.length : Int) ≤ left ∧ ∀ i, i < ds.length → ((ds.getD i dt0).text.length : Int) ≤ left
set_option maxHeartbeats 400000 in
theorem szDatumS_c (p : Option Addr) (n c : Nat) (ds : List Dt) (left : Int) (w : World) (hD : Da w p n c ds) (h0 : 0 ≤ left) (h1 : left ≤ 1048576) :
    Calls Tryz.prog 29 #[.slice p n c, .int .i64 left] w fun e w' => ∃ v : Int, e = .returned (.int .i64 v) ∧ v ≤ left ∧ (0 ≤ v → DsFit ds left) ∧ Below w.heap.size w w' := by
  have hbig : n ≤ 9223372036854775807 := small_of hD.cap hD.big
  have HD : Hid (Da w p n c ds) := hD
  have HL : Hid (ds.length = n) := hD.len
  clear hD
  by_cases hneg : left - n < 0
  · go_enter Tryz.func29, Tryz.ntmps29
    go_wp2
    go_ret
    exact ⟨-1, rfl, by omega, fun h => by omega, Below.refl _ _⟩
  · go_enter Tryz.func29, Tryz.ntmps29
    go_wp2
    go_loopw [1, 5] (fun l i wr => ∃ (k : Nat) (v : Int), k ≤ n ∧ i = .int .i64 k ∧ l = .int .i64 v ∧ 0 ≤ v ∧ v ≤ left ∧ Hid (∀ j, j < k → ((ds.getD j dt0).text.length : Int) ≤ left) ∧ Hid (Below w.heap.size w wr)) (fun _ i _ => n - (intOf i).toNat)
    case atStart => exact ⟨0, _, Nat.zero_le _, rfl, rfl, by omega, by omega, fun j hj => absurd hj (Nat.not_lt_zero j), Below.refl _ _⟩
    case round =>
      obtain ⟨k, v, hk, rfl, rfl, hv0, hv1, hn, hb⟩ := hrel
      by_cases hlt : k < n
      · obtain ⟨b, o, rfl, hbl, g⟩ := HD.out.cells (by omega)
        obtain ⟨tp, tn, tc, he⟩ := g k hlt
        clear g
        have htn : tn ≤ 9223372036854775807 := small_of he.by_.cap he.by_.big
        have htl : Hid ((ds.getD k dt0).text.length = tn) := he.by_.len
        have he' := he.below (w' := wr) hbl hb.out
        have e0 := he'.c0
        have e1 := he'.c1
        have e2 := he'.c2
        have e3 := he'.c3
        clear he he'
        generalize ds.getD k dt0 = d at e0 e1 e2 e3
        rcases szOf_cases v tn with ⟨hs, hs2⟩ | ⟨hs, hs2⟩
        · go_wp2_with (go_at_call 54; refine (szDatum15 _ _ _ tp tn tc v _ htn hv0 (by omega)).mono ?_; rintro e w1 ⟨rfl, hb1⟩; rw [hs])
          go_ret
          exact ⟨-1, rfl, by omega, fun h => by omega, hb.out.trans (hb1.mono hb.out.size)⟩
        · go_wp2_with (go_at_call 54; refine (szDatum15 _ _ _ tp tn tc v _ htn hv0 (by omega)).mono ?_; rintro e w1 ⟨rfl, hb1⟩; rw [hs])
          refine ⟨⟨k + 1, _, by omega, by go_num, rfl, by omega, by omega, fun j hj => ?_, hb.out.trans (hb1.mono hb.out.size)⟩, by simp [intOf]; omega⟩
          by_cases e : j < k
          · exact hn.out j e
          · rw [show j = k by omega, htl.out]; omega
      · have : k = n := by omega
        subst this
        go_wp2
        go_ret
        exact ⟨v, rfl, hv1, fun _ => ⟨by rw [HL.out]; omega, fun i hi => hn.out i (by rw [← HL.out]; exact hi)⟩, hb.out⟩
set_option maxHeartbeats 1000000 in
theorem szDatumSS_c (p : Option Addr) (n c : Nat) (ls : List (List Dt)) (left : Int) (w : World) (hD : Dd w p n c ls) (h0 : 0 ≤ left) (h1 : left ≤ 1048576) :
    Calls Tryz.prog 13 #[.slice p n c, .int .i64 left] w fun e w' => ∃ v : Int, e = .returned (.int .i64 v) ∧ v ≤ left ∧ (0 ≤ v → (n : Int) ≤ left ∧ ∀ i, i < n → DsFit (ls.getD i []) left) ∧ Below w.heap.size w w' := by
  have hbig := small_of hD.cap hD.big
  have HD : Hid (Dd w p n c ls) := hD
  clear hD
  by_cases hneg : left - n < 0
  · go_enter Tryz.func13, Tryz.ntmps13
    go_wp2
    go_ret
    exact ⟨-1, rfl, by omega, fun h => by omega, Below.refl _ _⟩
  · go_enter Tryz.func13, Tryz.ntmps13
    go_wp2
    go_loopw [1, 5] (fun l i wr => ∃ (k : Nat) (v : Int), k ≤ n ∧ i = .int .i64 k ∧ l = .int .i64 v ∧ 0 ≤ v ∧ v ≤ left ∧ Hid (∀ j, j < k → DsFit (ls.getD j []) left) ∧ Hid (Below w.heap.size w wr)) (fun _ i _ => n - (intOf i).toNat)
    case atStart => exact ⟨0, _, Nat.zero_le _, rfl, rfl, by omega, by omega, fun j hj => absurd hj (Nat.not_lt_zero j), Below.refl _ _⟩
    case round =>
      obtain ⟨k, v, hk, rfl, rfl, hv0, hv1, hn, hb⟩ := hrel
      by_cases hlt : k < n
      · obtain ⟨b, o, rfl, hbl, g⟩ := HD.out.cells (by omega)
        obtain ⟨q, m, d, e0, he⟩ := g k hlt
        clear g
        rw [← hb.out.cell (p := ⟨b, o + k, none⟩) hbl] at e0
        have HE : Hid (Da wr q m d (ls.getD k [])) := he.below hb.out
        clear he
        go_wp2_with fail
        refine (szDatumS_c q m d _ v _ HE.out hv0 (by omega)).mono ?_
        rintro e w1 ⟨u, rfl, hu1, hu3, hb1⟩
        have HU : Hid (0 ≤ u → DsFit (ls.getD k []) v) := hu3
        have HB1 : Hid (Below w.heap.size w w1) := hb.out.trans (hb1.mono hb.out.size)
        clear hu3 hb1
        by_cases hs : u < 0
        · go_wp2
          go_ret
          exact ⟨-1, rfl, by omega, fun h => by omega, HB1.out⟩
        · go_wp2
          refine ⟨⟨k + 1, u, by omega, by go_num, rfl, by omega, by omega, fun j hj => ?_, HB1.out⟩, by simp [intOf]; omega⟩
          by_cases e : j < k
          · exact hn.out j e
          · have := HU.out (by omega)
            rw [show j = k by omega]
            exact ⟨by have := this.1; omega, fun i hi => by have := this.2 i hi; omega⟩
      · have : k = n := by omega
        subst this
        go_wp2
        go_ret
        exact ⟨v, rfl, hv1, fun _ => ⟨by omega, hn.out⟩, hb.out⟩
/-- A module. -/
structure Md where
  consts : List (List Dt)
  globals : Int
  funcs : List Fn
/-- A module's value in w. -/
structure Mo (w : World) (cp : Option Addr) (cn cc : Nat) (fp : Option Addr) (fn fc : Nat) (m : Md) : Prop where
  cs : Dd w cp cn cc m.consts
  fs : Fu w fp fn fc m.funcs
theorem Mo.below {w w' : World} {cp : Option Addr} {cn cc : Nat} {fp : Option Addr} {fn fc : Nat} {m : Md} (h : Mo w cp cn cc fp fn fc m) (hb : Below w.heap.size w w') : Mo w' cp cn cc fp fn fc m := ⟨h.cs.below hb, h.fs.below hb⟩
/-- Sizes that keep to the laws' bound. -/
structure Fits (cn fn : Nat) (m : Md) : Prop where
  hcn : cn ≤ 1048576
  hfn : fn ≤ 1048576
  cs : ∀ i, i < cn → DsFit (m.consts.getD i []) 1048576
  fs : FnsFit m.funcs fn 1048576
set_option maxHeartbeats 1000000 in
theorem szModule_c (cp : Option Addr) (cn cc : Nat) (fp : Option Addr) (fn fc : Nat) (m : Md) (w : World) (hM : Mo w cp cn cc fp fn fc m) :
    Calls Tryz.prog 4 #[.agg #[.slice cp cn cc, .int .i64 m.globals, .slice fp fn fc], .int .i64 1048576] w fun e w' => ∃ v : Int, e = .returned (.int .i64 v) ∧ (0 ≤ v → Fits cn fn m) ∧ Below w.heap.size w w' := by
  have HM : Hid (Mo w cp cn cc fp fn fc m) := hM
  clear hM
  go_enter Tryz.func4, Tryz.ntmps4
  go_wp2_with fail
  refine (szDatumSS_c cp cn cc m.consts 1048576 _ (HM.out.cs.below (below1 _ _)) (by omega) (by omega)).mono ?_
  rintro e w1 ⟨v, rfl, hv1, hv2, hb1⟩
  have HB1 : Hid (Below w.heap.size w w1) := below_alloc hb1
  have HV : Hid (0 ≤ v → (cn : Int) ≤ 1048576 ∧ ∀ i, i < cn → DsFit (m.consts.getD i []) 1048576) := hv2
  have c2 := (hb1.cell (p := ⟨w.heap.size, 2, none⟩) (by simp))
  simp [go_sem] at c2
  clear hb1 hv2
  by_cases hneg : v < 0
  · go_wp2
    go_ret
    exact ⟨-1, rfl, fun h => by omega, HB1.out⟩
  · go_wp2_with fail
    refine (szFuncS_c fp fn fc m.funcs v _ (HM.out.fs.below HB1.out) (by omega) (by omega)).mono ?_
    rintro e w2 ⟨u, rfl, hu1, hu2, hb2⟩
    have HB2 : Hid (Below w.heap.size w w2) := HB1.out.trans (hb2.mono HB1.out.size)
    have HU : Hid (0 ≤ u → (fn : Int) ≤ v ∧ FnsFit m.funcs fn v) := hu2
    clear hb2 hu2
    by_cases hneg2 : u < 0
    · go_wp2
      go_ret
      exact ⟨-1, rfl, fun h => by omega, HB2.out⟩
    · go_wp2
      go_ret
      refine ⟨u, rfl, fun h => ?_, HB2.out⟩
      obtain ⟨a1, a2⟩ := HV.out (by omega)
      obtain ⟨b1, b2⟩ := HU.out h
      exact ⟨by omega, by omega, a2, fun i hi => ⟨by have := (b2 i hi).1; omega, by have := (b2 i hi).2; omega⟩⟩
end Go.Proofs.YtdjdhjciealfhaaGreatDoor
namespace Go.Proofs.YtdjdhjciealfhaaGreatDoor
open Go.RowKit Ch1
theorem Bo.setOther {w : World} {p : Option Addr} {n c : Nat} {bs : List Bool} (h : Bo w p n c bs) {a : Addr} (ha : ∀ x, p = some x → x.block ≠ a.block) (v : Value) : Bo (w.setCell a v) p n c bs := by
  refine ⟨h.len, h.cap, h.big, fun hn => ?_⟩
  obtain ⟨b, o, e, hlt, hc⟩ := h.cells hn
  exact ⟨b, o, e, by simpa [World.setCell] using hlt, fun i hi => by rw [World.cell?_of_block (w := w) (Below.heap_setCell w a v b (ha _ e))]; exact hc i hi⟩
theorem Ii.setOther {w : World} {p : Option Addr} {n c : Nat} {xs : List In} (h : Ii w p n c xs) {a : Addr} (ha : ∀ x, p = some x → x.block ≠ a.block) (v : Value) : Ii (w.setCell a v) p n c xs := by
  refine ⟨h.len, h.cap, h.big, fun hn => ?_⟩
  obtain ⟨b, o, e, hlt, hc⟩ := h.cells hn
  refine ⟨b, o, e, by simpa [World.setCell] using hlt, fun i hi => ?_⟩
  have hq := Below.heap_setCell w a v b (ha _ e)
  obtain ⟨h0, h1, h2⟩ := hc i hi
  exact ⟨by rw [World.cell?_of_block (w := w) hq]; exact h0, by rw [World.cell?_of_block (w := w) hq]; exact h1, by rw [World.cell?_of_block (w := w) hq]; exact h2⟩
theorem Row.setLow {w : World} {g n k : Nat} {ds : List Dt} (h : Row w g ds n k) {a : Addr} (ha : a.block < g) (v : Value) : Row (w.setCell a v) g ds n k := by
  obtain ⟨f, t, hr, hc⟩ := h
  refine ⟨f, t, hr.of_block (Below.heap_setCell w a v g (by omega)), fun i hi => ?_⟩
  obtain ⟨h0, h1, h2, h3, h4, h5⟩ := hc i hi
  exact ⟨h0, h1, h2, h3, h4, h5.setCell (by omega) v⟩
/-! ### copies -/
theorem info4 : (Tryz.prog.info? 4).map (fun i => (i.zero, i.size, i.bytes)) = some (some (.bool false), 1, 1) := by kernel_rfl
set_option maxHeartbeats 400000 in
theorem toBoolS_c (p : Option Addr) (n c : Nat) (bs : List Bool) (w : World) (h : Bo w p n c bs) (hn : n ≤ 1048576) :
    Calls Tryz.prog 65 #[.slice p n c] w fun e w' => e = .returned (.slice (some ⟨w.heap.size, 0, none⟩) n n) ∧ Bo w' (some ⟨w.heap.size, 0, none⟩) n n bs ∧ Below w.heap.size w w' := by
  have HB : Hid (Bo w p n c bs) := h
  clear h
  have hmk := run_make_row' (P := Tryz.prog) 43 4 (.bool false) 1 Tryz.underlying43 info4 rfl .i64 .i64 n (by omega) (by omega)
  go_enter Tryz.func65, Tryz.ntmps65
  go_wp2
  clear hmk
  go_loopw [4] (fun i wr => ∃ k : Nat, k ≤ n ∧ i = .int .i64 k ∧ Hid (wr.rowIs w.heap.size 4 n (fun j => .bool (if j < k then bs.getD j false else false))) ∧ Hid (Below w.heap.size w wr)) (fun i _ => n - (intOf i).toNat)
  case atStart =>
    refine ⟨0, Nat.zero_le _, rfl, ?_, ?_⟩
    · exact (World.rowIs_made w (.bool false) n 4).congr (fun j _ => by simp)
    · exact (Below.refl _ _).alloc (Nat.le_refl _) _
  case round =>
    obtain ⟨k, hk, rfl, hr, hb⟩ := hrel
    by_cases hlt : k < n
    · obtain ⟨b, o, rfl, hold, g⟩ := HB.out.cells (by omega)
      have g1 := g k hlt
      clear g
      rw [← hb.out.cell (p := ⟨b, o + k, none⟩) hold] at g1
      have g2 := hr.out.cell hlt
      have g3 := hr.out.frozen k
      obtain ⟨bk, hbk⟩ : ∃ bk, bs.getD k false = bk := ⟨_, rfl⟩
      have HBK : Hid (bs.getD k false = bk) := hbk
      rw [hbk] at g1
      clear hbk
      go_wp2
      refine ⟨⟨k + 1, by omega, by go_num, (hr.out.set k _).congr (fun j hj => ?_), hb.out.setCell (Nat.le_refl _) _⟩, by simp [intOf]; omega⟩
      by_cases e : j = k
      · subst e; rw [if_pos rfl, if_pos (Nat.lt_succ_self _), HBK.out]
      · by_cases e2 : j < k
        · simp [e, e2, show j < k + 1 by omega]
        · simp [e, e2, show ¬ j < k + 1 by omega]
    · have : k = n := by omega
      subst this
      go_wp2
      go_ret
      refine ⟨rfl, ⟨HB.out.len, Nat.le_refl _, by unfold maxLen; omega, fun hp => ⟨w.heap.size, 0, rfl, hr.out.lt, fun i hi => ?_⟩⟩, hb.out⟩
      have := hr.out.cell hi
      rw [if_pos hi] at this
      simpa using this
set_option maxHeartbeats 1000000 in
theorem toIns_c (x y z : Int) (w : World) :
    Calls Tryz.prog 87 #[.agg #[.int .i64 x, .int .i64 y, .int .i64 z]] w fun e w' => e = .returned (.agg #[.int .i64 x, .int .i64 y, .int .i64 z]) ∧ Below w.heap.size w w' := by
  go_enter Tryz.func87, Tryz.ntmps87
  go_wp2
  exact bodyPost_ret (v := .agg #[.int .i64 x, .int .i64 y, .int .i64 z]) (by simp [results, Tryz.results87, go_sem]) rfl ⟨rfl, below3 _ _ _ _⟩
theorem infoIns : (Tryz.prog.info? 73).map (fun i => (i.zero, i.size, i.bytes)) = some (some (.agg #[.int .i64 0, .int .i64 0, .int .i64 0]), 3, 24) := by kernel_rfl
/-- The first k of n instructions lie in block g. -/
def RowI (w : World) (g : Nat) (xs : List In) (n k : Nat) : Prop := ∃ f : Nat → Value, w.rowIs g 73 (n * 3) f ∧ ∀ i, i < k → f (i * 3) = .int .i64 (xs.getD i in0).op ∧ f (i * 3 + 1) = .int .i64 (xs.getD i in0).a ∧ f (i * 3 + 2) = .int .i64 (xs.getD i in0).b
theorem RowI.made {w w' : World} {g n : Nat} {vs : List Value} (xs : List In) (ho : w'.ownsRow g 73 3 (.slice (some ⟨w.heap.size, 0, none⟩) n n) n vs) : RowI w' w.heap.size xs n 0 := by
  obtain ⟨_, h | ⟨g', cap, cur, hv, _, hh, _, _, hsz, _⟩⟩ := ho
  · cases h.1
  · cases hv
    exact ⟨fun i => cur.getD i .nilIface, ⟨cur, hh, hsz, fun i hi => by simp [Array.getD, show i < cur.size by omega]⟩, fun i hi => absurd hi (Nat.not_lt_zero i)⟩
theorem RowI.below {w w' : World} {g n k : Nat} {xs : List In} (h : RowI w g xs n k) (hb : Below w.heap.size w w') : RowI w' g xs n k := by
  obtain ⟨f, hr, hc⟩ := h
  exact ⟨f, hr.of_block (hb.block g hr.lt), hc⟩
theorem RowI.cells {w : World} {g n k : Nat} {xs : List In} (h : RowI w g xs n k) (i : Nat) (hi : i < n * 3) : ∃ v, w.cell? ⟨g, i, none⟩ = some v ∧ w.frozen? ⟨g, i, none⟩ = false := by
  obtain ⟨f, hr, _⟩ := h
  exact ⟨_, hr.cell hi, hr.frozen i⟩
theorem q3 {i k : Nat} (e : i ≠ k) : ∀ a b, a < 3 → b < 3 → ¬ (i * 3 + a = k * 3 + b) := fun a b ha hb => by omega
theorem RowI.store {w : World} {g n k : Nat} {xs : List In} (h : RowI w g xs n k) (x : In) (hx : xs.getD k in0 = x) :
    RowI (((w.setCell ⟨g, k * 3, none⟩ (.int .i64 x.op)).setCell ⟨g, k * 3 + 1, none⟩ (.int .i64 x.a)).setCell ⟨g, k * 3 + 2, none⟩ (.int .i64 x.b)) g xs n (k + 1) := by
  obtain ⟨f, hr, hc⟩ := h
  refine ⟨_, ((hr.set (k * 3) _).set (k * 3 + 1) _).set (k * 3 + 2) _, fun i hi => ?_⟩
  by_cases e : i = k
  · subst e
    rw [hx]
    exact ⟨by simp, by simp, by simp⟩
  · obtain ⟨h0, h1, h2⟩ := hc i (by omega)
    have q := q3 e
    refine ⟨?_, ?_, ?_⟩
    · rw [if_neg (by have := q 0 2 (by omega) (by omega); omega), if_neg (by have := q 0 1 (by omega) (by omega); omega), if_neg (by have := q 0 0 (by omega) (by omega); omega)]; exact h0
    · rw [if_neg (q 1 2 (by omega) (by omega)), if_neg (q 1 1 (by omega) (by omega)), if_neg (by have := q 1 0 (by omega) (by omega); omega)]; exact h1
    · rw [if_neg (q 2 2 (by omega) (by omega)), if_neg (q 2 1 (by omega) (by omega)), if_neg (by have := q 2 0 (by omega) (by omega); omega)]; exact h2
theorem RowI.ii {w : World} {g n : Nat} {xs : List In} (h : RowI w g xs n n) (hl : xs.length = n) (hbig : n ≤ maxLen) : Ii w (some ⟨g, 0, none⟩) n n xs := by
  obtain ⟨f, hr, hc⟩ := h
  refine ⟨hl, Nat.le_refl _, hbig, fun hn => ⟨g, 0, rfl, hr.lt, fun i hi => ?_⟩⟩
  obtain ⟨h0, h1, h2⟩ := hc i hi
  refine ⟨?_, ?_, ?_⟩
  · rw [Nat.zero_add, ← h0]; exact hr.cell (by omega)
  · rw [Nat.zero_add, ← h1]; exact hr.cell (by omega)
  · rw [Nat.zero_add, ← h2]; exact hr.cell (by omega)
set_option maxHeartbeats 1000000 in
theorem toInsS_c (p : Option Addr) (n c : Nat) (xs : List In) (w : World) (hD : Ii w p n c xs) (hn : n ≤ 1048576) :
    Calls Tryz.prog 66 #[.slice p n c] w fun e w' => e = .returned (.slice (some ⟨w.heap.size, 0, none⟩) n n) ∧ Ii w' (some ⟨w.heap.size, 0, none⟩) n n xs ∧ Below w.heap.size w w' := by
  have HD : Hid (Ii w p n c xs) := hD
  clear hD
  obtain ⟨ii, hi1, hpr⟩ := Option.map_eq_some_iff.1 infoIns
  simp only [Prod.mk.injEq] at hpr
  obtain ⟨hz, hs, hb⟩ := hpr
  have HI : Hid (Tryz.prog.info? 73 = some ii ∧ ii.zero = some (.agg #[.int .i64 0, .int .i64 0, .int .i64 0]) ∧ ii.size = 3 ∧ ii.bytes = 24) := ⟨hi1, hz, hs, hb⟩
  clear hi1 hz hs hb
  go_enter Tryz.func66, Tryz.ntmps66
  go_wp2_with (at_make; refine wpList_make_full _ rfl (.tmp 6) (.tmp 6) 46 rfl w.heap.size 73 ii _ 3 Tryz.underlying46 HI.out.1 HI.out.2.1 HI.out.2.2.1 .i64 .i64 n n n (by simp [Act.eval]) (by simp [Act.eval]) rfl rfl (by rw [HI.out.2.2.2]; omega) (by unfold maxLen; omega) (Nat.le_refl _) ?_)
  intro w0 ho hg
  have HR : Hid (RowI w0 w.heap.size xs n 0) := RowI.made xs ho
  have HBL : Hid (Below w.heap.size w w0) := (Below.refl _ w).grown hg (Nat.le_refl _) (fun k h => by cases h)
  clear ho hg
  go_wp2
  go_loopw [4] (fun i wr => ∃ k : Nat, k ≤ n ∧ i = .int .i64 k ∧ Hid (RowI wr w.heap.size xs n k) ∧ Hid (Below w.heap.size w wr)) (fun i _ => n - (intOf i).toNat)
  case atStart => exact ⟨0, Nat.zero_le _, rfl, HR, HBL⟩
  case round =>
    clear HR HBL w0
    obtain ⟨k, hk, rfl, hr, hb⟩ := hrel
    by_cases hlt : k < n
    · obtain ⟨b, o, rfl, hbl, g⟩ := HD.out.cells (by omega)
      obtain ⟨e0, e1, e2⟩ := g k hlt
      clear g
      rw [← hb.out.cell (p := ⟨b, o + k * 3, none⟩) hbl] at e0
      rw [← hb.out.cell (p := ⟨b, o + k * 3 + 1, none⟩) hbl] at e1
      rw [← hb.out.cell (p := ⟨b, o + k * 3 + 2, none⟩) hbl] at e2
      obtain ⟨x, hx⟩ : ∃ x, xs.getD k in0 = x := ⟨_, rfl⟩
      have HX : Hid (xs.getD k in0 = x) := hx
      rw [hx] at e0 e1 e2
      clear hx
      have HST : Hid (∀ w1 : World, Below wr.heap.size wr w1 → RowI (((w1.setCell ⟨w.heap.size, k * 3, none⟩ (.int .i64 x.op)).setCell ⟨w.heap.size, k * 3 + 1, none⟩ (.int .i64 x.a)).setCell ⟨w.heap.size, k * 3 + 2, none⟩ (.int .i64 x.b)) w.heap.size xs n (k + 1)) := fun w1 h1 => (hr.out.below h1).store x HX.out
      go_wp2_with (go_at_call 87; refine (toIns_c _ _ _ _).mono ?_; rintro e w1 ⟨rfl, hb1⟩; have hz := hb1.size; obtain ⟨v0, cc0, ff0⟩ := (hr.out.below hb1).cells (k * 3) (by omega); obtain ⟨v1, cc1, ff1⟩ := (hr.out.below hb1).cells (k * 3 + 1) (by omega); obtain ⟨v2, cc2, ff2⟩ := (hr.out.below hb1).cells (k * 3 + 2) (by omega))
      exact ⟨⟨k + 1, by omega, by go_num, HST.out w1 hb1, (((hb.out.trans (hb1.mono hb.out.size)).setCell (Nat.le_refl _) _).setCell (Nat.le_refl _) _).setCell (Nat.le_refl _) _⟩, by simp [intOf]; omega⟩
    · have : k = n := by omega
      subst this
      go_wp2
      go_ret
      exact ⟨rfl, hr.out.ii HD.out.len (by unfold maxLen; omega), hb.out⟩
end Go.Proofs.YtdjdhjciealfhaaGreatDoor
