import Derived.Test.YtdjdhjciealfhaaGreatDoorW5
namespace Go.Proofs.YtdjdhjciealfhaaGreatDoor
open Go.RowKit Ch1
theorem bne_of_beq {a b : Int} {x : Bool} (h : (a == b) = x) : (a != b) = !x := by rw [← h]; rfl
set_option maxHeartbeats 1000000 in
theorem good29_int (n count : Int) (p : Option Addr) (tn tc : Nat) (t : List Int) (w : World) (hB : By w p tn tc t) :
    Calls Tryz.prog 84 #[.agg #[.int .i64 0, .int .i64 n, .slice p tn tc, .int .i64 count]] w fun e w' => e = .returned (.bool (goodB ⟨0, n, t, count⟩)) ∧ Below w.heap.size w w' := by
  have HF : Hid (goodB ⟨0, n, t, count⟩ = (smallB n && ((tn : Int) == 0) && (count == 0))) := good_int n count t tn hB.len
  clear hB
  obtain ⟨b2, h2⟩ : ∃ b, ((tn : Int) == 0) = b := ⟨_, rfl⟩
  obtain ⟨b3, h3⟩ : ∃ b, (count == 0) = b := ⟨_, rfl⟩
  have h2' := bne_of_beq h2
  have h3' := bne_of_beq h3
  cases b3
  · simp only [Bool.not_false] at h3'
    go_enter Tryz.func84, Tryz.ntmps84
    go_wp2
    go_ret
    exact ⟨ret_bool (by rw [HF.out, h3]; simp), (Below.refl _ _).alloc (Nat.le_refl _) _⟩
  · simp only [Bool.not_true] at h3'
    cases b2
    · simp only [Bool.not_false] at h2'
      go_enter Tryz.func84, Tryz.ntmps84
      go_wp2
      go_ret
      exact ⟨ret_bool (by rw [HF.out, h2]; simp), (Below.refl _ _).alloc (Nat.le_refl _) _⟩
    · simp only [Bool.not_true] at h2'
      go_enter Tryz.func84, Tryz.ntmps84
      go_wp2_with (go_at_call 103; refine (small39 n _).mono ?_; rintro e w' ⟨rfl, rfl⟩)
      go_ret
      exact ⟨ret_bool (by rw [HF.out, h3, h2]; simp), (Below.refl _ _).alloc (Nat.le_refl _) _⟩
set_option maxHeartbeats 1000000 in
theorem good29_bool (n count : Int) (p : Option Addr) (tn tc : Nat) (t : List Int) (w : World) (hB : By w p tn tc t) :
    Calls Tryz.prog 84 #[.agg #[.int .i64 1, .int .i64 n, .slice p tn tc, .int .i64 count]] w fun e w' => e = .returned (.bool (goodB ⟨1, n, t, count⟩)) ∧ Below w.heap.size w w' := by
  have HF : Hid (goodB ⟨1, n, t, count⟩ = (((n == 0) || (n == 1)) && ((tn : Int) == 0) && (count == 0))) := good_bool n count t tn hB.len
  clear hB
  obtain ⟨b1, h1⟩ : ∃ b, (n == 0) = b := ⟨_, rfl⟩
  obtain ⟨b2, h2⟩ : ∃ b, ((tn : Int) == 0) = b := ⟨_, rfl⟩
  obtain ⟨b3, h3⟩ : ∃ b, (count == 0) = b := ⟨_, rfl⟩
  have h2' := bne_of_beq h2
  have h3' := bne_of_beq h3
  cases b3
  · simp only [Bool.not_false] at h3'
    go_enter Tryz.func84, Tryz.ntmps84
    go_wp2
    go_ret
    exact ⟨ret_bool (by rw [HF.out, h3]; simp), (Below.refl _ _).alloc (Nat.le_refl _) _⟩
  · simp only [Bool.not_true] at h3'
    cases b2
    · simp only [Bool.not_false] at h2'
      go_enter Tryz.func84, Tryz.ntmps84
      go_wp2
      go_ret
      exact ⟨ret_bool (by rw [HF.out, h2]; simp), (Below.refl _ _).alloc (Nat.le_refl _) _⟩
    · simp only [Bool.not_true] at h2'
      cases b1
      · go_enter Tryz.func84, Tryz.ntmps84
        go_wp2
        go_ret
        exact ⟨ret_bool (by rw [HF.out, h3, h2, h1]; simp), (Below.refl _ _).alloc (Nat.le_refl _) _⟩
      · go_enter Tryz.func84, Tryz.ntmps84
        go_wp2
        go_ret
        exact ⟨ret_bool (by rw [HF.out, h3, h2, h1]; simp), (Below.refl _ _).alloc (Nat.le_refl _) _⟩
set_option maxHeartbeats 1000000 in
theorem good29_list (n count : Int) (p : Option Addr) (tn tc : Nat) (t : List Int) (w : World) (hB : By w p tn tc t) :
    Calls Tryz.prog 84 #[.agg #[.int .i64 3, .int .i64 n, .slice p tn tc, .int .i64 count]] w fun e w' => e = .returned (.bool (goodB ⟨3, n, t, count⟩)) ∧ Below w.heap.size w w' := by
  have HF : Hid (goodB ⟨3, n, t, count⟩ = ((n == 0) && ((tn : Int) == 0) && decide (0 ≤ count))) := good_list n count t tn hB.len
  clear hB
  obtain ⟨b1, h1⟩ : ∃ b, (n == 0) = b := ⟨_, rfl⟩
  obtain ⟨b2, h2⟩ : ∃ b, ((tn : Int) == 0) = b := ⟨_, rfl⟩
  have h2' := bne_of_beq h2
  cases b2
  · simp only [Bool.not_false] at h2'
    go_enter Tryz.func84, Tryz.ntmps84
    go_wp2
    go_ret
    exact ⟨ret_bool (by rw [HF.out, h2]; simp), (Below.refl _ _).alloc (Nat.le_refl _) _⟩
  · simp only [Bool.not_true] at h2'
    cases b1
    · go_enter Tryz.func84, Tryz.ntmps84
      go_wp2
      go_ret
      exact ⟨ret_bool (by rw [HF.out, h1]; simp), (Below.refl _ _).alloc (Nat.le_refl _) _⟩
    · go_enter Tryz.func84, Tryz.ntmps84
      go_wp2
      go_ret
      exact ⟨ret_bool (by rw [HF.out, h1, h2]; simp), (Below.refl _ _).alloc (Nat.le_refl _) _⟩
set_option maxHeartbeats 1000000 in
theorem good29_other (kind n count : Int) (p : Option Addr) (tn tc : Nat) (t : List Int) (w : World) (h0 : (kind == 0) = false) (h1 : (kind == 1) = false) (h2 : (kind == 2) = false) (h3 : (kind == 3) = false) :
    Calls Tryz.prog 84 #[.agg #[.int .i64 kind, .int .i64 n, .slice p tn tc, .int .i64 count]] w fun e w' => e = .returned (.bool (goodB ⟨kind, n, t, count⟩)) ∧ Below w.heap.size w w' := by
  have HF : Hid (goodB ⟨kind, n, t, count⟩ = false) := good_other kind n count t h0 h1 h2 h3
  have h3' : (kind != 3) = true := by rw [bne_of_beq h3]; rfl
  obtain ⟨b4, h4⟩ : ∃ b, ((tn : Int) != 0) = b := ⟨_, rfl⟩
  obtain ⟨b5, h5⟩ : ∃ b, (count != 0) = b := ⟨_, rfl⟩
  cases b5
  · cases b4
    · go_enter Tryz.func84, Tryz.ntmps84
      go_wp2
      go_ret
      exact ⟨ret_bool HF.out.symm, (Below.refl _ _).alloc (Nat.le_refl _) _⟩
    · go_enter Tryz.func84, Tryz.ntmps84
      go_wp2
      go_ret
      exact ⟨ret_bool HF.out.symm, (Below.refl _ _).alloc (Nat.le_refl _) _⟩
  · go_enter Tryz.func84, Tryz.ntmps84
    go_wp2
    go_ret
    exact ⟨ret_bool HF.out.symm, (Below.refl _ _).alloc (Nat.le_refl _) _⟩
set_option maxHeartbeats 1000000 in
theorem good29_sym (n count : Int) (p : Option Addr) (tn tc : Nat) (t : List Int) (w : World) (hB : By w p tn tc t) :
    Calls Tryz.prog 84 #[.agg #[.int .i64 2, .int .i64 n, .slice p tn tc, .int .i64 count]] w fun e w' => e = .returned (.bool (goodB ⟨2, n, t, count⟩)) ∧ Below w.heap.size w w' := by
  have HF : Hid (goodB ⟨2, n, t, count⟩ = ((n == 0) && symTextB t && (count == 0))) := good_sym n count t
  have HB : Hid (By w p tn tc t) := hB
  clear hB
  obtain ⟨b1, h1⟩ : ∃ b, (n == 0) = b := ⟨_, rfl⟩
  obtain ⟨b3, h3⟩ : ∃ b, (count == 0) = b := ⟨_, rfl⟩
  have h3' := bne_of_beq h3
  cases b3
  · simp only [Bool.not_false] at h3'
    go_enter Tryz.func84, Tryz.ntmps84
    go_wp2
    go_ret
    exact ⟨ret_bool (by rw [HF.out, h3]; simp), (Below.refl _ _).alloc (Nat.le_refl _) _⟩
  · simp only [Bool.not_true] at h3'
    cases b1
    · go_enter Tryz.func84, Tryz.ntmps84
      go_wp2
      go_ret
      exact ⟨ret_bool (by rw [HF.out, h1]; simp), (Below.refl _ _).alloc (Nat.le_refl _) _⟩
    · go_enter Tryz.func84, Tryz.ntmps84
      go_wp2_with (go_at_call 102; refine (symbol38 _ _ _ t _ (by exact HB.out.below ((Below.refl _ w).alloc (Nat.le_refl _) _))).mono ?_; rintro e w1 ⟨rfl, hw1⟩; have hw2 := hw1.symm; clear hw1; subst hw2)
      go_ret
      exact ⟨ret_bool (by rw [HF.out, h1, h3]; simp), (Below.refl _ _).alloc (Nat.le_refl _) _⟩
theorem good29 (d : Dt) (p : Option Addr) (tn tc : Nat) (w : World) (hB : By w p tn tc d.text) :
    Calls Tryz.prog 84 #[.agg #[.int .i64 d.kind, .int .i64 d.n, .slice p tn tc, .int .i64 d.count]] w fun e w' => e = .returned (.bool (goodB d)) ∧ Below w.heap.size w w' := by
  obtain ⟨kind, n, t, count⟩ := d
  by_cases h0 : kind = 0
  · subst h0; exact good29_int n count p tn tc t w hB
  by_cases h1 : kind = 1
  · subst h1; exact good29_bool n count p tn tc t w hB
  by_cases h2 : kind = 2
  · subst h2; exact good29_sym n count p tn tc t w hB
  by_cases h3 : kind = 3
  · subst h3; exact good29_list n count p tn tc t w hB
  exact good29_other kind n count p tn tc t w (beq_eq_false_iff_ne.2 h0) (beq_eq_false_iff_ne.2 h1) (beq_eq_false_iff_ne.2 h2) (beq_eq_false_iff_ne.2 h3)
theorem alone31 (d : Dt) (p : Option Addr) (tn tc : Nat) (w : World) (hB : By w p tn tc d.text) :
    Calls Tryz.prog 105 #[.agg #[.int .i64 d.kind, .int .i64 d.n, .slice p tn tc, .int .i64 d.count]] w fun e w' => e = .returned (.bool (goodB d)) ∧ Below w.heap.size w w' := by
  obtain ⟨kind, n, t, count⟩ := d
  by_cases h0 : kind = 0
  · subst h0; exact alone31_int n count p tn tc t w hB
  by_cases h1 : kind = 1
  · subst h1; exact alone31_bool n count p tn tc t w hB
  by_cases h2 : kind = 2
  · subst h2; exact alone31_sym n count p tn tc t w hB
  by_cases h3 : kind = 3
  · subst h3; exact alone31_list n count p tn tc t w hB
  exact alone31_other kind n count p tn tc t w (beq_eq_false_iff_ne.2 h0) (beq_eq_false_iff_ne.2 h1) (beq_eq_false_iff_ne.2 h2) (beq_eq_false_iff_ne.2 h3)
end Go.Proofs.YtdjdhjciealfhaaGreatDoor
namespace Go.Proofs.YtdjdhjciealfhaaGreatDoor
open Go.RowKit Ch1
/-- Element i of the data at ⟨b, o⟩. -/
structure El (w : World) (b o : Nat) (d : Dt) (tp : Option Addr) (tn tc : Nat) : Prop where
  c0 : w.cell? ⟨b, o, none⟩ = some (.int .i64 d.kind)
  c1 : w.cell? ⟨b, o + 1, none⟩ = some (.int .i64 d.n)
  c2 : w.cell? ⟨b, o + 2, none⟩ = some (.slice tp tn tc)
  c3 : w.cell? ⟨b, o + 3, none⟩ = some (.int .i64 d.count)
  by_ : By w tp tn tc d.text
  lo : -9223372036854775808 ≤ d.count
  hi : d.count ≤ 9223372036854775807
/-- A slice of data that lies in w and reads as ds. -/
structure Da (w : World) (p : Option Addr) (n c : Nat) (ds : List Dt) : Prop where
  len : ds.length = n
  cap : n ≤ c
  big : c ≤ maxLen
  cells : 0 < n → ∃ b o, p = some ⟨b, o, none⟩ ∧ b < w.heap.size ∧ ∀ i, i < n → ∃ tp tn tc, El w b (o + i * 4) (ds.getD i dt0) tp tn tc
theorem El.below {w w' : World} {b o : Nat} {d : Dt} {tp : Option Addr} {tn tc : Nat} (h : El w b o d tp tn tc) (hlt : b < w.heap.size) (hb : Below w.heap.size w w') : El w' b o d tp tn tc :=
  ⟨by rw [hb.cell (p := ⟨b, o, none⟩) hlt]; exact h.c0, by rw [hb.cell (p := ⟨b, o + 1, none⟩) hlt]; exact h.c1, by rw [hb.cell (p := ⟨b, o + 2, none⟩) hlt]; exact h.c2, by rw [hb.cell (p := ⟨b, o + 3, none⟩) hlt]; exact h.c3, h.by_.below hb, h.lo, h.hi⟩
theorem Da.below {w w' : World} {p : Option Addr} {n c : Nat} {ds : List Dt} (h : Da w p n c ds) (hb : Below w.heap.size w w') : Da w' p n c ds := by
  refine ⟨h.len, h.cap, h.big, fun hn => ?_⟩
  obtain ⟨b, o, e, hlt, hc⟩ := h.cells hn
  refine ⟨b, o, e, Nat.lt_of_lt_of_le hlt hb.size, fun i hi => ?_⟩
  obtain ⟨tp, tn, tc, he⟩ := hc i hi
  exact ⟨tp, tn, tc, he.below hlt hb⟩

def szOf (left : Int) (n : Nat) : Int := if left - n < 0 then -1 else left - n
set_option maxHeartbeats 400000 in
theorem szDatum15 (k n c : Int) (tp : Option Addr) (tn tc : Nat) (left : Int) (w : World) (hn : tn ≤ 9223372036854775807) (h0 : 0 ≤ left) (h1 : left ≤ 1048576) :
    Calls Tryz.prog 54 #[.agg #[.int .i64 k, .int .i64 n, .slice tp tn tc, .int .i64 c], .int .i64 left] w fun e w' => e = .returned (.int .i64 (szOf left tn)) ∧ Below w.heap.size w w' := by
  by_cases h : left - tn < 0
  · have HS : Hid (szOf left tn = -1) := by unfold Hid szOf; rw [if_pos h]
    have HI : Hid ((if left - tn < 0 then (-1 : Int) else left - tn) = -1) := if_pos h
    go_enter Tryz.func54, Tryz.ntmps54
    go_wp2_with (go_at_call 83; refine (szByte28 _ _ _ _ _ hn h0 h1).mono ?_; rintro e w' ⟨rfl, rfl⟩; rw [HI.out])
    go_ret
    exact ⟨ret_int HS.out.symm, (Below.refl _ _).alloc (Nat.le_refl _) _⟩
  · have HS : Hid (szOf left tn = left - tn) := by unfold Hid szOf; rw [if_neg h]
    have HI : Hid ((if left - tn < 0 then (-1 : Int) else left - tn) = left - tn) := if_neg h
    go_enter Tryz.func54, Tryz.ntmps54
    go_wp2_with (go_at_call 83; refine (szByte28 _ _ _ _ _ hn h0 h1).mono ?_; rintro e w' ⟨rfl, rfl⟩; rw [HI.out])
    go_ret
    exact ⟨ret_int HS.out.symm, (Below.refl _ _).alloc (Nat.le_refl _) _⟩
set_option maxHeartbeats 400000 in
theorem szDatumS5 (p : Option Addr) (n c : Nat) (ds : List Dt) (left : Int) (w : World) (hD : Da w p n c ds) (h0 : 0 ≤ left) (h1 : left ≤ 1048576) :
    Calls Tryz.prog 29 #[.slice p n c, .int .i64 left] w fun e w' => ∃ v : Int, e = .returned (.int .i64 v) ∧ (0 ≤ v → (n : Int) ≤ left ∧ ∀ i, i < n → ((ds.getD i dt0).text.length : Int) ≤ left) ∧ Below w.heap.size w w' := by
  have hbig : n ≤ 9223372036854775807 := by have := hD.cap; have := hD.big; unfold maxLen at this; omega
  have HD : Hid (Da w p n c ds) := hD
  clear hD
  by_cases hneg : left - n < 0
  · go_enter Tryz.func29, Tryz.ntmps29
    go_wp2
    go_ret
    exact ⟨-1, rfl, fun h => by omega, Below.refl _ _⟩
  · go_enter Tryz.func29, Tryz.ntmps29
    go_wp2
    go_loopw [1, 5] (fun l i wr => ∃ (k : Nat) (v : Int), k ≤ n ∧ i = .int .i64 k ∧ l = .int .i64 v ∧ 0 ≤ v ∧ v ≤ left ∧ Hid (∀ j, j < k → ((ds.getD j dt0).text.length : Int) ≤ left) ∧ Hid (Below w.heap.size w wr)) (fun _ i _ => n - (intOf i).toNat)
    case atStart => exact ⟨0, _, Nat.zero_le _, rfl, rfl, by omega, by omega, fun j hj => absurd hj (Nat.not_lt_zero j), Below.refl _ _⟩
    case round =>
      obtain ⟨k, v, hk, rfl, rfl, hv0, hv1, hn, hb⟩ := hrel
      by_cases hlt : k < n
      · obtain ⟨b, o, rfl, hbl, g⟩ := HD.out.cells (by omega)
        obtain ⟨tp, tn, tc, he⟩ := g k hlt
        clear g
        have htn : tn ≤ 9223372036854775807 := by have := he.by_.cap; have := he.by_.big; unfold maxLen at this; omega
        have htl : Hid ((ds.getD k dt0).text.length = tn) := he.by_.len
        have he' := he.below (w' := wr) hbl hb.out
        have e0 := he'.c0
        have e1 := he'.c1
        have e2 := he'.c2
        have e3 := he'.c3
        clear he he'
        generalize ds.getD k dt0 = d at e0 e1 e2 e3
        by_cases hs : v - tn < 0
        · have HS : Hid (szOf v tn = -1) := by unfold Hid szOf; rw [if_pos hs]
          go_wp2_with (go_at_call 54; refine (szDatum15 _ _ _ tp tn tc v _ htn hv0 (by omega)).mono ?_; rintro e w1 ⟨rfl, hb1⟩; rw [HS.out])
          go_ret
          exact ⟨-1, rfl, fun h => by omega, hb.out.trans (hb1.mono hb.out.size)⟩
        · have HS : Hid (szOf v tn = v - tn) := by unfold Hid szOf; rw [if_neg hs]
          go_wp2_with (go_at_call 54; refine (szDatum15 _ _ _ tp tn tc v _ htn hv0 (by omega)).mono ?_; rintro e w1 ⟨rfl, hb1⟩; rw [HS.out])
          refine ⟨⟨k + 1, _, by omega, by go_num, rfl, by omega, by omega, fun j hj => ?_, hb.out.trans (hb1.mono hb.out.size)⟩, by simp [intOf]; omega⟩
          by_cases e : j < k
          · exact hn.out j e
          · rw [show j = k by omega, htl.out]; omega
      · have : k = n := by omega
        subst this
        go_wp2
        go_ret
        exact ⟨v, rfl, fun _ => ⟨by omega, hn.out⟩, hb.out⟩

theorem By.setCell {w : World} {g n c : Nat} {xs : List Int} (h : By w (some ⟨g, 0, none⟩) n c xs) {a : Addr} (ha : g ≠ a.block) (v : Value) : By (w.setCell a v) (some ⟨g, 0, none⟩) n c xs := by
  refine ⟨h.len, h.cap, h.big, h.rng, fun hn => ?_, fun x hx hn => by have := h.old x hx hn; simpa [World.setCell] using this⟩
  obtain ⟨b, o, e, hc⟩ := h.cells hn
  cases e
  refine ⟨g, 0, rfl, fun i hi => ?_⟩
  rw [World.cell?_of_block (w := w) (Below.heap_setCell w a v g ha)]
  exact hc i hi
theorem below1 (w : World) (o : Obj) : Below w.heap.size w (w.alloc o) := (Below.refl _ w).alloc (Nat.le_refl _) _
theorem below2 (w : World) (o o2 : Obj) : Below w.heap.size w ((w.alloc o).alloc o2) := (below1 w o).alloc (by simp) _
theorem below3 (w : World) (o o2 o3 : Obj) : Below w.heap.size w (((w.alloc o).alloc o2).alloc o3) := (below2 w o o2).alloc (by simp; omega) _
set_option maxHeartbeats 1000000 in
theorem toDatum17 (k n c : Int) (tp : Option Addr) (tn tc : Nat) (xs : List Int) (w : World) (hB : By w tp tn tc xs) (hn : tn ≤ 1048576) :
    Calls Tryz.prog 64 #[.agg #[.int .i64 k, .int .i64 n, .slice tp tn tc, .int .i64 c]] w fun e w' => ∃ g, e = .returned (.agg #[.int .i64 k, .int .i64 n, .slice (some ⟨g, 0, none⟩) tn tn, .int .i64 c]) ∧ w.heap.size ≤ g ∧ By w' (some ⟨g, 0, none⟩) tn tn xs ∧ Below w.heap.size w w' := by
  have HB : Hid (By w tp tn tc xs) := hB
  clear hB
  go_enter Tryz.func64, Tryz.ntmps64
  go_wp2_with (go_at_call 86; refine (toByte30 _ _ _ xs _ (by exact HB.out.below (below3 w _ _ _)) hn).mono ?_; rintro e w1 ⟨rfl, hby, hb1⟩; have hz := hb1.size; obtain ⟨hc1, hf1⟩ := bcell hb1)
  have hby' : By w1 (some ⟨w.heap.size + 1 + 1 + 1, 0, none⟩) tn tn xs := by simpa using hby
  have hbb : Below w.heap.size w w1 := (below3 w _ _ _).trans (hb1.mono (by simp; omega))
  refine bodyPost_ret (v := .agg #[.int .i64 k, .int .i64 n, .slice (some ⟨w.heap.size + 1 + 1 + 1, 0, none⟩) tn tn, .int .i64 c]) (by simp [results, Tryz.results64, go_sem, hc1]) rfl ⟨_, rfl, by omega, ?_, ?_⟩
  · exact (((((hby'.setCell (by simp) _).setCell (by simp) _).setCell (by simp; omega) _).setCell (by simp; omega) _).setCell (by simp; omega) _).setCell (by simp; omega) _
  · exact (((((hbb.setCell (by simp; omega) _).setCell (by simp; omega) _).setCell (by simp) _).setCell (by simp) _).setCell (by simp) _).setCell (by simp) _
end Go.Proofs.YtdjdhjciealfhaaGreatDoor
namespace Go.Proofs.YtdjdhjciealfhaaGreatDoor
open Go.RowKit Ch1
theorem info47 : (Tryz.prog.info? 121).map (fun i => (i.zero, i.size, i.bytes)) = some (some (.agg #[.int .i64 0, .int .i64 0, .slice none 0 0, .int .i64 0]), 4, 48) := by kernel_rfl
/-- The first k of n data lie in block g. -/
def Row (w : World) (g : Nat) (ds : List Dt) (n k : Nat) : Prop := ∃ (f : Nat → Value) (t : Nat → Nat), w.rowIs g 121 (n * 4) f ∧ ∀ i, i < k →
  f (i * 4) = .int .i64 (ds.getD i dt0).kind ∧ f (i * 4 + 1) = .int .i64 (ds.getD i dt0).n ∧
  f (i * 4 + 2) = .slice (some ⟨t i, 0, none⟩) (ds.getD i dt0).text.length (ds.getD i dt0).text.length ∧
  f (i * 4 + 3) = .int .i64 (ds.getD i dt0).count ∧ g < t i ∧
  By w (some ⟨t i, 0, none⟩) (ds.getD i dt0).text.length (ds.getD i dt0).text.length (ds.getD i dt0).text
theorem Row.made {w w' : World} {g n : Nat} {xs : List Value} (ds : List Dt) (ho : w'.ownsRow g 121 4 (.slice (some ⟨w.heap.size, 0, none⟩) n n) n xs) : Row w' w.heap.size ds n 0 := by
  obtain ⟨_, h | ⟨g', cap, cur, hv, _, hh, _, _, hsz, _⟩⟩ := ho
  · cases h.1
  · cases hv
    exact ⟨fun i => cur.getD i .nilIface, fun _ => 0, ⟨cur, hh, hsz, fun i hi => by simp [Array.getD, show i < cur.size by omega]⟩, fun i hi => absurd hi (Nat.not_lt_zero i)⟩
theorem Row.below {w w' : World} {g n k : Nat} {ds : List Dt} (h : Row w g ds n k) (hb : Below w.heap.size w w') : Row w' g ds n k := by
  obtain ⟨f, t, hr, hc⟩ := h
  refine ⟨f, t, hr.of_block (hb.block g hr.lt), fun i hi => ?_⟩
  obtain ⟨h0, h1, h2, h3, h4, h5⟩ := hc i hi
  exact ⟨h0, h1, h2, h3, h4, h5.below hb⟩
theorem Row.store {w : World} {g n k : Nat} {ds : List Dt} (h : Row w g ds n k) (hk : k < n) (t : Nat) (ht : g < t) (hb : By w (some ⟨t, 0, none⟩) (ds.getD k dt0).text.length (ds.getD k dt0).text.length (ds.getD k dt0).text) :
    Row ((((w.setCell ⟨g, k * 4, none⟩ (.int .i64 (ds.getD k dt0).kind)).setCell ⟨g, k * 4 + 1, none⟩ (.int .i64 (ds.getD k dt0).n)).setCell ⟨g, k * 4 + 2, none⟩ (.slice (some ⟨t, 0, none⟩) (ds.getD k dt0).text.length (ds.getD k dt0).text.length)).setCell ⟨g, k * 4 + 3, none⟩ (.int .i64 (ds.getD k dt0).count)) g ds n (k + 1) := by
  obtain ⟨f, t', hr, hc⟩ := h
  refine ⟨_, fun i => if i = k then t else t' i, (((hr.set (k * 4) _).set (k * 4 + 1) _).set (k * 4 + 2) _).set (k * 4 + 3) _, fun i hi => ?_⟩
  by_cases e : i = k
  · subst e
    refine ⟨by simp, by simp, by simp, by simp, by simpa using ht, ?_⟩
    simp only [if_true]
    exact (((hb.setCell (by simp; omega) _).setCell (by simp; omega) _).setCell (by simp; omega) _).setCell (by simp; omega) _
  · obtain ⟨h0, h1, h2, h3, h4, h5⟩ := hc i (by omega)
    have q : ∀ a b, a < 4 → b < 4 → ¬ (i * 4 + a = k * 4 + b) := fun a b ha hb => by omega
    refine ⟨?_, ?_, ?_, ?_, by simp [e, h4], ?_⟩
    · rw [if_neg (by have := q 0 3 (by omega) (by omega); omega), if_neg (by have := q 0 2 (by omega) (by omega); omega), if_neg (by have := q 0 1 (by omega) (by omega); omega), if_neg (by have := q 0 0 (by omega) (by omega); omega)]; exact h0
    · rw [if_neg (q 1 3 (by omega) (by omega)), if_neg (q 1 2 (by omega) (by omega)), if_neg (q 1 1 (by omega) (by omega)), if_neg (by have := q 1 0 (by omega) (by omega); omega)]; exact h1
    · rw [if_neg (q 2 3 (by omega) (by omega)), if_neg (q 2 2 (by omega) (by omega)), if_neg (q 2 1 (by omega) (by omega)), if_neg (by have := q 2 0 (by omega) (by omega); omega)]; simp only [if_neg e]; exact h2
    · rw [if_neg (q 3 3 (by omega) (by omega)), if_neg (q 3 2 (by omega) (by omega)), if_neg (q 3 1 (by omega) (by omega)), if_neg (by have := q 3 0 (by omega) (by omega); omega)]; exact h3
    · simp only [if_neg e]
      exact (((h5.setCell (by simp; omega) _).setCell (by simp; omega) _).setCell (by simp; omega) _).setCell (by simp; omega) _
theorem Row.cells {w : World} {g n k : Nat} {ds : List Dt} (h : Row w g ds n k) (i : Nat) (hi : i < n * 4) : ∃ v, w.cell? ⟨g, i, none⟩ = some v ∧ w.frozen? ⟨g, i, none⟩ = false := by
  obtain ⟨f, t, hr, _⟩ := h
  exact ⟨_, hr.cell hi, hr.frozen i⟩
theorem Row.lt {w : World} {g n k : Nat} {ds : List Dt} (h : Row w g ds n k) : g < w.heap.size := h.choose_spec.choose_spec.1.lt
theorem Row.da {w : World} {g n : Nat} {ds : List Dt} (h : Row w g ds n n) (hl : ds.length = n) (hbig : n ≤ maxLen) (hw : ∀ i, i < n → -9223372036854775808 ≤ (ds.getD i dt0).count ∧ (ds.getD i dt0).count ≤ 9223372036854775807) : Da w (some ⟨g, 0, none⟩) n n ds := by
  refine ⟨hl, Nat.le_refl _, hbig, fun hn => ⟨g, 0, rfl, h.lt, fun i hi => ?_⟩⟩
  obtain ⟨f, t, hr, hc⟩ := h
  obtain ⟨h0, h1, h2, h3, h4, h5⟩ := hc i hi
  refine ⟨_, _, _, ?_, ?_, ?_, ?_, h5, (hw i hi).1, (hw i hi).2⟩
  · rw [Nat.zero_add, ← h0]; exact hr.cell (by omega)
  · rw [Nat.zero_add, ← h1]; exact hr.cell (by omega)
  · rw [Nat.zero_add, ← h2]; exact hr.cell (by omega)
  · rw [Nat.zero_add, ← h3]; exact hr.cell (by omega)

set_option maxHeartbeats 1000000 in
theorem toDatumSr (p : Option Addr) (n c : Nat) (ds : List Dt) (w : World) (hD : Da w p n c ds) (hn : n ≤ 1048576) (ht : ∀ i, i < n → ((ds.getD i dt0).text.length : Int) ≤ 1048576) :
    Calls Tryz.prog 38 #[.slice p n c] w fun e w' => e = .returned (.slice (some ⟨w.heap.size, 0, none⟩) n n) ∧ Da w' (some ⟨w.heap.size, 0, none⟩) n n ds ∧ Row w' w.heap.size ds n n ∧ Below w.heap.size w w' := by
  have HD : Hid (Da w p n c ds) := hD
  have HT : Hid (∀ i, i < n → ((ds.getD i dt0).text.length : Int) ≤ 1048576) := ht
  clear hD ht
  obtain ⟨i47, hi47, hpr⟩ := Option.map_eq_some_iff.1 info47
  simp only [Prod.mk.injEq] at hpr
  obtain ⟨hz47, hs47, hb47⟩ := hpr
  have HI : Hid (Tryz.prog.info? 121 = some i47 ∧ i47.zero = some (.agg #[.int .i64 0, .int .i64 0, .slice none 0 0, .int .i64 0]) ∧ i47.size = 4 ∧ i47.bytes = 48) := ⟨hi47, hz47, hs47, hb47⟩
  clear hi47 hz47 hs47 hb47
  go_enter Tryz.func38, Tryz.ntmps38
  go_wp2_with (at_make; refine wpList_make_full _ rfl (.tmp 6) (.tmp 6) 67 rfl w.heap.size 121 i47 _ 4 Tryz.underlying67 HI.out.1 HI.out.2.1 HI.out.2.2.1 .i64 .i64 n n n (by simp [Act.eval]) (by simp [Act.eval]) rfl rfl (by rw [HI.out.2.2.2]; omega) (by unfold maxLen; omega) (Nat.le_refl _) ?_)
  intro w0 ho hg
  have HR : Hid (Row w0 w.heap.size ds n 0) := Row.made ds ho
  have HBL : Hid (Below w.heap.size w w0) := (Below.refl _ w).grown hg (Nat.le_refl _) (fun k h => by cases h)
  clear ho hg
  go_wp2
  go_loopw [4] (fun i wr => ∃ k : Nat, k ≤ n ∧ i = .int .i64 k ∧ Hid (Row wr w.heap.size ds n k) ∧ Hid (Below w.heap.size w wr)) (fun i _ => n - (intOf i).toNat)
  case atStart => exact ⟨0, Nat.zero_le _, rfl, HR, HBL⟩
  case round =>
    clear HR HBL w0
    obtain ⟨k, hk, rfl, hr, hb⟩ := hrel
    by_cases hlt : k < n
    · obtain ⟨b, o, rfl, hbl, g⟩ := HD.out.cells (by omega)
      obtain ⟨tp, tn, tc, he⟩ := g k hlt
      clear g
      have htl : Hid ((ds.getD k dt0).text.length = tn) := he.by_.len
      have htn : tn ≤ 1048576 := by have := HT.out k hlt; rw [htl.out] at this; omega
      have he' := he.below (w' := wr) hbl hb.out
      have HY : Hid (By wr tp tn tc (ds.getD k dt0).text) := he'.by_
      have e0 := he'.c0
      have e1 := he'.c1
      have e2 := he'.c2
      have e3 := he'.c3
      clear he he'
      have hgl := hr.out.lt
      have HST : Hid (∀ (w1 : World) (t : Nat), Below wr.heap.size wr w1 → wr.heap.size ≤ t → By w1 (some ⟨t, 0, none⟩) tn tn (ds.getD k dt0).text →
        Row ((((w1.setCell ⟨w.heap.size, k * 4, none⟩ (.int .i64 (ds.getD k dt0).kind)).setCell ⟨w.heap.size, k * 4 + 1, none⟩ (.int .i64 (ds.getD k dt0).n)).setCell ⟨w.heap.size, k * 4 + 2, none⟩ (.slice (some ⟨t, 0, none⟩) tn tn)).setCell ⟨w.heap.size, k * 4 + 3, none⟩ (.int .i64 (ds.getD k dt0).count)) w.heap.size ds n (k + 1)) := by
        intro w1 t h1 h2 h3
        rw [← htl.out] at h3 ⊢
        exact (hr.out.below h1).store hlt t (by omega) h3
      generalize ds.getD k dt0 = d at e0 e1 e2 e3 HY HST
      go_wp2_with (go_at_call 64; refine (toDatum17 _ _ _ tp tn tc d.text _ HY.out htn).mono ?_; rintro e w1 ⟨t, rfl, ht1, hby, hb1⟩; have hz := hb1.size; obtain ⟨v0, cc0, ff0⟩ := (hr.out.below hb1).cells (k * 4) (by omega); obtain ⟨v1, cc1, ff1⟩ := (hr.out.below hb1).cells (k * 4 + 1) (by omega); obtain ⟨v2, cc2, ff2⟩ := (hr.out.below hb1).cells (k * 4 + 2) (by omega); obtain ⟨v3, cc3, ff3⟩ := (hr.out.below hb1).cells (k * 4 + 3) (by omega))
      exact ⟨⟨k + 1, by omega, by go_num, HST.out w1 t hb1 ht1 hby, ((((hb.out.trans (hb1.mono hb.out.size)).setCell (Nat.le_refl _) _).setCell (Nat.le_refl _) _).setCell (Nat.le_refl _) _).setCell (Nat.le_refl _) _⟩, by simp [intOf]; omega⟩
    · have : k = n := by omega
      subst this
      go_wp2
      go_ret
      refine ⟨rfl, hr.out.da HD.out.len (by unfold maxLen; omega) (fun i hi => ?_), hr.out, hb.out⟩
      obtain ⟨b, o, _, _, g⟩ := HD.out.cells (by omega)
      obtain ⟨tp, tn, tc, he⟩ := g i hi
      exact ⟨he.lo, he.hi⟩
theorem toDatumS7 (p : Option Addr) (n c : Nat) (ds : List Dt) (w : World) (hD : Da w p n c ds) (hn : n ≤ 1048576) (ht : ∀ i, i < n → ((ds.getD i dt0).text.length : Int) ≤ 1048576) :
    Calls Tryz.prog 38 #[.slice p n c] w fun e w' => e = .returned (.slice (some ⟨w.heap.size, 0, none⟩) n n) ∧ Da w' (some ⟨w.heap.size, 0, none⟩) n n ds ∧ Below w.heap.size w w' :=
  (toDatumSr p n c ds w hD hn ht).mono fun _ _ ⟨h1, h2, _, h3⟩ => ⟨h1, h2, h3⟩
end Go.Proofs.YtdjdhjciealfhaaGreatDoor
