import Derived.Test.YtbcanodijcglpaaDoorW6
namespace Go.Proofs.YtbcanodijcglpaaDoor
open Go.RowKit Ch1
/-- Element i of the data at ⟨b, o⟩. -/
structure El (w : World) (b o : Nat) (d : Dt) (tp : Option Addr) (tn tc : Nat) : Prop where
  c0 : w.cell? ⟨b, o, none⟩ = some (.int .i64 d.kind)
  c1 : w.cell? ⟨b, o + 1, none⟩ = some (.int .i64 d.n)
  c2 : w.cell? ⟨b, o + 2, none⟩ = some (.slice tp tn tc)
  c3 : w.cell? ⟨b, o + 3, none⟩ = some (.int .i64 d.count)
  by_ : By w tp tn tc d.text
  lo : -9223372036854775808 ≤ d.count
  hi : d.count ≤ 9223372036854775807
/-- A slice of data that lies in w and reads as ds. -/
structure Da (w : World) (p : Option Addr) (n c : Nat) (ds : List Dt) : Prop where
  len : ds.length = n
  cap : n ≤ c
  big : c ≤ maxLen
  cells : 0 < n → ∃ b o, p = some ⟨b, o, none⟩ ∧ b < w.heap.size ∧ ∀ i, i < n → ∃ tp tn tc, El w b (o + i * 4) (ds.getD i dt0) tp tn tc
theorem El.below {w w' : World} {b o : Nat} {d : Dt} {tp : Option Addr} {tn tc : Nat} (h : El w b o d tp tn tc) (hlt : b < w.heap.size) (hb : Below w.heap.size w w') : El w' b o d tp tn tc :=
  ⟨by rw [hb.cell (p := ⟨b, o, none⟩) hlt]; exact h.c0, by rw [hb.cell (p := ⟨b, o + 1, none⟩) hlt]; exact h.c1, by rw [hb.cell (p := ⟨b, o + 2, none⟩) hlt]; exact h.c2, by rw [hb.cell (p := ⟨b, o + 3, none⟩) hlt]; exact h.c3, h.by_.below hb, h.lo, h.hi⟩
theorem Da.below {w w' : World} {p : Option Addr} {n c : Nat} {ds : List Dt} (h : Da w p n c ds) (hb : Below w.heap.size w w') : Da w' p n c ds := by
  refine ⟨h.len, h.cap, h.big, fun hn => ?_⟩
  obtain ⟨b, o, e, hlt, hc⟩ := h.cells hn
  refine ⟨b, o, e, Nat.lt_of_lt_of_le hlt hb.size, fun i hi => ?_⟩
  obtain ⟨tp, tn, tc, he⟩ := hc i hi
  exact ⟨tp, tn, tc, he.below hlt hb⟩

def szOf (left : Int) (n : Nat) : Int := if left - n < 0 then -1 else left - n
set_option maxHeartbeats 400000 in
theorem szDatum15 (k n c : Int) (tp : Option Addr) (tn tc : Nat) (left : Int) (w : World) (hn : tn ≤ 9223372036854775807) (h0 : 0 ≤ left) (h1 : left ≤ 1048576) :
    Calls Tryd.prog 48 #[.agg #[.int .i64 k, .int .i64 n, .slice tp tn tc, .int .i64 c], .int .i64 left] w fun e w' => e = .returned (.int .i64 (szOf left tn)) ∧ Below w.heap.size w w' := by
  by_cases h : left - tn < 0
  · have HS : Hid (szOf left tn = -1) := by unfold Hid szOf; rw [if_pos h]
    have HI : Hid ((if left - tn < 0 then (-1 : Int) else left - tn) = -1) := if_pos h
    go_enter Tryd.func48, Tryd.ntmps48
    go_wp2_with (go_at_call 62; refine (szByte28 _ _ _ _ _ hn h0 h1).mono ?_; rintro e w' ⟨rfl, rfl⟩; rw [HI.out])
    go_ret
    exact ⟨ret_int HS.out.symm, (Below.refl _ _).alloc (Nat.le_refl _) _⟩
  · have HS : Hid (szOf left tn = left - tn) := by unfold Hid szOf; rw [if_neg h]
    have HI : Hid ((if left - tn < 0 then (-1 : Int) else left - tn) = left - tn) := if_neg h
    go_enter Tryd.func48, Tryd.ntmps48
    go_wp2_with (go_at_call 62; refine (szByte28 _ _ _ _ _ hn h0 h1).mono ?_; rintro e w' ⟨rfl, rfl⟩; rw [HI.out])
    go_ret
    exact ⟨ret_int HS.out.symm, (Below.refl _ _).alloc (Nat.le_refl _) _⟩
set_option maxHeartbeats 400000 in
theorem szDatumS5 (p : Option Addr) (n c : Nat) (ds : List Dt) (left : Int) (w : World) (hD : Da w p n c ds) (h0 : 0 ≤ left) (h1 : left ≤ 1048576) :
    Calls Tryd.prog 28 #[.slice p n c, .int .i64 left] w fun e w' => ∃ v : Int, e = .returned (.int .i64 v) ∧ (0 ≤ v → (n : Int) ≤ left ∧ ∀ i, i < n → ((ds.getD i dt0).text.length : Int) ≤ left) ∧ Below w.heap.size w w' := by
  have hbig : n ≤ 9223372036854775807 := by have := hD.cap; have := hD.big; unfold maxLen at this; omega
  have HD : Hid (Da w p n c ds) := hD
  clear hD
  by_cases hneg : left - n < 0
  · go_enter Tryd.func28, Tryd.ntmps28
    go_wp2
    go_ret
    exact ⟨-1, rfl, fun h => by omega, Below.refl _ _⟩
  · go_enter Tryd.func28, Tryd.ntmps28
    go_wp2
    go_loopw [1, 5] (fun l i wr => ∃ (k : Nat) (v : Int), k ≤ n ∧ i = .int .i64 k ∧ l = .int .i64 v ∧ 0 ≤ v ∧ v ≤ left ∧ Hid (∀ j, j < k → ((ds.getD j dt0).text.length : Int) ≤ left) ∧ Hid (Below w.heap.size w wr)) (fun _ i _ => n - (intOf i).toNat)
    case atStart => exact ⟨0, _, Nat.zero_le _, rfl, rfl, by omega, by omega, fun j hj => absurd hj (Nat.not_lt_zero j), Below.refl _ _⟩
    case round =>
      obtain ⟨k, v, hk, rfl, rfl, hv0, hv1, hn, hb⟩ := hrel
      by_cases hlt : k < n
      · obtain ⟨b, o, rfl, hbl, g⟩ := HD.out.cells (by omega)
        obtain ⟨tp, tn, tc, he⟩ := g k hlt
        clear g
        have htn : tn ≤ 9223372036854775807 := by have := he.by_.cap; have := he.by_.big; unfold maxLen at this; omega
        have htl : Hid ((ds.getD k dt0).text.length = tn) := he.by_.len
        have he' := he.below (w' := wr) hbl hb.out
        have e0 := he'.c0
        have e1 := he'.c1
        have e2 := he'.c2
        have e3 := he'.c3
        clear he he'
        generalize ds.getD k dt0 = d at e0 e1 e2 e3
        by_cases hs : v - tn < 0
        · have HS : Hid (szOf v tn = -1) := by unfold Hid szOf; rw [if_pos hs]
          go_wp2_with (go_at_call 48; refine (szDatum15 _ _ _ tp tn tc v _ htn hv0 (by omega)).mono ?_; rintro e w1 ⟨rfl, hb1⟩; rw [HS.out])
          go_ret
          exact ⟨-1, rfl, fun h => by omega, hb.out.trans (hb1.mono hb.out.size)⟩
        · have HS : Hid (szOf v tn = v - tn) := by unfold Hid szOf; rw [if_neg hs]
          go_wp2_with (go_at_call 48; refine (szDatum15 _ _ _ tp tn tc v _ htn hv0 (by omega)).mono ?_; rintro e w1 ⟨rfl, hb1⟩; rw [HS.out])
          refine ⟨⟨k + 1, _, by omega, by go_num, rfl, by omega, by omega, fun j hj => ?_, hb.out.trans (hb1.mono hb.out.size)⟩, by simp [intOf]; omega⟩
          by_cases e : j < k
          · exact hn.out j e
          · rw [show j = k by omega, htl.out]; omega
      · have : k = n := by omega
        subst this
        go_wp2
        go_ret
        exact ⟨v, rfl, fun _ => ⟨by omega, hn.out⟩, hb.out⟩

theorem By.setCell {w : World} {g n c : Nat} {xs : List Int} (h : By w (some ⟨g, 0, none⟩) n c xs) {a : Addr} (ha : g ≠ a.block) (v : Value) : By (w.setCell a v) (some ⟨g, 0, none⟩) n c xs := by
  refine ⟨h.len, h.cap, h.big, h.rng, fun hn => ?_, fun x hx hn => by have := h.old x hx hn; simpa [World.setCell] using this⟩
  obtain ⟨b, o, e, hc⟩ := h.cells hn
  cases e
  refine ⟨g, 0, rfl, fun i hi => ?_⟩
  rw [World.cell?_of_block (w := w) (Below.heap_setCell w a v g ha)]
  exact hc i hi
theorem below1 (w : World) (o : Obj) : Below w.heap.size w (w.alloc o) := (Below.refl _ w).alloc (Nat.le_refl _) _
theorem below2 (w : World) (o o2 : Obj) : Below w.heap.size w ((w.alloc o).alloc o2) := (below1 w o).alloc (by simp) _
theorem below3 (w : World) (o o2 o3 : Obj) : Below w.heap.size w (((w.alloc o).alloc o2).alloc o3) := (below2 w o o2).alloc (by simp; omega) _
set_option maxHeartbeats 1000000 in
theorem toDatum17 (k n c : Int) (tp : Option Addr) (tn tc : Nat) (xs : List Int) (w : World) (hB : By w tp tn tc xs) (hn : tn ≤ 1048576) :
    Calls Tryd.prog 54 #[.agg #[.int .i64 k, .int .i64 n, .slice tp tn tc, .int .i64 c]] w fun e w' => ∃ g, e = .returned (.agg #[.int .i64 k, .int .i64 n, .slice (some ⟨g, 0, none⟩) tn tn, .int .i64 c]) ∧ w.heap.size ≤ g ∧ By w' (some ⟨g, 0, none⟩) tn tn xs ∧ Below w.heap.size w w' := by
  have HB : Hid (By w tp tn tc xs) := hB
  clear hB
  go_enter Tryd.func54, Tryd.ntmps54
  go_wp2_with (go_at_call 64; refine (toByte30 _ _ _ xs _ (by exact HB.out.below (below3 w _ _ _)) hn).mono ?_; rintro e w1 ⟨rfl, hby, hb1⟩; have hz := hb1.size; obtain ⟨hc1, hf1⟩ := bcell hb1)
  have hby' : By w1 (some ⟨w.heap.size + 1 + 1 + 1, 0, none⟩) tn tn xs := by simpa using hby
  have hbb : Below w.heap.size w w1 := (below3 w _ _ _).trans (hb1.mono (by simp; omega))
  refine bodyPost_ret (v := .agg #[.int .i64 k, .int .i64 n, .slice (some ⟨w.heap.size + 1 + 1 + 1, 0, none⟩) tn tn, .int .i64 c]) (by simp [results, Tryd.results54, go_sem, hc1]) rfl ⟨_, rfl, by omega, ?_, ?_⟩
  · exact (((((hby'.setCell (by simp) _).setCell (by simp) _).setCell (by simp; omega) _).setCell (by simp; omega) _).setCell (by simp; omega) _).setCell (by simp; omega) _
  · exact (((((hbb.setCell (by simp; omega) _).setCell (by simp; omega) _).setCell (by simp) _).setCell (by simp) _).setCell (by simp) _).setCell (by simp) _
end Go.Proofs.YtbcanodijcglpaaDoor
