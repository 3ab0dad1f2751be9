import Derived.Test.YtleeldjncobheaaDoorS3
import Derived.Test.YtleeldjncobheaaDoorXe
namespace Go.Proofs.YtleeldjncobheaaDoor
open Go.RowKit Ch1 Ch2s
theorem infoBs : (Tryd.prog.info? 24).map (fun i => (i.zero, i.size, i.bytes)) = some (some (.slice none 0 0), 1, 24) := by kernel_rfl
/-- The first k of n names lie in block g. -/
def RowB (w : World) (g : Nat) (ns : List (List Int)) (n k : Nat) : Prop := ∃ (f : Nat → Value) (t : Nat → Nat), w.rowIs g 24 n f ∧ ∀ i, i < k →
  f i = .slice (some ⟨t i, 0, none⟩) (ns.getD i []).length (ns.getD i []).length ∧ g < t i ∧ By w (some ⟨t i, 0, none⟩) (ns.getD i []).length (ns.getD i []).length (ns.getD i []) ∧ IsR w (t i) 5 (ns.getD i []).length
theorem RowB.below {w w' : World} {g n k : Nat} {ns : List (List Int)} (h : RowB w g ns n k) (hb : Below w.heap.size w w') : RowB w' g ns n k := by
  obtain ⟨f, t, hr, hc⟩ := h
  refine ⟨f, t, hr.of_block (hb.block g hr.lt), fun i hi => ?_⟩
  obtain ⟨h0, h1, h2, h3⟩ := hc i hi
  exact ⟨h0, h1, h2.below hb, h3.below hb⟩
theorem RowB.cells {w : World} {g n k : Nat} {ns : List (List Int)} (h : RowB w g ns n k) (i : Nat) (hi : i < n) : ∃ v, w.cell? ⟨g, i, none⟩ = some v ∧ w.frozen? ⟨g, i, none⟩ = false := by
  obtain ⟨f, _, hr, _⟩ := h
  exact ⟨_, hr.cell hi, hr.frozen i⟩
theorem RowB.lt {w : World} {g n k : Nat} {ns : List (List Int)} (h : RowB w g ns n k) : g < w.heap.size := by
  obtain ⟨f, _, hr, _⟩ := h
  exact hr.lt
theorem RowB.store {w : World} {g n k : Nat} {ns : List (List Int)} (h : RowB w g ns n k) (x : List Int) (hx : ns.getD k [] = x) (t : Nat) (ht : g < t) (hy : By w (some ⟨t, 0, none⟩) x.length x.length x) (hR : IsR w t 5 x.length) :
    RowB (w.setCell ⟨g, k, none⟩ (.slice (some ⟨t, 0, none⟩) x.length x.length)) g ns n (k + 1) := by
  obtain ⟨f, tt, hr, hc⟩ := h
  have hw : Within g (g + 1) w (w.setCell ⟨g, k, none⟩ (.slice (some ⟨t, 0, none⟩) x.length x.length)) := (Within.refl g (g + 1) w).set (Nat.le_refl _) (Nat.lt_succ_self _) _
  refine ⟨_, fun i => if i = k then t else tt i, hr.set k _, fun i hi => ?_⟩
  by_cases e : i = k
  · subst e
    rw [hx]
    refine ⟨by simp, by simpa using ht, ?_, ?_⟩
    · simp only [if_true]
      exact hy.within hw (fun a ha _ => by cases ha; right; simp only; omega)
    · simp only [if_true]
      exact hR.setCell _ _ _
  · obtain ⟨h0, h1, h2, h3⟩ := hc i (by omega)
    refine ⟨?_, by simp [e, h1], ?_, ?_⟩
    · rw [if_neg e]; simp only [if_neg e]; exact h0
    · simp only [if_neg e]
      exact h2.within hw (fun a ha _ => by cases ha; right; simp only; omega)
    · simp only [if_neg e]
      exact h3.setCell _ _ _
theorem RowB.nm {w : World} {g n : Nat} {ns : List (List Int)} (h : RowB w g ns n n) (hl : ns.length = n) (hbig : n ≤ maxLen) : Nm w (some ⟨g, 0, none⟩) n n ns := by
  obtain ⟨f, t, hr, hc⟩ := h
  refine ⟨hl, Nat.le_refl _, hbig, fun hn => ⟨g, 0, rfl, hr.lt, fun i hi => ?_⟩⟩
  obtain ⟨h0, h1, h2, _⟩ := hc i hi
  refine ⟨_, _, _, ?_, h2⟩
  rw [Nat.zero_add, ← h0]; exact hr.cell hi
def NsFit (ns : List (List Int)) (n : Nat) : Prop := ∀ i, i < n → (ns.getD i []).length ≤ 1048576
set_option maxHeartbeats 2000000 in
theorem toByteSS_c (p : Option Addr) (n c : Nat) (ns : List (List Int)) (w : World) (hD : Nm w p n c ns) (hn : n ≤ 1048576) (hfit : NsFit ns n) :
    Calls Tryd.prog 18 #[.slice p n c] w fun e w' => e = .returned (.slice (some ⟨w.heap.size, 0, none⟩) n n) ∧ RowB w' w.heap.size ns n n ∧ Below w.heap.size w w' := by
  have HD : Hid (Nm w p n c ns) := hD
  have HT : Hid (NsFit ns n) := hfit
  clear hD hfit
  have hmk := run_make_row' (P := Tryd.prog) 36 24 (.slice none 0 0) 24 Tryd.underlying36 infoBs rfl .i64 .i64 n (by omega) (by omega)
  go_enter Tryd.func18, Tryd.ntmps18
  go_wp2
  clear hmk
  go_loopw [4] (fun i wr => ∃ k : Nat, k ≤ n ∧ i = .int .i64 k ∧ Hid (RowB wr w.heap.size ns n k) ∧ Hid (Below w.heap.size w wr)) (fun i _ => n - (intOf i).toNat)
  case atStart => exact ⟨0, Nat.zero_le _, rfl, ⟨_, fun _ => 0, World.rowIs_made w (.slice none 0 0) n 24, fun i hi => absurd hi (Nat.not_lt_zero i)⟩, below1 _ _⟩
  case round =>
    obtain ⟨k, hk, rfl, hr, hb⟩ := hrel
    by_cases hlt : k < n
    · obtain ⟨b, o, rfl, hbl, g⟩ := HD.out.cells (by omega)
      obtain ⟨q, m, d, e0, he⟩ := g k hlt
      clear g
      have hml : Hid ((ns.getD k []).length = m) := he.len
      have hm2 : m ≤ 1048576 := by have := HT.out k hlt; rw [hml.out] at this; omega
      rw [← hb.out.cell (p := ⟨b, o + k, none⟩) hbl] at e0
      have HE : Hid (By wr q m d (ns.getD k [])) := he.below hb.out
      clear he
      have hgl := hr.out.lt
      have HST : Hid (∀ (w1 : World) (t : Nat), Below wr.heap.size wr w1 → wr.heap.size ≤ t → By w1 (some ⟨t, 0, none⟩) m m (ns.getD k []) → IsR w1 t 5 m → RowB (w1.setCell ⟨w.heap.size, k, none⟩ (.slice (some ⟨t, 0, none⟩) m m)) w.heap.size ns n (k + 1)) := by
        intro w1 t h1 h2 h3 h4
        rw [← hml.out] at h3 h4 ⊢
        exact (hr.out.below h1).store _ rfl t (by omega) h3 h4
      generalize ns.getD k [] = x at HE HST
      go_wp2_with (go_at_call 38; refine (toByteR q m d x _ HE.out hm2).mono ?_; rintro e w1 ⟨rfl, hy1, hb1, hr1⟩; have hz := hb1.size; obtain ⟨v0, cc0, ff0⟩ := (hr.out.below hb1).cells k hlt)
      exact ⟨⟨k + 1, by omega, by go_num, HST.out w1 _ hb1 (Nat.le_refl _) hy1 hr1, (hb.out.trans (hb1.mono hb.out.size)).setCell (Nat.le_refl _) _⟩, by simp [intOf]; omega⟩
    · have : k = n := by omega
      subst this
      go_wp2
      go_ret
      exact ⟨rfl, hr.out, hb.out⟩
set_option maxHeartbeats 1000000 in
theorem szByteSS_c (p : Option Addr) (n c : Nat) (ns : List (List Int)) (left : Int) (w : World) (hD : Nm w p n c ns) (h0 : 0 ≤ left) (h1 : left ≤ 1048576) :
    Calls Tryd.prog 15 #[.slice p n c, .int .i64 left] w fun e w' => ∃ v : Int, e = .returned (.int .i64 v) ∧ v ≤ left ∧ (0 ≤ v → n ≤ 1048576 ∧ NsFit ns n) ∧ Below w.heap.size w w' := by
  have hbig := small_ofS hD.cap hD.big
  have HD : Hid (Nm w p n c ns) := hD
  clear hD
  by_cases hneg : left - n < 0
  · go_enter Tryd.func15, Tryd.ntmps15
    go_wp2
    go_ret
    exact ⟨-1, rfl, by omega, fun h => by omega, Below.refl _ _⟩
  · go_enter Tryd.func15, Tryd.ntmps15
    go_wp2
    go_loopw [1, 5] (fun l i wr => ∃ (k : Nat) (v : Int), k ≤ n ∧ i = .int .i64 k ∧ l = .int .i64 v ∧ 0 ≤ v ∧ v ≤ left ∧ Hid (NsFit ns k) ∧ Hid (Below w.heap.size w wr)) (fun _ i _ => n - (intOf i).toNat)
    case atStart => exact ⟨0, _, Nat.zero_le _, rfl, rfl, by omega, by omega, fun j hj => absurd hj (Nat.not_lt_zero j), Below.refl _ _⟩
    case round =>
      obtain ⟨k, v, hk, rfl, rfl, hv0, hv1, hn, hb⟩ := hrel
      by_cases hlt : k < n
      · obtain ⟨b, o, rfl, hbl, g⟩ := HD.out.cells (by omega)
        obtain ⟨q, m, d, e0, he⟩ := g k hlt
        clear g
        rw [← hb.out.cell (p := ⟨b, o + k, none⟩) hbl] at e0
        have HML : Hid ((ns.getD k []).length = m) := he.len
        have hms := small_ofS he.cap he.big
        clear he
        by_cases hs : v - m < 0
        · go_wp2_with (go_at_call 33; refine (szByte28 q m d v _ hms hv0 (by omega)).mono ?_; rintro e w1 ⟨rfl, hw1⟩; have hw1' := hw1.symm; clear hw1; subst hw1'; rw [if_pos hs])
          go_ret
          exact ⟨-1, rfl, by omega, fun h => by omega, hb.out⟩
        · have hnd : decide (v - (m : Int) < 0) = false := decide_eq_false hs
          go_wp2_with (go_at_call 33; refine (szByte28 q m d v _ hms hv0 (by omega)).mono ?_; rintro e w1 ⟨rfl, hw1⟩; have hw1' := hw1.symm; clear hw1; subst hw1'; rw [if_neg hs])
          refine ⟨⟨k + 1, v - m, by omega, by go_num, rfl, by omega, by omega, fun j hj => ?_, hb.out⟩, by simp [intOf]; omega⟩
          by_cases e : j < k
          · exact hn.out j e
          · rw [show j = k by omega, HML.out]; omega
      · have : k = n := by omega
        subst this
        go_wp2
        go_ret
        exact ⟨v, rfl, hv1, fun _ => ⟨by omega, hn.out⟩, hb.out⟩
set_option maxHeartbeats 1000000 in
theorem eqByteSS_c (p1 p2 : Option Addr) (n c1 c2 : Nat) (ns : List (List Int)) (w : World) (h1 : Nm w p1 n c1 ns) (h2 : Nm w p2 n c2 ns) :
    Calls Tryd.prog 21 #[.slice p1 n c1, .slice p2 n c2] w fun e w' => e = .returned (.bool true) ∧ Below w.heap.size w w' := by
  have hbig := small_ofS h1.cap h1.big
  have H1 : Hid (Nm w p1 n c1 ns) := h1
  have H2 : Hid (Nm w p2 n c2 ns) := h2
  clear h1 h2
  go_enter Tryd.func21, Tryd.ntmps21
  go_wp2
  go_loopw [5] (fun i wr => ∃ k : Nat, k ≤ n ∧ i = .int .i64 k ∧ Hid (Below w.heap.size w wr)) (fun i _ => n - (intOf i).toNat)
  case atStart => exact ⟨0, Nat.zero_le _, rfl, Below.refl _ _⟩
  case round =>
    obtain ⟨k, hk, rfl, hb⟩ := hrel
    by_cases hlt : k < n
    · obtain ⟨b, o, rfl, hbl, g⟩ := (H1.out.below hb.out).cells (by omega)
      obtain ⟨q, m, d, e0, he⟩ := g k hlt
      obtain ⟨b', o', rfl, hbl', g'⟩ := (H2.out.below hb.out).cells (by omega)
      obtain ⟨q', m', d', f0, he'⟩ := g' k hlt
      have e1 := he.len
      have e2 := he'.len
      obtain rfl : m = m' := by omega
      clear g g' e1 e2
      generalize ns.getD k [] = x at he he'
      have HY : Hid (By wr q m d x) := he
      have HY' : Hid (By wr q' m d' x) := he'
      clear he he'
      go_wp2
      go_region_with (go_at_call 9; refine (eqByte32 q q' m d d' x _ ?y1 ?y2).mono ?_; (case y1 => exact HY.out.below (below_drewN' (Below.refl _ _) _)); (case y2 => exact HY'.out.below (below_drewN' (Below.refl _ _) _)); rintro e w1 ⟨rfl, q1, hw1⟩; have HB1 : Hid (Below w.heap.size w w1) := (by rw [hw1]; exact below_drewN' (below_drewN' hb.out 1) q1); clear hw1)
      all_goals
        go_wp2
        exact ⟨⟨k + 1, by omega, by go_num, HB1.out⟩, by simp [intOf]; omega⟩
    · go_wp2
      go_ret
      exact ⟨rfl, hb.out⟩
/-- Names in block g whose bytes, from lo to ahead of hi, may be written. -/
structure WB (w : World) (lo hi g n : Nat) : Prop where
  row : IsR w g 24 n
  sl : ∀ i, i < n → ∃ t l, w.cell? ⟨g, i, none⟩ = some (.slice (some ⟨t, 0, none⟩) l l) ∧ l ≤ 1048576 ∧ lo ≤ t ∧ t < hi ∧ IsR w t 5 l
theorem IsR.oneS {w : World} {b m m' : Nat} {e e' : TypeId} (h : IsR w b e m) (h' : IsR w b e' m') : e = e' ∧ m = m' := by
  obtain ⟨f, c, h1, h2, _⟩ := h
  obtain ⟨f', c', h1', h2', _⟩ := h'
  rw [h1] at h1'
  cases h1'
  exact ⟨rfl, by omega⟩
theorem WB.below {w w' : World} {lo hi g n : Nat} (h : WB w lo hi g n) (hb : Below w.heap.size w w') : WB w' lo hi g n := by
  refine ⟨h.row.below hb, fun i hi => ?_⟩
  obtain ⟨t, l, h1, h2, h3, h4, h5⟩ := h.sl i hi
  exact ⟨t, l, by rw [hb.cell (p := ⟨g, i, none⟩) h.row.lt]; exact h1, h2, h3, h4, h5.below hb⟩
theorem WB.within {w w' : World} {lo hi g n a b : Nat} (h : WB w lo hi g n) (hw : Within a b w w') (hg : g < a ∨ b ≤ g) (hlo : b ≤ lo) : WB w' lo hi g n := by
  refine ⟨h.row.of_block (hw.block _ hg), fun i hi => ?_⟩
  obtain ⟨t, l, h1, h2, h3, h4, h5⟩ := h.sl i hi
  exact ⟨t, l, by rw [World.cell?_of_block (w := w) (hw.block g hg)]; exact h1, h2, h3, h4, h5.of_block (hw.block _ (by omega))⟩
theorem WB.mark {w w' : World} {lo hi g n t l : Nat} (h : WB w lo hi g n) (hw : Within t (t + 1) w w') (ht : IsR w t 5 l) (ht' : IsR w' t 5 l) : WB w' lo hi g n := by
  have hg : g ≠ t := fun e => by subst e; have := (h.row.oneS ht).1; cases this
  have key : ∀ b e m, IsR w b e m → IsR w' b e m := fun b e m hb => by
    by_cases e1 : b = t
    · subst e1
      obtain ⟨rfl, rfl⟩ := ht.oneS hb
      exact ht'
    · exact hb.of_block (hw.block b (by omega))
  refine ⟨key _ _ _ h.row, fun i hi => ?_⟩
  obtain ⟨t', l', h1, h2, h3, h4, h5⟩ := h.sl i hi
  exact ⟨t', l', by rw [World.cell?_of_block (w := w) (hw.block g (by omega))]; exact h1, h2, h3, h4, key _ _ _ h5⟩
theorem RowB.wb {w : World} {g n : Nat} {ns : List (List Int)} (h : RowB w g ns n n) (hf : NsFit ns n) : WB w g w.heap.size g n := by
  obtain ⟨f, t, hr, hc⟩ := h
  refine ⟨⟨f, hr⟩, fun i hi => ?_⟩
  obtain ⟨h0, h1, h2, h3⟩ := hc i hi
  exact ⟨t i, _, by rw [hr.cell hi, h0], hf i hi, by omega, h3.lt, h3⟩
set_option maxHeartbeats 2000000 in
theorem markByteSS_c (g n c lo hi : Nat) (k : Int) (w : World) (h : WB w lo hi g n) (hn : n ≤ 1048576) (h0 : 0 ≤ k) (h1 : k ≤ 1000000000000000000) :
    Calls Tryd.prog 23 #[.slice (some ⟨g, 0, none⟩) n c, .int .i64 k] w fun e w' => ∃ z : Int, e = .returned (.int .i64 z) ∧ 0 ≤ z ∧ Within lo hi w w' := by
  have HM : Hid (WB w lo hi g n) := h
  clear h
  go_enter Tryd.func23, Tryd.ntmps23
  go_wp2
  go_loopw [1, 5] (fun kv iv wr => ∃ (i : Nat) (z : Int), i ≤ n ∧ iv = .int .i64 i ∧ kv = .int .i64 z ∧ 0 ≤ z ∧ z ≤ k + 1048576 * (i : Int) ∧ Hid (WB wr lo hi g n) ∧ Hid (Within lo hi w wr)) (fun _ iv _ => n - (intOf iv).toNat)
  case atStart => exact ⟨0, k, Nat.zero_le _, rfl, rfl, h0, by omega, HM, Within.refl _ _ _⟩
  case round =>
    obtain ⟨i, z, hin, rfl, rfl, hz0, hz1, hM, hW⟩ := hrel
    by_cases hlt : i < n
    · obtain ⟨t, l, hct, hl, ht1, ht2, hrr⟩ := hM.out.sl i hlt
      obtain ⟨ff, hff⟩ := hrr
      have HFF : Hid (wr.rowIs t 5 l ff) := hff
      clear hff
      go_wp2_with fail
      refine (mark11 t l l l ff z _ HFF.out (Nat.le_refl _) (by omega) hz0 (by omega)).mono ?_
      rintro e w1 ⟨rfl, hr1, hw1⟩
      have HM1 : Hid (WB w1 lo hi g n) := hM.out.mark hw1 ⟨_, HFF.out⟩ ⟨_, hr1⟩
      have HW1 : Hid (Within lo hi w w1) := hW.out.trans (hw1.wider ht1 (by omega))
      clear hr1 hw1
      go_wp2
      exact ⟨⟨i + 1, z + l, by omega, by go_num, rfl, by omega, by omega, HM1, HW1⟩, by simp [intOf]; omega⟩
    · go_wp2
      go_ret
      exact ⟨z, rfl, hz0, hW.out⟩
end Go.Proofs.YtleeldjncobheaaDoor
