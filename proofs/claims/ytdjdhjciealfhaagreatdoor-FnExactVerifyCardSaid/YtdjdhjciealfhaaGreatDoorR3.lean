import Derived.Test.YtdjdhjciealfhaaGreatDoorR1
namespace Go.Proofs.YtdjdhjciealfhaaGreatDoor
open Go.RowKit Ch1
set_option maxHeartbeats 400000 in
theorem mark11_nil (p : Option Addr) (c : Nat) (k : Int) (w : World) : Calls Tryz.prog 82 #[.slice p 0 c, .int .i64 k] w fun e w' => e = .returned (.int .i64 k) ∧ w' = w := by
  go_enter Tryz.func82, Tryz.ntmps82
  go_wp2
  go_loop [1, 5] (fun kv i => kv = .int .i64 k ∧ i = .int .i64 0) (fun _ _ => 0)
  case atStart => exact ⟨rfl, rfl⟩
  case round =>
    obtain ⟨rfl, rfl⟩ := hrel
    go_wp2
    go_ret
    exact ⟨rfl, rfl⟩
def mk (x : Int) : Int := x % 256
set_option maxHeartbeats 1000000 in
theorem mark11 (t n m c : Nat) (f : Nat → Value) (k : Int) (w : World) (hr : w.rowIs t 5 m f) (hnm : n ≤ m) (hn : n ≤ 1000000000) (h0 : 0 ≤ k) (h1 : k ≤ 4000000000000000000) :
    Calls Tryz.prog 82 #[.slice (some ⟨t, 0, none⟩) n c, .int .i64 k] w fun e w' => e = .returned (.int .i64 (k + n)) ∧ w'.rowIs t 5 m (fun j => if j < n then .int .u8 (mk (k + j)) else f j) ∧ Within t (t + 1) w w' := by
  have HR : Hid (w.rowIs t 5 m f) := hr
  clear hr
  go_enter Tryz.func82, Tryz.ntmps82
  go_wp2
  go_loopw [1, 5] (fun kv i wr => ∃ (j : Nat) (z : Int), j ≤ n ∧ i = .int .i64 j ∧ kv = .int .i64 z ∧ Hid (z = k + j) ∧ Hid (wr.rowIs t 5 m (fun x => if x < j then .int .u8 (mk (k + x)) else f x)) ∧ Hid (Within t (t + 1) w wr)) (fun _ i _ => n - (intOf i).toNat)
  case atStart => exact ⟨0, k, Nat.zero_le _, rfl, rfl, by unfold Hid; simp, HR.out.congr (fun j _ => by simp), Within.refl _ _ _⟩
  case round =>
    obtain ⟨j, z, hj, rfl, rfl, hz, hR, hW⟩ := hrel
    have hz0 : 0 ≤ z := by rw [hz.out]; omega
    have hz1 : z ≤ 4100000000000000000 := by rw [hz.out]; omega
    by_cases hlt : j < n
    · have g2 := hR.out.cell (show j < m by omega)
      have g3 := hR.out.frozen j
      obtain ⟨y, hy⟩ : ∃ y, (if j < j then Value.int .u8 (mk (k + j)) else f j) = y := ⟨_, rfl⟩
      simp only [hy] at g2
      clear hy
      go_wp2
      refine ⟨⟨j + 1, z + 1, by omega, by go_num, rfl, by unfold Hid; rw [hz.out]; omega, (hR.out.set j _).congr (fun x hx => ?_), hW.out.set (Nat.le_refl _) (Nat.lt_succ_self _) _⟩, by simp [intOf]; omega⟩
      by_cases e : x = j
      · subst e
        rw [if_pos rfl, if_pos (Nat.lt_succ_self _), hz.out]; rfl
      · by_cases e2 : x < j
        · rw [if_neg e, if_pos e2, if_pos (by omega)]
        · rw [if_neg e, if_neg e2, if_neg (by omega)]
    · obtain rfl : j = n := by omega
      go_wp2
      go_ret
      exact ⟨ret_int hz.out, hR.out, hW.out⟩

/-! ### markDatumS -/
/-- Data in block g and texts, all from lo to ahead of hi, that may be written. -/
structure Mk (w : World) (lo hi g n : Nat) : Prop where
  g1 : lo ≤ g
  g2 : g < hi
  row : IsR w g 121 (n * 4)
  txts : ∀ i, i < n → ∃ t tl, w.cell? ⟨g, i * 4 + 2, none⟩ = some (.slice (some ⟨t, 0, none⟩) tl tl) ∧ lo ≤ t ∧ t < hi ∧ t ≠ g ∧ tl ≤ 1048576 ∧ IsR w t 5 tl
theorem cell_set_other (w : World) (g i j : Nat) (v : Value) (h : i ≠ j) : (w.setCell ⟨g, j, none⟩ v).cell? ⟨g, i, none⟩ = w.cell? ⟨g, i, none⟩ := by
  rw [World.cell?_setCell_other]
  intro e
  cases e
  exact h rfl
theorem Mk.set {w : World} {lo hi g n : Nat} (h : Mk w lo hi g n) (j : Nat) (hj : j % 4 ≠ 2) (v : Value) : Mk (w.setCell ⟨g, j, none⟩ v) lo hi g n := by
  refine ⟨h.g1, h.g2, h.row.setCell _ _ _, fun i hi => ?_⟩
  obtain ⟨t, tl, hc, r1, r2, r3, r4, r5⟩ := h.txts i hi
  exact ⟨t, tl, by rw [cell_set_other _ _ _ _ _ (by omega)]; exact hc, r1, r2, r3, r4, r5.setCell _ _ _⟩
theorem Mk.only {w w' : World} {lo hi g n t tl : Nat} (h : Mk w lo hi g n) (ht : t ≠ g) (hw : Within t (t + 1) w w') (hr : IsR w t 5 tl → IsR w' t 5 tl) (hk : IsR w t 5 tl) : Mk w' lo hi g n := by
  have key : ∀ b e m, IsR w b e m → IsR w' b e m := by
    intro b e m hb
    by_cases e1 : b = t
    · subst e1
      obtain ⟨f, c, h1, h2, h3⟩ := hb
      obtain ⟨f', c', h1', h2', h3'⟩ := hk
      rw [h1] at h1'
      cases h1'
      obtain rfl : m = tl := by omega
      exact hr ⟨f', c, h1, h2, h3'⟩
    · exact hb.of_block (hw.block b (by omega))
  refine ⟨h.g1, h.g2, key _ _ _ h.row, fun i hi => ?_⟩
  obtain ⟨t', tl', hc, r1, r2, r3, r4, r5⟩ := h.txts i hi
  exact ⟨t', tl', by rw [World.cell?_of_block (w := w) (hw.block g (by omega))]; exact hc, r1, r2, r3, r4, key _ _ _ r5⟩
theorem RowR.mk {w : World} {g n : Nat} {ds : List Dt} (h : RowR w g ds n n) (ht : ∀ i, i < n → ((ds.getD i dt0).text.length : Int) ≤ 1048576) : Mk w g w.heap.size g n := by
  obtain ⟨f, t, hr, hc⟩ := h
  refine ⟨Nat.le_refl _, hr.lt, ⟨f, hr⟩, fun i hi => ?_⟩
  obtain ⟨h0, h1, h2, h3, h4, h5, h6⟩ := hc i hi
  have := ht i hi
  exact ⟨t i, _, by rw [hr.cell (by omega), h2], by omega, h6.lt, by omega, by omega, h6⟩
set_option maxHeartbeats 2000000 in
theorem mark10 (g n c lo hi : Nat) (w : World) (hM : Mk w lo hi g n) (hn : n ≤ 1048576) :
    Calls Tryz.prog 52 #[.slice (some ⟨g, 0, none⟩) n c, .int .i64 1] w fun e w' => ∃ z : Int, e = .returned (.int .i64 z) ∧ 0 ≤ z ∧ Within lo hi w w' := by
  have HM : Hid (Mk w lo hi g n) := hM
  clear hM
  go_enter Tryz.func52, Tryz.ntmps52
  go_wp2
  go_loopw [1, 5] (fun kv iv wr => ∃ (i : Nat) (z : Int), i ≤ n ∧ iv = .int .i64 i ∧ kv = .int .i64 z ∧ 0 ≤ z ∧ z ≤ 1 + 1048600 * (i : Int) ∧ Hid (Mk wr lo hi g n) ∧ Hid (Within lo hi w wr)) (fun _ iv _ => n - (intOf iv).toNat)
  case atStart => exact ⟨0, 1, Nat.zero_le _, rfl, rfl, by omega, by omega, HM, Within.refl _ _ _⟩
  case round =>
    obtain ⟨i, z, hin, rfl, rfl, hz0, hz1, hM, hW⟩ := hrel
    by_cases hlt : i < n
    · obtain ⟨t, tl, hct, r1, r2, r3, r4, r5⟩ := hM.out.txts i hlt
      obtain ⟨⟨y0, a0⟩, f0⟩ := hM.out.row.at (show i * 4 < n * 4 by omega)
      obtain ⟨⟨y1, a1⟩, f1⟩ := hM.out.row.at (show i * 4 + 1 < n * 4 by omega)
      have R5 : Hid (IsR wr t 5 tl) := r5
      have hg1 := hM.out.g1
      have hg2 := hM.out.g2
      have hzb : z ≤ 2000000000000 := by omega
      obtain ⟨ff, hff⟩ : IsR ((wr.setCell ⟨g, i * 4, none⟩ (.int .i64 z)).setCell ⟨g, i * 4 + 1, none⟩ (.int .i64 (z + 1))) t 5 tl := (r5.setCell _ _ _).setCell _ _ _
      have HFF : Hid (((wr.setCell ⟨g, i * 4, none⟩ (.int .i64 z)).setCell ⟨g, i * 4 + 1, none⟩ (.int .i64 (z + 1))).rowIs t 5 tl ff) := hff
      clear r5 hff R5
      go_wp2_with (go_at_call 82; refine (mark11 t tl tl tl ff (z + 1 + 1) _ HFF.out (Nat.le_refl _) (by omega) (by omega) (by omega)).mono ?_; rintro e w1 ⟨rfl, hr1, hw1⟩; have HM1 : Hid (Mk w1 lo hi g n) := ((hM.out.set (i * 4) (by omega) _).set (i * 4 + 1) (by omega) _).only r3 hw1 (fun _ => ⟨_, hr1⟩) ⟨_, HFF.out⟩; have HW1 : Hid (Within lo hi w w1) := ((hW.out.set hg1 hg2 _).set hg1 hg2 _).trans (hw1.wider r1 (by omega)); obtain ⟨⟨y3, a3⟩, f3⟩ := HM1.out.row.at (show i * 4 + 3 < n * 4 by omega); clear hr1 hw1)
      exact ⟨⟨i + 1, _, by omega, by go_num, rfl, by omega, by omega, HM1.out.set (i * 4 + 3) (by omega) _, HW1.out.set hg1 hg2 _⟩, by simp [intOf]; omega⟩
    · go_wp2
      go_ret
      exact ⟨z, rfl, hz0, hW.out⟩
end Go.Proofs.YtdjdhjciealfhaaGreatDoor
namespace Go.Proofs.YtdjdhjciealfhaaGreatDoor
open Go.RowKit Ch1
theorem IsR.one {w : World} {b m m' : Nat} {e e' : TypeId} (h : IsR w b e m) (h' : IsR w b e' m') : e = e' ∧ m = m' := by
  obtain ⟨f, c, h1, h2, _⟩ := h
  obtain ⟨f', c', h1', h2', _⟩ := h'
  rw [h1] at h1'
  cases h1'
  exact ⟨rfl, by omega⟩
/-- What was a row that may be written is one still. -/
def Keep (w w' : World) : Prop := ∀ b e m, IsR w b e m → IsR w' b e m
theorem Keep.refl (w : World) : Keep w w := fun _ _ _ h => h
theorem Keep.trans {a b c : World} (h : Keep a b) (k : Keep b c) : Keep a c := fun _ _ _ hh => k _ _ _ (h _ _ _ hh)
theorem Keep.set (w : World) (g i : Nat) (v : Value) : Keep w (w.setCell ⟨g, i, none⟩ v) := fun _ _ _ h => h.setCell _ _ _
theorem Keep.only {w w' : World} {t m : Nat} {e : TypeId} (hw : Within t (t + 1) w w') (h : IsR w t e m) (h' : IsR w' t e m) : Keep w w' := by
  intro b e' m' hb
  by_cases e1 : b = t
  · subst e1
    obtain ⟨rfl, rfl⟩ := h.one hb
    exact h'
  · exact hb.of_block (hw.block b (by omega))
set_option maxHeartbeats 1000000 in
theorem markBoolS_nil (p : Option Addr) (c : Nat) (k : Int) (w : World) : Calls Tryz.prog 27 #[.slice p 0 c, .int .i64 k] w fun e w' => e = .returned (.int .i64 k) ∧ w' = w := by
  go_enter Tryz.func27, Tryz.ntmps27
  go_wp2
  go_loop [1, 5] (fun kv i => kv = .int .i64 k ∧ i = .int .i64 0) (fun _ _ => 0)
  case atStart => exact ⟨rfl, rfl⟩
  case round =>
    obtain ⟨rfl, rfl⟩ := hrel
    go_wp2
    go_ret
    exact ⟨rfl, rfl⟩
set_option maxHeartbeats 2000000 in
theorem markBoolS_row (t n m c : Nat) (k : Int) (w : World) (hr : IsR w t 4 m) (hnm : n ≤ m) (hn : n ≤ 1048576) (h0 : 0 ≤ k) (h1 : k ≤ 4000000000000000000) :
    Calls Tryz.prog 27 #[.slice (some ⟨t, 0, none⟩) n c, .int .i64 k] w fun e w' => e = .returned (.int .i64 (k + n)) ∧ IsR w' t 4 m ∧ Within t (t + 1) w w' := by
  have HR : Hid (IsR w t 4 m) := hr
  clear hr
  go_enter Tryz.func27, Tryz.ntmps27
  go_wp2
  go_loopw [1, 5] (fun kv i wr => ∃ (j : Nat) (z : Int), j ≤ n ∧ i = .int .i64 j ∧ kv = .int .i64 z ∧ Hid (z = k + j) ∧ Hid (IsR wr t 4 m) ∧ Hid (Within t (t + 1) w wr)) (fun _ i _ => n - (intOf i).toNat)
  case atStart => exact ⟨0, k, Nat.zero_le _, rfl, rfl, by unfold Hid; simp, HR, Within.refl _ _ _⟩
  case round =>
    obtain ⟨j, z, hj, rfl, rfl, hz, hR, hW⟩ := hrel
    have hz0 : 0 ≤ z := by rw [hz.out]; omega
    have hz1 : z ≤ 4100000000000000000 := by rw [hz.out]; omega
    by_cases hlt : j < n
    · obtain ⟨⟨y, g2⟩, g3⟩ := hR.out.at (show j < m by omega)
      go_wp2
      exact ⟨⟨j + 1, z + 1, by omega, by go_num, rfl, by unfold Hid; rw [hz.out]; omega, hR.out.setCell _ _ _, hW.out.set (Nat.le_refl _) (Nat.lt_succ_self _) _⟩, by simp [intOf]; omega⟩
    · obtain rfl : j = n := by omega
      go_wp2
      go_ret
      exact ⟨ret_int hz.out, hR.out, hW.out⟩
set_option maxHeartbeats 1000000 in
theorem markInsS_nil (p : Option Addr) (c : Nat) (k : Int) (w : World) : Calls Tryz.prog 53 #[.slice p 0 c, .int .i64 k] w fun e w' => e = .returned (.int .i64 k) ∧ w' = w := by
  go_enter Tryz.func53, Tryz.ntmps53
  go_wp2
  go_loop [1, 5] (fun kv i => kv = .int .i64 k ∧ i = .int .i64 0) (fun _ _ => 0)
  case atStart => exact ⟨rfl, rfl⟩
  case round =>
    obtain ⟨rfl, rfl⟩ := hrel
    go_wp2
    go_ret
    exact ⟨rfl, rfl⟩
set_option maxHeartbeats 2000000 in
theorem markInsS_row (t n c : Nat) (k : Int) (w : World) (hr : IsR w t 73 (n * 3)) (hn : n ≤ 1048576) (h0 : 0 ≤ k) (h1 : k ≤ 4000000000000000000) :
    Calls Tryz.prog 53 #[.slice (some ⟨t, 0, none⟩) n c, .int .i64 k] w fun e w' => e = .returned (.int .i64 (k + 3 * n)) ∧ IsR w' t 73 (n * 3) ∧ Within t (t + 1) w w' := by
  have HR : Hid (IsR w t 73 (n * 3)) := hr
  clear hr
  go_enter Tryz.func53, Tryz.ntmps53
  go_wp2
  go_loopw [1, 5] (fun kv i wr => ∃ (j : Nat) (z : Int), j ≤ n ∧ i = .int .i64 j ∧ kv = .int .i64 z ∧ Hid (z = k + 3 * j) ∧ Hid (IsR wr t 73 (n * 3)) ∧ Hid (Within t (t + 1) w wr)) (fun _ i _ => n - (intOf i).toNat)
  case atStart => exact ⟨0, k, Nat.zero_le _, rfl, rfl, by unfold Hid; simp, HR, Within.refl _ _ _⟩
  case round =>
    obtain ⟨j, z, hj, rfl, rfl, hz, hR, hW⟩ := hrel
    have hz0 : 0 ≤ z := by rw [hz.out]; omega
    have hz1 : z ≤ 4100000000000000000 := by rw [hz.out]; omega
    by_cases hlt : j < n
    · obtain ⟨⟨y0, a0⟩, b0⟩ := hR.out.at (show j * 3 < n * 3 by omega)
      obtain ⟨⟨y1, a1⟩, b1⟩ := hR.out.at (show j * 3 + 1 < n * 3 by omega)
      obtain ⟨⟨y2, a2⟩, b2⟩ := hR.out.at (show j * 3 + 2 < n * 3 by omega)
      go_wp2
      exact ⟨⟨j + 1, z + 1 + 1 + 1, by omega, by go_num, rfl, by unfold Hid; rw [hz.out]; omega, ((hR.out.setCell _ _ _).setCell _ _ _).setCell _ _ _, ((hW.out.set (Nat.le_refl _) (Nat.lt_succ_self _) _).set (Nat.le_refl _) (Nat.lt_succ_self _) _).set (Nat.le_refl _) (Nat.lt_succ_self _) _⟩, by simp [intOf]; omega⟩
    · obtain rfl : j = n := by omega
      go_wp2
      go_ret
      exact ⟨ret_int hz.out, hR.out, hW.out⟩
/-- A slice of one-cell things from lo to ahead of hi that may be written. -/
def WS (w : World) (lo hi : Nat) (e : TypeId) (s : Nat) (q : Option Addr) (l : Nat) : Prop := l ≤ 1048576 ∧ (0 < l → ∃ b, q = some ⟨b, 0, none⟩ ∧ lo ≤ b ∧ b < hi ∧ IsR w b e (l * s))
theorem WS.keep {w w' : World} {lo hi s l : Nat} {e : TypeId} {q : Option Addr} (h : WS w lo hi e s q l) (hk : Keep w w') : WS w' lo hi e s q l :=
  ⟨h.1, fun h0 => by obtain ⟨b, e1, e2, e3, e4⟩ := h.2 h0; exact ⟨b, e1, e2, e3, hk _ _ _ e4⟩⟩
/-- Only rows of type e have turned, from lo to ahead of hi; rows stay rows. -/
structure Turn (lo hi : Nat) (es : List TypeId) (w w' : World) : Prop where
  within : Within lo hi w w'
  keep : Keep w w'
  other : ∀ x e m, IsR w x e m → e ∉ es → w'.heap[x]? = w.heap[x]?
theorem Turn.refl (lo hi : Nat) (es : List TypeId) (w : World) : Turn lo hi es w w := ⟨Within.refl _ _ _, Keep.refl _, fun _ _ _ _ _ => rfl⟩
theorem Turn.trans {lo hi : Nat} {es : List TypeId} {a b c : World} (h : Turn lo hi es a b) (k : Turn lo hi es b c) : Turn lo hi es a c :=
  ⟨h.within.trans k.within, h.keep.trans k.keep, fun x e m hx he => (k.other x e m (h.keep _ _ _ hx) he).trans (h.other x e m hx he)⟩
theorem Turn.wider {lo hi : Nat} {es es' : List TypeId} {a b : World} (h : Turn lo hi es a b) (hs : ∀ e, e ∈ es → e ∈ es') : Turn lo hi es' a b :=
  ⟨h.within, h.keep, fun x e m hx he => h.other x e m hx (fun hh => he (hs e hh))⟩
theorem Turn.set {lo hi t m i : Nat} {es : List TypeId} {e : TypeId} {w : World} (h1 : lo ≤ t) (h2 : t < hi) (ht : IsR w t e m) (he : e ∈ es) (v : Value) : Turn lo hi es w (w.setCell ⟨t, i, none⟩ v) :=
  ⟨(Within.refl lo hi w).set h1 h2 v, Keep.set w t i v, fun x e' m' hx hn => Below.heap_setCell w ⟨t, i, none⟩ v x (fun hh => by simp only at hh; subst hh; obtain ⟨rfl, _⟩ := ht.one hx; exact hn he)⟩
theorem Turn.only {lo hi t m : Nat} {es : List TypeId} {e : TypeId} {w w' : World} (h1 : lo ≤ t) (h2 : t < hi) (hw : Within t (t + 1) w w') (ht : IsR w t e m) (ht' : IsR w' t e m) (he : e ∈ es) : Turn lo hi es w w' :=
  ⟨hw.wider h1 (by omega), Keep.only hw ht ht', fun x e' m' hx hn => hw.block x (by
    by_cases hh : x = t
    · subst hh; obtain ⟨rfl, _⟩ := ht.one hx; exact absurd he hn
    · omega)⟩
theorem markBoolS_t (q : Option Addr) (l c lo hi : Nat) (k : Int) (w : World) (h : WS w lo hi 4 1 q l) (h0 : 0 ≤ k) (h1 : k ≤ 4000000000000000000) :
    Calls Tryz.prog 27 #[.slice q l c, .int .i64 k] w fun e w' => e = .returned (.int .i64 (k + l)) ∧ Turn lo hi [4] w w' := by
  by_cases hl : 0 < l
  · obtain ⟨b, rfl, e1, e2, e3⟩ := h.2 hl
    refine (markBoolS_row b l (l * 1) c k w e3 (by omega) h.1 h0 h1).mono ?_
    rintro e w' ⟨rfl, hr, hw⟩
    exact ⟨rfl, Turn.only e1 e2 hw e3 hr (by simp)⟩
  · obtain rfl : l = 0 := by omega
    refine (markBoolS_nil q c k w).mono ?_
    rintro e w' ⟨rfl, rfl⟩
    exact ⟨by simp, Turn.refl _ _ _ _⟩
theorem markInsS_t (q : Option Addr) (l c lo hi : Nat) (k : Int) (w : World) (h : WS w lo hi 73 3 q l) (h0 : 0 ≤ k) (h1 : k ≤ 4000000000000000000) :
    Calls Tryz.prog 53 #[.slice q l c, .int .i64 k] w fun e w' => e = .returned (.int .i64 (k + 3 * l)) ∧ Turn lo hi [73] w w' := by
  by_cases hl : 0 < l
  · obtain ⟨b, rfl, e1, e2, e3⟩ := h.2 hl
    refine (markInsS_row b l c k w e3 h.1 h0 h1).mono ?_
    rintro e w' ⟨rfl, hr, hw⟩
    exact ⟨rfl, Turn.only e1 e2 hw e3 hr (by simp)⟩
  · obtain rfl : l = 0 := by omega
    refine (markInsS_nil q c k w).mono ?_
    rintro e w' ⟨rfl, rfl⟩
    exact ⟨by simp, Turn.refl _ _ _ _⟩
/-- Functions in block t and what they hold, all from lo to ahead of hi, that may be written. -/
structure WF (w : World) (lo hi t n : Nat) : Prop where
  g1 : lo ≤ t
  g2 : t < hi
  row : IsR w t 48 (n * 3)
  sl : ∀ i, i < n → ∃ q l c q' l' c', w.cell? ⟨t, i * 3 + 1, none⟩ = some (.slice q l c) ∧ w.cell? ⟨t, i * 3 + 2, none⟩ = some (.slice q' l' c') ∧ WS w lo hi 4 1 q l ∧ WS w lo hi 73 3 q' l'
theorem WF.turn {w w' : World} {lo hi t n : Nat} {es : List TypeId} (h : WF w lo hi t n) (ht : Turn lo hi es w w') (he : 48 ∉ es) : WF w' lo hi t n := by
  have hq := ht.other t _ _ h.row he
  refine ⟨h.g1, h.g2, ht.keep _ _ _ h.row, fun i hi => ?_⟩
  obtain ⟨q, l, c, q', l', c', h1, h2, h3, h4⟩ := h.sl i hi
  exact ⟨q, l, c, q', l', c', by rw [World.cell?_of_block (w := w) hq]; exact h1, by rw [World.cell?_of_block (w := w) hq]; exact h2, h3.keep ht.keep, h4.keep ht.keep⟩
theorem WF.set {w : World} {lo hi t n : Nat} (h : WF w lo hi t n) (j : Nat) (v : Value) : WF (w.setCell ⟨t, j * 3, none⟩ v) lo hi t n := by
  refine ⟨h.g1, h.g2, h.row.setCell _ _ _, fun i hi => ?_⟩
  obtain ⟨q, l, c, q', l', c', h1, h2, h3, h4⟩ := h.sl i hi
  exact ⟨q, l, c, q', l', c', by rw [cell_set_other _ _ _ _ _ (by omega)]; exact h1, by rw [cell_set_other _ _ _ _ _ (by omega)]; exact h2, h3.keep (Keep.set _ _ _ _), h4.keep (Keep.set _ _ _ _)⟩
theorem RowFR.wf {w : World} {g n : Nat} {fs : List Fn} (h : RowFR w g fs n n) (hf : FnsFit fs n 1048576) : WF w g w.heap.size g n := by
  obtain ⟨f, tf, tc, hr, hc⟩ := h
  refine ⟨Nat.le_refl _, hr.lt, ⟨f, hr⟩, fun i hi => ?_⟩
  obtain ⟨h0, h1, h2, h3, h4, h5, h6, h7, h8⟩ := hc i hi
  have hq := hf i hi
  exact ⟨_, _, _, _, _, _, by rw [hr.cell (by omega), h1], by rw [hr.cell (by omega), h2], ⟨by omega, fun _ => ⟨tf i, rfl, by omega, h7.lt, by rw [Nat.mul_one]; exact h7⟩⟩, ⟨by omega, fun _ => ⟨tc i, rfl, by omega, h8.lt, h8⟩⟩⟩
set_option maxRecDepth 20000 in
set_option maxHeartbeats 4000000 in
theorem markFuncS_t (t n c lo hi : Nat) (k : Int) (w : World) (h : WF w lo hi t n) (hn : n ≤ 1048576) (h0 : 0 ≤ k) (h1 : k ≤ 3000000000000000000) :
    Calls Tryz.prog 26 #[.slice (some ⟨t, 0, none⟩) n c, .int .i64 k] w fun e w' => ∃ z : Int, e = .returned (.int .i64 z) ∧ 0 ≤ z ∧ Turn lo hi [48, 4, 73] w w' := by
  have HW : Hid (WF w lo hi t n) := h
  clear h
  go_enter Tryz.func26, Tryz.ntmps26
  go_wp2
  go_loopw [1, 5] (fun kv iv wr => ∃ (i : Nat) (z : Int), i ≤ n ∧ iv = .int .i64 i ∧ kv = .int .i64 z ∧ 0 ≤ z ∧ z ≤ k + 4194400 * (i : Int) ∧ Hid (WF wr lo hi t n) ∧ Hid (Turn lo hi [48, 4, 73] w wr)) (fun _ iv _ => n - (intOf iv).toNat)
  case atStart => exact ⟨0, k, Nat.zero_le _, rfl, rfl, h0, by omega, HW, Turn.refl _ _ _ _⟩
  case round =>
    obtain ⟨i, z, hin, rfl, rfl, hz0, hz1, hM, hT⟩ := hrel
    by_cases hlt : i < n
    · have HM1 : Hid (WF (wr.setCell ⟨t, i * 3, none⟩ (.int .i64 z)) lo hi t n) := hM.out.set i _
      have HT1 : Hid (Turn lo hi [48, 4, 73] w (wr.setCell ⟨t, i * 3, none⟩ (.int .i64 z))) := hT.out.trans (Turn.set hM.out.g1 hM.out.g2 hM.out.row (by simp) _)
      obtain ⟨q, l, c1, q', l', c2, e1, e2, ws1, ws2⟩ := HM1.out.sl i hlt
      obtain ⟨⟨y0, a0⟩, f0⟩ := hM.out.row.at (show i * 3 < n * 3 by omega)
      have WS1 : Hid (WS (wr.setCell ⟨t, i * 3, none⟩ (.int .i64 z)) lo hi 4 1 q l) := ws1
      have WS2 : Hid (WS (wr.setCell ⟨t, i * 3, none⟩ (.int .i64 z)) lo hi 73 3 q' l') := ws2
      have hl := ws1.1
      have hl' := ws2.1
      have hzb : z ≤ 3100000000000000000 := by omega
      clear ws1 ws2
      go_wp2_with fail
      refine (markBoolS_t q l c1 lo hi (z + 1) _ WS1.out (by omega) (by omega)).mono ?_
      rintro e w1 ⟨rfl, ht1⟩
      have HM2 : Hid (WF w1 lo hi t n) := HM1.out.turn ht1 (by decide)
      have HT2 : Hid (Turn lo hi [48, 4, 73] w w1) := HT1.out.trans (ht1.wider (fun e he => by simp at he; simp [he]))
      have WS3 : Hid (WS w1 lo hi 73 3 q' l') := WS2.out.keep ht1.keep
      have e3 : w1.cell? ⟨t, i * 3 + 2, none⟩ = some (.slice q' l' c2) := by rw [World.cell?_of_block (ht1.other t _ _ HM1.out.row (by decide))]; exact e2
      clear ht1 e1 e2 a0 f0
      go_wp2_with fail
      refine (markInsS_t q' l' c2 lo hi (z + 1 + l) _ WS3.out (by omega) (by omega)).mono ?_
      rintro e w2 ⟨rfl, ht2⟩
      have HM3 : Hid (WF w2 lo hi t n) := HM2.out.turn ht2 (by decide)
      have HT3 : Hid (Turn lo hi [48, 4, 73] w w2) := HT2.out.trans (ht2.wider (fun e he => by simp at he; simp [he]))
      clear ht2 e3
      go_wp2
      exact ⟨⟨i + 1, z + 1 + l + 3 * l', by omega, by go_num, rfl, by omega, by omega, HM3, HT3⟩, by simp [intOf]; omega⟩
    · go_wp2
      go_ret
      exact ⟨z, rfl, hz0, hT.out⟩
end Go.Proofs.YtdjdhjciealfhaaGreatDoor
namespace Go.Proofs.YtdjdhjciealfhaaGreatDoor
open Go.RowKit Ch1
/-- Only rows of data and of bytes have turned, from lo to ahead of hi; rows stay rows, and no datum's text lies elsewhere. -/
structure TurnD (lo hi : Nat) (w w' : World) : Prop where
  within : Within lo hi w w'
  keep : Keep w w'
  other : ∀ x e m, IsR w x e m → e ≠ 121 → e ≠ 5 → w'.heap[x]? = w.heap[x]?
  txt : ∀ x m i, IsR w x 121 m → w'.cell? ⟨x, i * 4 + 2, none⟩ = w.cell? ⟨x, i * 4 + 2, none⟩
theorem TurnD.refl (lo hi : Nat) (w : World) : TurnD lo hi w w := ⟨Within.refl _ _ _, Keep.refl _, fun _ _ _ _ _ _ => rfl, fun _ _ _ _ => rfl⟩
theorem TurnD.trans {lo hi : Nat} {a b c : World} (h : TurnD lo hi a b) (k : TurnD lo hi b c) : TurnD lo hi a c :=
  ⟨h.within.trans k.within, h.keep.trans k.keep, fun x e m hx h1 h2 => (k.other x e m (h.keep _ _ _ hx) h1 h2).trans (h.other x e m hx h1 h2), fun x m i hx => (k.txt x m i (h.keep _ _ _ hx)).trans (h.txt x m i hx)⟩
theorem TurnD.set {lo hi g m j : Nat} {w : World} (h1 : lo ≤ g) (h2 : g < hi) (hg : IsR w g 121 m) (hj : j % 4 ≠ 2) (v : Value) : TurnD lo hi w (w.setCell ⟨g, j, none⟩ v) :=
  ⟨(Within.refl lo hi w).set h1 h2 v, Keep.set w g j v, fun x e m' hx hn _ => Below.heap_setCell w ⟨g, j, none⟩ v x (fun hh => by simp only at hh; subst hh; obtain ⟨rfl, _⟩ := hg.one hx; exact hn rfl), fun x m' i hx => by
    by_cases e : x = g
    · subst e; exact cell_set_other _ _ _ _ _ (by omega)
    · exact World.cell?_of_block (Below.heap_setCell w ⟨g, j, none⟩ v x (by simpa using e))⟩
theorem TurnD.only {lo hi t tl : Nat} {w w' : World} (h1 : lo ≤ t) (h2 : t < hi) (hw : Within t (t + 1) w w') (ht : IsR w t 5 tl) (ht' : IsR w' t 5 tl) : TurnD lo hi w w' := by
  have key : ∀ x e m, IsR w x e m → e ≠ 5 → w'.heap[x]? = w.heap[x]? := fun x e m hx hn => hw.block x (by
    by_cases hh : x = t
    · subst hh; obtain ⟨rfl, _⟩ := ht.one hx; exact absurd rfl hn
    · omega)
  exact ⟨hw.wider h1 (by omega), Keep.only hw ht ht', fun x e m hx _ h => key x e m hx h, fun x m i hx => World.cell?_of_block (key x _ m hx (by decide))⟩
theorem Mk.turn {w w' : World} {lo hi g n : Nat} (h : Mk w lo hi g n) (ht : TurnD lo hi w w') : Mk w' lo hi g n := by
  refine ⟨h.g1, h.g2, ht.keep _ _ _ h.row, fun i hi => ?_⟩
  obtain ⟨t, tl, hc, r1, r2, r3, r4, r5⟩ := h.txts i hi
  exact ⟨t, tl, (ht.txt g _ i h.row).trans hc, r1, r2, r3, r4, ht.keep _ _ _ r5⟩
theorem Mk.lower {w : World} {lo lo' hi hi' g n : Nat} (h : Mk w lo hi g n) (hl : lo' ≤ lo) (hh : hi ≤ hi') : Mk w lo' hi' g n := by
  refine ⟨by have := h.g1; omega, by have := h.g2; omega, h.row, fun i hi => ?_⟩
  obtain ⟨t, tl, hc, r1, r2, r3, r4, r5⟩ := h.txts i hi
  exact ⟨t, tl, hc, by omega, by omega, r3, r4, r5⟩
set_option maxHeartbeats 2000000 in
theorem markDatumS_t (g n c lo hi : Nat) (k : Int) (w : World) (hM : Mk w lo hi g n) (hn : n ≤ 1048576) (h0 : 0 ≤ k) (h1 : k ≤ 2000000000000000000) :
    Calls Tryz.prog 52 #[.slice (some ⟨g, 0, none⟩) n c, .int .i64 k] w fun e w' => ∃ z : Int, e = .returned (.int .i64 z) ∧ 0 ≤ z ∧ z ≤ k + 1100000000000 ∧ TurnD lo hi w w' := by
  have HM : Hid (Mk w lo hi g n) := hM
  clear hM
  go_enter Tryz.func52, Tryz.ntmps52
  go_wp2
  go_loopw [1, 5] (fun kv iv wr => ∃ (i : Nat) (z : Int), i ≤ n ∧ iv = .int .i64 i ∧ kv = .int .i64 z ∧ 0 ≤ z ∧ z ≤ k + 1048600 * (i : Int) ∧ Hid (Mk wr lo hi g n) ∧ Hid (TurnD lo hi w wr)) (fun _ iv _ => n - (intOf iv).toNat)
  case atStart => exact ⟨0, k, Nat.zero_le _, rfl, rfl, h0, by omega, HM, TurnD.refl _ _ _⟩
  case round =>
    obtain ⟨i, z, hin, rfl, rfl, hz0, hz1, hM, hW⟩ := hrel
    by_cases hlt : i < n
    · obtain ⟨t, tl, hct, r1, r2, r3, r4, r5⟩ := hM.out.txts i hlt
      obtain ⟨⟨y0, a0⟩, f0⟩ := hM.out.row.at (show i * 4 < n * 4 by omega)
      obtain ⟨⟨y1, a1⟩, f1⟩ := hM.out.row.at (show i * 4 + 1 < n * 4 by omega)
      have hg1 := hM.out.g1
      have hg2 := hM.out.g2
      have hzb : z ≤ 2100000000000000000 := by omega
      have HT0 : Hid (TurnD lo hi w ((wr.setCell ⟨g, i * 4, none⟩ (.int .i64 z)).setCell ⟨g, i * 4 + 1, none⟩ (.int .i64 (z + 1)))) := (hW.out.trans (TurnD.set hg1 hg2 hM.out.row (by omega) _)).trans (TurnD.set hg1 hg2 (hM.out.row.setCell _ _ _) (by omega) _)
      obtain ⟨ff, hff⟩ : IsR ((wr.setCell ⟨g, i * 4, none⟩ (.int .i64 z)).setCell ⟨g, i * 4 + 1, none⟩ (.int .i64 (z + 1))) t 5 tl := (r5.setCell _ _ _).setCell _ _ _
      have HFF : Hid (((wr.setCell ⟨g, i * 4, none⟩ (.int .i64 z)).setCell ⟨g, i * 4 + 1, none⟩ (.int .i64 (z + 1))).rowIs t 5 tl ff) := hff
      clear r5 hff
      go_wp2_with (go_at_call 82; refine (mark11 t tl tl tl ff (z + 1 + 1) _ HFF.out (Nat.le_refl _) (by omega) (by omega) (by omega)).mono ?_; rintro e w1 ⟨rfl, hr1, hw1⟩; have HM1 : Hid (Mk w1 lo hi g n) := ((hM.out.set (i * 4) (by omega) _).set (i * 4 + 1) (by omega) _).only r3 hw1 (fun _ => ⟨_, hr1⟩) ⟨_, HFF.out⟩; have HW1 : Hid (TurnD lo hi w w1) := HT0.out.trans (TurnD.only r1 r2 hw1 ⟨_, HFF.out⟩ ⟨_, hr1⟩); obtain ⟨⟨y3, a3⟩, f3⟩ := HM1.out.row.at (show i * 4 + 3 < n * 4 by omega); clear hr1 hw1)
      exact ⟨⟨i + 1, _, by omega, by go_num, rfl, by omega, by omega, HM1.out.set (i * 4 + 3) (by omega) _, HW1.out.trans (TurnD.set hg1 hg2 HM1.out.row (by omega) _)⟩, by simp [intOf]; omega⟩
    · go_wp2
      go_ret
      exact ⟨z, rfl, hz0, by omega, hW.out⟩
/-- Lists of data in block t, and what they hold, from lo to ahead of hi, that may be written. -/
structure WDD (w : World) (lo hi t n : Nat) : Prop where
  row : IsR w t 67 n
  sl : ∀ i, i < n → ∃ g l, w.cell? ⟨t, i, none⟩ = some (.slice (some ⟨g, 0, none⟩) l l) ∧ l ≤ 1048576 ∧ Mk w lo hi g l
theorem WDD.turn {w w' : World} {lo hi t n : Nat} (h : WDD w lo hi t n) (ht : TurnD lo hi w w') : WDD w' lo hi t n := by
  have hq := ht.other t _ _ h.row (by decide) (by decide)
  refine ⟨ht.keep _ _ _ h.row, fun i hi => ?_⟩
  obtain ⟨g, l, h1, h2, h3⟩ := h.sl i hi
  exact ⟨g, l, by rw [World.cell?_of_block (w := w) hq]; exact h1, h2, h3.turn ht⟩
theorem RowDR.wdd {w : World} {g n : Nat} {ls : List (List Dt)} (h : RowDR w g ls n n) (hf : ∀ i, i < n → DsFit (ls.getD i []) 1048576) : WDD w g w.heap.size g n := by
  obtain ⟨f, t, hr, hc⟩ := h
  refine ⟨⟨f, hr⟩, fun i hi => ?_⟩
  obtain ⟨h1, h2, h3⟩ := hc i hi
  have hq := hf i hi
  exact ⟨t i, _, by rw [hr.cell hi, h1], by have := hq.1; omega, (h3.mk hq.2).lower (by omega) (Nat.le_refl _)⟩
set_option maxHeartbeats 2000000 in
theorem markDatumSS_t (t n c lo hi : Nat) (w : World) (h : WDD w lo hi t n) (hn : n ≤ 1048576) :
    Calls Tryz.prog 25 #[.slice (some ⟨t, 0, none⟩) n c, .int .i64 1] w fun e w' => ∃ z : Int, e = .returned (.int .i64 z) ∧ 0 ≤ z ∧ z ≤ 2000000000000000000 ∧ TurnD lo hi w w' := by
  have HM : Hid (WDD w lo hi t n) := h
  clear h
  go_enter Tryz.func25, Tryz.ntmps25
  go_wp2
  go_loopw [1, 5] (fun kv iv wr => ∃ (i : Nat) (z : Int), i ≤ n ∧ iv = .int .i64 i ∧ kv = .int .i64 z ∧ 0 ≤ z ∧ z ≤ 1 + 1100000000000 * (i : Int) ∧ Hid (WDD wr lo hi t n) ∧ Hid (TurnD lo hi w wr)) (fun _ iv _ => n - (intOf iv).toNat)
  case atStart => exact ⟨0, 1, Nat.zero_le _, rfl, rfl, by omega, by omega, HM, TurnD.refl _ _ _⟩
  case round =>
    obtain ⟨i, z, hin, rfl, rfl, hz0, hz1, hM, hW⟩ := hrel
    by_cases hlt : i < n
    · obtain ⟨g, l, hct, hl, hmk⟩ := hM.out.sl i hlt
      have HK : Hid (Mk wr lo hi g l) := hmk
      clear hmk
      go_wp2_with fail
      refine (markDatumS_t g l l lo hi z _ HK.out hl hz0 (by omega)).mono ?_
      rintro e w1 ⟨z1, rfl, hz2, hz3, ht1⟩
      have HM1 : Hid (WDD w1 lo hi t n) := hM.out.turn ht1
      have HT1 : Hid (TurnD lo hi w w1) := hW.out.trans ht1
      clear ht1
      go_wp2
      exact ⟨⟨i + 1, z1, by omega, by go_num, rfl, hz2, by omega, HM1, HT1⟩, by simp [intOf]; omega⟩
    · go_wp2
      go_ret
      exact ⟨z, rfl, hz0, by omega, hW.out⟩
theorem Mk.belowW {w w' : World} {lo hi g n : Nat} (h : Mk w lo hi g n) (hb : Below w.heap.size w w') : Mk w' lo hi g n := by
  refine ⟨h.g1, h.g2, h.row.of_block (hb.block _ h.row.lt), fun i hi => ?_⟩
  obtain ⟨t, tl, hc, r1, r2, r3, r4, r5⟩ := h.txts i hi
  exact ⟨t, tl, by rw [hb.cell (p := ⟨g, i * 4 + 2, none⟩) h.row.lt]; exact hc, r1, r2, r3, r4, r5.of_block (hb.block _ r5.lt)⟩
theorem WDD.below {w w' : World} {lo hi t n : Nat} (h : WDD w lo hi t n) (hb : Below w.heap.size w w') : WDD w' lo hi t n := by
  refine ⟨h.row.of_block (hb.block _ h.row.lt), fun i hi => ?_⟩
  obtain ⟨g, l, h1, h2, h3⟩ := h.sl i hi
  exact ⟨g, l, by rw [hb.cell (p := ⟨t, i, none⟩) h.row.lt]; exact h1, h2, h3.belowW hb⟩
theorem WDD.lower {w : World} {lo lo' hi hi' t n : Nat} (h : WDD w lo hi t n) (hl : lo' ≤ lo) (hh : hi ≤ hi') : WDD w lo' hi' t n := by
  refine ⟨h.row, fun i hi => ?_⟩
  obtain ⟨g, l, h1, h2, h3⟩ := h.sl i hi
  exact ⟨g, l, h1, h2, h3.lower hl hh⟩
theorem WS.below {w w' : World} {lo hi s l : Nat} {e : TypeId} {q : Option Addr} (h : WS w lo hi e s q l) (hb : Below w.heap.size w w') : WS w' lo hi e s q l :=
  ⟨h.1, fun h0 => by obtain ⟨b, e1, e2, e3, e4⟩ := h.2 h0; exact ⟨b, e1, e2, e3, e4.of_block (hb.block _ e4.lt)⟩⟩
theorem WS.lower {w : World} {lo lo' hi hi' s l : Nat} {e : TypeId} {q : Option Addr} (h : WS w lo hi e s q l) (hl : lo' ≤ lo) (hh : hi ≤ hi') : WS w lo' hi' e s q l :=
  ⟨h.1, fun h0 => by obtain ⟨b, e1, e2, e3, e4⟩ := h.2 h0; exact ⟨b, e1, by omega, by omega, e4⟩⟩
theorem WF.below {w w' : World} {lo hi t n : Nat} (h : WF w lo hi t n) (hb : Below w.heap.size w w') : WF w' lo hi t n := by
  refine ⟨h.g1, h.g2, h.row.of_block (hb.block _ h.row.lt), fun i hi => ?_⟩
  obtain ⟨q, l, c, q', l', c', h1, h2, h3, h4⟩ := h.sl i hi
  exact ⟨q, l, c, q', l', c', by rw [hb.cell (p := ⟨t, i * 3 + 1, none⟩) h.row.lt]; exact h1, by rw [hb.cell (p := ⟨t, i * 3 + 2, none⟩) h.row.lt]; exact h2, h3.below hb, h4.below hb⟩
theorem WF.lower {w : World} {lo lo' hi hi' t n : Nat} (h : WF w lo hi t n) (hl : lo' ≤ lo) (hh : hi ≤ hi') : WF w lo' hi' t n := by
  refine ⟨by have := h.g1; omega, by have := h.g2; omega, h.row, fun i hi => ?_⟩
  obtain ⟨q, l, c, q', l', c', h1, h2, h3, h4⟩ := h.sl i hi
  exact ⟨q, l, c, q', l', c', h1, h2, h3.lower hl hh, h4.lower hl hh⟩
theorem WF.turnD {w w' : World} {lo hi t n : Nat} (h : WF w lo hi t n) (ht : TurnD lo hi w w') : WF w' lo hi t n := by
  have hq := ht.other t _ _ h.row (by decide) (by decide)
  refine ⟨h.g1, h.g2, ht.keep _ _ _ h.row, fun i hi => ?_⟩
  obtain ⟨q, l, c, q', l', c', h1, h2, h3, h4⟩ := h.sl i hi
  exact ⟨q, l, c, q', l', c', by rw [World.cell?_of_block (w := w) hq]; exact h1, by rw [World.cell?_of_block (w := w) hq]; exact h2, h3.keep ht.keep, h4.keep ht.keep⟩
set_option maxHeartbeats 2000000 in
/-- markModule writes only what toModule has made. -/
theorem markModule_t (tc cn tf fn lo hi : Nat) (g : Int) (w : World) (hD : WDD w lo hi tc cn) (hF : WF w lo hi tf fn) (hcn : cn ≤ 1048576) (hfn : fn ≤ 1048576) (hhi : hi ≤ w.heap.size) :
    Calls Tryz.prog 10 #[.agg #[.slice (some ⟨tc, 0, none⟩) cn cn, .int .i64 g, .slice (some ⟨tf, 0, none⟩) fn fn], .int .i64 1] w fun e w' => ∃ z : Int, e = .returned (.int .i64 z) ∧ 0 ≤ z ∧ ∃ wm, Below w.heap.size w wm ∧ Within lo hi wm w' := by
  obtain ⟨W, hW⟩ : ∃ W, W = w.alloc (.cells #[.slice (some ⟨tc, 0, none⟩) cn cn, .int .i64 g, .slice (some ⟨tf, 0, none⟩) fn fn] 33) := ⟨_, rfl⟩
  have HX0 : Hid (B3 W w.heap.size (.slice (some ⟨tc, 0, none⟩) cn cn) (.int .i64 g) (.slice (some ⟨tf, 0, none⟩) fn fn)) := by unfold Hid; rw [hW]; exact B3.new w _ _ _ _
  have HWB : Hid (Below w.heap.size w W) := by unfold Hid; rw [hW]; exact below1 _ _
  have HD : Hid (WDD W lo hi tc cn) := hD.below HWB.out
  have HF : Hid (WF W lo hi tf fn) := hF.below HWB.out
  clear hD hF
  go_enter Tryz.func10, Tryz.ntmps10
  go_wp2_with fail
  rw [← hW]
  clear hW
  refine (markDatumSS_t tc cn cn lo hi _ HD.out hcn).mono ?_
  rintro e w1 ⟨z, rfl, hz0, hz1, ht1⟩
  have c2 : w1.cell? ⟨w.heap.size, 2, none⟩ = some (.slice (some ⟨tf, 0, none⟩) fn fn) := by rw [World.cell?_of_block (ht1.within.block w.heap.size (by omega))]; exact HX0.out.c2
  have HF1 : Hid (WF w1 lo hi tf fn) := HF.out.turnD ht1
  have HW1 : Hid (Within lo hi W w1) := ht1.within
  clear ht1
  go_wp2_with fail
  refine (markFuncS_t tf fn fn lo hi z _ HF1.out hfn hz0 (by omega)).mono ?_
  rintro e w2 ⟨z2, rfl, hz2, ht2⟩
  have HW2 : Hid (Within lo hi W w2) := HW1.out.trans ht2.within
  clear ht2
  go_wp2
  go_ret
  exact ⟨z2, rfl, hz2, W, HWB.out, HW2.out⟩
end Go.Proofs.YtdjdhjciealfhaaGreatDoor
