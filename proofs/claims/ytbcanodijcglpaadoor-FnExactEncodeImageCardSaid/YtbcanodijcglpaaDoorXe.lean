import Derived.Test.YtbcanodijcglpaaDoorXb
namespace Go.Proofs.YtbcanodijcglpaaDoor
open Go.RowKit Ch1
set_option maxHeartbeats 400000 in
theorem mark11_nil (p : Option Addr) (c : Nat) (k : Int) (w : World) : Calls Tryd.prog 11 #[.slice p 0 c, .int .i64 k] w fun e w' => e = .returned (.int .i64 k) ∧ w' = w := by
  go_enter Tryd.func11, Tryd.ntmps11
  go_wp2
  go_loop [1, 5] (fun kv i => kv = .int .i64 k ∧ i = .int .i64 0) (fun _ _ => 0)
  case atStart => exact ⟨rfl, rfl⟩
  case round =>
    obtain ⟨rfl, rfl⟩ := hrel
    go_wp2
    go_ret
    exact ⟨rfl, rfl⟩
def mk (x : Int) : Int := x % 256
set_option maxHeartbeats 1000000 in
theorem mark11 (t n m c : Nat) (f : Nat → Value) (k : Int) (w : World) (hr : w.rowIs t 5 m f) (hnm : n ≤ m) (hn : n ≤ 1000000000) (h0 : 0 ≤ k) (h1 : k ≤ 4000000000000000000) :
    Calls Tryd.prog 11 #[.slice (some ⟨t, 0, none⟩) n c, .int .i64 k] w fun e w' => e = .returned (.int .i64 (k + n)) ∧ w'.rowIs t 5 m (fun j => if j < n then .int .u8 (mk (k + j)) else f j) ∧ Within t (t + 1) w w' := by
  have HR : Hid (w.rowIs t 5 m f) := hr
  clear hr
  go_enter Tryd.func11, Tryd.ntmps11
  go_wp2
  go_loopw [1, 5] (fun kv i wr => ∃ (j : Nat) (z : Int), j ≤ n ∧ i = .int .i64 j ∧ kv = .int .i64 z ∧ Hid (z = k + j) ∧ Hid (wr.rowIs t 5 m (fun x => if x < j then .int .u8 (mk (k + x)) else f x)) ∧ Hid (Within t (t + 1) w wr)) (fun _ i _ => n - (intOf i).toNat)
  case atStart => exact ⟨0, k, Nat.zero_le _, rfl, rfl, by unfold Hid; simp, HR.out.congr (fun j _ => by simp), Within.refl _ _ _⟩
  case round =>
    obtain ⟨j, z, hj, rfl, rfl, hz, hR, hW⟩ := hrel
    have hz0 : 0 ≤ z := by rw [hz.out]; omega
    have hz1 : z ≤ 4100000000000000000 := by rw [hz.out]; omega
    by_cases hlt : j < n
    · have g2 := hR.out.cell (show j < m by omega)
      have g3 := hR.out.frozen j
      obtain ⟨y, hy⟩ : ∃ y, (if j < j then Value.int .u8 (mk (k + j)) else f j) = y := ⟨_, rfl⟩
      simp only [hy] at g2
      clear hy
      go_wp2
      refine ⟨⟨j + 1, z + 1, by omega, by go_num, rfl, by unfold Hid; rw [hz.out]; omega, (hR.out.set j _).congr (fun x hx => ?_), hW.out.set (Nat.le_refl _) (Nat.lt_succ_self _) _⟩, by simp [intOf]; omega⟩
      by_cases e : x = j
      · subst e
        rw [if_pos rfl, if_pos (Nat.lt_succ_self _), hz.out]; rfl
      · by_cases e2 : x < j
        · rw [if_neg e, if_pos e2, if_pos (by omega)]
        · rw [if_neg e, if_neg e2, if_neg (by omega)]
    · obtain rfl : j = n := by omega
      go_wp2
      go_ret
      exact ⟨ret_int hz.out, hR.out, hW.out⟩

set_option maxHeartbeats 400000 in
theorem held12_nil (p : Option Addr) (c : Nat) (k : Int) (w : World) : Calls Tryd.prog 12 #[.slice p 0 c, .int .i64 k] w fun e w' => e = .returned (.int .i64 k) ∧ w' = w := by
  go_enter Tryd.func12, Tryd.ntmps12
  go_wp2
  go_loop [1, 5] (fun kv i => kv = .int .i64 k ∧ i = .int .i64 0) (fun _ _ => 0)
  case atStart => exact ⟨rfl, rfl⟩
  case round =>
    obtain ⟨rfl, rfl⟩ := hrel
    go_wp2
    go_ret
    exact ⟨rfl, rfl⟩
set_option maxHeartbeats 1000000 in
theorem held12 (t n c : Nat) (k : Int) (w : World) (hc : ∀ j, j < n → w.cell? ⟨t, j, none⟩ = some (.int .u8 (mk (k + j)))) (hn : n ≤ 1000000000) (h0 : 0 ≤ k) (h1 : k ≤ 4000000000000000000) :
    Calls Tryd.prog 12 #[.slice (some ⟨t, 0, none⟩) n c, .int .i64 k] w fun e w' => e = .returned (.int .i64 (k + n)) ∧ w' = w := by
  have HC : Hid (∀ j, j < n → w.cell? ⟨t, j, none⟩ = some (.int .u8 (mk (k + j)))) := hc
  clear hc
  go_enter Tryd.func12, Tryd.ntmps12
  go_wp2
  go_loop [1, 5] (fun kv i => ∃ (j : Nat) (z : Int), j ≤ n ∧ i = .int .i64 j ∧ kv = .int .i64 z ∧ Hid (z = k + j)) (fun _ i => n - (intOf i).toNat)
  case atStart => exact ⟨0, k, Nat.zero_le _, rfl, rfl, by unfold Hid; simp⟩
  case round =>
    obtain ⟨j, z, hj, rfl, rfl, hz⟩ := hrel
    have hz0 : 0 ≤ z := by rw [hz.out]; omega
    have hz1 : z ≤ 4100000000000000000 := by rw [hz.out]; omega
    by_cases hlt : j < n
    · have g2 := HC.out j hlt
      rw [← hz.out, mk] at g2
      go_wp2
      exact ⟨⟨j + 1, z + 1, by omega, by go_num, rfl, by unfold Hid; rw [hz.out]; omega⟩, by simp [intOf]; omega⟩
    · obtain rfl : j = n := by omega
      go_wp2
      go_ret
      exact ⟨ret_int hz.out, rfl⟩
/-! ### markDatumS -/
/-- Data in block g and texts, all from lo to ahead of hi, that may be written. -/
structure Mk (w : World) (lo hi g n : Nat) : Prop where
  g1 : lo ≤ g
  g2 : g < hi
  row : IsR w g 75 (n * 4)
  txts : ∀ i, i < n → ∃ t tl, w.cell? ⟨g, i * 4 + 2, none⟩ = some (.slice (some ⟨t, 0, none⟩) tl tl) ∧ lo ≤ t ∧ t < hi ∧ t ≠ g ∧ tl ≤ 1048576 ∧ IsR w t 5 tl
theorem cell_set_other (w : World) (g i j : Nat) (v : Value) (h : i ≠ j) : (w.setCell ⟨g, j, none⟩ v).cell? ⟨g, i, none⟩ = w.cell? ⟨g, i, none⟩ := by
  rw [World.cell?_setCell_other]
  intro e
  cases e
  exact h rfl
theorem Mk.set {w : World} {lo hi g n : Nat} (h : Mk w lo hi g n) (j : Nat) (hj : j % 4 ≠ 2) (v : Value) : Mk (w.setCell ⟨g, j, none⟩ v) lo hi g n := by
  refine ⟨h.g1, h.g2, h.row.setCell _ _ _, fun i hi => ?_⟩
  obtain ⟨t, tl, hc, r1, r2, r3, r4, r5⟩ := h.txts i hi
  exact ⟨t, tl, by rw [cell_set_other _ _ _ _ _ (by omega)]; exact hc, r1, r2, r3, r4, r5.setCell _ _ _⟩
theorem Mk.only {w w' : World} {lo hi g n t tl : Nat} (h : Mk w lo hi g n) (ht : t ≠ g) (hw : Within t (t + 1) w w') (hr : IsR w t 5 tl → IsR w' t 5 tl) (hk : IsR w t 5 tl) : Mk w' lo hi g n := by
  have key : ∀ b e m, IsR w b e m → IsR w' b e m := by
    intro b e m hb
    by_cases e1 : b = t
    · subst e1
      obtain ⟨f, c, h1, h2, h3⟩ := hb
      obtain ⟨f', c', h1', h2', h3'⟩ := hk
      rw [h1] at h1'
      cases h1'
      obtain rfl : m = tl := by omega
      exact hr ⟨f', c, h1, h2, h3'⟩
    · exact hb.of_block (hw.block b (by omega))
  refine ⟨h.g1, h.g2, key _ _ _ h.row, fun i hi => ?_⟩
  obtain ⟨t', tl', hc, r1, r2, r3, r4, r5⟩ := h.txts i hi
  exact ⟨t', tl', by rw [World.cell?_of_block (w := w) (hw.block g (by omega))]; exact hc, r1, r2, r3, r4, key _ _ _ r5⟩
theorem RowR.mk {w : World} {g n : Nat} {ds : List Dt} (h : RowR w g ds n n) (ht : ∀ i, i < n → ((ds.getD i dt0).text.length : Int) ≤ 1048576) : Mk w g w.heap.size g n := by
  obtain ⟨f, t, hr, hc⟩ := h
  refine ⟨Nat.le_refl _, hr.lt, ⟨f, hr⟩, fun i hi => ?_⟩
  obtain ⟨h0, h1, h2, h3, h4, h5, h6⟩ := hc i hi
  have := ht i hi
  exact ⟨t i, _, by rw [hr.cell (by omega), h2], by omega, h6.lt, by omega, by omega, h6⟩
set_option maxHeartbeats 2000000 in
theorem mark10 (g n c lo hi : Nat) (w : World) (hM : Mk w lo hi g n) (hn : n ≤ 1048576) :
    Calls Tryd.prog 45 #[.slice (some ⟨g, 0, none⟩) n c, .int .i64 1] w fun e w' => ∃ z : Int, e = .returned (.int .i64 z) ∧ 0 ≤ z ∧ Within lo hi w w' := by
  have HM : Hid (Mk w lo hi g n) := hM
  clear hM
  go_enter Tryd.func45, Tryd.ntmps45
  go_wp2
  go_loopw [1, 5] (fun kv iv wr => ∃ (i : Nat) (z : Int), i ≤ n ∧ iv = .int .i64 i ∧ kv = .int .i64 z ∧ 0 ≤ z ∧ z ≤ 1 + 1048600 * (i : Int) ∧ Hid (Mk wr lo hi g n) ∧ Hid (Within lo hi w wr)) (fun _ iv _ => n - (intOf iv).toNat)
  case atStart => exact ⟨0, 1, Nat.zero_le _, rfl, rfl, by omega, by omega, HM, Within.refl _ _ _⟩
  case round =>
    obtain ⟨i, z, hin, rfl, rfl, hz0, hz1, hM, hW⟩ := hrel
    by_cases hlt : i < n
    · obtain ⟨t, tl, hct, r1, r2, r3, r4, r5⟩ := hM.out.txts i hlt
      obtain ⟨⟨y0, a0⟩, f0⟩ := hM.out.row.at (show i * 4 < n * 4 by omega)
      obtain ⟨⟨y1, a1⟩, f1⟩ := hM.out.row.at (show i * 4 + 1 < n * 4 by omega)
      have R5 : Hid (IsR wr t 5 tl) := r5
      have hg1 := hM.out.g1
      have hg2 := hM.out.g2
      have hzb : z ≤ 2000000000000 := by omega
      obtain ⟨ff, hff⟩ : IsR ((wr.setCell ⟨g, i * 4, none⟩ (.int .i64 z)).setCell ⟨g, i * 4 + 1, none⟩ (.int .i64 (z + 1))) t 5 tl := (r5.setCell _ _ _).setCell _ _ _
      have HFF : Hid (((wr.setCell ⟨g, i * 4, none⟩ (.int .i64 z)).setCell ⟨g, i * 4 + 1, none⟩ (.int .i64 (z + 1))).rowIs t 5 tl ff) := hff
      clear r5 hff R5
      go_wp2_with (go_at_call 11; refine (mark11 t tl tl tl ff (z + 1 + 1) _ HFF.out (Nat.le_refl _) (by omega) (by omega) (by omega)).mono ?_; rintro e w1 ⟨rfl, hr1, hw1⟩; have HM1 : Hid (Mk w1 lo hi g n) := ((hM.out.set (i * 4) (by omega) _).set (i * 4 + 1) (by omega) _).only r3 hw1 (fun _ => ⟨_, hr1⟩) ⟨_, HFF.out⟩; have HW1 : Hid (Within lo hi w w1) := ((hW.out.set hg1 hg2 _).set hg1 hg2 _).trans (hw1.wider r1 (by omega)); obtain ⟨⟨y3, a3⟩, f3⟩ := HM1.out.row.at (show i * 4 + 3 < n * 4 by omega); clear hr1 hw1)
      exact ⟨⟨i + 1, _, by omega, by go_num, rfl, by omega, by omega, HM1.out.set (i * 4 + 3) (by omega) _, HW1.out.set hg1 hg2 _⟩, by simp [intOf]; omega⟩
    · go_wp2
      go_ret
      exact ⟨z, rfl, hz0, hW.out⟩
end Go.Proofs.YtbcanodijcglpaaDoor
namespace Go.Proofs.YtbcanodijcglpaaDoor
open Go.RowKit Ch1
/-- A slice of bytes from B on that may be written. -/
def Wr (w : World) (B : Nat) (p : Option Addr) (n : Nat) : Prop := 0 < n → ∃ t m f, p = some ⟨t, 0, none⟩ ∧ B ≤ t ∧ n ≤ m ∧ w.rowIs t 5 m f
def Held (w : World) (p : Option Addr) (n : Nat) : Prop := 0 < n → ∃ t, p = some ⟨t, 0, none⟩ ∧ ∀ j, j < n → w.cell? ⟨t, j, none⟩ = some (.int .u8 (mk (1 + j)))
theorem Ow.wr {w : World} {B : Nat} {v : Value} {xs : List Int} (h : Ow w B v xs) (hr : Rg xs) : ∃ p c, v = .slice p xs.length c ∧ By w p xs.length c xs ∧ Wr w B p xs.length ∧ (∀ a, p = some a → B ≤ a.block) := by
  have h' := h
  obtain ⟨p, c, rfl, hy, hp⟩ := h.by_ (rng_of hr)
  refine ⟨p, c, rfl, hy, fun hn => ?_, fun a ha => (hp a ha).2⟩
  obtain ⟨_, ⟨e, h0⟩ | ⟨g, cap, cur, e, hg, hh, h1, h2, h3, h4⟩⟩ := h'
  · omega
  · cases e
    exact ⟨g, c, fun i => cur.getD i .nilIface, rfl, hg, h1, cur, hh, by omega, fun i hi => by simp [Array.getD, show i < cur.size by omega]⟩
theorem Wr.below {w w' : World} {B n : Nat} {p : Option Addr} (h : Wr w B p n) (hb : Below w.heap.size w w') : Wr w' B p n := by
  intro hn
  obtain ⟨t, m, f, e, h1, h2, h3⟩ := h hn
  exact ⟨t, m, f, e, h1, h2, h3.of_block (hb.block t h3.lt)⟩
theorem Wr.within {w w' : World} {B n lo hi : Nat} {p : Option Addr} (h : Wr w B p n) (hb : Within lo hi w w') (hB : hi ≤ B) : Wr w' B p n := by
  intro hn
  obtain ⟨t, m, f, e, h1, h2, h3⟩ := h hn
  exact ⟨t, m, f, e, h1, h2, h3.of_block (hb.block t (by omega))⟩
theorem markV (p : Option Addr) (n c B : Nat) (w : World) (h : Wr w B p n) (hn : n ≤ 1000000000) : Calls Tryd.prog 11 #[.slice p n c, .int .i64 1] w fun e w' => e = .returned (.int .i64 (1 + n)) ∧ Held w' p n ∧ Below B w w' := by
  by_cases h0 : 0 < n
  · obtain ⟨t, m, f, rfl, hB, hnm, hr⟩ := h h0
    refine (mark11 t n m c f 1 w hr hnm (by omega) (by omega) (by omega)).mono ?_
    rintro e w' ⟨he, hr', hw⟩
    refine ⟨he, fun _ => ⟨t, rfl, fun j hj => ?_⟩, hw.below hB⟩
    have := hr'.cell (show j < m by omega)
    rw [if_pos hj] at this; exact this
  · obtain rfl : n = 0 := by omega
    refine (mark11_nil p c 1 w).mono ?_
    rintro e w' ⟨he, rfl⟩
    exact ⟨he, fun h => absurd h (Nat.lt_irrefl 0), Below.refl _ _⟩
theorem heldV (p : Option Addr) (n c : Nat) (w : World) (h : Held w p n) (hn : n ≤ 1000000000) : Calls Tryd.prog 12 #[.slice p n c, .int .i64 1] w fun e w' => e = .returned (.int .i64 (1 + n)) ∧ w' = w := by
  by_cases h0 : 0 < n
  · obtain ⟨t, rfl, hc⟩ := h h0
    exact held12 t n c 1 w hc (by omega) (by omega) (by omega)
  · obtain rfl : n = 0 := by omega
    exact held12_nil p c 1 w
end Go.Proofs.YtbcanodijcglpaaDoor
