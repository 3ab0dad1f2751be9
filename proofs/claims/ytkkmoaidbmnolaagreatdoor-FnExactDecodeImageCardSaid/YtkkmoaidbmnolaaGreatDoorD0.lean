import Derived.Test.YtkkmoaidbmnolaaGreatDoorDn
namespace Go.Proofs.YtkkmoaidbmnolaaGreatDoor
open Go.RowKit Ch1
/-- Bytes of a row from lo to ahead of hi, other than block t0, that may be written. -/
def WY (w : World) (p : Option Addr) (n lo hi t0 : Nat) : Prop := 0 < n → ∃ t m, p = some ⟨t, 0, none⟩ ∧ lo ≤ t ∧ t < hi ∧ t ≠ t0 ∧ n ≤ m ∧ IsR w t 5 m
def HYs (w : World) (p : Option Addr) (n : Nat) (k : Int) (lo hi t0 : Nat) : Prop := 0 < n → ∃ t, p = some ⟨t, 0, none⟩ ∧ lo ≤ t ∧ t < hi ∧ t ≠ t0 ∧ ∀ j : Nat, j < n → w.cell? ⟨t, j, none⟩ = some (.int .u8 (mk (k + j)))
theorem HYs.hy {w : World} {p : Option Addr} {n lo hi t0 : Nat} {k : Int} (h : HYs w p n k lo hi t0) : HY w p n k := fun h0 => by
  obtain ⟨t, e, _, _, _, f⟩ := h h0
  exact ⟨t, e, f⟩
/-- Writes into inner rows from lo to ahead of hi. -/
structure Tn (lo hi : Nat) (w w' : World) : Prop where
  within : Within lo hi w w'
  keep : Keep w w'
  other : ∀ x e m, IsR w x e m → ¬ Inner e → w'.heap[x]? = w.heap[x]?
theorem Tn.refl (lo hi : Nat) (w : World) : Tn lo hi w w := ⟨Within.refl _ _ _, Keep.refl _, fun _ _ _ _ _ => rfl⟩
theorem Tn.trans {lo hi : Nat} {a b c : World} (h : Tn lo hi a b) (k : Tn lo hi b c) : Tn lo hi a c :=
  ⟨h.within.trans k.within, h.keep.trans k.keep, fun x e m hx hn => (k.other x e m (h.keep _ _ _ hx) hn).trans (h.other x e m hx hn)⟩
theorem Tn.wider {lo hi lo' hi' : Nat} {a b : World} (h : Tn lo hi a b) (h1 : lo' ≤ lo) (h2 : hi ≤ hi') : Tn lo' hi' a b := ⟨h.within.wider h1 h2, h.keep, h.other⟩
theorem Tn.set {lo hi t m j : Nat} {e : TypeId} {w : World} (h1 : lo ≤ t) (h2 : t < hi) (ht : IsR w t e m) (he : Inner e) (v : Value) : Tn lo hi w (w.setCell ⟨t, j, none⟩ v) :=
  ⟨(Within.refl lo hi w).set h1 h2 v, Keep.set w t j v, fun x e' m' hx hn => Below.heap_setCell w ⟨t, j, none⟩ v x (fun hh => by simp only at hh; subst hh; obtain ⟨rfl, _⟩ := ht.one hx; exact hn he)⟩
theorem Tn.only {t m : Nat} {e : TypeId} {w w' : World} (hw : Within t (t + 1) w w') (h : IsR w t e m) (h' : IsR w' t e m) (he : Inner e) : Tn t (t + 1) w w' :=
  ⟨hw, Keep.only hw h h', fun x e' m' hx hn => hw.block x (by
    by_cases hh : x = t
    · subst hh; obtain ⟨rfl, _⟩ := h.one hx; exact absurd he hn
    · omega)⟩
theorem markByte_p (p : Option Addr) (n c lo hi t0 : Nat) (k : Int) (w : World) (h : WY w p n lo hi t0) (hn : n ≤ 1048576) (h0 : 0 ≤ k) (h1 : k ≤ 4000000000000000000) :
    Calls Tryz.prog 9 #[.slice p n c, .int .i64 k] w fun e w' => e = .returned (.int .i64 (k + n)) ∧ HYs w' p n k lo hi t0 ∧ Tn lo hi w w' ∧ w'.heap[t0]? = w.heap[t0]? := by
  by_cases hz : 0 < n
  · obtain ⟨t, m, rfl, b1, b2, b3, b4, ⟨f, hr⟩⟩ := h hz
    refine (mark11 t n m c f k w hr b4 (by omega) h0 h1).mono ?_
    rintro e w' ⟨rfl, hr', hw⟩
    refine ⟨rfl, fun _ => ⟨t, rfl, b1, b2, b3, fun j hj => ?_⟩, (Tn.only hw ⟨_, hr⟩ ⟨_, hr'⟩ (Or.inl rfl)).wider b1 (by omega), hw.block t0 (by omega)⟩
    have := hr'.cell (show j < m by omega)
    rw [if_pos hj] at this; exact this
  · obtain rfl : n = 0 := by omega
    refine (mark11_nil p c k w).mono ?_
    rintro e w' ⟨rfl, rfl⟩
    exact ⟨by simp, fun h => absurd h (Nat.lt_irrefl 0), Tn.refl _ _ _, rfl⟩
/-- A row of data whose texts lie one behind the other, that may be written. -/
structure WD (w : World) (t n m : Nat) (s : Nat → Nat) : Prop where
  row : IsR w t 41 m
  le : n * 4 ≤ m
  up : ∀ i, s i ≤ s (i + 1)
  txts : ∀ i, i < n → ∃ p l c, w.cell? ⟨t, i * 4 + 2, none⟩ = some (.slice p l c) ∧ l ≤ 1048576 ∧ WY w p l (s i) (s (i + 1)) t
theorem WY.keep {w w' : World} {p : Option Addr} {n lo hi t0 : Nat} (h : WY w p n lo hi t0) (k : Keep w w') : WY w' p n lo hi t0 := fun h0 => by
  obtain ⟨t, m, e, h1, h2, h3, h4, h5⟩ := h h0
  exact ⟨t, m, e, h1, h2, h3, h4, k _ _ _ h5⟩
theorem WD.keep {w w' : World} {t n m : Nat} {s : Nat → Nat} (h : WD w t n m s) (k : Keep w w') (hc : ∀ i, i < n → w'.cell? ⟨t, i * 4 + 2, none⟩ = w.cell? ⟨t, i * 4 + 2, none⟩) : WD w' t n m s :=
  ⟨k _ _ _ h.row, h.le, h.up, fun i hi => by
    obtain ⟨p, l, c, h1, h2, h3⟩ := h.txts i hi
    exact ⟨p, l, c, (hc i hi).trans h1, h2, h3.keep k⟩⟩
theorem WD.set {w : World} {t n m : Nat} {s : Nat → Nat} (h : WD w t n m s) {j : Nat} (hj : j % 4 ≠ 2) (v : Value) : WD (w.setCell ⟨t, j, none⟩ v) t n m s :=
  h.keep (Keep.set _ _ _ _) (fun i _ => cell_set_other _ _ _ _ _ (by omega))
/-- Marked data, with the places of their texts. -/
def HDs (w : World) (t n : Nat) (ks : Nat → Int) (s : Nat → Nat) : Prop := ∀ i : Nat, i < n → ∃ p m c, w.cell? ⟨t, i * 4, none⟩ = some (.int .i64 (ks i)) ∧ w.cell? ⟨t, i * 4 + 1, none⟩ = some (.int .i64 (ks i + 1)) ∧ w.cell? ⟨t, i * 4 + 2, none⟩ = some (.slice p m c) ∧ HYs w p m (ks i + 1 + 1) (s i) (s (i + 1)) t ∧ w.cell? ⟨t, i * 4 + 3, none⟩ = some (.int .i64 (ks i + 1 + 1 + (m : Int))) ∧ ks (i + 1) = ks i + 1 + 1 + (m : Int) + 1 ∧ m ≤ 1048576 ∧ 0 ≤ ks i ∧ ks i ≤ 3900000000000000000
theorem HDs.hd {w : World} {t n : Nat} {ks : Nat → Int} {s : Nat → Nat} (h : HDs w t n ks s) : HD w t n ks := fun i hi => by
  obtain ⟨p, m, c, g0, g1, g2, g3, g4⟩ := h i hi
  exact ⟨p, m, c, g0, g1, g2, g3.hy, g4⟩
theorem HYs.keep {w w' : World} {p : Option Addr} {n lo hi t0 : Nat} {k : Int} (h : HYs w p n k lo hi t0) (hb : ∀ b, lo ≤ b → b < hi → b ≠ t0 → w'.heap[b]? = w.heap[b]?) : HYs w' p n k lo hi t0 := fun h0 => by
  obtain ⟨t, e, h1, h2, h3, f⟩ := h h0
  exact ⟨t, e, h1, h2, h3, fun j hj => by rw [World.cell?_of_block (w := w) (hb t h1 h2 h3)]; exact f j hj⟩
theorem HDs.keep {w w' : World} {t n : Nat} {ks : Nat → Int} {s : Nat → Nat} (h : HDs w t n ks s) (up : ∀ i, s i ≤ s (i + 1)) (hc : ∀ x, x < n * 4 → w'.cell? ⟨t, x, none⟩ = w.cell? ⟨t, x, none⟩) (hb : ∀ b, s 0 ≤ b → b < s n → b ≠ t → w'.heap[b]? = w.heap[b]?) : HDs w' t n ks s := fun i hi => by
  obtain ⟨p, m, c, g0, g1, g2, g3, g4, g5⟩ := h i hi
  have h5 := s_mono up 0 i
  have h8 := s_mono up (i + 1) (n - (i + 1))
  rw [Nat.zero_add] at h5
  rw [show i + 1 + (n - (i + 1)) = n by omega] at h8
  exact ⟨p, m, c, (hc _ (by omega)).trans g0, (hc _ (by omega)).trans g1, (hc _ (by omega)).trans g2, g3.keep (fun b b1 b2 b3 => hb b (by omega) (by omega) b3), (hc _ (by omega)).trans g4, g5⟩
/-- One datum more. -/
theorem HDs.snoc {w : World} {t n : Nat} {ks : Nat → Int} {s : Nat → Nat} (h : HDs w t n ks s) {z : Int} {p : Option Addr} {m c : Nat} (hz : z = ks n) (g0 : w.cell? ⟨t, n * 4, none⟩ = some (.int .i64 z)) (g1 : w.cell? ⟨t, n * 4 + 1, none⟩ = some (.int .i64 (z + 1))) (g2 : w.cell? ⟨t, n * 4 + 2, none⟩ = some (.slice p m c)) (g3 : HYs w p m (z + 1 + 1) (s n) (s (n + 1)) t) (g4 : w.cell? ⟨t, n * 4 + 3, none⟩ = some (.int .i64 (z + 1 + 1 + (m : Int)))) (hm : m ≤ 1048576) (h0 : 0 ≤ z) (h1 : z ≤ 3900000000000000000) :
    HDs w t (n + 1) (fun i => if i ≤ n then ks i else z + 1 + 1 + (m : Int) + 1) s := fun i hi => by
  subst hz
  by_cases e : i = n
  · subst e
    simp only [Nat.le_refl, if_true, show ¬ i + 1 ≤ i by omega, if_false]
    exact ⟨p, m, c, g0, g1, g2, g3, g4, rfl, hm, h0, h1⟩
  · simp only [show i ≤ n by omega, show i + 1 ≤ n by omega, if_true]
    exact h i (by omega)
end Go.Proofs.YtkkmoaidbmnolaaGreatDoor
namespace Go.Proofs.YtkkmoaidbmnolaaGreatDoor
open Go.RowKit Ch1
theorem innerD : Inner 41 := Or.inr (Or.inl rfl)
set_option maxHeartbeats 4000000 in
theorem markDatum_m (t n m c lo hi : Nat) (s : Nat → Nat) (k : Int) (w : World) (h : WD w t n m s) (hn : n ≤ 1048576) (hl : lo ≤ t) (hh : t < hi) (hs : lo ≤ s 0) (he : s n ≤ hi) (h0 : 0 ≤ k) (h1 : k ≤ 3000000000000000000) :
    Calls Tryz.prog 36 #[.slice (some ⟨t, 0, none⟩) n c, .int .i64 k] w fun e w' => ∃ (ks : Nat → Int) (z : Int), e = .returned (.int .i64 z) ∧ ks 0 = k ∧ z = ks n ∧ 0 ≤ z ∧ z ≤ k + 1048600 * (n : Int) ∧ HDs w' t n ks s ∧ WD w' t n m s ∧ Tn lo hi w w' := by
  have HM : Hid (WD w t n m s) := h
  have HU : Hid (∀ i, s i ≤ s (i + 1)) := h.up
  clear h
  go_enter Tryz.func36, Tryz.ntmps36
  go_wp2
  go_loopw [1, 5] (fun kv iv wr => ∃ (i : Nat) (z : Int) (ks : Nat → Int), i ≤ n ∧ iv = .int .i64 i ∧ kv = .int .i64 z ∧ 0 ≤ z ∧ z ≤ k + 1048600 * (i : Int) ∧ Hid (ks 0 = k) ∧ Hid (z = ks i) ∧ Hid (HDs wr t i ks s) ∧ Hid (WD wr t n m s) ∧ Hid (Tn lo hi w wr)) (fun _ iv _ => n - (intOf iv).toNat)
  case atStart => exact ⟨0, k, fun _ => k, Nat.zero_le _, rfl, rfl, h0, by omega, rfl, rfl, fun i hi => absurd hi (Nat.not_lt_zero i), HM, Tn.refl _ _ _⟩
  case round =>
    obtain ⟨i, z, ks, hin, rfl, rfl, hz0, hz1, hk0, hkz, hD, hM, hW⟩ := hrel
    by_cases hlt : i < n
    · obtain ⟨p, l, cc, hct, r1, r2⟩ := hM.out.txts i hlt
      have hle := hM.out.le
      obtain ⟨⟨y0, a0⟩, f0⟩ := hM.out.row.at (show i * 4 < m by omega)
      obtain ⟨⟨y1, a1⟩, f1⟩ := hM.out.row.at (show i * 4 + 1 < m by omega)
      have hzb : z ≤ 3100000000000000000 := by omega
      obtain ⟨W, hWe⟩ : ∃ W, W = (wr.setCell ⟨t, i * 4, none⟩ (.int .i64 z)).setCell ⟨t, i * 4 + 1, none⟩ (.int .i64 (z + 1)) := ⟨_, rfl⟩
      have HT0 : Hid (Tn lo hi w W) := by
        unfold Hid; rw [hWe]
        exact (hW.out.trans (Tn.set hl hh hM.out.row innerD _)).trans (Tn.set hl hh (hM.out.row.setCell _ _ _) innerD _)
      have HM0 : Hid (WD W t n m s) := by unfold Hid; rw [hWe]; exact (hM.out.set (by omega) _).set (by omega) _
      have HD0 : Hid (HDs W t i ks s) := by
        unfold Hid; rw [hWe]
        exact hD.out.keep HU.out (fun x hx => by rw [cell_set_other _ _ _ _ _ (by omega), cell_set_other _ _ _ _ _ (by omega)]) (fun b _ _ hb => by rw [Below.heap_setCell _ _ _ b hb, Below.heap_setCell _ _ _ b hb])
      have HC0 : Hid (W.cell? ⟨t, i * 4, none⟩ = some (.int .i64 z)) := by
        unfold Hid; rw [hWe, cell_set_other _ _ _ _ _ (by omega)]; exact cell_set _ hM.out.row (by omega) _
      have HC1 : Hid (W.cell? ⟨t, i * 4 + 1, none⟩ = some (.int .i64 (z + 1))) := by
        unfold Hid; rw [hWe]; exact cell_set _ (hM.out.row.setCell _ _ _) (by omega) _
      have HC2 : Hid (W.cell? ⟨t, i * 4 + 2, none⟩ = some (.slice p l cc)) := by
        unfold Hid; rw [hWe, cell_set_other _ _ _ _ _ (by omega), cell_set_other _ _ _ _ _ (by omega)]; exact hct
      have HY0 : Hid (WY W p l (s i) (s (i + 1)) t) := by
        unfold Hid; rw [hWe]; exact (r2.keep (Keep.set _ _ _ _)).keep (Keep.set _ _ _ _)
      have HWe := Hid.mkD hWe
      clear r2 hWe
      have hsi : lo ≤ s i := by have := s_mono HU.out 0 i; rw [Nat.zero_add] at this; omega
      have hsn : s (i + 1) ≤ hi := by have := s_mono HU.out (i + 1) (n - (i + 1)); rw [show i + 1 + (n - (i + 1)) = n by omega] at this; omega
      go_wp2_with (go_at_call 9; rw [← HWe.out]; refine (markByte_p p l cc (s i) (s (i + 1)) t (z + 1 + 1) _ HY0.out r1 (by omega) (by omega)).mono ?_; rintro e w1 ⟨rfl, hy1, hw1, ht1⟩; have HT1 : Hid (Tn (s i) (s (i + 1)) W w1) := hw1; have HY1 : Hid (HYs w1 p l (z + 1 + 1) (s i) (s (i + 1)) t) := hy1; have HB1 : Hid (w1.heap[t]? = W.heap[t]?) := ht1; have HM1 : Hid (WD w1 t n m s) := HM0.out.keep hw1.keep (fun x _ => World.cell?_of_block ht1); obtain ⟨⟨y3, a3⟩, f3⟩ := HM1.out.row.at (show i * 4 + 3 < m by omega); clear hy1 hw1 ht1)
      have hcl : ∀ x, w1.cell? ⟨t, x, none⟩ = W.cell? ⟨t, x, none⟩ := fun x => World.cell?_of_block HB1.out
      have hD1 : HDs w1 t i ks s := HD0.out.keep HU.out (fun x _ => hcl x) (fun b _ b2 _ => HT1.out.within.block b (by omega))
      have hD2 : HDs (w1.setCell ⟨t, i * 4 + 3, none⟩ (.int .i64 (z + 1 + 1 + (l : Int)))) t i ks s := hD1.keep HU.out (fun x hx => cell_set_other _ _ _ _ _ (by omega)) (fun b _ _ hb => Below.heap_setCell _ _ _ b hb)
      refine ⟨⟨i + 1, z + 1 + 1 + (l : Int) + 1, _, by omega, by go_num, rfl, by omega, by omega, ?_, ?_, hD2.snoc (p := p) (m := l) (c := cc) hkz.out ?_ ?_ ?_ ?_ (cell_set _ HM1.out.row (by omega) _) r1 hz0 (by omega), HM1.out.set (by omega) _, (HT0.out.trans (HT1.out.wider hsi hsn)).trans (Tn.set hl hh HM1.out.row innerD _)⟩, by simp [intOf]; omega⟩
      · unfold Hid; simp only [Nat.zero_le, if_true]; exact hk0.out
      · unfold Hid; simp only [show ¬ i + 1 ≤ i by omega, if_false]
      · rw [cell_set_other _ _ _ _ _ (by omega), hcl]; exact HC0.out
      · rw [cell_set_other _ _ _ _ _ (by omega), hcl]; exact HC1.out
      · rw [cell_set_other _ _ _ _ _ (by omega), hcl]; exact HC2.out
      · exact HY1.out.keep (fun b _ _ hb => Below.heap_setCell _ _ _ b hb)
    · obtain rfl : i = n := by omega
      go_wp2
      go_ret
      exact ⟨ks, z, rfl, hk0.out, hkz.out, hz0, hz1, hD.out, hM.out, hW.out⟩
end Go.Proofs.YtkkmoaidbmnolaaGreatDoor
namespace Go.Proofs.YtkkmoaidbmnolaaGreatDoor
open Go.RowKit Ch1
theorem innerB : Inner 4 := Or.inr (Or.inr (Or.inl rfl))
theorem innerI : Inner 48 := Or.inr (Or.inr (Or.inr rfl))
set_option maxHeartbeats 2000000 in
theorem markIns_m (t n m c : Nat) (k : Int) (w : World) (hr : IsR w t 48 m) (hnm : n * 3 ≤ m) (hn : n ≤ 1048576) (h0 : 0 ≤ k) (h1 : k ≤ 4000000000000000000) :
    Calls Tryz.prog 38 #[.slice (some ⟨t, 0, none⟩) n c, .int .i64 k] w fun e w' => e = .returned (.int .i64 (k + 3 * n)) ∧ IsR w' t 48 m ∧ Within t (t + 1) w w' ∧ ∀ x : Nat, x < n * 3 → w'.cell? ⟨t, x, none⟩ = some (.int .i64 (k + x)) := by
  have HR : Hid (IsR w t 48 m) := hr
  clear hr
  go_enter Tryz.func38, Tryz.ntmps38
  go_wp2
  go_loopw [1, 5] (fun kv i wr => ∃ (j : Nat) (z : Int), j ≤ n ∧ i = .int .i64 j ∧ kv = .int .i64 z ∧ Hid (z = k + 3 * j) ∧ Hid (IsR wr t 48 m) ∧ Hid (Within t (t + 1) w wr) ∧ Hid (∀ x : Nat, x < j * 3 → wr.cell? ⟨t, x, none⟩ = some (.int .i64 (k + x)))) (fun _ i _ => n - (intOf i).toNat)
  case atStart => exact ⟨0, k, Nat.zero_le _, rfl, rfl, by unfold Hid; simp, HR, Within.refl _ _ _, fun x hx => absurd hx (by omega)⟩
  case round =>
    obtain ⟨j, z, hj, rfl, rfl, hz, hR, hW, hC⟩ := hrel
    have hz0 : 0 ≤ z := by rw [hz.out]; omega
    have hz1 : z ≤ 4100000000000000000 := by rw [hz.out]; omega
    by_cases hlt : j < n
    · obtain ⟨⟨y0, a0⟩, b0⟩ := hR.out.at (show j * 3 < m by omega)
      obtain ⟨⟨y1, a1⟩, b1⟩ := hR.out.at (show j * 3 + 1 < m by omega)
      obtain ⟨⟨y2, a2⟩, b2⟩ := hR.out.at (show j * 3 + 2 < m by omega)
      go_wp2
      refine ⟨⟨j + 1, z + 1 + 1 + 1, by omega, by go_num, rfl, by unfold Hid; rw [hz.out]; omega, ((hR.out.setCell _ _ _).setCell _ _ _).setCell _ _ _, ((hW.out.set (Nat.le_refl _) (Nat.lt_succ_self _) _).set (Nat.le_refl _) (Nat.lt_succ_self _) _).set (Nat.le_refl _) (Nat.lt_succ_self _) _, fun x hx => ?_⟩, by simp [intOf]; omega⟩
      have hze := hz.out
      by_cases e2 : x = j * 3 + 2
      · subst e2
        rw [cell_set _ ((hR.out.setCell _ _ _).setCell _ _ _) (show j * 3 + 2 < m by omega)]
        refine congrArg (fun q : Int => some (Value.int .i64 q)) ?_
        omega
      rw [cell_set_other _ t x (j * 3 + 2) _ e2]
      by_cases e1 : x = j * 3 + 1
      · subst e1
        rw [cell_set _ (hR.out.setCell _ _ _) (show j * 3 + 1 < m by omega)]
        refine congrArg (fun q : Int => some (Value.int .i64 q)) ?_
        omega
      rw [cell_set_other _ t x (j * 3 + 1) _ e1]
      by_cases e0 : x = j * 3
      · subst e0
        rw [cell_set _ hR.out (show j * 3 < m by omega)]
        refine congrArg (fun q : Int => some (Value.int .i64 q)) ?_
        omega
      rw [cell_set_other _ t x (j * 3) _ e0]
      exact hC.out x (by omega)
    · obtain rfl : j = n := by omega
      go_wp2
      go_ret
      exact ⟨ret_int hz.out, hR.out, hW.out, hC.out⟩
/-- A row of a kind from lo to ahead of hi that may be written. -/
def WR (w : World) (e : TypeId) (size : Nat) (p : Option Addr) (n lo hi : Nat) : Prop := 0 < n → ∃ t m, p = some ⟨t, 0, none⟩ ∧ lo ≤ t ∧ t < hi ∧ n * size ≤ m ∧ IsR w t e m
theorem WR.keep {w w' : World} {e : TypeId} {size : Nat} {p : Option Addr} {n lo hi : Nat} (h : WR w e size p n lo hi) (k : Keep w w') : WR w' e size p n lo hi := fun h0 => by
  obtain ⟨t, m, e, h1, h2, h3, h4⟩ := h h0
  exact ⟨t, m, e, h1, h2, h3, k _ _ _ h4⟩
/-- Marks stand where the rows of their kind have not changed. -/
theorem HB.stay {w w' : World} {p : Option Addr} {n lo hi : Nat} {k : Int} (h : HB w p n k) (r : WR w 4 1 p n lo hi) (hs : ∀ x m, lo ≤ x → x < hi → IsR w x 4 m → w'.heap[x]? = w.heap[x]?) : HB w' p n k := fun h0 => by
  obtain ⟨t, rfl, f⟩ := h h0
  obtain ⟨t', m, e, h1, h2, h3, h4⟩ := r h0
  cases e
  exact ⟨t, rfl, fun j hj => by rw [World.cell?_of_block (w := w) (hs t m h1 h2 h4)]; exact f j hj⟩
theorem HI.stay {w w' : World} {p : Option Addr} {n lo hi : Nat} {k : Int} (h : HI w p n k) (r : WR w 48 3 p n lo hi) (hs : ∀ x m, lo ≤ x → x < hi → IsR w x 48 m → w'.heap[x]? = w.heap[x]?) : HI w' p n k := fun h0 => by
  obtain ⟨t, rfl, f⟩ := h h0
  obtain ⟨t', m, e, h1, h2, h3, h4⟩ := r h0
  cases e
  exact ⟨t, rfl, fun j hj => by rw [World.cell?_of_block (w := w) (hs t m h1 h2 h4)]; exact f j hj⟩
/-- Writes into rows of one kind. -/
structure T1 (e : TypeId) (lo hi : Nat) (w w' : World) : Prop where
  within : Within lo hi w w'
  keep : Keep w w'
  other : ∀ x e' m, IsR w x e' m → e' ≠ e → w'.heap[x]? = w.heap[x]?
theorem T1.refl (e : TypeId) (lo hi : Nat) (w : World) : T1 e lo hi w w := ⟨Within.refl _ _ _, Keep.refl _, fun _ _ _ _ _ => rfl⟩
theorem T1.only {t m lo hi : Nat} {e : TypeId} {w w' : World} (hw : Within t (t + 1) w w') (h : IsR w t e m) (h' : IsR w' t e m) (h1 : lo ≤ t) (h2 : t < hi) : T1 e lo hi w w' :=
  ⟨hw.wider h1 (by omega), Keep.only hw h h', fun x e' m' hx hn => hw.block x (by
    by_cases hh : x = t
    · subst hh; obtain ⟨rfl, _⟩ := h.one hx; exact absurd rfl hn
    · omega)⟩
theorem markBool_p (p : Option Addr) (n c lo hi : Nat) (k : Int) (w : World) (h : WR w 4 1 p n lo hi) (hn : n ≤ 1048576) (h0 : 0 ≤ k) (h1 : k ≤ 4000000000000000000) :
    Calls Tryz.prog 37 #[.slice p n c, .int .i64 k] w fun e w' => e = .returned (.int .i64 (k + n)) ∧ HB w' p n k ∧ T1 4 lo hi w w' := by
  by_cases hz : 0 < n
  · obtain ⟨t, m, rfl, b1, b2, b3, b4⟩ := h hz
    refine (markBool_v t n m c k w b4 (by omega) hn h0 h1).mono ?_
    rintro e w' ⟨rfl, hr, hw, hc⟩
    exact ⟨rfl, fun _ => ⟨t, rfl, hc⟩, T1.only hw b4 hr b1 b2⟩
  · obtain rfl : n = 0 := by omega
    refine (markBoolS_nil p c k w).mono ?_
    rintro e w' ⟨rfl, rfl⟩
    exact ⟨by simp, fun h => absurd h (Nat.lt_irrefl 0), T1.refl _ _ _ _⟩
theorem markIns_p (p : Option Addr) (n c lo hi : Nat) (k : Int) (w : World) (h : WR w 48 3 p n lo hi) (hn : n ≤ 1048576) (h0 : 0 ≤ k) (h1 : k ≤ 4000000000000000000) :
    Calls Tryz.prog 38 #[.slice p n c, .int .i64 k] w fun e w' => e = .returned (.int .i64 (k + 3 * n)) ∧ HI w' p n k ∧ T1 48 lo hi w w' := by
  by_cases hz : 0 < n
  · obtain ⟨t, m, rfl, b1, b2, b3, b4⟩ := h hz
    refine (markIns_m t n m c k w b4 b3 hn h0 h1).mono ?_
    rintro e w' ⟨rfl, hr, hw, hc⟩
    exact ⟨rfl, fun _ => ⟨t, rfl, hc⟩, T1.only hw b4 hr b1 b2⟩
  · obtain rfl : n = 0 := by omega
    refine (markInsS_nil p c k w).mono ?_
    rintro e w' ⟨rfl, rfl⟩
    exact ⟨by simp, fun h => absurd h (Nat.lt_irrefl 0), T1.refl _ _ _ _⟩
end Go.Proofs.YtkkmoaidbmnolaaGreatDoor
namespace Go.Proofs.YtkkmoaidbmnolaaGreatDoor
open Go.RowKit Ch1
/-- A row of functions whose rows lie one behind the other, that may be written. -/
structure WFn (w : World) (t n m : Nat) (s : Nat → Nat) : Prop where
  row : IsR w t 46 m
  le : n * 3 ≤ m
  up : ∀ i, s i ≤ s (i + 1)
  rows : ∀ i, i < n → ∃ fp nf fc cp nc cc, w.cell? ⟨t, i * 3 + 1, none⟩ = some (.slice fp nf fc) ∧ w.cell? ⟨t, i * 3 + 2, none⟩ = some (.slice cp nc cc) ∧ nf ≤ 1048576 ∧ nc ≤ 1048576 ∧ WR w 4 1 fp nf (s i) (s (i + 1)) ∧ WR w 48 3 cp nc (s i) (s (i + 1))
theorem WFn.keep {w w' : World} {t n m : Nat} {s : Nat → Nat} (h : WFn w t n m s) (k : Keep w w') (h1 : ∀ i, i < n → w'.cell? ⟨t, i * 3 + 1, none⟩ = w.cell? ⟨t, i * 3 + 1, none⟩) (h2 : ∀ i, i < n → w'.cell? ⟨t, i * 3 + 2, none⟩ = w.cell? ⟨t, i * 3 + 2, none⟩) : WFn w' t n m s :=
  ⟨k _ _ _ h.row, h.le, h.up, fun i hi => by
    obtain ⟨fp, nf, fc, cp, nc, cc, g1, g2, b1, b2, r1, r2⟩ := h.rows i hi
    exact ⟨fp, nf, fc, cp, nc, cc, (h1 i hi).trans g1, (h2 i hi).trans g2, b1, b2, r1.keep k, r2.keep k⟩⟩
theorem WFn.set {w : World} {t n m : Nat} {s : Nat → Nat} (h : WFn w t n m s) (j : Nat) (v : Value) : WFn (w.setCell ⟨t, j * 3, none⟩ v) t n m s :=
  h.keep (Keep.set _ _ _ _) (fun i _ => cell_set_other _ _ _ _ _ (by omega)) (fun i _ => cell_set_other _ _ _ _ _ (by omega))
/-- Writes into functions and their rows. -/
structure TF (lo hi : Nat) (w w' : World) : Prop where
  within : Within lo hi w w'
  keep : Keep w w'
  other : ∀ x e m, IsR w x e m → e ≠ 4 → e ≠ 48 → e ≠ 46 → w'.heap[x]? = w.heap[x]?
theorem TF.refl (lo hi : Nat) (w : World) : TF lo hi w w := ⟨Within.refl _ _ _, Keep.refl _, fun _ _ _ _ _ _ _ => rfl⟩
theorem TF.trans {lo hi : Nat} {a b c : World} (h : TF lo hi a b) (k : TF lo hi b c) : TF lo hi a c :=
  ⟨h.within.trans k.within, h.keep.trans k.keep, fun x e m hx h1 h2 h3 => (k.other x e m (h.keep _ _ _ hx) h1 h2 h3).trans (h.other x e m hx h1 h2 h3)⟩
theorem TF.set {lo hi t m j : Nat} {w : World} (h1 : lo ≤ t) (h2 : t < hi) (ht : IsR w t 46 m) (v : Value) : TF lo hi w (w.setCell ⟨t, j, none⟩ v) :=
  ⟨(Within.refl lo hi w).set h1 h2 v, Keep.set w t j v, fun x e' m' hx _ _ hn => Below.heap_setCell w ⟨t, j, none⟩ v x (fun hh => by simp only at hh; subst hh; obtain ⟨rfl, _⟩ := ht.one hx; exact hn rfl)⟩
theorem T1.tfB {lo hi lo' hi' : Nat} {w w' : World} (h : T1 4 lo hi w w') (h1 : lo' ≤ lo) (h2 : hi ≤ hi') : TF lo' hi' w w' :=
  ⟨h.within.wider h1 h2, h.keep, fun x e m hx hn _ _ => h.other x e m hx hn⟩
theorem T1.tfI {lo hi lo' hi' : Nat} {w w' : World} (h : T1 48 lo hi w w') (h1 : lo' ≤ lo) (h2 : hi ≤ hi') : TF lo' hi' w w' :=
  ⟨h.within.wider h1 h2, h.keep, fun x e m hx _ hn _ => h.other x e m hx hn⟩
/-- Marked functions stand while their cells and their rows do. -/
theorem HF.stay {w w' : World} {t i n m : Nat} {ks : Nat → Int} {s : Nat → Nat} (h : HF w t i ks) (r : WFn w t n m s) (hi : i ≤ n) (hc : ∀ x, x < i * 3 → w'.cell? ⟨t, x, none⟩ = w.cell? ⟨t, x, none⟩) (hb : ∀ x e m', x < s i → (e = 4 ∨ e = 48) → IsR w x e m' → w'.heap[x]? = w.heap[x]?) : HF w' t i ks := fun j hj => by
  obtain ⟨fp, nf, fc, cp, nc, cc, g0, g1, g2, g3, g4, g5⟩ := h j hj
  obtain ⟨fp', nf', fc', cp', nc', cc', q1, q2, _, _, r1, r2⟩ := r.rows j (by omega)
  rw [g1] at q1
  rw [g2] at q2
  cases q1
  cases q2
  have h8 := s_mono r.up (j + 1) (i - (j + 1))
  rw [show j + 1 + (i - (j + 1)) = i by omega] at h8
  exact ⟨fp, nf, fc, cp, nc, cc, (hc _ (by omega)).trans g0, (hc _ (by omega)).trans g1, (hc _ (by omega)).trans g2, g3.stay r1 (fun x m' _ x2 hx => hb x 4 m' (by omega) (Or.inl rfl) hx), g4.stay r2 (fun x m' _ x2 hx => hb x _ m' (by omega) (Or.inr rfl) hx), g5⟩
theorem HF.snoc {w : World} {t n : Nat} {ks : Nat → Int} (h : HF w t n ks) {z : Int} {fp cp : Option Addr} {nf fc nc cc : Nat} (hz : z = ks n) (g0 : w.cell? ⟨t, n * 3, none⟩ = some (.int .i64 z)) (g1 : w.cell? ⟨t, n * 3 + 1, none⟩ = some (.slice fp nf fc)) (g2 : w.cell? ⟨t, n * 3 + 2, none⟩ = some (.slice cp nc cc)) (g3 : HB w fp nf (z + 1)) (g4 : HI w cp nc (z + 1 + (nf : Int))) (h1 : nf ≤ 1048576) (h2 : nc ≤ 1048576) (h3 : 0 ≤ z) (h4 : z ≤ 3900000000000000000) :
    HF w t (n + 1) (fun i => if i ≤ n then ks i else z + 1 + (nf : Int) + 3 * (nc : Int)) := fun i hi => by
  subst hz
  by_cases e : i = n
  · subst e
    simp only [Nat.le_refl, if_true, show ¬ i + 1 ≤ i by omega, if_false]
    exact ⟨fp, nf, fc, cp, nc, cc, g0, g1, g2, g3, g4, rfl, h1, h2, h3, h4⟩
  · simp only [show i ≤ n by omega, show i + 1 ≤ n by omega, if_true]
    exact h i (by omega)
set_option maxHeartbeats 4000000 in
theorem markFunc_m (t n m c lo hi : Nat) (s : Nat → Nat) (k : Int) (w : World) (h : WFn w t n m s) (hn : n ≤ 1048576) (hl : lo ≤ t) (hh : t < hi) (hs : lo ≤ s 0) (he : s n ≤ hi) (h0 : 0 ≤ k) (h1 : k ≤ 3500000000000000000) :
    Calls Tryz.prog 21 #[.slice (some ⟨t, 0, none⟩) n c, .int .i64 k] w fun e w' => ∃ (ks : Nat → Int) (z : Int), e = .returned (.int .i64 z) ∧ ks 0 = k ∧ z = ks n ∧ 0 ≤ z ∧ HF w' t n ks ∧ TF lo hi w w' := by
  have HM : Hid (WFn w t n m s) := h
  have HU : Hid (∀ i, s i ≤ s (i + 1)) := h.up
  clear h
  go_enter Tryz.func21, Tryz.ntmps21
  go_wp2
  go_loopw [1, 5] (fun kv iv wr => ∃ (i : Nat) (z : Int) (ks : Nat → Int), i ≤ n ∧ iv = .int .i64 i ∧ kv = .int .i64 z ∧ 0 ≤ z ∧ z ≤ k + 4194310 * (i : Int) ∧ Hid (ks 0 = k) ∧ Hid (z = ks i) ∧ Hid (HF wr t i ks) ∧ Hid (WFn wr t n m s) ∧ Hid (TF lo hi w wr)) (fun _ iv _ => n - (intOf iv).toNat)
  case atStart => exact ⟨0, k, fun _ => k, Nat.zero_le _, rfl, rfl, h0, by omega, rfl, rfl, fun i hi => absurd hi (Nat.not_lt_zero i), HM, TF.refl _ _ _⟩
  case round =>
    obtain ⟨i, z, ks, hin, rfl, rfl, hz0, hz1, hk0, hkz, hD, hM, hW⟩ := hrel
    by_cases hlt : i < n
    · obtain ⟨fp, nf, fc, cp, nc, cc, q1, q2, b1, b2, r1, r2⟩ := hM.out.rows i hlt
      have hle := hM.out.le
      obtain ⟨⟨y0, a0⟩, f0⟩ := hM.out.row.at (show i * 3 < m by omega)
      have hzb : z ≤ 3600000000000000000 := by omega
      obtain ⟨W, hWe⟩ : ∃ W, W = wr.setCell ⟨t, i * 3, none⟩ (.int .i64 z) := ⟨_, rfl⟩
      have HT0 : Hid (TF lo hi w W) := by
        unfold Hid; rw [hWe]
        exact hW.out.trans (TF.set hl hh hM.out.row _)
      have HM0 : Hid (WFn W t n m s) := by unfold Hid; rw [hWe]; exact hM.out.set _ _
      have HD0 : Hid (HF W t i ks) := by
        unfold Hid; rw [hWe]
        exact hD.out.stay hM.out (by omega) (fun x hx => cell_set_other _ _ _ _ _ (by omega)) (fun x e m' _ he hx => Below.heap_setCell _ _ _ x (fun hh => by
          simp only at hh; subst hh
          obtain ⟨rfl, _⟩ := hM.out.row.one hx
          rcases he with he | he <;> exact absurd he (by decide)))
      have HC0 : Hid (W.cell? ⟨t, i * 3, none⟩ = some (.int .i64 z)) := by
        unfold Hid; rw [hWe]; exact cell_set _ hM.out.row (by omega) _
      have HC1 : Hid (W.cell? ⟨t, i * 3 + 1, none⟩ = some (.slice fp nf fc)) := by
        unfold Hid; rw [hWe, cell_set_other _ _ _ _ _ (by omega)]; exact q1
      have HC2 : Hid (W.cell? ⟨t, i * 3 + 2, none⟩ = some (.slice cp nc cc)) := by
        unfold Hid; rw [hWe, cell_set_other _ _ _ _ _ (by omega)]; exact q2
      have HR1 : Hid (WR W 4 1 fp nf (s i) (s (i + 1))) := by unfold Hid; rw [hWe]; exact r1.keep (Keep.set _ _ _ _)
      have HR2 : Hid (WR W 48 3 cp nc (s i) (s (i + 1))) := by unfold Hid; rw [hWe]; exact r2.keep (Keep.set _ _ _ _)
      have HWe := Hid.mkD hWe
      clear r1 r2 hWe
      have hsi : lo ≤ s i := by have := s_mono HU.out 0 i; rw [Nat.zero_add] at this; omega
      have hsn : s (i + 1) ≤ hi := by have := s_mono HU.out (i + 1) (n - (i + 1)); rw [show i + 1 + (n - (i + 1)) = n by omega] at this; omega
      go_wp2_with (first | (go_at_call 37; rw [← HWe.out]; refine (markBool_p fp nf fc (s i) (s (i + 1)) (z + 1) _ HR1.out b1 (by omega) (by omega)).mono ?_; rintro e w1 ⟨rfl, hy1, hw1⟩; have HT1 : Hid (T1 4 (s i) (s (i + 1)) W w1) := hw1; have HY1 : Hid (HB w1 fp nf (z + 1)) := hy1; have HR21 : Hid (WR w1 48 3 cp nc (s i) (s (i + 1))) := HR2.out.keep hw1.keep; have HB1 : Hid (w1.heap[t]? = W.heap[t]?) := hw1.other t _ _ HM0.out.row (by decide); have c2 : w1.cell? ⟨t, i * 3 + 2, none⟩ = some (.slice cp nc cc) := (World.cell?_of_block HB1.out).trans HC2.out; clear hy1 hw1) | (go_at_call 38; refine (markIns_p cp nc cc (s i) (s (i + 1)) (z + 1 + (nf : Int)) _ HR21.out b2 (by omega) (by omega)).mono ?_; rintro e w2 ⟨rfl, hy2, hw2⟩; have HT2 : Hid (T1 48 (s i) (s (i + 1)) w1 w2) := hw2; have HY2 : Hid (HI w2 cp nc (z + 1 + (nf : Int))) := hy2; clear hy2 hw2))
      have hcl : ∀ x, w1.cell? ⟨t, x, none⟩ = W.cell? ⟨t, x, none⟩ := fun x => World.cell?_of_block HB1.out
      have hM1 : WFn w1 t n m s := HM0.out.keep HT1.out.keep (fun _ _ => hcl _) (fun _ _ => hcl _)
      have hB2 : w2.heap[t]? = w1.heap[t]? := HT2.out.other t _ _ hM1.row (by decide)
      have hcl2 : ∀ x, w2.cell? ⟨t, x, none⟩ = w1.cell? ⟨t, x, none⟩ := fun x => World.cell?_of_block hB2
      have hM2 : WFn w2 t n m s := hM1.keep HT2.out.keep (fun _ _ => hcl2 _) (fun _ _ => hcl2 _)
      have hD1 : HF w1 t i ks := HD0.out.stay HM0.out (by omega) (fun x _ => hcl x) (fun x _ _ hx _ _ => HT1.out.within.block x (by omega))
      have hD2 : HF w2 t i ks := hD1.stay hM1 (by omega) (fun x _ => hcl2 x) (fun x _ _ hx _ _ => HT2.out.within.block x (by omega))
      have hY1 : HB w2 fp nf (z + 1) := HY1.out.stay (HR1.out.keep HT1.out.keep) (fun x m' _ _ hx => HT2.out.other x 4 m' hx (by decide))
      refine ⟨⟨i + 1, z + 1 + (nf : Int) + 3 * (nc : Int), _, by omega, by go_num, rfl, by omega, by omega, ?_, ?_, hD2.snoc (fc := fc) (cc := cc) hkz.out ?_ ?_ ?_ hY1 HY2.out b1 b2 hz0 (by omega), hM2, (HT0.out.trans (HT1.out.tfB hsi hsn)).trans (HT2.out.tfI hsi hsn)⟩, by simp [intOf]; omega⟩
      · unfold Hid; simp only [Nat.zero_le, if_true]; exact hk0.out
      · unfold Hid; simp only [show ¬ i + 1 ≤ i by omega, if_false]
      · rw [hcl2, hcl]; exact HC0.out
      · rw [hcl2, hcl]; exact HC1.out
      · rw [hcl2, hcl]; exact HC2.out
    · obtain rfl : i = n := by omega
      go_wp2
      go_ret
      exact ⟨ks, z, rfl, hk0.out, hkz.out, hz0, hD.out, hW.out⟩
end Go.Proofs.YtkkmoaidbmnolaaGreatDoor
