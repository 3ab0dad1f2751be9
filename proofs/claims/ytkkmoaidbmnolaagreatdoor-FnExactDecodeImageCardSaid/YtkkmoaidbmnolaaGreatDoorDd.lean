import Derived.Test.YtkkmoaidbmnolaaGreatDoorD0
namespace Go.Proofs.YtkkmoaidbmnolaaGreatDoor
open Go.RowKit Ch1
theorem HDs.stay {w w' : World} {t n m : Nat} {ks : Nat → Int} {s : Nat → Nat} (h : HDs w t n ks s) (r : WD w t n m s) (hc : ∀ x, w'.cell? ⟨t, x, none⟩ = w.cell? ⟨t, x, none⟩) (hb : ∀ x m', s 0 ≤ x → x < s n → IsR w x 5 m' → w'.heap[x]? = w.heap[x]?) : HDs w' t n ks s := fun i hi => by
  obtain ⟨p, l, c, g0, g1, g2, g3, g4, g5⟩ := h i hi
  obtain ⟨p', l', c', q1, _, q3⟩ := r.txts i hi
  rw [g2] at q1
  cases q1
  have h5 := s_mono r.up 0 i
  have h8 := s_mono r.up (i + 1) (n - (i + 1))
  rw [Nat.zero_add] at h5
  rw [show i + 1 + (n - (i + 1)) = n by omega] at h8
  refine ⟨p, l, c, (hc _).trans g0, (hc _).trans g1, (hc _).trans g2, fun h0 => ?_, (hc _).trans g4, g5⟩
  obtain ⟨t1, rfl, b1, b2, b3, f⟩ := g3 h0
  obtain ⟨t2, m2, e, _, _, _, _, hr⟩ := q3 h0
  cases e
  exact ⟨t1, rfl, b1, b2, b3, fun j hj => by rw [World.cell?_of_block (w := w) (hb t1 m2 (by omega) (by omega) hr)]; exact f j hj⟩
/-- A list of data from lo to ahead of hi that may be written. -/
def WDp (w : World) (p : Option Addr) (n lo hi : Nat) : Prop := 0 < n → ∃ t m s, p = some ⟨t, 0, none⟩ ∧ lo ≤ t ∧ t < hi ∧ WD w t n m s ∧ lo ≤ s 0 ∧ s n ≤ hi
/-- A marked one. -/
def HDq (w : World) (p : Option Addr) (n : Nat) (a b : Int) (lo hi : Nat) : Prop := (n = 0 ∧ b = a) ∨ ∃ t m s ks, p = some ⟨t, 0, none⟩ ∧ lo ≤ t ∧ t < hi ∧ WD w t n m s ∧ lo ≤ s 0 ∧ s n ≤ hi ∧ HDs w t n ks s ∧ ks 0 = a ∧ ks n = b
theorem HDq.hdp {w : World} {p : Option Addr} {n lo hi : Nat} {a b : Int} (h : HDq w p n a b lo hi) : HDp w p n a b := by
  rcases h with h | ⟨t, m, s, ks, e, _, _, _, _, _, h, r⟩
  · exact Or.inl h
  · exact Or.inr ⟨t, ks, e, h.hd, r⟩
theorem HDq.stay {w w' : World} {p : Option Addr} {n lo hi : Nat} {a b : Int} (h : HDq w p n a b lo hi) (k : Keep w w') (hb : ∀ x e m', lo ≤ x → x < hi → (e = 5 ∨ e = 41) → IsR w x e m' → w'.heap[x]? = w.heap[x]?) : HDq w' p n a b lo hi := by
  rcases h with h | ⟨t, m, s, ks, e, l1, l2, hD, l3, l4, h, r⟩
  · exact Or.inl h
  · have ht := hb t _ m l1 l2 (Or.inr rfl) hD.row
    have hc : ∀ x, w'.cell? ⟨t, x, none⟩ = w.cell? ⟨t, x, none⟩ := fun x => World.cell?_of_block ht
    exact Or.inr ⟨t, m, s, ks, e, l1, l2, hD.keep k (fun i _ => hc _), l3, l4, h.stay hD hc (fun x m' x1 x2 hx => hb x 5 m' (by omega) (by omega) (Or.inl rfl) hx), r⟩
theorem WDp.stay {w w' : World} {p : Option Addr} {n lo hi : Nat} (h : WDp w p n lo hi) (k : Keep w w') (hb : ∀ x, lo ≤ x → x < hi → w'.heap[x]? = w.heap[x]?) : WDp w' p n lo hi := fun h0 => by
  obtain ⟨t, m, s, e, l1, l2, hD, r⟩ := h h0
  exact ⟨t, m, s, e, l1, l2, hD.keep k (fun i _ => World.cell?_of_block (hb t l1 l2)), r⟩
theorem markDatum_nil (p : Option Addr) (c : Nat) (k : Int) (w : World) : Calls Tryz.prog 36 #[.slice p 0 c, .int .i64 k] w fun e w' => e = .returned (.int .i64 k) ∧ w' = w := by
  go_enter Tryz.func36, Tryz.ntmps36
  go_wp2
  go_loop [1, 5] (fun kv i => kv = .int .i64 k ∧ i = .int .i64 0) (fun _ _ => 0)
  case atStart => exact ⟨rfl, rfl⟩
  case round =>
    obtain ⟨rfl, rfl⟩ := hrel
    go_wp2
    go_ret
    exact ⟨rfl, rfl⟩
theorem markDatum_p (p : Option Addr) (n c lo hi : Nat) (k : Int) (w : World) (h : WDp w p n lo hi) (hn : n ≤ 1048576) (h0 : 0 ≤ k) (h1 : k ≤ 3000000000000000000) :
    Calls Tryz.prog 36 #[.slice p n c, .int .i64 k] w fun e w' => ∃ z : Int, e = .returned (.int .i64 z) ∧ 0 ≤ z ∧ z ≤ k + 1100000000000 ∧ HDq w' p n k z lo hi ∧ Tn lo hi w w' := by
  by_cases hz : 0 < n
  · obtain ⟨t, m, s, rfl, l1, l2, hD, l3, l4⟩ := h hz
    refine (markDatum_m t n m c lo hi s k w hD hn l1 l2 l3 l4 h0 h1).mono ?_
    rintro e w' ⟨ks, z, rfl, e0, e1, z0, z1, hd, hwd, ht⟩
    exact ⟨z, rfl, z0, by omega, Or.inr ⟨t, m, s, ks, rfl, l1, l2, hwd, l3, l4, hd, e0, e1.symm⟩, ht⟩
  · obtain rfl : n = 0 := by omega
    refine (markDatum_nil p c k w).mono ?_
    rintro e w' ⟨rfl, rfl⟩
    exact ⟨k, rfl, h0, by omega, Or.inl ⟨rfl, rfl⟩, Tn.refl _ _ _⟩
/-- Lists of data, those from i on may be written. -/
structure WSS (w : World) (t i n m : Nat) (s : Nat → Nat) : Prop where
  row : IsR w t 39 m
  le : n ≤ m
  up : ∀ i, s i ≤ s (i + 1)
  each : ∀ j, i ≤ j → j < n → ∃ p l c, w.cell? ⟨t, j, none⟩ = some (.slice p l c) ∧ l ≤ 1048576 ∧ WDp w p l (s j) (s (j + 1))
def HSs (w : World) (t n : Nat) (ks : Nat → Int) (s : Nat → Nat) : Prop := ∀ i : Nat, i < n → ∃ p m c, w.cell? ⟨t, i, none⟩ = some (.slice p m c) ∧ HDq w p m (ks i) (ks (i + 1)) (s i) (s (i + 1)) ∧ m ≤ 1048576 ∧ 0 ≤ ks (i + 1) ∧ ks (i + 1) ≤ 3900000000000000000
theorem HSs.hs {w : World} {t n : Nat} {ks : Nat → Int} {s : Nat → Nat} (h : HSs w t n ks s) : HS w t n ks := fun i hi => by
  obtain ⟨p, m, c, g0, g1, g2⟩ := h i hi
  exact ⟨p, m, c, g0, g1.hdp, g2⟩
theorem HSs.stay {w w' : World} {t n : Nat} {ks : Nat → Int} {s : Nat → Nat} (h : HSs w t n ks s) (up : ∀ i, s i ≤ s (i + 1)) (k : Keep w w') (ht : w'.heap[t]? = w.heap[t]?) (hb : ∀ x e m', x < s n → (e = 5 ∨ e = 41) → IsR w x e m' → w'.heap[x]? = w.heap[x]?) : HSs w' t n ks s := fun i hi => by
  obtain ⟨p, m, c, g0, g1, g2⟩ := h i hi
  have h8 := s_mono up (i + 1) (n - (i + 1))
  rw [show i + 1 + (n - (i + 1)) = n by omega] at h8
  exact ⟨p, m, c, (World.cell?_of_block ht).trans g0, g1.stay k (fun x e m' _ x2 he hx => hb x e m' (by omega) he hx), g2⟩
theorem HSs.snoc {w : World} {t n : Nat} {ks : Nat → Int} {s : Nat → Nat} (h : HSs w t n ks s) {z z1 : Int} {p : Option Addr} {m c : Nat} (hz : z = ks n) (g0 : w.cell? ⟨t, n, none⟩ = some (.slice p m c)) (g1 : HDq w p m z z1 (s n) (s (n + 1))) (hm : m ≤ 1048576) (h0 : 0 ≤ z1) (h1 : z1 ≤ 3900000000000000000) :
    HSs w t (n + 1) (fun i => if i ≤ n then ks i else z1) s := fun i hi => by
  subst hz
  by_cases e : i = n
  · subst e
    simp only [Nat.le_refl, if_true, show ¬ i + 1 ≤ i by omega, if_false]
    exact ⟨p, m, c, g0, g1, hm, h0, h1⟩
  · simp only [show i ≤ n by omega, show i + 1 ≤ n by omega, if_true]
    exact h i (by omega)
theorem WSS.next {w w' : World} {t i n m : Nat} {s : Nat → Nat} (h : WSS w t i n m s) (hT : Tn (s i) (s (i + 1)) w w') : WSS w' t (i + 1) n m s :=
  ⟨hT.keep _ _ _ h.row, h.le, h.up, fun j h1 h2 => by
    obtain ⟨p, l, c, g0, g1, g2⟩ := h.each j (by omega) h2
    have h8 := s_mono h.up (i + 1) (j - (i + 1))
    rw [show i + 1 + (j - (i + 1)) = j by omega] at h8
    exact ⟨p, l, c, (World.cell?_of_block (hT.other t _ _ h.row innerC)).trans g0, g1, g2.stay hT.keep (fun x x1 _ => hT.within.block x (by omega))⟩⟩
set_option maxHeartbeats 4000000 in
theorem markDatumS_m (t n m c lo hi : Nat) (s : Nat → Nat) (k : Int) (w : World) (h : WSS w t 0 n m s) (hn : n ≤ 1048576) (hs : lo ≤ s 0) (he : s n ≤ hi) (h0 : 0 ≤ k) (h1 : k ≤ 1000) :
    Calls Tryz.prog 20 #[.slice (some ⟨t, 0, none⟩) n c, .int .i64 k] w fun e w' => ∃ (ks : Nat → Int) (z : Int), e = .returned (.int .i64 z) ∧ ks 0 = k ∧ z = ks n ∧ 0 ≤ z ∧ z ≤ 2000000000000000000 ∧ HSs w' t n ks s ∧ Tn lo hi w w' := by
  have HM : Hid (WSS w t 0 n m s) := h
  have HU : Hid (∀ i, s i ≤ s (i + 1)) := h.up
  clear h
  go_enter Tryz.func20, Tryz.ntmps20
  go_wp2
  go_loopw [1, 5] (fun kv iv wr => ∃ (i : Nat) (z : Int) (ks : Nat → Int), i ≤ n ∧ iv = .int .i64 i ∧ kv = .int .i64 z ∧ 0 ≤ z ∧ z ≤ k + 1100000000000 * (i : Int) ∧ Hid (ks 0 = k) ∧ Hid (z = ks i) ∧ Hid (HSs wr t i ks s) ∧ Hid (WSS wr t i n m s) ∧ Hid (Tn lo hi w wr)) (fun _ iv _ => n - (intOf iv).toNat)
  case atStart => exact ⟨0, k, fun _ => k, Nat.zero_le _, rfl, rfl, h0, by omega, rfl, rfl, fun i hi => absurd hi (Nat.not_lt_zero i), HM, Tn.refl _ _ _⟩
  case round =>
    obtain ⟨i, z, ks, hin, rfl, rfl, hz0, hz1, hk0, hkz, hD, hM, hW⟩ := hrel
    by_cases hlt : i < n
    · obtain ⟨p, l, cc, q1, b1, r1⟩ := hM.out.each i (Nat.le_refl _) hlt
      have HR1 : Hid (WDp wr p l (s i) (s (i + 1))) := r1
      have HQ1 : Hid (wr.cell? ⟨t, i, none⟩ = some (.slice p l cc)) := q1
      clear r1
      have hsi : lo ≤ s i := by have := s_mono HU.out 0 i; rw [Nat.zero_add] at this; omega
      have hsn : s (i + 1) ≤ hi := by have := s_mono HU.out (i + 1) (n - (i + 1)); rw [show i + 1 + (n - (i + 1)) = n by omega] at this; omega
      go_wp2_with (go_at_call 36; refine (markDatum_p p l cc (s i) (s (i + 1)) z _ HR1.out b1 hz0 (by omega)).mono ?_; rintro e w1 ⟨z1, rfl, y0, y1, hy1, hw1⟩; have HT1 : Hid (Tn (s i) (s (i + 1)) wr w1) := hw1; have HY1 : Hid (HDq w1 p l z z1 (s i) (s (i + 1))) := hy1; clear hy1 hw1)
      have hB1 : w1.heap[t]? = wr.heap[t]? := HT1.out.other t _ _ hM.out.row innerC
      have hD1 : HSs w1 t i ks s := hD.out.stay HU.out HT1.out.keep hB1 (fun x _ _ hx _ _ => HT1.out.within.block x (by omega))
      refine ⟨⟨i + 1, z1, _, by omega, by go_num, rfl, y0, by omega, ?_, ?_, hD1.snoc (c := cc) hkz.out ((World.cell?_of_block hB1).trans HQ1.out) HY1.out b1 y0 (by omega), hM.out.next HT1.out, hW.out.trans (HT1.out.wider hsi hsn)⟩, by simp [intOf]; omega⟩
      · unfold Hid; simp only [Nat.zero_le, if_true]; exact hk0.out
      · unfold Hid; simp only [show ¬ i + 1 ≤ i by omega, if_false]
    · obtain rfl : i = n := by omega
      go_wp2
      go_ret
      exact ⟨ks, z, rfl, hk0.out, hkz.out, hz0, by omega, hD.out, hW.out⟩
end Go.Proofs.YtkkmoaidbmnolaaGreatDoor
namespace Go.Proofs.YtkkmoaidbmnolaaGreatDoor
open Go.RowKit Ch1
theorem markDatumS_nil (p : Option Addr) (c : Nat) (k : Int) (w : World) : Calls Tryz.prog 20 #[.slice p 0 c, .int .i64 k] w fun e w' => e = .returned (.int .i64 k) ∧ w' = w := by
  go_enter Tryz.func20, Tryz.ntmps20
  go_wp2
  go_loop [1, 5] (fun kv i => kv = .int .i64 k ∧ i = .int .i64 0) (fun _ _ => 0)
  case atStart => exact ⟨rfl, rfl⟩
  case round =>
    obtain ⟨rfl, rfl⟩ := hrel
    go_wp2
    go_ret
    exact ⟨rfl, rfl⟩
theorem markFunc_nil (p : Option Addr) (c : Nat) (k : Int) (w : World) : Calls Tryz.prog 21 #[.slice p 0 c, .int .i64 k] w fun e w' => e = .returned (.int .i64 k) ∧ w' = w := by
  go_enter Tryz.func21, Tryz.ntmps21
  go_wp2
  go_loop [1, 5] (fun kv i => kv = .int .i64 k ∧ i = .int .i64 0) (fun _ _ => 0)
  case atStart => exact ⟨rfl, rfl⟩
  case round =>
    obtain ⟨rfl, rfl⟩ := hrel
    go_wp2
    go_ret
    exact ⟨rfl, rfl⟩
theorem keep_below {w w' : World} (hb : Below w.heap.size w w') : Keep w w' := fun _ _ _ h => h.below hb
def WSp (w : World) (p : Option Addr) (n lo hi : Nat) : Prop := 0 < n → ∃ t m s, p = some ⟨t, 0, none⟩ ∧ WSS w t 0 n m s ∧ lo ≤ s 0 ∧ s n ≤ hi
def WFp (w : World) (p : Option Addr) (n lo hi : Nat) : Prop := 0 < n → ∃ t m s, p = some ⟨t, 0, none⟩ ∧ lo ≤ t ∧ t < hi ∧ WFn w t n m s ∧ lo ≤ s 0 ∧ s n ≤ hi
theorem WSp.below {w w' : World} {p : Option Addr} {n lo hi : Nat} (h : WSp w p n lo hi) (hb : Below w.heap.size w w') : WSp w' p n lo hi := fun h0 => by
  obtain ⟨t, m, s, e, hS, r⟩ := h h0
  refine ⟨t, m, s, e, ⟨hS.row.below hb, hS.le, hS.up, fun j h1 h2 => ?_⟩, r⟩
  obtain ⟨q, l, c, g0, g1, g2⟩ := hS.each j h1 h2
  refine ⟨q, l, c, (World.cell?_of_block (hb.block t hS.row.lt)).trans g0, g1, fun hl => ?_⟩
  obtain ⟨t1, m1, s1, e1, l1, l2, hD, r1⟩ := g2 hl
  exact ⟨t1, m1, s1, e1, l1, l2, hD.keep (keep_below hb) (fun i _ => World.cell?_of_block (hb.block t1 hD.row.lt)), r1⟩
theorem WFp.keep {w w' : World} {p : Option Addr} {n lo hi : Nat} (h : WFp w p n lo hi) (k : Keep w w') (hb : ∀ x m, IsR w x 46 m → w'.heap[x]? = w.heap[x]?) : WFp w' p n lo hi := fun h0 => by
  obtain ⟨t, m, s, e, l1, l2, hF, r⟩ := h h0
  exact ⟨t, m, s, e, l1, l2, hF.keep k (fun i _ => World.cell?_of_block (hb t m hF.row)) (fun i _ => World.cell?_of_block (hb t m hF.row)), r⟩
def HSq (w : World) (p : Option Addr) (n : Nat) (a b : Int) : Prop := (n = 0 ∧ b = a) ∨ ∃ t m s ks, p = some ⟨t, 0, none⟩ ∧ IsR w t 39 m ∧ (∀ i, s i ≤ s (i + 1)) ∧ HSs w t n ks s ∧ ks 0 = a ∧ ks n = b
theorem HSq.hsp {w : World} {p : Option Addr} {n : Nat} {a b : Int} (h : HSq w p n a b) : HSp w p n a b := by
  rcases h with h | ⟨t, m, s, ks, e, _, _, h, r⟩
  · exact Or.inl h
  · exact Or.inr ⟨t, ks, e, h.hs, r⟩
theorem HSq.tf {w w' : World} {p : Option Addr} {n lo hi : Nat} {a b : Int} (h : HSq w p n a b) (hT : TF lo hi w w') : HSq w' p n a b := by
  rcases h with h | ⟨t, m, s, ks, e, hr, up, h, r⟩
  · exact Or.inl h
  · refine Or.inr ⟨t, m, s, ks, e, hT.keep _ _ _ hr, up, h.stay up hT.keep (hT.other t _ _ hr (by decide) (by decide) (by decide)) (fun x e' m' _ he hx => ?_), r⟩
    rcases he with rfl | rfl
    · exact hT.other x _ m' hx (by decide) (by decide) (by decide)
    · exact hT.other x _ m' hx (by decide) (by decide) (by decide)
theorem markDatumS_p (p : Option Addr) (n c lo hi : Nat) (k : Int) (w : World) (h : WSp w p n lo hi) (hn : n ≤ 1048576) (h0 : 0 ≤ k) (h1 : k ≤ 1000) :
    Calls Tryz.prog 20 #[.slice p n c, .int .i64 k] w fun e w' => ∃ z : Int, e = .returned (.int .i64 z) ∧ 0 ≤ z ∧ z ≤ 2000000000000000000 ∧ HSq w' p n k z ∧ Tn lo hi w w' := by
  by_cases hz : 0 < n
  · obtain ⟨t, m, s, rfl, hS, l3, l4⟩ := h hz
    refine (markDatumS_m t n m c lo hi s k w hS hn l3 l4 h0 h1).mono ?_
    rintro e w' ⟨ks, z, rfl, e0, e1, z0, z1, hd, ht⟩
    exact ⟨z, rfl, z0, z1, Or.inr ⟨t, m, s, ks, rfl, ht.keep _ _ _ hS.row, hS.up, hd, e0, e1.symm⟩, ht⟩
  · obtain rfl : n = 0 := by omega
    refine (markDatumS_nil p c k w).mono ?_
    rintro e w' ⟨rfl, rfl⟩
    exact ⟨k, rfl, h0, by omega, Or.inl ⟨rfl, rfl⟩, Tn.refl _ _ _⟩
theorem markFunc_p (p : Option Addr) (n c lo hi : Nat) (k : Int) (w : World) (h : WFp w p n lo hi) (hn : n ≤ 1048576) (h0 : 0 ≤ k) (h1 : k ≤ 3500000000000000000) :
    Calls Tryz.prog 21 #[.slice p n c, .int .i64 k] w fun e w' => ∃ z : Int, e = .returned (.int .i64 z) ∧ 0 ≤ z ∧ HFp w' p n k z ∧ TF lo hi w w' := by
  by_cases hz : 0 < n
  · obtain ⟨t, m, s, rfl, l1, l2, hF, l3, l4⟩ := h hz
    refine (markFunc_m t n m c lo hi s k w hF hn l1 l2 l3 l4 h0 h1).mono ?_
    rintro e w' ⟨ks, z, rfl, e0, e1, z0, hd, ht⟩
    exact ⟨z, rfl, z0, Or.inr ⟨t, ks, rfl, hd, e0, e1.symm⟩, ht⟩
  · obtain rfl : n = 0 := by omega
    refine (markFunc_nil p c k w).mono ?_
    rintro e w' ⟨rfl, rfl⟩
    exact ⟨k, rfl, h0, Or.inl ⟨rfl, rfl⟩, TF.refl _ _ _⟩
set_option maxHeartbeats 2000000 in
/-- A module of one's own is marked, and holds its marks. -/
theorem markModule_m (p q : Option Addr) (n c m d lo hi : Nat) (g : Int) (w : World) (h : WSp w p n lo hi) (k : WFp w q m lo hi) (hn : n ≤ 1048576) (hm : m ≤ 1048576) (hhi : hi ≤ w.heap.size) :
    Calls Tryz.prog 10 #[.agg #[.slice p n c, .int .i64 g, .slice q m d], .int .i64 1] w fun e w' => ∃ b z : Int, e = .returned (.int .i64 z) ∧ 0 ≤ b ∧ 0 ≤ z ∧ HSp w' p n 1 b ∧ HFp w' q m b z ∧ ∃ wm, Below w.heap.size w wm ∧ Within lo hi wm w' := by
  obtain ⟨W, hW⟩ : ∃ W, W = w.alloc (.cells #[.slice p n c, .int .i64 g, .slice q m d] 26) := ⟨_, rfl⟩
  have HX0 : Hid (B3 W w.heap.size (.slice p n c) (.int .i64 g) (.slice q m d)) := by unfold Hid; rw [hW]; exact B3.new w _ _ _ _
  have HWB : Hid (Below w.heap.size w W) := by unfold Hid; rw [hW]; exact below1 _ _
  have H1 : Hid (WSp W p n lo hi) := h.below HWB.out
  have H2 : Hid (WFp W q m lo hi) := k.keep (keep_below HWB.out) (fun x _ hx => HWB.out.block x hx.lt)
  clear h k
  go_enter Tryz.func10, Tryz.ntmps10
  go_wp2_with fail
  rw [← hW]
  clear hW
  refine (markDatumS_p p n c lo hi 1 _ H1.out hn (by omega) (by omega)).mono ?_
  rintro e w1 ⟨b, rfl, hb0, hb1, hq, ht1⟩
  have c2 : w1.cell? ⟨w.heap.size, 2, none⟩ = some (.slice q m d) := by rw [World.cell?_of_block (ht1.within.block w.heap.size (by omega))]; exact HX0.out.c2
  have HF1 : Hid (WFp w1 q m lo hi) := H2.out.keep ht1.keep (fun x m' hx => ht1.other x _ m' hx innerF)
  have HQ : Hid (HSq w1 p n 1 b) := hq
  have HW1 : Hid (Within lo hi W w1) := ht1.within
  clear ht1 hq
  go_wp2_with fail
  refine (markFunc_p q m d lo hi b _ HF1.out hm hb0 (by omega)).mono ?_
  rintro e w2 ⟨z, rfl, hz0, hf, ht2⟩
  have HF2 : Hid (HFp w2 q m b z) := hf
  have HQ2 : Hid (HSq w2 p n 1 b) := HQ.out.tf ht2
  have HW2 : Hid (Within lo hi W w2) := HW1.out.trans ht2.within
  clear ht2 hf
  go_wp2
  go_ret
  exact ⟨b, z, rfl, hb0, hz0, HQ2.out.hsp, HF2.out, W, HWB.out, HW2.out⟩
end Go.Proofs.YtkkmoaidbmnolaaGreatDoor
namespace Go.Proofs.YtkkmoaidbmnolaaGreatDoor
open Go.RowKit Ch1
theorem owns_isR {w : World} {B n size c : Nat} {e : TypeId} {p : Option Addr} {xs : List Value} (h : w.ownsRow B e size (.slice p n c) n xs) (hn : 0 < n) : ∃ g m, p = some ⟨g, 0, none⟩ ∧ B ≤ g ∧ (Value.slice p n c).ownBlock = some g ∧ n * size ≤ m ∧ IsR w g e m := by
  obtain ⟨_, ⟨hv, h0⟩ | ⟨g, cap, cur, hv, hg, hh, h1, h2, h3, h4⟩⟩ := h
  · omega
  · cases hv
    refine ⟨g, cur.size, rfl, hg, rfl, ?_, fun i => cur.getD i .nilIface, cur, hh, rfl, fun i hi => by simp [Array.getD, hi]⟩
    rw [h3]
    exact Nat.mul_le_mul_right _ h1
/-- A constant's piece may be written. -/
theorem DaP.wdp {a : List (Dt × Value) × Value} {w : World} {lo hi c : Nat} {p : Option Addr} (h : DaP a w lo hi) (e : a.2 = .slice p a.1.length c) (hok : ∀ d ∈ a.1.map (·.1), DtOk d) : WDp w p a.1.length lo hi := fun hn => by
  obtain ⟨s, hD, h1, h2, h3⟩ := h
  rw [e] at hD h2
  have hcs := owns_cells hD.row
  obtain ⟨g, m, rfl, hg, ho, hm, hr⟩ := owns_isR hD.row hn
  obtain ⟨g', e', _, _, hc⟩ := hcs.2.2 hn
  cases e'
  refine ⟨g, m, s, rfl, hg, h2 g ho, ⟨hr, hm, hD.up, fun i hi => ?_⟩, hD.lo, h1⟩
  obtain ⟨x, hx⟩ : ∃ x, a.1[i]? = some x := ⟨_, List.getElem?_eq_getElem hi⟩
  obtain ⟨d, t⟩ := x
  obtain ⟨⟨q, l, c', rfl⟩, k2, k3⟩ := hD.txt i d t hx
  have hdm : d ∈ a.1.map (·.1) := List.mem_map.2 ⟨_, List.mem_of_getElem? hx, rfl⟩
  have hlen := (hok d hdm).len
  have k2' := k2
  obtain ⟨tp, tcc, e, _, _⟩ := k2.by_ (rg_getD (hok d hdm).rg)
  cases e
  refine ⟨q, d.text.length, c', ?_, by omega, fun hl => ?_⟩
  · rw [hc _ (by omega)]
    exact flat_get (fun p : Dt × Value => [.int .i64 p.1.kind, .int .i64 p.1.n, p.2, .int .i64 p.1.count]) 4 a.1 (fun _ _ => rfl) i _ hx 2 (by omega)
  · obtain ⟨b, mb, rfl, b1, b2, b3, b4⟩ := owns_isR k2' hl
    refine ⟨b, mb, rfl, b1, k3 b b2, fun hh => ?_, by omega, b4⟩
    subst hh
    obtain ⟨hh, _⟩ := b4.one hr
    exact absurd hh (by decide)
/-- A function's piece may be written. -/
theorem FnP.wr {a : Fn × Value} {w : World} {lo hi : Nat} (h : FnP a w lo hi) : ∃ fp fc cp cc, a.2 = .agg #[.int .i64 a.1.params, .slice fp a.1.free.length fc, .slice cp a.1.code.length cc] ∧ WR w 4 1 fp a.1.free.length lo hi ∧ WR w 48 3 cp a.1.code.length lo hi := by
  obtain ⟨fp, fc, cp, cc, e, h1, h2, h3, h4⟩ := h
  refine ⟨fp, fc, cp, cc, e, fun hn => ?_, fun hn => ?_⟩
  · obtain ⟨g, m, rfl, hg, ho, hm, hr⟩ := owns_isR h1 hn
    exact ⟨g, m, rfl, hg, h3 g ho, hm, hr⟩
  · obtain ⟨g, m, rfl, hg, ho, hm, hr⟩ := owns_isR h2 hn
    exact ⟨g, m, rfl, hg, h4 g ho, hm, hr⟩
/-- A module's own value may be marked. -/
theorem MdV.ws {m : Md} {v : Value} {w w' : World} (h : MdV m v w w') (hok : MdOk m) : ∃ p n c q k d, v = .agg #[.slice p n c, .int .i64 m.globals, .slice q k d] ∧ n ≤ 1048576 ∧ k ≤ 1048576 ∧ WSp w' p n w.heap.size w'.heap.size ∧ WFp w' q k w.heap.size w'.heap.size := by
  obtain ⟨p, c, q, d, L, F, s, t, M, rfl, hLm, hFm, hO, hU, hP, hQ, hM⟩ := h
  have hl : L.length = m.consts.length := by rw [← hLm]; simp
  have hf : F.length = m.funcs.length := by rw [← hFm]; simp
  have h1 := hok.cn
  have h2 := hok.fn
  refine ⟨p, L.length, c, q, F.length, d, rfl, by omega, by omega, fun hn => ?_, fun hn => ?_⟩
  · have hcs := owns_cells hO
    obtain ⟨g, mb, rfl, hg, ho, hm, hr⟩ := owns_isR hO hn
    obtain ⟨g', e', _, _, hc⟩ := hcs.2.2 hn
    cases e'
    refine ⟨g, mb, s, rfl, ⟨hr, by omega, hP.up, fun i _ hi => ?_⟩, hP.lo, hP.hi⟩
    obtain ⟨a, ha⟩ : ∃ a, L[i]? = some a := ⟨_, List.getElem?_eq_getElem hi⟩
    have hmem : a.1.map (·.1) ∈ m.consts := by rw [← hLm]; exact List.mem_map.2 ⟨a, mem_of_at ha, rfl⟩
    have hpc := hP.each i a ha
    obtain ⟨q', c', e⟩ := hpc.form
    have hlen := (hok.cs _ hmem).1
    rw [List.length_map] at hlen
    refine ⟨q', a.1.length, c', ?_, by omega, hpc.wdp e (hok.cs _ hmem).2⟩
    rw [hc i (by omega)]
    simp [ha, e]
  · have hcs := owns_cells hU
    obtain ⟨g, mb, rfl, hg, ho, hm, hr⟩ := owns_isR hU hn
    obtain ⟨g', e', hlt, _, hc⟩ := hcs.2.2 hn
    cases e'
    have hs0 := s_mono hP.up 0 L.length
    rw [Nat.zero_add] at hs0
    have hlo := hP.lo
    have hql := hQ.lo
    refine ⟨g, mb, t, rfl, hg, hlt, ⟨hr, hm, hQ.up, fun i hi => ?_⟩, by omega, hQ.hi⟩
    obtain ⟨a, ha⟩ : ∃ a, F[i]? = some a := ⟨_, List.getElem?_eq_getElem hi⟩
    have hmem : a.1 ∈ m.funcs := by rw [← hFm]; exact List.mem_map.2 ⟨a, mem_of_at ha, rfl⟩
    obtain ⟨fp, fc, cp, cc, e, k1, k2⟩ := (hQ.each i a ha).wr
    have hall : ∀ b ∈ F, (b.2.cells.toList).length = 3 := fun b hb => by
      obtain ⟨j, hj⟩ := List.getElem?_of_mem hb
      obtain ⟨_, _, _, _, e', _⟩ := hQ.each j b hj
      rw [e']; rfl
    have hcell : ∀ r, r < 3 → w'.cell? ⟨g, i * 3 + r, none⟩ = ([.int .i64 a.1.params, .slice fp a.1.free.length fc, .slice cp a.1.code.length cc] : List Value)[r]? := fun r hr => by
      rw [hc _ (by omega)]
      have := flat_get (fun b : Fn × Value => b.2.cells.toList) 3 F hall i a ha r hr
      rw [e] at this
      exact this
    have q1 := (hok.fs _ hmem).fr
    have q2 := (hok.fs _ hmem).co
    exact ⟨fp, _, fc, cp, _, cc, hcell 1 (by omega), hcell 2 (by omega), by omega, by omega, k1, k2⟩
end Go.Proofs.YtkkmoaidbmnolaaGreatDoor
namespace Go.Proofs.YtkkmoaidbmnolaaGreatDoor
open Go.RowKit Ch1
/-- What both answer. -/
def AnsS (m : Md) (code : Int) (w w' : World) (e : Ending) : Prop := ∃ p n c q k d, e = .returned (.tuple #[.agg #[.slice p n c, .int .i64 m.globals, .slice q k d], .int .i64 code]) ∧ Mo w' p n c q k d m ∧ Below w.heap.size w w'
def AnsI (m : Md) (code : Int) (w w' : World) (e : Ending) : Prop := ∃ p n c q k d, e = .returned (.tuple #[.agg #[.slice p n c, .int .i64 m.globals, .slice q k d], .int .i64 code]) ∧ Mo w' p n c q k d m ∧ n ≤ 1048576 ∧ k ≤ 1048576 ∧ WSp w' p n w.heap.size w'.heap.size ∧ WFp w' q k w.heap.size w'.heap.size ∧ Below w.heap.size w w' ∧ ∀ b w'', b < w.heap.size → Sr b w' w'' → Mo w'' p n c q k d m
theorem WSp.keep {w w' : World} {p : Option Addr} {n lo hi : Nat} (h : WSp w p n lo hi) (k : Keep w w') (hb : ∀ x e m, IsR w x e m → e ≠ 5 → w'.heap[x]? = w.heap[x]?) : WSp w' p n lo hi := fun h0 => by
  obtain ⟨t, m, s, e, hS, r⟩ := h h0
  refine ⟨t, m, s, e, ⟨k _ _ _ hS.row, hS.le, hS.up, fun j h1 h2 => ?_⟩, r⟩
  obtain ⟨q, l, c, g0, g1, g2⟩ := hS.each j h1 h2
  refine ⟨q, l, c, (World.cell?_of_block (hb t _ _ hS.row (by decide))).trans g0, g1, fun hl => ?_⟩
  obtain ⟨t1, m1, s1, e1, l1, l2, hD, r1⟩ := g2 hl
  exact ⟨t1, m1, s1, e1, l1, l2, hD.keep k (fun i _ => World.cell?_of_block (hb t1 _ _ hD.row (by decide))), r1⟩
set_option maxRecDepth 20000 in
set_option maxHeartbeats 8000000 in
theorem lawD_c (ap : Option Addr) (n c : Nat) (xs : List Int) (m : Md) (code : Int) (w : World) (h : By w ap n c xs) (hn : n ≤ 1048576)
    (hI : ∀ p c' w1, Below w.heap.size w w1 → By w1 p n c' xs → Calls Tryz.prog 6 #[.slice p n c'] w1 fun e w' => AnsI m code w1 w' e)
    (hS : ∀ p c' w1, Below w.heap.size w w1 → By w1 p n c' xs → Calls Tryz.prog 4 #[.slice p n c'] w1 fun e w' => AnsS m code w1 w' e) :
    Calls Tryz.prog 3 #[.slice ap n c] w fun e w' => e = .returned (.bool true) ∧ Below w.heap.size w w' := by
  have HY := Hid.mkD h
  have HI := Hid.mkD hI
  have HS := Hid.mkD hS
  have hd : decide ((1048576 : Int) < (n : Int)) = false := decide_eq_false (by omega)
  clear h hI hS
  go_enter Tryz.func3, Tryz.ntmps3
  go_wp2_with fail
  refine (toByteR ap n c xs _ HY.out hn).mono ?_
  rintro e w1 ⟨rfl, hy1, hb1, _⟩
  have HB1 : Hid (Below w.heap.size w w1) := hb1
  have HY1 : Hid (By w1 (some ⟨w.heap.size, 0, none⟩) n n xs) := hy1
  clear hy1 hb1
  go_wp2_with fail
  refine (HS.out _ n _ HB1.out HY1.out).mono ?_
  rintro e w2 ⟨sp, sn, sc, sq, sk, sd, rfl, hm2, hb2⟩
  have HB2 : Hid (Below w.heap.size w w2) := HB1.out.trans (hb2.mono HB1.out.size)
  have HM2 : Hid (Mo w2 sp sn sc sq sk sd m) := hm2
  clear hm2 hb2
  go_wp2_with fail
  obtain ⟨W, hW⟩ : ∃ W, W = w2.alloc (.cells #[.slice sp sn sc, .int .i64 m.globals, .slice sq sk sd] 26) := ⟨_, rfl⟩
  have HXS : Hid (B3 W w2.heap.size (.slice sp sn sc) (.int .i64 m.globals) (.slice sq sk sd)) := by unfold Hid; rw [hW]; exact B3.new w2 _ _ _ _
  have HB2W : Hid (Below w2.heap.size w2 W) := by unfold Hid; rw [hW]; exact below1 _ _
  have HBW : Hid (Below w.heap.size w W) := HB2.out.trans (HB2W.out.mono HB2.out.size)
  have HMW : Hid (Mo W sp sn sc sq sk sd m) := HM2.out.below HB2W.out
  rw [← hW]
  clear hW HM2 HB2W
  refine (toByteR ap n c xs _ (HY.out.below HBW.out) hn).mono ?_
  rintro e w3 ⟨rfl, hy3, hb3, hr3⟩
  have HY3 : Hid (By w3 (some ⟨W.heap.size, 0, none⟩) n n xs) := hy3
  have HR3 : Hid (IsR w3 W.heap.size 5 n) := hr3
  have HB3 : Hid (Below w.heap.size w w3) := HBW.out.trans (hb3.mono HBW.out.size)
  have HXS3 : Hid (B3 w3 w2.heap.size (.slice sp sn sc) (.int .i64 m.globals) (.slice sq sk sd)) := HXS.out.below hb3
  have HMS3 : Hid (Mo w3 sp sn sc sq sk sd m) := HMW.out.below hb3
  have hlt3 : W.heap.size < w3.heap.size := hr3.lt
  have HBW3 : Hid (Below W.heap.size W w3) := hb3
  clear hy3 hr3 hb3
  go_wp2_with fail
  refine (HI.out _ n _ HB3.out HY3.out).mono ?_
  rintro e w4 ⟨gp, gn, gc, gq, gk, gd, rfl, hm4, gn1, gk1, hws, hwf, hb4, hcl⟩
  have HB34 : Hid (Below w3.heap.size w3 w4) := hb4
  have HB4 : Hid (Below w.heap.size w w4) := HB3.out.trans (hb4.mono HB3.out.size)
  have HM4 : Hid (Mo w4 gp gn gc gq gk gd m) := hm4
  have HMS4 : Hid (Mo w4 sp sn sc sq sk sd m) := HMS3.out.below hb4
  have HXS4 : Hid (B3 w4 w2.heap.size (.slice sp sn sc) (.int .i64 m.globals) (.slice sq sk sd)) := HXS3.out.below hb4
  have HWS : Hid (WSp w4 gp gn w3.heap.size w4.heap.size) := hws
  have HWF : Hid (WFp w4 gq gk w3.heap.size w4.heap.size) := hwf
  have HCL : Hid (∀ b w'', b < w3.heap.size → Sr b w4 w'' → Mo w'' gp gn gc gq gk gd m) := hcl
  obtain rfl : gn = sn := by rw [← hm4.cs.len, ← HMS4.out.cs.len]
  obtain rfl : gk = sk := by rw [← hm4.fs.len, ← HMS4.out.fs.len]
  clear hm4 hws hwf hb4 hcl HXS3 HMS3
  have HXSV : Hid (B3 (w4.alloc (.cells #[.slice gp gn gc, .int .i64 m.globals, .slice gq gk gd] 26)) w2.heap.size (.slice sp gn sc) (.int .i64 m.globals) (.slice sq gk sd)) := HXS4.out.below (below1 _ _)
  have HXGV : Hid (B3 (w4.alloc (.cells #[.slice gp gn gc, .int .i64 m.globals, .slice gq gk gd] 26)) w4.heap.size (.slice gp gn gc) (.int .i64 m.globals) (.slice gq gk gd)) := B3.new w4 _ _ _ _
  have s0 := HXSV.out.c0
  have s1 := HXSV.out.c1
  have s2 := HXSV.out.c2
  have g0 := HXGV.out.c0
  have g1 := HXGV.out.c1
  have g2 := HXGV.out.c2
  go_wp2_with fail
  obtain ⟨V, hV⟩ : ∃ V, V = w4.alloc (.cells #[.slice gp gn gc, .int .i64 m.globals, .slice gq gk gd] 26) := ⟨_, rfl⟩
  have HB4V : Hid (Below w4.heap.size w4 V) := by unfold Hid; rw [hV]; exact below1 _ _
  have HXS5 : Hid (B3 V w2.heap.size (.slice sp gn sc) (.int .i64 m.globals) (.slice sq gk sd)) := by unfold Hid; rw [hV]; exact HXSV.out
  have HXG5 : Hid (B3 V w4.heap.size (.slice gp gn gc) (.int .i64 m.globals) (.slice gq gk gd)) := by unfold Hid; rw [hV]; exact HXGV.out
  rw [← hV]
  clear s0 s1 s2 g0 g1 g2 hV HXSV HXGV
  refine (eqModule_c _ _ gn gc sc _ _ gk gd sd m _ (HM4.out.below HB4V.out) (HMS4.out.below HB4V.out)).mono ?_
  rintro e w5 ⟨rfl, hb5⟩
  have HB45 : Hid (Below w4.heap.size w4 w5) := HB4V.out.trans (hb5.mono HB4V.out.size)
  have HXS6 : Hid (B3 w5 w2.heap.size (.slice sp gn sc) (.int .i64 m.globals) (.slice sq gk sd)) := HXS5.out.below hb5
  have HXG6 : Hid (B3 w5 w4.heap.size (.slice gp gn gc) (.int .i64 m.globals) (.slice gq gk gd)) := HXG5.out.below hb5
  have HB5 : Hid (Below w.heap.size w w5) := HB4.out.trans (HB45.out.mono HB4.out.size)
  have hcc : (code != code) = false := by simp
  clear hb5 HXS5 HXG5
  go_wp2_with fail
  refine (toByteR ap n c xs _ (HY.out.below HB5.out) hn).mono ?_
  rintro e w6 ⟨rfl, hy6, hb6, _⟩
  have HY6 : Hid (By w6 (some ⟨w5.heap.size, 0, none⟩) n n xs) := hy6
  have HB46 : Hid (Below w4.heap.size w4 w6) := HB45.out.trans (hb6.mono HB45.out.size)
  have HB36 : Hid (Below w3.heap.size w3 w6) := HB34.out.trans (HB46.out.mono HB34.out.size)
  have HXG7 : Hid (B3 w6 w4.heap.size (.slice gp gn gc) (.int .i64 m.globals) (.slice gq gk gd)) := HXG6.out.below hb6
  clear hy6 hb6 HXG6 HXS6
  go_wp2_with fail
  refine (eqByte32 _ _ n n n xs _ (HY3.out.below HB36.out) HY6.out).mono ?_
  rintro e w7 ⟨rfl, q7, hw7⟩
  have HB67 : Hid (Below w6.heap.size w6 w7) := by rw [hw7]; exact below_drewN' (Below.refl _ _) q7
  have HB47 : Hid (Below w4.heap.size w4 w7) := HB46.out.trans (HB67.out.mono HB46.out.size)
  have HB37 : Hid (Below w3.heap.size w3 w7) := HB36.out.trans (HB67.out.mono HB36.out.size)
  have HXG8 : Hid (B3 w7 w4.heap.size (.slice gp gn gc) (.int .i64 m.globals) (.slice gq gk gd)) := HXG7.out.below HB67.out
  have HR7 : Hid (IsR w7 W.heap.size 5 n) := HR3.out.below HB37.out
  clear hw7 HXG7 HB67
  go_wp2_with fail
  obtain ⟨f7, hf7⟩ := HR7.out
  refine (mark11 W.heap.size n n n f7 1 _ hf7 (Nat.le_refl _) (by omega) (by omega) (by omega)).mono ?_
  rintro e w8 ⟨rfl, hr8, hw8⟩
  have h34 := HB34.out.size
  have h47 := HB47.out.size
  have h78 : w8.heap.size = w7.heap.size := hw8.size
  have HK8 : Hid (Keep w7 w8) := Keep.only hw8 ⟨_, hf7⟩ ⟨_, hr8⟩
  have HO8 : Hid (∀ x e m, IsR w7 x e m → e ≠ 5 → w8.heap[x]? = w7.heap[x]?) := fun x e m' hx hne => hw8.block x (by
    by_cases hh : x = W.heap.size
    · subst hh
      obtain ⟨hh, _⟩ := hx.one ⟨_, hf7⟩
      exact absurd hh hne
    · omega)
  have HXG9 : Hid (B3 w8 w4.heap.size (.slice gp gn gc) (.int .i64 m.globals) (.slice gq gk gd)) := HXG8.out.of_block (hw8.block _ (by omega)) (by omega)
  have HS48 : Hid (Sr W.heap.size w4 w8) := (Sr.of_below HB47.out).trans ⟨by omega, hw8.os, hw8.tape, hw8.output, fun k _ hk => hw8.block k (by omega)⟩
  have HM8 : Hid (Mo w8 gp gn gc gq gk gd m) := HCL.out _ _ hlt3 HS48.out
  have HBW8 : Hid (Below W.heap.size W w8) := (HBW3.out.trans (HB37.out.mono HBW3.out.size)).trans (hw8.below (Nat.le_refl _))
  have HWS8 : Hid (WSp w8 gp gn w3.heap.size w4.heap.size) := (HWS.out.below HB47.out).keep HK8.out HO8.out
  have HWF8 : Hid (WFp w8 gq gk w3.heap.size w4.heap.size) := (HWF.out.keep (keep_below HB47.out) (fun x _ hx => HB47.out.block x hx.lt)).keep HK8.out (fun x m' hx => HO8.out x _ m' hx (by decide))
  have HXS8 : Hid (B3 w8 w2.heap.size (.slice sp gn sc) (.int .i64 m.globals) (.slice sq gk sd)) := HXS.out.below HBW8.out
  have HMS8 : Hid (Mo w8 sp gn sc sq gk sd m) := HMW.out.below HBW8.out
  have HB8 : Hid (Below w.heap.size w w8) := HBW.out.trans (HBW8.out.mono HBW.out.size)
  clear hf7 hr8 hw8 HXG8
  have hkd : decide ((1 : Int) + (n : Int) < 0) = false := by simp; omega
  have s0 := HXS8.out.c0
  have s1 := HXS8.out.c1
  have s2 := HXS8.out.c2
  have g0 := HXG9.out.c0
  have g1 := HXG9.out.c1
  have g2 := HXG9.out.c2
  go_wp2_with fail
  refine (eqModule_c _ _ gn gc sc _ _ gk gd sd m _ HM8.out HMS8.out).mono ?_
  rintro e w9 ⟨rfl, hb9⟩
  clear s0 s1 s2 g0 g1 g2
  have HB89 : Hid (Below w8.heap.size w8 w9) := hb9
  have HXGA : Hid (B3 w9 w4.heap.size (.slice gp gn gc) (.int .i64 m.globals) (.slice gq gk gd)) := HXG9.out.below hb9
  have HBW9 : Hid (Below W.heap.size W w9) := HBW8.out.trans (hb9.mono HBW8.out.size)
  have HWS9 : Hid (WSp w9 gp gn w3.heap.size w4.heap.size) := HWS8.out.below hb9
  have HWF9 : Hid (WFp w9 gq gk w3.heap.size w4.heap.size) := HWF8.out.keep (keep_below hb9) (fun x _ hx => hb9.block x hx.lt)
  have h89 := hb9.size
  clear hb9 HXG9
  have g0 := HXGA.out.c0
  have g1 := HXGA.out.c1
  have g2 := HXGA.out.c2
  go_wp2_with fail
  refine (markModule_m gp gq gn gc gk gd w3.heap.size w4.heap.size m.globals _ HWS9.out HWF9.out gn1 gk1 (by omega)).mono ?_
  rintro e wA ⟨bz, z, rfl, hz0, hz1, hhs, hhf, wm, hbm, hwA⟩
  have HHS : Hid (HSp wA gp gn 1 bz) := hhs
  have HHF : Hid (HFp wA gq gk bz z) := hhf
  have h3W := HBW3.out.size
  have HBWA : Hid (Below W.heap.size W wA) := (HBW9.out.trans (hbm.mono HBW9.out.size)).trans (hwA.below h3W)
  have HXGB : Hid (B3 wA w4.heap.size (.slice gp gn gc) (.int .i64 m.globals) (.slice gq gk gd)) := (HXGA.out.below hbm).of_block (hwA.block _ (by omega)) (by rw [hwA.size]; exact Nat.le_refl _)
  clear g0 g1 g2 HXGA hhs hhf hbm hwA
  have g0 := HXGB.out.c0
  have g1 := HXGB.out.c1
  have g2 := HXGB.out.c2
  go_wp2_with fail
  refine (heldModule_v gp gq gn gc gk gd m.globals 1 bz z _ HHS.out HHF.out gn1 gk1 hz0 hz1).mono ?_
  rintro e wB ⟨rfl, hbB⟩
  have HBWB : Hid (Below W.heap.size W wB) := HBWA.out.trans (hbB.mono HBWA.out.size)
  have HBB : Hid (Below w.heap.size w wB) := HBW.out.trans (HBWB.out.mono HBW.out.size)
  clear g0 g1 g2 hbB
  have hzd : decide (z < 0) = false := by simp; omega
  have hzz : (z != z) = false := by simp
  go_wp2_with fail
  refine (toByteR ap n c xs _ (HY.out.below HBB.out) hn).mono ?_
  rintro e wC ⟨rfl, hyC, hbC, _⟩
  have HYC : Hid (By wC (some ⟨wB.heap.size, 0, none⟩) n n xs) := hyC
  have HBWC : Hid (Below W.heap.size W wC) := HBWB.out.trans (hbC.mono HBWB.out.size)
  have HBC : Hid (Below w.heap.size w wC) := HBW.out.trans (HBWC.out.mono HBW.out.size)
  clear hyC hbC
  go_wp2_with fail
  refine (HI.out _ n _ HBC.out HYC.out).mono ?_
  rintro e wD ⟨hp, hn', hc', hq, hk', hd', rfl, hmD, _, _, _, _, hbD, _⟩
  have HBWD : Hid (Below W.heap.size W wD) := HBWC.out.trans (hbD.mono HBWC.out.size)
  have HBD : Hid (Below w.heap.size w wD) := HBW.out.trans (HBWD.out.mono HBW.out.size)
  have HMD : Hid (Mo wD hp hn' hc' hq hk' hd' m) := hmD
  have HMSD : Hid (Mo wD sp gn sc sq gk sd m) := HMW.out.below HBWD.out
  obtain rfl : gn = hn' := by rw [← hmD.cs.len, ← HMSD.out.cs.len]
  obtain rfl : gk = hk' := by rw [← hmD.fs.len, ← HMSD.out.fs.len]
  have HXSD : Hid (B3 wD w2.heap.size (.slice sp gn sc) (.int .i64 m.globals) (.slice sq gk sd)) := HXS.out.below HBWD.out
  clear hmD hbD
  have HXSE : Hid (B3 (wD.alloc (.cells #[.slice hp gn hc', .int .i64 m.globals, .slice hq gk hd'] 26)) w2.heap.size (.slice sp gn sc) (.int .i64 m.globals) (.slice sq gk sd)) := HXSD.out.below (below1 _ _)
  have HXHE : Hid (B3 (wD.alloc (.cells #[.slice hp gn hc', .int .i64 m.globals, .slice hq gk hd'] 26)) wD.heap.size (.slice hp gn hc') (.int .i64 m.globals) (.slice hq gk hd')) := B3.new wD _ _ _ _
  have s0 := HXSE.out.c0
  have s1 := HXSE.out.c1
  have s2 := HXSE.out.c2
  have g0 := HXHE.out.c0
  have g1 := HXHE.out.c1
  have g2 := HXHE.out.c2
  go_wp2_with fail
  refine (eqModule_c _ _ gn hc' sc _ _ gk hd' sd m _ (HMD.out.below (below1 _ _)) (HMSD.out.below (below1 _ _))).mono ?_
  rintro e wE ⟨rfl, hbE⟩
  have HBE : Hid (Below w.heap.size w wE) := HBD.out.trans ((below_alloc hbE).mono HBD.out.size)
  clear hbE s0 s1 s2 g0 g1 g2
  go_wp2
  go_ret
  exact ⟨rfl, HBE.out⟩
end Go.Proofs.YtkkmoaidbmnolaaGreatDoor
