import Derived.Test.YtbcanodijcglpaaDoorX3
namespace Go.Proofs.YtbcanodijcglpaaDoor
open Go.RowKit Ch1
theorem skip_place {k i : Nat} {ds r : List Dt} (h : skip k (ds.drop i) = some r) (hi : i ≤ ds.length) : ∃ m, 1 ≤ m ∧ i + m ≤ ds.length ∧ r = ds.drop (i + m) ∧ opn m (ds.drop i) = -1 ∧ (∀ t, t < m → 0 ≤ opn t (ds.drop i) ∧ 0 ≤ ((ds.drop i).getD t dt0).count) := by
  obtain ⟨m, h1, h2, h3, h4, h5⟩ := dyck k _ _ h
  rw [List.length_drop] at h2
  exact ⟨m, h1, by omega, by rw [h3, List.drop_drop], h4, h5⟩
theorem skipN_le {f : List Dt → Option (List Dt)} {c j : Nat} {l r : List Dt} (h : skipN f c l = some r) (hj : j ≤ c) : ∃ q, skipN f j l = some q := by
  cases e : skipN f j l with
  | some q => exact ⟨q, rfl⟩
  | none =>
    have := skipN_none_mono f j (c - j) l e
    rw [show j + (c - j) = c by omega, h] at this; cases this
theorem getD_app_lt (ks : List Nat) (k j : Nat) (h : j < ks.length) : (ks ++ [k]).getD j 0 = ks.getD j 0 := by simp [List.getD, List.getElem?_append_left h]
theorem getD_app_eq (ks : List Nat) (k j : Nat) (h : j = ks.length) : (ks ++ [k]).getD j 0 = k := by subst h; simp [List.getD]
/-- What l1kids answers. -/
def Kids (k n i cnt : Nat) (ds : List Dt) (w w' : World) (e : Ending) : Prop := ∃ v ks, e = .returned v ∧ OwI w' w.heap.size v ks ∧ ks.length = cnt ∧ (∀ j, j < ks.length → ks.getD j 0 ≤ n ∧ skipN (skip k) j (ds.drop (i + 1)) = some (ds.drop (ks.getD j 0))) ∧ Below w.heap.size w w'
/-- What l1forms answers. -/
def Forms (n : Nat) (ds : List Dt) (w w' : World) (e : Ending) : Prop := ∃ v fs, e = .returned v ∧ OwI w' w.heap.size v fs ∧ rowT ds = fs.flatMap (fun p => txt 100 (ds.drop p) ++ [10]) ∧ (∀ j, j < fs.length → fs.getD j 0 ≤ n ∧ ∃ r, skip 100 (ds.drop (fs.getD j 0)) = some r) ∧ fs.length ≤ n ∧ Below w.heap.size w w'
set_option maxHeartbeats 1000000 in
theorem forms15 (p : Option Addr) (n c : Nat) (ds : List Dt) (w : World) (hD : Da w p n c ds) (hn : n ≤ 3000) (hrow : rowOf ds = true) :
    Calls Tryd.prog 31 #[.slice p n c] w fun e w' => Forms n ds w w' e := by
  have HD : Hid (Da w p n c ds) := hD
  have hlen : Hid (ds.length = n) := hD.len
  have HR : Hid (rowOf ds = true) := hrow
  clear hD hrow
  go_enter Tryd.func31, Tryd.ntmps31
  go_wp2
  go_loopw [3, 4] (fun v at_ wr => ∃ (a : Nat) (fs : List Nat), a ≤ n ∧ at_ = .int .i64 a ∧ fs.length ≤ a ∧ Hid (rowOf (ds.drop a) = true) ∧ Hid (OwI wr w.heap.size v fs) ∧ Hid (rowT ds = fs.flatMap (fun p => txt 100 (ds.drop p) ++ [10]) ++ rowT (ds.drop a)) ∧ Hid (∀ j, j < fs.length → fs.getD j 0 ≤ n ∧ ∃ r, skip 100 (ds.drop (fs.getD j 0)) = some r) ∧ Hid (Below w.heap.size w wr)) (fun _ at_ _ => n - (intOf at_).toNat)
  case atStart => exact ⟨0, [], Nat.zero_le _, rfl, Nat.le_refl _, HR, OwI.nil _ _, rfl, fun t ht => absurd ht (Nat.not_lt_zero t), Below.refl _ _⟩
  case round =>
    obtain ⟨a, fs, ha, rfl, hfl, hro, hO, hrt, hks, hb⟩ := hrel
    by_cases hlt : a < n
    · obtain ⟨q, hq, hq2⟩ := rowOf_next _ hro.out (fun e => by have := congrArg List.length e; rw [List.length_drop, hlen.out] at this; simp at this; omega)
      obtain ⟨m, hm1, hm2, rfl, hop, hjj⟩ := skip_place hq (by rw [hlen.out]; exact ha)
      rw [hlen.out] at hm2
      have HT : Hid (rowT ds = (fs ++ [a]).flatMap (fun p => txt 100 (ds.drop p) ++ [10]) ++ rowT (ds.drop (a + m))) := by
        unfold Hid; rw [hrt.out, rowT_some _ _ hq]; simp
      have HQ : Hid (skip 100 (ds.drop a) = some (ds.drop (a + m))) := hq
      have HQ2 : Hid (rowOf (ds.drop (a + m)) = true) := hq2
      have HOP : Hid (opn m (ds.drop a) = -1 ∧ ∀ t, t < m → 0 ≤ opn t (ds.drop a) ∧ 0 ≤ ((ds.drop a).getD t dt0).count) := ⟨hop, hjj⟩
      have hsz := hb.out.size
      clear hq hq2 hop hjj
      go_wp2_with (first | (at_builtin; refine appI_law _ rfl (.tmp 12) (.tmp 14) rfl w.heap.size _ fs a (by simp [Act.eval]) hO.out (by simp [Act.eval]) (by omega) hsz ?_; intro v' w1 ho hg; have HO1 : Hid (OwI w1 w.heap.size v' (fs ++ [a])) := ho; have HB1 : Hid (Below w.heap.size w w1) := hb.out.trans hg; clear ho hg) | (go_at_call 52; refine (next23 _ n c a m ds _ (by exact HD.out.below HB1.out) hn hm1 hm2 HOP.out.1 HOP.out.2).mono ?_; rintro e w2 ⟨rfl, hw2⟩; have hw3 := hw2.symm; clear hw2; subst hw3))
      refine ⟨⟨a + m, fs ++ [a], hm2, by go_num, by simp; omega, HQ2, HO1, HT, fun t ht => ?_, HB1⟩, by simp [intOf]; omega⟩
      by_cases e : t < fs.length
      · rw [getD_app_lt _ _ _ e]; exact hks.out t e
      · rw [getD_app_eq _ _ _ (by simp at ht; omega)]; exact ⟨ha, _, HQ.out⟩
    · obtain rfl : a = n := by omega
      go_wp2
      go_ret
      refine ⟨_, fs, rfl, hO.out, ?_, hks.out, hfl, hb.out⟩
      rw [hrt.out, List.drop_eq_nil_of_le (by rw [hlen.out]; exact Nat.le_refl _), rowT_nil, List.append_nil]
end Go.Proofs.YtbcanodijcglpaaDoor
