import Derived.Test.YtbcanodijcglpaaDoorM6
import Derived.Test.YtbcanodijcglpaaDoorX4
import Derived.Test.YtbcanodijcglpaaDoorWd
import Derived.Test.YtbcanodijcglpaaDoorWb
namespace Go.Proofs.YtbcanodijcglpaaDoor
open Go.RowKit Ch1
/-- Just one datum. -/
def oneB (ds : List Dt) : Bool := match skip 100 ds with
  | some [] => true
  | _ => false
theorem oneB_iff (ds : List Dt) : oneB ds = true ↔ skip 100 ds = some [] := by
  unfold oneB
  rcases h : skip 100 ds with _ | r
  · simp
  · cases r <;> simp
theorem oneB_row {ds : List Dt} (h : oneB ds = true) : rowOf ds = true := by
  rw [rowOf_some ds [] ((oneB_iff ds).1 h)]; rfl
/-- How many data were come to. -/
def Told (ds : List Dt) (a k : Nat) : Prop := (a = 0 ∧ k = 0) ∨ (k = 1 ∧ skip 100 ds = some (ds.drop a)) ∨ (2 ≤ k ∧ ∃ r, r ≠ [] ∧ skip 100 ds = some r)
set_option maxHeartbeats 1000000 in
theorem formsN (p : Option Addr) (n c : Nat) (ds : List Dt) (w : World) (hD : Da w p n c ds) (hn : n ≤ 3000) (hrow : rowOf ds = true) :
    Calls Tryd.prog 31 #[.slice p n c] w fun e w' => ∃ q k d, e = .returned (.slice q k d) ∧ k ≤ 3000 ∧ (k = 1 ↔ oneB ds = true) ∧ Below w.heap.size w w' := by
  have HD : Hid (Da w p n c ds) := hD
  have hlen : Hid (ds.length = n) := hD.len
  have HR : Hid (rowOf ds = true) := hrow
  clear hD hrow
  go_enter Tryd.func31, Tryd.ntmps31
  go_wp2
  go_loopw [3, 4] (fun v at_ wr => ∃ (a : Nat) (fs : List Nat), a ≤ n ∧ at_ = .int .i64 a ∧ fs.length ≤ a ∧ Hid (rowOf (ds.drop a) = true) ∧ Hid (OwI wr w.heap.size v fs) ∧ Hid (Told ds a fs.length) ∧ Hid (Below w.heap.size w wr)) (fun _ at_ _ => n - (intOf at_).toNat)
  case atStart => exact ⟨0, [], Nat.zero_le _, rfl, Nat.le_refl _, HR, OwI.nil _ _, Or.inl ⟨rfl, rfl⟩, Below.refl _ _⟩
  case round =>
    obtain ⟨a, fs, ha, rfl, hfl, hro, hO, htd, hb⟩ := hrel
    by_cases hlt : a < n
    · obtain ⟨q, hq, hq2⟩ := rowOf_next _ hro.out (fun e => by have := congrArg List.length e; rw [List.length_drop, hlen.out] at this; simp at this; omega)
      obtain ⟨m, hm1, hm2, rfl, hop, hjj⟩ := skip_place hq (by rw [hlen.out]; exact ha)
      rw [hlen.out] at hm2
      have HT : Hid (Told ds (a + m) (fs ++ [a]).length) := by
        have hdn : ds.drop a ≠ [] := fun e => by have := congrArg List.length e; rw [List.length_drop, hlen.out] at this; simp at this; omega
        unfold Hid
        rw [List.length_append, List.length_singleton]
        rcases htd.out with ⟨h1, h2⟩ | ⟨h1, h2⟩ | ⟨h1, h2⟩
        · subst h1
          exact Or.inr (Or.inl ⟨by omega, by simpa using hq⟩)
        · exact Or.inr (Or.inr ⟨by omega, _, hdn, h2⟩)
        · exact Or.inr (Or.inr ⟨by omega, h2⟩)
      have HQ2 : Hid (rowOf (ds.drop (a + m)) = true) := hq2
      have HOP : Hid (opn m (ds.drop a) = -1 ∧ ∀ t, t < m → 0 ≤ opn t (ds.drop a) ∧ 0 ≤ ((ds.drop a).getD t dt0).count) := ⟨hop, hjj⟩
      have hsz := hb.out.size
      clear hq hq2 hop hjj
      go_wp2_with (first | (at_builtin; refine appI_law _ rfl (.tmp 12) (.tmp 14) rfl w.heap.size _ fs a (by simp [Act.eval]) hO.out (by simp [Act.eval]) (by omega) hsz ?_; intro v' w1 ho hg; have HO1 : Hid (OwI w1 w.heap.size v' (fs ++ [a])) := ho; have HB1 : Hid (Below w.heap.size w w1) := hb.out.trans hg; clear ho hg) | (go_at_call 52; refine (next23 _ n c a m ds _ (by exact HD.out.below HB1.out) hn hm1 hm2 HOP.out.1 HOP.out.2).mono ?_; rintro e w2 ⟨rfl, hw2⟩; have hw3 := hw2.symm; clear hw2; subst hw3))
      exact ⟨⟨a + m, fs ++ [a], hm2, by go_num, by simp; omega, HQ2, HO1, HT, HB1⟩, by simp [intOf]; omega⟩
    · obtain rfl : a = n := by omega
      obtain ⟨fp, fc, hv, _, _, _⟩ := hO.out.form
      subst hv
      go_wp2
      go_ret
      refine ⟨_, _, _, rfl, by omega, ?_, hb.out⟩
      rw [oneB_iff]
      have hdn : ds.drop a = [] := List.drop_eq_nil_of_le (by rw [hlen.out]; exact Nat.le_refl _)
      rcases htd.out with ⟨h1, h2⟩ | ⟨h1, h2⟩ | ⟨h1, r, h2, h3⟩
      · have hnil : ds = [] := List.eq_nil_of_length_eq_zero (by rw [hlen.out]; exact h1)
        rw [hnil, skip_nil]
        constructor
        · intro h; omega
        · intro h; cases h
      · rw [hdn] at h2
        exact ⟨fun _ => h2, fun _ => h1⟩
      · constructor
        · intro h; omega
        · intro h; rw [h3] at h; cases h; exact absurd rfl h2
set_option maxHeartbeats 1000000 in
theorem oneDatum_c (p : Option Addr) (n c : Nat) (ds : List Dt) (w : World) (hD : Da w p n c ds) :
    Calls Tryd.prog 57 #[.slice p n c] w fun e w' => e = .returned (.bool (oneB ds)) ∧ Below w.heap.size w w' := by
  have HD : Hid (Da w p n c ds) := hD
  clear hD
  go_enter Tryd.func57, Tryd.ntmps57
  go_wp2_with fail
  refine (behind18 100 0 (by omega) (by omega) p n c ds _ HD.out).mono ?_
  rintro e w1 ⟨ho, hb1⟩
  have HB1 : Hid (Below w.heap.size w w1) := hb1
  clear hb1
  rcases hs : skip 100 ds with _ | r
  · rw [hs] at ho
    obtain rfl := ho
    have HO : Hid (oneB ds = false) := by unfold Hid oneB; rw [hs]
    clear hs
    go_wp2
    go_ret
    exact ⟨ret_bool HO.out.symm, HB1.out⟩
  · rw [hs] at ho
    obtain ⟨q, k, d, rfl, hda⟩ := ho
    have hl := hda.len
    have hbig := small_of hda.cap hda.big
    by_cases h0 : k = 0
    · have HO : Hid (oneB ds = true) := by
        obtain rfl : r = [] := List.eq_nil_of_length_eq_zero (by omega)
        unfold Hid oneB; rw [hs]
      subst h0
      clear hs hda hl
      go_wp2
      go_ret
      exact ⟨ret_bool HO.out.symm, HB1.out⟩
    · have HO : Hid (oneB ds = false) := by
        cases r with
        | nil => simp at hl; omega
        | cons a t => unfold Hid oneB; rw [hs]
      have hk : ((k : Int) == 0) = false := by simp; omega
      clear hs hda hl
      go_wp2
      go_ret
      exact ⟨ret_bool HO.out.symm, HB1.out⟩
end Go.Proofs.YtbcanodijcglpaaDoor
