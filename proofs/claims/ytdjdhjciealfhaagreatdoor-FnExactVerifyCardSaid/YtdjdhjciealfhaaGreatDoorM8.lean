import Derived.Test.YtdjdhjciealfhaaGreatDoorX3
import Derived.Test.YtdjdhjciealfhaaGreatDoorWb
import Derived.Test.YtdjdhjciealfhaaGreatDoorU0
namespace Go.Proofs.YtdjdhjciealfhaaGreatDoor
open Go.RowKit Ch1
theorem skip_place {k i : Nat} {ds r : List Dt} (h : skip k (ds.drop i) = some r) (hi : i ≤ ds.length) : ∃ m, 1 ≤ m ∧ i + m ≤ ds.length ∧ r = ds.drop (i + m) ∧ opn m (ds.drop i) = -1 ∧ (∀ t, t < m → 0 ≤ opn t (ds.drop i) ∧ 0 ≤ ((ds.drop i).getD t dt0).count) := by
  obtain ⟨m, h1, h2, h3, h4, h5⟩ := dyck k _ _ h
  rw [List.length_drop] at h2
  exact ⟨m, h1, by omega, by rw [h3, List.drop_drop], h4, h5⟩
theorem skipN_le {f : List Dt → Option (List Dt)} {c j : Nat} {l r : List Dt} (h : skipN f c l = some r) (hj : j ≤ c) : ∃ q, skipN f j l = some q := by
  cases e : skipN f j l with
  | some q => exact ⟨q, rfl⟩
  | none =>
    have := skipN_none_mono f j (c - j) l e
    rw [show j + (c - j) = c by omega, h] at this; cases this
theorem getD_app_lt (ks : List Nat) (k j : Nat) (h : j < ks.length) : (ks ++ [k]).getD j 0 = ks.getD j 0 := by simp [List.getD, List.getElem?_append_left h]
theorem getD_app_eq (ks : List Nat) (k j : Nat) (h : j = ks.length) : (ks ++ [k]).getD j 0 = k := by subst h; simp [List.getD]
/-- What l1kids answers. -/
def Kids (k n i cnt : Nat) (ds : List Dt) (w w' : World) (e : Ending) : Prop := ∃ v ks, e = .returned v ∧ OwI w' w.heap.size v ks ∧ ks.length = cnt ∧ (∀ j, j < ks.length → ks.getD j 0 ≤ n ∧ skipN (skip k) j (ds.drop (i + 1)) = some (ds.drop (ks.getD j 0))) ∧ Below w.heap.size w w'
/-- What l1forms answers. -/
def Forms (n : Nat) (ds : List Dt) (w w' : World) (e : Ending) : Prop := ∃ v fs, e = .returned v ∧ OwI w' w.heap.size v fs ∧ rowT ds = fs.flatMap (fun p => txt 100 (ds.drop p) ++ [10]) ∧ (∀ j, j < fs.length → fs.getD j 0 ≤ n ∧ ∃ r, skip 100 (ds.drop (fs.getD j 0)) = some r) ∧ fs.length ≤ n ∧ Below w.heap.size w w'
set_option maxHeartbeats 1000000 in
theorem forms15 (p : Option Addr) (n c : Nat) (ds : List Dt) (w : World) (hD : Da w p n c ds) (hn : n ≤ 3000) (hrow : rowOf ds = true) :
    Calls Tryz.prog 32 #[.slice p n c] w fun e w' => Forms n ds w w' e := by
  have HD : Hid (Da w p n c ds) := hD
  have hlen : Hid (ds.length = n) := hD.len
  have HR : Hid (rowOf ds = true) := hrow
  clear hD hrow
  go_enter Tryz.func32, Tryz.ntmps32
  go_wp2
  go_loopw [3, 4] (fun v at_ wr => ∃ (a : Nat) (fs : List Nat), a ≤ n ∧ at_ = .int .i64 a ∧ fs.length ≤ a ∧ Hid (rowOf (ds.drop a) = true) ∧ Hid (OwI wr w.heap.size v fs) ∧ Hid (rowT ds = fs.flatMap (fun p => txt 100 (ds.drop p) ++ [10]) ++ rowT (ds.drop a)) ∧ Hid (∀ j, j < fs.length → fs.getD j 0 ≤ n ∧ ∃ r, skip 100 (ds.drop (fs.getD j 0)) = some r) ∧ Hid (Below w.heap.size w wr)) (fun _ at_ _ => n - (intOf at_).toNat)
  case atStart => exact ⟨0, [], Nat.zero_le _, rfl, Nat.le_refl _, HR, OwI.nil _ _, rfl, fun t ht => absurd ht (Nat.not_lt_zero t), Below.refl _ _⟩
  case round =>
    obtain ⟨a, fs, ha, rfl, hfl, hro, hO, hrt, hks, hb⟩ := hrel
    by_cases hlt : a < n
    · obtain ⟨q, hq, hq2⟩ := rowOf_next _ hro.out (fun e => by have := congrArg List.length e; rw [List.length_drop, hlen.out] at this; simp at this; omega)
      obtain ⟨m, hm1, hm2, rfl, hop, hjj⟩ := skip_place hq (by rw [hlen.out]; exact ha)
      rw [hlen.out] at hm2
      have HT : Hid (rowT ds = (fs ++ [a]).flatMap (fun p => txt 100 (ds.drop p) ++ [10]) ++ rowT (ds.drop (a + m))) := by
        unfold Hid; rw [hrt.out, rowT_some _ _ hq]; simp
      have HQ : Hid (skip 100 (ds.drop a) = some (ds.drop (a + m))) := hq
      have HQ2 : Hid (rowOf (ds.drop (a + m)) = true) := hq2
      have HOP : Hid (opn m (ds.drop a) = -1 ∧ ∀ t, t < m → 0 ≤ opn t (ds.drop a) ∧ 0 ≤ ((ds.drop a).getD t dt0).count) := ⟨hop, hjj⟩
      have hsz := hb.out.size
      clear hq hq2 hop hjj
      go_wp2_with (first | (at_builtin; refine appI_law _ rfl (.tmp 12) (.tmp 14) rfl w.heap.size _ fs a (by simp [Act.eval]) hO.out (by simp [Act.eval]) (by omega) hsz ?_; intro v' w1 ho hg; have HO1 : Hid (OwI w1 w.heap.size v' (fs ++ [a])) := ho; have HB1 : Hid (Below w.heap.size w w1) := hb.out.trans hg; clear ho hg) | (go_at_call 58; refine (next23 _ n c a m ds _ (by exact HD.out.below HB1.out) hn hm1 hm2 HOP.out.1 HOP.out.2).mono ?_; rintro e w2 ⟨rfl, hw2⟩; have hw3 := hw2.symm; clear hw2; subst hw3))
      refine ⟨⟨a + m, fs ++ [a], hm2, by go_num, by simp; omega, HQ2, HO1, HT, fun t ht => ?_, HB1⟩, by simp [intOf]; omega⟩
      by_cases e : t < fs.length
      · rw [getD_app_lt _ _ _ e]; exact hks.out t e
      · rw [getD_app_eq _ _ _ (by simp at ht; omega)]; exact ⟨ha, _, HQ.out⟩
    · obtain rfl : a = n := by omega
      go_wp2
      go_ret
      refine ⟨_, fs, rfl, hO.out, ?_, hks.out, hfl, hb.out⟩
      rw [hrt.out, List.drop_eq_nil_of_le (by rw [hlen.out]; exact Nat.le_refl _), rowT_nil, List.append_nil]
end Go.Proofs.YtdjdhjciealfhaaGreatDoor
namespace Go.Proofs.YtdjdhjciealfhaaGreatDoor
open Go.RowKit Ch1
/-- Just one datum. -/
def oneB (ds : List Dt) : Bool := match skip 100 ds with
  | some [] => true
  | _ => false
theorem oneB_iff (ds : List Dt) : oneB ds = true ↔ skip 100 ds = some [] := by
  unfold oneB
  rcases h : skip 100 ds with _ | r
  · simp
  · cases r <;> simp
theorem oneB_row {ds : List Dt} (h : oneB ds = true) : rowOf ds = true := by
  rw [rowOf_some ds [] ((oneB_iff ds).1 h)]; rfl
/-- How many data were come to. -/
def Told (ds : List Dt) (a k : Nat) : Prop := (a = 0 ∧ k = 0) ∨ (k = 1 ∧ skip 100 ds = some (ds.drop a)) ∨ (2 ≤ k ∧ ∃ r, r ≠ [] ∧ skip 100 ds = some r)
set_option maxHeartbeats 1000000 in
theorem formsN (p : Option Addr) (n c : Nat) (ds : List Dt) (w : World) (hD : Da w p n c ds) (hn : n ≤ 3000) (hrow : rowOf ds = true) :
    Calls Tryz.prog 32 #[.slice p n c] w fun e w' => ∃ q k d, e = .returned (.slice q k d) ∧ k ≤ 3000 ∧ (k = 1 ↔ oneB ds = true) ∧ Below w.heap.size w w' := by
  have HD : Hid (Da w p n c ds) := hD
  have hlen : Hid (ds.length = n) := hD.len
  have HR : Hid (rowOf ds = true) := hrow
  clear hD hrow
  go_enter Tryz.func32, Tryz.ntmps32
  go_wp2
  go_loopw [3, 4] (fun v at_ wr => ∃ (a : Nat) (fs : List Nat), a ≤ n ∧ at_ = .int .i64 a ∧ fs.length ≤ a ∧ Hid (rowOf (ds.drop a) = true) ∧ Hid (OwI wr w.heap.size v fs) ∧ Hid (Told ds a fs.length) ∧ Hid (Below w.heap.size w wr)) (fun _ at_ _ => n - (intOf at_).toNat)
  case atStart => exact ⟨0, [], Nat.zero_le _, rfl, Nat.le_refl _, HR, OwI.nil _ _, Or.inl ⟨rfl, rfl⟩, Below.refl _ _⟩
  case round =>
    obtain ⟨a, fs, ha, rfl, hfl, hro, hO, htd, hb⟩ := hrel
    by_cases hlt : a < n
    · obtain ⟨q, hq, hq2⟩ := rowOf_next _ hro.out (fun e => by have := congrArg List.length e; rw [List.length_drop, hlen.out] at this; simp at this; omega)
      obtain ⟨m, hm1, hm2, rfl, hop, hjj⟩ := skip_place hq (by rw [hlen.out]; exact ha)
      rw [hlen.out] at hm2
      have HT : Hid (Told ds (a + m) (fs ++ [a]).length) := by
        have hdn : ds.drop a ≠ [] := fun e => by have := congrArg List.length e; rw [List.length_drop, hlen.out] at this; simp at this; omega
        unfold Hid
        rw [List.length_append, List.length_singleton]
        rcases htd.out with ⟨h1, h2⟩ | ⟨h1, h2⟩ | ⟨h1, h2⟩
        · subst h1
          exact Or.inr (Or.inl ⟨by omega, by simpa using hq⟩)
        · exact Or.inr (Or.inr ⟨by omega, _, hdn, h2⟩)
        · exact Or.inr (Or.inr ⟨by omega, h2⟩)
      have HQ2 : Hid (rowOf (ds.drop (a + m)) = true) := hq2
      have HOP : Hid (opn m (ds.drop a) = -1 ∧ ∀ t, t < m → 0 ≤ opn t (ds.drop a) ∧ 0 ≤ ((ds.drop a).getD t dt0).count) := ⟨hop, hjj⟩
      have hsz := hb.out.size
      clear hq hq2 hop hjj
      go_wp2_with (first | (at_builtin; refine appI_law _ rfl (.tmp 12) (.tmp 14) rfl w.heap.size _ fs a (by simp [Act.eval]) hO.out (by simp [Act.eval]) (by omega) hsz ?_; intro v' w1 ho hg; have HO1 : Hid (OwI w1 w.heap.size v' (fs ++ [a])) := ho; have HB1 : Hid (Below w.heap.size w w1) := hb.out.trans hg; clear ho hg) | (go_at_call 58; refine (next23 _ n c a m ds _ (by exact HD.out.below HB1.out) hn hm1 hm2 HOP.out.1 HOP.out.2).mono ?_; rintro e w2 ⟨rfl, hw2⟩; have hw3 := hw2.symm; clear hw2; subst hw3))
      exact ⟨⟨a + m, fs ++ [a], hm2, by go_num, by simp; omega, HQ2, HO1, HT, HB1⟩, by simp [intOf]; omega⟩
    · obtain rfl : a = n := by omega
      obtain ⟨fp, fc, hv, _, _, _⟩ := hO.out.form
      subst hv
      go_wp2
      go_ret
      refine ⟨_, _, _, rfl, by omega, ?_, hb.out⟩
      rw [oneB_iff]
      have hdn : ds.drop a = [] := List.drop_eq_nil_of_le (by rw [hlen.out]; exact Nat.le_refl _)
      rcases htd.out with ⟨h1, h2⟩ | ⟨h1, h2⟩ | ⟨h1, r, h2, h3⟩
      · have hnil : ds = [] := List.eq_nil_of_length_eq_zero (by rw [hlen.out]; exact h1)
        rw [hnil, skip_nil]
        constructor
        · intro h; omega
        · intro h; cases h
      · rw [hdn] at h2
        exact ⟨fun _ => h2, fun _ => h1⟩
      · constructor
        · intro h; omega
        · intro h; rw [h3] at h; cases h; exact absurd rfl h2
set_option maxHeartbeats 1000000 in
theorem oneDatum_c (p : Option Addr) (n c : Nat) (ds : List Dt) (w : World) (hD : Da w p n c ds) :
    Calls Tryz.prog 67 #[.slice p n c] w fun e w' => e = .returned (.bool (oneB ds)) ∧ Below w.heap.size w w' := by
  have HD : Hid (Da w p n c ds) := hD
  clear hD
  go_enter Tryz.func67, Tryz.ntmps67
  go_wp2_with fail
  refine (behind18 100 0 (by omega) (by omega) p n c ds _ HD.out).mono ?_
  rintro e w1 ⟨ho, hb1⟩
  have HB1 : Hid (Below w.heap.size w w1) := hb1
  clear hb1
  rcases hs : skip 100 ds with _ | r
  · rw [hs] at ho
    obtain rfl := ho
    have HO : Hid (oneB ds = false) := by unfold Hid oneB; rw [hs]
    clear hs
    go_wp2
    go_ret
    exact ⟨ret_bool HO.out.symm, HB1.out⟩
  · rw [hs] at ho
    obtain ⟨q, k, d, rfl, hda⟩ := ho
    have hl := hda.len
    have hbig := small_of hda.cap hda.big
    by_cases h0 : k = 0
    · have HO : Hid (oneB ds = true) := by
        obtain rfl : r = [] := List.eq_nil_of_length_eq_zero (by omega)
        unfold Hid oneB; rw [hs]
      subst h0
      clear hs hda hl
      go_wp2
      go_ret
      exact ⟨ret_bool HO.out.symm, HB1.out⟩
    · have HO : Hid (oneB ds = false) := by
        cases r with
        | nil => simp at hl; omega
        | cons a t => unfold Hid oneB; rw [hs]
      have hk : ((k : Int) == 0) = false := by simp; omega
      clear hs hda hl
      go_wp2
      go_ret
      exact ⟨ret_bool HO.out.symm, HB1.out⟩
end Go.Proofs.YtdjdhjciealfhaaGreatDoor
namespace Go.Proofs.YtdjdhjciealfhaaGreatDoor
open Go.RowKit Ch1
/-- What A must be less than, by the instruction. -/
def bnd (m : Md) (f : Fn) (op : Int) : Int := if op = 0 then m.consts.length else if op = 1 then 200 else if op = 2 then f.free.length else if op = 3 then m.globals else if op = 4 then m.globals else if op = 5 then 2 else if op = 9 then 21 else if op = 10 then 21 else if op = 12 then f.code.length else if op = 13 then f.code.length else if op = 14 then 22 else if op = 15 then 201 else 1
/-- An instruction that a module's function may have. -/
def InsOk (m : Md) (f : Fn) (x : In) : Prop := 0 ≤ x.op ∧ x.op ≤ 17 ∧ ((x.op = 8 ∧ 1 ≤ x.a ∧ x.a < m.funcs.length ∧ x.b = (m.funcs.getD x.a.toNat fn0).free.length) ∨ (x.op ≠ 8 ∧ x.b = 0 ∧ 0 ≤ x.a ∧ x.a < bnd m f x.op))
theorem insOk_8 (m : Md) (f : Fn) (a b : Int) : InsOk m f ⟨8, a, b⟩ ↔ 1 ≤ a ∧ a < m.funcs.length ∧ b = (m.funcs.getD a.toNat fn0).free.length := by
  unfold InsOk
  constructor
  · rintro ⟨_, _, ⟨_, h⟩ | ⟨h, _⟩⟩
    · exact h
    · exact absurd rfl h
  · intro h
    exact ⟨by simp, by simp, Or.inl ⟨rfl, h⟩⟩
theorem insOk_n (m : Md) (f : Fn) (op a b N : Int) (h0 : 0 ≤ op) (h1 : op ≤ 17) (h8 : op ≠ 8) (hN : bnd m f op = N) : InsOk m f ⟨op, a, b⟩ ↔ b = 0 ∧ 0 ≤ a ∧ a < N := by
  unfold InsOk
  constructor
  · rintro ⟨_, _, ⟨h, _⟩ | ⟨_, h⟩⟩
    · exact absurd h h8
    · rw [← hN]; exact h
  · intro h
    exact ⟨h0, h1, Or.inr ⟨h8, by rw [hN]; exact h⟩⟩
theorem insOk_out (m : Md) (f : Fn) (x : In) (h : x.op < 0 ∨ 17 < x.op) : ¬ InsOk m f x := by
  rintro ⟨h0, h1, _⟩
  omega
/-! ### the model's -/
set_option maxHeartbeats 400000 in
theorem l3range_c (v n : Int) (w : World) : Calls Tryz.prog 59 #[.int .i64 v, .int .i64 n] w fun e w' => e = .returned (.bool (decide (0 ≤ v) && decide (v < n))) ∧ w' = w := by
  by_cases h : 0 ≤ v
  · have h1 : decide (0 ≤ v) = true := decide_eq_true h
    rw [h1]
    go_enter Tryz.func59, Tryz.ntmps59
    go_wp2
    go_ret
    exact ⟨by simp, rfl⟩
  · have h1 : decide (0 ≤ v) = false := decide_eq_false h
    rw [h1]
    go_enter Tryz.func59, Tryz.ntmps59
    go_wp2
    go_ret
    exact ⟨by simp, rfl⟩
set_option maxHeartbeats 1000000 in
theorem insOK_low (cp : Option Addr) (cn cc : Nat) (g : Int) (fp : Option Addr) (fn fc : Nat) (k : Int) (rp : Option Addr) (rl rc : Nat) (dp : Option Addr) (dl dc : Nat) (op a b : Int) (w : World) (h : op < 0) :
    Calls Tryz.prog 33 #[.agg #[.slice cp cn cc, .int .i64 g, .slice fp fn fc], .agg #[.int .i64 k, .slice rp rl rc, .slice dp dl dc], .agg #[.int .i64 op, .int .i64 a, .int .i64 b]] w fun e w' => e = .returned (.bool false) ∧ Below w.heap.size w w' := by
  have h1 : decide (op < 0) = true := decide_eq_true h
  go_enter Tryz.func33, Tryz.ntmps33
  go_wp2
  go_ret
  exact ⟨rfl, below3 w _ _ _⟩
set_option maxHeartbeats 1000000 in
theorem insOK_high (cp : Option Addr) (cn cc : Nat) (g : Int) (fp : Option Addr) (fn fc : Nat) (k : Int) (rp : Option Addr) (rl rc : Nat) (dp : Option Addr) (dl dc : Nat) (op a b : Int) (w : World) (h : 17 < op) :
    Calls Tryz.prog 33 #[.agg #[.slice cp cn cc, .int .i64 g, .slice fp fn fc], .agg #[.int .i64 k, .slice rp rl rc, .slice dp dl dc], .agg #[.int .i64 op, .int .i64 a, .int .i64 b]] w fun e w' => e = .returned (.bool false) ∧ Below w.heap.size w w' := by
  have h1 : decide (op < 0) = false := decide_eq_false (by omega)
  have h2 : decide (17 < op) = true := decide_eq_true h
  go_enter Tryz.func33, Tryz.ntmps33
  go_wp2
  go_ret
  exact ⟨rfl, below3 w _ _ _⟩
set_option maxHeartbeats 1000000 in
theorem insOK_b (cp : Option Addr) (cn cc : Nat) (g : Int) (fp : Option Addr) (fn fc : Nat) (k : Int) (rp : Option Addr) (rl rc : Nat) (dp : Option Addr) (dl dc : Nat) (op a b : Int) (w : World) (h0 : 0 ≤ op) (h1 : op ≤ 17) (h8 : op ≠ 8) (hb : b ≠ 0) :
    Calls Tryz.prog 33 #[.agg #[.slice cp cn cc, .int .i64 g, .slice fp fn fc], .agg #[.int .i64 k, .slice rp rl rc, .slice dp dl dc], .agg #[.int .i64 op, .int .i64 a, .int .i64 b]] w fun e w' => e = .returned (.bool false) ∧ Below w.heap.size w w' := by
  have d1 : decide (op < 0) = false := decide_eq_false (by omega)
  have d2 : decide (17 < op) = false := decide_eq_false (by omega)
  have d3 : (op == 8) = false := by simpa using h8
  have d4 : (b != 0) = true := by simpa using hb
  go_enter Tryz.func33, Tryz.ntmps33
  go_wp2
  go_ret
  exact ⟨rfl, below3 w _ _ _⟩
set_option maxHeartbeats 1000000 in
theorem insOK_0 (cp : Option Addr) (cn cc : Nat) (g : Int) (fp : Option Addr) (fn fc : Nat) (k : Int) (rp : Option Addr) (rl rc : Nat) (dp : Option Addr) (dl dc : Nat) (a : Int) (w : World) :
    Calls Tryz.prog 33 #[.agg #[.slice cp cn cc, .int .i64 g, .slice fp fn fc], .agg #[.int .i64 k, .slice rp rl rc, .slice dp dl dc], .agg #[.int .i64 0, .int .i64 a, .int .i64 0]] w fun e w' => e = .returned (.bool (decide (0 ≤ a) && decide (a < (cn : Int)))) ∧ Below w.heap.size w w' := by
  go_enter Tryz.func33, Tryz.ntmps33
  go_wp2_with (go_at_call 59; refine (l3range_c a (cn : Int) _).mono ?_; rintro e w' ⟨rfl, rfl⟩)
  go_ret
  exact ⟨rfl, below3 w _ _ _⟩
set_option maxHeartbeats 1000000 in
theorem insOK_1 (cp : Option Addr) (cn cc : Nat) (g : Int) (fp : Option Addr) (fn fc : Nat) (k : Int) (rp : Option Addr) (rl rc : Nat) (dp : Option Addr) (dl dc : Nat) (a : Int) (w : World) :
    Calls Tryz.prog 33 #[.agg #[.slice cp cn cc, .int .i64 g, .slice fp fn fc], .agg #[.int .i64 k, .slice rp rl rc, .slice dp dl dc], .agg #[.int .i64 1, .int .i64 a, .int .i64 0]] w fun e w' => e = .returned (.bool (decide (0 ≤ a) && decide (a < 200))) ∧ Below w.heap.size w w' := by
  go_enter Tryz.func33, Tryz.ntmps33
  go_wp2_with (go_at_call 59; refine (l3range_c a 200 _).mono ?_; rintro e w' ⟨rfl, rfl⟩)
  go_ret
  exact ⟨rfl, below3 w _ _ _⟩
set_option maxHeartbeats 1000000 in
theorem insOK_2 (cp : Option Addr) (cn cc : Nat) (g : Int) (fp : Option Addr) (fn fc : Nat) (k : Int) (rp : Option Addr) (rl rc : Nat) (dp : Option Addr) (dl dc : Nat) (a : Int) (w : World) :
    Calls Tryz.prog 33 #[.agg #[.slice cp cn cc, .int .i64 g, .slice fp fn fc], .agg #[.int .i64 k, .slice rp rl rc, .slice dp dl dc], .agg #[.int .i64 2, .int .i64 a, .int .i64 0]] w fun e w' => e = .returned (.bool (decide (0 ≤ a) && decide (a < (rl : Int)))) ∧ Below w.heap.size w w' := by
  go_enter Tryz.func33, Tryz.ntmps33
  go_wp2_with (go_at_call 59; refine (l3range_c a (rl : Int) _).mono ?_; rintro e w' ⟨rfl, rfl⟩)
  go_ret
  exact ⟨rfl, below3 w _ _ _⟩
set_option maxHeartbeats 1000000 in
theorem insOK_3 (cp : Option Addr) (cn cc : Nat) (g : Int) (fp : Option Addr) (fn fc : Nat) (k : Int) (rp : Option Addr) (rl rc : Nat) (dp : Option Addr) (dl dc : Nat) (a : Int) (w : World) :
    Calls Tryz.prog 33 #[.agg #[.slice cp cn cc, .int .i64 g, .slice fp fn fc], .agg #[.int .i64 k, .slice rp rl rc, .slice dp dl dc], .agg #[.int .i64 3, .int .i64 a, .int .i64 0]] w fun e w' => e = .returned (.bool (decide (0 ≤ a) && decide (a < g))) ∧ Below w.heap.size w w' := by
  go_enter Tryz.func33, Tryz.ntmps33
  go_wp2_with (go_at_call 59; refine (l3range_c a g _).mono ?_; rintro e w' ⟨rfl, rfl⟩)
  go_ret
  exact ⟨rfl, below3 w _ _ _⟩
set_option maxHeartbeats 1000000 in
theorem insOK_4 (cp : Option Addr) (cn cc : Nat) (g : Int) (fp : Option Addr) (fn fc : Nat) (k : Int) (rp : Option Addr) (rl rc : Nat) (dp : Option Addr) (dl dc : Nat) (a : Int) (w : World) :
    Calls Tryz.prog 33 #[.agg #[.slice cp cn cc, .int .i64 g, .slice fp fn fc], .agg #[.int .i64 k, .slice rp rl rc, .slice dp dl dc], .agg #[.int .i64 4, .int .i64 a, .int .i64 0]] w fun e w' => e = .returned (.bool (decide (0 ≤ a) && decide (a < g))) ∧ Below w.heap.size w w' := by
  go_enter Tryz.func33, Tryz.ntmps33
  go_wp2_with (go_at_call 59; refine (l3range_c a g _).mono ?_; rintro e w' ⟨rfl, rfl⟩)
  go_ret
  exact ⟨rfl, below3 w _ _ _⟩
set_option maxHeartbeats 1000000 in
theorem insOK_5 (cp : Option Addr) (cn cc : Nat) (g : Int) (fp : Option Addr) (fn fc : Nat) (k : Int) (rp : Option Addr) (rl rc : Nat) (dp : Option Addr) (dl dc : Nat) (a : Int) (w : World) :
    Calls Tryz.prog 33 #[.agg #[.slice cp cn cc, .int .i64 g, .slice fp fn fc], .agg #[.int .i64 k, .slice rp rl rc, .slice dp dl dc], .agg #[.int .i64 5, .int .i64 a, .int .i64 0]] w fun e w' => e = .returned (.bool (decide (0 ≤ a) && decide (a < 2))) ∧ Below w.heap.size w w' := by
  by_cases h : a = 0
  · subst h
    go_enter Tryz.func33, Tryz.ntmps33
    go_wp2
    go_ret
    exact ⟨rfl, below3 w _ _ _⟩
  · have d1 : (a == 0) = false := by simpa using h
    have HB : Hid ((a == 1) = (decide (0 ≤ a) && decide (a < 2))) := by
      unfold Hid; rw [Bool.eq_iff_iff]; simp; omega
    go_enter Tryz.func33, Tryz.ntmps33
    go_wp2
    go_ret
    exact ⟨ret_bool HB.out, below3 w _ _ _⟩
set_option maxHeartbeats 1000000 in
theorem insOK_6 (cp : Option Addr) (cn cc : Nat) (g : Int) (fp : Option Addr) (fn fc : Nat) (k : Int) (rp : Option Addr) (rl rc : Nat) (dp : Option Addr) (dl dc : Nat) (a : Int) (w : World) :
    Calls Tryz.prog 33 #[.agg #[.slice cp cn cc, .int .i64 g, .slice fp fn fc], .agg #[.int .i64 k, .slice rp rl rc, .slice dp dl dc], .agg #[.int .i64 6, .int .i64 a, .int .i64 0]] w fun e w' => e = .returned (.bool (decide (0 ≤ a) && decide (a < 1))) ∧ Below w.heap.size w w' := by
  have HB : Hid ((a == 0) = (decide (0 ≤ a) && decide (a < 1))) := by
    unfold Hid; rw [Bool.eq_iff_iff]; simp; omega
  go_enter Tryz.func33, Tryz.ntmps33
  go_wp2
  go_ret
  exact ⟨ret_bool HB.out, below3 w _ _ _⟩
set_option maxHeartbeats 1000000 in
theorem insOK_7 (cp : Option Addr) (cn cc : Nat) (g : Int) (fp : Option Addr) (fn fc : Nat) (k : Int) (rp : Option Addr) (rl rc : Nat) (dp : Option Addr) (dl dc : Nat) (a : Int) (w : World) :
    Calls Tryz.prog 33 #[.agg #[.slice cp cn cc, .int .i64 g, .slice fp fn fc], .agg #[.int .i64 k, .slice rp rl rc, .slice dp dl dc], .agg #[.int .i64 7, .int .i64 a, .int .i64 0]] w fun e w' => e = .returned (.bool (decide (0 ≤ a) && decide (a < 1))) ∧ Below w.heap.size w w' := by
  have HB : Hid ((a == 0) = (decide (0 ≤ a) && decide (a < 1))) := by
    unfold Hid; rw [Bool.eq_iff_iff]; simp; omega
  go_enter Tryz.func33, Tryz.ntmps33
  go_wp2
  go_ret
  exact ⟨ret_bool HB.out, below3 w _ _ _⟩
set_option maxHeartbeats 1000000 in
theorem insOK_9 (cp : Option Addr) (cn cc : Nat) (g : Int) (fp : Option Addr) (fn fc : Nat) (k : Int) (rp : Option Addr) (rl rc : Nat) (dp : Option Addr) (dl dc : Nat) (a : Int) (w : World) :
    Calls Tryz.prog 33 #[.agg #[.slice cp cn cc, .int .i64 g, .slice fp fn fc], .agg #[.int .i64 k, .slice rp rl rc, .slice dp dl dc], .agg #[.int .i64 9, .int .i64 a, .int .i64 0]] w fun e w' => e = .returned (.bool (decide (0 ≤ a) && decide (a < 21))) ∧ Below w.heap.size w w' := by
  go_enter Tryz.func33, Tryz.ntmps33
  go_wp2_with (go_at_call 59; refine (l3range_c a 21 _).mono ?_; rintro e w' ⟨rfl, rfl⟩)
  go_ret
  exact ⟨rfl, below3 w _ _ _⟩
set_option maxHeartbeats 1000000 in
theorem insOK_10 (cp : Option Addr) (cn cc : Nat) (g : Int) (fp : Option Addr) (fn fc : Nat) (k : Int) (rp : Option Addr) (rl rc : Nat) (dp : Option Addr) (dl dc : Nat) (a : Int) (w : World) :
    Calls Tryz.prog 33 #[.agg #[.slice cp cn cc, .int .i64 g, .slice fp fn fc], .agg #[.int .i64 k, .slice rp rl rc, .slice dp dl dc], .agg #[.int .i64 10, .int .i64 a, .int .i64 0]] w fun e w' => e = .returned (.bool (decide (0 ≤ a) && decide (a < 21))) ∧ Below w.heap.size w w' := by
  go_enter Tryz.func33, Tryz.ntmps33
  go_wp2_with (go_at_call 59; refine (l3range_c a 21 _).mono ?_; rintro e w' ⟨rfl, rfl⟩)
  go_ret
  exact ⟨rfl, below3 w _ _ _⟩
set_option maxHeartbeats 1000000 in
theorem insOK_11 (cp : Option Addr) (cn cc : Nat) (g : Int) (fp : Option Addr) (fn fc : Nat) (k : Int) (rp : Option Addr) (rl rc : Nat) (dp : Option Addr) (dl dc : Nat) (a : Int) (w : World) :
    Calls Tryz.prog 33 #[.agg #[.slice cp cn cc, .int .i64 g, .slice fp fn fc], .agg #[.int .i64 k, .slice rp rl rc, .slice dp dl dc], .agg #[.int .i64 11, .int .i64 a, .int .i64 0]] w fun e w' => e = .returned (.bool (decide (0 ≤ a) && decide (a < 1))) ∧ Below w.heap.size w w' := by
  have HB : Hid ((a == 0) = (decide (0 ≤ a) && decide (a < 1))) := by
    unfold Hid; rw [Bool.eq_iff_iff]; simp; omega
  go_enter Tryz.func33, Tryz.ntmps33
  go_wp2
  go_ret
  exact ⟨ret_bool HB.out, below3 w _ _ _⟩
set_option maxHeartbeats 1000000 in
theorem insOK_12 (cp : Option Addr) (cn cc : Nat) (g : Int) (fp : Option Addr) (fn fc : Nat) (k : Int) (rp : Option Addr) (rl rc : Nat) (dp : Option Addr) (dl dc : Nat) (a : Int) (w : World) :
    Calls Tryz.prog 33 #[.agg #[.slice cp cn cc, .int .i64 g, .slice fp fn fc], .agg #[.int .i64 k, .slice rp rl rc, .slice dp dl dc], .agg #[.int .i64 12, .int .i64 a, .int .i64 0]] w fun e w' => e = .returned (.bool (decide (0 ≤ a) && decide (a < (dl : Int)))) ∧ Below w.heap.size w w' := by
  go_enter Tryz.func33, Tryz.ntmps33
  go_wp2_with (go_at_call 59; refine (l3range_c a (dl : Int) _).mono ?_; rintro e w' ⟨rfl, rfl⟩)
  go_ret
  exact ⟨rfl, below3 w _ _ _⟩
set_option maxHeartbeats 1000000 in
theorem insOK_13 (cp : Option Addr) (cn cc : Nat) (g : Int) (fp : Option Addr) (fn fc : Nat) (k : Int) (rp : Option Addr) (rl rc : Nat) (dp : Option Addr) (dl dc : Nat) (a : Int) (w : World) :
    Calls Tryz.prog 33 #[.agg #[.slice cp cn cc, .int .i64 g, .slice fp fn fc], .agg #[.int .i64 k, .slice rp rl rc, .slice dp dl dc], .agg #[.int .i64 13, .int .i64 a, .int .i64 0]] w fun e w' => e = .returned (.bool (decide (0 ≤ a) && decide (a < (dl : Int)))) ∧ Below w.heap.size w w' := by
  go_enter Tryz.func33, Tryz.ntmps33
  go_wp2_with (go_at_call 59; refine (l3range_c a (dl : Int) _).mono ?_; rintro e w' ⟨rfl, rfl⟩)
  go_ret
  exact ⟨rfl, below3 w _ _ _⟩
set_option maxHeartbeats 1000000 in
theorem insOK_14 (cp : Option Addr) (cn cc : Nat) (g : Int) (fp : Option Addr) (fn fc : Nat) (k : Int) (rp : Option Addr) (rl rc : Nat) (dp : Option Addr) (dl dc : Nat) (a : Int) (w : World) :
    Calls Tryz.prog 33 #[.agg #[.slice cp cn cc, .int .i64 g, .slice fp fn fc], .agg #[.int .i64 k, .slice rp rl rc, .slice dp dl dc], .agg #[.int .i64 14, .int .i64 a, .int .i64 0]] w fun e w' => e = .returned (.bool (decide (0 ≤ a) && decide (a < 22))) ∧ Below w.heap.size w w' := by
  go_enter Tryz.func33, Tryz.ntmps33
  go_wp2_with (go_at_call 59; refine (l3range_c a 22 _).mono ?_; rintro e w' ⟨rfl, rfl⟩)
  go_ret
  exact ⟨rfl, below3 w _ _ _⟩
set_option maxHeartbeats 1000000 in
theorem insOK_15 (cp : Option Addr) (cn cc : Nat) (g : Int) (fp : Option Addr) (fn fc : Nat) (k : Int) (rp : Option Addr) (rl rc : Nat) (dp : Option Addr) (dl dc : Nat) (a : Int) (w : World) :
    Calls Tryz.prog 33 #[.agg #[.slice cp cn cc, .int .i64 g, .slice fp fn fc], .agg #[.int .i64 k, .slice rp rl rc, .slice dp dl dc], .agg #[.int .i64 15, .int .i64 a, .int .i64 0]] w fun e w' => e = .returned (.bool (decide (0 ≤ a) && decide (a < 201))) ∧ Below w.heap.size w w' := by
  go_enter Tryz.func33, Tryz.ntmps33
  go_wp2_with (go_at_call 59; refine (l3range_c a 201 _).mono ?_; rintro e w' ⟨rfl, rfl⟩)
  go_ret
  exact ⟨rfl, below3 w _ _ _⟩
set_option maxHeartbeats 1000000 in
theorem insOK_16 (cp : Option Addr) (cn cc : Nat) (g : Int) (fp : Option Addr) (fn fc : Nat) (k : Int) (rp : Option Addr) (rl rc : Nat) (dp : Option Addr) (dl dc : Nat) (a : Int) (w : World) :
    Calls Tryz.prog 33 #[.agg #[.slice cp cn cc, .int .i64 g, .slice fp fn fc], .agg #[.int .i64 k, .slice rp rl rc, .slice dp dl dc], .agg #[.int .i64 16, .int .i64 a, .int .i64 0]] w fun e w' => e = .returned (.bool (decide (0 ≤ a) && decide (a < 1))) ∧ Below w.heap.size w w' := by
  have HB : Hid ((a == 0) = (decide (0 ≤ a) && decide (a < 1))) := by
    unfold Hid; rw [Bool.eq_iff_iff]; simp; omega
  go_enter Tryz.func33, Tryz.ntmps33
  go_wp2
  go_ret
  exact ⟨ret_bool HB.out, below3 w _ _ _⟩
set_option maxHeartbeats 1000000 in
theorem insOK_17 (cp : Option Addr) (cn cc : Nat) (g : Int) (fp : Option Addr) (fn fc : Nat) (k : Int) (rp : Option Addr) (rl rc : Nat) (dp : Option Addr) (dl dc : Nat) (a : Int) (w : World) :
    Calls Tryz.prog 33 #[.agg #[.slice cp cn cc, .int .i64 g, .slice fp fn fc], .agg #[.int .i64 k, .slice rp rl rc, .slice dp dl dc], .agg #[.int .i64 17, .int .i64 a, .int .i64 0]] w fun e w' => e = .returned (.bool (decide (0 ≤ a) && decide (a < 1))) ∧ Below w.heap.size w w' := by
  have HB : Hid ((a == 0) = (decide (0 ≤ a) && decide (a < 1))) := by
    unfold Hid; rw [Bool.eq_iff_iff]; simp; omega
  go_enter Tryz.func33, Tryz.ntmps33
  go_wp2
  go_ret
  exact ⟨ret_bool HB.out, below3 w _ _ _⟩
end Go.Proofs.YtdjdhjciealfhaaGreatDoor
