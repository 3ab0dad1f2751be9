import Derived.Test.YtbcanodijcglpaaDoorM7
namespace Go.Proofs.YtbcanodijcglpaaDoor
open Go.RowKit Ch1
/-- What A must be less than, by the instruction. -/
def bnd (m : Md) (f : Fn) (op : Int) : Int := if op = 0 then m.consts.length else if op = 1 then 200 else if op = 2 then f.free.length else if op = 3 then m.globals else if op = 4 then m.globals else if op = 5 then 2 else if op = 9 then 21 else if op = 10 then 21 else if op = 12 then f.code.length else if op = 13 then f.code.length else if op = 14 then 22 else if op = 15 then 201 else 1
/-- An instruction that a module's function may have. -/
def InsOk (m : Md) (f : Fn) (x : In) : Prop := 0 ≤ x.op ∧ x.op ≤ 17 ∧ ((x.op = 8 ∧ 1 ≤ x.a ∧ x.a < m.funcs.length ∧ x.b = (m.funcs.getD x.a.toNat fn0).free.length) ∨ (x.op ≠ 8 ∧ x.b = 0 ∧ 0 ≤ x.a ∧ x.a < bnd m f x.op))
theorem insOk_8 (m : Md) (f : Fn) (a b : Int) : InsOk m f ⟨8, a, b⟩ ↔ 1 ≤ a ∧ a < m.funcs.length ∧ b = (m.funcs.getD a.toNat fn0).free.length := by
  unfold InsOk
  constructor
  · rintro ⟨_, _, ⟨_, h⟩ | ⟨h, _⟩⟩
    · exact h
    · exact absurd rfl h
  · intro h
    exact ⟨by simp, by simp, Or.inl ⟨rfl, h⟩⟩
theorem insOk_n (m : Md) (f : Fn) (op a b N : Int) (h0 : 0 ≤ op) (h1 : op ≤ 17) (h8 : op ≠ 8) (hN : bnd m f op = N) : InsOk m f ⟨op, a, b⟩ ↔ b = 0 ∧ 0 ≤ a ∧ a < N := by
  unfold InsOk
  constructor
  · rintro ⟨_, _, ⟨h, _⟩ | ⟨_, h⟩⟩
    · exact absurd h h8
    · rw [← hN]; exact h
  · intro h
    exact ⟨h0, h1, Or.inr ⟨h8, by rw [hN]; exact h⟩⟩
theorem insOk_out (m : Md) (f : Fn) (x : In) (h : x.op < 0 ∨ 17 < x.op) : ¬ InsOk m f x := by
  rintro ⟨h0, h1, _⟩
  omega
/-! ### the model's -/
set_option maxHeartbeats 400000 in
theorem l3range_c (v n : Int) (w : World) : Calls Tryd.prog 53 #[.int .i64 v, .int .i64 n] w fun e w' => e = .returned (.bool (decide (0 ≤ v) && decide (v < n))) ∧ w' = w := by
  by_cases h : 0 ≤ v
  · have h1 : decide (0 ≤ v) = true := decide_eq_true h
    rw [h1]
    go_enter Tryd.func53, Tryd.ntmps53
    go_wp2
    go_ret
    exact ⟨by simp, rfl⟩
  · have h1 : decide (0 ≤ v) = false := decide_eq_false h
    rw [h1]
    go_enter Tryd.func53, Tryd.ntmps53
    go_wp2
    go_ret
    exact ⟨by simp, rfl⟩
set_option maxHeartbeats 1000000 in
theorem insOK_low (cp : Option Addr) (cn cc : Nat) (g : Int) (fp : Option Addr) (fn fc : Nat) (k : Int) (rp : Option Addr) (rl rc : Nat) (dp : Option Addr) (dl dc : Nat) (op a b : Int) (w : World) (h : op < 0) :
    Calls Tryd.prog 32 #[.agg #[.slice cp cn cc, .int .i64 g, .slice fp fn fc], .agg #[.int .i64 k, .slice rp rl rc, .slice dp dl dc], .agg #[.int .i64 op, .int .i64 a, .int .i64 b]] w fun e w' => e = .returned (.bool false) ∧ Below w.heap.size w w' := by
  have h1 : decide (op < 0) = true := decide_eq_true h
  go_enter Tryd.func32, Tryd.ntmps32
  go_wp2
  go_ret
  exact ⟨rfl, below3 w _ _ _⟩
set_option maxHeartbeats 1000000 in
theorem insOK_high (cp : Option Addr) (cn cc : Nat) (g : Int) (fp : Option Addr) (fn fc : Nat) (k : Int) (rp : Option Addr) (rl rc : Nat) (dp : Option Addr) (dl dc : Nat) (op a b : Int) (w : World) (h : 17 < op) :
    Calls Tryd.prog 32 #[.agg #[.slice cp cn cc, .int .i64 g, .slice fp fn fc], .agg #[.int .i64 k, .slice rp rl rc, .slice dp dl dc], .agg #[.int .i64 op, .int .i64 a, .int .i64 b]] w fun e w' => e = .returned (.bool false) ∧ Below w.heap.size w w' := by
  have h1 : decide (op < 0) = false := decide_eq_false (by omega)
  have h2 : decide (17 < op) = true := decide_eq_true h
  go_enter Tryd.func32, Tryd.ntmps32
  go_wp2
  go_ret
  exact ⟨rfl, below3 w _ _ _⟩
set_option maxHeartbeats 1000000 in
theorem insOK_b (cp : Option Addr) (cn cc : Nat) (g : Int) (fp : Option Addr) (fn fc : Nat) (k : Int) (rp : Option Addr) (rl rc : Nat) (dp : Option Addr) (dl dc : Nat) (op a b : Int) (w : World) (h0 : 0 ≤ op) (h1 : op ≤ 17) (h8 : op ≠ 8) (hb : b ≠ 0) :
    Calls Tryd.prog 32 #[.agg #[.slice cp cn cc, .int .i64 g, .slice fp fn fc], .agg #[.int .i64 k, .slice rp rl rc, .slice dp dl dc], .agg #[.int .i64 op, .int .i64 a, .int .i64 b]] w fun e w' => e = .returned (.bool false) ∧ Below w.heap.size w w' := by
  have d1 : decide (op < 0) = false := decide_eq_false (by omega)
  have d2 : decide (17 < op) = false := decide_eq_false (by omega)
  have d3 : (op == 8) = false := by simpa using h8
  have d4 : (b != 0) = true := by simpa using hb
  go_enter Tryd.func32, Tryd.ntmps32
  go_wp2
  go_ret
  exact ⟨rfl, below3 w _ _ _⟩
set_option maxHeartbeats 1000000 in
theorem insOK_0 (cp : Option Addr) (cn cc : Nat) (g : Int) (fp : Option Addr) (fn fc : Nat) (k : Int) (rp : Option Addr) (rl rc : Nat) (dp : Option Addr) (dl dc : Nat) (a : Int) (w : World) :
    Calls Tryd.prog 32 #[.agg #[.slice cp cn cc, .int .i64 g, .slice fp fn fc], .agg #[.int .i64 k, .slice rp rl rc, .slice dp dl dc], .agg #[.int .i64 0, .int .i64 a, .int .i64 0]] w fun e w' => e = .returned (.bool (decide (0 ≤ a) && decide (a < (cn : Int)))) ∧ Below w.heap.size w w' := by
  go_enter Tryd.func32, Tryd.ntmps32
  go_wp2_with (go_at_call 53; refine (l3range_c a (cn : Int) _).mono ?_; rintro e w' ⟨rfl, rfl⟩)
  go_ret
  exact ⟨rfl, below3 w _ _ _⟩
set_option maxHeartbeats 1000000 in
theorem insOK_1 (cp : Option Addr) (cn cc : Nat) (g : Int) (fp : Option Addr) (fn fc : Nat) (k : Int) (rp : Option Addr) (rl rc : Nat) (dp : Option Addr) (dl dc : Nat) (a : Int) (w : World) :
    Calls Tryd.prog 32 #[.agg #[.slice cp cn cc, .int .i64 g, .slice fp fn fc], .agg #[.int .i64 k, .slice rp rl rc, .slice dp dl dc], .agg #[.int .i64 1, .int .i64 a, .int .i64 0]] w fun e w' => e = .returned (.bool (decide (0 ≤ a) && decide (a < 200))) ∧ Below w.heap.size w w' := by
  go_enter Tryd.func32, Tryd.ntmps32
  go_wp2_with (go_at_call 53; refine (l3range_c a 200 _).mono ?_; rintro e w' ⟨rfl, rfl⟩)
  go_ret
  exact ⟨rfl, below3 w _ _ _⟩
set_option maxHeartbeats 1000000 in
theorem insOK_2 (cp : Option Addr) (cn cc : Nat) (g : Int) (fp : Option Addr) (fn fc : Nat) (k : Int) (rp : Option Addr) (rl rc : Nat) (dp : Option Addr) (dl dc : Nat) (a : Int) (w : World) :
    Calls Tryd.prog 32 #[.agg #[.slice cp cn cc, .int .i64 g, .slice fp fn fc], .agg #[.int .i64 k, .slice rp rl rc, .slice dp dl dc], .agg #[.int .i64 2, .int .i64 a, .int .i64 0]] w fun e w' => e = .returned (.bool (decide (0 ≤ a) && decide (a < (rl : Int)))) ∧ Below w.heap.size w w' := by
  go_enter Tryd.func32, Tryd.ntmps32
  go_wp2_with (go_at_call 53; refine (l3range_c a (rl : Int) _).mono ?_; rintro e w' ⟨rfl, rfl⟩)
  go_ret
  exact ⟨rfl, below3 w _ _ _⟩
set_option maxHeartbeats 1000000 in
theorem insOK_3 (cp : Option Addr) (cn cc : Nat) (g : Int) (fp : Option Addr) (fn fc : Nat) (k : Int) (rp : Option Addr) (rl rc : Nat) (dp : Option Addr) (dl dc : Nat) (a : Int) (w : World) :
    Calls Tryd.prog 32 #[.agg #[.slice cp cn cc, .int .i64 g, .slice fp fn fc], .agg #[.int .i64 k, .slice rp rl rc, .slice dp dl dc], .agg #[.int .i64 3, .int .i64 a, .int .i64 0]] w fun e w' => e = .returned (.bool (decide (0 ≤ a) && decide (a < g))) ∧ Below w.heap.size w w' := by
  go_enter Tryd.func32, Tryd.ntmps32
  go_wp2_with (go_at_call 53; refine (l3range_c a g _).mono ?_; rintro e w' ⟨rfl, rfl⟩)
  go_ret
  exact ⟨rfl, below3 w _ _ _⟩
set_option maxHeartbeats 1000000 in
theorem insOK_4 (cp : Option Addr) (cn cc : Nat) (g : Int) (fp : Option Addr) (fn fc : Nat) (k : Int) (rp : Option Addr) (rl rc : Nat) (dp : Option Addr) (dl dc : Nat) (a : Int) (w : World) :
    Calls Tryd.prog 32 #[.agg #[.slice cp cn cc, .int .i64 g, .slice fp fn fc], .agg #[.int .i64 k, .slice rp rl rc, .slice dp dl dc], .agg #[.int .i64 4, .int .i64 a, .int .i64 0]] w fun e w' => e = .returned (.bool (decide (0 ≤ a) && decide (a < g))) ∧ Below w.heap.size w w' := by
  go_enter Tryd.func32, Tryd.ntmps32
  go_wp2_with (go_at_call 53; refine (l3range_c a g _).mono ?_; rintro e w' ⟨rfl, rfl⟩)
  go_ret
  exact ⟨rfl, below3 w _ _ _⟩
set_option maxHeartbeats 1000000 in
theorem insOK_5 (cp : Option Addr) (cn cc : Nat) (g : Int) (fp : Option Addr) (fn fc : Nat) (k : Int) (rp : Option Addr) (rl rc : Nat) (dp : Option Addr) (dl dc : Nat) (a : Int) (w : World) :
    Calls Tryd.prog 32 #[.agg #[.slice cp cn cc, .int .i64 g, .slice fp fn fc], .agg #[.int .i64 k, .slice rp rl rc, .slice dp dl dc], .agg #[.int .i64 5, .int .i64 a, .int .i64 0]] w fun e w' => e = .returned (.bool (decide (0 ≤ a) && decide (a < 2))) ∧ Below w.heap.size w w' := by
  by_cases h : a = 0
  · subst h
    go_enter Tryd.func32, Tryd.ntmps32
    go_wp2
    go_ret
    exact ⟨rfl, below3 w _ _ _⟩
  · have d1 : (a == 0) = false := by simpa using h
    have HB : Hid ((a == 1) = (decide (0 ≤ a) && decide (a < 2))) := by
      unfold Hid; rw [Bool.eq_iff_iff]; simp; omega
    go_enter Tryd.func32, Tryd.ntmps32
    go_wp2
    go_ret
    exact ⟨ret_bool HB.out, below3 w _ _ _⟩
set_option maxHeartbeats 1000000 in
theorem insOK_6 (cp : Option Addr) (cn cc : Nat) (g : Int) (fp : Option Addr) (fn fc : Nat) (k : Int) (rp : Option Addr) (rl rc : Nat) (dp : Option Addr) (dl dc : Nat) (a : Int) (w : World) :
    Calls Tryd.prog 32 #[.agg #[.slice cp cn cc, .int .i64 g, .slice fp fn fc], .agg #[.int .i64 k, .slice rp rl rc, .slice dp dl dc], .agg #[.int .i64 6, .int .i64 a, .int .i64 0]] w fun e w' => e = .returned (.bool (decide (0 ≤ a) && decide (a < 1))) ∧ Below w.heap.size w w' := by
  have HB : Hid ((a == 0) = (decide (0 ≤ a) && decide (a < 1))) := by
    unfold Hid; rw [Bool.eq_iff_iff]; simp; omega
  go_enter Tryd.func32, Tryd.ntmps32
  go_wp2
  go_ret
  exact ⟨ret_bool HB.out, below3 w _ _ _⟩
set_option maxHeartbeats 1000000 in
theorem insOK_7 (cp : Option Addr) (cn cc : Nat) (g : Int) (fp : Option Addr) (fn fc : Nat) (k : Int) (rp : Option Addr) (rl rc : Nat) (dp : Option Addr) (dl dc : Nat) (a : Int) (w : World) :
    Calls Tryd.prog 32 #[.agg #[.slice cp cn cc, .int .i64 g, .slice fp fn fc], .agg #[.int .i64 k, .slice rp rl rc, .slice dp dl dc], .agg #[.int .i64 7, .int .i64 a, .int .i64 0]] w fun e w' => e = .returned (.bool (decide (0 ≤ a) && decide (a < 1))) ∧ Below w.heap.size w w' := by
  have HB : Hid ((a == 0) = (decide (0 ≤ a) && decide (a < 1))) := by
    unfold Hid; rw [Bool.eq_iff_iff]; simp; omega
  go_enter Tryd.func32, Tryd.ntmps32
  go_wp2
  go_ret
  exact ⟨ret_bool HB.out, below3 w _ _ _⟩
set_option maxHeartbeats 1000000 in
theorem insOK_9 (cp : Option Addr) (cn cc : Nat) (g : Int) (fp : Option Addr) (fn fc : Nat) (k : Int) (rp : Option Addr) (rl rc : Nat) (dp : Option Addr) (dl dc : Nat) (a : Int) (w : World) :
    Calls Tryd.prog 32 #[.agg #[.slice cp cn cc, .int .i64 g, .slice fp fn fc], .agg #[.int .i64 k, .slice rp rl rc, .slice dp dl dc], .agg #[.int .i64 9, .int .i64 a, .int .i64 0]] w fun e w' => e = .returned (.bool (decide (0 ≤ a) && decide (a < 21))) ∧ Below w.heap.size w w' := by
  go_enter Tryd.func32, Tryd.ntmps32
  go_wp2_with (go_at_call 53; refine (l3range_c a 21 _).mono ?_; rintro e w' ⟨rfl, rfl⟩)
  go_ret
  exact ⟨rfl, below3 w _ _ _⟩
set_option maxHeartbeats 1000000 in
theorem insOK_10 (cp : Option Addr) (cn cc : Nat) (g : Int) (fp : Option Addr) (fn fc : Nat) (k : Int) (rp : Option Addr) (rl rc : Nat) (dp : Option Addr) (dl dc : Nat) (a : Int) (w : World) :
    Calls Tryd.prog 32 #[.agg #[.slice cp cn cc, .int .i64 g, .slice fp fn fc], .agg #[.int .i64 k, .slice rp rl rc, .slice dp dl dc], .agg #[.int .i64 10, .int .i64 a, .int .i64 0]] w fun e w' => e = .returned (.bool (decide (0 ≤ a) && decide (a < 21))) ∧ Below w.heap.size w w' := by
  go_enter Tryd.func32, Tryd.ntmps32
  go_wp2_with (go_at_call 53; refine (l3range_c a 21 _).mono ?_; rintro e w' ⟨rfl, rfl⟩)
  go_ret
  exact ⟨rfl, below3 w _ _ _⟩
set_option maxHeartbeats 1000000 in
theorem insOK_11 (cp : Option Addr) (cn cc : Nat) (g : Int) (fp : Option Addr) (fn fc : Nat) (k : Int) (rp : Option Addr) (rl rc : Nat) (dp : Option Addr) (dl dc : Nat) (a : Int) (w : World) :
    Calls Tryd.prog 32 #[.agg #[.slice cp cn cc, .int .i64 g, .slice fp fn fc], .agg #[.int .i64 k, .slice rp rl rc, .slice dp dl dc], .agg #[.int .i64 11, .int .i64 a, .int .i64 0]] w fun e w' => e = .returned (.bool (decide (0 ≤ a) && decide (a < 1))) ∧ Below w.heap.size w w' := by
  have HB : Hid ((a == 0) = (decide (0 ≤ a) && decide (a < 1))) := by
    unfold Hid; rw [Bool.eq_iff_iff]; simp; omega
  go_enter Tryd.func32, Tryd.ntmps32
  go_wp2
  go_ret
  exact ⟨ret_bool HB.out, below3 w _ _ _⟩
set_option maxHeartbeats 1000000 in
theorem insOK_12 (cp : Option Addr) (cn cc : Nat) (g : Int) (fp : Option Addr) (fn fc : Nat) (k : Int) (rp : Option Addr) (rl rc : Nat) (dp : Option Addr) (dl dc : Nat) (a : Int) (w : World) :
    Calls Tryd.prog 32 #[.agg #[.slice cp cn cc, .int .i64 g, .slice fp fn fc], .agg #[.int .i64 k, .slice rp rl rc, .slice dp dl dc], .agg #[.int .i64 12, .int .i64 a, .int .i64 0]] w fun e w' => e = .returned (.bool (decide (0 ≤ a) && decide (a < (dl : Int)))) ∧ Below w.heap.size w w' := by
  go_enter Tryd.func32, Tryd.ntmps32
  go_wp2_with (go_at_call 53; refine (l3range_c a (dl : Int) _).mono ?_; rintro e w' ⟨rfl, rfl⟩)
  go_ret
  exact ⟨rfl, below3 w _ _ _⟩
set_option maxHeartbeats 1000000 in
theorem insOK_13 (cp : Option Addr) (cn cc : Nat) (g : Int) (fp : Option Addr) (fn fc : Nat) (k : Int) (rp : Option Addr) (rl rc : Nat) (dp : Option Addr) (dl dc : Nat) (a : Int) (w : World) :
    Calls Tryd.prog 32 #[.agg #[.slice cp cn cc, .int .i64 g, .slice fp fn fc], .agg #[.int .i64 k, .slice rp rl rc, .slice dp dl dc], .agg #[.int .i64 13, .int .i64 a, .int .i64 0]] w fun e w' => e = .returned (.bool (decide (0 ≤ a) && decide (a < (dl : Int)))) ∧ Below w.heap.size w w' := by
  go_enter Tryd.func32, Tryd.ntmps32
  go_wp2_with (go_at_call 53; refine (l3range_c a (dl : Int) _).mono ?_; rintro e w' ⟨rfl, rfl⟩)
  go_ret
  exact ⟨rfl, below3 w _ _ _⟩
set_option maxHeartbeats 1000000 in
theorem insOK_14 (cp : Option Addr) (cn cc : Nat) (g : Int) (fp : Option Addr) (fn fc : Nat) (k : Int) (rp : Option Addr) (rl rc : Nat) (dp : Option Addr) (dl dc : Nat) (a : Int) (w : World) :
    Calls Tryd.prog 32 #[.agg #[.slice cp cn cc, .int .i64 g, .slice fp fn fc], .agg #[.int .i64 k, .slice rp rl rc, .slice dp dl dc], .agg #[.int .i64 14, .int .i64 a, .int .i64 0]] w fun e w' => e = .returned (.bool (decide (0 ≤ a) && decide (a < 22))) ∧ Below w.heap.size w w' := by
  go_enter Tryd.func32, Tryd.ntmps32
  go_wp2_with (go_at_call 53; refine (l3range_c a 22 _).mono ?_; rintro e w' ⟨rfl, rfl⟩)
  go_ret
  exact ⟨rfl, below3 w _ _ _⟩
set_option maxHeartbeats 1000000 in
theorem insOK_15 (cp : Option Addr) (cn cc : Nat) (g : Int) (fp : Option Addr) (fn fc : Nat) (k : Int) (rp : Option Addr) (rl rc : Nat) (dp : Option Addr) (dl dc : Nat) (a : Int) (w : World) :
    Calls Tryd.prog 32 #[.agg #[.slice cp cn cc, .int .i64 g, .slice fp fn fc], .agg #[.int .i64 k, .slice rp rl rc, .slice dp dl dc], .agg #[.int .i64 15, .int .i64 a, .int .i64 0]] w fun e w' => e = .returned (.bool (decide (0 ≤ a) && decide (a < 201))) ∧ Below w.heap.size w w' := by
  go_enter Tryd.func32, Tryd.ntmps32
  go_wp2_with (go_at_call 53; refine (l3range_c a 201 _).mono ?_; rintro e w' ⟨rfl, rfl⟩)
  go_ret
  exact ⟨rfl, below3 w _ _ _⟩
set_option maxHeartbeats 1000000 in
theorem insOK_16 (cp : Option Addr) (cn cc : Nat) (g : Int) (fp : Option Addr) (fn fc : Nat) (k : Int) (rp : Option Addr) (rl rc : Nat) (dp : Option Addr) (dl dc : Nat) (a : Int) (w : World) :
    Calls Tryd.prog 32 #[.agg #[.slice cp cn cc, .int .i64 g, .slice fp fn fc], .agg #[.int .i64 k, .slice rp rl rc, .slice dp dl dc], .agg #[.int .i64 16, .int .i64 a, .int .i64 0]] w fun e w' => e = .returned (.bool (decide (0 ≤ a) && decide (a < 1))) ∧ Below w.heap.size w w' := by
  have HB : Hid ((a == 0) = (decide (0 ≤ a) && decide (a < 1))) := by
    unfold Hid; rw [Bool.eq_iff_iff]; simp; omega
  go_enter Tryd.func32, Tryd.ntmps32
  go_wp2
  go_ret
  exact ⟨ret_bool HB.out, below3 w _ _ _⟩
set_option maxHeartbeats 1000000 in
theorem insOK_17 (cp : Option Addr) (cn cc : Nat) (g : Int) (fp : Option Addr) (fn fc : Nat) (k : Int) (rp : Option Addr) (rl rc : Nat) (dp : Option Addr) (dl dc : Nat) (a : Int) (w : World) :
    Calls Tryd.prog 32 #[.agg #[.slice cp cn cc, .int .i64 g, .slice fp fn fc], .agg #[.int .i64 k, .slice rp rl rc, .slice dp dl dc], .agg #[.int .i64 17, .int .i64 a, .int .i64 0]] w fun e w' => e = .returned (.bool (decide (0 ≤ a) && decide (a < 1))) ∧ Below w.heap.size w w' := by
  have HB : Hid ((a == 0) = (decide (0 ≤ a) && decide (a < 1))) := by
    unfold Hid; rw [Bool.eq_iff_iff]; simp; omega
  go_enter Tryd.func32, Tryd.ntmps32
  go_wp2
  go_ret
  exact ⟨ret_bool HB.out, below3 w _ _ _⟩
end Go.Proofs.YtbcanodijcglpaaDoor
