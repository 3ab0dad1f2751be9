import Derived.Test.YtlpibogllmlacaaDoorMa
import Derived.Deep.Cut
namespace Go.Proofs.YtlpibogllmlacaaDoor
open Go.RowKit Ch1
/-- operandBounds answers lo and hi. -/
def ObQ (lo hi : Int) (w w' : World) (e : Ending) : Prop := e = .returned (.tuple #[.int .i64 lo, .int .i64 hi]) ∧ Below w.heap.size w w'
set_option maxHeartbeats 1000000 in
theorem ob_0 (cp : Option Addr) (cn cc : Nat) (g : Int) (fp : Option Addr) (fn fc : Nat) (k : Int) (rp : Option Addr) (rl rc : Nat) (dp : Option Addr) (dl dc : Nat) (op a b : Int) (w : World) :
    Calls Tryd.prog 50 #[.agg #[.slice cp cn cc, .int .i64 g, .slice fp fn fc], .agg #[.int .i64 k, .slice rp rl rc, .slice dp dl dc], .agg #[.int .i64 op, .int .i64 a, .int .i64 b], .int .u8 0] w fun e w' => ObQ 0 0 w w' e := by
  go_enter Tryd.func50, Tryd.ntmps50
  go_wp2
  exact bodyPost_ret (v := .tuple #[.int .i64 0, .int .i64 0]) (by simp [results, Tryd.results50, go_sem]) rfl ⟨rfl, below3 w _ _ _⟩
set_option maxHeartbeats 1000000 in
theorem ob_1 (cp : Option Addr) (cn cc : Nat) (g : Int) (fp : Option Addr) (fn fc : Nat) (k : Int) (rp : Option Addr) (rl rc : Nat) (dp : Option Addr) (dl dc : Nat) (op a b : Int) (w : World) (h1 : cn ≤ 1048576) :
    Calls Tryd.prog 50 #[.agg #[.slice cp cn cc, .int .i64 g, .slice fp fn fc], .agg #[.int .i64 k, .slice rp rl rc, .slice dp dl dc], .agg #[.int .i64 op, .int .i64 a, .int .i64 b], .int .u8 1] w fun e w' => ObQ 0 ((cn : Int) - 1) w w' e := by
  have fw : IntKind.i64.wrap ((cn : Int) - 1) = (cn : Int) - 1 := by rw [IntKind.wrap_i64]; omega
  go_enter Tryd.func50, Tryd.ntmps50
  go_wp2
  go_region
  go_wp2
  exact bodyPost_ret (v := .tuple #[.int .i64 0, .int .i64 ((cn : Int) - 1)]) (by simp [results, Tryd.results50, go_sem]) rfl ⟨rfl, below_drewM (below3 w _ _ _)⟩
set_option maxHeartbeats 1000000 in
theorem ob_2 (cp : Option Addr) (cn cc : Nat) (g : Int) (fp : Option Addr) (fn fc : Nat) (k : Int) (rp : Option Addr) (rl rc : Nat) (dp : Option Addr) (dl dc : Nat) (op a b : Int) (w : World) :
    Calls Tryd.prog 50 #[.agg #[.slice cp cn cc, .int .i64 g, .slice fp fn fc], .agg #[.int .i64 k, .slice rp rl rc, .slice dp dl dc], .agg #[.int .i64 op, .int .i64 a, .int .i64 b], .int .u8 2] w fun e w' => ObQ 0 199 w w' e := by
  go_enter Tryd.func50, Tryd.ntmps50
  go_wp2
  exact bodyPost_ret (v := .tuple #[.int .i64 0, .int .i64 199]) (by simp [results, Tryd.results50, go_sem]) rfl ⟨rfl, below3 w _ _ _⟩
set_option maxHeartbeats 1000000 in
theorem ob_3 (cp : Option Addr) (cn cc : Nat) (g : Int) (fp : Option Addr) (fn fc : Nat) (k : Int) (rp : Option Addr) (rl rc : Nat) (dp : Option Addr) (dl dc : Nat) (op a b : Int) (w : World) (h1 : rl ≤ 1048576) :
    Calls Tryd.prog 50 #[.agg #[.slice cp cn cc, .int .i64 g, .slice fp fn fc], .agg #[.int .i64 k, .slice rp rl rc, .slice dp dl dc], .agg #[.int .i64 op, .int .i64 a, .int .i64 b], .int .u8 3] w fun e w' => ObQ 0 ((rl : Int) - 1) w w' e := by
  have fw : IntKind.i64.wrap ((rl : Int) - 1) = (rl : Int) - 1 := by rw [IntKind.wrap_i64]; omega
  go_enter Tryd.func50, Tryd.ntmps50
  go_wp2
  go_region
  go_wp2
  exact bodyPost_ret (v := .tuple #[.int .i64 0, .int .i64 ((rl : Int) - 1)]) (by simp [results, Tryd.results50, go_sem]) rfl ⟨rfl, below_drewM (below3 w _ _ _)⟩
set_option maxHeartbeats 1000000 in
theorem ob_4 (cp : Option Addr) (cn cc : Nat) (g : Int) (fp : Option Addr) (fn fc : Nat) (k : Int) (rp : Option Addr) (rl rc : Nat) (dp : Option Addr) (dl dc : Nat) (op a b : Int) (w : World) (h0 : 0 ≤ g) (h1 : g ≤ 200) :
    Calls Tryd.prog 50 #[.agg #[.slice cp cn cc, .int .i64 g, .slice fp fn fc], .agg #[.int .i64 k, .slice rp rl rc, .slice dp dl dc], .agg #[.int .i64 op, .int .i64 a, .int .i64 b], .int .u8 4] w fun e w' => ObQ 0 (g - 1) w w' e := by
  have fw : IntKind.i64.wrap (g - 1) = g - 1 := by rw [IntKind.wrap_i64]; omega
  go_enter Tryd.func50, Tryd.ntmps50
  go_wp2
  go_region
  go_wp2
  exact bodyPost_ret (v := .tuple #[.int .i64 0, .int .i64 (g - 1)]) (by simp [results, Tryd.results50, go_sem]) rfl ⟨rfl, below_drewM (below3 w _ _ _)⟩
set_option maxHeartbeats 1000000 in
theorem ob_5 (cp : Option Addr) (cn cc : Nat) (g : Int) (fp : Option Addr) (fn fc : Nat) (k : Int) (rp : Option Addr) (rl rc : Nat) (dp : Option Addr) (dl dc : Nat) (op a b : Int) (w : World) :
    Calls Tryd.prog 50 #[.agg #[.slice cp cn cc, .int .i64 g, .slice fp fn fc], .agg #[.int .i64 k, .slice rp rl rc, .slice dp dl dc], .agg #[.int .i64 op, .int .i64 a, .int .i64 b], .int .u8 5] w fun e w' => ObQ 0 1 w w' e := by
  go_enter Tryd.func50, Tryd.ntmps50
  go_wp2
  exact bodyPost_ret (v := .tuple #[.int .i64 0, .int .i64 1]) (by simp [results, Tryd.results50, go_sem]) rfl ⟨rfl, below3 w _ _ _⟩
set_option maxHeartbeats 1000000 in
theorem ob_6 (cp : Option Addr) (cn cc : Nat) (g : Int) (fp : Option Addr) (fn fc : Nat) (k : Int) (rp : Option Addr) (rl rc : Nat) (dp : Option Addr) (dl dc : Nat) (op a b : Int) (w : World) (h1 : fn ≤ 1048576) :
    Calls Tryd.prog 50 #[.agg #[.slice cp cn cc, .int .i64 g, .slice fp fn fc], .agg #[.int .i64 k, .slice rp rl rc, .slice dp dl dc], .agg #[.int .i64 op, .int .i64 a, .int .i64 b], .int .u8 6] w fun e w' => ObQ 1 ((fn : Int) - 1) w w' e := by
  have fw : IntKind.i64.wrap ((fn : Int) - 1) = (fn : Int) - 1 := by rw [IntKind.wrap_i64]; omega
  go_enter Tryd.func50, Tryd.ntmps50
  go_wp2
  go_region
  go_wp2
  exact bodyPost_ret (v := .tuple #[.int .i64 1, .int .i64 ((fn : Int) - 1)]) (by simp [results, Tryd.results50, go_sem]) rfl ⟨rfl, below_drewM (below3 w _ _ _)⟩
set_option maxHeartbeats 1000000 in
theorem ob_8 (cp : Option Addr) (cn cc : Nat) (g : Int) (fp : Option Addr) (fn fc : Nat) (k : Int) (rp : Option Addr) (rl rc : Nat) (dp : Option Addr) (dl dc : Nat) (op a b : Int) (w : World) :
    Calls Tryd.prog 50 #[.agg #[.slice cp cn cc, .int .i64 g, .slice fp fn fc], .agg #[.int .i64 k, .slice rp rl rc, .slice dp dl dc], .agg #[.int .i64 op, .int .i64 a, .int .i64 b], .int .u8 8] w fun e w' => ObQ 0 20 w w' e := by
  go_enter Tryd.func50, Tryd.ntmps50
  go_wp2
  exact bodyPost_ret (v := .tuple #[.int .i64 0, .int .i64 20]) (by simp [results, Tryd.results50, go_sem]) rfl ⟨rfl, below3 w _ _ _⟩
set_option maxHeartbeats 1000000 in
theorem ob_9 (cp : Option Addr) (cn cc : Nat) (g : Int) (fp : Option Addr) (fn fc : Nat) (k : Int) (rp : Option Addr) (rl rc : Nat) (dp : Option Addr) (dl dc : Nat) (op a b : Int) (w : World) (h1 : dl ≤ 1048576) :
    Calls Tryd.prog 50 #[.agg #[.slice cp cn cc, .int .i64 g, .slice fp fn fc], .agg #[.int .i64 k, .slice rp rl rc, .slice dp dl dc], .agg #[.int .i64 op, .int .i64 a, .int .i64 b], .int .u8 9] w fun e w' => ObQ 0 ((dl : Int) - 1) w w' e := by
  have fw : IntKind.i64.wrap ((dl : Int) - 1) = (dl : Int) - 1 := by rw [IntKind.wrap_i64]; omega
  go_enter Tryd.func50, Tryd.ntmps50
  go_wp2
  go_region
  go_wp2
  exact bodyPost_ret (v := .tuple #[.int .i64 0, .int .i64 ((dl : Int) - 1)]) (by simp [results, Tryd.results50, go_sem]) rfl ⟨rfl, below_drewM (below3 w _ _ _)⟩
set_option maxHeartbeats 1000000 in
theorem ob_10 (cp : Option Addr) (cn cc : Nat) (g : Int) (fp : Option Addr) (fn fc : Nat) (k : Int) (rp : Option Addr) (rl rc : Nat) (dp : Option Addr) (dl dc : Nat) (op a b : Int) (w : World) :
    Calls Tryd.prog 50 #[.agg #[.slice cp cn cc, .int .i64 g, .slice fp fn fc], .agg #[.int .i64 k, .slice rp rl rc, .slice dp dl dc], .agg #[.int .i64 op, .int .i64 a, .int .i64 b], .int .u8 10] w fun e w' => ObQ 0 21 w w' e := by
  go_enter Tryd.func50, Tryd.ntmps50
  go_wp2
  exact bodyPost_ret (v := .tuple #[.int .i64 0, .int .i64 21]) (by simp [results, Tryd.results50, go_sem]) rfl ⟨rfl, below3 w _ _ _⟩
set_option maxHeartbeats 1000000 in
theorem ob_11 (cp : Option Addr) (cn cc : Nat) (g : Int) (fp : Option Addr) (fn fc : Nat) (k : Int) (rp : Option Addr) (rl rc : Nat) (dp : Option Addr) (dl dc : Nat) (op a b : Int) (w : World) :
    Calls Tryd.prog 50 #[.agg #[.slice cp cn cc, .int .i64 g, .slice fp fn fc], .agg #[.int .i64 k, .slice rp rl rc, .slice dp dl dc], .agg #[.int .i64 op, .int .i64 a, .int .i64 b], .int .u8 11] w fun e w' => ObQ 0 200 w w' e := by
  go_enter Tryd.func50, Tryd.ntmps50
  go_wp2
  exact bodyPost_ret (v := .tuple #[.int .i64 0, .int .i64 200]) (by simp [results, Tryd.results50, go_sem]) rfl ⟨rfl, below3 w _ _ _⟩
set_option maxHeartbeats 1000000 in
theorem ob_7 (cp : Option Addr) (cn cc : Nat) (g : Int) (fp : Option Addr) (fn fc : Nat) (k : Int) (rp : Option Addr) (rl rc : Nat) (dp : Option Addr) (dl dc : Nat) (op b : Int) (j : Nat) (m : Md) (w : World) (hF : Fu w fp fn fc m.funcs) (hj : j < fn) (hfn : fn ≤ 1048576) :
    Calls Tryd.prog 50 #[.agg #[.slice cp cn cc, .int .i64 g, .slice fp fn fc], .agg #[.int .i64 k, .slice rp rl rc, .slice dp dl dc], .agg #[.int .i64 op, .int .i64 j, .int .i64 b], .int .u8 7] w fun e w' => ObQ ((m.funcs.getD j fn0).free.length) ((m.funcs.getD j fn0).free.length) w w' e := by
  obtain ⟨bb, o, rfl, hbl, g'⟩ := hF.cells (by omega)
  obtain ⟨ap, al, ac, bp, bl, bc, he⟩ := g' j hj
  have HAL : Hid ((m.funcs.getD j fn0).free.length = al) := he.free.len
  have e1 : ∀ o1 o2 o3, (((w.alloc o1).alloc o2).alloc o3).cell? ⟨bb, o + j * 3 + 1, none⟩ = some (.slice ap al ac) := fun o1 o2 o3 => by
    rw [(below3 w o1 o2 o3).cell (p := ⟨bb, o + j * 3 + 1, none⟩) hbl]; exact he.c1
  have hal := small_of he.free.cap he.free.big
  clear g' he hF
  rw [HAL.out]
  go_enter Tryd.func50, Tryd.ntmps50
  go_wp2
  exact bodyPost_ret (v := .tuple #[.int .i64 (al : Int), .int .i64 (al : Int)]) (by simp [results, Tryd.results50, go_sem]) rfl ⟨rfl, below3 w _ _ _⟩
set_option maxHeartbeats 1000000 in
theorem validOperand_c (cp : Option Addr) (cn cc : Nat) (g : Int) (fp : Option Addr) (fn fc : Nat) (k : Int) (rp : Option Addr) (rl rc : Nat) (dp : Option Addr) (dl dc : Nat) (op a b u n lo hi : Int) (w : World) (hO : ∀ w1, Below w.heap.size w w1 → Calls Tryd.prog 50 #[.agg #[.slice cp cn cc, .int .i64 g, .slice fp fn fc], .agg #[.int .i64 k, .slice rp rl rc, .slice dp dl dc], .agg #[.int .i64 op, .int .i64 a, .int .i64 b], .int .u8 u] w1 fun e w' => ObQ lo hi w1 w' e) :
    Calls Tryd.prog 40 #[.agg #[.slice cp cn cc, .int .i64 g, .slice fp fn fc], .agg #[.int .i64 k, .slice rp rl rc, .slice dp dl dc], .agg #[.int .i64 op, .int .i64 a, .int .i64 b], .int .u8 u, .int .i64 n] w fun e w' => e = .returned (.bool (decide (lo ≤ n) && decide (n ≤ hi))) ∧ Below w.heap.size w w' := by
  have HO : Hid (∀ w1, Below w.heap.size w w1 → Calls Tryd.prog 50 #[.agg #[.slice cp cn cc, .int .i64 g, .slice fp fn fc], .agg #[.int .i64 k, .slice rp rl rc, .slice dp dl dc], .agg #[.int .i64 op, .int .i64 a, .int .i64 b], .int .u8 u] w1 fun e w' => ObQ lo hi w1 w' e) := hO
  clear hO
  by_cases h : lo ≤ n
  · have h1 : decide (lo ≤ n) = true := decide_eq_true h
    rw [h1]
    go_enter Tryd.func40, Tryd.ntmps40
    go_wp2_with fail
    refine (HO.out _ (below3 w _ _ _)).mono ?_
    rintro e w1 ⟨rfl, hb1⟩
    have HB : Hid (Below w.heap.size w w1) := (below3 w _ _ _).trans (hb1.mono (by simp; omega))
    clear hb1
    go_wp2
    go_ret
    exact ⟨by simp, HB.out⟩
  · have h1 : decide (lo ≤ n) = false := decide_eq_false h
    rw [h1]
    go_enter Tryd.func40, Tryd.ntmps40
    go_wp2_with fail
    refine (HO.out _ (below3 w _ _ _)).mono ?_
    rintro e w1 ⟨rfl, hb1⟩
    have HB : Hid (Below w.heap.size w w1) := (below3 w _ _ _).trans (hb1.mono (by simp; omega))
    clear hb1
    go_wp2
    go_ret
    exact ⟨by simp, HB.out⟩
end Go.Proofs.YtlpibogllmlacaaDoor
