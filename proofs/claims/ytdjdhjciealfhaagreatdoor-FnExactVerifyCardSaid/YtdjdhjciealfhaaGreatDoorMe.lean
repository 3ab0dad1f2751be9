import Derived.Test.YtdjdhjciealfhaaGreatDoorMa
import Derived.Deep.Cut
namespace Go.Proofs.YtdjdhjciealfhaaGreatDoor
open Go.RowKit Ch1
/-- operandBounds answers lo and hi. -/
def ObQ (lo hi : Int) (w w' : World) (e : Ending) : Prop := e = .returned (.tuple #[.int .i64 lo, .int .i64 hi]) ∧ Below w.heap.size w w'
set_option maxHeartbeats 1000000 in
theorem ob_0 (cp : Option Addr) (cn cc : Nat) (g : Int) (fp : Option Addr) (fn fc : Nat) (k : Int) (rp : Option Addr) (rl rc : Nat) (dp : Option Addr) (dl dc : Nat) (op a b : Int) (w : World) :
    Calls Tryz.prog 106 #[.agg #[.slice cp cn cc, .int .i64 g, .slice fp fn fc], .agg #[.int .i64 k, .slice rp rl rc, .slice dp dl dc], .agg #[.int .i64 op, .int .i64 a, .int .i64 b], .int .u8 0] w fun e w' => ObQ 0 0 w w' e := by
  go_enter Tryz.func106, Tryz.ntmps106
  go_wp2
  exact bodyPost_ret (v := .tuple #[.int .i64 0, .int .i64 0]) (by simp [results, Tryz.results106, go_sem]) rfl ⟨rfl, below3 w _ _ _⟩
set_option maxHeartbeats 1000000 in
theorem ob_1 (cp : Option Addr) (cn cc : Nat) (g : Int) (fp : Option Addr) (fn fc : Nat) (k : Int) (rp : Option Addr) (rl rc : Nat) (dp : Option Addr) (dl dc : Nat) (op a b : Int) (w : World) (h1 : cn ≤ 1048576) :
    Calls Tryz.prog 106 #[.agg #[.slice cp cn cc, .int .i64 g, .slice fp fn fc], .agg #[.int .i64 k, .slice rp rl rc, .slice dp dl dc], .agg #[.int .i64 op, .int .i64 a, .int .i64 b], .int .u8 1] w fun e w' => ObQ 0 ((cn : Int) - 1) w w' e := by
  have fw : IntKind.i64.wrap ((cn : Int) - 1) = (cn : Int) - 1 := by rw [IntKind.wrap_i64]; omega
  go_enter Tryz.func106, Tryz.ntmps106
  go_wp2
  go_region
  go_wp2
  exact bodyPost_ret (v := .tuple #[.int .i64 0, .int .i64 ((cn : Int) - 1)]) (by simp [results, Tryz.results106, go_sem]) rfl ⟨rfl, below_drewM (below3 w _ _ _)⟩
set_option maxHeartbeats 1000000 in
theorem ob_2 (cp : Option Addr) (cn cc : Nat) (g : Int) (fp : Option Addr) (fn fc : Nat) (k : Int) (rp : Option Addr) (rl rc : Nat) (dp : Option Addr) (dl dc : Nat) (op a b : Int) (w : World) :
    Calls Tryz.prog 106 #[.agg #[.slice cp cn cc, .int .i64 g, .slice fp fn fc], .agg #[.int .i64 k, .slice rp rl rc, .slice dp dl dc], .agg #[.int .i64 op, .int .i64 a, .int .i64 b], .int .u8 2] w fun e w' => ObQ 0 199 w w' e := by
  go_enter Tryz.func106, Tryz.ntmps106
  go_wp2
  exact bodyPost_ret (v := .tuple #[.int .i64 0, .int .i64 199]) (by simp [results, Tryz.results106, go_sem]) rfl ⟨rfl, below3 w _ _ _⟩
set_option maxHeartbeats 1000000 in
theorem ob_3 (cp : Option Addr) (cn cc : Nat) (g : Int) (fp : Option Addr) (fn fc : Nat) (k : Int) (rp : Option Addr) (rl rc : Nat) (dp : Option Addr) (dl dc : Nat) (op a b : Int) (w : World) (h1 : rl ≤ 1048576) :
    Calls Tryz.prog 106 #[.agg #[.slice cp cn cc, .int .i64 g, .slice fp fn fc], .agg #[.int .i64 k, .slice rp rl rc, .slice dp dl dc], .agg #[.int .i64 op, .int .i64 a, .int .i64 b], .int .u8 3] w fun e w' => ObQ 0 ((rl : Int) - 1) w w' e := by
  have fw : IntKind.i64.wrap ((rl : Int) - 1) = (rl : Int) - 1 := by rw [IntKind.wrap_i64]; omega
  go_enter Tryz.func106, Tryz.ntmps106
  go_wp2
  go_region
  go_wp2
  exact bodyPost_ret (v := .tuple #[.int .i64 0, .int .i64 ((rl : Int) - 1)]) (by simp [results, Tryz.results106, go_sem]) rfl ⟨rfl, below_drewM (below3 w _ _ _)⟩
set_option maxHeartbeats 1000000 in
theorem ob_4 (cp : Option Addr) (cn cc : Nat) (g : Int) (fp : Option Addr) (fn fc : Nat) (k : Int) (rp : Option Addr) (rl rc : Nat) (dp : Option Addr) (dl dc : Nat) (op a b : Int) (w : World) (h0 : 0 ≤ g) (h1 : g ≤ 200) :
    Calls Tryz.prog 106 #[.agg #[.slice cp cn cc, .int .i64 g, .slice fp fn fc], .agg #[.int .i64 k, .slice rp rl rc, .slice dp dl dc], .agg #[.int .i64 op, .int .i64 a, .int .i64 b], .int .u8 4] w fun e w' => ObQ 0 (g - 1) w w' e := by
  have fw : IntKind.i64.wrap (g - 1) = g - 1 := by rw [IntKind.wrap_i64]; omega
  go_enter Tryz.func106, Tryz.ntmps106
  go_wp2
  go_region
  go_wp2
  exact bodyPost_ret (v := .tuple #[.int .i64 0, .int .i64 (g - 1)]) (by simp [results, Tryz.results106, go_sem]) rfl ⟨rfl, below_drewM (below3 w _ _ _)⟩
set_option maxHeartbeats 1000000 in
theorem ob_5 (cp : Option Addr) (cn cc : Nat) (g : Int) (fp : Option Addr) (fn fc : Nat) (k : Int) (rp : Option Addr) (rl rc : Nat) (dp : Option Addr) (dl dc : Nat) (op a b : Int) (w : World) :
    Calls Tryz.prog 106 #[.agg #[.slice cp cn cc, .int .i64 g, .slice fp fn fc], .agg #[.int .i64 k, .slice rp rl rc, .slice dp dl dc], .agg #[.int .i64 op, .int .i64 a, .int .i64 b], .int .u8 5] w fun e w' => ObQ 0 1 w w' e := by
  go_enter Tryz.func106, Tryz.ntmps106
  go_wp2
  exact bodyPost_ret (v := .tuple #[.int .i64 0, .int .i64 1]) (by simp [results, Tryz.results106, go_sem]) rfl ⟨rfl, below3 w _ _ _⟩
set_option maxHeartbeats 1000000 in
theorem ob_6 (cp : Option Addr) (cn cc : Nat) (g : Int) (fp : Option Addr) (fn fc : Nat) (k : Int) (rp : Option Addr) (rl rc : Nat) (dp : Option Addr) (dl dc : Nat) (op a b : Int) (w : World) (h1 : fn ≤ 1048576) :
    Calls Tryz.prog 106 #[.agg #[.slice cp cn cc, .int .i64 g, .slice fp fn fc], .agg #[.int .i64 k, .slice rp rl rc, .slice dp dl dc], .agg #[.int .i64 op, .int .i64 a, .int .i64 b], .int .u8 6] w fun e w' => ObQ 1 ((fn : Int) - 1) w w' e := by
  have fw : IntKind.i64.wrap ((fn : Int) - 1) = (fn : Int) - 1 := by rw [IntKind.wrap_i64]; omega
  go_enter Tryz.func106, Tryz.ntmps106
  go_wp2
  go_region
  go_wp2
  exact bodyPost_ret (v := .tuple #[.int .i64 1, .int .i64 ((fn : Int) - 1)]) (by simp [results, Tryz.results106, go_sem]) rfl ⟨rfl, below_drewM (below3 w _ _ _)⟩
set_option maxHeartbeats 1000000 in
theorem ob_8 (cp : Option Addr) (cn cc : Nat) (g : Int) (fp : Option Addr) (fn fc : Nat) (k : Int) (rp : Option Addr) (rl rc : Nat) (dp : Option Addr) (dl dc : Nat) (op a b : Int) (w : World) :
    Calls Tryz.prog 106 #[.agg #[.slice cp cn cc, .int .i64 g, .slice fp fn fc], .agg #[.int .i64 k, .slice rp rl rc, .slice dp dl dc], .agg #[.int .i64 op, .int .i64 a, .int .i64 b], .int .u8 8] w fun e w' => ObQ 0 20 w w' e := by
  go_enter Tryz.func106, Tryz.ntmps106
  go_wp2
  exact bodyPost_ret (v := .tuple #[.int .i64 0, .int .i64 20]) (by simp [results, Tryz.results106, go_sem]) rfl ⟨rfl, below3 w _ _ _⟩
set_option maxHeartbeats 1000000 in
theorem ob_9 (cp : Option Addr) (cn cc : Nat) (g : Int) (fp : Option Addr) (fn fc : Nat) (k : Int) (rp : Option Addr) (rl rc : Nat) (dp : Option Addr) (dl dc : Nat) (op a b : Int) (w : World) (h1 : dl ≤ 1048576) :
    Calls Tryz.prog 106 #[.agg #[.slice cp cn cc, .int .i64 g, .slice fp fn fc], .agg #[.int .i64 k, .slice rp rl rc, .slice dp dl dc], .agg #[.int .i64 op, .int .i64 a, .int .i64 b], .int .u8 9] w fun e w' => ObQ 0 ((dl : Int) - 1) w w' e := by
  have fw : IntKind.i64.wrap ((dl : Int) - 1) = (dl : Int) - 1 := by rw [IntKind.wrap_i64]; omega
  go_enter Tryz.func106, Tryz.ntmps106
  go_wp2
  go_region
  go_wp2
  exact bodyPost_ret (v := .tuple #[.int .i64 0, .int .i64 ((dl : Int) - 1)]) (by simp [results, Tryz.results106, go_sem]) rfl ⟨rfl, below_drewM (below3 w _ _ _)⟩
set_option maxHeartbeats 1000000 in
theorem ob_10 (cp : Option Addr) (cn cc : Nat) (g : Int) (fp : Option Addr) (fn fc : Nat) (k : Int) (rp : Option Addr) (rl rc : Nat) (dp : Option Addr) (dl dc : Nat) (op a b : Int) (w : World) :
    Calls Tryz.prog 106 #[.agg #[.slice cp cn cc, .int .i64 g, .slice fp fn fc], .agg #[.int .i64 k, .slice rp rl rc, .slice dp dl dc], .agg #[.int .i64 op, .int .i64 a, .int .i64 b], .int .u8 10] w fun e w' => ObQ 0 21 w w' e := by
  go_enter Tryz.func106, Tryz.ntmps106
  go_wp2
  exact bodyPost_ret (v := .tuple #[.int .i64 0, .int .i64 21]) (by simp [results, Tryz.results106, go_sem]) rfl ⟨rfl, below3 w _ _ _⟩
set_option maxHeartbeats 1000000 in
theorem ob_11 (cp : Option Addr) (cn cc : Nat) (g : Int) (fp : Option Addr) (fn fc : Nat) (k : Int) (rp : Option Addr) (rl rc : Nat) (dp : Option Addr) (dl dc : Nat) (op a b : Int) (w : World) :
    Calls Tryz.prog 106 #[.agg #[.slice cp cn cc, .int .i64 g, .slice fp fn fc], .agg #[.int .i64 k, .slice rp rl rc, .slice dp dl dc], .agg #[.int .i64 op, .int .i64 a, .int .i64 b], .int .u8 11] w fun e w' => ObQ 0 200 w w' e := by
  go_enter Tryz.func106, Tryz.ntmps106
  go_wp2
  exact bodyPost_ret (v := .tuple #[.int .i64 0, .int .i64 200]) (by simp [results, Tryz.results106, go_sem]) rfl ⟨rfl, below3 w _ _ _⟩
set_option maxHeartbeats 1000000 in
theorem ob_7 (cp : Option Addr) (cn cc : Nat) (g : Int) (fp : Option Addr) (fn fc : Nat) (k : Int) (rp : Option Addr) (rl rc : Nat) (dp : Option Addr) (dl dc : Nat) (op b : Int) (j : Nat) (m : Md) (w : World) (hF : Fu w fp fn fc m.funcs) (hj : j < fn) (hfn : fn ≤ 1048576) :
    Calls Tryz.prog 106 #[.agg #[.slice cp cn cc, .int .i64 g, .slice fp fn fc], .agg #[.int .i64 k, .slice rp rl rc, .slice dp dl dc], .agg #[.int .i64 op, .int .i64 j, .int .i64 b], .int .u8 7] w fun e w' => ObQ ((m.funcs.getD j fn0).free.length) ((m.funcs.getD j fn0).free.length) w w' e := by
  obtain ⟨bb, o, rfl, hbl, g'⟩ := hF.cells (by omega)
  obtain ⟨ap, al, ac, bp, bl, bc, he⟩ := g' j hj
  have HAL : Hid ((m.funcs.getD j fn0).free.length = al) := he.free.len
  have e1 : ∀ o1 o2 o3, (((w.alloc o1).alloc o2).alloc o3).cell? ⟨bb, o + j * 3 + 1, none⟩ = some (.slice ap al ac) := fun o1 o2 o3 => by
    rw [(below3 w o1 o2 o3).cell (p := ⟨bb, o + j * 3 + 1, none⟩) hbl]; exact he.c1
  have hal := small_of he.free.cap he.free.big
  clear g' he hF
  rw [HAL.out]
  go_enter Tryz.func106, Tryz.ntmps106
  go_wp2
  exact bodyPost_ret (v := .tuple #[.int .i64 (al : Int), .int .i64 (al : Int)]) (by simp [results, Tryz.results106, go_sem]) rfl ⟨rfl, below3 w _ _ _⟩
set_option maxHeartbeats 1000000 in
theorem validOperand_c (cp : Option Addr) (cn cc : Nat) (g : Int) (fp : Option Addr) (fn fc : Nat) (k : Int) (rp : Option Addr) (rl rc : Nat) (dp : Option Addr) (dl dc : Nat) (op a b u n lo hi : Int) (w : World) (hO : ∀ w1, Below w.heap.size w w1 → Calls Tryz.prog 106 #[.agg #[.slice cp cn cc, .int .i64 g, .slice fp fn fc], .agg #[.int .i64 k, .slice rp rl rc, .slice dp dl dc], .agg #[.int .i64 op, .int .i64 a, .int .i64 b], .int .u8 u] w1 fun e w' => ObQ lo hi w1 w' e) :
    Calls Tryz.prog 89 #[.agg #[.slice cp cn cc, .int .i64 g, .slice fp fn fc], .agg #[.int .i64 k, .slice rp rl rc, .slice dp dl dc], .agg #[.int .i64 op, .int .i64 a, .int .i64 b], .int .u8 u, .int .i64 n] w fun e w' => e = .returned (.bool (decide (lo ≤ n) && decide (n ≤ hi))) ∧ Below w.heap.size w w' := by
  have HO : Hid (∀ w1, Below w.heap.size w w1 → Calls Tryz.prog 106 #[.agg #[.slice cp cn cc, .int .i64 g, .slice fp fn fc], .agg #[.int .i64 k, .slice rp rl rc, .slice dp dl dc], .agg #[.int .i64 op, .int .i64 a, .int .i64 b], .int .u8 u] w1 fun e w' => ObQ lo hi w1 w' e) := hO
  clear hO
  by_cases h : lo ≤ n
  · have h1 : decide (lo ≤ n) = true := decide_eq_true h
    rw [h1]
    go_enter Tryz.func89, Tryz.ntmps89
    go_wp2_with fail
    refine (HO.out _ (below3 w _ _ _)).mono ?_
    rintro e w1 ⟨rfl, hb1⟩
    have HB : Hid (Below w.heap.size w w1) := (below3 w _ _ _).trans (hb1.mono (by simp; omega))
    clear hb1
    go_wp2
    go_ret
    exact ⟨by simp, HB.out⟩
  · have h1 : decide (lo ≤ n) = false := decide_eq_false h
    rw [h1]
    go_enter Tryz.func89, Tryz.ntmps89
    go_wp2_with fail
    refine (HO.out _ (below3 w _ _ _)).mono ?_
    rintro e w1 ⟨rfl, hb1⟩
    have HB : Hid (Below w.heap.size w w1) := (below3 w _ _ _).trans (hb1.mono (by simp; omega))
    clear hb1
    go_wp2
    go_ret
    exact ⟨by simp, HB.out⟩
end Go.Proofs.YtdjdhjciealfhaaGreatDoor
namespace Go.Proofs.YtdjdhjciealfhaaGreatDoor
open Go.RowKit Ch1
/-- What A and B of an instruction stand for, by the table. -/
def useA (op : Nat) : Int := ([1, 2, 3, 4, 4, 5, 0, 0, 6, 8, 8, 0, 9, 9, 10, 11, 0, 0] : List Int).getD op 0
def useB (op : Nat) : Int := if op = 8 then 7 else 0
/-- Row op of the table, as far as it is read. -/
structure TbR (w : World) (op : Nat) (v0 : ByteArray) (v3 v4 v5 v6 : Int) (v7 v8 : Bool) : Prop where
  c0 : w.cell? ⟨0, op * 9, none⟩ = some (.string v0)
  c1 : w.cell? ⟨0, op * 9 + 1, none⟩ = some (.int .u8 (useA op))
  c2 : w.cell? ⟨0, op * 9 + 2, none⟩ = some (.int .u8 (useB op))
  c3 : w.cell? ⟨0, op * 9 + 3, none⟩ = some (.int .u16 v3)
  c4 : w.cell? ⟨0, op * 9 + 4, none⟩ = some (.int .u16 v4)
  c5 : w.cell? ⟨0, op * 9 + 5, none⟩ = some (.int .u16 v5)
  c6 : w.cell? ⟨0, op * 9 + 6, none⟩ = some (.int .u16 v6)
  c7 : w.cell? ⟨0, op * 9 + 7, none⟩ = some (.bool v7)
  c8 : w.cell? ⟨0, op * 9 + 8, none⟩ = some (.bool v8)
/-- The table of instructions lies in its block. -/
structure Tb (w : World) : Prop where
  lt : 0 < w.heap.size
  row : ∀ op, op < 18 → ∃ v0 v3 v4 v5 v6 v7 v8, TbR w op v0 v3 v4 v5 v6 v7 v8
theorem TbR.below {w w' : World} {op : Nat} {v0 : ByteArray} {v3 v4 v5 v6 : Int} {v7 v8 : Bool} (h : TbR w op v0 v3 v4 v5 v6 v7 v8) (hlt : 0 < w.heap.size) (hb : Below w.heap.size w w') : TbR w' op v0 v3 v4 v5 v6 v7 v8 :=
  ⟨by rw [hb.cell (p := ⟨0, op * 9, none⟩) hlt]; exact h.c0, by rw [hb.cell (p := ⟨0, op * 9 + 1, none⟩) hlt]; exact h.c1, by rw [hb.cell (p := ⟨0, op * 9 + 2, none⟩) hlt]; exact h.c2, by rw [hb.cell (p := ⟨0, op * 9 + 3, none⟩) hlt]; exact h.c3, by rw [hb.cell (p := ⟨0, op * 9 + 4, none⟩) hlt]; exact h.c4, by rw [hb.cell (p := ⟨0, op * 9 + 5, none⟩) hlt]; exact h.c5, by rw [hb.cell (p := ⟨0, op * 9 + 6, none⟩) hlt]; exact h.c6, by rw [hb.cell (p := ⟨0, op * 9 + 7, none⟩) hlt]; exact h.c7, by rw [hb.cell (p := ⟨0, op * 9 + 8, none⟩) hlt]; exact h.c8⟩
theorem Tb.below {w w' : World} (h : Tb w) (hb : Below w.heap.size w w') : Tb w' :=
  ⟨Nat.lt_of_lt_of_le h.lt hb.size, fun op ho => by
    obtain ⟨v0, v3, v4, v5, v6, v7, v8, hr⟩ := h.row op ho
    exact ⟨v0, v3, v4, v5, v6, v7, v8, hr.below h.lt hb⟩⟩
theorem below4 (w : World) (o o2 o3 o4 : Obj) : Below w.heap.size w ((((w.alloc o).alloc o2).alloc o3).alloc o4) := (below3 w o o2 o3).alloc (by simp; omega) _
set_option maxHeartbeats 1000000 in
theorem validIns_out (cp : Option Addr) (cn cc : Nat) (g : Int) (fp : Option Addr) (fn fc : Nat) (k : Int) (rp : Option Addr) (rl rc : Nat) (dp : Option Addr) (dl dc : Nat) (op a b : Int) (w : World) (h : op < 0 ∨ 17 < op) :
    Calls Tryz.prog 68 #[.agg #[.slice cp cn cc, .int .i64 g, .slice fp fn fc], .agg #[.int .i64 k, .slice rp rl rc, .slice dp dl dc], .agg #[.int .i64 op, .int .i64 a, .int .i64 b]] w fun e w' => e = .returned (.bool false) ∧ Below w.heap.size w w' := by
  by_cases h0 : op < 0
  · have d1 : decide (op < 0) = true := decide_eq_true h0
    go_enter Tryz.func68, Tryz.ntmps68
    go_wp2
    go_ret
    exact ⟨rfl, below3 w _ _ _⟩
  · have d1 : decide (op < 0) = false := decide_eq_false h0
    have d2 : decide (18 ≤ op) = true := decide_eq_true (by omega)
    go_enter Tryz.func68, Tryz.ntmps68
    go_wp2
    go_ret
    exact ⟨rfl, below3 w _ _ _⟩
set_option maxRecDepth 20000 in
set_option maxHeartbeats 4000000 in
theorem validIns_in (cp : Option Addr) (cn cc : Nat) (g : Int) (fp : Option Addr) (fn fc : Nat) (k : Int) (rp : Option Addr) (rl rc : Nat) (dp : Option Addr) (dl dc : Nat) (j : Nat) (a b la ha lb hb : Int) (w : World) (hj : j < 18) (hT : Tb w)
    (hA : ∀ w1, Below w.heap.size w w1 → Calls Tryz.prog 106 #[.agg #[.slice cp cn cc, .int .i64 g, .slice fp fn fc], .agg #[.int .i64 k, .slice rp rl rc, .slice dp dl dc], .agg #[.int .i64 j, .int .i64 a, .int .i64 b], .int .u8 (useA j)] w1 fun e w' => ObQ la ha w1 w' e)
    (hB : la ≤ a → a ≤ ha → ∀ w1, Below w.heap.size w w1 → Calls Tryz.prog 106 #[.agg #[.slice cp cn cc, .int .i64 g, .slice fp fn fc], .agg #[.int .i64 k, .slice rp rl rc, .slice dp dl dc], .agg #[.int .i64 j, .int .i64 a, .int .i64 b], .int .u8 (useB j)] w1 fun e w' => ObQ lb hb w1 w' e) :
    Calls Tryz.prog 68 #[.agg #[.slice cp cn cc, .int .i64 g, .slice fp fn fc], .agg #[.int .i64 k, .slice rp rl rc, .slice dp dl dc], .agg #[.int .i64 j, .int .i64 a, .int .i64 b]] w fun e w' => e = .returned (.bool ((decide (la ≤ a) && decide (a ≤ ha)) && (decide (lb ≤ b) && decide (b ≤ hb)))) ∧ Below w.heap.size w w' := by
  obtain ⟨v0, v3, v4, v5, v6, v7, v8, hr⟩ := hT.row j hj
  have t0 : ∀ o1 o2 o3, (((w.alloc o1).alloc o2).alloc o3).cell? ⟨0, j * 9, none⟩ = some (.string v0) := fun o1 o2 o3 => (hr.below hT.lt (below3 w o1 o2 o3)).c0
  have t1 : ∀ o1 o2 o3, (((w.alloc o1).alloc o2).alloc o3).cell? ⟨0, j * 9 + 1, none⟩ = some (.int .u8 (useA j)) := fun o1 o2 o3 => (hr.below hT.lt (below3 w o1 o2 o3)).c1
  have t2 : ∀ o1 o2 o3, (((w.alloc o1).alloc o2).alloc o3).cell? ⟨0, j * 9 + 2, none⟩ = some (.int .u8 (useB j)) := fun o1 o2 o3 => (hr.below hT.lt (below3 w o1 o2 o3)).c2
  have t3 : ∀ o1 o2 o3, (((w.alloc o1).alloc o2).alloc o3).cell? ⟨0, j * 9 + 3, none⟩ = some (.int .u16 v3) := fun o1 o2 o3 => (hr.below hT.lt (below3 w o1 o2 o3)).c3
  have t4 : ∀ o1 o2 o3, (((w.alloc o1).alloc o2).alloc o3).cell? ⟨0, j * 9 + 4, none⟩ = some (.int .u16 v4) := fun o1 o2 o3 => (hr.below hT.lt (below3 w o1 o2 o3)).c4
  have t5 : ∀ o1 o2 o3, (((w.alloc o1).alloc o2).alloc o3).cell? ⟨0, j * 9 + 5, none⟩ = some (.int .u16 v5) := fun o1 o2 o3 => (hr.below hT.lt (below3 w o1 o2 o3)).c5
  have t6 : ∀ o1 o2 o3, (((w.alloc o1).alloc o2).alloc o3).cell? ⟨0, j * 9 + 6, none⟩ = some (.int .u16 v6) := fun o1 o2 o3 => (hr.below hT.lt (below3 w o1 o2 o3)).c6
  have t7 : ∀ o1 o2 o3, (((w.alloc o1).alloc o2).alloc o3).cell? ⟨0, j * 9 + 7, none⟩ = some (.bool v7) := fun o1 o2 o3 => (hr.below hT.lt (below3 w o1 o2 o3)).c7
  have t8 : ∀ o1 o2 o3, (((w.alloc o1).alloc o2).alloc o3).cell? ⟨0, j * 9 + 8, none⟩ = some (.bool v8) := fun o1 o2 o3 => (hr.below hT.lt (below3 w o1 o2 o3)).c8
  have HA : Hid (∀ w1, Below w.heap.size w w1 → Calls Tryz.prog 106 #[.agg #[.slice cp cn cc, .int .i64 g, .slice fp fn fc], .agg #[.int .i64 k, .slice rp rl rc, .slice dp dl dc], .agg #[.int .i64 j, .int .i64 a, .int .i64 b], .int .u8 (useA j)] w1 fun e w' => ObQ la ha w1 w' e) := hA
  have HB : Hid (la ≤ a → a ≤ ha → ∀ w1, Below w.heap.size w w1 → Calls Tryz.prog 106 #[.agg #[.slice cp cn cc, .int .i64 g, .slice fp fn fc], .agg #[.int .i64 k, .slice rp rl rc, .slice dp dl dc], .agg #[.int .i64 j, .int .i64 a, .int .i64 b], .int .u8 (useB j)] w1 fun e w' => ObQ lb hb w1 w' e) := hB
  have d1 : decide ((j : Int) < 0) = false := decide_eq_false (by omega)
  have d2 : decide ((18 : Int) ≤ (j : Int)) = false := decide_eq_false (by omega)
  have d3 : (j : Int) < 18 := by omega
  obtain ⟨ua, hua⟩ : ∃ u, useA j = u := ⟨_, rfl⟩
  obtain ⟨ub, hub⟩ : ∃ u, useB j = u := ⟨_, rfl⟩
  rw [hua] at t1 HA
  rw [hub] at t2 HB
  clear hr hT hA hB hua hub
  obtain ⟨ra, hra⟩ : ∃ r, (decide (la ≤ a) && decide (a ≤ ha)) = r := ⟨_, rfl⟩
  rw [hra]
  go_enter Tryz.func68, Tryz.ntmps68
  go_wp2_with fail
  refine (validOperand_c cp cn cc g fp fn fc k rp rl rc dp dl dc j a b ua a la ha _ (fun w1 h1 => HA.out w1 ((below4 w _ _ _ _).trans (h1.mono (by simp; omega))))).mono ?_
  rintro e w1 ⟨rfl, hb1⟩
  rw [hra]
  have HB1 : Hid (Below w.heap.size w w1) := (below4 w _ _ _ _).trans (hb1.mono (by simp; omega))
  have HX : Hid (B3 w1 w.heap.size (.slice cp cn cc) (.int .i64 g) (.slice fp fn fc)) := ((((B3.new w (.slice cp cn cc) (.int .i64 g) (.slice fp fn fc) 33).below (below1 _ _)).below (below1 _ _)).below (below1 _ _)).below hb1
  have HY : Hid (B3 w1 (w.heap.size + 1) (.int .i64 k) (.slice rp rl rc) (.slice dp dl dc)) := by
    have := (((B3.new (w.alloc (.cells #[.slice cp cn cc, .int .i64 g, .slice fp fn fc] 33)) (.int .i64 k) (.slice rp rl rc) (.slice dp dl dc) 48).below (below1 _ _)).below (below1 _ _)).below hb1
    unfold Hid; simpa using this
  have HZ : Hid (B3 w1 (w.heap.size + 1 + 1) (.int .i64 j) (.int .i64 a) (.int .i64 b)) := by
    have := ((B3.new ((w.alloc (.cells #[.slice cp cn cc, .int .i64 g, .slice fp fn fc] 33)).alloc (.cells #[.int .i64 k, .slice rp rl rc, .slice dp dl dc] 48)) (.int .i64 j) (.int .i64 a) (.int .i64 b) 73).below (below1 _ _)).below hb1
    unfold Hid; simpa using this
  have r2 : w1.cell? ⟨w.heap.size + 1 + 1 + 1, 2, none⟩ = some (.int .u8 ub) := by
    rw [hb1.cell (p := ⟨w.heap.size + 1 + 1 + 1, 2, none⟩) (by simp)]; simp [go_sem]
  have x0 := HX.out.c0
  have x1 := HX.out.c1
  have x2 := HX.out.c2
  have y0 := HY.out.c0
  have y1 := HY.out.c1
  have y2 := HY.out.c2
  have z0 := HZ.out.c0
  have z1 := HZ.out.c1
  have z2 := HZ.out.c2
  clear hb1 t0 t1 t2 t3 t4 t5 t6 t7 t8
  cases ra
  · go_wp2
    go_ret
    exact ⟨by simp, HB1.out⟩
  · have hla : la ≤ a ∧ a ≤ ha := by simpa using hra
    go_wp2_with fail
    refine (validOperand_c cp cn cc g fp fn fc k rp rl rc dp dl dc j a b ub b lb hb _ (fun w2 h2 => HB.out hla.1 hla.2 w2 (HB1.out.trans (h2.mono HB1.out.size)))).mono ?_
    rintro e w2 ⟨rfl, hb2⟩
    have HB2 : Hid (Below w.heap.size w w2) := HB1.out.trans (hb2.mono HB1.out.size)
    clear hb2
    go_wp2
    go_ret
    exact ⟨by simp, HB2.out⟩
/-- validIns tells whether an instruction is one that may stand. -/
theorem validIns_c (cp : Option Addr) (cn cc : Nat) (fp : Option Addr) (fn fc : Nat) (k : Int) (rp : Option Addr) (rl rc : Nat) (dp : Option Addr) (dl dc : Nat) (x : In) (m : Md) (f : Fn) (w : World) (hA : InsAt w cp cn cc m.globals fp fn fc rl dl m f) (hT : Tb w) (hF : Fits cn fn m) (hrl : rl ≤ 1048576) (hdl : dl ≤ 1048576) (hg0 : 0 ≤ m.globals) (hg1 : m.globals ≤ 200) :
    Calls Tryz.prog 68 #[.agg #[.slice cp cn cc, .int .i64 m.globals, .slice fp fn fc], .agg #[.int .i64 k, .slice rp rl rc, .slice dp dl dc], .agg #[.int .i64 x.op, .int .i64 x.a, .int .i64 x.b]] w fun e w' => ∃ r, e = .returned (.bool r) ∧ (r = true ↔ InsOk m f x) ∧ Below w.heap.size w w' := by
  obtain ⟨op, a, b⟩ := x
  simp only
  by_cases h0 : op < 0 ∨ 17 < op
  · refine (validIns_out cp cn cc m.globals fp fn fc k rp rl rc dp dl dc op a b w h0).mono fun e w' h => ⟨false, h.1, ?_, h.2⟩
    simp [insOk_out m f ⟨op, a, b⟩ h0]
  obtain ⟨j, hj⟩ : ∃ j : Nat, op = j := ⟨op.toNat, by omega⟩
  subst hj
  have hj18 : j < 18 := by omega
  have hcn := hF.hcn
  have hfn := hF.hfn
  have hc1 : (m.consts.length : Int) = cn := by have := hA.mo.cs.len; omega
  have hfl : m.funcs.length = fn := hA.mo.fs.len
  have hfr : (f.free.length : Int) = rl := by have := hA.fr; omega
  have hco : (f.code.length : Int) = dl := by have := hA.co; omega
  by_cases h8 : j = 8
  · subst h8
    refine (validIns_in cp cn cc m.globals fp fn fc k rp rl rc dp dl dc 8 a b 1 ((fn : Int) - 1) ((m.funcs.getD a.toNat fn0).free.length) ((m.funcs.getD a.toNat fn0).free.length) w (by omega) hT (fun w1 _ => ob_6 cp cn cc m.globals fp fn fc k rp rl rc dp dl dc 8 a b w1 hfn) (fun h1 h2 w1 hb => ?_)).mono fun e w' h => ⟨_, h.1, ?_, h.2⟩
    · obtain ⟨i, hi⟩ : ∃ i : Nat, a = i := ⟨a.toNat, by omega⟩
      subst hi
      rw [Int.toNat_natCast]
      exact ob_7 cp cn cc m.globals fp fn fc k rp rl rc dp dl dc 8 b i m w1 (hA.mo.fs.below hb) (by omega) hfn
    · rw [show ((8 : Nat) : Int) = 8 from rfl, insOk_8 m f a b, hfl]
      simp only [Bool.and_eq_true, decide_eq_true_eq]
      omega
  · have key : ∀ hi N : Int, bnd m f j = N → hi = N - 1 → useB j = 0 → (∀ w1, Below w.heap.size w w1 → Calls Tryz.prog 106 #[.agg #[.slice cp cn cc, .int .i64 m.globals, .slice fp fn fc], .agg #[.int .i64 k, .slice rp rl rc, .slice dp dl dc], .agg #[.int .i64 j, .int .i64 a, .int .i64 b], .int .u8 (useA j)] w1 fun e w' => ObQ 0 hi w1 w' e) →
        Calls Tryz.prog 68 #[.agg #[.slice cp cn cc, .int .i64 m.globals, .slice fp fn fc], .agg #[.int .i64 k, .slice rp rl rc, .slice dp dl dc], .agg #[.int .i64 j, .int .i64 a, .int .i64 b]] w fun e w' => ∃ r, e = .returned (.bool r) ∧ (r = true ↔ InsOk m f ⟨j, a, b⟩) ∧ Below w.heap.size w w' := fun hi N hN hh hu hc => by
      refine (validIns_in cp cn cc m.globals fp fn fc k rp rl rc dp dl dc j a b 0 hi 0 0 w hj18 hT hc (fun _ _ w1 _ => by rw [hu]; exact ob_0 cp cn cc m.globals fp fn fc k rp rl rc dp dl dc j a b w1)).mono fun e w' h => ⟨_, h.1, ?_, h.2⟩
      rw [insOk_n m f j a b N (by omega) (by omega) (by omega) hN]
      simp only [Bool.and_eq_true, decide_eq_true_eq]
      omega
    have hops : j = 0 ∨ j = 1 ∨ j = 2 ∨ j = 3 ∨ j = 4 ∨ j = 5 ∨ j = 6 ∨ j = 7 ∨ j = 9 ∨ j = 10 ∨ j = 11 ∨ j = 12 ∨ j = 13 ∨ j = 14 ∨ j = 15 ∨ j = 16 ∨ j = 17 := by omega
    rcases hops with h | h | h | h | h | h | h | h | h | h | h | h | h | h | h | h | h <;> subst h
    · exact key _ cn (by simp [bnd, hc1]) rfl rfl (fun w1 _ => ob_1 cp cn cc m.globals fp fn fc k rp rl rc dp dl dc _ a b w1 hcn)
    · exact key 199 200 (by simp [bnd]) rfl rfl (fun w1 _ => ob_2 cp cn cc m.globals fp fn fc k rp rl rc dp dl dc _ a b w1)
    · exact key _ rl (by simp [bnd, hfr]) rfl rfl (fun w1 _ => ob_3 cp cn cc m.globals fp fn fc k rp rl rc dp dl dc _ a b w1 hrl)
    · exact key _ m.globals (by simp [bnd]) rfl rfl (fun w1 _ => ob_4 cp cn cc m.globals fp fn fc k rp rl rc dp dl dc _ a b w1 hg0 hg1)
    · exact key _ m.globals (by simp [bnd]) rfl rfl (fun w1 _ => ob_4 cp cn cc m.globals fp fn fc k rp rl rc dp dl dc _ a b w1 hg0 hg1)
    · exact key 1 2 (by simp [bnd]) rfl rfl (fun w1 _ => ob_5 cp cn cc m.globals fp fn fc k rp rl rc dp dl dc _ a b w1)
    · exact key 0 1 (by simp [bnd]) rfl rfl (fun w1 _ => ob_0 cp cn cc m.globals fp fn fc k rp rl rc dp dl dc _ a b w1)
    · exact key 0 1 (by simp [bnd]) rfl rfl (fun w1 _ => ob_0 cp cn cc m.globals fp fn fc k rp rl rc dp dl dc _ a b w1)
    · exact key 20 21 (by simp [bnd]) rfl rfl (fun w1 _ => ob_8 cp cn cc m.globals fp fn fc k rp rl rc dp dl dc _ a b w1)
    · exact key 20 21 (by simp [bnd]) rfl rfl (fun w1 _ => ob_8 cp cn cc m.globals fp fn fc k rp rl rc dp dl dc _ a b w1)
    · exact key 0 1 (by simp [bnd]) rfl rfl (fun w1 _ => ob_0 cp cn cc m.globals fp fn fc k rp rl rc dp dl dc _ a b w1)
    · exact key _ dl (by simp [bnd, hco]) rfl rfl (fun w1 _ => ob_9 cp cn cc m.globals fp fn fc k rp rl rc dp dl dc _ a b w1 hdl)
    · exact key _ dl (by simp [bnd, hco]) rfl rfl (fun w1 _ => ob_9 cp cn cc m.globals fp fn fc k rp rl rc dp dl dc _ a b w1 hdl)
    · exact key 21 22 (by simp [bnd]) rfl rfl (fun w1 _ => ob_10 cp cn cc m.globals fp fn fc k rp rl rc dp dl dc _ a b w1)
    · exact key 200 201 (by simp [bnd]) rfl rfl (fun w1 _ => ob_11 cp cn cc m.globals fp fn fc k rp rl rc dp dl dc _ a b w1)
    · exact key 0 1 (by simp [bnd]) rfl rfl (fun w1 _ => ob_0 cp cn cc m.globals fp fn fc k rp rl rc dp dl dc _ a b w1)
    · exact key 0 1 (by simp [bnd]) rfl rfl (fun w1 _ => ob_0 cp cn cc m.globals fp fn fc k rp rl rc dp dl dc _ a b w1)
end Go.Proofs.YtdjdhjciealfhaaGreatDoor
namespace Go.Proofs.YtdjdhjciealfhaaGreatDoor
open Go.RowKit Ch1
/-- A Bool answer that tells P. -/
def SaysB (P : Prop) (w w' : World) (e : Ending) : Prop := ∃ b, e = .returned (.bool b) ∧ (b = true ↔ P) ∧ Below w.heap.size w w'
theorem SaysB.no {P : Prop} {w w' : World} (h : ¬ P) (hb : Below w.heap.size w w') : SaysB P w w' (.returned (.bool false)) := ⟨false, rfl, ⟨fun h => (by cases h), fun hg => absurd hg h⟩, hb⟩
theorem SaysB.yes {P : Prop} {w w' : World} (h : P) (hb : Below w.heap.size w w') : SaysB P w w' (.returned (.bool true)) := ⟨true, rfl, ⟨fun _ => h, fun _ => rfl⟩, hb⟩
set_option maxRecDepth 20000 in
set_option maxHeartbeats 4000000 in
theorem validConsts_c (p : Option Addr) (n c : Nat) (ls : List (List Dt)) (w : World) (hD : Dd w p n c ls) (hn : n ≤ 1048576) (hfit : ∀ i, i < n → DsFit (ls.getD i []) 1048576) :
    Calls Tryz.prog 40 #[.slice p n c] w fun e w' => SaysB (CsOk ls) w w' e := by
  have HD : Hid (Dd w p n c ls) := hD
  have HL : Hid (ls.length = n) := hD.len
  have HT : Hid (∀ i, i < n → DsFit (ls.getD i []) 1048576) := hfit
  clear hD hfit
  by_cases hfew : 500 < n
  · have d1 : decide ((500 : Int) < (n : Int)) = true := decide_eq_true (by omega)
    go_enter Tryz.func40, Tryz.ntmps40
    go_wp2
    go_ret
    exact SaysB.no (fun h => by have := h.few; rw [HL.out] at this; omega) (Below.refl _ _)
  · have d1 : decide ((500 : Int) < (n : Int)) = false := decide_eq_false (by omega)
    go_enter Tryz.func40, Tryz.ntmps40
    go_wp2
    clear d1
    go_loopw [3, 11] (fun dv iv wr => ∃ i s : Nat, i ≤ n ∧ s ≤ 3000 ∧ iv = .int .i64 i ∧ dv = .int .i64 s ∧ Hid (s = cSum ls i) ∧ Hid (∀ j, j < i → oneB (ls.getD j []) = true) ∧ Hid (Below w.heap.size w wr)) (fun _ iv _ => n - (intOf iv).toNat)
    case atStart => exact ⟨0, 0, Nat.zero_le _, Nat.zero_le _, rfl, rfl, rfl, fun j hj => absurd hj (Nat.not_lt_zero j), Below.refl _ _⟩
    case round =>
      obtain ⟨i, s, hi, hs, rfl, rfl, hsum, hone, hB⟩ := hrel
      by_cases hlt : i < n
      · obtain ⟨b, o, rfl, hbl, gg⟩ := (HD.out.below hB.out).cells (by omega)
        obtain ⟨q, k, d, e0, he⟩ := gg i hlt
        have hk : k ≤ 1048576 := by have := (HT.out i hlt).1; rw [he.len] at this; omega
        have HDA : Hid (Da wr q k d (ls.getD i [])) := he
        have HKL : Hid ((ls.getD i []).length = k) := he.len
        have HSUC : Hid (cSum ls (i + 1) = s + k) := by unfold Hid; rw [cSum_succ _ _ (by rw [HL.out]; exact hlt), ← hsum.out, HKL.out]
        clear gg he
        by_cases hbig : 3000 < s + k
        · have d1 : decide ((3000 : Int) < (s : Int) + (k : Int)) = true := decide_eq_true (by omega)
          go_wp2
          go_ret
          exact SaysB.no (fun h => by
            have h1 := h.sum
            have h2 := cSum_le ls (i + 1) (by rw [HL.out]; omega)
            rw [HSUC.out] at h2; omega) hB.out
        · have d1 : decide ((3000 : Int) < (s : Int) + (k : Int)) = false := decide_eq_false (by omega)
          obtain ⟨ob, hob⟩ : ∃ ob, oneB (ls.getD i []) = ob := ⟨_, rfl⟩
          go_wp2_with fail
          refine (oneDatum_c q k d _ _ HDA.out).mono ?_
          rintro e w1 ⟨rfl, hb1⟩
          rw [hob]
          have HB1 : Hid (Below w.heap.size w w1) := hB.out.trans (hb1.mono hB.out.size)
          clear hb1
          cases ob
          · go_wp2
            go_ret
            exact SaysB.no (fun h => by have := h.one i (by rw [HL.out]; exact hlt); rw [hob] at this; cases this) HB1.out
          · go_wp2
            refine ⟨⟨i + 1, s + k, by omega, by omega, by go_num, by go_num, HSUC.out.symm, fun j hj => ?_, HB1⟩, by simp [intOf]; omega⟩
            by_cases e : j < i
            · exact hone.out j e
            · rw [show j = i by omega]; exact hob
      · obtain rfl : i = n := by omega
        go_wp2
        go_ret
        exact SaysB.yes ⟨by rw [HL.out]; omega, fun j hj => hone.out j (by rw [← HL.out]; exact hj), by rw [HL.out, ← hsum.out]; exact hs⟩ hB.out
set_option maxRecDepth 20000 in
set_option maxHeartbeats 4000000 in
theorem validSizes_c (p : Option Addr) (n c : Nat) (fs : List Fn) (w : World) (hD : Fu w p n c fs) (hn : n ≤ 1048576) (hfit : FnsFit fs n 1048576) :
    Calls Tryz.prog 41 #[.slice p n c] w fun e w' => SaysB (SzOk fs) w w' e := by
  have HD : Hid (Fu w p n c fs) := hD
  have HFL : Hid (fs.length = n) := hD.len
  have HT : Hid (FnsFit fs n 1048576) := hfit
  clear hD hfit
  go_enter Tryz.func41, Tryz.ntmps41
  go_wp2
  go_loopw [3, 8] (fun dv iv wr => ∃ i s : Nat, i ≤ n ∧ s ≤ 5000 ∧ iv = .int .i64 i ∧ dv = .int .i64 s ∧ Hid (s = fSum fs i) ∧ Hid (∀ j, j < i → FnOk (fs.getD j fn0)) ∧ Hid (Below w.heap.size w wr)) (fun _ iv _ => n - (intOf iv).toNat)
  case atStart => exact ⟨0, 0, Nat.zero_le _, Nat.zero_le _, rfl, rfl, rfl, fun j hj => absurd hj (Nat.not_lt_zero j), Below.refl _ _⟩
  case round =>
    obtain ⟨j, t, hj, ht, rfl, rfl, hsum, hfns, hB⟩ := hrel
    by_cases hlt2 : j < n
    · obtain ⟨b, o, rfl, hbl, gg⟩ := (HD.out.below hB.out).cells (by omega)
      obtain ⟨rp, rl, rc, dp, dl, dc, he⟩ := gg j hlt2
      have e0 := he.c0
      have e1 := he.c1
      have e2 := he.c2
      have HRL : Hid ((fs.getD j fn0).free.length = rl) := he.free.len
      have HDL : Hid ((fs.getD j fn0).code.length = dl) := he.code.len
      have hrl : rl ≤ 1048576 := by have := (HT.out j hlt2).1; rw [HRL.out] at this; omega
      have hdl : dl ≤ 1048576 := by have := (HT.out j hlt2).2; rw [HDL.out] at this; omega
      have HSUC : Hid (fSum fs (j + 1) = t + dl) := by unfold Hid; rw [fSum_succ _ _ (by rw [HFL.out]; exact hlt2), ← hsum.out, HDL.out]
      have HFNB : Hid (SzOk fs → FnOk (fs.getD j fn0) ∧ t + dl ≤ 5000) := fun h => ⟨h.fn j (by rw [HFL.out]; exact hlt2), by
        have h1 := h.sum
        have h2 := fSum_le fs (j + 1) (by rw [HFL.out]; omega)
        rw [HSUC.out] at h2; omega⟩
      have HB1 : Hid (Below w.heap.size w (wr.alloc (.cells #[.int .i64 (fs.getD j fn0).params, .slice rp rl rc, .slice dp dl dc] 48))) := hB.out.trans ((below1 _ _).mono hB.out.size)
      clear gg he
      obtain ⟨pr, hpr⟩ : ∃ pr, (fs.getD j fn0).params = pr := ⟨_, rfl⟩
      have HPR : Hid ((fs.getD j fn0).params = pr) := hpr
      rw [hpr] at e0 HB1
      clear hpr
      by_cases c1 : pr < 0
      · have d1 : decide (pr < 0) = true := decide_eq_true c1
        go_wp2
        go_ret
        exact SaysB.no (fun h => by have := (HFNB.out h).1.p0; rw [HPR.out] at this; omega) HB1.out
      have d1 : decide (pr < 0) = false := decide_eq_false c1
      by_cases c2 : 20 < pr
      · have d2 : decide (20 < pr) = true := decide_eq_true c2
        go_wp2
        go_ret
        exact SaysB.no (fun h => by have := (HFNB.out h).1.p1; rw [HPR.out] at this; omega) HB1.out
      have d2 : decide (20 < pr) = false := decide_eq_false c2
      by_cases c3 : 50 < rl
      · have d3 : decide ((50 : Int) < (rl : Int)) = true := decide_eq_true (by omega)
        go_wp2
        go_ret
        exact SaysB.no (fun h => by have := (HFNB.out h).1.fr; rw [HRL.out] at this; omega) HB1.out
      have d3 : decide ((50 : Int) < (rl : Int)) = false := decide_eq_false (by omega)
      by_cases c4 : dl = 0
      · subst c4
        go_wp2
        go_ret
        exact SaysB.no (fun h => by have := (HFNB.out h).1.co; rw [HDL.out] at this; omega) HB1.out
      have d4 : ((dl : Int) == 0) = false := by simp; omega
      by_cases c5 : 5000 < t + dl
      · have d5 : decide ((5000 : Int) < (t : Int) + (dl : Int)) = true := decide_eq_true (by omega)
        go_wp2
        go_ret
        exact SaysB.no (fun h => by have := (HFNB.out h).2; omega) HB1.out
      have d5 : decide ((5000 : Int) < (t : Int) + (dl : Int)) = false := decide_eq_false (by omega)
      go_wp2
      refine ⟨⟨j + 1, t + dl, by omega, by omega, by go_num, by go_num, HSUC.out.symm, fun y hy => ?_, HB1⟩, by simp [intOf]; omega⟩
      by_cases e : y < j
      · exact hfns.out y e
      · rw [show y = j by omega]
        exact ⟨by rw [HPR.out]; omega, by rw [HPR.out]; omega, by rw [HRL.out]; omega, by rw [HDL.out]; omega⟩
    · obtain rfl : j = n := by omega
      go_wp2
      go_ret
      exact SaysB.yes ⟨fun y hy => hfns.out y (by rw [← HFL.out]; exact hy), by rw [HFL.out, ← hsum.out]; exact ht⟩ hB.out
end Go.Proofs.YtdjdhjciealfhaaGreatDoor
