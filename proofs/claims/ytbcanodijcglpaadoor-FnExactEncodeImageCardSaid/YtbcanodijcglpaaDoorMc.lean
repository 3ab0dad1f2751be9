import Derived.Test.YtbcanodijcglpaaDoorMb
namespace Go.Proofs.YtbcanodijcglpaaDoor
open Go.RowKit Ch1
/-- What A and B of an instruction stand for, by the table. -/
def useA (op : Nat) : Int := ([1, 2, 3, 4, 4, 5, 0, 0, 6, 8, 8, 0, 9, 9, 10, 11, 0, 0] : List Int).getD op 0
def useB (op : Nat) : Int := if op = 8 then 7 else 0
/-- Row op of the table, as far as it is read. -/
structure TbR (w : World) (op : Nat) (v0 : ByteArray) (v3 v4 v5 v6 : Int) (v7 v8 : Bool) : Prop where
  c0 : w.cell? ⟨0, op * 9, none⟩ = some (.string v0)
  c1 : w.cell? ⟨0, op * 9 + 1, none⟩ = some (.int .u8 (useA op))
  c2 : w.cell? ⟨0, op * 9 + 2, none⟩ = some (.int .u8 (useB op))
  c3 : w.cell? ⟨0, op * 9 + 3, none⟩ = some (.int .u16 v3)
  c4 : w.cell? ⟨0, op * 9 + 4, none⟩ = some (.int .u16 v4)
  c5 : w.cell? ⟨0, op * 9 + 5, none⟩ = some (.int .u16 v5)
  c6 : w.cell? ⟨0, op * 9 + 6, none⟩ = some (.int .u16 v6)
  c7 : w.cell? ⟨0, op * 9 + 7, none⟩ = some (.bool v7)
  c8 : w.cell? ⟨0, op * 9 + 8, none⟩ = some (.bool v8)
/-- The table of instructions lies in its block. -/
structure Tb (w : World) : Prop where
  lt : 0 < w.heap.size
  row : ∀ op, op < 18 → ∃ v0 v3 v4 v5 v6 v7 v8, TbR w op v0 v3 v4 v5 v6 v7 v8
theorem TbR.below {w w' : World} {op : Nat} {v0 : ByteArray} {v3 v4 v5 v6 : Int} {v7 v8 : Bool} (h : TbR w op v0 v3 v4 v5 v6 v7 v8) (hlt : 0 < w.heap.size) (hb : Below w.heap.size w w') : TbR w' op v0 v3 v4 v5 v6 v7 v8 :=
  ⟨by rw [hb.cell (p := ⟨0, op * 9, none⟩) hlt]; exact h.c0, by rw [hb.cell (p := ⟨0, op * 9 + 1, none⟩) hlt]; exact h.c1, by rw [hb.cell (p := ⟨0, op * 9 + 2, none⟩) hlt]; exact h.c2, by rw [hb.cell (p := ⟨0, op * 9 + 3, none⟩) hlt]; exact h.c3, by rw [hb.cell (p := ⟨0, op * 9 + 4, none⟩) hlt]; exact h.c4, by rw [hb.cell (p := ⟨0, op * 9 + 5, none⟩) hlt]; exact h.c5, by rw [hb.cell (p := ⟨0, op * 9 + 6, none⟩) hlt]; exact h.c6, by rw [hb.cell (p := ⟨0, op * 9 + 7, none⟩) hlt]; exact h.c7, by rw [hb.cell (p := ⟨0, op * 9 + 8, none⟩) hlt]; exact h.c8⟩
theorem Tb.below {w w' : World} (h : Tb w) (hb : Below w.heap.size w w') : Tb w' :=
  ⟨Nat.lt_of_lt_of_le h.lt hb.size, fun op ho => by
    obtain ⟨v0, v3, v4, v5, v6, v7, v8, hr⟩ := h.row op ho
    exact ⟨v0, v3, v4, v5, v6, v7, v8, hr.below h.lt hb⟩⟩
theorem below4 (w : World) (o o2 o3 o4 : Obj) : Below w.heap.size w ((((w.alloc o).alloc o2).alloc o3).alloc o4) := (below3 w o o2 o3).alloc (by simp; omega) _
set_option maxHeartbeats 1000000 in
theorem validIns_out (cp : Option Addr) (cn cc : Nat) (g : Int) (fp : Option Addr) (fn fc : Nat) (k : Int) (rp : Option Addr) (rl rc : Nat) (dp : Option Addr) (dl dc : Nat) (op a b : Int) (w : World) (h : op < 0 ∨ 17 < op) :
    Calls Tryd.prog 58 #[.agg #[.slice cp cn cc, .int .i64 g, .slice fp fn fc], .agg #[.int .i64 k, .slice rp rl rc, .slice dp dl dc], .agg #[.int .i64 op, .int .i64 a, .int .i64 b]] w fun e w' => e = .returned (.bool false) ∧ Below w.heap.size w w' := by
  by_cases h0 : op < 0
  · have d1 : decide (op < 0) = true := decide_eq_true h0
    go_enter Tryd.func58, Tryd.ntmps58
    go_wp2
    go_ret
    exact ⟨rfl, below3 w _ _ _⟩
  · have d1 : decide (op < 0) = false := decide_eq_false h0
    have d2 : decide (18 ≤ op) = true := decide_eq_true (by omega)
    go_enter Tryd.func58, Tryd.ntmps58
    go_wp2
    go_ret
    exact ⟨rfl, below3 w _ _ _⟩
set_option maxRecDepth 20000 in
set_option maxHeartbeats 4000000 in
theorem validIns_in (cp : Option Addr) (cn cc : Nat) (g : Int) (fp : Option Addr) (fn fc : Nat) (k : Int) (rp : Option Addr) (rl rc : Nat) (dp : Option Addr) (dl dc : Nat) (j : Nat) (a b la ha lb hb : Int) (w : World) (hj : j < 18) (hT : Tb w)
    (hA : ∀ w1, Below w.heap.size w w1 → Calls Tryd.prog 72 #[.agg #[.slice cp cn cc, .int .i64 g, .slice fp fn fc], .agg #[.int .i64 k, .slice rp rl rc, .slice dp dl dc], .agg #[.int .i64 j, .int .i64 a, .int .i64 b], .int .u8 (useA j)] w1 fun e w' => ObQ la ha w1 w' e)
    (hB : la ≤ a → a ≤ ha → ∀ w1, Below w.heap.size w w1 → Calls Tryd.prog 72 #[.agg #[.slice cp cn cc, .int .i64 g, .slice fp fn fc], .agg #[.int .i64 k, .slice rp rl rc, .slice dp dl dc], .agg #[.int .i64 j, .int .i64 a, .int .i64 b], .int .u8 (useB j)] w1 fun e w' => ObQ lb hb w1 w' e) :
    Calls Tryd.prog 58 #[.agg #[.slice cp cn cc, .int .i64 g, .slice fp fn fc], .agg #[.int .i64 k, .slice rp rl rc, .slice dp dl dc], .agg #[.int .i64 j, .int .i64 a, .int .i64 b]] w fun e w' => e = .returned (.bool ((decide (la ≤ a) && decide (a ≤ ha)) && (decide (lb ≤ b) && decide (b ≤ hb)))) ∧ Below w.heap.size w w' := by
  obtain ⟨v0, v3, v4, v5, v6, v7, v8, hr⟩ := hT.row j hj
  have t0 : ∀ o1 o2 o3, (((w.alloc o1).alloc o2).alloc o3).cell? ⟨0, j * 9, none⟩ = some (.string v0) := fun o1 o2 o3 => (hr.below hT.lt (below3 w o1 o2 o3)).c0
  have t1 : ∀ o1 o2 o3, (((w.alloc o1).alloc o2).alloc o3).cell? ⟨0, j * 9 + 1, none⟩ = some (.int .u8 (useA j)) := fun o1 o2 o3 => (hr.below hT.lt (below3 w o1 o2 o3)).c1
  have t2 : ∀ o1 o2 o3, (((w.alloc o1).alloc o2).alloc o3).cell? ⟨0, j * 9 + 2, none⟩ = some (.int .u8 (useB j)) := fun o1 o2 o3 => (hr.below hT.lt (below3 w o1 o2 o3)).c2
  have t3 : ∀ o1 o2 o3, (((w.alloc o1).alloc o2).alloc o3).cell? ⟨0, j * 9 + 3, none⟩ = some (.int .u16 v3) := fun o1 o2 o3 => (hr.below hT.lt (below3 w o1 o2 o3)).c3
  have t4 : ∀ o1 o2 o3, (((w.alloc o1).alloc o2).alloc o3).cell? ⟨0, j * 9 + 4, none⟩ = some (.int .u16 v4) := fun o1 o2 o3 => (hr.below hT.lt (below3 w o1 o2 o3)).c4
  have t5 : ∀ o1 o2 o3, (((w.alloc o1).alloc o2).alloc o3).cell? ⟨0, j * 9 + 5, none⟩ = some (.int .u16 v5) := fun o1 o2 o3 => (hr.below hT.lt (below3 w o1 o2 o3)).c5
  have t6 : ∀ o1 o2 o3, (((w.alloc o1).alloc o2).alloc o3).cell? ⟨0, j * 9 + 6, none⟩ = some (.int .u16 v6) := fun o1 o2 o3 => (hr.below hT.lt (below3 w o1 o2 o3)).c6
  have t7 : ∀ o1 o2 o3, (((w.alloc o1).alloc o2).alloc o3).cell? ⟨0, j * 9 + 7, none⟩ = some (.bool v7) := fun o1 o2 o3 => (hr.below hT.lt (below3 w o1 o2 o3)).c7
  have t8 : ∀ o1 o2 o3, (((w.alloc o1).alloc o2).alloc o3).cell? ⟨0, j * 9 + 8, none⟩ = some (.bool v8) := fun o1 o2 o3 => (hr.below hT.lt (below3 w o1 o2 o3)).c8
  have HA : Hid (∀ w1, Below w.heap.size w w1 → Calls Tryd.prog 72 #[.agg #[.slice cp cn cc, .int .i64 g, .slice fp fn fc], .agg #[.int .i64 k, .slice rp rl rc, .slice dp dl dc], .agg #[.int .i64 j, .int .i64 a, .int .i64 b], .int .u8 (useA j)] w1 fun e w' => ObQ la ha w1 w' e) := hA
  have HB : Hid (la ≤ a → a ≤ ha → ∀ w1, Below w.heap.size w w1 → Calls Tryd.prog 72 #[.agg #[.slice cp cn cc, .int .i64 g, .slice fp fn fc], .agg #[.int .i64 k, .slice rp rl rc, .slice dp dl dc], .agg #[.int .i64 j, .int .i64 a, .int .i64 b], .int .u8 (useB j)] w1 fun e w' => ObQ lb hb w1 w' e) := hB
  have d1 : decide ((j : Int) < 0) = false := decide_eq_false (by omega)
  have d2 : decide ((18 : Int) ≤ (j : Int)) = false := decide_eq_false (by omega)
  have d3 : (j : Int) < 18 := by omega
  obtain ⟨ua, hua⟩ : ∃ u, useA j = u := ⟨_, rfl⟩
  obtain ⟨ub, hub⟩ : ∃ u, useB j = u := ⟨_, rfl⟩
  rw [hua] at t1 HA
  rw [hub] at t2 HB
  clear hr hT hA hB hua hub
  obtain ⟨ra, hra⟩ : ∃ r, (decide (la ≤ a) && decide (a ≤ ha)) = r := ⟨_, rfl⟩
  rw [hra]
  go_enter Tryd.func58, Tryd.ntmps58
  go_wp2_with fail
  refine (validOperand_c cp cn cc g fp fn fc k rp rl rc dp dl dc j a b ua a la ha _ (fun w1 h1 => HA.out w1 ((below4 w _ _ _ _).trans (h1.mono (by simp; omega))))).mono ?_
  rintro e w1 ⟨rfl, hb1⟩
  rw [hra]
  have HB1 : Hid (Below w.heap.size w w1) := (below4 w _ _ _ _).trans (hb1.mono (by simp; omega))
  have HX : Hid (B3 w1 w.heap.size (.slice cp cn cc) (.int .i64 g) (.slice fp fn fc)) := ((((B3.new w (.slice cp cn cc) (.int .i64 g) (.slice fp fn fc) 32).below (below1 _ _)).below (below1 _ _)).below (below1 _ _)).below hb1
  have HY : Hid (B3 w1 (w.heap.size + 1) (.int .i64 k) (.slice rp rl rc) (.slice dp dl dc)) := by
    have := (((B3.new (w.alloc (.cells #[.slice cp cn cc, .int .i64 g, .slice fp fn fc] 32)) (.int .i64 k) (.slice rp rl rc) (.slice dp dl dc) 52).below (below1 _ _)).below (below1 _ _)).below hb1
    unfold Hid; simpa using this
  have HZ : Hid (B3 w1 (w.heap.size + 1 + 1) (.int .i64 j) (.int .i64 a) (.int .i64 b)) := by
    have := ((B3.new ((w.alloc (.cells #[.slice cp cn cc, .int .i64 g, .slice fp fn fc] 32)).alloc (.cells #[.int .i64 k, .slice rp rl rc, .slice dp dl dc] 52)) (.int .i64 j) (.int .i64 a) (.int .i64 b) 71).below (below1 _ _)).below hb1
    unfold Hid; simpa using this
  have r2 : w1.cell? ⟨w.heap.size + 1 + 1 + 1, 2, none⟩ = some (.int .u8 ub) := by
    rw [hb1.cell (p := ⟨w.heap.size + 1 + 1 + 1, 2, none⟩) (by simp)]; simp [go_sem]
  have x0 := HX.out.c0
  have x1 := HX.out.c1
  have x2 := HX.out.c2
  have y0 := HY.out.c0
  have y1 := HY.out.c1
  have y2 := HY.out.c2
  have z0 := HZ.out.c0
  have z1 := HZ.out.c1
  have z2 := HZ.out.c2
  clear hb1 t0 t1 t2 t3 t4 t5 t6 t7 t8
  cases ra
  · go_wp2
    go_ret
    exact ⟨by simp, HB1.out⟩
  · have hla : la ≤ a ∧ a ≤ ha := by simpa using hra
    go_wp2_with fail
    refine (validOperand_c cp cn cc g fp fn fc k rp rl rc dp dl dc j a b ub b lb hb _ (fun w2 h2 => HB.out hla.1 hla.2 w2 (HB1.out.trans (h2.mono HB1.out.size)))).mono ?_
    rintro e w2 ⟨rfl, hb2⟩
    have HB2 : Hid (Below w.heap.size w w2) := HB1.out.trans (hb2.mono HB1.out.size)
    clear hb2
    go_wp2
    go_ret
    exact ⟨by simp, HB2.out⟩
/-- validIns tells whether an instruction is one that may stand. -/
theorem validIns_c (cp : Option Addr) (cn cc : Nat) (fp : Option Addr) (fn fc : Nat) (k : Int) (rp : Option Addr) (rl rc : Nat) (dp : Option Addr) (dl dc : Nat) (x : In) (m : Md) (f : Fn) (w : World) (hA : InsAt w cp cn cc m.globals fp fn fc rl dl m f) (hT : Tb w) (hF : Fits cn fn m) (hrl : rl ≤ 1048576) (hdl : dl ≤ 1048576) (hg0 : 0 ≤ m.globals) (hg1 : m.globals ≤ 200) :
    Calls Tryd.prog 58 #[.agg #[.slice cp cn cc, .int .i64 m.globals, .slice fp fn fc], .agg #[.int .i64 k, .slice rp rl rc, .slice dp dl dc], .agg #[.int .i64 x.op, .int .i64 x.a, .int .i64 x.b]] w fun e w' => ∃ r, e = .returned (.bool r) ∧ (r = true ↔ InsOk m f x) ∧ Below w.heap.size w w' := by
  obtain ⟨op, a, b⟩ := x
  simp only
  by_cases h0 : op < 0 ∨ 17 < op
  · refine (validIns_out cp cn cc m.globals fp fn fc k rp rl rc dp dl dc op a b w h0).mono fun e w' h => ⟨false, h.1, ?_, h.2⟩
    simp [insOk_out m f ⟨op, a, b⟩ h0]
  obtain ⟨j, hj⟩ : ∃ j : Nat, op = j := ⟨op.toNat, by omega⟩
  subst hj
  have hj18 : j < 18 := by omega
  have hcn := hF.hcn
  have hfn := hF.hfn
  have hc1 : (m.consts.length : Int) = cn := by have := hA.mo.cs.len; omega
  have hfl : m.funcs.length = fn := hA.mo.fs.len
  have hfr : (f.free.length : Int) = rl := by have := hA.fr; omega
  have hco : (f.code.length : Int) = dl := by have := hA.co; omega
  by_cases h8 : j = 8
  · subst h8
    refine (validIns_in cp cn cc m.globals fp fn fc k rp rl rc dp dl dc 8 a b 1 ((fn : Int) - 1) ((m.funcs.getD a.toNat fn0).free.length) ((m.funcs.getD a.toNat fn0).free.length) w (by omega) hT (fun w1 _ => ob_6 cp cn cc m.globals fp fn fc k rp rl rc dp dl dc 8 a b w1 hfn) (fun h1 h2 w1 hb => ?_)).mono fun e w' h => ⟨_, h.1, ?_, h.2⟩
    · obtain ⟨i, hi⟩ : ∃ i : Nat, a = i := ⟨a.toNat, by omega⟩
      subst hi
      rw [Int.toNat_natCast]
      exact ob_7 cp cn cc m.globals fp fn fc k rp rl rc dp dl dc 8 b i m w1 (hA.mo.fs.below hb) (by omega) hfn
    · rw [show ((8 : Nat) : Int) = 8 from rfl, insOk_8 m f a b, hfl]
      simp only [Bool.and_eq_true, decide_eq_true_eq]
      omega
  · have key : ∀ hi N : Int, bnd m f j = N → hi = N - 1 → useB j = 0 → (∀ w1, Below w.heap.size w w1 → Calls Tryd.prog 72 #[.agg #[.slice cp cn cc, .int .i64 m.globals, .slice fp fn fc], .agg #[.int .i64 k, .slice rp rl rc, .slice dp dl dc], .agg #[.int .i64 j, .int .i64 a, .int .i64 b], .int .u8 (useA j)] w1 fun e w' => ObQ 0 hi w1 w' e) →
        Calls Tryd.prog 58 #[.agg #[.slice cp cn cc, .int .i64 m.globals, .slice fp fn fc], .agg #[.int .i64 k, .slice rp rl rc, .slice dp dl dc], .agg #[.int .i64 j, .int .i64 a, .int .i64 b]] w fun e w' => ∃ r, e = .returned (.bool r) ∧ (r = true ↔ InsOk m f ⟨j, a, b⟩) ∧ Below w.heap.size w w' := fun hi N hN hh hu hc => by
      refine (validIns_in cp cn cc m.globals fp fn fc k rp rl rc dp dl dc j a b 0 hi 0 0 w hj18 hT hc (fun _ _ w1 _ => by rw [hu]; exact ob_0 cp cn cc m.globals fp fn fc k rp rl rc dp dl dc j a b w1)).mono fun e w' h => ⟨_, h.1, ?_, h.2⟩
      rw [insOk_n m f j a b N (by omega) (by omega) (by omega) hN]
      simp only [Bool.and_eq_true, decide_eq_true_eq]
      omega
    have hops : j = 0 ∨ j = 1 ∨ j = 2 ∨ j = 3 ∨ j = 4 ∨ j = 5 ∨ j = 6 ∨ j = 7 ∨ j = 9 ∨ j = 10 ∨ j = 11 ∨ j = 12 ∨ j = 13 ∨ j = 14 ∨ j = 15 ∨ j = 16 ∨ j = 17 := by omega
    rcases hops with h | h | h | h | h | h | h | h | h | h | h | h | h | h | h | h | h <;> subst h
    · exact key _ cn (by simp [bnd, hc1]) rfl rfl (fun w1 _ => ob_1 cp cn cc m.globals fp fn fc k rp rl rc dp dl dc _ a b w1 hcn)
    · exact key 199 200 (by simp [bnd]) rfl rfl (fun w1 _ => ob_2 cp cn cc m.globals fp fn fc k rp rl rc dp dl dc _ a b w1)
    · exact key _ rl (by simp [bnd, hfr]) rfl rfl (fun w1 _ => ob_3 cp cn cc m.globals fp fn fc k rp rl rc dp dl dc _ a b w1 hrl)
    · exact key _ m.globals (by simp [bnd]) rfl rfl (fun w1 _ => ob_4 cp cn cc m.globals fp fn fc k rp rl rc dp dl dc _ a b w1 hg0 hg1)
    · exact key _ m.globals (by simp [bnd]) rfl rfl (fun w1 _ => ob_4 cp cn cc m.globals fp fn fc k rp rl rc dp dl dc _ a b w1 hg0 hg1)
    · exact key 1 2 (by simp [bnd]) rfl rfl (fun w1 _ => ob_5 cp cn cc m.globals fp fn fc k rp rl rc dp dl dc _ a b w1)
    · exact key 0 1 (by simp [bnd]) rfl rfl (fun w1 _ => ob_0 cp cn cc m.globals fp fn fc k rp rl rc dp dl dc _ a b w1)
    · exact key 0 1 (by simp [bnd]) rfl rfl (fun w1 _ => ob_0 cp cn cc m.globals fp fn fc k rp rl rc dp dl dc _ a b w1)
    · exact key 20 21 (by simp [bnd]) rfl rfl (fun w1 _ => ob_8 cp cn cc m.globals fp fn fc k rp rl rc dp dl dc _ a b w1)
    · exact key 20 21 (by simp [bnd]) rfl rfl (fun w1 _ => ob_8 cp cn cc m.globals fp fn fc k rp rl rc dp dl dc _ a b w1)
    · exact key 0 1 (by simp [bnd]) rfl rfl (fun w1 _ => ob_0 cp cn cc m.globals fp fn fc k rp rl rc dp dl dc _ a b w1)
    · exact key _ dl (by simp [bnd, hco]) rfl rfl (fun w1 _ => ob_9 cp cn cc m.globals fp fn fc k rp rl rc dp dl dc _ a b w1 hdl)
    · exact key _ dl (by simp [bnd, hco]) rfl rfl (fun w1 _ => ob_9 cp cn cc m.globals fp fn fc k rp rl rc dp dl dc _ a b w1 hdl)
    · exact key 21 22 (by simp [bnd]) rfl rfl (fun w1 _ => ob_10 cp cn cc m.globals fp fn fc k rp rl rc dp dl dc _ a b w1)
    · exact key 200 201 (by simp [bnd]) rfl rfl (fun w1 _ => ob_11 cp cn cc m.globals fp fn fc k rp rl rc dp dl dc _ a b w1)
    · exact key 0 1 (by simp [bnd]) rfl rfl (fun w1 _ => ob_0 cp cn cc m.globals fp fn fc k rp rl rc dp dl dc _ a b w1)
    · exact key 0 1 (by simp [bnd]) rfl rfl (fun w1 _ => ob_0 cp cn cc m.globals fp fn fc k rp rl rc dp dl dc _ a b w1)
end Go.Proofs.YtbcanodijcglpaaDoor
