import Derived.Test.YtdjdhjciealfhaaGreatDoorM8
import Derived.RegionTactic
import Derived.BigRegion
namespace Go.Proofs.YtdjdhjciealfhaaGreatDoor
open Go.RowKit Ch1
theorem below_drewM {B : Nat} {a w : World} (h : Below B a w) : Below B a w.drew := ⟨h.os, h.tape, h.output, h.size, h.block⟩
/-- What is asked of the values of a call over an instruction. -/
structure InsAt (w : World) (cp : Option Addr) (cn cc : Nat) (g : Int) (fp : Option Addr) (fn fc : Nat) (rl dl : Nat) (m : Md) (f : Fn) : Prop where
  mo : Mo w cp cn cc fp fn fc m
  gl : m.globals = g
  fr : f.free.length = rl
  co : f.code.length = dl
set_option maxRecDepth 20000 in
set_option maxHeartbeats 4000000 in
theorem insOK_8 (cp : Option Addr) (cn cc : Nat) (g : Int) (fp : Option Addr) (fn fc : Nat) (k : Int) (rp : Option Addr) (rl rc : Nat) (dp : Option Addr) (dl dc : Nat) (a b : Int) (m : Md) (w : World) (hF : Fu w fp fn fc m.funcs) :
    Calls Tryz.prog 33 #[.agg #[.slice cp cn cc, .int .i64 g, .slice fp fn fc], .agg #[.int .i64 k, .slice rp rl rc, .slice dp dl dc], .agg #[.int .i64 8, .int .i64 a, .int .i64 b]] w fun e w' => ∃ r, e = .returned (.bool r) ∧ (r = true ↔ 1 ≤ a ∧ a < m.funcs.length ∧ b = (m.funcs.getD a.toNat fn0).free.length) ∧ Below w.heap.size w w' := by
  have HF : Hid (Fu w fp fn fc m.funcs) := hF
  have HL : Hid (m.funcs.length = fn) := hF.len
  have hbig := small_of hF.cap hF.big
  clear hF
  by_cases h1 : 1 ≤ a
  · have d1 : decide (1 ≤ a) = true := decide_eq_true h1
    by_cases h2 : a < fn
    · obtain ⟨j, hj⟩ : ∃ j : Nat, a = j := ⟨a.toNat, by omega⟩
      subst hj
      have d2 : decide ((j : Int) < (fn : Int)) = true := decide_eq_true h2
      have h3 : j < fn := by omega
      obtain ⟨bb, o, rfl, hbl, g'⟩ := HF.out.cells (by omega)
      obtain ⟨ap, al, ac, bp, bl, bc, he⟩ := g' j h3
      have HAL : Hid ((m.funcs.getD j fn0).free.length = al) := he.free.len
      have e1 : ∀ o1 o2 o3, (((w.alloc o1).alloc o2).alloc o3).cell? ⟨bb, o + j * 3 + 1, none⟩ = some (.slice ap al ac) := fun o1 o2 o3 => by
        rw [(below3 w o1 o2 o3).cell (p := ⟨bb, o + j * 3 + 1, none⟩) hbl]; exact he.c1
      have hal := small_of he.free.cap he.free.big
      clear g' he
      by_cases h4 : b = al
      · have d3 : (b == (al : Int)) = true := by simp [h4]
        go_enter Tryz.func33, Tryz.ntmps33
        go_wp2
        go_region
        go_wp2
        go_ret
        exact ⟨true, rfl, ⟨fun _ => ⟨h1, by rw [HL.out]; exact h2, by rw [Int.toNat_natCast, HAL.out]; exact h4⟩, fun _ => rfl⟩, below_drewM (below3 w _ _ _)⟩
      · have d3 : (b == (al : Int)) = false := by simpa using h4
        go_enter Tryz.func33, Tryz.ntmps33
        go_wp2
        go_region
        go_wp2
        go_ret
        exact ⟨false, rfl, ⟨fun h => (by cases h), fun h => absurd (by have := h.2.2; rw [Int.toNat_natCast, HAL.out] at this; exact this) h4⟩, below_drewM (below3 w _ _ _)⟩
    · have d2 : decide (a < (fn : Int)) = false := decide_eq_false h2
      go_enter Tryz.func33, Tryz.ntmps33
      go_wp2
      go_region
      go_wp2
      go_ret
      exact ⟨false, rfl, ⟨fun h => (by cases h), fun h => (by have := h.2.1; rw [HL.out] at this; omega)⟩, below_drewM (below3 w _ _ _)⟩
  · have d1 : decide (1 ≤ a) = false := decide_eq_false h1
    go_enter Tryz.func33, Tryz.ntmps33
    go_wp2
    go_region
    go_wp2
    go_ret
    exact ⟨false, rfl, ⟨fun h => (by cases h), fun h => (by have := h.1; omega)⟩, below_drewM (below3 w _ _ _)⟩
theorem l3insOK_c (cp : Option Addr) (cn cc : Nat) (g : Int) (fp : Option Addr) (fn fc : Nat) (k : Int) (rp : Option Addr) (rl rc : Nat) (dp : Option Addr) (dl dc : Nat) (x : In) (m : Md) (f : Fn) (w : World) (hA : InsAt w cp cn cc g fp fn fc rl dl m f) :
    Calls Tryz.prog 33 #[.agg #[.slice cp cn cc, .int .i64 g, .slice fp fn fc], .agg #[.int .i64 k, .slice rp rl rc, .slice dp dl dc], .agg #[.int .i64 x.op, .int .i64 x.a, .int .i64 x.b]] w fun e w' => ∃ r, e = .returned (.bool r) ∧ (r = true ↔ InsOk m f x) ∧ Below w.heap.size w w' := by
  obtain ⟨op, a, b⟩ := x
  simp only
  by_cases h0 : op < 0
  · refine (insOK_low cp cn cc g fp fn fc k rp rl rc dp dl dc op a b w h0).mono fun e w' h => ⟨false, h.1, ?_, h.2⟩
    simp [insOk_out m f ⟨op, a, b⟩ (Or.inl h0)]
  by_cases h1 : 17 < op
  · refine (insOK_high cp cn cc g fp fn fc k rp rl rc dp dl dc op a b w h1).mono fun e w' h => ⟨false, h.1, ?_, h.2⟩
    simp [insOk_out m f ⟨op, a, b⟩ (Or.inr h1)]
  by_cases h8 : op = 8
  · subst h8
    refine (insOK_8 cp cn cc g fp fn fc k rp rl rc dp dl dc a b m w hA.mo.fs).mono fun e w' h => ?_
    obtain ⟨r, h2, h3, h4⟩ := h
    exact ⟨r, h2, h3.trans (insOk_8 m f a b).symm, h4⟩
  by_cases hb : b = 0
  · subst hb
    have key : ∀ N : Int, bnd m f op = N → Calls Tryz.prog 33 #[.agg #[.slice cp cn cc, .int .i64 g, .slice fp fn fc], .agg #[.int .i64 k, .slice rp rl rc, .slice dp dl dc], .agg #[.int .i64 op, .int .i64 a, .int .i64 0]] w (fun e w' => e = .returned (.bool (decide (0 ≤ a) && decide (a < N))) ∧ Below w.heap.size w w') → Calls Tryz.prog 33 #[.agg #[.slice cp cn cc, .int .i64 g, .slice fp fn fc], .agg #[.int .i64 k, .slice rp rl rc, .slice dp dl dc], .agg #[.int .i64 op, .int .i64 a, .int .i64 0]] w fun e w' => ∃ r, e = .returned (.bool r) ∧ (r = true ↔ InsOk m f ⟨op, a, 0⟩) ∧ Below w.heap.size w w' := fun N hN hc =>
      hc.mono fun e w' h => ⟨_, h.1, by rw [insOk_n m f op a 0 N (by omega) (by omega) h8 hN]; simp, h.2⟩
    have hcn : (m.consts.length : Int) = cn := by have := hA.mo.cs.len; omega
    have hfr : (f.free.length : Int) = rl := by have := hA.fr; omega
    have hco : (f.code.length : Int) = dl := by have := hA.co; omega
    have hops : op = 0 ∨ op = 1 ∨ op = 2 ∨ op = 3 ∨ op = 4 ∨ op = 5 ∨ op = 6 ∨ op = 7 ∨ op = 9 ∨ op = 10 ∨ op = 11 ∨ op = 12 ∨ op = 13 ∨ op = 14 ∨ op = 15 ∨ op = 16 ∨ op = 17 := by omega
    rcases hops with h | h | h | h | h | h | h | h | h | h | h | h | h | h | h | h | h <;> subst h
    · exact key _ (by simp [bnd, hcn]) (insOK_0 cp cn cc g fp fn fc k rp rl rc dp dl dc a w)
    · exact key _ (by simp [bnd]) (insOK_1 cp cn cc g fp fn fc k rp rl rc dp dl dc a w)
    · exact key _ (by simp [bnd, hfr]) (insOK_2 cp cn cc g fp fn fc k rp rl rc dp dl dc a w)
    · exact key _ (by simp [bnd, hA.gl]) (insOK_3 cp cn cc g fp fn fc k rp rl rc dp dl dc a w)
    · exact key _ (by simp [bnd, hA.gl]) (insOK_4 cp cn cc g fp fn fc k rp rl rc dp dl dc a w)
    · exact key _ (by simp [bnd]) (insOK_5 cp cn cc g fp fn fc k rp rl rc dp dl dc a w)
    · exact key _ (by simp [bnd]) (insOK_6 cp cn cc g fp fn fc k rp rl rc dp dl dc a w)
    · exact key _ (by simp [bnd]) (insOK_7 cp cn cc g fp fn fc k rp rl rc dp dl dc a w)
    · exact key _ (by simp [bnd]) (insOK_9 cp cn cc g fp fn fc k rp rl rc dp dl dc a w)
    · exact key _ (by simp [bnd]) (insOK_10 cp cn cc g fp fn fc k rp rl rc dp dl dc a w)
    · exact key _ (by simp [bnd]) (insOK_11 cp cn cc g fp fn fc k rp rl rc dp dl dc a w)
    · exact key _ (by simp [bnd, hco]) (insOK_12 cp cn cc g fp fn fc k rp rl rc dp dl dc a w)
    · exact key _ (by simp [bnd, hco]) (insOK_13 cp cn cc g fp fn fc k rp rl rc dp dl dc a w)
    · exact key _ (by simp [bnd]) (insOK_14 cp cn cc g fp fn fc k rp rl rc dp dl dc a w)
    · exact key _ (by simp [bnd]) (insOK_15 cp cn cc g fp fn fc k rp rl rc dp dl dc a w)
    · exact key _ (by simp [bnd]) (insOK_16 cp cn cc g fp fn fc k rp rl rc dp dl dc a w)
    · exact key _ (by simp [bnd]) (insOK_17 cp cn cc g fp fn fc k rp rl rc dp dl dc a w)
  · refine (insOK_b cp cn cc g fp fn fc k rp rl rc dp dl dc op a b w (by omega) (by omega) h8 hb).mono fun e w' h => ⟨false, h.1, ?_, h.2⟩
    rw [insOk_n m f op a b _ (by omega) (by omega) h8 rfl]
    simp [hb]
end Go.Proofs.YtdjdhjciealfhaaGreatDoor
