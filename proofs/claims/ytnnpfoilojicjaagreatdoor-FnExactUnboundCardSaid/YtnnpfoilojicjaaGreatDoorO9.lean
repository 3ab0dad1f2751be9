import Derived.Test.YtnnpfoilojicjaaGreatDoorO8
import Derived.Test.YtnnpfoilojicjaaGreatDoorF3
import Derived.Defers
import Derived.Recover
namespace Go.Proofs.YtnnpfoilojicjaaGreatDoor
open Go.RowKit Ch1
namespace Cp
theorem fieldP (x y : Value) (w : World) : (Instr.field 67 (.agg #[x, y]) 0).run Tryz.prog w = .ok x w := by kernel_rfl
theorem inPartsP (args : Array Value) (w : World) : (callFunc 34 args).run Tryz.prog w = .ok (.enter 34 args) w := by kernel_rfl
theorem inReadP (args : Array Value) (w : World) : (callFunc 33 args).run Tryz.prog w = .ok (.enter 33 args) w := by kernel_rfl
theorem catch_idleP (p q : Addr) (w : World) :
  CallsD Tryz.prog 30 #[.pointer (some p), .pointer (some q)] .returning w fun e u' w' => e = .returned (.tuple #[]) ∧ u' = .returning ∧ w' = w := by
 refine callsD_of_wpS Tryz.func30 rfl fun c₀ cs hu => ?_
 apply wpS_seq
 apply wpS_region
 simp [wpOpsS, go_sem, recoverD, hu, Tryz.ntmps30, Exit.thenS]
 apply wpS_seq
 apply wpS_region
 simp [wpOpsS, go_sem, Exit.thenS]
 refine wpS_cond (t := false) (by simp [Act.eval, Array.replicate]) ?_
 simp only [Bool.false_eq_true, if_false]
 refine wpS_of_wp (wp_skip ?_)
 cases c₀
 simp_all [bodyPostS, results, Tryz.results30]
set_option maxRecDepth 20000 in
set_option maxHeartbeats 4000000 in
theorem catch_faultP (mb cb : Nat) (a0 b0 : Value) (w : World) (hE : Eh w) (hm : w.heap[mb]? = some (.cells #[a0] 49)) (hc : w.heap[cb]? = some (.cells #[b0] 3)) :
  CallsD Tryz.prog 30 #[.pointer (some ⟨mb, 0, none⟩), .pointer (some ⟨cb, 0, none⟩)] (.panicking [{ v := .iface 67 (.agg #[.int .i64 2, .int .i64 0]), recovered := false }]) w fun e u' w' =>
   e = .returned (.tuple #[]) ∧ u' = .panicking [{ v := .iface 67 (.agg #[.int .i64 2, .int .i64 0]), recovered := true }] ∧ ∃ w1, Below w.heap.size w w1 ∧ w' = (w1.setCell ⟨mb, 0, none⟩ (.pointer none)).setCell ⟨cb, 0, none⟩ (.int .i64 2) := by
 refine callsD_of_wpS Tryz.func30 rfl fun c₀ cs hu => ?_
 apply wpS_seq
 apply wpS_region
 simp [wpOpsS, go_sem, recoverD, hu, Tryz.ntmps30, Exit.thenS]
 apply wpS_seq
 apply wpS_region
 simp [wpOpsS, go_sem, Exit.thenS]
 refine wpS_cond (t := true) (by simp [Act.eval, Array.replicate]) ?_
 simp only [if_true]
 refine wpS_of_wp ?_
 have HE : Hid (Eh w) := hE
 have hmlt := (Array.getElem?_eq_some_iff.1 hm).1
 have hclt := (Array.getElem?_eq_some_iff.1 hc).1
 have hne : mb ≠ cb := fun e => by subst e; rw [hm] at hc; cases hc
 have hne' : cb ≠ mb := fun e => hne e.symm
 have HM := Hid.mkD hm
 have HC := Hid.mkD hc
 clear hE hm hc hu
 have fl := fieldP
 go_wp2_with fail
 refine (ownFault_c 2 0 w HE.out).mono ?_
 rintro e w1 ⟨rfl, hb⟩
 have HB := Hid.mkD hb
 have m0 := (cells1 ((hb.block _ hmlt).trans HM.out)).1
 have mf := (cells1 ((hb.block _ hmlt).trans HM.out)).2
 have c0 := (cells1 ((hb.block _ hclt).trans HC.out)).1
 have cf := (cells1 ((hb.block _ hclt).trans HC.out)).2
 clear hb
 go_wp2_with fail
 simp [bodyPostS, results, Tryz.results30]
 exact ⟨w1, HB.out, rfl⟩
def RpQ (ds : List Dt) (w w' : World) (r : Ending) : Prop := match unb ds with
 | none => ∃ z : Int, z ≠ 0 ∧ r = .returned (.tuple #[.pointer none, .int .i64 z]) ∧ Below w.heap.size w w'
 | some ns => ∃ (pb : Nat) (up : Option Addr) (uc : Nat) (a : Value × Value × Value × Value × Value), r = .returned (.tuple #[.pointer (some ⟨pb, 0, none⟩), .int .i64 0]) ∧ Below w.heap.size w w' ∧ w'.heap[pb]? = some (.cells #[a.1, a.2.1, a.2.2.1, a.2.2.2.1, .slice up ns.length uc, a.2.2.2.2] 59) ∧ w'.ownsRow w.heap.size 9 1 (.slice up ns.length uc) ns.length (stC ns) ∧ (∀ x ∈ ns, Rg x) ∧ ns.length ≤ 1000000000
end Cp
end Go.Proofs.YtnnpfoilojicjaaGreatDoor
