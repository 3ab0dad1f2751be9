import Derived.Test.YtnnpfoilojicjaaGreatDoorXc
import Derived.LaidEql
import Derived.Stop.Asserts
import Derived.RowKitTokens
namespace Go.Proofs.YtnnpfoilojicjaaGreatDoor
open Go.RowKit Go.Extern.Stop Go.Stop Go.Extern
theorem rlValP (t : Addr) (w : World) : (ReflectliteValue.unpack (.iface 99 (.pointer (some t)))).run Tryz.prog w
  = .ok (.agg #[.pointer (some ⟨6, 99, none⟩), .pointer (some ⟨w.heap.size, 0, none⟩), .int .u64 150]) (w.alloc (.cells #[.pointer (some t)] 99)) := by kernel_rfl
theorem rlTypeP (a : Addr) (w : World) : (ReflectliteValue.methodAny (ReflectliteValue.valueError "reflectlite.Value.Type" 0) (fun t _ _ _ => ReflectliteType.toType t) #[.agg #[.pointer (some ⟨6, 99, none⟩), .pointer (some a), .int .u64 150]]).run Tryz.prog w
  = .ok (.iface 204 (.agg #[.pointer (some ⟨6, 99, none⟩)])) w := by kernel_rfl
theorem rlKindP (w : World) : ((ReflectliteType.abiMethod fun t => (fun a : Nat => Value.int IntKind.u8 (a : Int)) <$> Rtype.kind t) #[.pointer (some ⟨6, 99, none⟩)]).run Tryz.prog w = .ok (.int .u8 22) w := by kernel_rfl
theorem rlKindT (w : World) : ((ReflectliteType.abiMethod fun t => (fun a : Nat => Value.int IntKind.u8 (a : Int)) <$> Rtype.kind t) #[.pointer (some ⟨6, 67, none⟩)]).run Tryz.prog w = .ok (.int .u8 25) w := by kernel_rfl
theorem rlPartsP (a : Addr) (w : World) : (ReflectliteValue.parts (.agg #[.pointer (some ⟨6, 99, none⟩), .pointer (some a), .int .u64 150])).run Tryz.prog w = .ok (some (99, a, 150)) w := by kernel_rfl
theorem rlElemP (w : World) : (ReflectliteType.method ReflectliteType.elem #[.agg #[.pointer (some ⟨6, 99, none⟩)]]).run Tryz.prog w = .ok (.iface 204 (.agg #[.pointer (some ⟨6, 67, none⟩)])) w := by kernel_rfl
theorem rlImplT (w : World) : (ReflectliteType.relation "Implements" ReflectliteType.implements_ #[.agg #[.pointer (some ⟨6, 67, none⟩)], .iface 204 (.agg #[.pointer (some ⟨6, 96, none⟩)])]).run Tryz.prog w = .ok (.bool true) w := by kernel_rfl
theorem rlTypeOfT (v : Value) (w : World) : (ReflectliteType.typeOf #[.iface 67 v]).run Tryz.prog w = .ok (.iface 204 (.agg #[.pointer (some ⟨6, 67, none⟩)])) w := by kernel_rfl
theorem rlAssignT (w : World) : (ReflectliteType.relation "AssignableTo" ReflectliteType.assignableTo #[.agg #[.pointer (some ⟨6, 67, none⟩)], .iface 204 (.agg #[.pointer (some ⟨6, 67, none⟩)])]).run Tryz.prog w = .ok (.bool true) w := by kernel_rfl
theorem rlValT (x y : Int) (w : World) : (ReflectliteValue.unpack (.iface 67 (.agg #[.int .i64 x, .int .i64 y]))).run Tryz.prog w
  = .ok (.agg #[.pointer (some ⟨6, 67, none⟩), .pointer (some ⟨w.heap.size, 0, none⟩), .int .u64 153]) (w.alloc (.cells #[.int .i64 x, .int .i64 y] 67)) := by kernel_rfl
theorem rlElemOfP (w : World) : (Rtype.elem? 99).run Tryz.prog w = .ok (some 67) w := by kernel_rfl
theorem rlMkT (p : Addr) (w : World) : (ReflectliteValue.mk 67 p ReflectliteValue.flagAddr).run Tryz.prog w = .ok (.agg #[.pointer (some ⟨6, 67, none⟩), .pointer (some p), .int .u64 409]) w := by kernel_rfl
theorem rlPartsTa (a : Addr) (w : World) : (ReflectliteValue.parts (.agg #[.pointer (some ⟨6, 67, none⟩), .pointer (some a), .int .u64 409])).run Tryz.prog w = .ok (some (67, a, 409)) w := by kernel_rfl
theorem rlPartsT (a : Addr) (w : World) : (ReflectliteValue.parts (.agg #[.pointer (some ⟨6, 67, none⟩), .pointer (some a), .int .u64 153])).run Tryz.prog w = .ok (some (67, a, 153)) w := by kernel_rfl
theorem rlDirectT (w : World) : (Rtype.directlyAssignable 67 67).run Tryz.prog w = .ok true w := by kernel_rfl
theorem rlMethKind (h : Value) (w : World) : (Go.method 406 204 (.agg #[h]) "Kind").run Tryz.prog w = .ok (229, h) w := by kernel_rfl
theorem rlMethElem (h : Value) (w : World) : (Go.method 406 204 (.agg #[h]) "Elem").run Tryz.prog w = .ok (239, .agg #[h]) w := by kernel_rfl
theorem rlMethImpl (h : Value) (w : World) : (Go.method 406 204 (.agg #[h]) "Implements").run Tryz.prog w = .ok (240, .agg #[h]) w := by kernel_rfl
theorem rlMethAssign (h : Value) (w : World) : (Go.method 406 204 (.agg #[h]) "AssignableTo").run Tryz.prog w = .ok (237, .agg #[h]) w := by kernel_rfl
end Go.Proofs.YtnnpfoilojicjaaGreatDoor
namespace Go.Proofs.YtnnpfoilojicjaaGreatDoor
open Go.RowKit Go.Extern.Stop Go.Stop Go.Extern
theorem rlm (z : Sem Value) (f : TypeId → Addr → Nat → Nat → Sem Value) (v : Value) :
  ReflectliteValue.method z f #[v] = (do match ← ReflectliteValue.parts v with | none => z | some (t, a, fl) => f t a fl (fl % 32)) := rfl
theorem rlIsNilP (a p : Addr) (W : World) (ha : W.cell? a = some (.pointer (some p))) :
  (ReflectliteValue.method (ReflectliteValue.valueError "reflectlite.Value.IsNil" 0) ReflectliteValue.isNil #[.agg #[.pointer (some ⟨6, 99, none⟩), .pointer (some a), .int .u64 150]]).run Tryz.prog W = .ok (.bool false) W := by
 rw [rlm]
 simp only [Sem.run_bind, rlPartsP, Result.andThen]
 simp [ReflectliteValue.isNil, loadVar, isAgg, underlying, Tryz.underlying99, ha, Result.andThen]
theorem rlElemVP (a p : Addr) (W : World) (ha : W.cell? a = some (.pointer (some p))) :
  (ReflectliteValue.method (ReflectliteValue.valueError "reflectlite.Value.Elem" 0) ReflectliteValue.elem #[.agg #[.pointer (some ⟨6, 99, none⟩), .pointer (some a), .int .u64 150]]).run Tryz.prog W
   = .ok (.agg #[.pointer (some ⟨6, 67, none⟩), .pointer (some p), .int .u64 409]) W := by
 rw [rlm]
 simp only [Sem.run_bind, rlPartsP, Result.andThen]
 simp [ReflectliteValue.elem, loadVar, isAgg, underlying, Tryz.underlying99, ha, Result.andThen, rlElemOfP, rlMkT]
theorem two_at {w : World} {k : Nat} {a b : Value} {t : TypeId} (e : w.heap[k]? = some (.cells #[a, b] t)) : w.cell? ⟨k, 0, none⟩ = some a ∧ w.cell? ⟨k, 1, none⟩ = some b ∧ w.frozen? ⟨k, 0, none⟩ = false ∧ w.frozen? ⟨k, 1, none⟩ = false := by
 refine ⟨?_, ?_, ?_, ?_⟩ <;> simp [World.cell?, World.frozen?, e]
theorem rlSetT (tb gb : Nat) (x y o1 o2 : Int) (W : World) (hb : W.heap[gb]? = some (.cells #[.int .i64 x, .int .i64 y] 67)) (ht : W.heap[tb]? = some (.cells #[.int .i64 o1, .int .i64 o2] 67)) :
  (ReflectliteValue.set #[.agg #[.pointer (some ⟨6, 67, none⟩), .pointer (some ⟨tb, 0, none⟩), .int .u64 409], .agg #[.pointer (some ⟨6, 67, none⟩), .pointer (some ⟨gb, 0, none⟩), .int .u64 153]]).run Tryz.prog W
   = .ok (.tuple #[]) ((W.setCell ⟨tb, 0, none⟩ (.int .i64 x)).setCell ⟨tb, 1, none⟩ (.int .i64 y)) := by
 obtain ⟨b0, b1, _, _⟩ := two_at hb
 obtain ⟨t0, t1, f0, f1⟩ := two_at ht
 have e : ReflectliteValue.set #[.agg #[.pointer (some ⟨6, 67, none⟩), .pointer (some ⟨tb, 0, none⟩), .int .u64 409], .agg #[.pointer (some ⟨6, 67, none⟩), .pointer (some ⟨gb, 0, none⟩), .int .u64 153]] = bind _ _ := rfl
 rw [e]
 clear e
 simp only [Array.getLit, List.getElem_toArray, List.getElem_cons_zero, List.getElem_cons_succ, Sem.run_bind, rlPartsTa, rlPartsT, Result.andThen]
 simp [ReflectliteValue.flagAddr, Result.andThen, rlDirectT, storeVar, loadVar, Value.cells, storeCells, Addr.add, b0, b1, go_sem, t0, t1, f0, f1]
set_option maxRecDepth 20000 in
set_option maxHeartbeats 8000000 in
theorem as_hitF (tb : Nat) (x y o1 o2 : Int) (w : World) (hg : w.cell? ⟨0, 0, none⟩ = some (.iface 204 (.agg #[.pointer (some ⟨6, 96, none⟩)]))) (ht : w.heap[tb]? = some (.cells #[.int .i64 o1, .int .i64 o2] 67)) :
  Calls Tryz.prog 48 #[.iface 67 (.agg #[.int .i64 x, .int .i64 y]), .iface 99 (.pointer (some ⟨tb, 0, none⟩))] w fun ev w' => ev = .returned (.bool true) ∧ w'.heap[tb]? = some (.cells #[.int .i64 x, .int .i64 y] 67) ∧ Sr tb w w' := by
 have hV := @run_callFunc_extern Tryz.prog 88 _ (fun args => ReflectliteValue.unpack (args.getD 0 (.tuple #[]))) Tryz.func88 (by kernel_rfl) (by kernel_rfl) (by kernel_rfl) (by kernel_rfl)
 have hT := @run_callFunc_extern Tryz.prog 89 _ (ReflectliteValue.methodAny (ReflectliteValue.valueError "reflectlite.Value.Type" 0) (fun t _ _ _ => ReflectliteType.toType t)) Tryz.func89 (by kernel_rfl) (by kernel_rfl) (by kernel_rfl) (by kernel_rfl)
 have hN := @run_callFunc_extern Tryz.prog 90 _ (ReflectliteValue.method (ReflectliteValue.valueError "reflectlite.Value.IsNil" 0) ReflectliteValue.isNil) Tryz.func90 (by kernel_rfl) (by kernel_rfl) (by kernel_rfl) (by kernel_rfl)
 have hK := @run_callFunc_extern Tryz.prog 229 _ (ReflectliteType.abiMethod fun t => do pure (.int .u8 (← Rtype.kind t))) Tryz.func229 (by kernel_rfl) (by kernel_rfl) (by kernel_rfl) (by kernel_rfl)
 have hE := @run_callFunc_extern Tryz.prog 239 _ (ReflectliteType.method ReflectliteType.elem) Tryz.func239 (by kernel_rfl) (by kernel_rfl) (by kernel_rfl) (by kernel_rfl)
 have hI := @run_callFunc_extern Tryz.prog 240 _ (ReflectliteType.relation "Implements" ReflectliteType.implements_) Tryz.func240 (by kernel_rfl) (by kernel_rfl) (by kernel_rfl) (by kernel_rfl)
 have hO := @run_callFunc_extern Tryz.prog 145 _ ReflectliteType.typeOf Tryz.func145 (by kernel_rfl) (by kernel_rfl) (by kernel_rfl) (by kernel_rfl)
 have hA := @run_callFunc_extern Tryz.prog 237 _ (ReflectliteType.relation "AssignableTo" ReflectliteType.assignableTo) Tryz.func237 (by kernel_rfl) (by kernel_rfl) (by kernel_rfl) (by kernel_rfl)
 have hL := @run_callFunc_extern Tryz.prog 146 _ (ReflectliteValue.method (ReflectliteValue.valueError "reflectlite.Value.Elem" 0) ReflectliteValue.elem) Tryz.func146 (by kernel_rfl) (by kernel_rfl) (by kernel_rfl) (by kernel_rfl)
 have hS := @run_callFunc_extern Tryz.prog 147 _ ReflectliteValue.set Tryz.func147 (by kernel_rfl) (by kernel_rfl) (by kernel_rfl) (by kernel_rfl)
 have f1 := rlValP
 have f2 := rlTypeP
 have f3 := rlKindP
 have f4 := rlKindT
 have f5 := rlElemP
 have f6 := rlImplT
 have f7 := rlTypeOfT
 have f8 := rlAssignT
 have f9 := rlValT
 have m1 := rlMethKind
 have m2 := rlMethElem
 have m3 := rlMethImpl
 have m4 := rlMethAssign
 have htl : tb < w.heap.size := (Array.getElem?_eq_some_iff.1 ht).1
 have hgl : 0 < w.heap.size := by
  rcases Nat.lt_or_ge 0 w.heap.size with h | h
  ·exact h
  ·simp [World.cell?, Array.getElem?_eq_none h] at hg
 have n8 := rlIsNilP ⟨w.heap.size, 0, none⟩ ⟨tb, 0, none⟩ ((w.alloc (.cells #[.pointer (some ⟨tb, 0, none⟩)] 99)).alloc (.cells #[.pointer (some ⟨6, 99, none⟩), .pointer (some ⟨w.heap.size, 0, none⟩), .int .u64 150] 140)) (by simp)
 have hg2 : ((w.alloc (.cells #[.pointer (some ⟨tb, 0, none⟩)] 99)).alloc (.cells #[.pointer (some ⟨6, 99, none⟩), .pointer (some ⟨w.heap.size, 0, none⟩), .int .u64 150] 140)).cell? ⟨0, 0, none⟩ = some (.iface 204 (.agg #[.pointer (some ⟨6, 96, none⟩)])) := by
  rw [World.cell?_alloc_lt _ _ ⟨0, 0, none⟩ (by simp), World.cell?_alloc_lt _ _ ⟨0, 0, none⟩ hgl]; exact hg
 have el := rlElemVP ⟨w.heap.size, 0, none⟩ ⟨tb, 0, none⟩ (((w.alloc (.cells #[.pointer (some ⟨tb, 0, none⟩)] 99)).alloc (.cells #[.pointer (some ⟨6, 99, none⟩), .pointer (some ⟨w.heap.size, 0, none⟩), .int .u64 150] 140)).alloc (.cells #[.pointer (some ⟨6, 99, none⟩), .pointer (some ⟨w.heap.size, 0, none⟩), .int .u64 150] 140)) (by rw [World.cell?_alloc_lt _ _ ⟨w.heap.size, 0, none⟩ (by simp; omega), World.cell?_alloc_lt _ _ ⟨w.heap.size, 0, none⟩ (by simp)]; simp)
 have b1 := below1 w (.cells #[.pointer (some ⟨tb, 0, none⟩)] 99)
 have b2 := below1 (w.alloc (.cells #[.pointer (some ⟨tb, 0, none⟩)] 99)) (.cells #[.pointer (some ⟨6, 99, none⟩), .pointer (some ⟨w.heap.size, 0, none⟩), .int .u64 150] 140)
 have b3 := below1 ((w.alloc (.cells #[.pointer (some ⟨tb, 0, none⟩)] 99)).alloc (.cells #[.pointer (some ⟨6, 99, none⟩), .pointer (some ⟨w.heap.size, 0, none⟩), .int .u64 150] 140)) (.cells #[.pointer (some ⟨6, 99, none⟩), .pointer (some ⟨w.heap.size, 0, none⟩), .int .u64 150] 140)
 have b4 := below1 (((w.alloc (.cells #[.pointer (some ⟨tb, 0, none⟩)] 99)).alloc (.cells #[.pointer (some ⟨6, 99, none⟩), .pointer (some ⟨w.heap.size, 0, none⟩), .int .u64 150] 140)).alloc (.cells #[.pointer (some ⟨6, 99, none⟩), .pointer (some ⟨w.heap.size, 0, none⟩), .int .u64 150] 140)) (.cells #[.int .i64 x, .int .i64 y] 67)
 have ht4 : ((((w.alloc (.cells #[.pointer (some ⟨tb, 0, none⟩)] 99)).alloc (.cells #[.pointer (some ⟨6, 99, none⟩), .pointer (some ⟨w.heap.size, 0, none⟩), .int .u64 150] 140)).alloc (.cells #[.pointer (some ⟨6, 99, none⟩), .pointer (some ⟨w.heap.size, 0, none⟩), .int .u64 150] 140)).alloc (.cells #[.int .i64 x, .int .i64 y] 67)).heap[tb]? = some (.cells #[.int .i64 o1, .int .i64 o2] 67) := by
  rw [b4.block tb (by simp; omega), b3.block tb (by simp; omega), b2.block tb (by simp; omega), b1.block tb htl]; exact ht
 have hv4 : ((((w.alloc (.cells #[.pointer (some ⟨tb, 0, none⟩)] 99)).alloc (.cells #[.pointer (some ⟨6, 99, none⟩), .pointer (some ⟨w.heap.size, 0, none⟩), .int .u64 150] 140)).alloc (.cells #[.pointer (some ⟨6, 99, none⟩), .pointer (some ⟨w.heap.size, 0, none⟩), .int .u64 150] 140)).alloc (.cells #[.int .i64 x, .int .i64 y] 67)).heap[w.heap.size + 1 + 1 + 1]? = some (.cells #[.int .i64 x, .int .i64 y] 67) := by
  have := Go.Deep.blk_alloc_new (((w.alloc (.cells #[.pointer (some ⟨tb, 0, none⟩)] 99)).alloc (.cells #[.pointer (some ⟨6, 99, none⟩), .pointer (some ⟨w.heap.size, 0, none⟩), .int .u64 150] 140)).alloc (.cells #[.pointer (some ⟨6, 99, none⟩), .pointer (some ⟨w.heap.size, 0, none⟩), .int .u64 150] 140)) (.cells #[.int .i64 x, .int .i64 y] 67)
  simpa using this
 have st := rlSetT tb (w.heap.size + 1 + 1 + 1) x y o1 o2 ((((w.alloc (.cells #[.pointer (some ⟨tb, 0, none⟩)] 99)).alloc (.cells #[.pointer (some ⟨6, 99, none⟩), .pointer (some ⟨w.heap.size, 0, none⟩), .int .u64 150] 140)).alloc (.cells #[.pointer (some ⟨6, 99, none⟩), .pointer (some ⟨w.heap.size, 0, none⟩), .int .u64 150] 140)).alloc (.cells #[.int .i64 x, .int .i64 y] 67)) hv4 ht4
 have hfin : (((((((w.alloc (.cells #[.pointer (some ⟨tb, 0, none⟩)] 99)).alloc (.cells #[.pointer (some ⟨6, 99, none⟩), .pointer (some ⟨w.heap.size, 0, none⟩), .int .u64 150] 140)).alloc (.cells #[.pointer (some ⟨6, 99, none⟩), .pointer (some ⟨w.heap.size, 0, none⟩), .int .u64 150] 140)).alloc (.cells #[.int .i64 x, .int .i64 y] 67)).setCell ⟨tb, 0, none⟩ (.int .i64 x)).setCell ⟨tb, 1, none⟩ (.int .i64 y)).heap[tb]? = some (.cells #[.int .i64 x, .int .i64 y] 67)) ∧ Sr tb w ((((((w.alloc (.cells #[.pointer (some ⟨tb, 0, none⟩)] 99)).alloc (.cells #[.pointer (some ⟨6, 99, none⟩), .pointer (some ⟨w.heap.size, 0, none⟩), .int .u64 150] 140)).alloc (.cells #[.pointer (some ⟨6, 99, none⟩), .pointer (some ⟨w.heap.size, 0, none⟩), .int .u64 150] 140)).alloc (.cells #[.int .i64 x, .int .i64 y] 67)).setCell ⟨tb, 0, none⟩ (.int .i64 x)).setCell ⟨tb, 1, none⟩ (.int .i64 y)) := by
  refine ⟨by simp [World.setCell, Array.getElem?_modify, ht4], ?_⟩
  exact ((((Sr.of_below b1).trans (Sr.of_below b2)).trans (Sr.of_below b3)).trans (Sr.of_below b4)).trans ((Sr.set _ _ _ _).trans (Sr.set _ _ _ _))
 have HFIN := Hid.mkD hfin
 clear hfin b1 b2 b3 b4 ht4 hv4 ht hg
 go_enter Tryz.func48, Tryz.ntmps48
 go_wp2
 refine wp_loop_rounds 1 ?_
 rw [rounds_succ]
 go_wp2
 go_ret
 exact ⟨rfl, HFIN.out⟩
def Eh (w : World) : Prop := w.cell? ⟨0, 0, none⟩ = some (.iface 204 (.agg #[.pointer (some ⟨6, 96, none⟩)]))
theorem Eh.below {w w' : World} (h : Eh w) (hb : Below w.heap.size w w') : Eh w' := by
 unfold Eh at *
 rw [hb.cell (p := ⟨0, 0, none⟩) (by
  rcases Nat.lt_or_ge 0 w.heap.size with h1 | h1
  ·exact h1
  ·simp [World.cell?, Array.getElem?_eq_none h1] at h)]
 exact h
theorem ta_err (v : Value) (w : World) : (Instr.typeAssert (.iface 67 v) 20 96 true).run Tryz.prog w = .ok (.tuple #[.iface 67 v, .bool true]) w := by kernel_rfl
set_option maxRecDepth 20000 in
set_option maxHeartbeats 4000000 in
theorem ownFault_c (x y : Int) (w : World) (hE : Eh w) :
  Calls Tryz.prog 31 #[.iface 67 (.agg #[.int .i64 x, .int .i64 y])] w fun e w' => e = .returned (.agg #[.int .i64 x, .int .i64 y]) ∧ Below w.heap.size w w' := by
 have HE : Hid (Eh w) := hE
 clear hE
 have ta := ta_err
 go_enter Tryz.func31, Tryz.ntmps31
 obtain ⟨W, hW⟩ : ∃ W, W = (w.alloc (.cells #[.int .i64 0, .int .i64 0] 67)).alloc (.cells #[.int .i64 0, .int .i64 0] 67) := ⟨_, rfl⟩
 have hbW : Below w.heap.size w W := by rw [hW]; exact below2 _ _ _
 have HX : Hid (W.heap[w.heap.size]? = some (.cells #[.int .i64 0, .int .i64 0] 67)) := by
  unfold Hid; rw [hW]; exact ((below1 _ _).block _ (by simp)).trans (Go.Deep.blk_alloc_new _ _)
 have HF : Hid (W.heap[w.heap.size + 1]? = some (.cells #[.int .i64 0, .int .i64 0] 67)) := by
  unfold Hid; rw [hW]
  have := Go.Deep.blk_alloc_new (w.alloc (.cells #[.int .i64 0, .int .i64 0] 67)) (.cells #[.int .i64 0, .int .i64 0] 67)
  simpa using this
 have HBW := Hid.mkD hbW
 clear hbW
 go_wp2_with fail
 rw [← hW]
 clear hW
 refine (as_hitF (w.heap.size + 1) x y 0 0 W (HE.out.below HBW.out) HF.out).mono ?_
 rintro e w1 ⟨rfl, hv, hs⟩
 have HX1 : Hid (w1.heap[w.heap.size]? = some (.cells #[.int .i64 0, .int .i64 0] 67)) := (hs.block _ (Array.getElem?_eq_some_iff.1 HX.out).1 (by omega)).trans HX.out
 have HB1 : Hid (Below w.heap.size w w1) := HBW.out.trans (hs.below (by omega) HBW.out.size)
 obtain ⟨v0, v1, vf0, vf1⟩ := two_at hv
 obtain ⟨x0, x1, xf0, xf1⟩ := two_at HX1.out
 clear hv hs HF HX
 go_wp2_with fail
 have hset : Below w.heap.size w1 ((w1.setCell ⟨w.heap.size, 0, none⟩ (.int .i64 x)).setCell ⟨w.heap.size, 1, none⟩ (.int .i64 y)) := ((Below.refl _ _).setCell (by simp) _).setCell (by simp) _
 exact bodyPost_ret (v := .agg #[.int .i64 x, .int .i64 y]) (by simp [results, Tryz.results31, go_sem, x0, x1]) rfl ⟨rfl, HB1.out.trans hset⟩
end Go.Proofs.YtnnpfoilojicjaaGreatDoor
