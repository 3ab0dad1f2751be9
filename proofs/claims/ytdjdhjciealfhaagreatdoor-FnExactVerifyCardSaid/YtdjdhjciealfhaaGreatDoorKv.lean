import Derived.Test.YtdjdhjciealfhaaGreatDoorKb
import Derived.Test.YtdjdhjciealfhaaGreatDoorKg
import Derived.Test.YtdjdhjciealfhaaGreatDoorUq
import Derived.Test.YtdjdhjciealfhaaGreatDoorUf
import Derived.Deep.RegionHeld
import Derived.BigRegion
namespace Go.Proofs.YtdjdhjciealfhaaGreatDoor
open Go.RowKit Ch1
namespace Vf
/-- A state of the program's, reached or not. -/
def stO : Option (List Nat) → List Value
  | none => stG false 0 (fun _ => 0)
  | some s => stL s
theorem stO_len (r : Option (List Nat)) : (stO r).length = 202 := by cases r <;> exact stG_len _ _ _
theorem stO_one (r : Option (List Nat)) : ∀ v ∈ stO r, v.oneCell' = true := by cases r <;> exact stG_one _ _ _
/-- The program's row of states. -/
def Sp (W : World) (n S : Nat) (σ : States) : Prop := ∃ arr : Array Value, W.heap[S]? = some (.cells arr 90) ∧ arr.size = n * 202 ∧ ∀ i, i < n → ∀ j, j < 202 → arr[i * 202 + j]? = (stO (σ i))[j]?
theorem Sp.lt {W : World} {n S : Nat} {σ : States} (h : Sp W n S σ) : S < W.heap.size := by
  obtain ⟨arr, ha, _⟩ := h
  exact (Array.getElem?_eq_some_iff.1 ha).1
theorem Sp.keep {W W' : World} {n S : Nat} {σ : States} (h : Sp W n S σ) (hS : W'.heap[S]? = W.heap[S]?) : Sp W' n S σ := by
  obtain ⟨arr, ha, r⟩ := h
  exact ⟨arr, hS.trans ha, r⟩
theorem Sp.below {W W' : World} {n S : Nat} {σ : States} (h : Sp W n S σ) (hb : Below W.heap.size W W') : Sp W' n S σ := h.keep (hb.block S h.lt)
theorem Sp.range {W : World} {n S : Nat} {σ : States} (h : Sp W n S σ) {i : Nat} (hi : i < n) : W.rangeAt S (i * 202) (stO (σ i)) := fun j v hv => by
  obtain ⟨arr, ha, _, hc⟩ := h
  have hj : j < 202 := by rw [← stO_len (σ i)]; exact (List.getElem?_eq_some_iff.1 hv).1
  simp only [World.cell?, ha]
  rw [hc i hi j hj, hv]
  rfl
theorem Sp.there {W : World} {n S : Nat} {σ : States} (h : Sp W n S σ) {i : Nat} (hi : i < n) : W.there S (i * 202) 202 := fun j hj => by
  obtain ⟨arr, ha, hs, hc⟩ := h
  have : i * 202 + j < arr.size := by
    have : (i + 1) * 202 ≤ n * 202 := Nat.mul_le_mul_right _ hi
    omega
  refine ⟨?_, by simp [World.frozen?, ha]⟩
  simp only [World.cell?, ha]
  rw [Array.getElem?_eq_getElem this]
  rfl
theorem Sp.store {W : World} {n S : Nat} {σ : States} (h : Sp W n S σ) {k : Nat} (hk : k < n) (r : Option (List Nat)) : Sp (W.setCells S (k * 202) (stO r)) n S (fun j => if j = k then r else σ j) := by
  obtain ⟨arr, ha, hs, hc⟩ := h
  obtain ⟨arr', h1, h2, h3⟩ := heap_setCells S _ (stO r) (k * 202) W arr ha
  refine ⟨arr', h1, by omega, fun i hi j hj => ?_⟩
  have hl := stO_len r
  have hkn : (k + 1) * 202 ≤ n * 202 := Nat.mul_le_mul_right _ hk
  have hin : (i + 1) * 202 ≤ n * 202 := Nat.mul_le_mul_right _ hi
  rw [h3]
  simp only []
  by_cases hik : i = k
  · subst hik
    rw [if_pos (by omega), if_pos rfl, Nat.add_sub_cancel_left]
  · have hne : ¬ (k * 202 ≤ i * 202 + j ∧ i * 202 + j < k * 202 + (stO r).length ∧ i * 202 + j < arr.size) := by
      rcases Nat.lt_or_gt_of_ne hik with h4 | h4
      · have : (i + 1) * 202 ≤ k * 202 := Nat.mul_le_mul_right _ h4
        omega
      · have : (k + 1) * 202 ≤ i * 202 := Nat.mul_le_mul_right _ h4
        omega
    rw [if_neg hne, if_neg hik]
    exact hc i hi j hj
theorem Sp.congr {W : World} {n S : Nat} {σ τ : States} (h : Sp W n S σ) (he : ∀ i, i < n → τ i = σ i) : Sp W n S τ := by
  obtain ⟨arr, ha, hs, hc⟩ := h
  exact ⟨arr, ha, hs, fun i hi j hj => by rw [he i hi]; exact hc i hi j hj⟩
theorem infoSt : (Tryz.prog.info? 90).map (fun i => (i.zero, i.size, i.bytes)) = some (some (.agg Tryz.zeroCells90), 202, 416) := by kernel_rfl
theorem sizeO (r : Option (List Nat)) : (Tryz.prog.info? 90).map (·.size) = some (stO r).length := by rw [stO_len]; kernel_rfl
theorem Sp.made {w w' : World} {B n : Nat} (ho : w'.ownsRow B 90 202 (.slice (some ⟨w.heap.size, 0, none⟩) n n) n (madeCells (Value.agg Tryz.zeroCells90).cells (n * 202)).toList) : Sp w' n w.heap.size (fun _ => none) := by
  obtain ⟨_, h | ⟨g', cap, cur, hv, _, hh, _, _, hsz, h4⟩⟩ := ho
  · cases h.1
  · cases hv
    refine ⟨cur, hh, by omega, fun i hi j hj => ?_⟩
    have hin : (i + 1) * 202 ≤ n * 202 := Nat.mul_le_mul_right _ hi
    have e : (List.take (n * 202) cur.toList)[i * 202 + j]? = ((madeCells (Value.agg Tryz.zeroCells90).cells (n * 202)).toList)[i * 202 + j]? := by rw [h4]
    rw [List.getElem?_take, if_pos (by omega), Array.getElem?_toList] at e
    rw [e]
    have hz : (Value.agg Tryz.zeroCells90).cells = (stG false 0 (fun _ => 0)).toArray := by rw [← zeroS]; rfl
    have hl := stG_len false 0 (fun _ => 0)
    rw [hz]
    unfold madeCells
    rw [Array.getElem?_toList]
    have hm : (i * 202 + j) % 202 = j := by omega
    simp only [Array.getElem?_map, Array.getElem?_range, List.size_toArray, hl]
    rw [if_pos (by omega)]
    simp only [Option.map_some, hm]
    show _ = (stG false 0 (fun _ => 0))[j]?
    simp [show j < (stG false 0 (fun _ => 0)).length by omega]
end Vf
end Go.Proofs.YtdjdhjciealfhaaGreatDoor
namespace Go.Proofs.YtdjdhjciealfhaaGreatDoor
open Go.RowKit Go.Shelf Ch1
namespace Vf
/-- The operations of the region in which provenOf asks provenIn. -/
def ops5 : Array Oper := #[{ dst := some 18, op := Op.move (Operand.tmp 5), type := 43, pos := "l3_module.go:556", after := #[], guard := none }, { dst := some 19, op := Op.move (Operand.tmp 6), type := 3, pos := "l3_module.go:556", after := #[], guard := none }, { dst := some 20, op := Op.move (Operand.tmp 1), type := 51, pos := "l3_module.go:556", after := #[], guard := none }, { dst := some 21, op := Op.move (Operand.tmp 6), type := 3, pos := "l3_module.go:556", after := #[], guard := none }, { dst := some 22, op := Op.indexAddr 51 (Operand.tmp 20) (Operand.tmp 21), type := 0, pos := "l3_module.go:556", after := #[{ on := 2, ground := Ground.data }, { on := 3, ground := Ground.data }], guard := none }, { dst := some 23, op := Op.fieldAddr 90 (Operand.tmp 22) 0, type := 0, pos := "l3_module.go:556", after := #[{ on := 4, ground := Ground.data }], guard := none }, { dst := some 24, op := Op.load 4 (Operand.tmp 23), type := 4, pos := "l3_module.go:556", after := #[{ on := 5, ground := Ground.data }], guard := none }, { dst := some 25, op := Op.move (Operand.tmp 24), type := 4, pos := "l3_module.go:556", after := #[{ on := 6, ground := Ground.data }], guard := none }, { dst := some 26, op := Op.load 73 (Operand.tmp 7), type := 73, pos := "l3_module.go:556", after := #[{ on := 7, ground := Ground.guard }], guard := some (7, true) }, { dst := some 27, op := Op.move (Operand.tmp 1), type := 51, pos := "l3_module.go:556", after := #[{ on := 7, ground := Ground.guard }], guard := some (7, true) }, { dst := some 28, op := Op.move (Operand.tmp 6), type := 3, pos := "l3_module.go:556", after := #[{ on := 7, ground := Ground.guard }], guard := some (7, true) }, { dst := some 29, op := Op.indexAddr 51 (Operand.tmp 27) (Operand.tmp 28), type := 0, pos := "l3_module.go:556", after := #[{ on := 9, ground := Ground.data }, { on := 10, ground := Ground.data }, { on := 7, ground := Ground.guard }], guard := some (7, true) }, { dst := some 30, op := Op.load 90 (Operand.tmp 29), type := 90, pos := "l3_module.go:556", after := #[{ on := 11, ground := Ground.data }, { on := 7, ground := Ground.guard }], guard := some (7, true) }, { dst := some 31, op := Op.call { callee := Callee.value (Operand.func 49), args := #[Operand.tmp 26, Operand.tmp 30], argTypes := #[73, 90] }, type := 4, pos := "l3_module.go:556", after := #[{ on := 8, ground := Ground.data }, { on := 12, ground := Ground.data }, { on := 7, ground := Ground.chain }, { on := 7, ground := Ground.guard }], guard := some (7, true) }, { dst := some 32, op := Op.pick (Operand.tmp 25) (Operand.tmp 31) (Operand.const (Value.bool false)), type := 4, pos := "l3_module.go:556", after := #[{ on := 7, ground := Ground.data }, { on := 13, ground := Ground.data }], guard := none }, { dst := some 33, op := Op.indexAddr 43 (Operand.tmp 18) (Operand.tmp 19), type := 0, pos := "l3_module.go:556", after := #[{ on := 0, ground := Ground.data }, { on := 1, ground := Ground.data }, { on := 0, ground := Ground.phase }, { on := 1, ground := Ground.phase }, { on := 2, ground := Ground.phase }, { on := 3, ground := Ground.phase }, { on := 4, ground := Ground.phase }, { on := 5, ground := Ground.phase }, { on := 6, ground := Ground.phase }, { on := 7, ground := Ground.phase }, { on := 8, ground := Ground.phase }, { on := 9, ground := Ground.phase }, { on := 10, ground := Ground.phase }, { on := 11, ground := Ground.phase }, { on := 12, ground := Ground.phase }, { on := 13, ground := Ground.phase }, { on := 14, ground := Ground.phase }], guard := none }, { dst := none, op := Op.store 4 (Operand.tmp 33) (Operand.tmp 32), type := 0, pos := "l3_module.go:556", after := #[{ on := 15, ground := Ground.data }, { on := 14, ground := Ground.data }, { on := 13, ground := Ground.chain }, { on := 0, ground := Ground.phase }, { on := 1, ground := Ground.phase }, { on := 2, ground := Ground.phase }, { on := 3, ground := Ground.phase }, { on := 4, ground := Ground.phase }, { on := 5, ground := Ground.phase }, { on := 6, ground := Ground.phase }, { on := 7, ground := Ground.phase }, { on := 8, ground := Ground.phase }, { on := 9, ground := Ground.phase }, { on := 10, ground := Ground.phase }, { on := 11, ground := Ground.phase }, { on := 12, ground := Ground.phase }, { on := 13, ground := Ground.phase }, { on := 14, ground := Ground.phase }], guard := none }]
theorem x5_0 {a : Act} (w : World) {v : Value} (h : a.tmps[5]?.getD undef = v) : (execOp a.eval (ops5[0]'(by decide))).run Tryz.prog w = .ok (.value v) w := by
  unfold ops5
  go_simp
theorem x5_1 {a : Act} (w : World) {v : Value} (h : a.tmps[6]?.getD undef = v) : (execOp a.eval (ops5[1]'(by decide))).run Tryz.prog w = .ok (.value v) w := by
  unfold ops5
  go_simp
theorem x5_2 {a : Act} (w : World) {v : Value} (h : a.tmps[1]?.getD undef = v) : (execOp a.eval (ops5[2]'(by decide))).run Tryz.prog w = .ok (.value v) w := by
  unfold ops5
  go_simp
theorem x5_3 {a : Act} (w : World) {v : Value} (h : a.tmps[6]?.getD undef = v) : (execOp a.eval (ops5[3]'(by decide))).run Tryz.prog w = .ok (.value v) w := by
  unfold ops5
  go_simp
theorem x5_7 {a : Act} (w : World) {v : Value} (h : a.tmps[24]?.getD undef = v) : (execOp a.eval (ops5[7]'(by decide))).run Tryz.prog w = .ok (.value v) w := by
  unfold ops5
  go_simp
theorem x5_9 {a : Act} (w : World) {v : Value} (h : a.tmps[1]?.getD undef = v) : (execOp a.eval (ops5[9]'(by decide))).run Tryz.prog w = .ok (.value v) w := by
  unfold ops5
  go_simp
theorem x5_10 {a : Act} (w : World) {v : Value} (h : a.tmps[6]?.getD undef = v) : (execOp a.eval (ops5[10]'(by decide))).run Tryz.prog w = .ok (.value v) w := by
  unfold ops5
  go_simp
theorem x5_4 {a : Act} (w : World) {S n c i : Nat} (h : a.tmps[20]?.getD undef = .slice (some ⟨S, 0, none⟩) n c) (h2 : a.tmps[21]?.getD undef = .int .i64 (i : Int)) (hi : i < n) : (execOp a.eval (ops5[4]'(by decide))).run Tryz.prog w = .ok (.value (.pointer (some ⟨S, i * 202, none⟩))) w := by
  unfold ops5
  go_simp
theorem x5_5 {a : Act} (w : World) {S o : Nat} (h : a.tmps[22]?.getD undef = .pointer (some ⟨S, o, none⟩)) : (execOp a.eval (ops5[5]'(by decide))).run Tryz.prog w = .ok (.value (.pointer (some ⟨S, o, none⟩))) w := by
  unfold ops5
  go_simp
theorem x5_6 {a : Act} {w : World} {S o : Nat} {v : Value} (h : a.tmps[23]?.getD undef = .pointer (some ⟨S, o, none⟩)) (c : w.cell? ⟨S, o, none⟩ = some v) : (execOp a.eval (ops5[6]'(by decide))).run Tryz.prog w = .ok (.value v) w := by
  unfold ops5
  go_simp
theorem x5_8 {a : Act} {w : World} {b : Nat} {v0 v1 v2 : Value} (h : a.tmps[7]?.getD undef = .pointer (some ⟨b, 0, none⟩)) (c0 : w.cell? ⟨b, 0, none⟩ = some v0) (c1 : w.cell? ⟨b, 1, none⟩ = some v1) (c2 : w.cell? ⟨b, 2, none⟩ = some v2) : (execOp a.eval (ops5[8]'(by decide))).run Tryz.prog w = .ok (.value (.agg #[v0, v1, v2])) w := by
  unfold ops5
  go_simp
theorem x5_11 {a : Act} (w : World) {S n c i : Nat} (h : a.tmps[27]?.getD undef = .slice (some ⟨S, 0, none⟩) n c) (h2 : a.tmps[28]?.getD undef = .int .i64 (i : Int)) (hi : i < n) : (execOp a.eval (ops5[11]'(by decide))).run Tryz.prog w = .ok (.value (.pointer (some ⟨S, i * 202, none⟩))) w := by
  unfold ops5
  go_simp
theorem x5_12 {a : Act} {w : World} {S o : Nat} {A : List Value} (h : a.tmps[29]?.getD undef = .pointer (some ⟨S, o, none⟩)) (hr : w.rangeAt S o A) (hz : (Tryz.prog.info? 90).map (·.size) = some A.length) : (execOp a.eval (ops5[12]'(by decide))).run Tryz.prog w = .ok (.value (.agg A.toArray)) w := by
  have h1 := run_loadAt_mid (P := Tryz.prog) w S o 90 A _ hr Tryz.underlying90 rfl hz
  have e : a.eval (.tmp 29) = .pointer (some ⟨S, o, none⟩) := by simp [Act.eval, h]
  unfold ops5
  simp only [List.getElem_toArray, List.getElem_cons_succ, List.getElem_cons_zero, execOp, e, Sem.run_bind, h1, Result.andThen_ok, Sem.run_pure]
theorem x5_13 {a : Act} (w : World) {v0 v1 : Value} (h0 : a.tmps[26]?.getD undef = v0) (h1 : a.tmps[30]?.getD undef = v1) : (execOp a.eval (ops5[13]'(by decide))).run Tryz.prog w = .ok (.enter 49 #[v0, v1]) w := by
  unfold ops5
  go_simp
theorem x5_14 {a : Act} (w : World) {b : Bool} (h : a.tmps[25]?.getD undef = .bool true) (h2 : a.tmps[31]?.getD undef = .bool b) : (execOp a.eval (ops5[14]'(by decide))).run Tryz.prog w = .ok (.value (.bool b)) w := by
  unfold ops5
  go_simp
theorem x5_15 {a : Act} (w : World) {S n c i : Nat} (h : a.tmps[18]?.getD undef = .slice (some ⟨S, 0, none⟩) n c) (h2 : a.tmps[19]?.getD undef = .int .i64 (i : Int)) (hi : i < n) : (execOp a.eval (ops5[15]'(by decide))).run Tryz.prog w = .ok (.value (.pointer (some ⟨S, i, none⟩))) w := by
  unfold ops5
  go_simp
theorem x5_16 {a : Act} {w : World} {S i : Nat} {b ob : Bool} (h : a.tmps[33]?.getD undef = .pointer (some ⟨S, i, none⟩)) (h2 : a.tmps[32]?.getD undef = .bool b) (c : w.cell? ⟨S, i, none⟩ = some (.bool ob)) (f : w.frozen? ⟨S, i, none⟩ = false) : (execOp a.eval (ops5[16]'(by decide))).run Tryz.prog w = .ok .skip (w.setCell ⟨S, i, none⟩ (.bool b)) := by
  unfold ops5
  go_simp
/-- The value that a guard looks at. -/
theorem want5 {a : Act} {o : Oper} (hg : o.guard = none ∨ (o.guard = some (7, true) ∧ sl a 25 = .bool true)) : Region.wanted o (yielded ops5 a.tmps) = true := by
  rcases hg with hg | ⟨hg, h⟩
  · simp [Region.wanted, hg]
  · have h1 : a.tmps[25]? = some (.bool true) := by
      unfold sl at h
      cases hh : a.tmps[25]? with
      | none => rw [hh] at h; cases h
      | some v => rw [hh] at h; simp at h; rw [h]
    have h2 : yielded ops5 a.tmps 7 = some true := by
      have h3 : (ops5[7]?).bind (·.dst) = some 25 := rfl
      unfold yielded
      rw [h3]
      simp [h1]
    simp [Region.wanted, hg, h2]
theorem any13 {T : World → Prop} {K : Act → World → Prop} {fuel : Nat} {l : Array Bool} {a : Act} {w : World} {v0 v1 : Value} (hr : Region.ready .any ops5 l = [13]) (h25 : sl a 25 = .bool true) (h26 : sl a 26 = v0) (h30 : sl a 30 = v1) (hC : Calls Tryz.prog 49 #[v0, v1] w fun e w' => ∃ v, e = .returned v ∧ T w' ∧ wpAnyH Tryz.prog .any ops5 (Ends K) T fuel (l.setIfInBounds 13 true) (a.put (some 31) v) w') : wpAnyH Tryz.prog .any ops5 (Ends K) T (fuel + 1) l a w := by
  refine wpAnyH_all hr (by simp) (fun j hj => ?_)
  rw [List.mem_singleton] at hj
  subst hj
  refine wpOp_step (o := ops5[13]'(by decide)) rfl (fun K' hK' => ?_)
  rw [if_pos]
  rotate_left
  · exact want5 (Or.inr ⟨rfl, h25⟩)
  unfold Oper.wp
  rw [x5_13 w h26 h30]
  refine hC.mono ?_
  rintro e w' ⟨v, rfl, h1, h2⟩
  exact hK' _ _ ⟨h1, h2⟩
theorem any16 {T : World → Prop} {K : Act → World → Prop} {fuel : Nat} {l : Array Bool} {a : Act} {w : World} {S i : Nat} {b ob : Bool} (hr : Region.ready .any ops5 l = [16]) (h33 : sl a 33 = .pointer (some ⟨S, i, none⟩)) (h32 : sl a 32 = .bool b) (c : w.cell? ⟨S, i, none⟩ = some (.bool ob)) (f : w.frozen? ⟨S, i, none⟩ = false) (hT : T (w.setCell ⟨S, i, none⟩ (.bool b))) (h : wpAnyH Tryz.prog .any ops5 (Ends K) T fuel (l.setIfInBounds 16 true) a (w.setCell ⟨S, i, none⟩ (.bool b))) : wpAnyH Tryz.prog .any ops5 (Ends K) T (fuel + 1) l a w := by
  refine wpAnyH_all hr (by simp) (fun j hj => ?_)
  rw [List.mem_singleton] at hj
  subst hj
  refine wpOp_step (o := ops5[16]'(by decide)) rfl (fun K' hK' => ?_)
  rw [if_pos]
  rotate_left
  · exact want5 (Or.inl rfl)
  unfold Oper.wp
  rw [x5_16 h33 h32 c f]
  exact hK' _ _ ⟨hT, h⟩
theorem take5 {T : World → Prop} {K : Act → World → Prop} {i : Nat} {o : Oper} {v : Value} {d fuel : Nat} {l : Array Bool} {a : Act} {w : World} (hi : ops5[i]? = some o) (hd : o.dst = some d) (hf : Region.free .any ops5 l i = true) (hr : (Region.ready .any ops5 l).contains i = true) (hg : o.guard = none ∨ (o.guard = some (7, true) ∧ sl a 25 = .bool true)) (hx : ∀ wx, T wx → (execOp a.eval o).run Tryz.prog wx = .ok (.value v) wx) (hT : T w) (h : wpAnyH Tryz.prog .any ops5 (Ends K) T fuel (l.setIfInBounds i true) (a.put (some d) v) w) : wpAnyH Tryz.prog .any ops5 (Ends K) T (fuel + 1) l a w :=
  wpAnyH_take hi (by kernel_rfl) hf hr (fun _ _ _ h => h) (Or.inl ⟨want5 hg, hx⟩) hT (by rw [hd]; exact h)
/-- The frame behind the region. -/
def fr5 (a0 : Act) (Rb S i n : Nat) (x0 x1 x2 : Int) (A : List Value) (pb : Bool) : Act := ((((((((((((((((((((((((((((((((a0 : Act).put (some 18) (.slice (some ⟨Rb, 0, none⟩) n n)) : Act).put (some 19) (.int .i64 (i : Int))) : Act).put (some 20) (.slice (some ⟨S, 0, none⟩) n n)) : Act).put (some 21) (.int .i64 (i : Int))) : Act).put (some 22) (.pointer (some ⟨S, i * 202, none⟩))) : Act).put (some 23) (.pointer (some ⟨S, i * 202, none⟩))) : Act).put (some 24) (.bool true)) : Act).put (some 25) (.bool true)) : Act).put (some 26) (.agg #[.int .i64 x0, .int .i64 x1, .int .i64 x2])) : Act).put (some 27) (.slice (some ⟨S, 0, none⟩) n n)) : Act).put (some 28) (.int .i64 (i : Int))) : Act).put (some 29) (.pointer (some ⟨S, i * 202, none⟩))) : Act).put (some 30) (.agg A.toArray)) : Act).put (some 31) (.bool pb)) : Act).put (some 32) (.bool pb)) : Act).put (some 33) (.pointer (some ⟨Rb, i, none⟩)))
/-- The cells of all blocks but one are as they were. -/
def Old5 (Rb : Nat) (w0 wx : World) : Prop := ∀ b o v, b < w0.heap.size → b ≠ Rb → w0.cell? ⟨b, o, none⟩ = some v → wx.cell? ⟨b, o, none⟩ = some v
theorem Old5.below {Rb : Nat} {w0 wx : World} (h : Below w0.heap.size w0 wx) : Old5 Rb w0 wx := fun _ _ _ hb _ hc => cell_keepD h hb hc
theorem Old5.set {Rb i : Nat} {w0 wx : World} {v : Value} (h : Old5 Rb w0 wx) : Old5 Rb w0 (wx.setCell ⟨Rb, i, none⟩ v) := fun b o u hb hn hc => by
  have e : (wx.setCell ⟨Rb, i, none⟩ v).cell? ⟨b, o, none⟩ = wx.cell? ⟨b, o, none⟩ := World.cell?_of_block (Below.heap_setCell wx _ _ b hn)
  rw [e]
  exact h b o u hb hn hc
set_option maxRecDepth 20000 in
set_option maxHeartbeats 2000000 in
theorem reg5 {a0 : Act} {w0 : World} {Q : Exit → Act → World → Prop} (Rb S X i n : Nat) (x0 x1 x2 : Int) (A : List Value) (ob pb : Bool) (hz : a0.tmps.size = 36) (h1 : sl a0 1 = .slice (some ⟨S, 0, none⟩) n n) (h5 : sl a0 5 = .slice (some ⟨Rb, 0, none⟩) n n) (h6 : sl a0 6 = .int .i64 (i : Int)) (h7 : sl a0 7 = .pointer (some ⟨X, 0, none⟩)) (hi : i < n) (hS0 : S < w0.heap.size) (hX0 : X < w0.heap.size) (hR0 : Rb < w0.heap.size) (hSR : S ≠ Rb) (hXR : X ≠ Rb)
    (q0 : w0.cell? ⟨S, i * 202, none⟩ = some (.bool true)) (e0 : w0.cell? ⟨X, 0, none⟩ = some (.int .i64 x0)) (e1 : w0.cell? ⟨X, 1, none⟩ = some (.int .i64 x1)) (e2 : w0.cell? ⟨X, 2, none⟩ = some (.int .i64 x2)) (hr : w0.rangeAt S (i * 202) A) (hAz : (Tryz.prog.info? 90).map (·.size) = some A.length)
    (r0 : w0.cell? ⟨Rb, i, none⟩ = some (.bool ob)) (r1 : ∀ wx, Below w0.heap.size w0 wx → wx.frozen? ⟨Rb, i, none⟩ = false)
    (hC : Calls Tryz.prog 49 #[.agg #[.int .i64 x0, .int .i64 x1, .int .i64 x2], .agg A.toArray] w0.drew fun e w' => e = .returned (.bool pb) ∧ Below w0.heap.size w0.drew w')
    (hK : ∀ wf, Below w0.heap.size w0 wf → Q .normal (fr5 a0 Rb S i n x0 x1 x2 A pb) (wf.setCell ⟨Rb, i, none⟩ (.bool pb))) :
    (Code.region 5 ops5 true).wp Tryz.prog Q a0 w0 := by
  refine wp_mono (Q := Ends (fun a w => Q .normal a w)) ?_ (fun e a w hh => by cases e <;> first | exact hh | exact hh.elim)
  refine wp_region_held (S := Old5 Rb w0) (by kernel_rfl) ?_
  have hB : Below w0.heap.size w0 w0.drew := below_drewM (Below.refl _ _)
  have hS : Old5 Rb w0 w0.drew := Old5.below hB
  change wpAnyH _ _ _ _ _ _ _ _ w0.drew
  refine take5 (i := 0) (o := ops5[0]'(by decide)) (d := 18) (v := (.slice (some ⟨Rb, 0, none⟩) n n)) rfl rfl (by kernel_rfl) (by kernel_rfl) (Or.inl rfl) (fun wx hT => x5_0 wx h5) hS ?_
  refine take5 (i := 1) (o := ops5[1]'(by decide)) (d := 19) (v := (.int .i64 (i : Int))) rfl rfl (by kernel_rfl) (by kernel_rfl) (Or.inl rfl) (fun wx hT => x5_1 wx (show sl _ 6 = _ from by simp [slp, hz, h6])) hS ?_
  refine take5 (i := 2) (o := ops5[2]'(by decide)) (d := 20) (v := (.slice (some ⟨S, 0, none⟩) n n)) rfl rfl (by kernel_rfl) (by kernel_rfl) (Or.inl rfl) (fun wx hT => x5_2 wx (show sl _ 1 = _ from by simp [slp, szp, hz, h1])) hS ?_
  refine take5 (i := 3) (o := ops5[3]'(by decide)) (d := 21) (v := (.int .i64 (i : Int))) rfl rfl (by kernel_rfl) (by kernel_rfl) (Or.inl rfl) (fun wx hT => x5_3 wx (show sl _ 6 = _ from by simp [slp, szp, hz, h6])) hS ?_
  refine take5 (i := 4) (o := ops5[4]'(by decide)) (d := 22) (v := (.pointer (some ⟨S, i * 202, none⟩))) rfl rfl (by kernel_rfl) (by kernel_rfl) (Or.inl rfl) (fun wx hT => x5_4 (c := n) wx (show sl _ 20 = _ from by simp [slp, szp, hz]) (show sl _ 21 = _ from by simp [slp, szp, hz]) hi) hS ?_
  refine take5 (i := 5) (o := ops5[5]'(by decide)) (d := 23) (v := (.pointer (some ⟨S, i * 202, none⟩))) rfl rfl (by kernel_rfl) (by kernel_rfl) (Or.inl rfl) (fun wx hT => x5_5 wx (show sl _ 22 = _ from by simp [slp, szp, hz])) hS ?_
  refine take5 (i := 6) (o := ops5[6]'(by decide)) (d := 24) (v := (.bool true)) rfl rfl (by kernel_rfl) (by kernel_rfl) (Or.inl rfl) (fun wx hT => x5_6 (show sl _ 23 = _ from by simp [slp, szp, hz]) (hT _ _ _ hS0 hSR q0)) hS ?_
  refine take5 (i := 7) (o := ops5[7]'(by decide)) (d := 25) (v := (.bool true)) rfl rfl (by kernel_rfl) (by kernel_rfl) (Or.inl rfl) (fun wx hT => x5_7 wx (show sl _ 24 = _ from by simp [slp, szp, hz])) hS ?_
  refine take5 (i := 8) (o := ops5[8]'(by decide)) (d := 26) (v := (.agg #[.int .i64 x0, .int .i64 x1, .int .i64 x2])) rfl rfl (by kernel_rfl) (by kernel_rfl) (Or.inr ⟨rfl, (show sl _ 25 = _ from by simp [slp, szp, hz])⟩) (fun wx hT => x5_8 (show sl _ 7 = _ from by simp [slp, szp, hz, h7]) (hT _ _ _ hX0 hXR e0) (hT _ _ _ hX0 hXR e1) (hT _ _ _ hX0 hXR e2)) hS ?_
  refine take5 (i := 9) (o := ops5[9]'(by decide)) (d := 27) (v := (.slice (some ⟨S, 0, none⟩) n n)) rfl rfl (by kernel_rfl) (by kernel_rfl) (Or.inr ⟨rfl, (show sl _ 25 = _ from by simp [slp, szp, hz])⟩) (fun wx hT => x5_9 wx (show sl _ 1 = _ from by simp [slp, szp, hz, h1])) hS ?_
  refine take5 (i := 10) (o := ops5[10]'(by decide)) (d := 28) (v := (.int .i64 (i : Int))) rfl rfl (by kernel_rfl) (by kernel_rfl) (Or.inr ⟨rfl, (show sl _ 25 = _ from by simp [slp, szp, hz])⟩) (fun wx hT => x5_10 wx (show sl _ 6 = _ from by simp [slp, szp, hz, h6])) hS ?_
  refine take5 (i := 11) (o := ops5[11]'(by decide)) (d := 29) (v := (.pointer (some ⟨S, i * 202, none⟩))) rfl rfl (by kernel_rfl) (by kernel_rfl) (Or.inr ⟨rfl, (show sl _ 25 = _ from by simp [slp, szp, hz])⟩) (fun wx hT => x5_11 (c := n) wx (show sl _ 27 = _ from by simp [slp, szp, hz]) (show sl _ 28 = _ from by simp [slp, szp, hz]) hi) hS ?_
  refine take5 (i := 12) (o := ops5[12]'(by decide)) (d := 30) (v := (.agg A.toArray)) rfl rfl (by kernel_rfl) (by kernel_rfl) (Or.inr ⟨rfl, (show sl _ 25 = _ from by simp [slp, szp, hz])⟩) (fun wx hT => x5_12 (show sl _ 29 = _ from by simp [slp, szp, hz]) (fun j u hu => hT _ _ _ hS0 hSR (hr j u hu)) hAz) hS ?_
  refine any13 (v0 := .agg #[.int .i64 x0, .int .i64 x1, .int .i64 x2]) (v1 := .agg A.toArray) (by kernel_rfl) (show sl _ 25 = _ from by simp [slp, szp, hz]) (show sl _ 26 = _ from by simp [slp, szp, hz]) (show sl _ 30 = _ from by simp [slp, szp, hz]) (hC.mono ?_)
  rintro e w' ⟨rfl, hbw⟩
  have hB1 : Below w0.heap.size w0 w' := hB.trans hbw
  have hS1 : Old5 Rb w0 w' := Old5.below hB1
  refine ⟨_, rfl, hS1, ?_⟩
  refine take5 (i := 14) (o := ops5[14]'(by decide)) (d := 32) (v := (.bool pb)) rfl rfl (by kernel_rfl) (by kernel_rfl) (Or.inl rfl) (fun wx hT => x5_14 wx (show sl _ 25 = _ from by simp [slp, szp, hz]) (show sl _ 31 = _ from by simp [slp, szp, hz])) hS1 ?_
  refine take5 (i := 15) (o := ops5[15]'(by decide)) (d := 33) (v := (.pointer (some ⟨Rb, i, none⟩))) rfl rfl (by kernel_rfl) (by kernel_rfl) (Or.inl rfl) (fun wx hT => x5_15 (c := n) wx (show sl _ 18 = _ from by simp [slp, szp, hz]) (show sl _ 19 = _ from by simp [slp, szp, hz]) hi) hS1 ?_
  refine any16 (S := Rb) (i := i) (b := pb) (by kernel_rfl) (show sl _ 33 = _ from by simp [slp, szp, hz]) (show sl _ 32 = _ from by simp [slp, szp, hz]) (cell_keepD hB1 hR0 r0) (r1 w' hB1) hS1.set ?_
  refine wpAnyH_done (by kernel_rfl) ?_ _
  exact hK w' hB1
end Vf
end Go.Proofs.YtdjdhjciealfhaaGreatDoor
namespace Go.Proofs.YtdjdhjciealfhaaGreatDoor
open Go.RowKit Ch1
namespace Vf
set_option maxRecDepth 20000 in
set_option maxHeartbeats 4000000 in
/-- provenOf: the flags of a function. -/
theorem provenOf_c (dp : Option Addr) (dl dc S : Nat) (m : Md) (f : Fn) (σ : States) (w : World) (hco : Ii w dp dl dc f.code) (hS : Sp w dl S σ) (hL : Least m f σ) (hok : ∀ i, i < dl → InsOk m f (f.code.getD i in0)) (htb : TbV w) (hd0 : 0 < dl) (hd1 : dl ≤ 5000) :
    Calls Tryz.prog 21 #[.slice dp dl dc, .slice (some ⟨S, 0, none⟩) dl dl] w fun e w' => e = .returned (.slice (some ⟨w.heap.size, 0, none⟩) dl dl) ∧ OwB w' w.heap.size (pvRow m f σ) ∧ Below w.heap.size w w' := by
  have HCO := mkD hco
  have HS := mkD hS
  have HL := mkD hL
  have HOK := mkD hok
  have HTB := mkD htb
  have HDL : Hid (f.code.length = dl) := hco.len
  have hcap := small_of hco.cap hco.big
  obtain ⟨ii, hi1, hpr⟩ := Option.map_eq_some_iff.1 info4
  simp only [Prod.mk.injEq] at hpr
  have HI : Hid (Tryz.prog.info? 4 = some ii ∧ ii.zero = some (.bool false) ∧ ii.size = 1 ∧ ii.bytes = 1) := ⟨hi1, hpr.1, hpr.2.1, hpr.2.2⟩
  clear hco hS hL hok htb hi1 hpr
  go_enter Tryz.func21, Tryz.ntmps21
  go_wp2_with (at_make; refine wpList_make_full _ rfl (.tmp 9) (.tmp 9) 43 rfl w.heap.size 4 ii _ 1 Tryz.underlying43 HI.out.1 HI.out.2.1 HI.out.2.2.1 .i64 .i64 dl dl dl (by simp [Act.eval]) (by simp [Act.eval]) rfl rfl (by rw [HI.out.2.2.2]; omega) (by unfold maxLen; omega) (Nat.le_refl _) ?_; intro w2 ho hg; have HO2 : Hid (OwB w2 w.heap.size (fl m f σ dl 0)) := (by unfold Hid; rw [fl_zero]; exact OwB.made ho); have HB2 : Hid (Below w.heap.size w w2) := (Below.refl _ w).grown hg (Nat.le_refl _) (fun k h => by cases h); clear ho hg)
  go_loopw [13] (fun iv wr => ∃ i : Nat, i ≤ dl ∧ iv = .int .i64 (i : Nat) ∧ Hid (Below w.heap.size w wr) ∧ Hid (OwB wr w.heap.size (fl m f σ dl i))) (fun iv _ => dl - (intOf iv).toNat)
  case atStart => exact ⟨0, Nat.zero_le _, rfl, HB2, HO2⟩
  case round =>
    clear HO2 HB2 w2
    obtain ⟨i, hi, rfl, hB, hO⟩ := hrel
    by_cases hlt : i < dl
    · obtain ⟨cb, co, rfl, hcb, hcc⟩ := (HCO.out.below hB.out).cells hd0
      obtain ⟨d0, d1, d2⟩ := hcc i hlt
      have HSr := mkD (HS.out.below hB.out)
      obtain ⟨x, hx⟩ : ∃ x, x = f.code.getD i in0 := ⟨_, rfl⟩
      rw [← hx] at d0 d1 d2
      have HX := mkD hx
      obtain ⟨o0, o1⟩ := hO.out.cell (i := i) (by rw [fl_len]; exact hlt)
      have hOl := hO.out.lt
      obtain ⟨ob, hob⟩ : ∃ ob, ob = (fl m f σ dl i).getD i false := ⟨_, rfl⟩
      rw [← hob] at o0
      have hSl := HSr.out.lt
      have q0 : wr.cell? ⟨S, i * 202, none⟩ = some (.bool (σ i).isSome) := by
        have h1 := HSr.out.range hlt 0
        cases hs : σ i with
        | none => rw [hs] at h1; have h2 := h1 (.bool false) rfl; rw [Nat.add_zero] at h2; exact h2
        | some s => rw [hs] at h1; have h2 := h1 (.bool true) rfl; rw [Nat.add_zero] at h2; exact h2
      clear hcc hx hob
      cases hs : σ i with
      | none =>
        have HSI := mkD hs
        rw [hs] at q0
        simp only [Option.isSome_none] at q0
        clear hs
        have hW6 : (wr.alloc (.cells #[.int .i64 x.op, .int .i64 x.a, .int .i64 x.b] 73)).cell? ⟨S, i * 202, none⟩ = some (.bool false) := cell_keepD (below1 wr _) hSl q0
        have hW7 : (wr.alloc (.cells #[.int .i64 x.op, .int .i64 x.a, .int .i64 x.b] 73)).cell? ⟨w.heap.size, i, none⟩ = some (.bool ob) := cell_keepD (below1 wr _) hOl o0
        have hW8 : (wr.alloc (.cells #[.int .i64 x.op, .int .i64 x.a, .int .i64 x.b] 73)).frozen? ⟨w.heap.size, i, none⟩ = false := ((hO.out.below (below1 wr _)).cell (i := i) (by rw [fl_len]; exact hlt)).2
        go_wp2_with fail
        go_region
        all_goals go_wp2
        all_goals exact ⟨⟨i + 1, by omega, by go_num, below_drewM ((hB.out.setCell (by simp only; exact Nat.le_refl _) _).trans ((below1 _ _).mono (by rw [set_size]; exact hB.out.size))), by unfold Hid; rw [fl_set m f σ hlt, show pvAt m f σ i = false by unfold pvAt; rw [HSI.out]]; exact (hO.out.set false).below (below_drewM (below1 _ _))⟩, by simp [intOf]; omega⟩
      | some s =>
        have HSI := mkD hs
        rw [hs] at q0
        simp only [Option.isSome_some] at q0
        obtain ⟨W6, hW6e⟩ : ∃ W6, W6 = wr.alloc (.cells #[.int .i64 x.op, .int .i64 x.a, .int .i64 x.b] 73) := ⟨_, rfl⟩
        have HB6 : Hid (Below wr.heap.size wr W6) := by unfold Hid; rw [hW6e]; exact below1 _ _
        have HO6 := mkD (hO.out.below HB6.out)
        have q6 : W6.cell? ⟨S, i * 202, none⟩ = some (.bool true) := cell_keepD HB6.out hSl q0
        have q7 : W6.cell? ⟨w.heap.size, i, none⟩ = some (.bool ob) := cell_keepD HB6.out hOl o0
        have q8 : W6.frozen? ⟨w.heap.size, i, none⟩ = false := (HO6.out.cell (i := i) (by rw [fl_len]; exact hlt)).2
        have HX6 : Hid (W6.heap[wr.heap.size]? = some (.cells #[.int .i64 x.op, .int .i64 x.a, .int .i64 x.b] 73)) := by unfold Hid; rw [hW6e]; exact Go.Deep.blk_alloc_new _ _
        obtain ⟨e0, e1, e2, _, _, _⟩ := cells3 HX6.out
        have hrg := (HSr.out.below HB6.out).range hlt
        rw [hs] at hrg
        have hg := HL.out.good i s (by rw [HDL.out]; exact hlt) hs
        have hft := (HL.out.ok.step i (by rw [HDL.out]; exact hlt) s hs).1
        have HPI := mkD (provenIn_c m f x s W6.drew (by rw [HX.out]; exact HOK.out i hlt) (HTB.out.below (below_drewM (hB.out.trans (HB6.out.mono hB.out.size)))) hg.1 hg.2 (by rw [HX.out]; exact hft.1))
        obtain ⟨A, hA⟩ : ∃ A, A = stL s := ⟨_, rfl⟩
        have hrg2 : W6.rangeAt S (i * 202) A := by rw [hA]; exact hrg
        have hAz : (Tryz.prog.info? 90).map (·.size) = some A.length := by rw [hA]; exact sizeO (some s)
        have HRG := mkD hrg2
        have HAZ := mkD hAz
        have hload := run_loadAt_mid (P := Tryz.prog) W6.drew S (i * 202) 90 A _ (fun j v hv => hrg2 j v hv) Tryz.underlying90 rfl hAz
        rw [← hA] at HPI
        obtain ⟨pb, hpb⟩ : ∃ pb, pb = provenB m x s := ⟨_, rfl⟩
        rw [← hpb] at HPI
        have HPB : Hid (pb = pvAt m f σ i) := by unfold Hid pvAt; rw [HSI.out, hpb, HX.out]
        have hW6l : W6.heap.size = wr.heap.size + 1 := by rw [hW6e]; simp
        have HLOAD := mkD hload
        have HE := mkD hW6e
        clear hs hrg hrg2 hAz hA hg hft hpb hload e0 e1 e2 q6 q7 q8 hW6e
        go_wp2_with fail
        rw [← HE.out]
        have hload := HLOAD.out
        obtain ⟨e0, e1, e2, _, _, _⟩ := cells3 HX6.out
        have q6 : W6.cell? ⟨S, i * 202, none⟩ = some (.bool true) := cell_keepD HB6.out hSl q0
        have q7 : W6.cell? ⟨w.heap.size, i, none⟩ = some (.bool ob) := cell_keepD HB6.out hOl o0
        have q8 : W6.frozen? ⟨w.heap.size, i, none⟩ = false := (HO6.out.cell (i := i) (by rw [fl_len]; exact hlt)).2
        clear d0 d1 d2 q0 o0 o1 hload HLOAD
        have hSw : S ≠ w.heap.size := fun e => by
          obtain ⟨arr, ha, _⟩ := HSr.out
          have h1 := hO.out
          unfold OwB at h1
          rw [e, h1] at ha
          cases ha
        have hX6 : wr.heap.size < W6.heap.size := by omega
        have hXw : wr.heap.size ≠ w.heap.size := by omega
        have HB06 : Hid (Below w.heap.size w W6) := hB.out.trans (HB6.out.mono hB.out.size)
        refine reg5 w.heap.size S wr.heap.size i dl x.op x.a x.b A ob pb rfl rfl rfl rfl rfl hlt (by omega) hX6 HO6.out.lt hSw hXw q6 e0 e1 e2 HRG.out HAZ.out q7 (fun wx hb => ((HO6.out.below hb).cell (i := i) (by rw [fl_len]; exact hlt)).2) HPI.out ?_
        intro wf hbf
        have HBf := mkD hbf
        clear hbf q6 q7 q8 e0 e1 e2
        simp only [fr5, Act.put, List.setIfInBounds_toArray, List.set_cons_succ, List.set_cons_zero]
        go_wp2
        exact ⟨⟨i + 1, by omega, by go_num, (HB06.out.trans (HBf.out.mono HB06.out.size)).setCell (by simp only; exact Nat.le_refl _) _, by unfold Hid; rw [fl_set m f σ hlt, ← HPB.out]; exact (HO6.out.below HBf.out).set pb⟩, by simp [intOf]; omega⟩
    · obtain rfl : i = dl := by omega
      have HFIN : Hid (OwB wr w.heap.size (pvRow m f σ)) := by have h := hO.out; rw [fl_all m f σ HDL.out] at h; exact h
      go_wp2_with fail
      go_ret
      exact ⟨rfl, HFIN.out, hB.out⟩
end Vf
end Go.Proofs.YtdjdhjciealfhaaGreatDoor
