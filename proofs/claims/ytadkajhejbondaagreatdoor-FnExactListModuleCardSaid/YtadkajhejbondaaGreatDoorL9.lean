import Derived.Test.YtadkajhejbondaaGreatDoorL8
import Derived.Deep.RegionWith
import Derived.Lib.SlBytesConst
namespace Go.Proofs.YtadkajhejbondaaGreatDoor
open Go.RowKit Ch1
/-- The operations of the region that lays the first words of a function's line. -/
def ops18 : Array Oper := #[{ dst := some 70, op := Op.move (Operand.tmp 5), type := 3, pos := "l3_module.go:411", after := #[], guard := none }, { dst := some 71, op := Op.call { callee := Callee.value (Operand.func 16), args := #[Operand.tmp 70], argTypes := #[3] }, type := 27, pos := "l3_module.go:411", after := #[{ on := 0, ground := Ground.data }], guard := none }, { dst := some 72, op := Op.convert 27 9 (Operand.tmp 71), type := 9, pos := "l3_module.go:411", after := #[{ on := 1, ground := Ground.data }], guard := none }, { dst := some 73, op := Op.binOp BinOp.add 9 (Operand.const (Value.string { data := #[102, 117, 110, 99, 32] })) (Operand.tmp 72) 9, type := 9, pos := "l3_module.go:411", after := #[{ on := 2, ground := Ground.data }], guard := none }, { dst := some 74, op := Op.binOp BinOp.add 9 (Operand.tmp 73) (Operand.const (Value.string { data := #[32] })) 9, type := 9, pos := "l3_module.go:411", after := #[{ on := 3, ground := Ground.data }], guard := none }, { dst := some 75, op := Op.fieldAddr 48 (Operand.tmp 6) 0, type := 0, pos := "l3_module.go:411", after := #[], guard := none }, { dst := some 76, op := Op.load 3 (Operand.tmp 75), type := 3, pos := "l3_module.go:411", after := #[{ on := 5, ground := Ground.data }], guard := none }, { dst := some 77, op := Op.call { callee := Callee.value (Operand.func 16), args := #[Operand.tmp 76], argTypes := #[3] }, type := 27, pos := "l3_module.go:411", after := #[{ on := 6, ground := Ground.data }, { on := 1, ground := Ground.chain }], guard := none }, { dst := some 78, op := Op.convert 27 9 (Operand.tmp 77), type := 9, pos := "l3_module.go:411", after := #[{ on := 7, ground := Ground.data }], guard := none }, { dst := some 79, op := Op.binOp BinOp.add 9 (Operand.tmp 74) (Operand.tmp 78) 9, type := 9, pos := "l3_module.go:411", after := #[{ on := 4, ground := Ground.data }, { on := 8, ground := Ground.data }], guard := none }, { dst := some 7, op := Op.assign (Operand.tmp 79), type := 9, pos := "l3_module.go:411", after := #[{ on := 9, ground := Ground.data }, { on := 7, ground := Ground.chain }, { on := 0, ground := Ground.phase }, { on := 1, ground := Ground.phase }, { on := 2, ground := Ground.phase }, { on := 3, ground := Ground.phase }, { on := 4, ground := Ground.phase }, { on := 5, ground := Ground.phase }, { on := 6, ground := Ground.phase }, { on := 7, ground := Ground.phase }, { on := 8, ground := Ground.phase }, { on := 9, ground := Ground.phase }], guard := none }]
/-- What holds behind a region that ends in the plain way. -/
def Ends (K : Act → World → Prop) (e : Exit) (a : Act) (w : World) : Prop := match e with
  | .normal => K a w
  | _ => False
section
variable {P : Program} {ops : Array Oper} {Q : Exit → Act → World → Prop}
theorem wpOp_val {i : Nat} {o : Oper} {v : Value} {K : Act → World → Prop} {a : Act} {w : World} (ho : ops[i]? = some o) (hg : o.guard = none) (hr : (execOp a.eval o).run P w = .ok (.value v) w) (h : K (a.put o.dst v) w) : wpOp P ops Q i K a w :=
  wpOp_step ho (fun K' hK => by
    rw [if_pos (by simp [Region.wanted, hg])]
    unfold Oper.wp
    rw [hr]
    exact hK _ _ h)
theorem wpOp_go {i : Nat} {o : Oper} {f : FuncId} {args : Array Value} {K : Act → World → Prop} {a : Act} {w : World} (ho : ops[i]? = some o) (hg : o.guard = none) (hr : (execOp a.eval o).run P w = .ok (.enter f args) w) (h : Calls P f args w fun e w' => ∃ v, e = .returned v ∧ K (a.put o.dst v) w') : wpOp P ops Q i K a w :=
  wpOp_step ho (fun K' hK => by
    rw [if_pos (by simp [Region.wanted, hg])]
    unfold Oper.wp
    rw [hr, Oper.upon_enter]
    refine h.mono ?_
    rintro e w' ⟨v, rfl, hv⟩
    exact hK _ _ hv)
end
theorem ev_same {a : Act} {d : Nat} {v : Value} (h : d < a.tmps.size) : (a.put (some d) v).eval (.tmp d) = v := by
  simp [Act.eval, Act.put, h]
theorem ev_other {a : Act} {d t : Nat} {v : Value} (h : t ≠ d) : (a.put (some d) v).eval (.tmp t) = a.eval (.tmp t) := Act.eval_put (fun d' e hx => by cases e; cases hx; exact h rfl)
/-- Only slots 7 and 70 to 79 differ. -/
structure Fr18 (a0 a : Act) : Prop where
  size : a.tmps.size = 165
  defers : a.defers = a0.defers
  same : ∀ t, t ≠ 7 → (t < 70 ∨ 79 < t) → a.tmps[t]? = a0.tmps[t]?
theorem Fr18.put {a0 a : Act} (h : Fr18 a0 a) (d : Nat) (hd : d = 7 ∨ (70 ≤ d ∧ d ≤ 79)) (v : Value) : Fr18 a0 (a.put (some d) v) := by
  refine ⟨?_, ?_, fun t h1 h2 => ?_⟩
  · simp [Act.put, h.size]
  · exact h.defers
  · show (a.tmps.setIfInBounds d v)[t]? = _
    rw [Array.getElem?_setIfInBounds_ne (by omega)]
    exact h.same t h1 h2
theorem Fr18.eq {a0 a : Act} (h : Fr18 a0 a) (hz : a0.tmps.size = 165) : a = ⟨(((((((((((a0.tmps.setIfInBounds 7 (a.tmps[7]?.getD undef)).setIfInBounds 70 (a.tmps[70]?.getD undef)).setIfInBounds 71 (a.tmps[71]?.getD undef)).setIfInBounds 72 (a.tmps[72]?.getD undef)).setIfInBounds 73 (a.tmps[73]?.getD undef)).setIfInBounds 74 (a.tmps[74]?.getD undef)).setIfInBounds 75 (a.tmps[75]?.getD undef)).setIfInBounds 76 (a.tmps[76]?.getD undef)).setIfInBounds 77 (a.tmps[77]?.getD undef)).setIfInBounds 78 (a.tmps[78]?.getD undef)).setIfInBounds 79 (a.tmps[79]?.getD undef)), a0.defers⟩ := by
  have hs := h.size
  have e : a.tmps = (((((((((((a0.tmps.setIfInBounds 7 (a.tmps[7]?.getD undef)).setIfInBounds 70 (a.tmps[70]?.getD undef)).setIfInBounds 71 (a.tmps[71]?.getD undef)).setIfInBounds 72 (a.tmps[72]?.getD undef)).setIfInBounds 73 (a.tmps[73]?.getD undef)).setIfInBounds 74 (a.tmps[74]?.getD undef)).setIfInBounds 75 (a.tmps[75]?.getD undef)).setIfInBounds 76 (a.tmps[76]?.getD undef)).setIfInBounds 77 (a.tmps[77]?.getD undef)).setIfInBounds 78 (a.tmps[78]?.getD undef)).setIfInBounds 79 (a.tmps[79]?.getD undef)) := by
    apply Array.ext_getElem?
    intro t
    by_cases ht : t < 165
    · by_cases hk : t = 7 ∨ (70 ≤ t ∧ t ≤ 79)
      · rcases (show t = 7 ∨ t = 70 ∨ t = 71 ∨ t = 72 ∨ t = 73 ∨ t = 74 ∨ t = 75 ∨ t = 76 ∨ t = 77 ∨ t = 78 ∨ t = 79 by omega) with rfl | rfl | rfl | rfl | rfl | rfl | rfl | rfl | rfl | rfl | rfl <;> simp [hs, hz]
      · rw [h.same t (by omega) (by omega)]
        simp only [Array.getElem?_setIfInBounds]
        rw [if_neg (show ¬ 79 = t by omega)]
        rw [if_neg (show ¬ 78 = t by omega)]
        rw [if_neg (show ¬ 77 = t by omega)]
        rw [if_neg (show ¬ 76 = t by omega)]
        rw [if_neg (show ¬ 75 = t by omega)]
        rw [if_neg (show ¬ 74 = t by omega)]
        rw [if_neg (show ¬ 73 = t by omega)]
        rw [if_neg (show ¬ 72 = t by omega)]
        rw [if_neg (show ¬ 71 = t by omega)]
        rw [if_neg (show ¬ 70 = t by omega)]
        rw [if_neg (show ¬ 7 = t by omega)]
    · rw [Array.getElem?_eq_none (by omega), Array.getElem?_eq_none (by simp; omega)]
  cases a
  simp only at e
  rw [← h.defers]
  simp only [← e]
theorem sl_same {a : Act} {d : Nat} {v : Value} (h : d < a.tmps.size) : (a.put (some d) v).tmps[d]?.getD undef = v := by
  simp [Act.put, h]
theorem sl_other {a : Act} {d t : Nat} {v : Value} (h : d ≠ t) : (a.put (some d) v).tmps[t]?.getD undef = a.tmps[t]?.getD undef := by
  show (a.tmps.setIfInBounds d v)[t]?.getD undef = _
  rw [Array.getElem?_setIfInBounds_ne h]
theorem x18_0 {a : Act} (w : World) {i2 : Int} (h5 : a.tmps[5]?.getD undef = .int .i64 i2) : (execOp a.eval (ops18[0]'(by decide))).run Tryz.prog w = .ok (.value (.int .i64 i2)) w := by
  unfold ops18
  go_simp
theorem x18_1 {a : Act} (w : World) {i2 : Int} (h : a.tmps[70]?.getD undef = .int .i64 i2) : (execOp a.eval (ops18[1]'(by decide))).run Tryz.prog w = .ok (.enter 16 #[.int .i64 i2]) w := by
  unfold ops18
  go_simp
theorem x18_2 {a : Act} {w : World} {v : Value} {s : ByteArray} (h : a.tmps[71]?.getD undef = v) (hc : (convert 27 9 v).run Tryz.prog w = .ok (.string s) w) : (execOp a.eval (ops18[2]'(by decide))).run Tryz.prog w = .ok (.value (.string s)) w := by
  unfold ops18
  simp only [execOp]
  go_simp
theorem x18_3 {a : Act} (w : World) {s : ByteArray} (h : a.tmps[72]?.getD undef = .string s) (hs : s.size ≤ 30) : (execOp a.eval (ops18[3]'(by decide))).run Tryz.prog w = .ok (.value (.string (⟨#[102, 117, 110, 99, 32]⟩ ++ s))) w := by
  unfold ops18
  go_simp
  omega
theorem x18_4 {a : Act} (w : World) {s : ByteArray} (h : a.tmps[73]?.getD undef = .string s) (hs : s.size ≤ 60) : (execOp a.eval (ops18[4]'(by decide))).run Tryz.prog w = .ok (.value (.string (s ++ ⟨#[32]⟩))) w := by
  unfold ops18
  go_simp
  omega
theorem x18_5 {a : Act} (w : World) {fb : Nat} (h : a.tmps[6]?.getD undef = .pointer (some ⟨fb, 0, none⟩)) : (execOp a.eval (ops18[5]'(by decide))).run Tryz.prog w = .ok (.value (.pointer (some ⟨fb, 0, none⟩))) w := by
  unfold ops18
  go_simp
theorem x18_6 {a : Act} {w : World} {fb : Nat} {pa : Int} (h : a.tmps[75]?.getD undef = .pointer (some ⟨fb, 0, none⟩)) (hc : w.cell? ⟨fb, 0, none⟩ = some (.int .i64 pa)) : (execOp a.eval (ops18[6]'(by decide))).run Tryz.prog w = .ok (.value (.int .i64 pa)) w := by
  unfold ops18
  go_simp
theorem x18_7 {a : Act} (w : World) {pa : Int} (h : a.tmps[76]?.getD undef = .int .i64 pa) : (execOp a.eval (ops18[7]'(by decide))).run Tryz.prog w = .ok (.enter 16 #[.int .i64 pa]) w := by
  unfold ops18
  go_simp
theorem x18_8 {a : Act} {w : World} {v : Value} {s : ByteArray} (h : a.tmps[77]?.getD undef = v) (hc : (convert 27 9 v).run Tryz.prog w = .ok (.string s) w) : (execOp a.eval (ops18[8]'(by decide))).run Tryz.prog w = .ok (.value (.string s)) w := by
  unfold ops18
  simp only [execOp]
  go_simp
theorem x18_9 {a : Act} (w : World) {x y : ByteArray} (h1 : a.tmps[74]?.getD undef = .string x) (h2 : a.tmps[78]?.getD undef = .string y) (hs : x.size ≤ 100 ∧ y.size ≤ 100) : (execOp a.eval (ops18[9]'(by decide))).run Tryz.prog w = .ok (.value (.string (x ++ y))) w := by
  unfold ops18
  go_simp
  omega
theorem x18_10 {a : Act} (w : World) {x : ByteArray} (h : a.tmps[79]?.getD undef = .string x) : (execOp a.eval (ops18[10]'(by decide))).run Tryz.prog w = .ok (.value (.string x)) w := by
  unfold ops18
  go_simp
/-- What is known ahead of the region. -/
structure Pre18 (a0 : Act) (w0 : World) (fb : Nat) (i2 pa : Int) (K : Act → World → Prop) : Prop where
  hi0 : 0 ≤ i2
  hi1 : i2 ≤ 1000000
  hp0 : 0 ≤ pa
  hp1 : pa ≤ 1000000
  cell : ∀ w', Below w0.heap.size w0 w' → w'.cell? ⟨fb, 0, none⟩ = some (.int .i64 pa)
  fin : ∀ a w, Fr18 a0 a → a.tmps[7]?.getD undef = .string (jB [⟨#[102, 117, 110, 99]⟩, itoaB i2, itoaB pa]) → Below w0.heap.size w0 w → K a w
/-- v stands for the text s, here and later. -/
def Cv (v : Value) (s : ByteArray) (w : World) : Prop := ∀ w9, Below w.heap.size w w9 → (convert 27 9 v).run Tryz.prog w9 = .ok (.string s) w9
theorem Cv.here {v : Value} {s : ByteArray} {w : World} (h : Cv v s w) : (convert 27 9 v).run Tryz.prog w = .ok (.string s) w := h w (Below.refl _ _)
theorem Cv.below {v : Value} {s : ByteArray} {w w' : World} (h : Cv v s w) (hb : Below w.heap.size w w') : Cv v s w' := fun w9 h9 => h w9 (hb.trans (h9.mono hb.size))
abbrev A18 (K : Act → World → Prop) (fuel : Nat) (l : Array Bool) (a : Act) (w : World) : Prop := wpAny Tryz.prog .any ops18 (Ends K) fuel l a w
section
variable {a0 : Act} {w0 : World} {fb : Nat} {i2 pa : Int} {K : Act → World → Prop}
def h18 (n : Int) : ByteArray := ⟨#[102, 117, 110, 99, 32]⟩ ++ itoaB n ++ ⟨#[32]⟩
theorem h18_size (n : Int) (h0 : 0 ≤ n) (h1 : n ≤ 1000000) : (itoaB n).size ≤ 30 ∧ (⟨#[102, 117, 110, 99, 32]⟩ ++ itoaB n : ByteArray).size ≤ 60 ∧ (h18 n).size ≤ 100 := by
  have := itoaB_size n (by omega) (by omega)
  have e1 : (⟨#[102, 117, 110, 99, 32]⟩ : ByteArray).size = 5 := rfl
  have e2 : (⟨#[32]⟩ : ByteArray).size = 1 := rfl
  unfold h18
  refine ⟨by omega, ?_, ?_⟩
  · rw [ByteArray.size_append, e1]; omega
  · rw [ByteArray.size_append, ByteArray.size_append, e1, e2]; omega
/-- The end: both texts stand. -/
theorem e18 (hp : Pre18 a0 w0 fb i2 pa K) {a : Act} {w : World} (hF : Fr18 a0 a) (hB : Below w0.heap.size w0 w) (h74 : a.tmps[74]?.getD undef = .string (h18 i2)) (h78 : a.tmps[78]?.getD undef = .string (itoaB pa)) : A18 K 2 #[true, true, true, true, true, true, true, true, true, false, false] a w := by
  have s1 := h18_size i2 hp.hi0 hp.hi1
  have s2 := h18_size pa hp.hp0 hp.hp1
  have hz := hF.size
  refine wpAny_all (rs := [9]) (by kernel_rfl) (by decide) (fun i hi => ?_)
  obtain rfl : i = 9 := by simpa using hi
  refine wpOp_val (o := ops18[9]'(by decide)) rfl rfl (x18_9 w h74 h78 ⟨s1.2.2, by omega⟩) ?_
  have hF1 := hF.put 79 (by omega) (.string (h18 i2 ++ itoaB pa))
  have g := sl_same (a := a) (d := 79) (v := .string (h18 i2 ++ itoaB pa)) (by omega)
  refine wpAny_all (rs := [10]) (by kernel_rfl) (by decide) (fun i hi => ?_)
  obtain rfl : i = 10 := by simpa using hi
  refine wpOp_val (o := ops18[10]'(by decide)) rfl rfl (x18_10 w g) ?_
  refine wpAny_done (by kernel_rfl) ?_ _
  refine hp.fin _ w (hF1.put 7 (Or.inl rfl) _) ?_ hB
  have hz1 := hF1.size
  refine (sl_same (a := a.put (some 79) (.string (h18 i2 ++ itoaB pa))) (d := 7) (by omega)).trans ?_
  rw [fn_head]
  rfl
theorem take18 {i : Nat} {o : Oper} {v : Value} {fuel : Nat} {l : Array Bool} {a : Act} {w : World} (hi : ops18[i]? = some o) (hf : Region.free .any ops18 l i = true) (hr : (Region.ready .any ops18 l).contains i = true) (hg : o.guard = none) (hx : ∀ w, (execOp a.eval o).run Tryz.prog w = .ok (.value v) w) (h : A18 K fuel (l.setIfInBounds i true) (a.put o.dst v) w) : A18 K (fuel + 1) l a w :=
  wpAny_take hi (by kernel_rfl) hf hr (fun _ _ _ h => h) (Or.inl ⟨by simp [Region.wanted, hg], hx⟩) h
/-- string(l1dec(i)) and the words around it. -/
theorem c18 (hp : Pre18 a0 w0 fb i2 pa K) {a : Act} {w : World} {v3 : Value} (hF : Fr18 a0 a) (h71 : a.tmps[71]?.getD undef = v3) (hv : Cv v3 (itoaB i2) w) {fuel : Nat} {l : Array Bool} (hf3 : Region.free .any ops18 (l.setIfInBounds 2 true) 3 = true) (hr3 : (Region.ready .any ops18 (l.setIfInBounds 2 true)).contains 3 = true) (hf4 : Region.free .any ops18 ((l.setIfInBounds 2 true).setIfInBounds 3 true) 4 = true) (hr4 : (Region.ready .any ops18 ((l.setIfInBounds 2 true).setIfInBounds 3 true)).contains 4 = true)
    (h : ∀ a', Fr18 a0 a' → (∀ t, t ≠ 72 → t ≠ 73 → t ≠ 74 → a'.tmps[t]?.getD undef = a.tmps[t]?.getD undef) → a'.tmps[74]?.getD undef = .string (h18 i2) → A18 K fuel (((l.setIfInBounds 2 true).setIfInBounds 3 true).setIfInBounds 4 true) a' w) :
    wpOp Tryz.prog ops18 (Ends K) 2 (A18 K (fuel + 2) (l.setIfInBounds 2 true)) a w := by
  have s1 := h18_size i2 hp.hi0 hp.hi1
  refine wpOp_val (o := ops18[2]'(by decide)) rfl rfl (x18_2 h71 hv.here) ?_
  have hF1 := hF.put 72 (by omega) (.string (itoaB i2))
  have g1 := sl_same (a := a) (d := 72) (v := .string (itoaB i2)) (by have := hF.size; omega)
  refine take18 (o := ops18[3]'(by decide)) rfl hf3 hr3 rfl (fun w => x18_3 w g1 s1.1) ?_
  have hF2 := hF1.put 73 (by omega) (.string (⟨#[102, 117, 110, 99, 32]⟩ ++ itoaB i2))
  have g2 := sl_same (a := a.put (some 72) (.string (itoaB i2))) (d := 73) (v := .string (⟨#[102, 117, 110, 99, 32]⟩ ++ itoaB i2)) (by have := hF1.size; omega)
  have g3 := sl_same (a := (a.put (some 72) (.string (itoaB i2))).put (some 73) (.string (⟨#[102, 117, 110, 99, 32]⟩ ++ itoaB i2))) (d := 74) (v := .string (h18 i2)) (by have := hF2.size; omega)
  refine take18 (o := ops18[4]'(by decide)) (v := .string (h18 i2)) rfl hf4 hr4 rfl (fun w => by unfold h18; exact x18_4 w g2 s1.2.1) ?_
  refine h _ (hF2.put 74 (by omega) _) (fun t t2 t3 t4 => ?_) g3
  exact (sl_other (Ne.symm t4)).trans ((sl_other (Ne.symm t3)).trans (sl_other (Ne.symm t2)))
/-- A call of l1dec. -/
theorem l18 {i : Nat} {o : Oper} {d : Nat} (n : Int) (h0 : 0 ≤ n) (h1 : n ≤ 1000000) (ho : ops18[i]? = some o) (hg : o.guard = none) (hd : o.dst = some d) {a : Act} {w : World} (hr : (execOp a.eval o).run Tryz.prog w = .ok (.enter 16 #[.int .i64 n]) w) {R : Act → World → Prop} (h : ∀ v w', Cv v (itoaB n) w' → Below w.heap.size w w' → R (a.put (some d) v) w') : wpOp Tryz.prog ops18 (Ends K) i R a w := by
  refine wpOp_go ho hg hr ((decS_c n (by omega) (by omega) w).mono ?_)
  rintro e w' ⟨v, rfl, hc, hb⟩
  rw [hd]
  exact ⟨v, rfl, h v w' hc hb⟩
theorem s18_6 (hp : Pre18 a0 w0 fb i2 pa K) {a : Act} {w : World} {v4 : Value} (hF : Fr18 a0 a) (hB : Below w0.heap.size w0 w) (h74 : a.tmps[74]?.getD undef = .string (h18 i2)) (h77 : a.tmps[77]?.getD undef = v4) (hv : Cv v4 (itoaB pa) w) : A18 K 3 #[true, true, true, true, true, true, true, true, false, false, false] a w := by
  refine wpAny_all (rs := [8]) (by kernel_rfl) (by decide) (fun i hi => ?_)
  obtain rfl : i = 8 := by simpa using hi
  refine wpOp_val (o := ops18[8]'(by decide)) rfl rfl (x18_8 h77 hv.here) ?_
  have hz := hF.size
  exact e18 hp (hF.put 78 (by omega) _) hB ((sl_other (by decide)).trans h74) (sl_same (by omega))
theorem s18_5 (hp : Pre18 a0 w0 fb i2 pa K) {a : Act} {w : World} {v3 v4 : Value} (hF : Fr18 a0 a) (hB : Below w0.heap.size w0 w) (h71 : a.tmps[71]?.getD undef = v3) (hv3 : Cv v3 (itoaB i2) w) (h77 : a.tmps[77]?.getD undef = v4) (hv4 : Cv v4 (itoaB pa) w) : A18 K 6 #[true, true, false, false, false, true, true, true, false, false, false] a w := by
  have hz := hF.size
  refine wpAny_all (rs := [2, 8]) (by kernel_rfl) (by decide) (fun i hi => ?_)
  rcases (show i = 2 ∨ i = 8 by simpa using hi) with rfl | rfl
  · exact c18 hp hF h71 hv3 (fuel := 3) (by kernel_rfl) (by kernel_rfl) (by kernel_rfl) (by kernel_rfl) (fun a' hF' hs h74 => s18_6 hp hF' hB h74 ((hs 77 (by decide) (by decide) (by decide)).trans h77) hv4)
  · refine wpOp_val (o := ops18[8]'(by decide)) rfl rfl (x18_8 h77 hv4.here) ?_
    refine wpAny_all (rs := [2]) (by kernel_rfl) (by decide) (fun i hi => ?_)
    obtain rfl : i = 2 := by simpa using hi
    refine c18 hp (hF.put 78 (by omega) (.string (itoaB pa))) ((sl_other (by decide)).trans h71) hv3 (fuel := 2) (by kernel_rfl) (by kernel_rfl) (by kernel_rfl) (by kernel_rfl) (fun a' hF' hs h74 => ?_)
    exact e18 hp hF' hB h74 ((hs 78 (by decide) (by decide) (by decide)).trans (sl_same (by omega)))
theorem s18_4 (hp : Pre18 a0 w0 fb i2 pa K) {a : Act} {w : World} (hF : Fr18 a0 a) (hB : Below w0.heap.size w0 w) (h74 : a.tmps[74]?.getD undef = .string (h18 i2)) (h76 : a.tmps[76]?.getD undef = .int .i64 pa) : A18 K 4 #[true, true, true, true, true, true, true, false, false, false, false] a w := by
  have hz := hF.size
  refine wpAny_all (rs := [7]) (by kernel_rfl) (by decide) (fun i hi => ?_)
  obtain rfl : i = 7 := by simpa using hi
  refine l18 pa hp.hp0 hp.hp1 (o := ops18[7]'(by decide)) (d := 77) rfl rfl rfl (x18_7 w h76) (fun v w' hv hb => ?_)
  exact s18_6 hp (hF.put 77 (by omega) v) (hB.trans (hb.mono hB.size)) ((sl_other (by decide)).trans h74) (sl_same (by omega)) hv
theorem s18_3 (hp : Pre18 a0 w0 fb i2 pa K) {a : Act} {w : World} {v3 : Value} (hF : Fr18 a0 a) (hB : Below w0.heap.size w0 w) (h71 : a.tmps[71]?.getD undef = v3) (hv3 : Cv v3 (itoaB i2) w) (h76 : a.tmps[76]?.getD undef = .int .i64 pa) : A18 K 7 #[true, true, false, false, false, true, true, false, false, false, false] a w := by
  have hz := hF.size
  refine wpAny_all (rs := [2, 7]) (by kernel_rfl) (by decide) (fun i hi => ?_)
  rcases (show i = 2 ∨ i = 7 by simpa using hi) with rfl | rfl
  · exact c18 hp hF h71 hv3 (fuel := 4) (by kernel_rfl) (by kernel_rfl) (by kernel_rfl) (by kernel_rfl) (fun a' hF' hs h74 => s18_4 hp hF' hB h74 ((hs 76 (by decide) (by decide) (by decide)).trans h76))
  · refine l18 pa hp.hp0 hp.hp1 (o := ops18[7]'(by decide)) (d := 77) rfl rfl rfl (x18_7 w h76) (fun v w' hv hb => ?_)
    exact s18_5 hp (hF.put 77 (by omega) v) (hB.trans (hb.mono hB.size)) ((sl_other (by decide)).trans h71) (hv3.below hb) (sl_same (by omega)) hv
theorem s18_2 (hp : Pre18 a0 w0 fb i2 pa K) {a : Act} {w : World} {v3 : Value} (hF : Fr18 a0 a) (hB : Below w0.heap.size w0 w) (h71 : a.tmps[71]?.getD undef = v3) (hv3 : Cv v3 (itoaB i2) w) (h75 : a.tmps[75]?.getD undef = .pointer (some ⟨fb, 0, none⟩)) : A18 K 8 #[true, true, false, false, false, true, false, false, false, false, false] a w := by
  have hz := hF.size
  refine wpAny_all (rs := [2, 6]) (by kernel_rfl) (by decide) (fun i hi => ?_)
  rcases (show i = 2 ∨ i = 6 by simpa using hi) with rfl | rfl
  · refine c18 hp hF h71 hv3 (fuel := 5) (by kernel_rfl) (by kernel_rfl) (by kernel_rfl) (by kernel_rfl) (fun a' hF' hs h74 => ?_)
    have hz' := hF'.size
    refine wpAny_all (rs := [6]) (by kernel_rfl) (by decide) (fun i hi => ?_)
    obtain rfl : i = 6 := by simpa using hi
    refine wpOp_val (o := ops18[6]'(by decide)) rfl rfl (x18_6 ((hs 75 (by decide) (by decide) (by decide)).trans h75) (hp.cell w hB)) ?_
    exact s18_4 hp (hF'.put 76 (by omega) _) hB ((sl_other (by decide)).trans h74) (sl_same (by omega))
  · refine wpOp_val (o := ops18[6]'(by decide)) rfl rfl (x18_6 h75 (hp.cell w hB)) ?_
    exact s18_3 hp (hF.put 76 (by omega) _) hB ((sl_other (by decide)).trans h71) hv3 (sl_same (by omega))
theorem s18_1 (hp : Pre18 a0 w0 fb i2 pa K) {a : Act} {w : World} (hF : Fr18 a0 a) (hB : Below w0.heap.size w0 w) (h70 : a.tmps[70]?.getD undef = .int .i64 i2) (h75 : a.tmps[75]?.getD undef = .pointer (some ⟨fb, 0, none⟩)) : A18 K 9 #[true, false, false, false, false, true, false, false, false, false, false] a w := by
  have hz := hF.size
  refine wpAny_all (rs := [1, 6]) (by kernel_rfl) (by decide) (fun i hi => ?_)
  rcases (show i = 1 ∨ i = 6 by simpa using hi) with rfl | rfl
  · refine l18 i2 hp.hi0 hp.hi1 (o := ops18[1]'(by decide)) (d := 71) rfl rfl rfl (x18_1 w h70) (fun v w' hv hb => ?_)
    exact s18_2 hp (hF.put 71 (by omega) v) (hB.trans (hb.mono hB.size)) (sl_same (by omega)) hv ((sl_other (by decide)).trans h75)
  · refine wpOp_val (o := ops18[6]'(by decide)) rfl rfl (x18_6 h75 (hp.cell w hB)) ?_
    refine wpAny_all (rs := [1]) (by kernel_rfl) (by decide) (fun i hi => ?_)
    obtain rfl : i = 1 := by simpa using hi
    refine l18 i2 hp.hi0 hp.hi1 (o := ops18[1]'(by decide)) (d := 71) rfl rfl rfl (x18_1 w ((sl_other (by decide)).trans h70)) (fun v w' hv hb => ?_)
    have hF2 := hF.put 76 (by omega) (.int .i64 pa)
    exact s18_3 hp (hF2.put 71 (by omega) v) (hB.trans (hb.mono hB.size)) (sl_same (by have := hF2.size; omega)) hv ((sl_other (by decide)).trans (sl_same (by omega)))
/-- The whole region, in every order. -/
theorem reg18 (hp : Pre18 a0 w0 fb i2 pa K) (hz : a0.tmps.size = 165) (h5 : a0.tmps[5]?.getD undef = .int .i64 i2) (h6 : a0.tmps[6]?.getD undef = .pointer (some ⟨fb, 0, none⟩)) : (Code.region 18 ops18 true).wp Tryz.prog (Ends K) a0 w0 := by
  refine wp_region_any (by kernel_rfl) ?_
  have hF0 : Fr18 a0 a0 := ⟨hz, rfl, fun _ _ _ => rfl⟩
  have hB0 : Below w0.heap.size w0 { w0 with drawn := w0.drawn + 1 } := below_drewM (Below.refl _ _)
  show A18 K 11 #[false, false, false, false, false, false, false, false, false, false, false] a0 _
  refine take18 (i := 0) (o := ops18[0]'(by decide)) rfl (by kernel_rfl) (by kernel_rfl) rfl (fun w => x18_0 w h5) ?_
  have hF1 := hF0.put 70 (by omega) (.int .i64 i2)
  refine take18 (i := 5) (o := ops18[5]'(by decide)) rfl (by kernel_rfl) (by kernel_rfl) rfl (fun w => x18_5 w ((sl_other (by decide)).trans h6)) ?_
  exact s18_1 hp (hF1.put 75 (by omega) _) hB0 ((sl_other (by decide)).trans (sl_same (by omega))) (sl_same (a := a0.put (some 70) (.int .i64 i2)) (d := 75) (by have := hF1.size; omega))
end
end Go.Proofs.YtadkajhejbondaaGreatDoor
namespace Go.Proofs.YtadkajhejbondaaGreatDoor
open Go.RowKit Ch1
/-- A function's block. -/
def Fb (fb : Nat) (f : Fn) (rp : Option Addr) (rl rc : Nat) (dp : Option Addr) (dl dc : Nat) (w : World) : Prop := w.heap[fb]? = some (.cells #[.int .i64 f.params, .slice rp rl rc, .slice dp dl dc] 48)
theorem Fb.b3 {fb : Nat} {f : Fn} {rp : Option Addr} {rl rc : Nat} {dp : Option Addr} {dl dc : Nat} {w : World} (h : Fb fb f rp rl rc dp dl dc w) : B3 w fb (.int .i64 f.params) (.slice rp rl rc) (.slice dp dl dc) := B3.of_heap h
theorem Fb.below {fb : Nat} {f : Fn} {rp : Option Addr} {rl rc : Nat} {dp : Option Addr} {dl dc : Nat} {w w' : World} (h : Fb fb f rp rl rc dp dl dc w) (hb : Below w.heap.size w w') : Fb fb f rp rl rc dp dl dc w' := (hb.block fb (Array.getElem?_eq_some_iff.1 h).1).trans h
theorem Fb.but {fb : Nat} {f : Fn} {rp : Option Addr} {rl rc : Nat} {dp : Option Addr} {dl dc : Nat} {w w' : World} {B : Nat} {v : Value} {xs : List Int} (h : Fb fb f rp rl rc dp dl dc w) (ho : Ow w B v xs) (hb : But w w' v) : Fb fb f rp rl rc dp dl dc w' := (hb fb (Array.getElem?_eq_some_iff.1 h).1 (own_ne ho h (by decide))).trans h
/-- At the head of the loop over one function's code. -/
def IlJ (w W : World) (fb : Nat) (f : Fn) (rp : Option Addr) (rl rc : Nat) (dp : Option Addr) (dl dc : Nat) (hd : List Int) (ov kv : Value) (wr : World) : Prop := ∃ k : Nat, k ≤ dl ∧ kv = .int .i64 k ∧ Hid (Ow wr (w.heap.size + 1) ov (hd ++ coZ f k)) ∧ Hid (Below (w.heap.size + 1) W wr) ∧ Hid (Fb fb f rp rl rc dp dl dc wr)
/-- At the head of the loop over a function's free variables. -/
def IlB (wc : World) (rl : Nat) (f : Fn) (n : Int) (sv kv : Value) (wr : World) : Prop := ∃ k : Nat, k ≤ rl ∧ kv = .int .i64 k ∧ sv = .string (jB ([⟨#[102, 117, 110, 99]⟩, itoaB n, itoaB f.params] ++ (f.free.take k).map boxB)) ∧ wr = wc
/-- An instruction's line up to its word, and up to its first operand. -/
def lnH (k : Int) (j : Nat) : ByteArray := ((⟨#[32, 32]⟩ ++ itoaB k) ++ ⟨#[32]⟩) ++ wordB j
def lnA (k : Int) (j : Nat) (xa : Int) : ByteArray := if j = 14 then lnH k j ++ (⟨#[32]⟩ ++ primB xa.toNat) else if hasA j = true then lnH k j ++ (⟨#[32]⟩ ++ itoaB xa) else lnH k j
theorem lnA_line (k : Int) (j : Nat) (xa xb : Int) : jB (inWs k j xa xb) = if j = 8 then lnA k j xa ++ (⟨#[32]⟩ ++ itoaB xb) else lnA k j xa := by
  have hh : jB [⟨#[32, 32]⟩ ++ itoaB k, wordB j] = lnH k j := in_head k (wordB j)
  unfold inWs lnA
  by_cases c14 : j = 14
  · rw [if_pos c14, if_neg (show ¬ j = 8 by omega), if_neg (show ¬ j = 8 by omega), if_pos c14, List.append_nil, jB_snoc _ _ (by simp), hh]
  · rw [if_neg c14, if_neg c14]
    by_cases cA : hasA j = true
    · rw [if_pos cA, if_pos cA]
      by_cases c8 : j = 8
      · rw [if_pos c8, if_pos c8, jB_snoc _ _ (by simp), jB_snoc _ _ (by simp), hh]
      · rw [if_neg c8, if_neg c8, List.append_nil, jB_snoc _ _ (by simp), hh]
    · have c8 : ¬ j = 8 := fun h => cA (by subst h; rfl)
      rw [if_neg cA, if_neg cA, if_neg c8, if_neg c8, List.append_nil, List.append_nil, hh]
theorem lnA_size (k : Int) (j : Nat) (xa : Int) (hk0 : -9223372036854775808 ≤ k) (hk1 : k ≤ 9223372036854775807) (hj : j < 18) (a0 : 0 ≤ xa) (a1 : xa ≤ 1000000000) (h14 : j = 14 → xa < 22) : (lnA k j xa).size ≤ 100 := by
  have y1 := itoaB_size k hk0 hk1
  have y2 := itoaB_size xa (by omega) (by omega)
  have y4 := wordB_size j hj
  have hH : (lnH k j).size ≤ 60 := by
    unfold lnH
    rw [ByteArray.size_append, ByteArray.size_append, ByteArray.size_append]
    show 2 + _ + 1 + _ ≤ 60
    omega
  have h1 : (⟨#[32]⟩ : ByteArray).size = 1 := rfl
  unfold lnA
  split
  · have := primB_size xa.toNat (by have := h14 (by assumption); omega)
    rw [ByteArray.size_append, ByteArray.size_append, h1]; omega
  · split
    · rw [ByteArray.size_append, ByteArray.size_append, h1]; omega
    · omega
theorem text_c (q : Option Addr) (k d : Nat) (ds : List Dt) (w : World) (hD : Da w q k d ds) (hk : k ≤ 3000) (h1 : oneB ds = true) : Calls Tryz.prog 17 #[.slice q k d, .int .i64 0] w fun e w' => Txt w w' e (txt 100 ds) := by
  have := text16 100 q k d 0 ds [] w hD hk (Nat.zero_le _) (by rw [List.drop_zero]; exact (oneB_iff ds).1 h1)
  rw [List.drop_zero] at this
  exact this
set_option maxRecDepth 20000 in
set_option maxHeartbeats 16000000 in
theorem specListModule_c (cp : Option Addr) (cn cc : Nat) (fp : Option Addr) (fn fc : Nat) (m : Md) (w : World) (hM : Mo w cp cn cc fp fn fc m) (hF : Fits cn fn m) :
    Calls Tryz.prog 5 #[.agg #[.slice cp cn cc, .int .i64 m.globals, .slice fp fn fc]] w fun e w' => LmP m w w' e := by
  have HM : Hid (Mo w cp cn cc fp fn fc m) := hM
  have HFL : Hid (m.funcs.length = fn) := hM.fs.len
  have HCL : Hid (m.consts.length = cn) := hM.cs.len
  have hfn := hF.hfn
  have hcn := hF.hcn
  have HF : Hid (Fits cn fn m) := hF
  obtain ⟨W, hW⟩ : ∃ W, W = w.alloc (.cells #[.slice cp cn cc, .int .i64 m.globals, .slice fp fn fc] 32) := ⟨_, rfl⟩
  have HX0 : Hid (B3 W w.heap.size (.slice cp cn cc) (.int .i64 m.globals) (.slice fp fn fc)) := by unfold Hid; rw [hW]; exact B3.new w _ _ _ _
  have HWB : Hid (Below w.heap.size w W) := by unfold Hid; rw [hW]; exact below1 _ _
  have hWs : W.heap.size = w.heap.size + 1 := by rw [hW]; simp
  have HUP : Hid (∀ wr, Below (w.heap.size + 1) W wr → Below w.heap.size w wr ∧ B3 wr w.heap.size (.slice cp cn cc) (.int .i64 m.globals) (.slice fp fn fc) ∧ w.heap.size + 1 ≤ wr.heap.size) := fun wr h => ⟨HWB.out.trans (h.mono (by omega)), HX0.out.below (by rw [hWs]; exact h), by rw [← hWs]; exact h.size⟩
  have kc := fun (w : World) (C : Array Value) (n c : Nat) => Lib.run_convert_bytes_const (P := Tryz.prog) w 27 5 C n c Tryz.underlying27 Tryz.underlying5
  clear hM hF
  go_enter Tryz.func5, Tryz.ntmps5
  go_wp2_with fail
  rw [← hW]
  clear hW
  refine (specValidModule_c cp cn cc fp fn fc m _ (HM.out.below HWB.out) HF.out).mono ?_
  rintro e w1 ⟨r, rfl, hr, hb1⟩
  have HR : Hid (r = true ↔ GoodM m) := hr
  have HB1 : Hid (Below (w.heap.size + 1) W w1) := by unfold Hid; rw [← hWs]; exact hb1
  clear hr hb1
  cases r
  · go_wp2
    go_ret
    exact ⟨Or.inl ⟨fun h => (by have := HR.out.2 h; cases this), rfl⟩, (HUP.out _ HB1.out).1⟩
  have HG : Hid (GoodM m) := HR.out.1 rfl
  have hg0 := HG.out.g0
  have hg1 := HG.out.g1
  have hs1 := (HUP.out _ HB1.out).2.2
  obtain ⟨W1, hW1⟩ : ∃ W1, W1 = w1.alloc (.cells #[.int .u8 103, .int .u8 108, .int .u8 111, .int .u8 98, .int .u8 97, .int .u8 108, .int .u8 115, .int .u8 32] 5 (8, 9)) := ⟨_, rfl⟩
  have HB1' : Hid (Below (w.heap.size + 1) W W1) := by unfold Hid; rw [hW1]; exact HB1.out.trans ((below1 _ _).mono hs1)
  have HY1 : Hid (By W1 (some ⟨w1.heap.size, 0, none⟩) 8 8 [103, 108, 111, 98, 97, 108, 115, 32]) := by unfold Hid; rw [hW1]; exact By.glob w1
  have g1 : (w1.alloc (.cells #[.int .u8 103, .int .u8 108, .int .u8 111, .int .u8 98, .int .u8 97, .int .u8 108, .int .u8 115, .int .u8 32] 5 (8, 9))).cell? ⟨w.heap.size, 1, none⟩ = some (.int .i64 m.globals) := by rw [← hW1]; exact (HUP.out _ HB1'.out).2.1.c1
  have hpos := itoaZ_pos m.globals
  have hlen := itoaZ_len m.globals (by omega) (by omega)
  go_wp2_with fail
  rw [← hW1]
  clear hW1 g1
  refine (dec24 m.globals (by omega) (by omega) _).mono ?_
  rintro e w2 ⟨b2, o2, c2, rfl, hy2, hb2⟩
  have HB2 : Hid (Below (w.heap.size + 1) W w2) := HB1'.out.trans (hb2.mono (HUP.out _ HB1'.out).2.2)
  have HY2 : Hid (By w2 (some ⟨b2, o2, none⟩) _ c2 (itoaZ m.globals)) := hy2
  have HY1' : Hid (By w2 (some ⟨w1.heap.size, 0, none⟩) 8 8 [103, 108, 111, 98, 97, 108, 115, 32]) := HY1.out.below hb2
  have hs2 := (HUP.out _ HB2.out).2.2
  clear hy2 hb2
  go_wp2_with (at_builtin; first | (refine appG_law _ rfl (.tmp 23) (.tmp 26) rfl w1.heap.size 0 8 [103, 108, 111, 98, 97, 108, 115, 32] (itoaZ m.globals) (by simp [Act.eval]) HY1'.out b2 o2 _ c2 (by simp [Act.eval]) HY2.out hpos (by omega) ?_; intro v3 w3 ho3 hb3; have HO3 : Hid (Ow w3 (w.heap.size + 1) v3 ([103, 108, 111, 98, 97, 108, 115, 32] ++ itoaZ m.globals)) := ho3.mono hs2; have HB3 : Hid (Below (w.heap.size + 1) W w3) := HB2.out.trans (hb3.mono hs2); have hs3 := (HUP.out _ HB3.out).2.2; clear ho3 hb3) | (refine app1_law _ rfl (.tmp 28) (.tmp 29) rfl (w.heap.size + 1) _ ([103, 108, 111, 98, 97, 108, 115, 32] ++ itoaZ m.globals) 10 (by omega) (by omega) (by simp [Act.eval]) HO3.out (by simp [Act.eval]) (by simp; omega) hs3 ?_; intro v4 w4 ho4 hb4 _; have HO4 : Hid (Ow w4 (w.heap.size + 1) v4 (lineZ [globB, itoaB m.globals])) := (by unfold Hid; rw [glob_line]; exact ho4); have HB4 : Hid (Below (w.heap.size + 1) W w4) := HB3.out.trans hb4; clear ho4 hb4))
  have HHD : Hid ((lineZ [globB, itoaB m.globals]).length ≤ 40) := by
    unfold Hid
    rw [glob_line]
    simp
    omega
  have HMZ : Hid (modZ m = (lineZ [globB, itoaB m.globals] ++ csZ m.consts m.consts.length) ++ fsZ m.funcs m.funcs.length) := rfl
  obtain ⟨hd, hhd⟩ : ∃ hd, lineZ [globB, itoaB m.globals] = hd := ⟨_, rfl⟩
  rw [hhd] at HO4 HHD HMZ
  clear hhd
  have HCB : Hid (∀ i, i ≤ cn → (hd ++ csZ m.consts i).length ≤ 1000000) := by
    intro i hi
    have h1 := csZ_len HG.out.cs.one i (by rw [HCL.out]; exact hi) (by have := HG.out.cs.few; rw [HCL.out] at this; omega)
    have h2 := cSum_le m.consts i (by rw [HCL.out]; exact hi)
    have h3 := HG.out.cs.sum
    have h4 := HG.out.cs.few
    have h5 := HHD.out
    rw [HCL.out] at h4
    rw [List.length_append]
    omega
  have hfew : cn ≤ 500 := by have := HG.out.cs.few; rw [HCL.out] at this; exact this
  clear HR HB1 HB2 HB1' HY1 HY2 HY1' HO3 HB3 hs1 hs2 hs3 hpos hlen kc
  go_loopw [3, 4] (fun ov iv wr => IlC m w W cn hd ov iv wr) (fun _ iv _ => cn - (intOf iv).toNat)
  case atStart => exact ⟨0, Nat.zero_le _, rfl, by unfold Hid; simpa [csZ] using HO4.out, HB4⟩
  case round =>
    clear HO4 HB4
    obtain ⟨i, hi, rfl, hO, hB⟩ := hrel
    obtain ⟨hBw, hXr, hsr⟩ := HUP.out _ hB.out
    have x0 := hXr.c0
    have HXR : Hid (B3 wr w.heap.size (.slice cp cn cc) (.int .i64 m.globals) (.slice fp fn fc)) := hXr
    clear hBw hXr
    by_cases hlt : i < cn
    · obtain ⟨b, o, rfl, hbl, gg⟩ := HM.out.cs.cells (by omega)
      obtain ⟨q, k, d, ew, hew⟩ := gg i hlt
      have HKL : Hid ((m.consts.getD i []).length = k) := hew.len
      have hk3 : k ≤ 3000 := by
        have h1 := cSum_succ m.consts i (by rw [HCL.out]; exact hlt)
        have h2 := cSum_le m.consts (i + 1) (by rw [HCL.out]; omega)
        have h3 := HG.out.cs.sum
        rw [HKL.out] at h1; omega
      have HON : Hid (oneB (m.consts.getD i []) = true) := HG.out.cs.one i (by rw [HCL.out]; exact hlt)
      have hacc := HCB.out i hi
      have HRG : Hid (Rg (txt 100 (m.consts.getD i []))) := txt_rg _ _ hew.rg
      have htl : (txt 100 (m.consts.getD i [])).length ≤ 1000000 := by
        have := one_len HON.out
        rw [HKL.out] at this; omega
      have HNX : Hid (hd ++ csZ m.consts (i + 1) = (hd ++ csZ m.consts i) ++ nums [99, 111, 110, 115, 116, 32] ++ itoaZ (i : Int) ++ [32] ++ txt 100 (m.consts.getD i []) ++ [10]) := by unfold Hid; rw [csZ_succ, const_line HRG.out]; simp
      have HEC : Hid (∀ w9, Below (w.heap.size + 1) W w9 → w9.cell? ⟨b, o + i, none⟩ = some (.slice q k d) ∧ Da w9 q k d (m.consts.getD i [])) := fun w9 h9 => ⟨by rw [(HUP.out w9 h9).1.cell (p := ⟨b, o + i, none⟩) hbl]; exact ew, hew.below (HUP.out w9 h9).1⟩
      have hil := itoaZ_len (i : Int) (by omega) (by omega)
      clear gg ew hew
      generalize m.consts.getD i [] = ds at HKL HON HRG htl HNX HEC
      generalize hd ++ csZ m.consts i = acc at hO hacc HNX
      have L1 : Hid (acc.length + (⟨#[99, 111, 110, 115, 116, 32]⟩ : ByteArray).size ≤ 1000000000) := by show acc.length + 6 ≤ 1000000000; omega
      have n6 : (nums [99, 111, 110, 115, 116, 32]).length = 6 := rfl
      have L2 : Hid ((acc ++ nums [99, 111, 110, 115, 116, 32]).length + (itoaZ (i : Int)).length ≤ 1000000000) := by unfold Hid; simp only [List.length_append]; omega
      have L3 : Hid ((acc ++ nums [99, 111, 110, 115, 116, 32] ++ itoaZ (i : Int)).length ≤ 500000000) := by unfold Hid; simp only [List.length_append]; omega
      have L4 : Hid ((acc ++ nums [99, 111, 110, 115, 116, 32] ++ itoaZ (i : Int) ++ [32]).length + (txt 100 ds).length ≤ 1000000000) := by unfold Hid; simp only [List.length_append, List.length_cons, List.length_nil]; omega
      have L5 : Hid ((acc ++ nums [99, 111, 110, 115, 116, 32] ++ itoaZ (i : Int) ++ [32] ++ txt 100 ds).length ≤ 500000000) := by unfold Hid; simp only [List.length_append, List.length_cons, List.length_nil]; omega
      clear n6
      go_wp2_with (first
        | (at_builtin; first
          | (refine appS2_law _ rfl (.tmp 38) _ rfl (w.heap.size + 1) _ acc (nums [99, 111, 110, 115, 116, 32]) (by simp [Act.eval]) hO.out ⟨#[99, 111, 110, 115, 116, 32]⟩ (by simp [Act.eval]) rfl L1.out hsr ?_; intro v1 w1 ho1 hb1 _; have HO1 : Hid (Ow w1 (w.heap.size + 1) v1 (acc ++ nums [99, 111, 110, 115, 116, 32])) := ho1; have HB1 : Hid (Below (w.heap.size + 1) W w1) := hB.out.trans hb1; have hs1 := (HUP.out _ HB1.out).2.2; clear ho1 hb1)
          | (refine app2_law _ rfl (.tmp 40) (.tmp 42) rfl (w.heap.size + 1) _ (acc ++ nums [99, 111, 110, 115, 116, 32]) (itoaZ (i : Int)) (by simp [Act.eval]) HO2.out b2 o2 _ c2 (by simp [Act.eval]) HY2.out L2.out hs2 ?_; intro v3 w3 ho3 hb3 _; have HO3 : Hid (Ow w3 (w.heap.size + 1) v3 (acc ++ nums [99, 111, 110, 115, 116, 32] ++ itoaZ (i : Int))) := ho3; have HB3 : Hid (Below (w.heap.size + 1) W w3) := HB2.out.trans hb3; have hs3 := (HUP.out _ HB3.out).2.2; clear ho3 hb3)
          | (refine app1_law _ rfl (.tmp 44) (.tmp 45) rfl (w.heap.size + 1) _ (acc ++ nums [99, 111, 110, 115, 116, 32] ++ itoaZ (i : Int)) 32 (by omega) (by omega) (by simp [Act.eval]) HO3.out (by simp [Act.eval]) L3.out hs3 ?_; intro v4 w4 ho4 hb4 _; have HO4 : Hid (Ow w4 (w.heap.size + 1) v4 (acc ++ nums [99, 111, 110, 115, 116, 32] ++ itoaZ (i : Int) ++ [32])) := ho4; have HB4 : Hid (Below (w.heap.size + 1) W w4) := HB3.out.trans hb4; have hs4 := (HUP.out _ HB4.out).2.2; have y0 := (HUP.out _ HB4.out).2.1.c0; have ye := (HEC.out _ HB4.out).1; clear ho4 hb4)
          | (refine app2_law _ rfl (.tmp 47) (.tmp 53) rfl (w.heap.size + 1) _ (acc ++ nums [99, 111, 110, 115, 116, 32] ++ itoaZ (i : Int) ++ [32]) (txt 100 ds) (by simp [Act.eval]) HO5.out b5 o5 _ c5 (by simp [Act.eval]) HY5.out L4.out hs5 ?_; intro v6 w6 ho6 hb6 _; have HO6 : Hid (Ow w6 (w.heap.size + 1) v6 (acc ++ nums [99, 111, 110, 115, 116, 32] ++ itoaZ (i : Int) ++ [32] ++ txt 100 ds)) := ho6; have HB6 : Hid (Below (w.heap.size + 1) W w6) := HB5.out.trans hb6; have hs6 := (HUP.out _ HB6.out).2.2; clear ho6 hb6)
          | (refine app1_law _ rfl (.tmp 55) (.tmp 56) rfl (w.heap.size + 1) _ (acc ++ nums [99, 111, 110, 115, 116, 32] ++ itoaZ (i : Int) ++ [32] ++ txt 100 ds) 10 (by omega) (by omega) (by simp [Act.eval]) HO6.out (by simp [Act.eval]) L5.out hs6 ?_; intro v7 w7 ho7 hb7 _; have HO7 : Hid (Ow w7 (w.heap.size + 1) v7 (hd ++ csZ m.consts (i + 1))) := (by unfold Hid; rw [HNX.out]; exact ho7); have HB7 : Hid (Below (w.heap.size + 1) W w7) := HB6.out.trans hb7; clear ho7 hb7))
        | (go_at_call 16; refine (dec24 (i : Int) (by omega) (by omega) _).mono ?_; rintro e w2 ⟨b2, o2, c2, rfl, hy2, hb2⟩; have HY2 : Hid (By w2 (some ⟨b2, o2, none⟩) _ c2 (itoaZ (i : Int))) := hy2; have HB2 : Hid (Below (w.heap.size + 1) W w2) := HB1.out.trans (hb2.mono hs1); have HO2 : Hid (Ow w2 (w.heap.size + 1) _ (acc ++ nums [99, 111, 110, 115, 116, 32])) := HO1.out.below hb2; have hs2 := (HUP.out _ HB2.out).2.2; clear hy2 hb2)
        | (go_at_call 17; refine (text_c q k d ds _ (HEC.out _ HB4.out).2 hk3 HON.out).mono ?_; rintro e w5 ⟨b5, o5, c5, rfl, hy5, hb5⟩; have HY5 : Hid (By w5 (some ⟨b5, o5, none⟩) _ c5 (txt 100 ds)) := hy5; have HB5 : Hid (Below (w.heap.size + 1) W w5) := HB4.out.trans (hb5.mono hs4); have HO5 : Hid (Ow w5 (w.heap.size + 1) _ (acc ++ nums [99, 111, 110, 115, 116, 32] ++ itoaZ (i : Int) ++ [32])) := HO4.out.below hb5; have hs5 := (HUP.out _ HB5.out).2.2; clear hy5 hb5))
      exact ⟨⟨i + 1, by omega, by go_num, HO7, HB7⟩, by simp [intOf]; omega⟩
    · obtain rfl : i = cn := by omega
      have x2 := HXR.out.c2
      have hh2 := HCB.out i (Nat.le_refl _)
      have HMZ2 : Hid (modZ m = (hd ++ csZ m.consts i) ++ fsZ m.funcs fn) := by unfold Hid; rw [HMZ.out, HCL.out, HFL.out]
      clear HCB HHD HMZ
      generalize hd ++ csZ m.consts i = hd2 at hO hh2 HMZ2
      have hf200 : fn ≤ 200 := by have := HG.out.f2; rw [HFL.out] at this; exact this
      go_wp2
      go_loopw [3, 5] (fun ov iv wr => IlF m w W fn hd2 ov iv wr) (fun _ iv _ => fn - (intOf iv).toNat)
      case atStart => exact ⟨0, Nat.zero_le _, rfl, by unfold Hid; simpa [fsZ] using hO.out, hB⟩
      case round =>
        clear hO hB HXR x2 x0 hsr
        obtain ⟨i2, hi2, rfl, hO, hB⟩ := hrel
        obtain ⟨hBw, hXr, hsr⟩ := HUP.out _ hB.out
        have HBW : Hid (Below w.heap.size w wr) := hBw
        have x2 := hXr.c2
        clear hBw hXr
        by_cases hlt3 : i2 < fn
        · obtain ⟨b, o, rfl, hbl, gg⟩ := HM.out.fs.cells (by omega)
          obtain ⟨rp, rl, rc, dp, dl, dc, hew⟩ := gg i2 hlt3
          have he := hew.below hbl HBW.out
          have hbl3 := Nat.lt_of_lt_of_le hbl HBW.out.size
          have HCW : Hid (Ii w dp dl dc (m.funcs.getD i2 fn0).code) := hew.code
          have HFW : Hid (Bo w rp rl rc (m.funcs.getD i2 fn0).free) := hew.free
          have e0 := he.c0
          have e1 := he.c1
          have e2 := he.c2
          have hin : i2 < m.funcs.length := by rw [HFL.out]; exact hlt3
          have HRL : Hid ((m.funcs.getD i2 fn0).free.length = rl) := he.free.len
          have HDL : Hid ((m.funcs.getD i2 fn0).code.length = dl) := he.code.len
          have hrl : rl ≤ 50 := by have := (fnFacts HG.out hin).1; rw [HRL.out] at this; exact this
          have hdl : dl ≤ 5000 := by have := (fnFacts HG.out hin).2; rw [HDL.out] at this; exact this
          have hp0 := (HG.out.sz.fn i2 hin).p0
          have hp1 := (HG.out.sz.fn i2 hin).p1
          have HCD : Hid (∀ k, k < (m.funcs.getD i2 fn0).code.length → InsOk m (m.funcs.getD i2 fn0) ((m.funcs.getD i2 fn0).code.getD k in0)) := HG.out.cd i2 hin
          have HNX : Hid (fsZ m.funcs (i2 + 1) = fsZ m.funcs i2 ++ (lineZ (fnWs (i2 : Int) (m.funcs.getD i2 fn0)) ++ coZ (m.funcs.getD i2 fn0) (m.funcs.getD i2 fn0).code.length)) := fsZ_succ _ _
          have hacc : (hd2 ++ fsZ m.funcs i2).length ≤ 100000000 := by
            have := fsZ_len HG.out i2 (by rw [HFL.out]; exact hi2)
            rw [List.length_append]; omega
          clear gg he hew hbl
          obtain ⟨f, hf⟩ : ∃ f, m.funcs.getD i2 fn0 = f := ⟨_, rfl⟩
          rw [hf] at e0 HRL HDL HCW HFW hp0 hp1 HCD HNX
          clear hf
          have HFS := fnWs_sum (n := (i2 : Int)) (f := f) (by omega) (by omega) hp0 hp1 (by rw [HRL.out]; exact hrl)
          have HJF : Hid ((jB (fnWs (i2 : Int) f)).size ≤ 300) := Nat.le_trans (jB_size _) (by omega)
          have z1 := itoaB_size (i2 : Int) (by omega) (by omega)
          have z2 := itoaB_size f.params (by omega) (by omega)
          clear HFS
          obtain ⟨W2, hW2⟩ : ∃ W2, W2 = wr.alloc (.cells #[.int .i64 f.params, .slice rp rl rc, .slice dp dl dc] 48) := ⟨_, rfl⟩
          obtain ⟨fb, hfb⟩ : ∃ fb, fb = wr.heap.size := ⟨_, rfl⟩
          have HF2 : Hid (Fb fb f rp rl rc dp dl dc W2) := by unfold Hid Fb; rw [hW2, hfb]; exact Go.Deep.blk_alloc_new _ _
          have HR2 : Hid (Below wr.heap.size wr W2) := by unfold Hid; rw [hW2]; exact below1 _ _
          have HB2 : Hid (Below (w.heap.size + 1) W W2) := hB.out.trans (HR2.out.mono hsr)
          have hs2 : w.heap.size + 1 ≤ W2.heap.size := (HUP.out _ HB2.out).2.2
          go_wp2_with fail
          rw [← hW2, ← hfb]
          have HO2 : Hid (Ow W2 (w.heap.size + 1) _ (hd2 ++ fsZ m.funcs i2)) := hO.out.below HR2.out
          clear hW2 hfb hO hB HBW x2 hsr HR2 e0 e1 e2
          go_cut [7] from 58 to 163 (fun v wc => v = .string (jB [⟨#[102, 117, 110, 99]⟩, itoaB (i2 : Int), itoaB f.params]) ∧ Hid (Below W2.heap.size W2 wc))
          case first =>
            refine Code.wp_mono (Q := Ends (fun a w9 => Fr18 _ a ∧ a.tmps[7]?.getD undef = .string (jB [⟨#[102, 117, 110, 99]⟩, itoaB (i2 : Int), itoaB f.params]) ∧ Below W2.heap.size W2 w9)) (fun e a w9 h => ?_) (reg18 (fb := fb) (i2 := (i2 : Int)) (pa := f.params) ⟨by omega, by omega, hp0, by omega, fun w9 h9 => (HF2.out.below h9).b3.c0, fun a w9 h1 h2 h3 => ⟨h1, h2, h3⟩⟩ rfl rfl rfl)
            cases e with
            | normal =>
              obtain ⟨hF18, h7, hB9⟩ := h
              have HB9 : Hid (Below W2.heap.size W2 w9) := hB9
              have ha := hF18.eq rfl
              rw [h7] at ha
              generalize a.tmps[70]?.getD undef = y0 at ha
              generalize a.tmps[71]?.getD undef = y1 at ha
              generalize a.tmps[72]?.getD undef = y2 at ha
              generalize a.tmps[73]?.getD undef = y3 at ha
              generalize a.tmps[74]?.getD undef = y4 at ha
              generalize a.tmps[75]?.getD undef = y5 at ha
              generalize a.tmps[76]?.getD undef = y6 at ha
              generalize a.tmps[77]?.getD undef = y7 at ha
              generalize a.tmps[78]?.getD undef = y8 at ha
              generalize a.tmps[79]?.getD undef = y9 at ha
              clear hF18 h7 hB9
              simp only [List.setIfInBounds_toArray, List.set_cons_succ, List.set_cons_zero] at ha
              subst ha
              go_wp2_with fail
              go_meet
              exact ⟨rfl, HB9⟩
            | _ => exact h.elim
          case rest =>
            obtain ⟨rfl, hRC⟩ := hcut
            have HFC : Hid (Fb fb f rp rl rc dp dl dc wc) := HF2.out.below hRC.out
            have HBC : Hid (Below (w.heap.size + 1) W wc) := HB2.out.trans (hRC.out.mono hs2)
            have HOC : Hid (Ow wc (w.heap.size + 1) _ (hd2 ++ fsZ m.funcs i2)) := HO2.out.below hRC.out
            have hsc := (HUP.out _ HBC.out).2.2
            have c1 := HFC.out.b3.c1
            have HFRC : Hid (Bo wc rp rl rc f.free) := HFW.out.below (HUP.out _ HBC.out).1
            clear HF2 HB2 HO2 hs2 hRC HFW
            go_wp2
            go_loopw [7, 8] (fun sv kv wr2 => IlB wc rl f (i2 : Int) sv kv wr2) (fun _ kv _ => rl - (intOf kv).toNat)
            case atStart => exact ⟨0, Nat.zero_le _, rfl, by simp, rfl⟩
            case round =>
              obtain ⟨k, hk, rfl, rfl, rfl⟩ := hrel
              by_cases hltk : k < rl
              · obtain ⟨b, o, rfl, hbl, gg⟩ := HFRC.out.cells (by omega)
                have eb := gg k hltk
                clear gg
                have HTK : Hid (jB ([⟨#[102, 117, 110, 99]⟩, itoaB (i2 : Int), itoaB f.params] ++ (f.free.take (k + 1)).map boxB) = jB ([⟨#[102, 117, 110, 99]⟩, itoaB (i2 : Int), itoaB f.params] ++ (f.free.take k).map boxB) ++ (⟨#[32]⟩ ++ boxB (f.free.getD k false))) := by
                  unfold Hid
                  have hil : k < f.free.length := by rw [HRL.out]; exact hltk
                  have e : f.free.getD k false = f.free[k] := by simp [List.getD, List.getElem?_eq_getElem hil]
                  rw [e, List.take_add_one, List.getElem?_eq_getElem hil, Option.toList_some, List.map_append, List.map_cons, List.map_nil, ← List.append_assoc, jB_snoc _ _ (by simp)]
                have hls : (jB ([⟨#[102, 117, 110, 99]⟩, itoaB (i2 : Int), itoaB f.params] ++ (f.free.take k).map boxB)).size ≤ 10000 := by
                  refine Nat.le_trans (jB_size _) ?_
                  have a3 : (((f.free.take k).map boxB).map (fun s => s.size + 1)).sum = 4 * (f.free.take k).length := by
                    generalize f.free.take k = l
                    induction l with
                    | nil => rfl
                    | cons b r ih => simp [boxB_size] at ih ⊢; omega
                  have a4 : (⟨#[102, 117, 110, 99]⟩ : ByteArray).size = 4 := rfl
                  have a5 : (f.free.take k).length ≤ k := by simp; omega
                  rw [List.map_append, List.sum_append, a3]
                  simp; omega
                rw [box_word] at HTK
                generalize jB ([⟨#[102, 117, 110, 99]⟩, itoaB (i2 : Int), itoaB f.params] ++ (f.free.take k).map boxB) = ln at HTK hls ⊢
                generalize f.free.getD k false = bv at eb HTK
                cases bv
                · have hl2 : (ln ++ ⟨#[32, 97, 110, 121]⟩ : ByteArray).size ≤ 10004 := by rw [ByteArray.size_append]; show _ + 4 ≤ 10004; omega
                  go_wp2
                  exact ⟨⟨k + 1, by omega, by go_num, by rw [HTK.out]; rfl, rfl⟩, by simp [intOf]; omega⟩
                · have hl2 : (ln ++ ⟨#[32, 98, 111, 120]⟩ : ByteArray).size ≤ 10004 := by rw [ByteArray.size_append]; show _ + 4 ≤ 10004; omega
                  go_wp2
                  exact ⟨⟨k + 1, by omega, by go_num, by rw [HTK.out]; rfl, rfl⟩, by simp [intOf]; omega⟩
              · obtain rfl : k = rl := by omega
                have HFE : Hid (jB ([⟨#[102, 117, 110, 99]⟩, itoaB (i2 : Int), itoaB f.params] ++ (f.free.take k).map boxB) = jB (fnWs (i2 : Int) f)) := by unfold Hid fnWs; rw [List.take_of_length_le (by rw [HRL.out]; exact Nat.le_refl _)]
                rw [HFE.out]
                clear HFE
                have L1 : Hid ((hd2 ++ fsZ m.funcs i2).length + (jB (fnWs (i2 : Int) f)).size ≤ 1000000000) := by unfold Hid; have := HJF.out; omega
                have L2 : Hid (((hd2 ++ fsZ m.funcs i2) ++ nums (jB (fnWs (i2 : Int) f)).data.toList).length ≤ 200000000) := by unfold Hid; have := HJF.out; have hac := hacc; have e9 : (jB (fnWs (i2 : Int) f)).data.toList.length = (jB (fnWs (i2 : Int) f)).size := Array.length_toList; simp only [List.length_append, nums_length] at hac ⊢; omega
                have HJ2 : Hid (lineZ (fnWs (i2 : Int) f) = nums (jB (fnWs (i2 : Int) f)).data.toList ++ [10]) := rfl
                generalize jB (fnWs (i2 : Int) f) = ln at L1 L2 HJ2 HJF ⊢
                go_wp2_with (at_builtin; first
                  | (refine appS2_law _ rfl (.tmp 96) (.tmp 97) rfl (w.heap.size + 1) _ (hd2 ++ fsZ m.funcs i2) (nums ln.data.toList) (by simp [Act.eval]) HOC.out ln (by simp [Act.eval]) rfl L1.out hsc ?_; intro v5 w5 ho5 hb5 hbt5; have HO5 : Hid (Ow w5 (w.heap.size + 1) v5 ((hd2 ++ fsZ m.funcs i2) ++ nums ln.data.toList)) := ho5; have HB5 : Hid (Below (w.heap.size + 1) W w5) := HBC.out.trans hb5; have HF5 : Hid (Fb fb f rp k rc dp dl dc w5) := HFC.out.but HOC.out hbt5; have hs5 := (HUP.out _ HB5.out).2.2; clear ho5 hb5 hbt5)
                  | (refine app1_law _ rfl (.tmp 99) (.tmp 100) rfl (w.heap.size + 1) _ ((hd2 ++ fsZ m.funcs i2) ++ nums ln.data.toList) 10 (by omega) (by omega) (by simp [Act.eval]) HO5.out (by simp [Act.eval]) (by have := L2.out; omega) hs5 ?_; intro v6 w6 ho6 hb6 hbt6; have HO6 : Hid (Ow w6 (w.heap.size + 1) v6 ((hd2 ++ fsZ m.funcs i2) ++ lineZ (fnWs (i2 : Int) f))) := (by unfold Hid; rw [HJ2.out, ← List.append_assoc]; exact ho6); have HB6 : Hid (Below (w.heap.size + 1) W w6) := HB5.out.trans hb6; have HF6 : Hid (Fb fb f rp k rc dp dl dc w6) := HF5.out.but HO5.out hbt6; clear ho6 hb6 hbt6))
                have hacc2 : ((hd2 ++ fsZ m.funcs i2) ++ lineZ (fnWs (i2 : Int) f)).length ≤ 200000001 := by rw [HJ2.out, ← List.append_assoc, List.length_append]; have := L2.out; simp; simp at this; omega
                have HNX2 : Hid (hd2 ++ fsZ m.funcs (i2 + 1) = ((hd2 ++ fsZ m.funcs i2) ++ lineZ (fnWs (i2 : Int) f)) ++ coZ f dl) := by unfold Hid; rw [HNX.out, HDL.out]; simp
                clear HO5 HB5 HF5 HOC HBC HFC HFRC c1 hsc hs5 HNX L1 L2 HJ2 HJF
                generalize (hd2 ++ fsZ m.funcs i2) ++ lineZ (fnWs (i2 : Int) f) = hd3 at HO6 hacc2 HNX2
                go_loopw [3, 9] (fun ov kv wr2 => IlJ w W fb f rp k rc dp dl dc hd3 ov kv wr2) (fun _ kv _ => dl - (intOf kv).toNat)
                case atStart => exact ⟨0, Nat.zero_le _, rfl, by unfold Hid; simpa [coZ] using HO6.out, HB6, HF6⟩
                case round =>
                  clear HO6 HB6 HF6
                  generalize k = rl at *
                  obtain ⟨k, hk, rfl, hO, hB, hFb⟩ := hrel
                  have hsr := (HUP.out _ hB.out).2.2
                  have f2 := hFb.out.b3.c2
                  by_cases hltk2 : k < dl
                  · obtain ⟨b4, o4, rfl, hbl4, gg⟩ := (HCW.out.below (HUP.out _ hB.out).1).cells (by omega)
                    obtain ⟨e0, e1, e2⟩ := gg k hltk2
                    clear gg
                    obtain ⟨j, hj, hj18, a0, a1, b0, b1, h14⟩ := ins_facts (HCD.out k (by rw [HDL.out]; exact hltk2)) HG.out.cs.few (by rw [HRL.out]; exact hrl) (by rw [HDL.out]; exact hdl) HG.out.g1 HG.out.f2 (fun i hi => (fnFacts HG.out hi).1)
                    have HNK : Hid (coZ f (k + 1) = coZ f k ++ lineZ (inWs (k : Int) j (f.code.getD k in0).a (f.code.getD k in0).b)) := by unfold Hid; rw [coZ_succ]; unfold inZ; rw [hj, Int.toNat_natCast]
                    have hck : (coZ f k).length ≤ 91 * k := coZ_len HCD.out HG.out.cs.few (by rw [HRL.out]; exact hrl) (by rw [HDL.out]; exact hdl) HG.out.g1 HG.out.f2 (fun i hi => (fnFacts HG.out hi).1) k (by rw [HDL.out]; exact hk)
                    have hacc3 : (hd3 ++ coZ f k).length ≤ 250000000 := by rw [List.length_append]; omega
                    rw [hj] at e0
                    clear hj
                    generalize (f.code.getD k in0).a = xa at e1 a0 a1 h14 HNK
                    generalize (f.code.getD k in0).b = xb at e2 b0 b1 HNK
                    have HIS := inWs_sum (at_ := (k : Int)) (j := j) (by omega) (by omega) hj18 a0 a1 b0 b1 h14
                    have HJS : Hid ((jB (inWs (k : Int) j xa xb)).size ≤ 1000) := Nat.le_trans (jB_size _) (by omega)
                    clear HIS
                    have y1 := itoaB_size (k : Int) (by omega) (by omega)
                    have y2 := itoaB_size xa (by omega) (by omega)
                    have y3 := itoaB_size xb (by omega) (by omega)
                    have y4 := wordB_size j hj18
                    have k1 : (⟨#[32, 32]⟩ ++ itoaB (k : Int) : ByteArray).size ≤ 30 := by rw [ByteArray.size_append]; show 2 + _ ≤ 30; omega
                    have k2 : ((⟨#[32, 32]⟩ ++ itoaB (k : Int)) ++ ⟨#[32]⟩ : ByteArray).size ≤ 31 := by rw [ByteArray.size_append]; show _ + 1 ≤ 31; omega
                    have k3 : (((⟨#[32, 32]⟩ ++ itoaB (k : Int)) ++ ⟨#[32]⟩) ++ wordB j : ByteArray).size ≤ 60 := by rw [ByteArray.size_append]; omega
                    have HLH : ((⟨#[32, 32]⟩ ++ itoaB (k : Int)) ++ ⟨#[32]⟩) ++ wordB j = lnH (k : Int) j := rfl
                    have k3' : (lnH (k : Int) j).size ≤ 60 := k3
                    have k4 : (⟨#[32]⟩ ++ itoaB xa : ByteArray).size ≤ 30 := by rw [ByteArray.size_append]; show 1 + _ ≤ 30; omega
                    have k5 : (⟨#[32]⟩ ++ itoaB xb : ByteArray).size ≤ 30 := by rw [ByteArray.size_append]; show 1 + _ ≤ 30; omega
                    obtain ⟨W3, hW3⟩ : ∃ W3, W3 = wr.alloc (.cells #[.int .i64 j, .int .i64 xa, .int .i64 xb] 50) := ⟨_, rfl⟩
                    obtain ⟨xbk, hxbk⟩ : ∃ xbk, xbk = wr.heap.size := ⟨_, rfl⟩
                    have HX3 : Hid (B3 W3 xbk (.int .i64 j) (.int .i64 xa) (.int .i64 xb)) := by unfold Hid; rw [hW3, hxbk]; exact B3.new _ _ _ _ _
                    have HR3 : Hid (Below wr.heap.size wr W3) := by unfold Hid; rw [hW3]; exact below1 _ _
                    go_wp2_with fail
                    rw [← hW3]
                    refine (l3word_c j hj18 _).mono ?_
                    obtain ⟨hA, hhA⟩ : ∃ hA, hasA j = hA := ⟨_, rfl⟩
                    obtain ⟨h8, hh8⟩ : ∃ h8, (j == 8) = h8 := ⟨_, rfl⟩
                    rintro e w4 ⟨rfl, hb4⟩
                    rw [hhA, hh8]
                    have HHA : Hid (hasA j = hA) := hhA
                    have HH8 : Hid ((j == 8) = h8) := hh8
                    clear hhA hh8
                    have HR4 : Hid (Below wr.heap.size wr w4) := HR3.out.trans (hb4.mono HR3.out.size)
                    have HX4 : Hid (B3 w4 xbk (.int .i64 j) (.int .i64 xa) (.int .i64 xb)) := HX3.out.below hb4
                    rw [← hxbk]
                    clear hb4 hW3 hxbk e0 e1 e2 f2
                    go_wp2_with fail
                    refine (decS_c (k : Int) (by omega) (by omega) _).mono ?_
                    rintro e w5 ⟨v5, rfl, hc5, hb5⟩
                    have cv5 := hc5 w5 (Below.refl _ _)
                    have HR5 : Hid (Below wr.heap.size wr w5) := HR4.out.trans (hb5.mono HR4.out.size)
                    have HX5 : Hid (B3 w5 xbk (.int .i64 j) (.int .i64 xa) (.int .i64 xb)) := HX4.out.below hb5
                    have d0 := HX5.out.c0
                    have d1 := HX5.out.c1
                    have d2 := HX5.out.c2
                    clear hc5 hb5
                    clear HR3 HX3 HX4 HR4
                    go_upto_if 130 with fail
                    clear HLH k1 k2 k3
                    go_cut [14, 15, 16, 17] from 102 to 163 (fun v _ _ _ wc => v = .string (lnA (k : Int) j xa) ∧ Hid (Below w5.heap.size w5 wc))
                    case first =>
                      try clear HM
                      try clear HFL
                      try clear HCL
                      try clear HF
                      try clear HX0
                      try clear HWB
                      try clear HUP
                      try clear HG
                      try clear HMZ2
                      try clear HRL
                      try clear HDL
                      try clear HCW
                      try clear HCD
                      try clear HNX2
                      try clear HNK
                      try clear HJS
                      try clear hck
                      try clear hacc3
                      try clear hO
                      try clear hB
                      try clear hFb
                      try clear hsr
                      by_cases c14 : j = 14
                      · obtain ⟨p, hp⟩ : ∃ p : Nat, xa = p := ⟨xa.toNat, by omega⟩
                        subst hp
                        have hp22 : p < 22 := by have := h14 c14; omega
                        have t1 : (((j : Nat) : Int) == 14) = true := by simp [c14]
                        have HLN : Hid (lnA (k : Int) j p = lnH (k : Int) j ++ (⟨#[32]⟩ ++ primB p)) := by unfold Hid lnA; rw [if_pos c14]; rfl
                        have y6 := primB_size p hp22
                        have k6 : (⟨#[32]⟩ ++ primB p : ByteArray).size ≤ 30 := by rw [ByteArray.size_append]; show 1 + _ ≤ 30; omega
                        have k7 : (lnH (k : Int) j ++ (⟨#[32]⟩ ++ primB p) : ByteArray).size ≤ 100 := by rw [ByteArray.size_append]; omega
                        clear h14 c14
                        go_wp2_with fail
                        refine (l3prim_c p hp22 _).mono ?_
                        rintro e w6 ⟨q1, q2, rfl, hb6⟩
                        have HR6 : Hid (Below w5.heap.size w5 w6) := hb6
                        clear hb6 d0 d1 d2
                        go_wp2_with fail
                        go_meet
                        exact ⟨by rw [HLN.out], HR6⟩
                      · have t1 : (((j : Nat) : Int) == 14) = false := by simp; omega
                        cases hA with
                        | true =>
                          have HLN : Hid (lnA (k : Int) j xa = lnH (k : Int) j ++ (⟨#[32]⟩ ++ itoaB xa)) := by unfold Hid lnA; rw [if_neg c14, if_pos HHA.out]
                          have k7 : (lnH (k : Int) j ++ (⟨#[32]⟩ ++ itoaB xa) : ByteArray).size ≤ 100 := by rw [ByteArray.size_append]; omega
                          clear h14 c14
                          go_wp2_with fail
                          refine (decS_c xa (by omega) (by omega) _).mono ?_
                          rintro e w6 ⟨v6, rfl, hc6, hb6⟩
                          have cv6 := hc6 w6 (Below.refl _ _)
                          have HR6 : Hid (Below w5.heap.size w5 w6) := hb6
                          clear hc6 hb6 d0 d1 d2
                          go_wp2_with fail
                          go_meet
                          exact ⟨by rw [HLN.out], HR6⟩
                        | false =>
                          have HLN : Hid (lnA (k : Int) j xa = lnH (k : Int) j) := by unfold Hid lnA; rw [if_neg c14, if_neg (by rw [HHA.out]; simp)]
                          clear h14 c14
                          go_wp2_with fail
                          go_meet
                          exact ⟨by rw [HLN.out], Below.refl _ _⟩
                    case rest =>
                      rename World => wA
                      obtain ⟨rfl, hQ6⟩ := hcut
                      have HR6 : Hid (Below wr.heap.size wr wA) := HR5.out.trans (hQ6.out.mono HR5.out.size)
                      have d2' := (HX5.out.below hQ6.out).c2
                      have HLA := lnA_size (k : Int) j xa (by omega) (by omega) hj18 a0 a1 h14
                      have HLX : Hid (jB (inWs (k : Int) j xa xb) = if j = 8 then lnA (k : Int) j xa ++ (⟨#[32]⟩ ++ itoaB xb) else lnA (k : Int) j xa) := lnA_line (k : Int) j xa xb
                      clear hQ6 HX5 HR5 d0 d1 d2 cv5 k3' k4 y1 y2 y4
                      generalize lnA (k : Int) j xa = la at HLA HLX
                      go_upto_if 150 with fail
                      go_cut [14] from 102 to 163 (fun v wd => v = .string (jB (inWs (k : Int) j xa xb)) ∧ Hid (Below wA.heap.size wA wd))
                      case first =>
                        try clear HM
                        try clear HFL
                        try clear HCL
                        try clear HF
                        try clear HX0
                        try clear HWB
                        try clear HUP
                        try clear HG
                        try clear HMZ2
                        try clear HRL
                        try clear HDL
                        try clear HCW
                        try clear HCD
                        try clear HNX2
                        try clear HNK
                        try clear HJS
                        try clear hck
                        try clear hacc3
                        try clear hO
                        try clear hB
                        try clear hFb
                        try clear hsr
                        cases h8 with
                        | true =>
                          have c8 : j = 8 := by simpa using HH8.out
                          have HLN : Hid (jB (inWs (k : Int) j xa xb) = la ++ (⟨#[32]⟩ ++ itoaB xb)) := by unfold Hid; rw [HLX.out, if_pos c8]
                          have k7 : (la ++ (⟨#[32]⟩ ++ itoaB xb) : ByteArray).size ≤ 200 := by rw [ByteArray.size_append]; omega
                          clear c8 h14
                          go_wp2_with fail
                          refine (decS_c xb (by omega) (by omega) _).mono ?_
                          rintro e w7 ⟨v7, rfl, hc7, hb7⟩
                          have cv7 := hc7 w7 (Below.refl _ _)
                          have HR7 : Hid (Below wA.heap.size wA w7) := hb7
                          clear hc7 hb7 d2'
                          go_wp2_with fail
                          go_meet
                          exact ⟨by rw [HLN.out], HR7⟩
                        | false =>
                          have c8 : ¬ j = 8 := by simpa using HH8.out
                          have HLN : Hid (jB (inWs (k : Int) j xa xb) = la) := by unfold Hid; rw [HLX.out, if_neg c8]
                          clear c8 h14
                          go_wp2_with fail
                          go_meet
                          exact ⟨by rw [HLN.out], Below.refl _ _⟩
                      case rest =>
                        obtain ⟨rfl, hQ7⟩ := hcut
                        have HRZ : Hid (Below wr.heap.size wr wc) := HR6.out.trans (hQ7.out.mono HR6.out.size)
                        clear hQ7 d2' HLX HLA HR6
                        have HOZ : Hid (Ow wc (w.heap.size + 1) _ (hd3 ++ coZ f k)) := hO.out.below (HRZ.out)
                        have HFZ : Hid (Fb fb f rp rl rc (some ⟨b4, o4, none⟩) dl dc wc) := hFb.out.below HRZ.out
                        have HBZ : Hid (Below (w.heap.size + 1) W wc) := hB.out.trans (HRZ.out.mono hsr)
                        have hsz := (HUP.out _ HBZ.out).2.2
                        have HJ2 : Hid (lineZ (inWs (k : Int) j xa xb) = nums (jB (inWs (k : Int) j xa xb)).data.toList ++ [10]) := rfl
                        generalize jB (inWs (k : Int) j xa xb) = ln at HJ2 HJS
                        have LZ : Hid ((hd3 ++ coZ f k).length + ln.size ≤ 1000000000) := by unfold Hid; have := HJS.out; omega
                        have LZ2 : Hid (((hd3 ++ coZ f k) ++ nums ln.data.toList).length ≤ 500000000) := by unfold Hid; have := HJS.out; have hac := hacc3; have e9 : ln.data.toList.length = ln.size := Array.length_toList; simp only [List.length_append, nums_length] at hac ⊢; omega
                        go_wp2_with (at_builtin; first
                          | (refine appS2_law _ rfl (.tmp 158) (.tmp 159) rfl (w.heap.size + 1) _ (hd3 ++ coZ f k) (nums ln.data.toList) (by simp [Act.eval]) HOZ.out ln (by simp [Act.eval]) rfl LZ.out hsz ?_; intro v8 w8 ho8 hb8 hbt8; have HO8 : Hid (Ow w8 (w.heap.size + 1) v8 ((hd3 ++ coZ f k) ++ nums ln.data.toList)) := ho8; have HB8 : Hid (Below (w.heap.size + 1) W w8) := HBZ.out.trans hb8; have HF8 : Hid (Fb fb f rp rl rc (some ⟨b4, o4, none⟩) dl dc w8) := HFZ.out.but HOZ.out hbt8; have hs8 := (HUP.out _ HB8.out).2.2; clear ho8 hb8 hbt8)
                          | (refine app1_law _ rfl (.tmp 161) (.tmp 162) rfl (w.heap.size + 1) _ ((hd3 ++ coZ f k) ++ nums ln.data.toList) 10 (by omega) (by omega) (by simp [Act.eval]) HO8.out (by simp [Act.eval]) LZ2.out hs8 ?_; intro v9 w9 ho9 hb9 hbt9; have HO9 : Hid (Ow w9 (w.heap.size + 1) v9 (hd3 ++ coZ f (k + 1))) := (by unfold Hid; rw [HNK.out, HJ2.out]; simp only [List.append_assoc] at ho9 ⊢; exact ho9); have HB9 : Hid (Below (w.heap.size + 1) W w9) := HB8.out.trans hb9; have HF9 : Hid (Fb fb f rp rl rc (some ⟨b4, o4, none⟩) dl dc w9) := HF8.out.but HO8.out hbt9; clear ho9 hb9 hbt9))
                        exact ⟨⟨k + 1, by omega, by go_num, HO9, HB9, HF9⟩, by simp [intOf]; omega⟩
                  · obtain rfl : k = dl := by omega
                    go_wp2
                    exact ⟨⟨i2 + 1, by omega, by go_num, by unfold Hid; rw [HNX2.out]; exact hO.out, hB⟩, by simp [intOf]; omega⟩
        · obtain rfl : i2 = fn := by omega
          go_wp2
          go_ret
          exact ⟨Or.inr ⟨HG.out, _, rfl, by rw [HMZ2.out]; exact hO.out.mono (by omega)⟩, HBW.out⟩
end Go.Proofs.YtadkajhejbondaaGreatDoor
