import Derived.Test.YtdjdhjciealfhaaGreatDoorMe
namespace Go.Proofs.YtdjdhjciealfhaaGreatDoor
open Go.RowKit Ch1
/-- At the head of the loop over one function's code. -/
def ImI (m : Md) (w : World) (cp : Option Addr) (cn cc : Nat) (fp : Option Addr) (fn fc : Nat) (f : Fn) (fb : Nat) (rp : Option Addr) (rl rc : Nat) (dp : Option Addr) (dl dc : Nat) (kv : Value) (wr : World) : Prop := ∃ k : Nat, k ≤ dl ∧ kv = .int .i64 k ∧ Hid (∀ j, j < k → InsOk m f (f.code.getD j in0)) ∧ Hid (B3 wr w.heap.size (.slice cp cn cc) (.int .i64 m.globals) (.slice fp fn fc)) ∧ Hid (B3 wr fb (.int .i64 f.params) (.slice rp rl rc) (.slice dp dl dc)) ∧ Hid (Below w.heap.size w wr)
set_option maxRecDepth 20000 in
set_option maxHeartbeats 8000000 in
theorem validCode_c (cp : Option Addr) (cn cc : Nat) (fp : Option Addr) (fn fc : Nat) (m : Md) (w : World) (hM : Mo w cp cn cc fp fn fc m) (hF : Fits cn fn m) (hT : Tb w) (hg0 : 0 ≤ m.globals) (hg1 : m.globals ≤ 200) :
    Calls Tryz.prog 42 #[.agg #[.slice cp cn cc, .int .i64 m.globals, .slice fp fn fc]] w fun e w' => SaysB (CdOk m) w w' e := by
  have HM : Hid (Mo w cp cn cc fp fn fc m) := hM
  have HFL : Hid (m.funcs.length = fn) := hM.fs.len
  have hfn := hF.hfn
  have HF : Hid (Fits cn fn m) := hF
  have HT : Hid (Tb w) := hT
  have HX0 : Hid (B3 (w.alloc (.cells #[.slice cp cn cc, .int .i64 m.globals, .slice fp fn fc] 33)) w.heap.size (.slice cp cn cc) (.int .i64 m.globals) (.slice fp fn fc)) := B3.new w _ _ _ _
  clear hM hF hT
  go_enter Tryz.func42, Tryz.ntmps42
  go_wp2
  go_loopw [10] (fun iv wr => SpK m w cp cn cc fp fn fc iv wr) (fun iv _ => fn - (intOf iv).toNat)
  case atStart => exact ⟨0, Nat.zero_le _, rfl, fun y hy => absurd hy (Nat.not_lt_zero y), HX0, below1 _ _⟩
  case round =>
    clear HX0
    obtain ⟨i2, hi2, rfl, hcd, hX, hB⟩ := hrel
    by_cases hlt3 : i2 < fn
    · obtain ⟨b, o, rfl, hbl3, gg⟩ := (HM.out.fs.below hB.out).cells (by omega)
      obtain ⟨rp, rl, rc, dp, dl, dc, he⟩ := gg i2 hlt3
      have e0 := he.c0
      have e1 := he.c1
      have e2 := he.c2
      have HRL : Hid ((m.funcs.getD i2 fn0).free.length = rl) := he.free.len
      have HDL : Hid ((m.funcs.getD i2 fn0).code.length = dl) := he.code.len
      have HCO : Hid (Ii wr dp dl dc (m.funcs.getD i2 fn0).code) := he.code
      have hrl : rl ≤ 1048576 := by have := (HF.out.fs i2 hlt3).1; rw [HRL.out] at this; omega
      have hdl : dl ≤ 1048576 := by have := (HF.out.fs i2 hlt3).2; rw [HDL.out] at this; omega
      clear gg he
      have HX1 : Hid (B3 (wr.alloc (.cells #[.int .i64 (m.funcs.getD i2 fn0).params, .slice rp rl rc, .slice dp dl dc] 48)) w.heap.size (.slice cp cn cc) (.int .i64 m.globals) (.slice (some ⟨b, o, none⟩) fn fc)) := hX.out.below (below1 _ _)
      have HF1 : Hid (B3 (wr.alloc (.cells #[.int .i64 (m.funcs.getD i2 fn0).params, .slice rp rl rc, .slice dp dl dc] 48)) wr.heap.size (.int .i64 (m.funcs.getD i2 fn0).params) (.slice rp rl rc) (.slice dp dl dc)) := B3.new _ _ _ _ _
      have HB1 : Hid (Below w.heap.size w (wr.alloc (.cells #[.int .i64 (m.funcs.getD i2 fn0).params, .slice rp rl rc, .slice dp dl dc] 48))) := hB.out.trans ((below1 _ _).mono hB.out.size)
      have HBW : Hid (Below wr.heap.size wr (wr.alloc (.cells #[.int .i64 (m.funcs.getD i2 fn0).params, .slice rp rl rc, .slice dp dl dc] 48))) := below1 _ _
      obtain ⟨f, hf⟩ : ∃ f, m.funcs.getD i2 fn0 = f := ⟨_, rfl⟩
      have HFF : Hid (m.funcs.getD i2 fn0 = f) := hf
      rw [hf] at e0 HRL HDL HCO HX1 HF1 HB1 HBW
      clear hf
      go_wp2
      go_loopw [17] (fun kv wr2 => ImI m w cp cn cc (some ⟨b, o, none⟩) fn fc f wr.heap.size rp rl rc dp dl dc kv wr2 ∧ Hid (Below wr.heap.size wr wr2)) (fun kv _ => dl - (intOf kv).toNat)
      case atStart => exact ⟨⟨0, Nat.zero_le _, rfl, fun y hy => absurd hy (Nat.not_lt_zero y), HX1, HF1, HB1⟩, HBW⟩
      case round =>
        clear HX1 HF1 HB1 HBW hX hB e0 e1 e2
        obtain ⟨⟨k, hk, rfl, hio, hX, hFB, hB⟩, hBW⟩ := hrel
        by_cases hlt4 : k < dl
        · obtain ⟨b4, o4, rfl, hbl4, gg⟩ := (HCO.out.below hBW.out).cells (by omega)
          obtain ⟨e0, e1, e2⟩ := gg k hlt4
          clear gg
          obtain ⟨x, hx⟩ : ∃ x, f.code.getD k in0 = x := ⟨_, rfl⟩
          have HXX : Hid (f.code.getD k in0 = x) := hx
          rw [hx] at e0 e1 e2
          clear hx
          have HX1 : Hid (B3 (wr.alloc (.cells #[.int .i64 x.op, .int .i64 x.a, .int .i64 x.b] 73)) w.heap.size (.slice cp cn cc) (.int .i64 m.globals) (.slice (some ⟨b, o, none⟩) fn fc)) := hX.out.below (below1 _ _)
          have HF1 := hFB.out.below (below1 wr (.cells #[.int .i64 x.op, .int .i64 x.a, .int .i64 x.b] 73))
          have HB1 : Hid (Below w.heap.size w (wr.alloc (.cells #[.int .i64 x.op, .int .i64 x.a, .int .i64 x.b] 73))) := hB.out.trans ((below1 _ _).mono hB.out.size)
          have HBW1 := hBW.out.trans ((below1 wr (.cells #[.int .i64 x.op, .int .i64 x.a, .int .i64 x.b] 73)).mono hBW.out.size)
          have x0 := HX1.out.c0
          have x1 := HX1.out.c1
          have x2 := HX1.out.c2
          have f0 := HF1.c0
          have f1 := HF1.c1
          have f2 := HF1.c2
          have HF1' := HF1
          have HIA : Hid (InsAt (wr.alloc (.cells #[.int .i64 x.op, .int .i64 x.a, .int .i64 x.b] 73)) cp cn cc m.globals (some ⟨b, o, none⟩) fn fc rl dl m f) := ⟨HM.out.below HB1.out, rfl, HRL.out, HDL.out⟩
          have HFB : Hid (∀ w9, Below (wr.alloc (.cells #[.int .i64 x.op, .int .i64 x.a, .int .i64 x.b] 73)).heap.size (wr.alloc (.cells #[.int .i64 x.op, .int .i64 x.a, .int .i64 x.b] 73)) w9 → B3 w9 w.heap.size (.slice cp cn cc) (.int .i64 m.globals) (.slice (some ⟨b, o, none⟩) fn fc) ∧ B3 w9 _ (.int .i64 f.params) (.slice rp rl rc) (.slice (some ⟨b4, o4, none⟩) dl dc) ∧ Below w.heap.size w w9 ∧ Below _ _ w9) := fun w9 h9 => ⟨HX1.out.below h9, HF1'.below h9, HB1.out.trans (h9.mono HB1.out.size), HBW1.trans (h9.mono HBW1.size)⟩
          clear HF1 HF1' HBW1
          go_wp2_with fail
          refine (validIns_c cp cn cc (some ⟨b, o, none⟩) fn fc f.params rp rl rc _ dl dc x m f _ HIA.out (HT.out.below HB1.out) HF.out hrl hdl hg0 hg1).mono ?_
          rintro e w3 ⟨r, rfl, hr, hb3⟩
          have HR3 : Hid (r = true ↔ InsOk m f x) := hr
          have H9 := HFB.out w3 hb3
          have HX3 : Hid _ := H9.1
          have HF3 : Hid _ := H9.2.1
          have HB3 : Hid _ := H9.2.2.1
          have HBW3 : Hid _ := H9.2.2.2
          clear hr hb3 H9 x0 x1 x2 f0 f1 f2
          cases r
          · go_wp2
            go_ret
            exact SaysB.no (fun h => by have := h i2 (by rw [HFL.out]; exact hlt3) k (by rw [HFF.out, HDL.out]; exact hlt4); rw [HFF.out, HXX.out] at this; have := HR3.out.2 this; cases this) HB3.out
          · go_wp2
            exact ⟨⟨⟨k + 1, by omega, by go_num, fun y hy => (by by_cases e : y < k; (exact hio.out y e); (rw [show y = k by omega, HXX.out]; exact HR3.out.1 trivial)), HX3, HF3, HB3⟩, HBW3⟩, by simp [intOf]; omega⟩
        · obtain rfl : k = dl := by omega
          go_wp2
          refine ⟨⟨i2 + 1, by omega, by go_num, fun y hy z hz => ?_, hX, hB⟩, by simp [intOf]; omega⟩
          by_cases e : y < i2
          · exact hcd.out y e z hz
          · obtain rfl : y = i2 := by omega
            rw [HFF.out] at hz ⊢
            rw [HDL.out] at hz
            exact hio.out z hz
    · obtain rfl : i2 = fn := by omega
      go_wp2
      go_ret
      exact SaysB.yes (fun y hy => hcd.out y (by rw [← HFL.out]; exact hy)) hB.out
set_option maxRecDepth 20000 in
set_option maxHeartbeats 8000000 in
theorem implValidModule_c (cp : Option Addr) (cn cc : Nat) (fp : Option Addr) (fn fc : Nat) (m : Md) (w : World) (hM : Mo w cp cn cc fp fn fc m) (hF : Fits cn fn m) (hT : Tb w) :
    Calls Tryz.prog 19 #[.agg #[.slice cp cn cc, .int .i64 m.globals, .slice fp fn fc]] w fun e w' => VmP m w w' e := by
  have HM : Hid (Mo w cp cn cc fp fn fc m) := hM
  have HFL : Hid (m.funcs.length = fn) := hM.fs.len
  have hfn := hF.hfn
  have HF : Hid (Fits cn fn m) := hF
  have HT : Hid (Tb w) := hT
  clear hM hF hT
  obtain ⟨g, hg⟩ : ∃ g, m.globals = g := ⟨_, rfl⟩
  have HG : Hid (m.globals = g) := hg
  rw [hg]
  clear hg
  by_cases a1 : fn = 0
  · subst a1
    go_enter Tryz.func19, Tryz.ntmps19
    go_wp2
    go_ret
    exact VmP.no (fun h => by have := h.f1; rw [HFL.out] at this; omega) (below1 _ _)
  have d1 : ((fn : Int) == 0) = false := by simp; omega
  by_cases a2 : 200 < fn
  · have d2 : decide ((200 : Int) < (fn : Int)) = true := decide_eq_true (by omega)
    go_enter Tryz.func19, Tryz.ntmps19
    go_wp2
    go_ret
    exact VmP.no (fun h => by have := h.f2; rw [HFL.out] at this; omega) (below1 _ _)
  have d2 : decide ((200 : Int) < (fn : Int)) = false := decide_eq_false (by omega)
  by_cases a4 : g < 0
  · have d4 : decide (g < 0) = true := decide_eq_true (by omega)
    go_enter Tryz.func19, Tryz.ntmps19
    go_wp2
    go_ret
    exact VmP.no (fun h => by have := h.g0; rw [HG.out] at this; omega) (below1 _ _)
  have d4 : decide (g < 0) = false := decide_eq_false (by omega)
  by_cases a5 : 200 < g
  · have d5 : decide (200 < g) = true := decide_eq_true (by omega)
    go_enter Tryz.func19, Tryz.ntmps19
    go_wp2
    go_ret
    exact VmP.no (fun h => by have := h.g1; rw [HG.out] at this; omega) (below1 _ _)
  have d5 : decide (200 < g) = false := decide_eq_false (by omega)
  obtain ⟨b, o, rfl, hbl, gg⟩ := HM.out.fs.cells (by omega)
  obtain ⟨rp, rl, rc, dp, dl, dc, he⟩ := gg 0 (by omega)
  have HE := he
  have q0 : ∀ o1, (w.alloc o1).cell? ⟨b, o, none⟩ = some (.int .i64 (m.funcs.getD 0 fn0).params) := fun o1 => by have := (HE.below hbl (below1 w o1)).c0; simpa using this
  have q1 : ∀ o1, (w.alloc o1).cell? ⟨b, o + 1, none⟩ = some (.slice rp rl rc) := fun o1 => by have := (HE.below hbl (below1 w o1)).c1; simpa using this
  have q2 : ∀ o1, (w.alloc o1).cell? ⟨b, o + 2, none⟩ = some (.slice dp dl dc) := fun o1 => by have := (HE.below hbl (below1 w o1)).c2; simpa using this
  have HRL : Hid ((m.funcs.getD 0 fn0).free.length = rl) := he.free.len
  have hrl : rl ≤ 1048576 := by have := (HF.out.fs 0 (by omega)).1; rw [HRL.out] at this; omega
  obtain ⟨pr, hpr⟩ : ∃ pr, (m.funcs.getD 0 fn0).params = pr := ⟨_, rfl⟩
  have HPR : Hid ((m.funcs.getD 0 fn0).params = pr) := hpr
  rw [hpr] at q0
  clear gg he hpr HE
  by_cases c1 : pr = 0
  · by_cases c2 : rl = 0
    · subst c1 c2
      go_enter Tryz.func19, Tryz.ntmps19
      go_wp2_with fail
      refine (validConsts_c cp cn cc m.consts _ (by exact HM.out.cs.below (below2 _ _ _)) HF.out.hcn HF.out.cs).mono ?_
      rintro e w1 ⟨r1, rfl, hr1, hb1⟩
      have HR1 : Hid (r1 = true ↔ CsOk m.consts) := hr1
      have HB1 : Hid (Below w.heap.size w w1) := (below2 _ _ _).trans (hb1.mono (by simp; omega))
      have HX1 : Hid (B3 w1 w.heap.size (.slice cp cn cc) (.int .i64 g) (.slice (some ⟨b, o, none⟩) fn fc)) := ((B3.new w _ _ _ _).below (below1 _ _)).below hb1
      have x2 := HX1.out.c2
      clear hr1 hb1 q0 q1 q2
      cases r1
      · go_wp2
        go_ret
        exact VmP.no (fun h => by have := HR1.out.2 h.cs; cases this) HB1.out
      · go_wp2_with fail
        refine (validSizes_c _ fn fc m.funcs _ (HM.out.fs.below HB1.out) HF.out.hfn HF.out.fs).mono ?_
        rintro e w2 ⟨r2, rfl, hr2, hb2⟩
        have HR2 : Hid (r2 = true ↔ SzOk m.funcs) := hr2
        have HB2 : Hid (Below w.heap.size w w2) := HB1.out.trans (hb2.mono HB1.out.size)
        have HX2 : Hid (B3 w2 w.heap.size (.slice cp cn cc) (.int .i64 g) (.slice (some ⟨b, o, none⟩) fn fc)) := HX1.out.below hb2
        have y0 := HX2.out.c0
        have y1 := HX2.out.c1
        have y2 := HX2.out.c2
        clear hr2 hb2 x2
        cases r2
        · go_wp2
          go_ret
          exact VmP.no (fun h => by have := HR2.out.2 h.sz; cases this) HB2.out
        · have HGG := HG.out
          go_wp2_with fail
          rw [← HGG]
          refine (validCode_c cp cn cc _ fn fc m _ (HM.out.below HB2.out) HF.out (HT.out.below HB2.out) (by omega) (by omega)).mono ?_
          rintro e w3 ⟨r3, rfl, hr3, hb3⟩
          have HR3 : Hid (r3 = true ↔ CdOk m) := hr3
          have HB3 : Hid (Below w.heap.size w w3) := HB2.out.trans (hb3.mono HB2.out.size)
          clear hr3 hb3
          cases r3
          · go_wp2
            go_ret
            exact VmP.no (fun h => by have := HR3.out.2 h.cd; cases this) HB3.out
          · go_wp2
            go_ret
            exact ⟨true, rfl, ⟨fun _ => ⟨by rw [HFL.out]; omega, by rw [HFL.out]; omega, by omega, by omega, HPR.out, HRL.out, HR1.out.1 trivial, HR2.out.1 trivial, HR3.out.1 trivial⟩, fun _ => rfl⟩, HB3.out⟩
    · have e1 : (pr != 0) = false := by simp [c1]
      have e2 : ((rl : Int) != 0) = true := by simp; omega
      go_enter Tryz.func19, Tryz.ntmps19
      go_wp2
      go_ret
      exact VmP.no (fun h => c2 (by have := h.fr; rw [HRL.out] at this; exact this)) (below2 _ _ _)
  · have e1 : (pr != 0) = true := by simpa using c1
    go_enter Tryz.func19, Tryz.ntmps19
    go_wp2
    go_ret
    exact VmP.no (fun h => c1 (by have := h.p0; rw [HPR.out] at this; exact this)) (below2 _ _ _)
end Go.Proofs.YtdjdhjciealfhaaGreatDoor
