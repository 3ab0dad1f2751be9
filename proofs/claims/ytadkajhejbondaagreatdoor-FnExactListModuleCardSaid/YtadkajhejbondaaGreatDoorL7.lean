import Derived.Test.YtadkajhejbondaaGreatDoorL6
namespace Go.Proofs.YtadkajhejbondaaGreatDoor
open Go.RowKit Ch1
/-- What both ListModules answer, for a program's own slice v. -/
def LmP (m : Md) (w w' : World) (e : Ending) : Prop := ((¬ GoodM m ∧ e = .returned (.slice none 0 0)) ∨ (GoodM m ∧ ∃ v, e = .returned v ∧ Ow w' w.heap.size v (modZ m))) ∧ Below w.heap.size w w'
theorem Ow.mono {w : World} {B B' : Nat} {v : Value} {xs : List Int} (h : Ow w B v xs) (hB : B' ≤ B) : Ow w B' v xs := by
  obtain ⟨h1, h2 | ⟨g, cap, cur, hv, hg, r⟩⟩ := h
  · exact ⟨h1, Or.inl h2⟩
  · exact ⟨h1, Or.inr ⟨g, cap, cur, hv, Nat.le_trans hB hg, r⟩⟩
/-- At the head of the loop over constants. -/
def IlC (m : Md) (w W : World) (cn : Nat) (hd : List Int) (ov iv : Value) (wr : World) : Prop := ∃ i : Nat, i ≤ cn ∧ iv = .int .i64 i ∧ Hid (Ow wr (w.heap.size + 1) ov (hd ++ csZ m.consts i)) ∧ Hid (Below (w.heap.size + 1) W wr)
/-- At the head of the loop over functions. -/
def IlF (m : Md) (w W : World) (fn : Nat) (hd : List Int) (ov iv : Value) (wr : World) : Prop := ∃ i : Nat, i ≤ fn ∧ iv = .int .i64 i ∧ Hid (Ow wr (w.heap.size + 1) ov (hd ++ fsZ m.funcs i)) ∧ Hid (Below (w.heap.size + 1) W wr)
/-- At the head of the loop over one function's code. -/
def IlI (w W : World) (dl : Nat) (hd : List Int) (f : Fn) (ov kv : Value) (wr : World) : Prop := ∃ k : Nat, k ≤ dl ∧ kv = .int .i64 k ∧ Hid (Ow wr (w.heap.size + 1) ov (hd ++ coZ f k)) ∧ Hid (Below (w.heap.size + 1) W wr)
set_option maxRecDepth 20000 in
set_option maxHeartbeats 16000000 in
theorem implListModule_c (cp : Option Addr) (cn cc : Nat) (fp : Option Addr) (fn fc : Nat) (m : Md) (w : World) (hM : Mo w cp cn cc fp fn fc m) (hF : Fits cn fn m) (hT : TbL w) (ht : Tab w) :
    Calls Tryz.prog 7 #[.agg #[.slice cp cn cc, .int .i64 m.globals, .slice fp fn fc]] w fun e w' => LmP m w w' e := by
  have HM : Hid (Mo w cp cn cc fp fn fc m) := hM
  have HFL : Hid (m.funcs.length = fn) := hM.fs.len
  have HCL : Hid (m.consts.length = cn) := hM.cs.len
  have hfn := hF.hfn
  have hcn := hF.hcn
  have HF : Hid (Fits cn fn m) := hF
  have HT : Hid (TbL w) := hT
  have HTB : Hid (Tab w) := ht
  obtain ⟨W, hW⟩ : ∃ W, W = w.alloc (.cells #[.slice cp cn cc, .int .i64 m.globals, .slice fp fn fc] 32) := ⟨_, rfl⟩
  have HX0 : Hid (B3 W w.heap.size (.slice cp cn cc) (.int .i64 m.globals) (.slice fp fn fc)) := by unfold Hid; rw [hW]; exact B3.new w _ _ _ _
  have HWB : Hid (Below w.heap.size w W) := by unfold Hid; rw [hW]; exact below1 _ _
  have hWs : W.heap.size = w.heap.size + 1 := by rw [hW]; simp
  have HUP : Hid (∀ wr, Below (w.heap.size + 1) W wr → Below w.heap.size w wr ∧ B3 wr w.heap.size (.slice cp cn cc) (.int .i64 m.globals) (.slice fp fn fc) ∧ w.heap.size + 1 ≤ wr.heap.size) := fun wr h => ⟨HWB.out.trans (h.mono (by omega)), HX0.out.below (by rw [hWs]; exact h), by rw [← hWs]; exact h.size⟩
  clear hM hF hT ht
  go_enter Tryz.func7, Tryz.ntmps7
  go_wp2_with fail
  rw [← hW]
  clear hW
  refine (implValidModule_c cp cn cc fp fn fc m _ (HM.out.below HWB.out) HF.out (HT.out.tb.below HWB.out)).mono ?_
  rintro e w1 ⟨r, rfl, hr, hb1⟩
  have HR : Hid (r = true ↔ GoodM m) := hr
  have HB1 : Hid (Below (w.heap.size + 1) W w1) := by unfold Hid; rw [← hWs]; exact hb1
  clear hr hb1
  cases r
  · go_wp2
    go_ret
    exact ⟨Or.inl ⟨fun h => (by have := HR.out.2 h; cases this), rfl⟩, (HUP.out _ HB1.out).1⟩
  have HG : Hid (GoodM m) := HR.out.1 rfl
  have hg0 := HG.out.g0
  have hg1 := HG.out.g1
  have u1 := (HUP.out _ HB1.out).2.1.c1
  have hs1 := HB1.out.size
  go_wp2_with (first | (go_at_call 24; refine (itoa_c m.globals (by omega) (by omega) w _ HTB.out (HUP.out _ HB1.out).1).mono ?_; rintro e w2 ⟨rfl, hb2⟩; have HB2 : Hid (Below (w.heap.size + 1) W w2) := HB1.out.trans (hb2.mono (by omega)); have hs2 := HB2.out.size; clear hb2) | (go_at_call 23; refine (putLine_c2 _ [] _ [globB, itoaB m.globals] (w.heap.size + 1) (w.heap.size + 1) _ (Ow.nil _ _) (OwS.new2 w2 _ (by omega) _ _) (by simp) (by simp; omega) (by simp) (by simp) ?jj).mono ?_; (case jj => exact Nat.le_trans (lineZ_join _) (by have := itoaB_size m.globals (by omega) (by omega); have e7 : globB.size = 7 := rfl; simp; omega)); rintro e w3 ⟨v3, rfl, ho3, hb3, _⟩; have HO3 : Hid (Ow w3 (w.heap.size + 1) v3 (lineZ [globB, itoaB m.globals])) := (by unfold Hid; simpa using ho3); have HB3 : Hid (Below (w.heap.size + 1) W w3) := HB2.out.trans (((below1 _ _).mono (by omega)).trans hb3); have x0 := (HUP.out _ HB3.out).2.1.c0; clear ho3 hb3))
  have HHD : Hid ((lineZ [globB, itoaB m.globals]).length ≤ 40) := by
    unfold Hid
    have h1 := lineZ_len [globB, itoaB m.globals]
    have := itoaB_size m.globals (by omega) (by omega)
    have e7 : globB.size = 7 := rfl
    simp at h1
    omega
  have HMZ : Hid (modZ m = (lineZ [globB, itoaB m.globals] ++ csZ m.consts m.consts.length) ++ fsZ m.funcs m.funcs.length) := rfl
  obtain ⟨hd, hhd⟩ : ∃ hd, lineZ [globB, itoaB m.globals] = hd := ⟨_, rfl⟩
  rw [hhd] at HO3 HHD HMZ
  clear hhd
  have HCB : Hid (∀ i, i ≤ cn → (hd ++ csZ m.consts i).length ≤ 1000000) := by
    intro i hi
    have h1 := csZ_len HG.out.cs.one i (by rw [HCL.out]; exact hi) (by have := HG.out.cs.few; rw [HCL.out] at this; omega)
    have h2 := cSum_le m.consts i (by rw [HCL.out]; exact hi)
    have h3 := HG.out.cs.sum
    have h4 := HG.out.cs.few
    have h5 := HHD.out
    rw [HCL.out] at h4
    rw [List.length_append]
    omega
  have hfew : cn ≤ 500 := by have := HG.out.cs.few; rw [HCL.out] at this; exact this
  clear HR u1 HB1 HB2
  go_wp2
  go_loopw [3, 23] (fun ov iv wr => IlC m w W cn hd ov iv wr) (fun _ iv _ => cn - (intOf iv).toNat)
  case atStart => exact ⟨0, Nat.zero_le _, rfl, by unfold Hid; simpa [csZ] using HO3.out, HB3⟩
  case round =>
    clear HO3 HB3 x0
    obtain ⟨i, hi, rfl, hO, hB⟩ := hrel
    obtain ⟨hBw, hXr, hsr⟩ := HUP.out _ hB.out
    have HBW : Hid (Below w.heap.size w wr) := hBw
    have HXR : Hid (B3 wr w.heap.size (.slice cp cn cc) (.int .i64 m.globals) (.slice fp fn fc)) := hXr
    clear hBw hXr
    by_cases hlt : i < cn
    · obtain ⟨b, o, rfl, hbl, gg⟩ := (HM.out.cs.below HBW.out).cells (by omega)
      obtain ⟨q, k, d, e0, he⟩ := gg i hlt
      have HDA : Hid (Da wr q k d (m.consts.getD i [])) := he
      have HKL : Hid ((m.consts.getD i []).length = k) := he.len
      have hk3 : k ≤ 3000 := by
        have h1 := cSum_succ m.consts i (by rw [HCL.out]; exact hlt)
        have h2 := cSum_le m.consts (i + 1) (by rw [HCL.out]; omega)
        have h3 := HG.out.cs.sum
        rw [HKL.out] at h1; omega
      have HON : Hid (oneB (m.consts.getD i []) = true) := HG.out.cs.one i (by rw [HCL.out]; exact hlt)
      have HNX : Hid (csZ m.consts (i + 1) = csZ m.consts i ++ lineZ (cdWs (i : Int) (m.consts.getD i []))) := csZ_succ _ _
      have hacc := HCB.out i hi
      have HJ : Hid ((Lib.join ((cdWs (i : Int) (m.consts.getD i [])).map (·.data.toList)) [32]).length ≤ 100000000) := Nat.le_trans (lineZ_join _) (by have := cdWs_sum i (m.consts.getD i []) (by omega) HON.out; rw [HKL.out] at this; omega)
      have HRG : Hid (Rg (txt 100 (m.consts.getD i []))) := txt_rg _ _ he.rg
      have htl : (strOfNums (txt 100 (m.consts.getD i []))).size ≤ 1000000 := by
        rw [strOfNums_size]
        have := one_len HON.out
        rw [HKL.out] at this; omega
      clear gg he
      generalize m.consts.getD i [] = ds at HDA HKL HON HNX HJ HRG htl
      go_wp2_with fail
      refine (wd19 100 (.slice none 0 0) q k d ds [] [] wr wr HDA.out (Below.refl _ _) (Ow.nil _ _) (HTB.out.below HBW.out) ((oneB_iff ds).1 HON.out) (by simp; omega)).mono ?_
      rintro e w2 ⟨v2, p2, n2, c2, rfl, ho2, hd2, hb2⟩
      rw [List.nil_append] at ho2
      have HO2 : Hid (Ow w2 wr.heap.size v2 (txt 100 ds)) := ho2
      have HB2 : Hid (Below (w.heap.size + 1) W w2) := hB.out.trans (hb2.mono hsr)
      have HA2 : Hid (Ow w2 (w.heap.size + 1) _ (hd ++ csZ m.consts i)) := hO.out.below hb2
      have hs2 : w.heap.size + 1 ≤ w2.heap.size := by have := HB2.out.size; omega
      have HCV : Hid (∀ w9, Below w2.heap.size w2 w9 → (convert 27 9 v2).run Tryz.prog w9 = .ok (.string (strOfNums (txt 100 ds))) w9) := fun w9 h9 => conv_own ho2 HRG.out h9
      have cv2 := HCV.out w2.drew (below_drewM (Below.refl _ _))
      clear ho2 hd2 hb2 e0
      go_wp2
      go_region_with (first | (go_at_call 24; refine (itoa_c (i : Int) (by omega) (by omega) w _ HTB.out ?y1).mono ?_; (case y1 => exact below_drewM (HUP.out _ HB2.out).1); rintro e w3 ⟨rfl, hb3⟩; have HB23 : Hid (Below w2.heap.size w2 w3) := (below_drewM (Below.refl _ _)).trans hb3; have cv3 := HCV.out w3 HB23.out; have hs3 : w.heap.size + 1 ≤ w3.heap.size := Nat.le_trans hs2 HB23.out.size; have HA3 : Hid (Ow w3 (w.heap.size + 1) _ (hd ++ csZ m.consts i)) := HA2.out.below HB23.out; clear hb3) | (go_at_call 23; refine (putLine_c2 _ (hd ++ csZ m.consts i) _ (cdWs (i : Int) ds) (w.heap.size + 1) (w.heap.size + 1) _ (by exact HA3.out.below (below1 _ _)) (by exact OwS.new3 w3 _ hs3 _ _ _) (by simp [cdWs]) (by simp; omega) (by omega) (by simp [cdWs]) HJ.out).mono ?_; rintro e w4 ⟨v4, rfl, ho4, hb4, _⟩; have HO4 : Hid (Ow w4 (w.heap.size + 1) v4 (hd ++ csZ m.consts (i + 1))) := (by unfold Hid; rw [HNX.out, ← List.append_assoc]; exact ho4); have HB4 : Hid (Below (w.heap.size + 1) W w4) := HB2.out.trans ((HB23.out.mono hs2).trans (((below1 _ _).mono hs3).trans hb4)); clear ho4 hb4))
      all_goals go_wp2
      all_goals exact ⟨⟨i + 1, by omega, by go_num, HO4, HB4⟩, by simp [intOf]; omega⟩
    · obtain rfl : i = cn := by omega
      have x2 := HXR.out.c2
      have hh2 := HCB.out i (Nat.le_refl _)
      have HMZ2 : Hid (modZ m = (hd ++ csZ m.consts i) ++ fsZ m.funcs fn) := by unfold Hid; rw [HMZ.out, HCL.out, HFL.out]
      clear HCB HHD HMZ
      generalize hd ++ csZ m.consts i = hd2 at hO hh2 HMZ2
      have hf200 : fn ≤ 200 := by have := HG.out.f2; rw [HFL.out] at this; exact this
      go_wp2
      go_loopw [3, 44] (fun ov iv wr => IlF m w W fn hd2 ov iv wr) (fun _ iv _ => fn - (intOf iv).toNat)
      case atStart => exact ⟨0, Nat.zero_le _, rfl, by unfold Hid; simpa [fsZ] using hO.out, hB⟩
      case round =>
        clear hO hB HBW HXR x2 hsr
        obtain ⟨i2, hi2, rfl, hO, hB⟩ := hrel
        obtain ⟨hBw, hXr, hsr⟩ := HUP.out _ hB.out
        have HBW : Hid (Below w.heap.size w wr) := hBw
        clear hBw hXr
        by_cases hlt3 : i2 < fn
        · obtain ⟨b, o, rfl, hbl, gg⟩ := HM.out.fs.cells (by omega)
          obtain ⟨rp, rl, rc, dp, dl, dc, hew⟩ := gg i2 hlt3
          have he := hew.below hbl HBW.out
          have hbl3 := Nat.lt_of_lt_of_le hbl HBW.out.size
          have HCW : Hid (Ii w dp dl dc (m.funcs.getD i2 fn0).code) := hew.code
          have e0 := he.c0
          have e1 := he.c1
          have e2 := he.c2
          have hin : i2 < m.funcs.length := by rw [HFL.out]; exact hlt3
          have HRL : Hid ((m.funcs.getD i2 fn0).free.length = rl) := he.free.len
          have HDL : Hid ((m.funcs.getD i2 fn0).code.length = dl) := he.code.len
          have HFR : Hid (Bo wr rp rl rc (m.funcs.getD i2 fn0).free) := he.free
          have HCO : Hid (Ii wr dp dl dc (m.funcs.getD i2 fn0).code) := he.code
          have hrl : rl ≤ 50 := by have := (fnFacts HG.out hin).1; rw [HRL.out] at this; exact this
          have hdl : dl ≤ 5000 := by have := (fnFacts HG.out hin).2; rw [HDL.out] at this; exact this
          have hp0 := (HG.out.sz.fn i2 hin).p0
          have hp1 := (HG.out.sz.fn i2 hin).p1
          have HCD : Hid (∀ k, k < (m.funcs.getD i2 fn0).code.length → InsOk m (m.funcs.getD i2 fn0) ((m.funcs.getD i2 fn0).code.getD k in0)) := HG.out.cd i2 hin
          have HNX : Hid (fsZ m.funcs (i2 + 1) = fsZ m.funcs i2 ++ (lineZ (fnWs (i2 : Int) (m.funcs.getD i2 fn0)) ++ coZ (m.funcs.getD i2 fn0) (m.funcs.getD i2 fn0).code.length)) := fsZ_succ _ _
          have hacc : (hd2 ++ fsZ m.funcs i2).length ≤ 100000000 := by
            have := fsZ_len HG.out i2 (by rw [HFL.out]; exact hi2)
            rw [List.length_append]; omega
          clear gg he hew hbl
          obtain ⟨f, hf⟩ : ∃ f, m.funcs.getD i2 fn0 = f := ⟨_, rfl⟩
          rw [hf] at e0 HRL HDL HFR HCO HCW hp0 hp1 HCD HNX
          clear hf
          have HFS := fnWs_sum (n := (i2 : Int)) (f := f) (by omega) (by omega) hp0 hp1 (by rw [HRL.out]; exact hrl)
          have HJF : Hid ((Lib.join ((fnWs (i2 : Int) f).map (·.data.toList)) [32]).length ≤ 100000000) := Nat.le_trans (lineZ_join _) (by omega)
          have HLF : Hid ((lineZ (fnWs (i2 : Int) f)).length ≤ 301) := Nat.le_trans (lineZ_len _) (by omega)
          have HNF : Hid (0 < (fnWs (i2 : Int) f).length ∧ (fnWs (i2 : Int) f).length ≤ 1000000) := by unfold Hid fnWs; have := HRL.out; simp; omega
          clear HFS
          obtain ⟨W2, hW2⟩ : ∃ W2, W2 = wr.alloc (.cells #[.int .i64 f.params, .slice rp rl rc, .slice dp dl dc] 48) := ⟨_, rfl⟩
          have HF2 : Hid (B3 W2 wr.heap.size (.int .i64 f.params) (.slice rp rl rc) (.slice dp dl dc)) := by unfold Hid; rw [hW2]; exact B3.new _ _ _ _ _
          have HR2 : Hid (Below wr.heap.size wr W2) := by unfold Hid; rw [hW2]; exact below1 _ _
          have hs2 : W2.heap.size = wr.heap.size + 1 := by rw [hW2]; simp
          have HB2 : Hid (Below (w.heap.size + 1) W W2) := hB.out.trans (HR2.out.mono hsr)
          go_wp2_with fail
          rw [← hW2]
          clear hW2
          refine (funcWords_c (i2 : Int) (by omega) (by omega) f rp rl rc dp dl dc w _ HTB.out (HUP.out _ HB2.out).1 (HFR.out.below HR2.out) hp0 hp1 (by omega)).mono ?_
          rintro e w3 ⟨v3, rfl, ho3, hb3⟩
          have HS3 : Hid (OwS w3 W2.heap.size v3 (fnWs (i2 : Int) f)) := ho3
          have HB3 : Hid (Below (w.heap.size + 1) W w3) := HB2.out.trans (hb3.mono (by omega))
          have HR3 : Hid (Below wr.heap.size wr w3) := HR2.out.trans (hb3.mono (by omega))
          have HF3 : Hid (B3 w3 wr.heap.size (.int .i64 f.params) (.slice rp rl rc) (.slice dp dl dc)) := HF2.out.below hb3
          have HO3 : Hid (Ow w3 (w.heap.size + 1) _ (hd2 ++ fsZ m.funcs i2)) := hO.out.below HR3.out
          have hs3 : wr.heap.size + 1 ≤ w3.heap.size := by rw [← hs2]; exact hb3.size
          have HOL := own_lt hO.out
          have HOL : Hid (some wr.heap.size ≠ _) := fun e => absurd (HOL _ e.symm) (Nat.lt_irrefl _)
          clear ho3 hb3
          go_wp2_with fail
          refine (putLine_c2 _ (hd2 ++ fsZ m.funcs i2) _ (fnWs (i2 : Int) f) (w.heap.size + 1) W2.heap.size _ HO3.out HS3.out HNF.out.1 (by omega) (by omega) HNF.out.2 HJF.out).mono ?_
          rintro e w4 ⟨v4, rfl, ho4, hb4, hbut⟩
          have HO4 : Hid (Ow w4 (w.heap.size + 1) v4 ((hd2 ++ fsZ m.funcs i2) ++ lineZ (fnWs (i2 : Int) f))) := ho4
          have HB4 : Hid (Below (w.heap.size + 1) W w4) := HB3.out.trans hb4
          have f2 : w4.cell? ⟨wr.heap.size, 2, none⟩ = some (.slice dp dl dc) := by
            rw [World.cell?_of_block (w := w3) (a := ⟨wr.heap.size, 2, none⟩) (hbut wr.heap.size (by omega) HOL.out)]
            exact HF3.out.c2
          have hlt4 : wr.heap.size < w4.heap.size := by have := hb4.size; omega
          have HCO2 : Hid (∀ w9, Below (w.heap.size + 1) W w9 → Ii w9 dp dl dc f.code) := fun w9 h9 => HCW.out.below (HUP.out w9 h9).1
          have hacc2 : ((hd2 ++ fsZ m.funcs i2) ++ lineZ (fnWs (i2 : Int) f)).length ≤ 200000000 := by have := HLF.out; rw [List.length_append]; omega
          have HNX2 : Hid (hd2 ++ fsZ m.funcs (i2 + 1) = ((hd2 ++ fsZ m.funcs i2) ++ lineZ (fnWs (i2 : Int) f)) ++ coZ f dl) := by unfold Hid; rw [HNX.out, HDL.out]; simp
          clear ho4 hb4 hbut HF3 HF2 HR2 HR3 HO3 HS3 HB3 HB2 HOL HNX HJF HLF HNF e0 e1 e2 hs2 hs3
          generalize (hd2 ++ fsZ m.funcs i2) ++ lineZ (fnWs (i2 : Int) f) = hd3 at HO4 hacc2 HNX2
          go_wp2
          go_loopw [3, 57] (fun ov kv wr2 => IlI w W dl hd3 f ov kv wr2) (fun _ kv _ => dl - (intOf kv).toNat)
          case atStart => exact ⟨0, Nat.zero_le _, rfl, by unfold Hid; simpa [coZ] using HO4.out, HB4⟩
          case round =>
            clear hO hB HO4 HB4 HBW f2 hlt4 hsr HCO HFR
            obtain ⟨k, hk, rfl, hO, hB⟩ := hrel
            obtain ⟨hBw, hXr, hsr⟩ := HUP.out _ hB.out
            have HBW : Hid (Below w.heap.size w wr) := hBw
            clear hBw hXr
            by_cases hltk : k < dl
            · obtain ⟨b4, o4, rfl, hbl4, gg⟩ := (HCO2.out _ hB.out).cells (by omega)
              obtain ⟨e0, e1, e2⟩ := gg k hltk
              clear gg
              obtain ⟨j, hj, hj18, a0, a1, b0, b1, h14⟩ := ins_facts (HCD.out k (by rw [HDL.out]; exact hltk)) HG.out.cs.few (by rw [HRL.out]; exact hrl) (by rw [HDL.out]; exact hdl) HG.out.g1 HG.out.f2 (fun i hi => (fnFacts HG.out hi).1)
              have HNK : Hid (coZ f (k + 1) = coZ f k ++ lineZ (inWs (k : Int) j (f.code.getD k in0).a (f.code.getD k in0).b)) := by unfold Hid; rw [coZ_succ]; unfold inZ; rw [hj, Int.toNat_natCast]
              have hck : (coZ f k).length ≤ 91 * k := coZ_len HCD.out HG.out.cs.few (by rw [HRL.out]; exact hrl) (by rw [HDL.out]; exact hdl) HG.out.g1 HG.out.f2 (fun i hi => (fnFacts HG.out hi).1) k (by rw [HDL.out]; exact hk)
              have hacc3 : (hd3 ++ coZ f k).length ≤ 500000000 := by rw [List.length_append]; omega
              rw [hj] at e0
              clear hj
              generalize (f.code.getD k in0).a = xa at e1 a0 a1 h14 HNK
              generalize (f.code.getD k in0).b = xb at e2 b0 b1 HNK
              have HIS := inWs_sum (at_ := (k : Int)) (j := j) (by omega) (by omega) hj18 a0 a1 b0 b1 h14
              have HJI : Hid ((Lib.join ((inWs (k : Int) j xa xb).map (·.data.toList)) [32]).length ≤ 100000000) := Nat.le_trans (lineZ_join _) (by omega)
              have HNI : Hid (0 < (inWs (k : Int) j xa xb).length ∧ (inWs (k : Int) j xa xb).length ≤ 1000000) := by unfold Hid inWs; split <;> split <;> simp <;> split <;> simp
              clear HIS
              obtain ⟨W3, hW3⟩ : ∃ W3, W3 = wr.alloc (.cells #[.int .i64 j, .int .i64 xa, .int .i64 xb] 50) := ⟨_, rfl⟩
              have HR3 : Hid (Below wr.heap.size wr W3) := by unfold Hid; rw [hW3]; exact below1 _ _
              have HB3 : Hid (Below (w.heap.size + 1) W W3) := hB.out.trans (HR3.out.mono hsr)
              have hs3 := HR3.out.size
              go_wp2_with fail
              rw [← hW3]
              clear hW3
              refine (insWords_c (k : Int) (by omega) (by omega) j xa xb hj18 a0 a1 b0 b1 h14 w _ HTB.out HT.out (HUP.out _ HB3.out).1).mono ?_
              rintro e w5 ⟨v5, rfl, ho5, hb5⟩
              have HS5 : Hid (OwS w5 W3.heap.size v5 (inWs (k : Int) j xa xb)) := ho5
              have HB5 : Hid (Below (w.heap.size + 1) W w5) := HB3.out.trans (hb5.mono (by omega))
              have HO5 : Hid (Ow w5 (w.heap.size + 1) _ (hd3 ++ coZ f k)) := (hO.out.below HR3.out).below hb5
              have hs5 := hb5.size
              clear ho5 hb5
              go_wp2_with fail
              refine (putLine_c2 _ (hd3 ++ coZ f k) _ (inWs (k : Int) j xa xb) (w.heap.size + 1) W3.heap.size _ HO5.out HS5.out HNI.out.1 (by omega) hacc3 HNI.out.2 HJI.out).mono ?_
              rintro e w6 ⟨v6, rfl, ho6, hb6, _⟩
              have HO6 : Hid (Ow w6 (w.heap.size + 1) v6 (hd3 ++ coZ f (k + 1))) := by unfold Hid; rw [HNK.out, ← List.append_assoc]; exact ho6
              have HB6 : Hid (Below (w.heap.size + 1) W w6) := HB5.out.trans hb6
              clear ho6 hb6
              go_wp2
              exact ⟨⟨k + 1, by omega, by go_num, HO6, HB6⟩, by simp [intOf]; omega⟩
            · obtain rfl : k = dl := by omega
              go_wp2
              exact ⟨⟨i2 + 1, by omega, by go_num, by unfold Hid; rw [HNX2.out]; exact hO.out, hB⟩, by simp [intOf]; omega⟩
        · obtain rfl : i2 = fn := by omega
          go_wp2
          go_ret
          exact ⟨Or.inr ⟨HG.out, _, rfl, by rw [HMZ2.out]; exact hO.out.mono (by omega)⟩, HBW.out⟩
end Go.Proofs.YtadkajhejbondaaGreatDoor
