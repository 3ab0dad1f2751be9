import Derived.Test.YtbcanodijcglpaaDoorE4
import Derived.Test.YtbcanodijcglpaaDoorQ1
import Derived.Lib.SlBytesConst
namespace Go.Proofs.YtbcanodijcglpaaDoor
open Go.RowKit Ch1
theorem flat_len {f : Nat → List Int} {n c : Nat} (h : ∀ i, i < n → (f i).length ≤ c) : ∀ k, k ≤ n → ((List.range k).flatMap f).length ≤ c * k
  | 0, _ => by simp
  | k + 1, hk => by
    have h1 := flat_len h k (by omega)
    have h2 := h k (by omega)
    rw [flat_succ, List.length_append, Nat.mul_succ]
    omega
theorem cst_good {m : Md} (h : GoodM m) {i : Nat} (hi : i < m.consts.length) : (m.consts.getD i []).length ≤ 3000 ∧ ∀ j, j < (m.consts.getD i []).length → goodB ((m.consts.getD i []).getD j dt0) = true := by
  refine ⟨?_, one_good ((oneB_iff _).1 (h.cs.one i hi))⟩
  have h1 := cSum_succ m.consts i hi
  have h2 := cSum_le m.consts (i + 1) (by omega)
  have h3 := h.cs.sum
  omega
theorem ccZ_len {m : Md} (h : GoodM m) (k : Nat) (hk : k ≤ m.consts.length) : (ccZ m.consts k).length ≤ 327002 * k := by
  refine flat_len (n := m.consts.length) (fun i hi => ?_) k hk
  have hg := cst_good h hi
  have := dsZ_len hg.2 _ (Nat.le_refl _)
  unfold cstZ
  rw [List.length_append, leZ_len]
  omega
theorem fcZ_len {f : Fn} (h1 : f.free.length ≤ 50) (h2 : f.code.length ≤ 5000) : (fcZ f).length ≤ 20054 := by
  unfold fcZ
  simp only [List.length_append, leZ_len, frZ_len, cdZ_len, List.length_cons, List.length_nil]
  omega
theorem ffZ_len {m : Md} (h : GoodM m) (k : Nat) (hk : k ≤ m.funcs.length) : (ffZ m.funcs k).length ≤ 20054 * k :=
  flat_len (n := m.funcs.length) (fun _ hi => fcZ_len (fnFacts h hi).1 (fnFacts h hi).2) k hk
/-- What both answer. -/
def EmP (m : Md) (w w' : World) (e : Ending) : Prop := ((¬ GoodM m ∧ e = .returned (.slice none 0 0)) ∨ (GoodM m ∧ ∃ v, e = .returned v ∧ Ow w' w.heap.size v (imZ m))) ∧ Below w.heap.size w w'
/-- At the heads of the loops. -/
def EnC (b B n : Nat) (ls : List (List Dt)) (xs : List Int) (w : World) (iv : Value) (wr : World) : Prop := ∃ k : Nat, k ≤ n ∧ iv = .int .i64 k ∧ Hid (PutP b B (xs ++ ccZ ls k) w wr)
def EnF (b B n : Nat) (fs : List Fn) (xs : List Int) (w : World) (iv : Value) (wr : World) : Prop := ∃ k : Nat, k ≤ n ∧ iv = .int .i64 k ∧ Hid (PutP b B (xs ++ ffZ fs k) w wr)
theorem By.sla (w : World) : By (w.alloc (.cells #[.int .u8 83, .int .u8 76, .int .u8 65, .int .u8 49] 5 (4, 5))) (some ⟨w.heap.size, 0, none⟩) 4 4 [83, 76, 65, 49] := by
  refine ⟨rfl, Nat.le_refl _, by unfold maxLen; omega, rng_of ?_, fun _ => ⟨w.heap.size, 0, rfl, fun i hi => ?_⟩, fun a ha _ => by cases ha; simp⟩
  · intro z hz; simp at hz; omega
  · rcases (show i = 0 ∨ i = 1 ∨ i = 2 ∨ i = 3 from by omega) with rfl | rfl | rfl | rfl <;> (rw [World.cell?_alloc_mark]; rfl)
theorem Wt.start (w : World) (B : Nat) (hB : B ≤ w.heap.size) : Wt ((w.alloc (.cells #[.int .u8 83, .int .u8 76, .int .u8 65, .int .u8 49] 5 (4, 5))).alloc (.cells #[.slice (some ⟨w.heap.size, 0, none⟩) 4 4] 45)) (w.heap.size + 1) B (.slice (some ⟨w.heap.size, 0, none⟩) 4 4) [83, 76, 65, 49] := by
  refine ⟨?_, by omega, Or.inr ⟨w.heap.size, 4, _, _, hB, ⟨by omega, by omega⟩, rfl, ((below1 _ _).block _ (by simp)).trans (Go.Deep.blk_alloc_new _ _), (By.sla w).below (below1 _ _)⟩⟩
  · have := Go.Deep.blk_alloc_new (w.alloc (.cells #[.int .u8 83, .int .u8 76, .int .u8 65, .int .u8 49] 5 (4, 5))) (.cells #[.slice (some ⟨w.heap.size, 0, none⟩) 4 4] 45)
    simpa using this
theorem Rg.flat {f : Nat → List Int} (h : ∀ i, Rg (f i)) (k : Nat) : Rg ((List.range k).flatMap f) := fun x hx => by
  obtain ⟨i, _, hi⟩ := List.mem_flatMap.1 hx; exact h i x hi
theorem Rg.one (x : Int) : Rg [x % 256] := fun y hy => by simp at hy; omega
theorem fcZ_rg (f : Fn) : Rg (fcZ f) := by
  unfold fcZ
  refine ((Rg.app (fun x hx => ?_) (fun x hx => ?_)).app (leZ_rg _ _)).app (Rg.flat (fun i => ?_) _)
  · simp at hx; omega
  · unfold frZ at hx
    obtain ⟨i, _, rfl⟩ := List.mem_map.1 hx
    unfold boxZ; split <;> omega
  · unfold isZ
    exact Rg.app (fun x hx => by rcases List.mem_cons.1 hx with e | e; omega; exact leZ_rg _ _ x e) (Rg.one _)
theorem datZ_rg {d : Dt} (h : Rg d.text) : Rg (datZ d) := by
  intro x hx
  unfold datZ at hx
  rcases List.mem_cons.1 hx with e | e
  · omega
  · split at e
    · exact leZ_rg _ _ x e
    · split at e
      · simp at e; omega
      · split at e
        · rcases List.mem_cons.1 e with e2 | e2
          · omega
          · exact h x e2
        · exact leZ_rg _ _ x e
set_option maxRecDepth 20000 in
set_option maxHeartbeats 8000000 in
theorem implEncode_c (cp : Option Addr) (cn cc : Nat) (fp : Option Addr) (fn fc : Nat) (m : Md) (w : World) (hM : Mo w cp cn cc fp fn fc m) (hF : Fits cn fn m) (hT : Tb w) (hR : Rg (bdZ m)) :
    Calls Tryd.prog 7 #[.agg #[.slice cp cn cc, .int .i64 m.globals, .slice fp fn fc]] w fun e w' => EmP m w w' e := by
  have HM : Hid (Mo w cp cn cc fp fn fc m) := hM
  have HFL : Hid (m.funcs.length = fn) := hM.fs.len
  have HCL : Hid (m.consts.length = cn) := hM.cs.len
  have HF : Hid (Fits cn fn m) := hF
  have HRB : Hid (Rg (bdZ m)) := hR
  obtain ⟨W, hW⟩ : ∃ W, W = w.alloc (.cells #[.slice cp cn cc, .int .i64 m.globals, .slice fp fn fc] 32) := ⟨_, rfl⟩
  have HX0 : Hid (B3 W w.heap.size (.slice cp cn cc) (.int .i64 m.globals) (.slice fp fn fc)) := by unfold Hid; rw [hW]; exact B3.new w _ _ _ _
  have HWB : Hid (Below w.heap.size w W) := by unfold Hid; rw [hW]; exact below1 _ _
  have hWs : W.heap.size = w.heap.size + 1 := by rw [hW]; simp
  have HT : Hid (Tb W) := hT.below HWB.out
  have HMW : Hid (Mo W cp cn cc fp fn fc m) := HM.out.below HWB.out
  have x0 := HX0.out.c0
  have x1 := HX0.out.c1
  have x2 := HX0.out.c2
  have kc := fun (w : World) (C : Array Value) (n c : Nat) => Lib.run_convert_bytes_const (P := Tryd.prog) w 27 5 C n c Tryd.underlying27 Tryd.underlying5
  clear hM hF hT hR
  go_enter Tryd.func7, Tryd.ntmps7
  go_wp2_with fail
  rw [← hW]
  refine (implValidModule_c cp cn cc fp fn fc m _ HMW.out HF.out HT.out).mono ?_
  rintro e w1 ⟨r, rfl, hr, hb1⟩
  have HR : Hid (r = true ↔ GoodM m) := hr
  have HB1 : Hid (Below W.heap.size W w1) := hb1
  clear hr hb1 hW x0 x1 x2
  cases r
  · go_wp2
    go_ret
    exact ⟨Or.inl ⟨fun h => (by have := HR.out.2 h; cases this), rfl⟩, HWB.out.trans (HB1.out.mono (by omega))⟩
  have HG : Hid (GoodM m) := HR.out.1 rfl
  have hs1 := HB1.out.size
  obtain ⟨B, hBB⟩ : ∃ B, B = W.heap.size := ⟨_, rfl⟩
  obtain ⟨b, hb⟩ : ∃ b, b = w1.heap.size + 1 := ⟨_, rfl⟩
  obtain ⟨WA, hWA⟩ : ∃ WA, WA = (w1.alloc (.cells #[.int .u8 83, .int .u8 76, .int .u8 65, .int .u8 49] 5 (4, 5))).alloc (.cells #[.slice (some ⟨w1.heap.size, 0, none⟩) 4 4] 45) := ⟨_, rfl⟩
  have HWT : Hid (Wt WA b B (.slice (some ⟨w1.heap.size, 0, none⟩) 4 4) [83, 76, 65, 49]) := by unfold Hid; rw [hWA, hb]; exact Wt.start w1 B (by omega)
  have HBA : Hid (Below B W WA) := by
    unfold Hid
    rw [hWA, hBB]
    exact (HB1.out.trans ((below1 _ _).mono hs1)).trans ((below1 _ _).mono (by simp; omega))
  have hWAs : WA.heap.size = w1.heap.size + 1 + 1 := by rw [hWA]; simp
  have HUP : Hid (∀ w9, Sv b B WA w9 → Below B W w9 ∧ B3 w9 w.heap.size (.slice cp cn cc) (.int .i64 m.globals) (.slice fp fn fc) ∧ B ≤ w9.heap.size) := fun w9 h9 => by
    have h1 := HBA.out.trans h9.below
    exact ⟨h1, HX0.out.below (by rw [← hBB]; exact h1), by have := h1.size; omega⟩
  have y1 : ((w1.alloc (.cells #[.int .u8 83, .int .u8 76, .int .u8 65, .int .u8 49] 5 (4, 5))).alloc (.cells #[.slice (some ⟨w1.heap.size, 0, none⟩) 4 4] 45)).cell? ⟨w.heap.size, 1, none⟩ = some (.int .i64 m.globals) := by rw [← hWA]; exact (HUP.out _ (Sv.refl _ _ _)).2.1.c1
  have y0 : ((w1.alloc (.cells #[.int .u8 83, .int .u8 76, .int .u8 65, .int .u8 49] 5 (4, 5))).alloc (.cells #[.slice (some ⟨w1.heap.size, 0, none⟩) 4 4] 45)).cell? ⟨w.heap.size, 0, none⟩ = some (.slice cp cn cc) := by rw [← hWA]; exact (HUP.out _ (Sv.refl _ _ _)).2.1.c0
  go_wp2_with fail
  rw [← hWA, ← hb]
  refine (put2_c b B 2 _ m.globals (cn : Int) [83, 76, 65, 49] (.slice (some ⟨w1.heap.size, 0, none⟩) 4 4) WA (by omega) HWT.out (by omega) (by omega) (by simp)).mono ?_
  rintro e w2 ⟨rfl, hp2⟩
  have HP2 : Hid (PutP b B ([83, 76, 65, 49] ++ (leZ 2 m.globals ++ leZ 2 (cn : Int))) WA w2) := hp2
  have c0 := (HUP.out _ hp2.choose_spec.2).2.1.c0
  have hcn5 : cn ≤ 500 := by have := HG.out.cs.few; rw [HCL.out] at this; exact this
  have hfn2 : fn ≤ 200 := by have := HG.out.f2; rw [HFL.out] at this; exact this
  have HE : Hid (bdZ m = ((([83, 76, 65, 49] ++ (leZ 2 m.globals ++ leZ 2 (cn : Int))) ++ ccZ m.consts cn) ++ leZ 2 (fn : Int)) ++ ffZ m.funcs fn) := by unfold Hid bdZ; rw [HCL.out, HFL.out, List.append_assoc [83, 76, 65, 49]]
  have hl2 : ([83, 76, 65, 49] ++ (leZ 2 m.globals ++ leZ 2 (cn : Int))).length = 8 := by simp [leZ_len]
  clear hp2 hWA y0 y1 HWT hb kc
  generalize ([83, 76, 65, 49] ++ (leZ 2 m.globals ++ leZ 2 (cn : Int)) : List Int) = acc at HP2 HE hl2
  go_wp2
  go_loopw [24] (fun iv wr => EnC b B cn m.consts acc WA iv wr) (fun iv _ => cn - (intOf iv).toNat)
  case atStart => exact ⟨0, Nat.zero_le _, rfl, by unfold Hid; show PutP b _ (acc ++ []) WA w2; rw [List.append_nil]; exact HP2.out⟩
  case round =>
    clear HP2 c0
    obtain ⟨k, hk, rfl, hP⟩ := hrel
    obtain ⟨v3, hw3, hs3⟩ := hP.out
    have HS3 : Hid (Sv b B WA wr) := hs3
    have HW3 : Hid (Wt wr b B v3 (acc ++ ccZ m.consts k)) := hw3
    obtain ⟨hBW, hX3, hb3⟩ := HUP.out _ hs3
    have HB3 : Hid (Below B W wr) := hBW
    have hal : (acc ++ ccZ m.consts k).length ≤ 164000000 := by have := ccZ_len HG.out k (by rw [HCL.out]; exact hk); rw [List.length_append]; omega
    have hal4 : 4 ≤ (acc ++ ccZ m.consts k).length := by rw [List.length_append]; omega
    have z2 := hX3.c2
    clear hw3 hs3 hP hBW hX3
    by_cases hlt : k < cn
    · obtain ⟨bb, o, rfl, hbl, gg⟩ := HMW.out.cs.cells (by omega)
      obtain ⟨q, n, c, ew, hew⟩ := gg k hlt
      have e0 : wr.cell? ⟨bb, o + k, none⟩ = some (.slice q n c) := by rw [HB3.out.cell (p := ⟨bb, o + k, none⟩) (by rw [hBB]; exact hbl)]; exact ew
      have HDA : Hid (Da W q n c (m.consts.getD k [])) := hew
      have hgd := cst_good HG.out (show k < m.consts.length by rw [HCL.out]; exact hlt)
      have hnl : (m.consts.getD k []).length = n := hew.len
      rw [hnl] at hgd
      have hn3 := hgd.1
      have HGD : Hid (∀ j, j < n → goodB ((m.consts.getD k []).getD j dt0) = true) := hgd.2
      have HX : Hid (acc ++ ccZ m.consts (k + 1) = (acc ++ ccZ m.consts k) ++ cstZ (m.consts.getD k [])) := by unfold Hid; rw [ccZ_succ, List.append_assoc]
      clear gg ew hew hgd hnl z2
      generalize acc ++ ccZ m.consts k = ac2 at HW3 HX hal hal4
      generalize m.consts.getD k [] = ds at HDA HGD HX
      go_wp2_with fail
      refine (constant_c b q n c ds ac2 v3 W wr (by rw [← hBB]; exact HW3.out) HDA.out (by rw [← hBB]; exact HB3.out) HGD.out hn3 hal4 (by omega)).mono ?_
      rintro e w4 ⟨rfl, hp4⟩
      have HP4 : Hid (PutP b B (acc ++ ccZ m.consts (k + 1)) WA w4) := by
        unfold Hid; rw [HX.out]
        rw [← hBB] at hp4
        exact PutP.trans HS3.out hp4
      clear hp4 e0
      go_wp2
      exact ⟨⟨k + 1, by omega, by go_num, HP4⟩, by simp [intOf]; omega⟩
    · obtain rfl : k = cn := by omega
      have HE2 : Hid (bdZ m = ((acc ++ ccZ m.consts k) ++ leZ 2 (fn : Int)) ++ ffZ m.funcs fn) := HE.out
      clear HE
      generalize acc ++ ccZ m.consts k = ac2 at HW3 HE2 hal hal4
      go_wp2_with fail
      refine (put1_c b B 2 _ (fn : Int) ac2 v3 wr rfl HW3.out (by omega) hb3 (by omega)).mono ?_
      rintro e w4 ⟨rfl, hp4⟩
      have HP4 : Hid (PutP b B (ac2 ++ leZ 2 (fn : Int)) WA w4) := PutP.trans HS3.out hp4
      have z4 := (HUP.out _ HP4.out.choose_spec.2).2.1.c2
      have hl4 : (ac2 ++ leZ 2 (fn : Int)).length ≤ 164000002 := by rw [List.length_append, leZ_len]; omega
      have hl44 : 4 < (ac2 ++ leZ 2 (fn : Int)).length := by rw [List.length_append, leZ_len]; omega
      clear hp4 z2 HW3 HS3 HB3 hb3
      generalize ac2 ++ leZ 2 (fn : Int) = ac3 at HP4 HE2 hl4 hl44
      go_wp2
      go_loopw [39] (fun iv wr => EnF b B fn m.funcs ac3 WA iv wr) (fun iv _ => fn - (intOf iv).toNat)
      case atStart => exact ⟨0, Nat.zero_le _, rfl, by unfold Hid; show PutP b _ (ac3 ++ []) WA w4; rw [List.append_nil]; exact HP4.out⟩
      case round =>
        clear HP4 z4
        obtain ⟨j, hj, rfl, hP⟩ := hrel
        obtain ⟨v5, hw5, hs5⟩ := hP.out
        have HS5 : Hid (Sv b B WA wr) := hs5
        have HW5 : Hid (Wt wr b B v5 (ac3 ++ ffZ m.funcs j)) := hw5
        obtain ⟨hBW, _, hb5⟩ := HUP.out _ hs5
        have HB5 : Hid (Below B W wr) := hBW
        have hal5 : (ac3 ++ ffZ m.funcs j).length ≤ 170000000 := by have := ffZ_len HG.out j (by rw [HFL.out]; exact hj); rw [List.length_append]; omega
        have hal6 : 4 < (ac3 ++ ffZ m.funcs j).length := by rw [List.length_append]; omega
        clear hw5 hs5 hP hBW
        by_cases hlt2 : j < fn
        · obtain ⟨bb, o, rfl, hbl, gg⟩ := HMW.out.fs.cells (by omega)
          obtain ⟨rp, rl, rc, dp, dl, dc, hew⟩ := gg j hlt2
          have he := hew.below hbl (w' := wr) (by rw [← hBB]; exact HB5.out)
          have e0 := he.c0
          have e1 := he.c1
          have e2 := he.c2
          have HFR : Hid (Bo W rp rl rc (m.funcs.getD j fn0).free) := hew.free
          have HCO : Hid (Ii W dp dl dc (m.funcs.getD j fn0).code) := hew.code
          have hff := fnFacts HG.out (show j < m.funcs.length by rw [HFL.out]; exact hlt2)
          have hrl : rl ≤ 50 := by rw [← hew.free.len]; exact hff.1
          have hdl : dl ≤ 5000 := by rw [← hew.code.len]; exact hff.2
          have HX : Hid (ac3 ++ ffZ m.funcs (j + 1) = (ac3 ++ ffZ m.funcs j) ++ fcZ (m.funcs.getD j fn0)) := by unfold Hid; rw [ffZ_succ, List.append_assoc]
          clear gg hew he hff
          generalize ac3 ++ ffZ m.funcs j = ac4 at HW5 HX hal5 hal6
          generalize m.funcs.getD j fn0 = f at e0 HFR HCO HX
          go_wp2_with fail
          refine (function_c b f rp rl rc dp dl dc ac4 v5 W _ (by rw [← hBB]; exact HW5.out.below (below1 _ _)) HFR.out HCO.out (by rw [← hBB]; exact HB5.out.trans ((below1 _ _).mono hb5)) hrl hdl (by omega)).mono ?_
          rintro e w6 ⟨rfl, hp6⟩
          have HP6 : Hid (PutP b B (ac3 ++ ffZ m.funcs (j + 1)) WA w6) := by
            unfold Hid; rw [HX.out]
            rw [← hBB] at hp6
            exact PutP.trans (HS5.out.trans (Sv.of_below (below1 _ _) hb5)) hp6
          clear hp6 e0 e1 e2
          go_wp2
          exact ⟨⟨j + 1, by omega, by go_num, HP6⟩, by simp [intOf]; omega⟩
        · obtain rfl : j = fn := by omega
          have HE3 : Hid (bdZ m = ac3 ++ ffZ m.funcs j) := HE2.out
          clear HE2
          rw [← HE3.out] at HW5 hal5 hal6
          have c5 := cell_of_blk1 HW5.out.blk
          obtain ⟨p5, q5, hv5, hy5, _⟩ := (HW5.out.sw.own hal6).by_ (rng_of HRB.out)
          subst hv5
          have HY5 : Hid (By wr p5 (bdZ m).length q5 (bdZ m)) := hy5
          have hcz := xor32_rng _ 4294967295 (crcL_rng (bdZ m) (rng_of HRB.out) (bdZ m).length).1 (crcL_rng (bdZ m) (rng_of HRB.out) (bdZ m).length).2 (by omega) (by omega)
          have hc0 : 0 ≤ crcZ (bdZ m) := hcz.1
          have hc1 : crcZ (bdZ m) < 4294967296 := hcz.2
          have HIM : Hid (imZ m = bdZ m ++ leZ 4 (crcZ (bdZ m))) := rfl
          clear hy5 hcz HE3
          generalize bdZ m = bd at HW5 hal5 hal6 HY5 hc0 hc1 HIM HRB c5
          go_wp2_with fail
          refine (implCrc_c p5 bd.length q5 bd _ HY5.out).mono ?_
          rintro e w6 ⟨rfl, hw6⟩
          have hw6' := hw6.symm
          clear hw6
          subst hw6'
          go_wp2_with fail
          refine (put1_c b B 4 _ (crcZ bd) bd _ wr rfl HW5.out (by omega) hb5 (by omega)).mono ?_
          rintro e w7 ⟨rfl, v7, hw7, hs7⟩
          have c7 := cell_of_blk1 hw7.blk
          have HO7 : Hid (Ow w7 w.heap.size v7 (imZ m)) := by unfold Hid; rw [HIM.out]; exact (hw7.sw.own (by rw [List.length_append]; omega)).mono (by omega)
          have HB7 : Hid (Below w.heap.size w w7) := by
            have h1 := HB5.out.trans hs7.below
            exact HWB.out.trans (h1.mono (by omega))
          clear hw7 hs7 c5
          go_wp2
          go_ret
          exact ⟨Or.inr ⟨HG.out, _, rfl, HO7.out⟩, HB7.out⟩
end Go.Proofs.YtbcanodijcglpaaDoor
