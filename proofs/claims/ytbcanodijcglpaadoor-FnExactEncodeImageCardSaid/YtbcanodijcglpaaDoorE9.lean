import Derived.Test.YtbcanodijcglpaaDoorE8
namespace Go.Proofs.YtbcanodijcglpaaDoor
open Go.RowKit Ch1
theorem text_rg {ds : List Dt} (h : RgD ds) (j : Nat) : Rg (ds.getD j dt0).text := by
  by_cases hj : j < ds.length
  · have e : ds.getD j dt0 = ds[j] := by simp [List.getD, List.getElem?_eq_getElem hj]
    rw [e]
    exact h _ (List.getElem_mem hj)
  · have e : ds.getD j dt0 = dt0 := by simp [List.getD, List.getElem?_eq_none (Nat.le_of_not_lt hj)]
    rw [e]
    intro x hx
    cases hx
theorem cstZ_rg {ds : List Dt} (h : RgD ds) : Rg (cstZ ds) := (leZ_rg _ _).app (Rg.flat (fun j => datZ_rg (text_rg h j)) _)
theorem bd_rg {w : World} {cp : Option Addr} {cn cc : Nat} {fp : Option Addr} {fn fc : Nat} {m : Md} (hM : Mo w cp cn cc fp fn fc m) : Rg (bdZ m) := by
  unfold bdZ
  refine ((((Rg.app (fun x hx => ?_) (leZ_rg _ _)).app (leZ_rg _ _)).app (Rg.flat (fun i => ?_) _)).app (leZ_rg _ _)).app (Rg.flat (fun i => fcZ_rg _) _)
  · simp at hx; omega
  · apply cstZ_rg
    by_cases hi : i < cn
    · obtain ⟨b, o, _, _, gg⟩ := hM.cs.cells (by omega)
      obtain ⟨q, n, c, _, hd⟩ := gg i hi
      exact hd.rg
    · have e : m.consts.getD i [] = [] := by simp [List.getD, List.getElem?_eq_none (show m.consts.length ≤ i by rw [hM.cs.len]; omega)]
      rw [e]
      intro d hd
      cases hd
theorem bd_len {m : Md} (h : GoodM m) : (bdZ m).length ≤ 180000000 := by
  have h1 := ccZ_len h m.consts.length (Nat.le_refl _)
  have h2 := h.cs.few
  have h3 := ffZ_len h m.funcs.length (Nat.le_refl _)
  have h4 := h.f2
  unfold bdZ
  simp only [List.length_append, leZ_len, List.length_cons, List.length_nil]
  omega
set_option maxRecDepth 20000 in
set_option maxHeartbeats 4000000 in
theorem specEncode_c (cp : Option Addr) (cn cc : Nat) (fp : Option Addr) (fn fc : Nat) (m : Md) (w : World) (hM : Mo w cp cn cc fp fn fc m) (hF : Fits cn fn m) :
    Calls Tryd.prog 5 #[.agg #[.slice cp cn cc, .int .i64 m.globals, .slice fp fn fc]] w fun e w' => EmP m w w' e := by
  have HM : Hid (Mo w cp cn cc fp fn fc m) := hM
  have HF : Hid (Fits cn fn m) := hF
  obtain ⟨W, hW⟩ : ∃ W, W = w.alloc (.cells #[.slice cp cn cc, .int .i64 m.globals, .slice fp fn fc] 32) := ⟨_, rfl⟩
  have HX0 : Hid (B3 W w.heap.size (.slice cp cn cc) (.int .i64 m.globals) (.slice fp fn fc)) := by unfold Hid; rw [hW]; exact B3.new w _ _ _ _
  have HWB : Hid (Below w.heap.size w W) := by unfold Hid; rw [hW]; exact below1 _ _
  have hWs : W.heap.size = w.heap.size + 1 := by rw [hW]; simp
  clear hM hF
  go_enter Tryd.func5, Tryd.ntmps5
  go_wp2_with fail
  rw [← hW]
  clear hW
  refine (specValidModule_c cp cn cc fp fn fc m _ (HM.out.below HWB.out) HF.out).mono ?_
  rintro e w1 ⟨r, rfl, hr, hb1⟩
  have HR : Hid (r = true ↔ GoodM m) := hr
  have HX1 : Hid (B3 w1 w.heap.size (.slice cp cn cc) (.int .i64 m.globals) (.slice fp fn fc)) := HX0.out.below hb1
  have HB1 : Hid (Below w.heap.size w w1) := HWB.out.trans (hb1.mono (by omega))
  clear hr hb1
  cases r
  · go_wp2
    go_ret
    exact ⟨Or.inl ⟨fun h => (by have := HR.out.2 h; cases this), rfl⟩, HB1.out⟩
  have HG : Hid (GoodM m) := HR.out.1 rfl
  have c0 := HX1.out.c0
  have c1 := HX1.out.c1
  have c2 := HX1.out.c2
  have hs1 := HB1.out.size
  go_wp2_with fail
  refine (l4image_c cp cn cc fp fn fc m _ (HM.out.below HB1.out) HG.out (bd_rg HM.out)).mono ?_
  rintro e w2 ⟨v, rfl, ho, hb2⟩
  have HO : Hid (Ow w2 w.heap.size v (imZ m)) := ho.mono hs1
  have HB2 : Hid (Below w.heap.size w w2) := HB1.out.trans (hb2.mono hs1)
  clear ho hb2
  go_wp2
  go_ret
  exact ⟨Or.inr ⟨HG.out, _, rfl, HO.out⟩, HB2.out⟩
end Go.Proofs.YtbcanodijcglpaaDoor
