import Derived.Test.YtdjdhjciealfhaaGreatDoorUf
namespace Go.Proofs.YtdjdhjciealfhaaGreatDoor
open Go.RowKit Ch1
namespace Vf
set_option maxRecDepth 20000 in
set_option maxHeartbeats 8000000 in
/-- l3verify: the flags of a safe function. -/
theorem verify1_c (cp : Option Addr) (cn cc : Nat) (g : Int) (fp : Option Addr) (fn fc : Nat) (rp : Option Addr) (rl rc : Nat) (dp : Option Addr) (dl dc : Nat) (m : Md) (f : Fn) (w : World)
    (hcs : Dd w cp cn cc m.consts) (hne : ∀ i, i < m.consts.length → 0 < (m.consts.getD i []).length) (hfu : Fu w fp fn fc m.funcs) (hfr : Bo w rp rl rc f.free) (hco : Ii w dp dl dc f.code) (hok : ∀ i, i < dl → InsOk m f (f.code.getD i in0)) (hd0 : 0 < dl) (hd1 : dl ≤ 5000) (hp0 : 0 ≤ f.params) (hp1 : f.params ≤ 20) :
    Calls Tryz.prog 16 #[.agg #[.slice cp cn cc, .int .i64 g, .slice fp fn fc], .agg #[.int .i64 f.params, .slice rp rl rc, .slice dp dl dc]] w fun e w' => VyP m f w w' e := by
  have HCO := mkD hco
  have HOK := mkD hok
  have HFU := mkD hfu
  have HDL : Hid (f.code.length = dl) := hco.len
  obtain ⟨W, hW⟩ : ∃ W, W = (w.alloc (.cells #[.slice cp cn cc, .int .i64 g, .slice fp fn fc] 33)).alloc (.cells #[.int .i64 f.params, .slice rp rl rc, .slice dp dl dc] 48) := ⟨_, rfl⟩
  have HBW : Hid (Below w.heap.size w W) := by unfold Hid; rw [hW]; exact below2 w _ _
  have hw1 : w.heap.size + 1 < W.heap.size := by rw [hW]; simp
  have HF : Hid (W.heap[w.heap.size + 1]? = some (.cells #[.int .i64 f.params, .slice rp rl rc, .slice dp dl dc] 48)) := by
    unfold Hid
    rw [hW]
    have := Go.Deep.blk_alloc_new (w.alloc (.cells #[.slice cp cn cc, .int .i64 g, .slice fp fn fc] 33)) (.cells #[.int .i64 f.params, .slice rp rl rc, .slice dp dl dc] 48)
    rwa [World.size_alloc] at this
  have HM : Hid (W.heap[w.heap.size]? = some (.cells #[.slice cp cn cc, .int .i64 g, .slice fp fn fc] 33)) := by
    unfold Hid
    rw [hW]
    exact ((below1 _ _).block w.heap.size (by simp)).trans (Go.Deep.blk_alloc_new _ _)
  have HST : Hid (Calls Tryz.prog 34 #[.agg #[.slice cp cn cc, .int .i64 g, .slice fp fn fc], .agg #[.int .i64 f.params, .slice rp rl rc, .slice dp dl dc]] W fun e w' => StP m f W w' e) := states_c cp cn cc g fp fn fc rp rl rc dp dl dc m f W (hcs.below HBW.out) hne (hfr.below HBW.out) (hco.below HBW.out) hok hd0 hd1 hp0 hp1
  obtain ⟨ii, hi1, hpr⟩ := Option.map_eq_some_iff.1 info4
  simp only [Prod.mk.injEq] at hpr
  obtain ⟨hz, hs, hb⟩ := hpr
  have HI : Hid (Tryz.prog.info? 4 = some ii ∧ ii.zero = some (.bool false) ∧ ii.size = 1 ∧ ii.bytes = 1) := ⟨hi1, hz, hs, hb⟩
  have f0 : W.cell? ⟨w.heap.size + 1, 0, none⟩ = _ := (cells3 HF.out).1
  have f1 := (cells3 HF.out).2.1
  have f2 := (cells3 HF.out).2.2.1
  have m0 := (cells3 HM.out).1
  have m1 := (cells3 HM.out).2.1
  have m2 := (cells3 HM.out).2.2.1
  rw [hW] at f0 f1 f2 m0 m1 m2
  clear hi1 hz hs hb hcs hne hfr hco hok hp0 hp1 hfu
  go_enter Tryz.func16, Tryz.ntmps16
  go_wp2_with fail
  rw [← hW]
  refine HST.out.mono ?_
  clear f0 f1 f2 m0 m1 m2
  rintro e w1 (⟨S, σ, vs, rfl, hss, hle, hb1⟩ | ⟨hno, rfl, hb1⟩)
  case inr =>
    have HB : Hid (Below w.heap.size w w1) := HBW.out.trans (hb1.mono HBW.out.size)
    have HNO : Hid (¬ Safe m f) := fun ⟨τ, h, _⟩ => hno ⟨τ, h⟩
    clear hb1 hno hW
    go_wp2_with fail
    exact bodyPost_ret (v := .tuple #[.slice none 0 0, .bool false]) (by simp [results, Tryz.results16, go_sem]) rfl (Or.inr ⟨HNO.out, rfl, HB.out⟩)
  case inl =>
    rw [HDL.out] at hss ⊢
    have HSS := mkD hss
    have HLE := mkD hle
    have HB1 := mkD hb1
    have HBw : Hid (Below w.heap.size w w1) := HBW.out.trans (hb1.mono HBW.out.size)
    obtain ⟨e0, e1, e2, _, _, _⟩ := cells3 ((hb1.block (w.heap.size + 1) hw1).trans HF.out)
    clear hss hle hb1 hW HST
    go_wp2_with (at_make; refine wpList_make_full _ rfl (.tmp 23) (.tmp 23) 43 rfl w1.heap.size 4 ii _ 1 Tryz.underlying43 HI.out.1 HI.out.2.1 HI.out.2.2.1 .i64 .i64 dl dl dl (by simp [Act.eval]) (by simp [Act.eval]) rfl rfl (by rw [HI.out.2.2.2]; omega) (by unfold maxLen; omega) (Nat.le_refl _) ?_; intro w2 ho hg; have HO2 : Hid (OwB w2 w1.heap.size (fl m f σ dl 0)) := (by unfold Hid; rw [fl_zero]; exact OwB.made ho); have HB2 : Hid (Below w1.heap.size w1 w2) := (Below.refl _ w1).grown hg (Nat.le_refl _) (fun k h => by cases h); clear ho hg)
    go_loopw [9] (fun iv wr => Vy m f w1 dl σ iv wr) (fun iv _ => dl - (intOf iv).toNat)
    case atStart => exact ⟨0, Nat.zero_le _, rfl, HB2, HO2, fun j _ hj => absurd hj (Nat.not_lt_zero j)⟩
    case round =>
      clear HO2 HB2 e0 e1 e2 w2
      obtain ⟨i, hi, rfl, hBr, hOr, hAr⟩ := hrel
      have HBr : Hid (Below w.heap.size w wr) := HBw.out.trans (hBr.out.mono HBw.out.size)
      have HBWr : Hid (Below W.heap.size W wr) := HB1.out.trans (hBr.out.mono HB1.out.size)
      have HF3 := mkD ((HBWr.out.block (w.heap.size + 1) hw1).trans HF.out)
      have HM3 := mkD ((HBWr.out.block w.heap.size (by omega)).trans HM.out)
      obtain ⟨e0, e1, e2, _, _, _⟩ := cells3 HF3.out
      obtain ⟨y0, y1, y2, _, _, _⟩ := cells3 HM3.out
      by_cases hlt : i < dl
      · have HSr := mkD (HSS.out.below hBr.out)
        obtain ⟨x0, x1, xf0, xf1⟩ := HSr.out.cells hlt
        obtain ⟨cb, co, rfl, hcb, hcc⟩ := (HCO.out.below HBr.out).cells hd0
        obtain ⟨d0, d1, d2⟩ := hcc i hlt
        have hsz := HSr.out.lt
        have hcs := small_of HCO.out.cap HCO.out.big
        clear hcc
        cases hs : σ i with
        | none =>
          have HSI := mkD hs
          rw [hs] at x0
          have HV : Hid (vs i = .slice none 0 0) := HSr.out.non i hlt hs
          rw [HV.out] at x1
          clear hs
          simp only [Option.isNone_none] at x0
          go_wp2_with fail
          exact ⟨⟨i + 1, by omega, by go_num, hBr, by unfold Hid; rw [fl_same m f hlt HSI.out]; exact hOr.out, fun j s hj hs => by rcases (show j < i ∨ j = i by omega) with h | h; exact hAr.out j s h hs; rw [h, HSI.out] at hs; cases hs⟩, by simp [intOf]; omega⟩
        | some s =>
          have HSI := mkD hs
          rw [hs] at x0
          have HG := mkD (HLE.out.good i s (by rw [HDL.out]; exact hlt) hs)
          have HFT := mkD (HLE.out.ok.step i (by rw [HDL.out]; exact hlt) s hs).1
          have HOI := mkD (HSr.out.own i s hlt hs)
          obtain ⟨p2, c2, hv2⟩ := HOI.out.form
          rw [hv2] at HOI x1
          obtain ⟨x, hx⟩ : ∃ x, x = f.code.getD i in0 := ⟨_, rfl⟩
          rw [← hx] at d0 d1 d2 HFT
          have HX := mkD hx
          have HIO : Hid (InsOk m f x) := by unfold Hid; rw [hx]; exact HOK.out i hlt
          obtain ⟨k, hk⟩ : ∃ k, k = (allow m x).length := ⟨_, rfl⟩
          have HK := mkD hk
          have hks : k ≤ s.length := by rw [hk]; exact HFT.out.1
          have hs2 : s.length ≤ 200 := HG.out.2
          have hc2 : s.length ≤ c2 ∧ c2 ≤ maxLen := ⟨HOI.out.cell.2.1, HOI.out.cell.2.2.1⟩
          have hcb2 := small_of hc2.1 hc2.2
          have HPD : Hid (provenB m x (s.drop (s.length - k)) = pvAt m f σ i) := by unfold Hid pvAt; rw [HSI.out, hk, prov_drop (by rw [← hk]; exact hks), ← hx]
          have HDR : Hid ((∀ j, j < (allow m x).length → (s.drop (s.length - k)).getD j 0 ||| (allow m x).getD j 0 = (allow m x).getD j 0) ↔ asks m x s) := by unfold Hid; rw [hk]; exact asks_drop (by rw [← hk]; exact hks)
          have HTK := mkD (takes_c m f x HIO.out (wr.alloc (.cells #[.int .i64 x.op, .int .i64 x.a, .int .i64 x.b] 73)))
          rw [← hk] at HTK
          simp only [Option.isNone_some] at x0
          clear hs hv2 hx hk
          go_wp2_with fail
          refine HTK.out.mono ?_
          rintro e w3 ⟨rfl, hb3⟩
          have HB3 : Hid (Below wr.heap.size wr w3) := (below1 _ _).trans (hb3.mono (below1 _ _).size)
          have HXB : Hid (w3.heap[wr.heap.size]? = some (.cells #[.int .i64 x.op, .int .i64 x.a, .int .i64 x.b] 73)) := (hb3.block wr.heap.size (by simp)).trans (Go.Deep.blk_alloc_new _ _)
          have HMB := mkD ((HB3.out.block w.heap.size (by have := HBWr.out.size; omega)).trans HM3.out)
          have HO3 := mkD (hOr.out.below HB3.out)
          have HNI := mkD (HOI.out.below HB3.out).ni
          have hsx : wr.heap.size < w3.heap.size := (Array.getElem?_eq_some_iff.1 HXB.out).1
          clear hb3 HTK x0 x1 xf0 xf1 d0 d1 d2 e0 e1 e2 y0 y1 y2
          obtain ⟨e0, e1, e2, _, _, _⟩ := cells3 HXB.out
          obtain ⟨y0, y1, y2, _, _, _⟩ := cells3 HMB.out
          have hsub : (s.length : Int) - (k : Int) = ((s.length - k : Nat) : Int) := by omega
          have HBW3 : Hid (Below w.heap.size w w3) := HBr.out.trans (HB3.out.mono HBr.out.size)
          have hkk : s.length - (s.length - k) = k := by omega
          rcases HOI.out.nil_or with ⟨rfl, h0, h1⟩ | ⟨gg, rfl⟩
          · obtain rfl : s = [] := List.length_eq_zero_iff.1 h0
            obtain rfl : k = 0 := by simpa using hks
            subst h1
            have HT : Hid (Ni w3 none 0 0 (([] : List Nat).drop (([] : List Nat).length - 0))) := HNI.out
            clear hkk hsub h0
            simp only [List.length_nil]
            go_wp2_with fail
            refine (asks_c cp cn cc g fp fn fc _ 0 _ m f x (([] : List Nat).drop (([] : List Nat).length - 0)) w3 HIO.out (HFU.out.below HBW3.out) HT.out (HG.out.1.drop _) HK.out).mono ?_
            rintro e w4 ⟨b, rfl, hiff, hb4⟩
            have HB4 := mkD hb4
            have HIF := mkD hiff
            clear hiff hb4
            cases b
            · have HNO : Hid (¬ Safe m f) := fun hsf => by
                have h1 := HLE.out.safe.1 hsf i [] (by rw [HDL.out]; exact hlt) HSI.out
                rw [← HX.out] at h1
                have h2 := HIF.out.2 (HDR.out.2 h1)
                cases h2
              have HBF : Hid (Below w.heap.size w w4) := HBW3.out.trans (HB4.out.mono HBW3.out.size)
              clear e0 e1 e2 y0 y1 y2
              go_wp2_with fail
              exact bodyPost_ret (v := .tuple #[.slice none 0 0, .bool false]) (by simp [results, Tryz.results16, go_sem]) rfl (Or.inr ⟨HNO.out, rfl, HBF.out⟩)
            · have HASK : Hid (asks m (f.code.getD i in0) []) := by unfold Hid; rw [← HX.out]; exact HDR.out.1 (HIF.out.1 rfl)
              have e0 := cell_keepD HB4.out hsx e0
              have e1 := cell_keepD HB4.out hsx e1
              have e2 := cell_keepD HB4.out hsx e2
              have HT4 := mkD (HT.out.below HB4.out)
              clear y0 y1 y2
              go_wp2_with fail
              refine (proven_c _ 0 _ m f x (([] : List Nat).drop (([] : List Nat).length - 0)) w4 HIO.out HT4.out (HG.out.1.drop _) HK.out).mono ?_
              rintro e w5 ⟨rfl, hb5⟩
              have HB5 : Hid (Below wr.heap.size wr w5) := HB3.out.trans ((HB4.out.trans (hb5.mono HB4.out.size)).mono HB3.out.size)
              have HO5 := mkD (hOr.out.below HB5.out)
              obtain ⟨o0, o1⟩ := HO5.out.cell (i := i) (by rw [fl_len]; exact hlt)
              have hO5 : w1.heap.size < w5.heap.size := HO5.out.lt
              rw [HPD.out]
              obtain ⟨pb, hpb⟩ : ∃ pb, pb = pvAt m f σ i := ⟨_, rfl⟩
              rw [← hpb]
              have HPB := mkD hpb
              obtain ⟨ob, hob⟩ : ∃ ob, ob = (fl m f σ dl i).getD i false := ⟨_, rfl⟩
              rw [← hob] at o0
              clear hpb hob hb5 e0 e1 e2
              go_wp2_with fail
              exact ⟨⟨i + 1, by omega, by go_num, (hBr.out.trans (HB5.out.mono hBr.out.size)).setCell (by simp only; exact Nat.le_refl _) _, by unfold Hid; rw [fl_set m f σ hlt, ← HPB.out]; exact HO5.out.set _, fun j s' hj hs' => by rcases (show j < i ∨ j = i by omega) with h | h; exact hAr.out j s' h hs'; rw [h] at hs' ⊢; rw [HSI.out] at hs'; cases hs'; exact HASK.out⟩, by simp [intOf]; omega⟩
          · go_wp2_with fail
            · have HT : Hid (Ni w3 (some ⟨gg, 0, none⟩) k 0 (s.drop (s.length - k))) := by
                have hk0 : k = 0 := by omega
                have h := HNI.out.tail0 (p' := some ⟨gg, 0, none⟩) (c' := 0) (Nat.zero_le _)
                unfold Hid
                rw [hk0, Nat.sub_zero]
                exact h
              clear hkk hsub
              refine (asks_c cp cn cc g fp fn fc _ k _ m f x (s.drop (s.length - k)) w3 HIO.out (HFU.out.below HBW3.out) HT.out (HG.out.1.drop _) HK.out).mono ?_
              rintro e w4 ⟨b, rfl, hiff, hb4⟩
              have HB4 := mkD hb4
              have HIF := mkD hiff
              clear hiff hb4
              cases b
              · have HNO : Hid (¬ Safe m f) := fun hsf => by
                  have h1 := HLE.out.safe.1 hsf i s (by rw [HDL.out]; exact hlt) HSI.out
                  rw [← HX.out] at h1
                  have h2 := HIF.out.2 (HDR.out.2 h1)
                  cases h2
                have HBF : Hid (Below w.heap.size w w4) := HBW3.out.trans (HB4.out.mono HBW3.out.size)
                clear e0 e1 e2 y0 y1 y2
                go_wp2_with fail
                exact bodyPost_ret (v := .tuple #[.slice none 0 0, .bool false]) (by simp [results, Tryz.results16, go_sem]) rfl (Or.inr ⟨HNO.out, rfl, HBF.out⟩)
              · have HASK : Hid (asks m (f.code.getD i in0) s) := by unfold Hid; rw [← HX.out]; exact HDR.out.1 (HIF.out.1 rfl)
                have e0 := cell_keepD HB4.out hsx e0
                have e1 := cell_keepD HB4.out hsx e1
                have e2 := cell_keepD HB4.out hsx e2
                have HT4 := mkD (HT.out.below HB4.out)
                clear y0 y1 y2
                go_wp2_with fail
                refine (proven_c _ k _ m f x (s.drop (s.length - k)) w4 HIO.out HT4.out (HG.out.1.drop _) HK.out).mono ?_
                rintro e w5 ⟨rfl, hb5⟩
                have HB5 : Hid (Below wr.heap.size wr w5) := HB3.out.trans ((HB4.out.trans (hb5.mono HB4.out.size)).mono HB3.out.size)
                have HO5 := mkD (hOr.out.below HB5.out)
                obtain ⟨o0, o1⟩ := HO5.out.cell (i := i) (by rw [fl_len]; exact hlt)
                have hO5 : w1.heap.size < w5.heap.size := HO5.out.lt
                rw [HPD.out]
                obtain ⟨pb, hpb⟩ : ∃ pb, pb = pvAt m f σ i := ⟨_, rfl⟩
                rw [← hpb]
                have HPB := mkD hpb
                obtain ⟨ob, hob⟩ : ∃ ob, ob = (fl m f σ dl i).getD i false := ⟨_, rfl⟩
                rw [← hob] at o0
                clear hpb hob hb5 e0 e1 e2
                go_wp2_with fail
                exact ⟨⟨i + 1, by omega, by go_num, (hBr.out.trans (HB5.out.mono hBr.out.size)).setCell (by simp only; exact Nat.le_refl _) _, by unfold Hid; rw [fl_set m f σ hlt, ← HPB.out]; exact HO5.out.set _, fun j s' hj hs' => by rcases (show j < i ∨ j = i by omega) with h | h; exact hAr.out j s' h hs'; rw [h] at hs' ⊢; rw [HSI.out] at hs'; cases hs'; exact HASK.out⟩, by simp [intOf]; omega⟩
            · have HT : Hid (Ni w3 (some ⟨gg, s.length - k, none⟩) k (c2 - (s.length - k)) (s.drop (s.length - k))) := by
                have h := HNI.out.tail hks
                rw [Nat.zero_add] at h
                exact h
              clear hkk hsub
              refine (asks_c cp cn cc g fp fn fc _ k _ m f x (s.drop (s.length - k)) w3 HIO.out (HFU.out.below HBW3.out) HT.out (HG.out.1.drop _) HK.out).mono ?_
              rintro e w4 ⟨b, rfl, hiff, hb4⟩
              have HB4 := mkD hb4
              have HIF := mkD hiff
              clear hiff hb4
              cases b
              · have HNO : Hid (¬ Safe m f) := fun hsf => by
                  have h1 := HLE.out.safe.1 hsf i s (by rw [HDL.out]; exact hlt) HSI.out
                  rw [← HX.out] at h1
                  have h2 := HIF.out.2 (HDR.out.2 h1)
                  cases h2
                have HBF : Hid (Below w.heap.size w w4) := HBW3.out.trans (HB4.out.mono HBW3.out.size)
                clear e0 e1 e2 y0 y1 y2
                go_wp2_with fail
                exact bodyPost_ret (v := .tuple #[.slice none 0 0, .bool false]) (by simp [results, Tryz.results16, go_sem]) rfl (Or.inr ⟨HNO.out, rfl, HBF.out⟩)
              · have HASK : Hid (asks m (f.code.getD i in0) s) := by unfold Hid; rw [← HX.out]; exact HDR.out.1 (HIF.out.1 rfl)
                have e0 := cell_keepD HB4.out hsx e0
                have e1 := cell_keepD HB4.out hsx e1
                have e2 := cell_keepD HB4.out hsx e2
                have HT4 := mkD (HT.out.below HB4.out)
                clear y0 y1 y2
                go_wp2_with fail
                refine (proven_c _ k _ m f x (s.drop (s.length - k)) w4 HIO.out HT4.out (HG.out.1.drop _) HK.out).mono ?_
                rintro e w5 ⟨rfl, hb5⟩
                have HB5 : Hid (Below wr.heap.size wr w5) := HB3.out.trans ((HB4.out.trans (hb5.mono HB4.out.size)).mono HB3.out.size)
                have HO5 := mkD (hOr.out.below HB5.out)
                obtain ⟨o0, o1⟩ := HO5.out.cell (i := i) (by rw [fl_len]; exact hlt)
                have hO5 : w1.heap.size < w5.heap.size := HO5.out.lt
                rw [HPD.out]
                obtain ⟨pb, hpb⟩ : ∃ pb, pb = pvAt m f σ i := ⟨_, rfl⟩
                rw [← hpb]
                have HPB := mkD hpb
                obtain ⟨ob, hob⟩ : ∃ ob, ob = (fl m f σ dl i).getD i false := ⟨_, rfl⟩
                rw [← hob] at o0
                clear hpb hob hb5 e0 e1 e2
                go_wp2_with fail
                exact ⟨⟨i + 1, by omega, by go_num, (hBr.out.trans (HB5.out.mono hBr.out.size)).setCell (by simp only; exact Nat.le_refl _) _, by unfold Hid; rw [fl_set m f σ hlt, ← HPB.out]; exact HO5.out.set _, fun j s' hj hs' => by rcases (show j < i ∨ j = i by omega) with h | h; exact hAr.out j s' h hs'; rw [h] at hs' ⊢; rw [HSI.out] at hs'; cases hs'; exact HASK.out⟩, by simp [intOf]; omega⟩
      · have HFIN : Hid (OwB wr w1.heap.size (pvRow m f σ)) := by
          have h := hOr.out
          rw [show i = dl by omega, fl_all m f σ HDL.out] at h
          exact h
        have HSF : Hid (Safe m f) := HLE.out.safe.2 (fun j s hj hs => hAr.out j s (by rw [HDL.out] at hj; omega) hs)
        have hws : w.heap.size ≤ w1.heap.size := HBw.out.size
        go_wp2_with fail
        exact bodyPost_ret (v := .tuple #[.slice (some ⟨w1.heap.size, 0, none⟩) dl dl, .bool true]) (by simp [results, Tryz.results16, go_sem]) rfl (Or.inl ⟨w1.heap.size, σ, by rw [HDL.out], hws, HFIN.out, HLE.out, HSF.out, HBr.out⟩)
end Vf
end Go.Proofs.YtdjdhjciealfhaaGreatDoor
