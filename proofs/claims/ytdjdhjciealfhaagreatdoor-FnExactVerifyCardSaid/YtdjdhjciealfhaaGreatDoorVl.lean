import Derived.Test.YtdjdhjciealfhaaGreatDoorKo
import Derived.Test.YtdjdhjciealfhaaGreatDoorKv
import Derived.Test.YtdjdhjciealfhaaGreatDoorVb
import Derived.Test.YtdjdhjciealfhaaGreatDoorMf
import Derived.Test.YtdjdhjciealfhaaGreatDoorUi
namespace Go.Proofs.YtdjdhjciealfhaaGreatDoor
open Go.RowKit Ch1
namespace Vf
theorem gm_ct {m : Md} (h : GoodM m) : ∀ i, i < m.consts.length → 0 ≤ ((m.consts.getD i []).getD 0 dt0).count := fun i hi => by
  have h1 := (oneB_iff _).1 (h.cs.one i hi)
  cases hd : m.consts.getD i [] with
  | nil => rw [hd, skip_nil] at h1; cases h1
  | cons a b =>
    rw [hd] at h1
    cases hg : goodB a with
    | false => rw [skip_bad 100 a b hg] at h1; cases h1
    | true =>
      simp only [List.getD_cons_zero]
      unfold goodB at hg
      repeat' split at hg
      all_goals simp at hg
      all_goals omega
/-- SoAt, out of a well-formed module. -/
theorem soAt_of {w : World} {cp : Option Addr} {cn cc : Nat} {fp : Option Addr} {fn fc : Nat} {m : Md} {i : Nat} {rp : Option Addr} {rl rc : Nat} {dp : Option Addr} {dl dc : Nat} (hM : Mo w cp cn cc fp fn fc m) (hG : GoodM m) (hi : i < m.funcs.length) (hfr : Bo w rp rl rc (m.funcs.getD i fn0).free) (hco : Ii w dp dl dc (m.funcs.getD i fn0).code) (hT : TbV w) : SoAt w cp cn cc fp fn fc rp rl rc dp dl dc m (m.funcs.getD i fn0) :=
  ⟨hM.cs, gm_ne hG, gm_ct hG, hM.fs, fun j hj => Nat.le_trans (hG.sz.fn j hj).fr (by decide), hfr, hco, fun k hk => hG.cd i hi k (by rw [hco.len]; exact hk), by have := (hG.sz.fn i hi).co; rw [hco.len] at this; omega, by have := gm_code1 hG hi; rw [hco.len] at this; exact this, (hG.sz.fn i hi).p0, (hG.sz.fn i hi).p1, hT⟩
set_option maxRecDepth 20000 in
set_option maxHeartbeats 8000000 in
/-- impl.Verify. -/
theorem implVerify_c (cp : Option Addr) (cn cc : Nat) (fp : Option Addr) (fn fc : Nat) (m : Md) (w : World) (hM : Mo w cp cn cc fp fn fc m) (hF : Fits cn fn m) (hT : TbV w) :
    Calls Tryz.prog 7 #[.agg #[.slice cp cn cc, .int .i64 m.globals, .slice fp fn fc]] w fun e w' => VrP m w w' e := by
  have HM := mkD hM
  have HT := mkD hT
  have HFL : Hid (m.funcs.length = fn) := hM.fs.len
  obtain ⟨W, hW⟩ : ∃ W, W = w.alloc (.cells #[.slice cp cn cc, .int .i64 m.globals, .slice fp fn fc] 33) := ⟨_, rfl⟩
  have HBW : Hid (Below w.heap.size w W) := by unfold Hid; rw [hW]; exact below1 w _
  have hw1 : w.heap.size < W.heap.size := by rw [hW]; simp
  have HMB : Hid (W.heap[w.heap.size]? = some (.cells #[.slice cp cn cc, .int .i64 m.globals, .slice fp fn fc] 33)) := by unfold Hid; rw [hW]; exact Go.Deep.blk_alloc_new _ _
  have HVM := mkD (implValidModule_c cp cn cc fp fn fc m W (hM.below HBW.out) hF (hT.tb.below HBW.out))
  have m0 := (cells3 HMB.out).1
  have m1 := (cells3 HMB.out).2.1
  have m2 := (cells3 HMB.out).2.2.1
  rw [hW] at m0 m1 m2
  have hcf := small_of hM.fs.cap hM.fs.big
  obtain ⟨gl, hgl⟩ : ∃ gl, gl = m.globals := ⟨_, rfl⟩
  rw [← hgl] at m0 m1 m2 HMB HVM hW ⊢
  clear hM hF hgl hT
  go_enter Tryz.func7, Tryz.ntmps7
  go_wp2_with fail
  rw [← hW]
  refine HVM.out.mono ?_
  clear m0 m1 m2 hW HVM
  rintro e w1 ⟨b, rfl, hiff, hb1⟩
  have HG := mkD hiff
  have HB1 := mkD hb1
  have m2 := (cells3 ((HB1.out.block w.heap.size hw1).trans HMB.out)).2.2.1
  clear hiff hb1
  cases b
  · have HNO : Hid (¬ GoodM m) := fun h => by have := HG.out.2 h; cases this
    have HBF : Hid (Below w.heap.size w w1) := HBW.out.trans (HB1.out.mono HBW.out.size)
    go_wp2_with fail
    exact bodyPost_ret (v := .tuple #[.slice none 0 0, .int .i64 1, .int .i64 0]) (by simp [results, Tryz.results7, go_sem]) rfl (Or.inl ⟨HNO.out, rfl, HBF.out⟩)
  · have HGM : Hid (GoodM m) := HG.out.1 rfl
    clear HG
    go_wp2_with fail
    go_loopw [5, 16] (fun ov iv wr => Vr m W fn ov iv wr) (fun _ iv _ => fn - (intOf iv).toNat)
    case atStart => exact ⟨0, none, 0, [], Nat.zero_le _, rfl, rfl, RbS.nil _ _, ⟨rfl, fun i hi => absurd hi (Nat.not_lt_zero i)⟩, HB1, fun j hj => absurd hj (Nat.not_lt_zero j)⟩
    case round =>
      clear HB1 m2 w1
      obtain ⟨i, op, oc, L, hi, rfl, rfl, hR, hO, hB, hS⟩ := hrel
      have HMr := mkD ((hB.out.block w.heap.size hw1).trans HMB.out)
      have HBr : Hid (Below w.heap.size w wr) := HBW.out.trans (hB.out.mono HBW.out.size)
      have hwr : w.heap.size < wr.heap.size := Nat.lt_of_lt_of_le hw1 hB.out.size
      by_cases hlt : i < fn
      · have HMo := mkD (HM.out.below HBr.out)
        obtain ⟨fb, fo, rfl, hfb, hfe⟩ := HMo.out.fs.cells (by omega)
        obtain ⟨rp, rl, rc, dp, dl, dc, he⟩ := hfe i hlt
        have g0 := he.c0
        have g1 := he.c1
        have g2 := he.c2
        have hil : i < m.funcs.length := by rw [HFL.out]; exact hlt
        obtain ⟨pa, hpa⟩ : ∃ pa, pa = (m.funcs.getD i fn0).params := ⟨_, rfl⟩
        obtain ⟨W6, hW6⟩ : ∃ W6, W6 = wr.alloc (.cells #[.int .i64 pa, .slice rp rl rc, .slice dp dl dc] 48) := ⟨_, rfl⟩
        have HB6 : Hid (Below wr.heap.size wr W6) := by unfold Hid; rw [hW6]; exact below1 _ _
        have HB06 : Hid (Below w.heap.size w W6) := HBr.out.trans (HB6.out.mono HBr.out.size)
        have HX6 : Hid (W6.heap[wr.heap.size]? = some (.cells #[.int .i64 pa, .slice rp rl rc, .slice dp dl dc] 48)) := by unfold Hid; rw [hW6]; exact Go.Deep.blk_alloc_new _ _
        have HSO := mkD (soAt_of (i := i) (HM.out.below HB06.out) HGM.out hil (he.free.below HB6.out) (he.code.below HB6.out) (HT.out.below HB06.out))
        have HST := mkD (statesOf_c cp cn cc gl (some ⟨fb, fo, none⟩) fn fc rp rl rc dp dl dc m (m.funcs.getD i fn0) W6 HSO.out)
        rw [← hpa] at g0 HST
        obtain ⟨y0, y1, y2, _, _, _⟩ := cells3 ((HB6.out.block w.heap.size hwr).trans HMr.out)
        rw [hW6] at y0 y1 y2
        have HE := mkD hW6
        clear hpa he hfe hW6
        go_wp2_with fail
        rw [← HE.out]
        refine HST.out.mono ?_
        rintro e w4 ⟨hb4, hso⟩
        have HB4 := mkD hb4
        have HB5 : Hid (Below wr.heap.size wr w4) := HB6.out.trans (HB4.out.mono HB6.out.size)
        have HBw4 : Hid (Below w.heap.size w w4) := HBr.out.trans (HB5.out.mono HBr.out.size)
        have hX6 := (Array.getElem?_eq_some_iff.1 HX6.out).1
        have c2 := (cells3 ((HB4.out.block wr.heap.size hX6).trans HX6.out)).2.2.1
        clear y0 y1 y2 g0 g1 g2 HST HE hb4
        rcases hso with ⟨σ, S, hgS, rfl, hsp, hls, hask⟩ | ⟨hns, rfl⟩
        · have HSA : Hid (Safe m (m.funcs.getD i fn0)) := hls.safe.2 hask
          have HLS := mkD hls
          have HSP := mkD hsp
          have HS4 := mkD (HSO.out.below HB4.out)
          have HPV := mkD (provenOf_c dp dl dc S m (m.funcs.getD i fn0) σ w4 HS4.out.co hsp hls HS4.out.ok HS4.out.tb HS4.out.d0 HS4.out.d1)
          have hdl : (pvRow m (m.funcs.getD i fn0) σ).length = dl := by rw [← HS4.out.co.len]; simp [pvRow]
          obtain ⟨bs, hbs⟩ : ∃ bs, bs = pvRow m (m.funcs.getD i fn0) σ := ⟨_, rfl⟩
          rw [← hbs] at HPV hdl
          have HBS := mkD hbs
          clear hgS hsp hls hask hbs
          go_wp2_with fail
          refine HPV.out.mono ?_
          rintro e w5 ⟨rfl, hob, hb5⟩
          have HOS := mkD hob
          have HB45 := mkD hb5
          have HR5 := mkD (hR.out.below (HB5.out.trans (hb5.mono HB5.out.size)))
          have hLl : L.length = i := hO.out.1
          have hf200 : fn ≤ 200 := by have := HGM.out.f2; rw [HFL.out] at this; exact this
          have HLT : Hid (∀ x ∈ L, x.1 < w4.heap.size) := fun x hx => Nat.lt_of_lt_of_le (hR.out.row x hx).2.lt HB5.out.size
          have HWS : Hid (W.heap.size ≤ w4.heap.size) := Nat.le_trans hB.out.size HB5.out.size
          have hW5 : W.heap.size ≤ w5.heap.size := Nat.le_trans HWS.out hb5.size
          have HOW : Hid (w5.ownsRow W.heap.size 43 1 (.slice op i oc) i (Rv L)) := by have h := HR5.out.own; rw [hLl] at h; exact h
          subst hdl
          clear hob hb5 HPV c2
          go_wp2_with (at_builtin; refine appW_law w5 rfl (.tmp 30) (.tmp 35) 27 43 rfl (.slice none 0 0) 1 24 Tryz.underlying27 infoB rfl (by omega) W.heap.size (.slice op i oc) i (Rv L) (by simp [Act.eval]) HOW.out #[.slice (some ⟨w4.heap.size, 0, none⟩) bs.length bs.length] rfl (by simp [Value.oneCell']) (by simp [Act.eval]) (by unfold maxLen; omega) (by omega) hW5 ?_; intro v6 w6 ho6 hb6 hbt6; obtain ⟨p6, c6, hv6⟩ := owns_form ho6; subst hv6; have HO6 := mkD ho6; have HB7 := mkD hb6; have HBT := mkD hbt6; clear ho6 hb6 hbt6)
          refine ⟨⟨i + 1, p6, c6, L ++ [(w4.heap.size, bs)], by omega, by go_num, rfl, ?_, ?_, (hB.out.trans ((HB5.out.trans (HB45.out.mono HB5.out.size)).mono hB.out.size)).trans HB7.out, fun j hj => by rcases (show j < i ∨ j = i by omega) with h | h; exact hS.out j h; rw [h]; exact HSA.out⟩, by simp [intOf]; omega⟩
          · refine RbS.snoc HR5.out ?_ HBT.out HOS.out HWS.out HLT.out
            rw [hLl]
            exact HO6.out
          · unfold Hid
            rw [HBS.out]
            exact hO.out.snoc HLS.out
        · have HNS := mkD hns
          clear hns c2
          go_wp2_with fail
          exact bodyPost_ret (v := .tuple #[.slice none 0 0, .int .i64 6, .int .i64 (i : Nat)]) (by simp [results, Tryz.results7, go_sem]) rfl (Or.inr (Or.inl ⟨HGM.out, i, hil, HNS.out, hS.out, rfl, HBw4.out⟩))
      · have HSF : Hid (∀ j, j < m.funcs.length → Safe m (m.funcs.getD j fn0)) := fun j hj => hS.out j (by rw [HFL.out] at hj; omega)
        have HRO : Hid (RowsOf m L m.funcs.length) := by unfold Hid; rw [HFL.out, ← show i = fn by omega]; exact hO.out
        have HRR := mkD (hR.out.mono (Nat.le_of_lt hw1))
        go_wp2_with fail
        exact bodyPost_ret (v := .tuple #[.slice op i oc, .int .i64 0, .int .i64 0]) (by simp [results, Tryz.results7, go_sem]) rfl (Or.inr (Or.inr ⟨HGM.out, HSF.out, _, L, rfl, HRR.out, HRO.out, HBr.out⟩))
end Vf
end Go.Proofs.YtdjdhjciealfhaaGreatDoor
namespace Go.Proofs.YtdjdhjciealfhaaGreatDoor
open Go.RowKit Ch1
namespace Vf
theorem Rr.within {w w' : World} {p : Option Addr} {L : List (Nat × List Bool)} {lo hi : Nat} (h : Rr w p L) (hw : Within lo hi w w') (hp : ∀ a, p = some a → hi ≤ a.block) (hx : ∀ x ∈ L, hi ≤ x.1) : Rr w' p L := by
  refine ⟨fun h0 => ?_, fun x hm => (hw.block _ (Or.inr (hx x hm))).trans (h.row x hm)⟩
  obtain ⟨g, e1, e2, e3, e4⟩ := h.cells h0
  have hg : hi ≤ g := hp _ e1
  exact ⟨g, e1, by rw [hw.size]; exact e2, e3, fun i hi' => by rw [World.cell?_of_block (w := w) (hw.block g (Or.inr hg))]; exact e4 i hi'⟩
/-- An answer: rows that own their memory. -/
structure VrO (RR : List (List Bool)) (z1 z2 : Int) (w w' : World) (e : Ending) (p : Option Addr) (c : Nat) (L : List (Nat × List Bool)) : Prop where
  eq : e = .returned (.tuple #[.slice p RR.length c, .int .i64 z1, .int .i64 z2])
  len : RR.length = L.length
  few : Few L
  rr : Rr w' p L
  dis : (L.map Prod.fst).Nodup
  own : ∀ x ∈ L, w.heap.size ≤ x.1
  rows : L.map Prod.snd = RR
  blk : ∀ a, p = some a → w.heap.size ≤ a.block
  bel : Below w.heap.size w w'
theorem vrO_nil {z1 z2 : Int} {w w' : World} {e : Ending} (he : e = .returned (.tuple #[.slice none 0 0, .int .i64 z1, .int .i64 z2])) (hb : Below w.heap.size w w') : VrO [] z1 z2 w w' e none 0 [] :=
  ⟨he, rfl, ⟨by simp, fun x hx => by cases hx⟩, ⟨fun h => absurd h (by simp), fun x hx => by cases hx⟩, List.nodup_nil, fun x hx => (by cases hx), rfl, fun a ha => (by cases ha), hb⟩
theorem vr_out (m : Md) : ∃ (RR : List (List Bool)) (z1 z2 : Int), ∀ w w' e, VrP m w w' e → ∃ p c L, VrO RR z1 z2 w w' e p c L := by
  by_cases hG : GoodM m
  · by_cases hS : ∀ j, j < m.funcs.length → Safe m (m.funcs.getD j fn0)
    · by_cases hL : ∃ L0, RowsOf m L0 m.funcs.length
      · obtain ⟨L0, hL0⟩ := hL
        refine ⟨L0.map Prod.snd, 0, 0, fun w w' e h => ?_⟩
        rcases h with ⟨hn, _⟩ | ⟨_, i, hi, hn, _⟩ | ⟨_, _, v, L, rfl, hR, hO, hb⟩
        · exact absurd hG hn
        · exact absurd (hS i hi) hn
        · obtain ⟨p, c, rfl⟩ := hR.form
          obtain ⟨_, hrr, hblk⟩ := hR.rr
          have hl : L.length = m.funcs.length := hO.1
          exact ⟨p, c, L, ⟨by rw [List.length_map, hL0.1, hl], by rw [List.length_map, hL0.1, hl], few_of hG hO, hrr, hR.dis, fun x hx => (hR.row x hx).1, rows_same hO hL0, hblk, hb⟩⟩
      · refine ⟨[], 0, 0, fun w w' e h => ?_⟩
        rcases h with ⟨hn, _⟩ | ⟨_, i, hi, hn, _⟩ | ⟨_, _, v, L, _, _, hO, _⟩
        · exact absurd hG hn
        · exact absurd (hS i hi) hn
        · exact absurd ⟨L, hO⟩ hL
    · by_cases hI : ∃ i : Nat, i < m.funcs.length ∧ ¬ Safe m (m.funcs.getD i fn0) ∧ ∀ j, j < i → Safe m (m.funcs.getD j fn0)
      · obtain ⟨i0, h1, h2, h3⟩ := hI
        refine ⟨[], 6, (i0 : Int), fun w w' e h => ?_⟩
        rcases h with ⟨hn, _⟩ | ⟨_, i, hi, hn, hlt, he, hb⟩ | ⟨_, hall, _⟩
        · exact absurd hG hn
        · have e1 : i = i0 := by
            rcases Nat.lt_trichotomy i i0 with h | h | h
            · exact absurd (h3 i h) hn
            · exact h
            · exact absurd (hlt i0 h) h2
          subst e1
          exact ⟨none, 0, [], vrO_nil he hb⟩
        · exact absurd hall hS
      · refine ⟨[], 0, 0, fun w w' e h => ?_⟩
        rcases h with ⟨hn, _⟩ | ⟨_, i, hi, hn, hlt, _⟩ | ⟨_, hall, _⟩
        · exact absurd hG hn
        · exact absurd ⟨i, hi, hn, hlt⟩ hI
        · exact absurd hall hS
  · refine ⟨[], 1, 0, fun w w' e h => ?_⟩
    rcases h with ⟨_, he, hb⟩ | ⟨hg, _⟩ | ⟨hg, _⟩
    · exact ⟨none, 0, [], vrO_nil he hb⟩
    · exact absurd hg hG
    · exact absurd hg hG
set_option maxRecDepth 20000 in
set_option maxHeartbeats 16000000 in
theorem lawVerify (cp : Option Addr) (cn cc : Nat) (fp : Option Addr) (fn fc : Nat) (m : Md) (w : World) (hM : Mo w cp cn cc fp fn fc m) (hT : TbV w) :
    Calls Tryz.prog 3 #[.agg #[.slice cp cn cc, .int .i64 m.globals, .slice fp fn fc]] w fun e w' => e = .returned (.bool true) ∧ Below w.heap.size w w' := by
  obtain ⟨RR, z1, z2, hout⟩ := vr_out m
  obtain ⟨N, hN⟩ : ∃ N, N = RR.length := ⟨_, rfl⟩
  have HNR := mkD hN
  have HOUT : Hid (∀ w w' e, VrP m w w' e → ∃ p c L, VrO RR z1 z2 w w' e p c L) := hout
  have HM : Hid (Mo w cp cn cc fp fn fc m) := hM
  have HT : Hid (∀ w', Below w.heap.size w w' → TbV w') := fun w' hb => hT.below hb
  clear hM hT hout hN
  go_enter Tryz.func3, Tryz.ntmps3
  go_wp2_with fail
  refine (szModule_c cp cn cc fp fn fc m _ (HM.out.below (below1 _ _))).mono ?_
  rintro e w1 ⟨v, rfl, hv, hb1⟩
  have HB1 : Hid (Below w.heap.size w w1) := below_alloc hb1
  have HA1 : Hid (B3 w1 w.heap.size (.slice cp cn cc) (.int .i64 m.globals) (.slice fp fn fc)) := (B3.new w _ _ _ _).below hb1
  have HV : Hid (0 ≤ v → Fits cn fn m) := hv
  clear hv hb1
  have a0 := HA1.out.c0
  have a1 := HA1.out.c1
  have a2 := HA1.out.c2
  by_cases hneg : v < 0
  · go_wp2
    go_ret
    exact ⟨rfl, HB1.out⟩
  have HF : Hid (Fits cn fn m) := HV.out (by omega)
  have d1 : decide (v < 0) = false := decide_eq_false hneg
  go_wp2_with fail
  refine (toModule_c cp cn cc fp fn fc m _ (HM.out.below HB1.out) HF.out).mono ?_
  rintro e w2 ⟨tc, tf, rfl, hm2, hb2⟩
  have HM2 : Hid (Mo w2 (some ⟨tc, 0, none⟩) cn cn (some ⟨tf, 0, none⟩) fn fn m) := hm2
  have HA2 : Hid (B3 w2 w.heap.size (.slice cp cn cc) (.int .i64 m.globals) (.slice fp fn fc)) := HA1.out.below hb2
  have HB2 : Hid (Below w.heap.size w w2) := HB1.out.trans (hb2.mono HB1.out.size)
  clear hm2 hb2 a0 a1 a2 HA1 d1
  go_wp2_with fail
  refine (specVerify_c _ cn cn _ fn fn m _ HM2.out HF.out).mono ?_
  intro e w3 h3
  obtain ⟨sp, sc, Ls, hvo⟩ := HOUT.out _ _ _ h3
  obtain rfl := hvo.eq
  have HSV := mkD hvo
  rw [← HNR.out]
  have HA3 : Hid (B3 w3 w.heap.size (.slice cp cn cc) (.int .i64 m.globals) (.slice fp fn fc)) := HA2.out.below hvo.bel
  have HB3 : Hid (Below w.heap.size w w3) := HB2.out.trans (hvo.bel.mono HB2.out.size)
  clear h3 hvo HA2 HM2
  have a0 := HA3.out.c0
  have a1 := HA3.out.c1
  have a2 := HA3.out.c2
  go_wp2_with fail
  refine (toModule_r cp cn cc fp fn fc m _ (HM.out.below HB3.out) HF.out).mono ?_
  rintro e w4 ⟨xc, xf, rfl, hm4, hrd, hrf, hxc, hxf, hb4⟩
  have HM4 : Hid (Mo w4 (some ⟨xc, 0, none⟩) cn cn (some ⟨xf, 0, none⟩) fn fn m) := hm4
  have HWD : Hid (WDD w4 w3.heap.size w4.heap.size xc cn) := (hrd.wdd HF.out.cs).lower hxc (Nat.le_refl _)
  have HWF : Hid (WF w4 w3.heap.size w4.heap.size xf fn) := (hrf.wf HF.out.fs).lower hxf (Nat.le_refl _)
  have HA4 : Hid (B3 w4 w.heap.size (.slice cp cn cc) (.int .i64 m.globals) (.slice fp fn fc)) := HA3.out.below hb4
  have HB34 : Hid (Below w3.heap.size w3 w4) := hb4
  have HB4 : Hid (Below w.heap.size w w4) := HB3.out.trans (hb4.mono HB3.out.size)
  have h34 := hb4.size
  have h03 := HB3.out.size
  clear hm4 hb4 hrd hrf hxc hxf a0 a1 a2
  go_wp2_with fail
  refine (implVerify_c _ cn cn _ fn fn m _ (HM4.out.below (below1 _ _)) HF.out (HT.out _ (HB4.out.trans ((below1 _ _).mono HB4.out.size)))).mono ?_
  intro e w5 h5
  obtain ⟨gp, gc, Lg, hgo⟩ := HOUT.out _ _ _ h5
  obtain rfl := hgo.eq
  rw [← HNR.out]
  have HGR : Hid (Rr w5 gp Lg) := hgo.rr
  have HGB : Hid (∀ a, gp = some a → w4.heap.size ≤ a.block) := fun a ha => by have := hgo.blk a ha; simp at this; omega
  have HGX : Hid (∀ x ∈ Lg, w4.heap.size ≤ x.1) := fun x hx => by have := hgo.own x hx; simp at this; omega
  have HGF : Hid (Few Lg ∧ (Lg.map Prod.fst).Nodup ∧ N = Lg.length ∧ Lg.map Prod.snd = Ls.map Prod.snd) := ⟨hgo.few, hgo.dis, by rw [HNR.out]; exact hgo.len, hgo.rows.trans HSV.out.rows.symm⟩
  have HB45 : Hid (Below w4.heap.size w4 w5) := below_alloc hgo.bel
  have HX5 : Hid (B3 w5 w4.heap.size (.slice (some ⟨xc, 0, none⟩) cn cn) (.int .i64 m.globals) (.slice (some ⟨xf, 0, none⟩) fn fn)) := (B3.new w4 _ _ _ _).below hgo.bel
  have HA5 : Hid (B3 w5 w.heap.size (.slice cp cn cc) (.int .i64 m.globals) (.slice fp fn fc)) := HA4.out.below HB45.out
  have HB35 : Hid (Below w3.heap.size w3 w5) := HB34.out.trans (HB45.out.mono HB34.out.size)
  have hN200 : N ≤ 200 := by rw [HGF.out.2.2.1]; exact HGF.out.1.1
  clear h5 hgo HA4
  go_wp2_with fail
  refine (eqBoolSS_c gp sp N gc sc Lg Ls _ HGR.out (HSV.out.rr.below HB35.out) HGF.out.2.2.2 HGF.out.1 HGF.out.2.2.1).mono ?_
  rintro e w6 ⟨rfl, hb6⟩
  have HB56 : Hid (Below w5.heap.size w5 w6) := hb6
  clear hb6
  have HX6 : Hid (B3 w6 w4.heap.size (.slice (some ⟨xc, 0, none⟩) cn cn) (.int .i64 m.globals) (.slice (some ⟨xf, 0, none⟩) fn fn)) := HX5.out.below HB56.out
  have HA6 : Hid (B3 w6 w.heap.size (.slice cp cn cc) (.int .i64 m.globals) (.slice fp fn fc)) := HA5.out.below HB56.out
  have HB46 : Hid (Below w4.heap.size w4 w6) := HB45.out.trans (HB56.out.mono HB45.out.size)
  have HB6 : Hid (Below w.heap.size w w6) := HB4.out.trans (HB46.out.mono HB4.out.size)
  have HM6 : Hid (Mo w6 (some ⟨xc, 0, none⟩) cn cn (some ⟨xf, 0, none⟩) fn fn m) := HM4.out.below HB46.out
  clear HX5 HA5 HM4
  have a0 := HA6.out.c0
  have a1 := HA6.out.c1
  have a2 := HA6.out.c2
  have x0 := HX6.out.c0
  have x1 := HX6.out.c1
  have x2 := HX6.out.c2
  go_wp2_with fail
  go_cut [55] from 51 (fun v wc => v = .bool false ∧ Below w6.heap.size w6 wc)
  case first =>
    go_region_with (first | (go_at_call 6; refine (toModule_c cp cn cc fp fn fc m _ (HM.out.below (below_drewM HB6.out)) HF.out).mono ?_; rintro e w7 ⟨yc, yf, rfl, hm7, hb7⟩; have HB67 : Hid (Below w6.heap.size w6 w7) := (below_drewM (Below.refl _ _)).trans hb7; have HM7 : Hid (Mo w7 (some ⟨yc, 0, none⟩) cn cn (some ⟨yf, 0, none⟩) fn fn m) := hm7; have HMX : Hid (Mo w7 (some ⟨xc, 0, none⟩) cn cn (some ⟨xf, 0, none⟩) fn fn m) := HM6.out.below HB67.out; have z0 := (HX6.out.below HB67.out).c0; have z1 := (HX6.out.below HB67.out).c1; have z2 := (HX6.out.below HB67.out).c2; clear hm7 hb7) | (go_at_call 9; refine (eqModule_c _ _ cn cn cn _ _ fn fn fn m _ HMX.out HM7.out).mono ?_; rintro e w8 ⟨rfl, hb8⟩; have HB68 : Hid (Below w6.heap.size w6 w8) := HB67.out.trans (hb8.mono HB67.out.size); clear hb8))
    all_goals go_wp2_with fail
    all_goals go_meet
    all_goals exact ⟨rfl, HB68.out⟩
  case rest =>
    obtain ⟨rfl, hbc⟩ := hcut
    have HBC6 : Hid (Below w6.heap.size w6 wc) := hbc
    have HB5C : Hid (Below w5.heap.size w5 wc) := HB56.out.trans (hbc.mono HB56.out.size)
    have HB4C : Hid (Below w4.heap.size w4 wc) := HB45.out.trans (HB5C.out.mono HB45.out.size)
    have HAC : Hid (B3 wc w.heap.size (.slice cp cn cc) (.int .i64 m.globals) (.slice fp fn fc)) := HA6.out.below hbc
    have HXC : Hid (B3 wc w4.heap.size (.slice (some ⟨xc, 0, none⟩) cn cn) (.int .i64 m.globals) (.slice (some ⟨xf, 0, none⟩) fn fn)) := HX6.out.below hbc
    have h4c := HB4C.out.size
    clear hbc a0 a1 a2 x0 x1 x2 HX6 HA6 HM6
    have x0 := HXC.out.c0
    have x1 := HXC.out.c1
    have x2 := HXC.out.c2
    go_wp2_with fail
    refine (markModule_t xc cn xf fn w3.heap.size w4.heap.size m.globals _ (HWD.out.below HB4C.out) (HWF.out.below HB4C.out) HF.out.hcn HF.out.hfn h4c).mono ?_
    rintro e w9 ⟨z, rfl, hz, wm, hbm, hw9⟩
    have HGR9 : Hid (Rr w9 gp Lg) := ((HGR.out.below HB5C.out).below hbm).within hw9 HGB.out HGX.out
    have HB3C : Hid (Below w3.heap.size w3 wc) := HB34.out.trans (HB4C.out.mono HB34.out.size)
    have HB39 : Hid (Below w3.heap.size w3 w9) := (HB3C.out.trans (hbm.mono HB3C.out.size)).trans (hw9.below (Nat.le_refl _))
    clear hbm hw9 x0 x1 x2 HXC HAC
    have hzd : decide (z < 0) = false := by simp; omega
    go_wp2_with fail
    refine (eqBoolSS_c gp sp N gc sc Lg Ls _ HGR9.out (HSV.out.rr.below HB39.out) HGF.out.2.2.2 HGF.out.1 HGF.out.2.2.1).mono ?_
    rintro e w10 ⟨rfl, hb10⟩
    have HB910 : Hid (Below w9.heap.size w9 w10) := hb10
    clear hb10
    have HB310 : Hid (Below w3.heap.size w3 w10) := HB39.out.trans (HB910.out.mono HB39.out.size)
    have HGR10 : Hid (Rr w10 gp Lg) := HGR9.out.below HB910.out
    go_wp2_with fail
    refine (markBoolSS_c gp N gc w4.heap.size Lg _ HGR10.out HGF.out.2.1 HGF.out.1 HGF.out.2.2.1 HGX.out).mono ?_
    rintro e w11 ⟨rfl, hh11, hb11⟩
    have HH11 := mkD hh11
    have HB311 : Hid (Below w3.heap.size w3 w11) := HB310.out.trans (hb11.mono HB34.out.size)
    obtain ⟨cN, hcN⟩ : ∃ cN, cN = cnt Lg N := ⟨_, rfl⟩
    have HCN := mkD hcN
    have hcb : cN ≤ 1000000 := by rw [hcN]; have := cnt_le HGF.out.1 N (by rw [HGF.out.2.2.1]; exact Nat.le_refl _); omega
    rw [← hcN]
    clear hh11 hb11 hcN
    go_wp2_with fail
    refine (heldBoolSS_c gp N gc Lg _ HH11.out HGF.out.1 HGF.out.2.2.1).mono ?_
    rintro e w12 ⟨rfl, hb12⟩
    have HB312 : Hid (Below w3.heap.size w3 w12) := HB311.out.trans (hb12.mono HB311.out.size)
    rw [← HCN.out]
    clear hb12
    have HB12 : Hid (Below w.heap.size w w12) := HB3.out.trans (HB312.out.mono HB3.out.size)
    have hq : decide (((1 + cN : Nat) : Int) < 0) = false := by simp; omega
    have HA11 := HA3.out.below HB312.out
    have a0 := HA11.c0
    have a1 := HA11.c1
    have a2 := HA11.c2
    clear HA11
    go_wp2_with fail
    refine (toModule_c cp cn cc fp fn fc m _ (HM.out.below HB12.out) HF.out).mono ?_
    rintro e w13 ⟨yc, yf, rfl, hm13, hb13⟩
    have HM13 : Hid (Mo w13 (some ⟨yc, 0, none⟩) cn cn (some ⟨yf, 0, none⟩) fn fn m) := hm13
    have HB13 : Hid (Below w.heap.size w w13) := HB12.out.trans (hb13.mono HB12.out.size)
    have HB313 : Hid (Below w3.heap.size w3 w13) := HB312.out.trans (hb13.mono HB312.out.size)
    clear hm13 hb13 a0 a1 a2
    go_wp2_with fail
    refine (implVerify_c _ cn cn _ fn fn m _ HM13.out HF.out (HT.out _ HB13.out)).mono ?_
    intro e w14 h14
    obtain ⟨hp, hc, Lh, hho⟩ := HOUT.out _ _ _ h14
    obtain rfl := hho.eq
    rw [← HNR.out]
    have HHR := mkD hho.rr
    have HHF : Hid (Few Lh ∧ N = Lh.length ∧ Lh.map Prod.snd = Ls.map Prod.snd) := ⟨hho.few, by rw [HNR.out]; exact hho.len, hho.rows.trans HSV.out.rows.symm⟩
    have HB14 : Hid (Below w.heap.size w w14) := HB13.out.trans (hho.bel.mono HB13.out.size)
    have HB314 : Hid (Below w3.heap.size w3 w14) := HB313.out.trans (hho.bel.mono HB313.out.size)
    clear h14 hho
    go_wp2_with fail
    refine (eqBoolSS_c hp sp N hc sc Lh Ls _ HHR.out (HSV.out.rr.below HB314.out) HHF.out.2.2 HHF.out.1 HHF.out.2.1).mono ?_
    rintro e w15 ⟨rfl, hb15⟩
    have HB15 : Hid (Below w.heap.size w w15) := HB14.out.trans (hb15.mono HB14.out.size)
    clear hb15
    go_wp2
    go_ret
    exact ⟨rfl, HB15.out⟩
end Vf
end Go.Proofs.YtdjdhjciealfhaaGreatDoor
