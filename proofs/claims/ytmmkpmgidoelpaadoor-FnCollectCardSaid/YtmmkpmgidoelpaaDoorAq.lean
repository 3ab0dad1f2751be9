import Derived.Test.YtmmkpmgidoelpaaDoorA5
namespace Go.Proofs.YtmmkpmgidoelpaaDoor.Hp
open Go.RowKit Ch2
/-- What the model's Alloc answers, its row with the slice's own room. -/
def AlQ (ws : List Int) (top k : Int) (fs : List Int) (w w' : World) (e : Ending) : Prop := ∃ (p : Option Addr) (n c : Nat) (ys : List Int) (top' word code : Int), e = .returned (.tuple #[.agg #[.slice p n c, .int .i64 top'], .int .i64 word, .int .i64 code]) ∧ AlRes ws top k fs ys top' word code ∧ Is w' p n c ys ∧ (code = 0 → ∃ g, p = some ⟨g, 0, none⟩ ∧ w.heap.size ≤ g ∧ Fr w' g n c ys) ∧ Below w.heap.size w w'
theorem AlQ.none {ws : List Int} {top k : Int} {fs : List Int} {w w' : World} (code : Int) (h : AlRes ws top k fs [] 0 0 code) (hb : Below w.heap.size w w') (hc : code ≠ 0 := by decide) : AlQ ws top k fs w w' (.returned (.tuple #[.agg #[.slice none 0 0, .int .i64 0], .int .i64 0, .int .i64 code])) :=
  ⟨Option.none, 0, 0, [], 0, 0, code, rfl, h, ⟨rfl, Nat.le_refl _, Nat.zero_le _, fun i => (by simp), fun h => absurd h (Nat.lt_irrefl 0)⟩, fun h => absurd h hc, hb⟩
set_option maxRecDepth 20000 in
set_option maxHeartbeats 8000000 in
theorem specAlloc_q (p : Option Addr) (n c : Nat) (top k : Int) (ws : List Int) (fp : Option Addr) (m fc : Nat) (fs : List Int) (w : World) (h : Is w p n c ws) (ht0 : -9223372036854775808 ≤ top) (ht1 : top ≤ 9223372036854775807) (hf : Is w fp m fc fs) :
    Calls Tryd.prog 33 #[.agg #[.slice p n c, .int .i64 top], .int .i64 k, .slice fp m fc] w fun e w' => AlQ ws top k fs w w' e := by
  have HI : Hid (Is w p n c ws) := h
  have HF : Hid (Is w fp m fc fs) := hf
  have hlen : Hid (ws.length = n) := h.len
  have hfl : Hid (fs.length = m) := hf.len
  have hms := hf.small.1
  clear h hf
  go_enter Tryd.func33, Tryd.ntmps33
  go_wp2_with fail
  refine (l2valid_c p n c top ws _ (by exact HI.out.below (below2 _ _ _)) ht0 ht1).mono ?_
  rintro e w1 (⟨rfl, hno, hb1⟩ | ⟨q, rfl, hob, hsb, hb1⟩)
  · have HN : Hid (¬ AlOk ws top k fs) := fun hg => hno hg.good
    have HB : Hid (Below w.heap.size w w1) := below_alloc (below_alloc hb1)
    have HR : Hid (BxW w1 (w.heap.size + 1) none 0 0 0) := by
      have := (BxW.new (w.alloc (.cells #[.slice p n c, .int .i64 top] 25)) none 0 0 0 25).below hb1
      unfold Hid; simpa using this
    have r0 := HR.out.bx.c0
    have r1 := HR.out.bx.c1
    have rf0 := HR.out.f0
    have rf1 := HR.out.f1
    clear hno hb1
    go_wp2
    exact bodyPost_ret (v := .tuple #[.agg #[.slice none 0 0, .int .i64 0], .int .i64 0, .int .i64 1]) (by simp [results, Tryd.results33, go_sem, r0, r1]) rfl (AlQ.none 1 (Or.inl ⟨HN.out, rfl, rfl, rfl, rfl⟩) ((HB.out.setCell (by simp) _).setCell (by simp) _))
  · obtain ⟨T, rfl⟩ := Int.eq_ofNat_of_zero_le hob.lo
    have HRET : Hid ((((T : Nat) : Int).toNat) = T) := by unfold Hid; simp
    have hT : T ≤ n := by have := hob.hi; rw [hlen.out] at this; omega
    have hn2 : n ≤ 20000 := by have := hob.size; rw [hlen.out] at this; exact this
    have HB : Hid (Below w.heap.size w w1) := below_alloc (below_alloc hb1)
    have HR : Hid (BxW w1 (w.heap.size + 1) none 0 0 0) := by
      have := (BxW.new (w.alloc (.cells #[.slice p n c, .int .i64 T] 25)) none 0 0 0 25).below hb1
      unfold Hid; simpa using this
    have HA : Hid (BxW w1 w.heap.size p n c T) := ((BxW.new w p n c T _).below (below1 _ _)).below hb1
    have HG : Hid (GoodH ws T) := hob
    rw [HRET.out] at hsb
    have HSB : Hid (Sb w1 q T T (stB ws T)) := hsb
    have HF1 : Hid (Is w1 fp m fc fs) := HF.out.below HB.out
    have HI1 : Hid (Is w1 p n c ws) := HI.out.below HB.out
    have r0 := HR.out.bx.c0
    have r1 := HR.out.bx.c1
    have rf0 := HR.out.f0
    have rf1 := HR.out.f1
    have a0 := HA.out.bx.c0
    have a1 := HA.out.bx.c1
    clear hob hsb hb1
    have hts : Value.slice q ((T : Nat) : Int).toNat ((T : Nat) : Int).toNat = .slice q T T := by simp
    rw [hts]
    clear hts
    by_cases hc1 : k < 0 ∨ 3 < k ∨ 1000 < m
    · have HN : Hid (¬ AlOk ws T k fs) := fun hg => by
        have := vc_facts hg.cnt
        rw [hfl.out] at this
        omega
      by_cases h1 : k < 0
      · go_wp2
        exact bodyPost_ret (v := .tuple #[.agg #[.slice none 0 0, .int .i64 0], .int .i64 0, .int .i64 1]) (by simp [results, Tryd.results33, go_sem, r0, r1]) rfl (AlQ.none 1 (Or.inl ⟨HN.out, rfl, rfl, rfl, rfl⟩) ((HB.out.setCell (by simp) _).setCell (by simp) _))
      · by_cases h2 : 3 < k
        · go_wp2
          exact bodyPost_ret (v := .tuple #[.agg #[.slice none 0 0, .int .i64 0], .int .i64 0, .int .i64 1]) (by simp [results, Tryd.results33, go_sem, r0, r1]) rfl (AlQ.none 1 (Or.inl ⟨HN.out, rfl, rfl, rfl, rfl⟩) ((HB.out.setCell (by simp) _).setCell (by simp) _))
        · have h3 : 1000 < m := by omega
          go_wp2
          exact bodyPost_ret (v := .tuple #[.agg #[.slice none 0 0, .int .i64 0], .int .i64 0, .int .i64 1]) (by simp [results, Tryd.results33, go_sem, r0, r1]) rfl (AlQ.none 1 (Or.inl ⟨HN.out, rfl, rfl, rfl, rfl⟩) ((HB.out.setCell (by simp) _).setCell (by simp) _))
    · have hk0 : 0 ≤ k := by omega
      have hk3 : k ≤ 3 := by omega
      have hm : m ≤ 1000 := by omega
      clear hc1
      have qk1 : decide (k < 0) = false := decide_eq_false (by omega)
      have qk2 : decide (3 < k) = false := decide_eq_false (by omega)
      have qk3 : decide ((1000 : Int) < (m : Int)) = false := decide_eq_false (by omega)
      go_upto_region 5 with fail
      clear qk1 qk2 qk3
      go_cut [71] from 37 (fun v wc => wc = w1 ∧ v = .bool (badO k fs))
      case first =>
        have hkk : k = 0 ∨ k = 1 ∨ k = 2 ∨ k = 3 := by omega
        rcases hkk with rfl | rfl | rfl | rfl
        · by_cases hm2 : m = 2
          · subst hm2
            have HBO : Hid (badO 0 fs = false) := by unfold Hid badO vcB; rw [hfl.out]; simp
            go_wp2
            go_meet
            exact ⟨rfl, by rw [HBO.out]⟩
          · have HBO : Hid (badO 0 fs = true) := by unfold Hid badO vcB; rw [hfl.out]; simp; omega
            have hd : ((m : Int) != 2) = true := by simp; omega
            go_wp2
            go_meet
            exact ⟨rfl, by rw [HBO.out]⟩
        · have HBO : Hid (badO 1 fs = false) := by unfold Hid badO vcB; rw [hfl.out]; simp; omega
          go_wp2
          go_meet
          exact ⟨rfl, by rw [HBO.out]⟩
        · by_cases hm2 : m < 1
          · have HBO : Hid (badO 2 fs = true) := by unfold Hid badO vcB; rw [hfl.out]; simp; omega
            have hd : decide ((m : Int) < 1) = true := decide_eq_true (by omega)
            go_wp2
            go_meet
            exact ⟨rfl, by rw [HBO.out]⟩
          · have hd : decide ((m : Int) < 1) = false := decide_eq_false (by omega)
            obtain ⟨fb, fo, rfl, _, g⟩ := HF1.out.cells (by omega)
            have g0 := g 0 (by omega)
            rw [Nat.add_zero] at g0
            have hbo : badO 2 fs = !(fnB (fs.getD 0 0)) := by
              have : vcB 2 fs.length = true := by unfold vcB; rw [hfl.out]; simp; omega
              unfold badO; rw [this]; simp
            have HBO : Hid (badO 2 fs = !(fnB (fs.getD 0 0))) := hbo
            clear g hbo
            generalize fs.getD 0 0 = x0 at g0 HBO
            by_cases hx0 : x0 < 0
            · have HB2 : Hid (badO 2 fs = true) := by unfold Hid; rw [HBO.out]; unfold fnB; simp; omega
              have hd2 : decide (x0 < 0) = true := decide_eq_true hx0
              go_wp2
              go_meet
              exact ⟨rfl, by rw [HB2.out]⟩
            · by_cases hx4 : x0 % 4 = 0
              · have HB2 : Hid (badO 2 fs = false) := by unfold Hid; rw [HBO.out]; unfold fnB; simp [hx4]; omega
                go_wp2
                go_meet
                exact ⟨rfl, by rw [HB2.out]⟩
              · have HB2 : Hid (badO 2 fs = true) := by unfold Hid; rw [HBO.out]; unfold fnB; simp [hx4]
                have hd2 : (x0 % 4 != 0) = true := by simpa using hx4
                go_wp2
                go_meet
                exact ⟨rfl, by rw [HB2.out]⟩
        · by_cases hm2 : m = 1
          · subst hm2
            have HBO : Hid (badO 3 fs = false) := by unfold Hid badO vcB; rw [hfl.out]; simp
            go_wp2
            go_meet
            exact ⟨rfl, by rw [HBO.out]⟩
          · have HBO : Hid (badO 3 fs = true) := by unfold Hid badO vcB; rw [hfl.out]; simp; omega
            have hd : ((m : Int) != 1) = true := by simp; omega
            go_wp2
            go_meet
            exact ⟨rfl, by rw [HBO.out]⟩
      case rest =>
        obtain ⟨rfl, rfl⟩ := hcut
        obtain ⟨bb, hbb⟩ : ∃ bb, badO k fs = bb := ⟨_, rfl⟩
        rw [hbb]
        cases bb
        · have HOB := badO_iff.1 hbb
          have HVC : Hid (vcB k fs.length = true) := HOB.1
          have HFN : Hid (k = 2 → fnB (fs.getD 0 0) = true) := HOB.2
          clear HOB hbb
          go_wp2
          go_loop [12] (fun i => ∃ j : Nat, j ≤ m ∧ i = .int .i64 j ∧ Hid (∀ t, t < j → WordOk ws T (fs.getD t 0))) (fun i => m - (intOf i).toNat)
          case atStart => exact ⟨0, Nat.zero_le _, rfl, fun j hj => absurd hj (Nat.not_lt_zero j)⟩
          case round =>
            obtain ⟨j, hj, rfl, hOK⟩ := hrel
            by_cases hlt : j < m
            · obtain ⟨b, o, rfl, hbl, g⟩ := HF1.out.cells (by omega)
              have g1 := g j hlt
              have hrg := HF1.out.rng j
              clear g
              obtain ⟨x, hx⟩ : ∃ x, fs.getD j 0 = x := ⟨_, rfl⟩
              have HXX : Hid (fs.getD j 0 = x) := hx
              rw [hx] at g1 hrg
              obtain ⟨hrg0, hrg1⟩ := hrg
              clear hx
              obtain ⟨bw, hbw⟩ : ∃ bw, wordOf (stB ws T) T x = bw := ⟨_, rfl⟩
              have HW : Hid (bw = true ↔ WordOk ws T x) := by unfold Hid; rw [← hbw]; exact wordOf_iff (fun _ _ => rfl) x
              cases bw
              · have HN : Hid (¬ AlOk ws T k fs) := fun hg => by
                  have := hg.words j (by rw [hfl.out]; exact hlt)
                  rw [HRET.out, HXX.out, ← HW.out] at this
                  cases this
                go_wp2_with (go_at_call 19; refine (l2word_c x _ T T (stB ws T) _ HSB.out hrg1).mono ?_; rintro e w2 ⟨rfl, hwx⟩; have hwy := hwx.symm; clear hwx; subst hwy; rw [hbw])
                exact bodyPost_ret (v := .tuple #[.agg #[.slice none 0 0, .int .i64 0], .int .i64 0, .int .i64 1]) (by simp [results, Tryd.results33, go_sem, r0, r1]) rfl (AlQ.none 1 (Or.inl ⟨HN.out, rfl, rfl, rfl, rfl⟩) ((HB.out.setCell (by simp) _).setCell (by simp) _))
              · have HWK : Hid (WordOk ws T (fs.getD j 0)) := by unfold Hid; rw [HXX.out]; exact HW.out.1 rfl
                go_wp2_with (go_at_call 19; refine (l2word_c x _ T T (stB ws T) _ HSB.out hrg1).mono ?_; rintro e w2 ⟨rfl, hwx⟩; have hwy := hwx.symm; clear hwx; subst hwy; rw [hbw])
                refine ⟨⟨j + 1, by omega, by go_num, fun t ht => ?_⟩, by simp [intOf]; omega⟩
                by_cases e : t < j
                · exact hOK.out t e
                · rw [show t = j by omega]; exact HWK.out
            · obtain rfl : j = m := by omega
              have HOK : Hid (AlOk ws T k fs) := ⟨HG.out, HVC.out, HFN.out, by rw [HRET.out, hfl.out]; exact hOK.out⟩
              by_cases hfit : n < T + 1 + j
              · have hd : decide ((n : Int) < (T : Int) + 1 + (j : Int)) = true := decide_eq_true (by omega)
                go_wp2
                exact bodyPost_ret (v := .tuple #[.agg #[.slice none 0 0, .int .i64 0], .int .i64 0, .int .i64 13]) (by simp [results, Tryd.results33, go_sem, r0, r1]) rfl (AlQ.none 13 (Or.inr (Or.inl ⟨HOK.out, by rw [hlen.out, hfl.out]; omega, rfl, rfl, rfl, rfl⟩)) ((HB.out.setCell (by simp) _).setCell (by simp) _))
              · have hd : decide ((n : Int) < (T : Int) + 1 + (j : Int)) = false := decide_eq_false (by omega)
                go_wp2_with fail
                clear hd
                refine (l2copy_c p n c T ws _ HI1.out (by omega) (by omega)).mono ?_
                rintro e w2 ⟨g, cap, rfl, hg, hfr, hb2⟩
                have hw1 := HB.out.size
                have HFR : Hid (Fr w2 g n cap ws) := hfr
                have HB2 : Hid (Below wc.heap.size wc w2) := hb2
                have HBW2 : Hid (Below w.heap.size w w2) := HB.out.trans (hb2.mono hw1)
                clear hfr hb2
                obtain ⟨hdr, hhdr⟩ : ∃ hdr : Int, hdr = 4 * (j : Int) + k := ⟨_, rfl⟩
                have HHDR : Hid (hdr = 4 * (j : Int) + k) := hhdr
                have hhdr' := hhdr.symm
                have hdr0 : 0 ≤ hdr := by omega
                have hdr1 : hdr ≤ 5000 := by omega
                have hTn : T < n := by omega
                have hgw : w.heap.size + 1 < g := by have := HR.out.bx.lt; omega
                have hglt := HFR.out.lt
                have hrl := HR.out.bx.lt
                have hal := HA.out.bx.lt
                have hw2 := HB2.out.size
                obtain ⟨X, hX⟩ : ∃ X : Obj, X = .cells #[.slice (some ⟨g, 0, none⟩) n cap, .int .i64 T] 25 := ⟨_, rfl⟩
                have HFW : Hid (Fr (w2.alloc X) g n cap ws) := HFR.out.below (below1 _ _)
                have HAW : Hid (BxW (w2.alloc X) w.heap.size p n c T) := (HA.out.below HB2.out).below (below1 _ _)
                have HRW : Hid (BxW (w2.alloc X) (w.heap.size + 1) none 0 0 0) := (HR.out.below HB2.out).below (below1 _ _)
                have HOW : Hid (BxW (w2.alloc X) w2.heap.size (some ⟨g, 0, none⟩) n cap T) := by rw [hX]; exact BxW.new w2 _ n cap T _
                have HBX : Hid (Below w.heap.size w (w2.alloc X)) := HBW2.out.alloc HBW2.out.size _
                have b0 := HAW.out.bx.c0
                have b1 := HAW.out.bx.c1
                obtain ⟨d0, d1⟩ := HFW.out.cell hTn
                subst hX
                clear hhdr r0 r1 rf0 rf1 a0 a1
                go_wp2
                clear b0 b1 d0 d1 hhdr'
                go_loopw [14] (fun i wr => FlR ws fs T hdr w p n c g cap w2.heap.size j i wr) (fun i _ => j - (intOf i).toNat)
                case atStart =>
                  have hset : Two g g w2 (w2.setCell ⟨g, T, none⟩ (.int .i64 hdr)) := (Two.refl g g _).set (Or.inl rfl) _
                  have hsz : (w2.setCell ⟨g, T, none⟩ (.int .i64 hdr)).heap.size = w2.heap.size := hset.size
                  have hnew := BxW.new (w2.setCell ⟨g, T, none⟩ (.int .i64 hdr)) (some ⟨g, 0, none⟩) n cap T 25
                  rw [hsz] at hnew
                  have hwl := hlen.out
                  refine ⟨0, ws.set T hdr, Nat.zero_le _, rfl, (HFR.out.set T hdr (by rw [List.length_set]; exact hlen.out) (fun i hi => ?_)).below (below1 _ _), fun i hi => ?_, ((HA.out.below HB2.out).two hset (by omega) (by omega)).below (below1 _ _), ((HR.out.below HB2.out).two hset (by omega) (by omega)).below (below1 _ _), hnew, ⟨rfl, Nat.le_refl _, Nat.zero_le _, fun i => (by simp), fun h => absurd h (Nat.lt_irrefl 0)⟩, (HBW2.out.setCell (by simp; omega) _).alloc (by rw [hsz]; exact HBW2.out.size) _⟩
                  · by_cases e : i = T
                    · subst e; simp [List.getD, show i < ws.length by omega]
                    · rw [if_neg e]; simp [List.getD, show ¬ T = i by omega]
                  · unfold cellO
                    by_cases e : i = T
                    · subst e; simp [List.getD, show i < ws.length by omega]
                    · rw [if_neg e, if_neg (by omega)]; simp [List.getD, show ¬ T = i by omega]
                case round =>
                  obtain ⟨i, xs, hi, rfl, hF, hC, hA, hR, hO, hZ, hB⟩ := hrel
                  have b1 := hA.out.bx.c1
                  have o0 := hO.out.bx.c0
                  by_cases hlt2 : i < j
                  · obtain ⟨b, o, rfl, hbl, gg⟩ := HF.out.cells (by omega)
                    have g1 := gg i hlt2
                    rw [← hB.out.cell (p := ⟨b, o + i, none⟩) hbl] at g1
                    clear gg
                    obtain ⟨x, hx⟩ : ∃ x, fs.getD i 0 = x := ⟨_, rfl⟩
                    have HXX : Hid (fs.getD i 0 = x) := hx
                    rw [hx] at g1
                    clear hx
                    obtain ⟨t0, t1⟩ := hF.out.cell (show T + 1 + i < n by omega)
                    have fw1 : IntKind.i64.wrap ((T : Int) + 1) = (T : Int) + 1 := by rw [IntKind.wrap_i64]; omega
                    have fw2 : IntKind.i64.wrap ((T : Int) + 1 + (i : Int)) = (T : Int) + 1 + (i : Int) := by rw [IntKind.wrap_i64]; omega
                    have fn1 : (0 : Int) ≤ (T : Int) + 1 + (i : Int) := by omega
                    have fn2 : (T : Int) + 1 + (i : Int) < (n : Int) := by omega
                    have fn3 : ((T : Int) + 1 + (i : Int)).toNat = T + 1 + i := by omega
                    have fn4 : (i : Int) < (j : Int) := by omega
                    go_wp2_with fail
                    go_region
                    all_goals go_wp2
                    have hset : Two g g wr (wr.setCell ⟨g, T + 1 + i, none⟩ (.int .i64 x)).drew := ((Two.refl g g _).set (Or.inl rfl) _).drew
                    have hxl := hF.out.len
                    refine ⟨⟨i + 1, xs.set (T + 1 + i) x, by omega, by go_num, (hF.out.set (T + 1 + i) x (by rw [List.length_set]; exact hxl) (fun t ht => ?_)).of_block rfl, fun t ht => ?_, hA.out.two hset (by omega) (by omega), hR.out.two hset (by omega) (by omega), hO.out.two hset (by omega) (by omega), ⟨rfl, Nat.le_refl _, Nat.zero_le _, fun i => (by simp), fun h => absurd h (Nat.lt_irrefl 0)⟩, below_drew (hB.out.setCell (by simp; omega) _)⟩, by simp [intOf]; omega⟩
                    · by_cases e : t = T + 1 + i
                      · subst e; simp [List.getD, show T + 1 + i < xs.length by omega]
                      · rw [if_neg e]; simp [List.getD, show ¬ T + 1 + i = t by omega]
                    · have hc := hC.out t ht
                      unfold cellO at hc ⊢
                      by_cases e : t = T + 1 + i
                      · subst e
                        rw [if_neg (by omega), if_pos (by omega), show T + 1 + i - (T + 1) = i by omega, HXX.out]
                        simp [List.getD, show T + 1 + i < xs.length by omega]
                      · have e2 : (xs.set (T + 1 + i) x).getD t 0 = xs.getD t 0 := by simp [List.getD, show ¬ T + 1 + i = t by omega]
                        rw [e2, hc]
                        by_cases e3 : t = T
                        · rw [if_pos e3, if_pos e3]
                        · rw [if_neg e3, if_neg e3]
                          by_cases e4 : T < t ∧ t < T + 1 + i
                          · rw [if_pos e4, if_pos (by omega)]
                          · rw [if_neg e4, if_neg (by omega)]
                  · obtain rfl : i = j := by omega
                    have o1 := hO.out.bx.c1
                    have of1 := hO.out.f1
                    have hsetT : Two w2.heap.size w2.heap.size wr (wr.setCell ⟨w2.heap.size, 1, none⟩ (.int .i64 ((T : Int) + 1 + (i : Int)))) := (Two.refl w2.heap.size w2.heap.size wr).set (a := ⟨w2.heap.size, 1, none⟩) (Or.inl rfl) _
                    have HOT : Hid (BxW (wr.setCell ⟨w2.heap.size, 1, none⟩ (.int .i64 ((T : Int) + 1 + (i : Int)))) w2.heap.size (some ⟨g, 0, none⟩) n cap ((T : Int) + 1 + (i : Int))) := hO.out.setTop _
                    have HAT : Hid (BxW (wr.setCell ⟨w2.heap.size, 1, none⟩ (.int .i64 ((T : Int) + 1 + (i : Int)))) w.heap.size p n c T) := hA.out.two hsetT (by omega) (by omega)
                    have HRT : Hid (BxW (wr.setCell ⟨w2.heap.size, 1, none⟩ (.int .i64 ((T : Int) + 1 + (i : Int)))) (w.heap.size + 1) none 0 0 0) := hR.out.two hsetT (by omega) (by omega)
                    have p0 := HOT.out.bx.c0
                    have p1 := HOT.out.bx.c1
                    have p2 := HAT.out.bx.c1
                    have r0 := HRT.out.bx.c0
                    have r1 := HRT.out.bx.c1
                    have rf0 := HRT.out.f0
                    have rf1 := HRT.out.f1
                    have hFT : Hid (Fr (wr.setCell ⟨w2.heap.size, 1, none⟩ (.int .i64 ((T : Int) + 1 + (i : Int)))) g n cap xs) := hF.out.setOther (by simp; omega) _
                    have hBT : Hid (Below w.heap.size w (wr.setCell ⟨w2.heap.size, 1, none⟩ (.int .i64 ((T : Int) + 1 + (i : Int))))) := hB.out.setCell (by simp; omega) _
                    have fw1 : IntKind.i64.wrap (4 * (T : Int)) = 4 * (T : Int) := by rw [IntKind.wrap_i64]; omega
                    have fw2 : IntKind.i64.wrap (4 * (T : Int) + 1) = 4 * (T : Int) + 1 := by rw [IntKind.wrap_i64]; omega
                    go_wp2
                    go_region
                    all_goals go_wp2
                    have hl : T + 1 + fs.length ≤ ws.length := by rw [hfl.out, hlen.out]; omega
                    have hxs : xs = putO ws T hdr fs := by
                      refine list_ext_getD (by rw [putO_len hl, hlen.out]; exact hF.out.len) (fun t ht => ?_)
                      rw [hC.out t (by rw [← hF.out.len]; exact ht), putO_getD hl, hfl.out]
                    have hf4 : Fr (((wr.setCell ⟨w2.heap.size, 1, none⟩ (.int .i64 ((T : Int) + 1 + (i : Int)))).setCell ⟨w.heap.size + 1, 0, none⟩ (.slice (some ⟨g, 0, none⟩) n cap)).setCell ⟨w.heap.size + 1, 1, none⟩ (.int .i64 ((T : Int) + 1 + (i : Int)))).drew g n cap (putO ws T hdr fs) := by
                      rw [← hxs]
                      exact ((hFT.out.setOther (by simp; omega) _).setOther (by simp; omega) _).of_block rfl
                    refine bodyPost_ret (v := .tuple #[.agg #[.slice (some ⟨g, 0, none⟩) n cap, .int .i64 ((T : Int) + 1 + (i : Int))], .int .i64 (4 * (T : Int) + 1), .int .i64 0]) (by simp [results, Tryd.results33, go_sem, r0, r1]) rfl ⟨some ⟨g, 0, none⟩, n, cap, putO ws T hdr fs, _, _, _, rfl, Or.inr (Or.inr ⟨HOK.out, by rw [hfl.out, hlen.out]; omega, by rw [HRET.out, HHDR.out, hfl.out], by rw [hfl.out], rfl, rfl⟩), hf4.is (rng_putO HI.out.rng HF.out.rng (by omega) hl), (fun _ => ⟨g, rfl, by omega, hf4⟩), below_drew ((hBT.out.setCell (by simp) _).setCell (by simp) _)⟩
        · have HN : Hid (¬ AlOk ws T k fs) := fun hg => by
            have := badO_iff.2 ⟨hg.cnt, hg.fn⟩
            rw [hbb] at this
            cases this
          go_wp2
          exact bodyPost_ret (v := .tuple #[.agg #[.slice none 0 0, .int .i64 0], .int .i64 0, .int .i64 1]) (by simp [results, Tryd.results33, go_sem, r0, r1]) rfl (AlQ.none 1 (Or.inl ⟨HN.out, rfl, rfl, rfl, rfl⟩) ((HB.out.setCell (by simp) _).setCell (by simp) _))
end Go.Proofs.YtmmkpmgidoelpaaDoor.Hp
