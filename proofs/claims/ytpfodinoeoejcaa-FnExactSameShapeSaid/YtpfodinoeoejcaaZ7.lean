import Derived.Test.YtpfodinoeoejcaaZ6
import Derived.Test.YtpfodinoeoejcaaZ2
import Derived.Test.YtpfodinoeoejcaaC5
namespace Go.Proofs.Ytpfodinoeoejcaa
open Go.RowKit Ch2 Go.Maps
theorem CoRes.top {ws rs ys zs : List Int} {top t c : Int} (h : CoRes ws top rs ys t zs c) (hG : GoodR ws top rs) : ys.length = ws.length ∧ (∃ k : Nat, t = k ∧ k ≤ ws.length) ∧ zs.length = rs.length := by
  obtain ⟨K, h1, h2, h3, h4, rfl, rfl, _⟩ := h.good hG
  refine ⟨h3, ⟨_, rfl, ?_⟩, by simp⟩
  have := (h2.top_le (fun q hq => (hG.good.heads q hq).2)).1
  have := hG.good.hi
  have := hG.good.lo
  omega
set_option maxRecDepth 20000 in
set_option maxHeartbeats 8000000 in
theorem specSameShape_c (p : Option Addr) (n c : Nat) (top : Int) (ws : List Int) (rp : Option Addr) (rn rc : Nat) (rs : List Int) (p' : Option Addr) (n' c' : Nat) (top' : Int) (vs : List Int) (op : Option Addr) (on oc : Nat) (os : List Int) (w : World) (hI : Is w p n c ws) (ht0 : -9223372036854775808 ≤ top) (ht1 : top ≤ 9223372036854775807) (hR : Is w rp rn rc rs) (hI' : Is w p' n' c' vs) (ht0' : -9223372036854775808 ≤ top') (ht1' : top' ≤ 9223372036854775807) (hO : Is w op on oc os) (hnn : n ≤ 1048576) (hnn' : n' ≤ 1048576) :
    Calls Try.prog 32 #[.agg #[.slice p n c, .int .i64 top], .slice rp rn rc, .agg #[.slice p' n' c', .int .i64 top'], .slice op on oc] w fun e w' => ShP ws top rs vs top' os w w' e := by
  have HI : Hid (Is w p n c ws) := hI
  have HR : Hid (Is w rp rn rc rs) := hR
  have HI' : Hid (Is w p' n' c' vs) := hI'
  have HO : Hid (Is w op on oc os) := hO
  have hrs := hR.small.1
  have hos := hO.small.1
  have hrl : Hid (rs.length = rn) := hR.len
  have hol : Hid (os.length = on) := hO.len
  clear hI hR hI' hO
  obtain ⟨W, hW⟩ : ∃ W, W = (w.alloc (.cells #[.slice p n c, .int .i64 top] 31)).alloc (.cells #[.slice p' n' c', .int .i64 top'] 31) := ⟨_, rfl⟩
  have HB : Hid (Below w.heap.size w W) := by unfold Hid; rw [hW]; exact below2 w _ _
  have HA : Hid (Bx W w.heap.size p n c top) := by unfold Hid; rw [hW]; exact (Bx.new w p n c top _).below (below1 _ _)
  have HG : Hid (Bx W (w.heap.size + 1) p' n' c' top') := by
    have := Bx.new (w.alloc (.cells #[.slice p n c, .int .i64 top] 31)) p' n' c' top' 31
    unfold Hid; rw [hW]; simpa using this
  go_enter Try.func32, Try.ntmps32
  go_wp2_with fail
  rw [← hW]
  clear hW
  refine (specValidHeap_c p n c top ws rp rn rc rs W (HI.out.below HB.out) ht0 ht1 (HR.out.below HB.out)).mono ?_
  rintro e w1 ⟨b, rfl, hb, hb1⟩
  have HB1 : Hid (Below w.heap.size w w1) := HB.out.trans (hb1.mono HB.out.size)
  have HG1 : Hid (Bx w1 (w.heap.size + 1) p' n' c' top') := HG.out.below hb1
  have HA1 : Hid (Bx w1 w.heap.size p n c top) := HA.out.below hb1
  clear hb1
  cases b with
  | false =>
    have HN : Hid (¬ GoodR ws top rs) := fun h => by have := hb.2 h; cases this
    clear hb
    go_wp2_with fail
    go_ret
    exact ⟨false, rfl, ⟨fun h => (by cases h), fun h => absurd h.1 HN.out⟩, HB1.out⟩
  | true =>
    have HGR : Hid (GoodR ws top rs) := hb.1 rfl
    have g0 := HG1.out.c0
    have g1 := HG1.out.c1
    clear hb
    go_wp2_with fail
    refine (specValidHeap_c p' n' c' top' vs op on oc os w1 (HI'.out.below HB1.out) ht0' ht1' (HO.out.below HB1.out)).mono ?_
    rintro e w2 ⟨b, rfl, hb, hb2⟩
    have HB2 : Hid (Below w.heap.size w w2) := HB1.out.trans (hb2.mono HB1.out.size)
    have HG2 : Hid (Bx w2 (w.heap.size + 1) p' n' c' top') := HG1.out.below hb2
    have HA2 : Hid (Bx w2 w.heap.size p n c top) := HA1.out.below hb2
    clear hb2 g0 g1
    cases b with
    | false =>
      have HN : Hid (¬ GoodR vs top' os) := fun h => by have := hb.2 h; cases this
      clear hb
      go_wp2_with fail
      go_ret
      exact ⟨false, rfl, ⟨fun h => (by cases h), fun h => absurd h.2.1 HN.out⟩, HB2.out⟩
    | true =>
      have HGO : Hid (GoodR vs top' os) := hb.1 rfl
      clear hb
      by_cases hne : rn = on
      · subst hne
        have a0 := HA2.out.c0
        have a1 := HA2.out.c1
        go_wp2_with fail
        refine (specCollect_c p n c top ws rp rn rc rs w2 (HI.out.below HB2.out) ht0 ht1 (HR.out.below HB2.out) hnn).mono ?_
        rintro e w3 ⟨ap, an, ac, ys, t, aq, am, ad, zs, code, rfl, hco, hya, hza, _, hb3⟩
        have HCO : Hid (CoRes ws top rs ys t zs code) := hco
        obtain ⟨k1, ⟨k, rfl, k2⟩, k3⟩ := hco.top HGR.out
        have hwl := HGR.out.good.size
        have hkn : k ≤ 20000 := by omega
        have HYI : Hid (Is w3 ap an ac ys) := hya
        have HZI : Hid (Is w3 aq am ad zs) := hza
        have HYL : Hid (an = ws.length) := by unfold Hid; rw [← k1]; exact hya.len.symm
        have HZL : Hid (am = rn) := by unfold Hid; rw [← hza.len, k3]; exact hrl.out
        have hkl : k ≤ an := by rw [HYL.out]; exact k2
        have HB3 : Hid (Below w.heap.size w w3) := HB2.out.trans (hb3.mono HB2.out.size)
        have HG3 : Hid (Bx w3 (w.heap.size + 1) p' n' c' top') := HG2.out.below hb3
        obtain ⟨W3, hW3⟩ : ∃ W3, W3 = w3.alloc (.cells #[.slice ap an ac, .int .i64 (k : Int)] 31) := ⟨_, rfl⟩
        have HBW3 : Hid (Below w3.heap.size w3 W3) := by unfold Hid; rw [hW3]; exact below1 _ _
        have HBA : Hid (Bx W3 w3.heap.size ap an ac (k : Int)) := by unfold Hid; rw [hW3]; exact Bx.new _ _ _ _ _ _
        have HGW : Hid (Bx W3 (w.heap.size + 1) p' n' c' top') := HG3.out.below HBW3.out
        have HBW : Hid (Below w.heap.size w W3) := HB3.out.trans (HBW3.out.mono HB3.out.size)
        have g0 := HGW.out.c0
        have g1 := HGW.out.c1
        rw [hW3] at g0 g1
        clear hco hya hza hb3 a0 a1 k1 k2 k3 hwl
        go_wp2_with fail
        rw [← hW3]
        clear hW3
        refine (specCollect_c p' n' c' top' vs op rn oc os W3 (HI'.out.below HBW.out) ht0' ht1' (HO.out.below HBW.out) hnn').mono ?_
        rintro e w4 ⟨bp, bn, bc, us, t, bq, bm, bd, xs, code', rfl, hco, hya, hza, _, hb4⟩
        have HCO' : Hid (CoRes vs top' os us t xs code') := hco
        obtain ⟨k1, ⟨k', rfl, k2⟩, k3⟩ := hco.top HGO.out
        have hwl := HGO.out.good.size
        have hkn' : k' ≤ 20000 := by omega
        have HUI : Hid (Is w4 bp bn bc us) := hya
        have HXI : Hid (Is w4 bq bm bd xs) := hza
        have HUL : Hid (bn = vs.length) := by unfold Hid; rw [← k1]; exact hya.len.symm
        have HXL : Hid (bm = rn) := by unfold Hid; rw [← hza.len, k3]; exact hol.out
        have hkl' : k' ≤ bn := by rw [HUL.out]; exact k2
        have HB4 : Hid (Below w.heap.size w w4) := HBW.out.trans (hb4.mono HBW.out.size)
        have HBA4 : Hid (Bx w4 w3.heap.size ap an ac (k : Int)) := HBA.out.below hb4
        have HYI4 : Hid (Is w4 ap an ac ys) := (HYI.out.below HBW3.out).below hb4
        have HZI4 : Hid (Is w4 aq am ad zs) := (HZI.out.below HBW3.out).below hb4
        obtain ⟨W4, hW4⟩ : ∃ W4, W4 = w4.alloc (.cells #[.slice bp bn bc, .int .i64 (k' : Int)] 31) := ⟨_, rfl⟩
        have HBW4 : Hid (Below w4.heap.size w4 W4) := by unfold Hid; rw [hW4]; exact below1 _ _
        have HBB : Hid (Bx W4 w4.heap.size bp bn bc (k' : Int)) := by unfold Hid; rw [hW4]; exact Bx.new _ _ _ _ _ _
        have HBAW : Hid (Bx W4 w3.heap.size ap an ac (k : Int)) := HBA4.out.below HBW4.out
        have HFA : Hid (Below w.heap.size w W4) := HB4.out.trans (HBW4.out.mono HB4.out.size)
        have HYW : Hid (Is W4 ap an ac ys) := HYI4.out.below HBW4.out
        have HZW : Hid (Is W4 aq am ad zs) := HZI4.out.below HBW4.out
        have HUW : Hid (Is W4 bp bn bc us) := HUI.out.below HBW4.out
        have HXW : Hid (Is W4 bq bm bd xs) := HXI.out.below HBW4.out
        have HIFF : Hid (Shp ws rs vs os ↔ k = k' ∧ (∀ i, i < k → ys.getD i 0 = us.getD i 0) ∧ zs = xs) := by
          constructor
          · intro hs
            obtain ⟨h1, h2, h3⟩ := shp_same HGR.out HGO.out HCO.out HCO'.out hs
            exact ⟨by omega, fun i hi => h2 i (by omega), h3⟩
          · rintro ⟨h1, h2, h3⟩
            exact same_shp HGR.out HGO.out HCO.out HCO'.out (by rw [hrl.out, hol.out]) (by rw [h1]) (fun i hi => h2 i (by omega)) h3
        have HZLen : Hid (zs.length = rn ∧ xs.length = rn) := ⟨by rw [HZI.out.len]; exact HZL.out, by rw [k3]; exact hol.out⟩
        clear hco hya hza hb4 g0 g1 k1 k2 k3 hwl
        have c1 := HBAW.out.c1
        have d1 := HBB.out.c1
        rw [hW4] at c1 d1
        obtain rfl := HZL.out.symm
        obtain rfl := HXL.out.symm
        by_cases hkk : k = k'
        · subst hkk
          have e0 : ((k : Int) != (k : Int)) = false := by simp
          go_wp2_with fail
          go_loopw [15] (fun iv wr => ∃ i : Nat, i ≤ k ∧ iv = .int .i64 i ∧ Hid (∀ j, j < i → ys.getD j 0 = us.getD j 0) ∧ Hid (Below W4.heap.size W4 wr)) (fun iv _ => k - (intOf iv).toNat)
          case atStart => exact ⟨0, Nat.zero_le _, rfl, fun j hj => absurd hj (Nat.not_lt_zero j), by unfold Hid; rw [← hW4]; exact Below.refl _ _⟩
          case round =>
            clear hW4
            rename World => wA
            obtain ⟨i, hi, rfl, hj, hb⟩ := hrel
            have hX := Hid.mk' (HBAW.out.below hb.out)
            have hY := Hid.mk' (HBB.out.below hb.out)
            have a0 := hX.out.c0
            have a1 := hX.out.c1
            have b0 := hY.out.c0
            have b1 := hY.out.c1
            clear c1 d1
            by_cases hlt : i < k
            · obtain ⟨x1, o1, rfl, _, g1⟩ := (HYW.out.below hb.out).cells (by omega)
              obtain ⟨x2, o2, rfl, _, g2⟩ := (HUW.out.below hb.out).cells (by omega)
              have q1 := g1 i (by omega)
              have q2 := g2 i (by omega)
              clear g1 g2
              obtain ⟨x, hx⟩ : ∃ x, ys.getD i 0 = x := ⟨_, rfl⟩
              obtain ⟨y, hy⟩ : ∃ y, us.getD i 0 = y := ⟨_, rfl⟩
              rw [hx] at q1
              rw [hy] at q2
              have HXY : Hid (ys.getD i 0 = x ∧ us.getD i 0 = y) := ⟨hx, hy⟩
              clear hx hy
              have f1 : (i : Int) < (an : Int) := by omega
              have f2 : (i : Int) < (bn : Int) := by omega
              by_cases hxy : x = y
              · subst hxy
                have e1 : (x != x) = false := by simp
                have FIN : Hid ((∃ i' : Nat, i' ≤ k ∧ (Value.int .i64 ((i : Int) + 1)) = .int .i64 i' ∧ Hid (∀ j, j < i' → ys.getD j 0 = us.getD j 0) ∧ Hid (Below W4.heap.size W4 wA.drew)) ∧ k - (intOf (.int .i64 ((i : Int) + 1))).toNat < k - (intOf (.int .i64 (i : Int))).toNat) := by
                  refine ⟨⟨i + 1, by omega, by go_num, fun j hj' => ?_, below_drew hb.out⟩, by simp [intOf]; omega⟩
                  by_cases e : j < i
                  · exact hj.out j e
                  · obtain rfl : j = i := by omega
                    rw [HXY.out.1, HXY.out.2]
                go_wp2_with fail
                go_region
                all_goals go_wp2_with fail
                all_goals exact FIN.out
              · have e1 : (x != y) = true := by simpa using hxy
                have HN : Hid (¬ Shp ws rs vs os) := fun h => hxy (by rw [← HXY.out.1, ← HXY.out.2]; exact (HIFF.out.1 h).2.1 i hlt)
                go_wp2_with fail
                go_region
                all_goals go_wp2_with fail
                all_goals go_ret
                all_goals exact ⟨false, rfl, ⟨fun h => (by cases h), fun h => absurd h.2.2 HN.out⟩, HFA.out.trans ((below_drew hb.out).mono HFA.out.size)⟩
            · obtain rfl : i = k := by omega
              have HFB : Hid (Below w.heap.size w wA) := HFA.out.trans (hb.out.mono HFA.out.size)
              have HZR : Hid (Is wA aq rn ad zs) := HZW.out.below hb.out
              have HXR : Hid (Is wA bq rn bd xs) := HXW.out.below hb.out
              go_wp2_with fail
              go_loopw [16] (fun iv wy => ∃ j : Nat, j ≤ rn ∧ iv = .int .i64 j ∧ Hid (∀ l, l < j → zs.getD l 0 = xs.getD l 0) ∧ Hid (Below wA.heap.size wA wy)) (fun iv _ => rn - (intOf iv).toNat)
              case atStart => exact ⟨0, Nat.zero_le _, rfl, fun j hj => absurd hj (Nat.not_lt_zero j), Below.refl _ _⟩
              case round =>
                obtain ⟨j, hjn, rfl, hl, hbx⟩ := hrel
                have hbz := Hid.mk' hbx.out
                clear a0 a1 b0 b1
                by_cases hlt2 : j < rn
                · obtain ⟨x1, o1, rfl, _, g1⟩ := (HZR.out.below hbx.out).cells (by omega)
                  obtain ⟨x2, o2, rfl, _, g2⟩ := (HXR.out.below hbx.out).cells (by omega)
                  have q1 := g1 j hlt2
                  have q2 := g2 j hlt2
                  clear g1 g2
                  obtain ⟨x, hx⟩ : ∃ x, zs.getD j 0 = x := ⟨_, rfl⟩
                  obtain ⟨y, hy⟩ : ∃ y, xs.getD j 0 = y := ⟨_, rfl⟩
                  rw [hx] at q1
                  rw [hy] at q2
                  have HXY : Hid (zs.getD j 0 = x ∧ xs.getD j 0 = y) := ⟨hx, hy⟩
                  clear hx hy
                  by_cases hxy : x = y
                  · subst hxy
                    have e1 : (x != x) = false := by simp
                    have FIN : Hid ((∃ i' : Nat, i' ≤ rn ∧ (Value.int .i64 ((j : Int) + 1)) = .int .i64 i' ∧ Hid (∀ l, l < i' → zs.getD l 0 = xs.getD l 0) ∧ Hid (Below wA.heap.size wA wr.drew)) ∧ rn - (intOf (.int .i64 ((j : Int) + 1))).toNat < rn - (intOf (.int .i64 (j : Int))).toNat) := by
                      refine ⟨⟨j + 1, by omega, by go_num, fun l hl' => ?_, below_drew hbx.out⟩, by simp [intOf]; omega⟩
                      by_cases e : l < j
                      · exact hl.out l e
                      · obtain rfl : l = j := by omega
                        rw [HXY.out.1, HXY.out.2]
                    go_wp2_with fail
                    go_region
                    all_goals go_wp2_with fail
                    all_goals exact FIN.out
                  · have e1 : (x != y) = true := by simpa using hxy
                    have HN : Hid (¬ Shp ws rs vs os) := fun h => hxy (by rw [← HXY.out.1, ← HXY.out.2, (HIFF.out.1 h).2.2])
                    go_wp2_with fail
                    go_region
                    all_goals go_wp2_with fail
                    all_goals go_ret
                    all_goals exact ⟨false, rfl, ⟨fun h => (by cases h), fun h => absurd h.2.2 HN.out⟩, HFB.out.trans ((below_drew hbx.out).mono HFB.out.size)⟩
                · obtain rfl : j = rn := by omega
                  have HY : Hid (Shp ws rs vs os) := HIFF.out.2 ⟨by simp, hj.out, list_ext_getD (by rw [HZLen.out.1, HZLen.out.2]) (fun l h => hl.out l (by rw [HZLen.out.1] at h; exact h))⟩
                  go_wp2_with fail
                  go_ret
                  exact ⟨true, rfl, ⟨fun _ => ⟨HGR.out, HGO.out, HY.out⟩, fun _ => rfl⟩, HFB.out.trans (hbx.out.mono HFB.out.size)⟩
        · have e0 : ((k : Int) != (k' : Int)) = true := by simp; omega
          go_wp2_with fail
          go_ret
          exact ⟨false, rfl, ⟨fun h => (by cases h), fun h => absurd (HIFF.out.1 h.2.2).1 hkk⟩, by rw [← hW4]; exact HFA.out⟩
      · have hb : ((rn : Int) != (on : Int)) = true := by simp; omega
        go_wp2_with fail
        go_ret
        exact ⟨false, rfl, ⟨fun h => (by cases h), fun h => by
          obtain ⟨_, _, R, _, hr⟩ := h
          have := hr.1
          rw [hrl.out, hol.out] at this
          exact absurd this hne⟩, HB2.out⟩
end Go.Proofs.Ytpfodinoeoejcaa
