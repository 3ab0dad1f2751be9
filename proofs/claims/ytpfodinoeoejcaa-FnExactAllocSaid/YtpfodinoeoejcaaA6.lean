import Derived.Test.YtpfodinoeoejcaaA5
namespace Go.Proofs.Ytpfodinoeoejcaa
open Go.RowKit Ch2
theorem AlRes.le {ws : List Int} {top k : Int} {fs ys : List Int} {t v c : Int} (h : AlRes ws top k fs ys t v c) : ys.length ≤ ws.length := by
  rcases h with ⟨_, rfl, _⟩ | ⟨_, _, rfl, _⟩ | ⟨h1, h2, rfl, _⟩
  · simp
  · simp
  · have := h1.good.lo
    rw [putO_len (by omega)]; exact Nat.le_refl _
/-- The boxes of the law's variables, and the two answers. -/
structure Bxs (w : World) (bA bS bX bG : Nat) (p : Option Addr) (n c : Nat) (top : Int) (g2 : Nat) (sp gp : Option Addr) (sn sc gc : Nat) (stop : Int) (ys : List Int) : Prop where
  A : Bx w bA p n c top
  S : Bx w bS sp sn sc stop
  X : Bx w bX (some ⟨g2, 0, none⟩) n n top
  G : Bx w bG gp sn gc stop
  si : Is w sp sn sc ys
  gi : Is w gp sn gc ys
theorem Bxs.below {w w' : World} {bA bS bX bG : Nat} {p : Option Addr} {n c : Nat} {top : Int} {g2 : Nat} {sp gp : Option Addr} {sn sc gc : Nat} {stop : Int} {ys : List Int} (h : Bxs w bA bS bX bG p n c top g2 sp gp sn sc gc stop ys) (hb : Below w.heap.size w w') : Bxs w' bA bS bX bG p n c top g2 sp gp sn sc gc stop ys :=
  ⟨h.A.below hb, h.S.below hb, h.X.below hb, h.G.below hb, h.si.below hb, h.gi.below hb⟩
theorem Bxs.within {w w' : World} {bA bS bX bG lo hi : Nat} {p : Option Addr} {n c : Nat} {top : Int} {g2 : Nat} {sp gp : Option Addr} {sn sc gc : Nat} {stop : Int} {ys : List Int} (h : Bxs w bA bS bX bG p n c top g2 sp gp sn sc gc stop ys) (hw : Within lo hi w w') (h1 : bA < lo ∨ hi ≤ bA) (h2 : bS < lo ∨ hi ≤ bS) (h3 : bX < lo ∨ hi ≤ bX) (h4 : bG < lo ∨ hi ≤ bG) (h5 : ∀ a, sp = some a → 0 < sn → a.block < lo ∨ hi ≤ a.block) (h6 : ∀ a, gp = some a → 0 < sn → a.block < lo ∨ hi ≤ a.block) : Bxs w' bA bS bX bG p n c top g2 sp gp sn sc gc stop ys :=
  ⟨h.A.within hw h1, h.S.within hw h2, h.X.within hw h3, h.G.within hw h4, h.si.within hw h5, h.gi.within hw h6⟩
set_option maxRecDepth 20000 in
set_option maxHeartbeats 16000000 in
theorem lawAlloc (p : Option Addr) (n c : Nat) (top kd : Int) (ws : List Int) (rp : Option Addr) (rn rc : Nat) (rs : List Int) (w : World) (h : Is w p n c ws) (ht0 : -9223372036854775808 ≤ top) (ht1 : top ≤ 9223372036854775807) (hr : Is w rp rn rc rs) :
    Calls Try.prog 6 #[.agg #[.slice p n c, .int .i64 top], .int .i64 kd, .slice rp rn rc] w fun e w' => e = .returned (.bool true) ∧ Below w.heap.size w w' := by
  have HI : Hid (Is w p n c ws) := h
  have HR : Hid (Is w rp rn rc rs) := hr
  have hsn := h.small.1
  have hsr := hr.small.1
  have HLn : Hid (ws.length = n) := h.len
  have HLr : Hid (rs.length = rn) := hr.len
  have HRG : Hid (∀ i, -9223372036854775808 ≤ ws.getD i 0 ∧ ws.getD i 0 ≤ 9223372036854775807) := h.rng
  have HRR : Hid (∀ i, -9223372036854775808 ≤ rs.getD i 0 ∧ rs.getD i 0 ≤ 9223372036854775807) := hr.rng
  clear h hr
  by_cases hrn : 1048576 < rn
  · have hd : decide ((1048576 : Int) < (rn : Int)) = true := decide_eq_true (by omega)
    go_enter Try.func6, Try.ntmps6
    go_wp2
    go_ret
    exact ⟨rfl, below1 w _⟩
  have hd : decide ((1048576 : Int) < (rn : Int)) = false := decide_eq_false (by omega)
  have hrm : rn ≤ maxLen := by unfold maxLen; omega
  go_enter Try.func6, Try.ntmps6
  go_wp2_with fail
  clear hd
  refine (szHeap_c p n c top 1048576 _ hsn (by omega) (by omega)).mono ?_
  rintro e w1 ⟨rfl, hb1⟩
  have HA1 : Hid (Bx w1 w.heap.size p n c top) := (Bx.new w p n c top _).below hb1
  have HB1 : Hid (Below w.heap.size w w1) := below_alloc hb1
  clear hb1
  have a0 := HA1.out.c0
  have a1 := HA1.out.c1
  by_cases hneg : (1048576 : Int) - n < 0
  · rw [show szOf 1048576 n = -1 by unfold szOf; rw [if_pos hneg]]
    go_wp2
    go_ret
    exact ⟨rfl, HB1.out⟩
  rw [show szOf 1048576 n = 1048576 - n by unfold szOf; rw [if_neg hneg]]
  have hn : n ≤ 1048576 := by omega
  have hnm : n ≤ maxLen := by unfold maxLen; omega
  have hdl : decide ((1048576 : Int) - n < 0) = false := decide_eq_false hneg
  go_wp2_with fail
  clear hdl
  refine (toHeap_c p n c top ws _ (HI.out.below HB1.out) hn).mono ?_
  rintro e w2 ⟨g1, rfl, hg1, ho1, hb2⟩
  have HO1 : Hid (Ro w2 g1 n ws) := ho1
  have HA2 : Hid (Bx w2 w.heap.size p n c top) := HA1.out.below hb2
  have HB2 : Hid (Below w.heap.size w w2) := HB1.out.trans (hb2.mono HB1.out.size)
  clear ho1 hb2 hg1 a0 a1 HA1
  go_wp2_with fail
  refine (toIntS_c rp rn rc rs _ (HR.out.below HB2.out) (by omega)).mono ?_
  rintro e w3 ⟨rfl, ho2, hb3⟩
  have HO2 : Hid (Ro w3 w2.heap.size rn rs) := ho2
  have HO13 : Hid (Ro w3 g1 n ws) := HO1.out.below hb3
  have HA3 : Hid (Bx w3 w.heap.size p n c top) := HA2.out.below hb3
  have HB3 : Hid (Below w.heap.size w w3) := HB2.out.trans (hb3.mono HB2.out.size)
  clear ho2 hb3 HA2 HO1
  go_wp2_with fail
  refine (specAlloc_c _ n n top kd ws _ rn rn rs _ (HO13.out.is HLn.out hnm HRG.out) ht0 ht1 (HO2.out.is HLr.out hrm HRR.out)).mono ?_
  rintro e w4 ⟨sp, sn, sc, ys, stop, sword, scode, rfl, hres, hsis, hswr, hb4⟩
  have HRES : Hid (AlRes ws top kd rs ys stop sword scode) := hres
  have HYL : Hid (ys.length = sn) := hsis.len
  have hsnn : sn ≤ 1048576 := by have := hres.le; rw [HLn.out, HYL.out] at this; omega
  have HSI : Hid (Is w4 sp sn sc ys) := hsis
  have HA4 : Hid (Bx w4 w.heap.size p n c top) := HA3.out.below hb4
  have HB4 : Hid (Below w.heap.size w w4) := HB3.out.trans (hb4.mono HB3.out.size)
  clear hres hsis hswr hb4 HA3 HO13 HO2
  have a0 := (HA4.out.below (below1 w4 (.cells #[.slice sp sn sc, .int .i64 stop] 31))).c0
  have a1 := (HA4.out.below (below1 w4 (.cells #[.slice sp sn sc, .int .i64 stop] 31))).c1
  go_wp2_with fail
  refine (toHeap_c p n c top ws _ (HI.out.below (HB4.out.trans ((below1 _ _).mono HB4.out.size))) hn).mono ?_
  rintro e w5 ⟨g2, rfl, hg2, ho5, hb5⟩
  have HO5 : Hid (Ro w5 g2 n ws) := ho5
  have hg2a : w4.heap.size + 1 ≤ g2 := by simpa using hg2
  have hg2b := ho5.lt
  have HA5 : Hid (Bx w5 w.heap.size p n c top) := (HA4.out.below (below1 _ _)).below hb5
  have HS5 : Hid (Bx w5 w4.heap.size sp sn sc stop) := (Bx.new w4 sp sn sc stop _).below hb5
  have HB45 : Hid (Below w4.heap.size w4 w5) := below_alloc hb5
  have HB5 : Hid (Below w.heap.size w w5) := HB4.out.trans (HB45.out.mono HB4.out.size)
  have hs4 : w.heap.size < w4.heap.size := HA4.out.lt
  clear ho5 hb5 a0 a1 HA4 hg2
  go_wp2_with fail
  refine (toIntS_c rp rn rc rs _ (HR.out.below (HB5.out.trans ((below1 _ _).mono HB5.out.size))) (by omega)).mono ?_
  rintro e w6 ⟨rfl, ho6, hb6⟩
  have HO6 : Hid (Ro w6 (w5.heap.size + 1) rn rs) := by unfold Hid; simpa using ho6
  have HX6 : Hid (Bx w6 w5.heap.size (some ⟨g2, 0, none⟩) n n top) := (Bx.new w5 _ n n top _).below hb6
  have HA6 : Hid (Bx w6 w.heap.size p n c top) := (HA5.out.below (below1 _ _)).below hb6
  have HS6 : Hid (Bx w6 w4.heap.size sp sn sc stop) := (HS5.out.below (below1 _ _)).below hb6
  have HO56 : Hid (Ro w6 g2 n ws) := (HO5.out.below (below1 _ _)).below hb6
  have HB46 : Hid (Below w4.heap.size w4 w6) := HB45.out.trans ((below_alloc hb6).mono HB45.out.size)
  have HB6 : Hid (Below w.heap.size w w6) := HB4.out.trans (HB46.out.mono HB4.out.size)
  have h56 : w5.heap.size + 1 < w6.heap.size := HO6.out.lt
  have h45 := HB45.out.size
  have x0 := HX6.out.c0
  have x1 := HX6.out.c1
  clear ho6 hb6 HA5 HO5 HS5
  have hbI : (w5.alloc (.cells #[.slice (some ⟨g2, 0, none⟩) n n, .int .i64 top] 31)).heap.size = w5.heap.size + 1 := by simp
  rw [hbI]
  clear hbI
  go_wp2_with fail
  refine (implAlloc_c _ n n top kd ws _ rn rn rs _ (HO56.out.is HLn.out hnm HRG.out) ht0 ht1 (HO6.out.is HLr.out hrm HRR.out)).mono ?_
  rintro e w7 ⟨gp, gn, gc, ys', gtop, gword, gcode, rfl, hres, hgis, hgwr, hb7⟩
  obtain ⟨e1, e2, e3, e4⟩ := HRES.out.one hres
  obtain rfl := e1
  obtain rfl := e2
  obtain rfl := e3
  obtain rfl := e4
  obtain rfl : sn = gn := by rw [← HYL.out]; exact hgis.len
  have HGW : Hid (Wr w7 w6.heap.size w7.heap.size gp sn) := hgwr
  have HB67 : Hid (Below w6.heap.size w6 w7) := hb7
  have h67 := hb7.size
  have HSI7 : Hid (Is w7 sp sn sc ys) := HSI.out.below (HB46.out.trans (hb7.mono HB46.out.size))
  have HGI7 : Hid (Is w7 gp sn gc ys) := hgis
  have HO57 : Hid (Ro w7 g2 n ws) := HO56.out.below hb7
  have HO67 : Hid (Ro w7 (w5.heap.size + 1) rn rs) := HO6.out.below hb7
  have HXS : Hid (Bxs (w7.alloc (.cells #[.slice gp sn gc, .int .i64 stop] 31)) w.heap.size w4.heap.size w5.heap.size w7.heap.size p n c top g2 sp gp sn sc gc stop ys) :=
    ⟨(HA6.out.below hb7).below (below1 _ _), (HS6.out.below hb7).below (below1 _ _), (HX6.out.below hb7).below (below1 _ _), Bx.new w7 gp sn gc stop _, HSI7.out.below (below1 _ _), HGI7.out.below (below1 _ _)⟩
  have HB7 : Hid (Below w.heap.size w w7) := HB6.out.trans (hb7.mono HB6.out.size)
  have HSLO : Hid (∀ a, sp = some a → 0 < sn → a.block < w4.heap.size) := by
    intro a ha h0
    obtain ⟨b, o, e, hlt, _⟩ := HSI.out.cells h0
    rw [ha] at e; cases e; exact hlt
  have HGLO : Hid (∀ a, gp = some a → 0 < sn → w6.heap.size ≤ a.block ∧ a.block < w7.heap.size) := by
    intro a ha h0
    obtain ⟨t, _, _, e, r1, r2, _⟩ := HGW.out h0
    rw [ha] at e; cases e; exact ⟨r1, r2⟩
  clear hres hgis hgwr hb7 x0 x1 HA6 HS6 HX6 HO56 HO6 HSI
  have s0 := HXS.out.S.c0
  have s1 := HXS.out.S.c1
  go_wp2_with fail
  refine (eqHeap_c gp sp sn gc sc stop ys _ HXS.out.gi HXS.out.si).mono ?_
  rintro e w8 ⟨rfl, hb8⟩
  have hne1 : (sword != sword) = false := by simp
  have hne2 : (scode != scode) = false := by simp
  have HX8 : Hid (Bxs w8 w.heap.size w4.heap.size w5.heap.size w7.heap.size p n c top g2 sp gp sn sc gc stop ys) := HXS.out.below hb8
  have HB78 : Hid (Below w7.heap.size w7 w8) := below_alloc hb8
  have HB8 : Hid (Below w.heap.size w w8) := HB7.out.trans (HB78.out.mono HB7.out.size)
  clear hb8 s0 s1 HXS
  have a0 := HX8.out.A.c0
  have a1 := HX8.out.A.c1
  have x0 := HX8.out.X.c0
  have x1 := HX8.out.X.c1
  go_wp2_with fail
  go_cut [70] from 66 (fun v wc => v = .bool false ∧ Below w8.heap.size w8 wc)
  case first =>
    go_region_with (first | (go_at_call 22; refine (toHeap_c p n c top ws _ ?y1 hn).mono ?_; (case y1 => exact HI.out.below (below_drew HB8.out)); rintro e w9 ⟨g3, rfl, _, ho9, hb9⟩; have HO9 : Hid (Ro w9 g3 n ws) := ho9; have HO59 : Hid (Ro w9 g2 n ws) := ((HO57.out.below HB78.out).below (below_drew (Below.refl _ _))).below hb9; have HB89 : Hid (Below w8.heap.size w8 w9) := (below_drew (Below.refl _ _)).trans hb9; have x8 := (HX8.out.below HB89.out).X.c0; have x9 := (HX8.out.below HB89.out).X.c1; clear ho9 hb9) | (go_at_call 17; refine (eqHeap_c _ _ n n n top ws _ (HO59.out.is HLn.out hnm HRG.out) (HO9.out.is HLn.out hnm HRG.out)).mono ?_; rintro e w10 ⟨rfl, hb10⟩; have HB810 : Hid (Below w8.heap.size w8 w10) := HB89.out.trans (hb10.mono HB89.out.size); clear hb10))
    all_goals go_wp2_with fail
    all_goals go_meet
    all_goals exact ⟨rfl, HB810.out⟩
  case rest =>
    obtain ⟨rfl, hbc⟩ := hcut
    have HBC : Hid (Below w8.heap.size w8 wc) := hbc
    have HXC : Hid (Bxs wc w.heap.size w4.heap.size w5.heap.size w7.heap.size p n c top g2 sp gp sn sc gc stop ys) := HX8.out.below hbc
    have HB7C : Hid (Below w7.heap.size w7 wc) := HB78.out.trans (hbc.mono HB78.out.size)
    have HBCW : Hid (Below w.heap.size w wc) := HB8.out.trans (hbc.mono HB8.out.size)
    clear hbc a0 a1 x0 x1 HX8
    go_wp2_with fail
    refine (toIntS_c rp rn rc rs _ (HR.out.below HBCW.out) (by omega)).mono ?_
    rintro e w11 ⟨rfl, ho11, hb11⟩
    have HO11 : Hid (Ro w11 wc.heap.size rn rs) := ho11
    have HB711 : Hid (Below w7.heap.size w7 w11) := HB7C.out.trans (hb11.mono HB7C.out.size)
    have HX11 : Hid (Bxs w11 w.heap.size w4.heap.size w5.heap.size w7.heap.size p n c top g2 sp gp sn sc gc stop ys) := HXC.out.below hb11
    clear ho11 hb11 HXC
    go_wp2_with fail
    refine (eqIntS_c _ _ rn rn rn rs _ ((HO67.out.below HB711.out).is HLr.out hrm HRR.out) (HO11.out.is HLr.out hrm HRR.out)).mono ?_
    rintro e w12 ⟨rfl, q12, hw12⟩
    have HB1112 : Hid (Below w11.heap.size w11 w12) := by rw [hw12]; exact below_drewN' (Below.refl _ _) q12
    have HB712 : Hid (Below w7.heap.size w7 w12) := HB711.out.trans (HB1112.out.mono HB711.out.size)
    have HX12 : Hid (Bxs w12 w.heap.size w4.heap.size w5.heap.size w7.heap.size p n c top g2 sp gp sn sc gc stop ys) := HX11.out.below HB1112.out
    clear hw12 HX11
    have x0 := HX12.out.X.c0
    have x1 := HX12.out.X.c1
    go_wp2_with fail
    refine (markHeap_c _ n n (w4.heap.size + 1) w5.heap.size top 1 _ ((HO57.out.below HB712.out).wr hg2a hg2b) hn (by omega) (by omega)).mono ?_
    rintro e w13 ⟨rfl, _, wm, hbm, hw13⟩
    have HX13 : Hid (Bxs w13 w.heap.size w4.heap.size w5.heap.size w7.heap.size p n c top g2 sp gp sn sc gc stop ys) :=
      (HX12.out.below hbm).within hw13 (by omega) (by omega) (by omega) (by omega) (fun a ha h0 => Or.inl (by have := HSLO.out a ha h0; omega)) (fun a ha h0 => Or.inr (by have := HGLO.out a ha h0; omega))
    have HI13 : Hid (Ro w13 (w5.heap.size + 1) rn rs) := ((HO67.out.below HB712.out).below hbm).of_block (hw13.block _ (by omega))
    have HG13 : Hid (Wr w13 w6.heap.size w7.heap.size gp sn) := ((HGW.out.below HB712.out).below hbm).within hw13 (by omega)
    have HB13 : Hid (Below w4.heap.size w4 w13) := by
      have h1 := HB46.out.trans (HB67.out.mono HB46.out.size)
      have h2 := h1.trans (HB712.out.mono h1.size)
      have h3 := h2.trans (hbm.mono h2.size)
      exact h3.trans (hw13.below (by omega))
    clear hbm hw13 x0 x1 HX12
    go_wp2_with fail
    refine (markIntS_c _ rn rn (w5.heap.size + 1) (w5.heap.size + 2) (1 + n) _ (HI13.out.wr (Nat.le_refl _) (by omega)) (by omega) (by omega) (by omega)).mono ?_
    rintro e w14 ⟨rfl, _, hw14⟩
    have HX14 : Hid (Bxs w14 w.heap.size w4.heap.size w5.heap.size w7.heap.size p n c top g2 sp gp sn sc gc stop ys) :=
      HX13.out.within hw14 (by omega) (by omega) (by omega) (by omega) (fun a ha h0 => Or.inl (by have := HSLO.out a ha h0; omega)) (fun a ha h0 => Or.inr (by have := HGLO.out a ha h0; omega))
    have HG14 : Hid (Wr w14 w6.heap.size w7.heap.size gp sn) := HG13.out.within hw14 (by omega)
    have HB14 : Hid (Below w4.heap.size w4 w14) := HB13.out.trans (hw14.below (by omega))
    clear hw14 HX13
    have s0 := HX14.out.S.c0
    have s1 := HX14.out.S.c1
    have g0 := HX14.out.G.c0
    have g1' := HX14.out.G.c1
    have hkn : decide ((1 : Int) + n + rn < 0) = false := decide_eq_false (by omega)
    go_wp2_with fail
    refine (eqHeap_c gp sp sn gc sc stop ys _ HX14.out.gi HX14.out.si).mono ?_
    rintro e w15 ⟨rfl, hb15⟩
    have HX15 : Hid (Bxs w15 w.heap.size w4.heap.size w5.heap.size w7.heap.size p n c top g2 sp gp sn sc gc stop ys) := HX14.out.below hb15
    have HG15 : Hid (Wr w15 w6.heap.size w7.heap.size gp sn) := HG14.out.below hb15
    have HB15 : Hid (Below w4.heap.size w4 w15) := HB14.out.trans (hb15.mono HB14.out.size)
    clear hb15 s0 s1 g0 g1' hkn HX14
    have g0 := HX15.out.G.c0
    have g1' := HX15.out.G.c1
    go_wp2_with fail
    refine (markHeap_c gp sn gc w6.heap.size w7.heap.size stop 1 _ HG15.out hsnn (by omega) (by omega)).mono ?_
    rintro e w16 ⟨rfl, hh16, wm, hbm, hw16⟩
    have HH16 : Hid (Held w16 gp sn 1) := hh16
    have HS16 : Hid (Bx w16 w4.heap.size sp sn sc stop ∧ Is w16 sp sn sc ys ∧ Bx w16 w.heap.size p n c top ∧ Bx w16 w7.heap.size gp sn gc stop) :=
      ⟨(HX15.out.S.below hbm).within hw16 (by omega), (HX15.out.si.below hbm).within hw16 (fun a ha h0 => Or.inl (by have := HSLO.out a ha h0; omega)), (HX15.out.A.below hbm).within hw16 (by omega), (HX15.out.G.below hbm).within hw16 (by omega)⟩
    have HB16 : Hid (Below w4.heap.size w4 w16) := (HB15.out.trans (hbm.mono HB15.out.size)).trans (hw16.below (by omega))
    clear hh16 hbm hw16 g0 g1' HX15
    have g0 := HS16.out.2.2.2.c0
    have g1' := HS16.out.2.2.2.c1
    go_wp2_with fail
    refine (heldHeap_c gp sn gc stop 1 _ HH16.out hsnn (by omega) (by omega)).mono ?_
    rintro e w17 ⟨rfl, hb17⟩
    have HS17 : Hid (Bx w17 w4.heap.size sp sn sc stop ∧ Is w17 sp sn sc ys ∧ Bx w17 w.heap.size p n c top) := ⟨HS16.out.1.below hb17, HS16.out.2.1.below hb17, HS16.out.2.2.1.below hb17⟩
    have HB17 : Hid (Below w4.heap.size w4 w17) := HB16.out.trans (hb17.mono HB16.out.size)
    have HBW17 : Hid (Below w.heap.size w w17) := HB4.out.trans (HB17.out.mono HB4.out.size)
    clear hb17 g0 g1' HS16
    have hq : decide ((1 : Int) + sn < 0) = false := decide_eq_false (by omega)
    have hq2 : ((1 : Int) + sn != 1 + sn) = false := by simp
    have a0 := HS17.out.2.2.c0
    have a1 := HS17.out.2.2.c1
    go_wp2_with fail
    refine (toHeap_c p n c top ws _ (HI.out.below HBW17.out) hn).mono ?_
    rintro e w18 ⟨g4, rfl, _, ho18, hb18⟩
    have HO18 : Hid (Ro w18 g4 n ws) := ho18
    have HS18 : Hid (Bx w18 w4.heap.size sp sn sc stop ∧ Is w18 sp sn sc ys) := ⟨HS17.out.1.below hb18, HS17.out.2.1.below hb18⟩
    have HBW18 : Hid (Below w.heap.size w w18) := HBW17.out.trans (hb18.mono HBW17.out.size)
    clear ho18 hb18 a0 a1 HS17
    go_wp2_with fail
    refine (toIntS_c rp rn rc rs _ (HR.out.below HBW18.out) (by omega)).mono ?_
    rintro e w19 ⟨rfl, ho19, hb19⟩
    have HO19 : Hid (Ro w19 w18.heap.size rn rs) := ho19
    have HO1819 : Hid (Ro w19 g4 n ws) := HO18.out.below hb19
    have HS19 : Hid (Bx w19 w4.heap.size sp sn sc stop ∧ Is w19 sp sn sc ys) := ⟨HS18.out.1.below hb19, HS18.out.2.below hb19⟩
    have HBW19 : Hid (Below w.heap.size w w19) := HBW18.out.trans (hb19.mono HBW18.out.size)
    clear ho19 hb19 HS18
    go_wp2_with fail
    refine (implAlloc_c _ n n top kd ws _ rn rn rs _ (HO1819.out.is HLn.out hnm HRG.out) ht0 ht1 (HO19.out.is HLr.out hrm HRR.out)).mono ?_
    rintro e w20 ⟨hp, hn', hc, ys', htop, hword, hcode, rfl, hres, hhis, _, hb20⟩
    obtain ⟨e1, e2, e3, e4⟩ := HRES.out.one hres
    obtain rfl := e1
    obtain rfl := e2
    obtain rfl := e3
    obtain rfl := e4
    obtain rfl : sn = hn' := by rw [← HYL.out]; exact hhis.len
    have HHI : Hid (Is w20 hp sn hc ys) := hhis
    have HS20 : Hid (Bx w20 w4.heap.size sp sn sc stop ∧ Is w20 sp sn sc ys) := ⟨HS19.out.1.below hb20, HS19.out.2.below hb20⟩
    have HBW20 : Hid (Below w.heap.size w w20) := HBW19.out.trans (hb20.mono HBW19.out.size)
    clear hres hhis hb20 HS19
    have s0 := (HS20.out.1.below (below1 w20 (.cells #[.slice hp sn hc, .int .i64 stop] 31))).c0
    have s1 := (HS20.out.1.below (below1 w20 (.cells #[.slice hp sn hc, .int .i64 stop] 31))).c1
    go_wp2_with fail
    refine (eqHeap_c hp sp sn hc sc stop ys _ (HHI.out.below (below1 _ _)) (HS20.out.2.below (below1 _ _))).mono ?_
    rintro e w21 ⟨rfl, hb21⟩
    have HBW21 : Hid (Below w.heap.size w w21) := HBW20.out.trans ((below_alloc hb21).mono HBW20.out.size)
    clear hb21
    go_wp2
    go_ret
    exact ⟨rfl, HBW21.out⟩
end Go.Proofs.Ytpfodinoeoejcaa
