import Derived.Test.YtpfodinoeoejcaaCf
namespace Go.Proofs.Ytpfodinoeoejcaa
open Go.RowKit Ch2
theorem CoRes.le {ws : List Int} {top : Int} {rs ys zs : List Int} {t c : Int} (h : CoRes ws top rs ys t zs c) : ys.length ≤ ws.length ∧ zs.length ≤ rs.length := by
  rcases h with ⟨_, rfl, _, rfl, _⟩ | ⟨_, K, _, _, h1, _, _, rfl, _⟩
  · simp
  · exact ⟨by omega, by simp⟩
/-- Two rows that may be written, apart from one another. -/
def Pair (w : World) (B E : Nat) (p q : Option Addr) (n m : Nat) (l1 h1 l2 h2 : Nat) : Prop := B ≤ l1 ∧ h1 ≤ E ∧ B ≤ l2 ∧ h2 ≤ E ∧ (h1 ≤ l2 ∨ h2 ≤ l1) ∧ Wr w l1 h1 p n ∧ Wr w l2 h2 q m
theorem Pair.mk' {w : World} {B E : Nat} {p q : Option Addr} {n m : Nat} (h : ∃ M, B ≤ M ∧ M ≤ E ∧ ((Wr w B M p n ∧ Wr w M E q m) ∨ (Wr w M E p n ∧ Wr w B M q m))) : ∃ l1 h1 l2 h2, Pair w B E p q n m l1 h1 l2 h2 := by
  obtain ⟨M, h1, h2, ⟨h3, h4⟩ | ⟨h3, h4⟩⟩ := h
  · exact ⟨B, M, M, E, Nat.le_refl _, h2, h1, Nat.le_refl _, Or.inl (Nat.le_refl _), h3, h4⟩
  · exact ⟨M, E, B, M, h1, Nat.le_refl _, Nat.le_refl _, h2, Or.inr (Nat.le_refl _), h3, h4⟩
theorem Pair.below {w w' : World} {B E : Nat} {p q : Option Addr} {n m l1 h1 l2 h2 : Nat} (h : Pair w B E p q n m l1 h1 l2 h2) (hb : Below w.heap.size w w') : Pair w' B E p q n m l1 h1 l2 h2 :=
  ⟨h.1, h.2.1, h.2.2.1, h.2.2.2.1, h.2.2.2.2.1, h.2.2.2.2.2.1.below hb, h.2.2.2.2.2.2.below hb⟩
theorem Pair.within {w w' : World} {B E : Nat} {p q : Option Addr} {n m l1 h1 l2 h2 lo hi : Nat} (h : Pair w B E p q n m l1 h1 l2 h2) (hw : Within lo hi w w') (hB : hi ≤ B ∨ E ≤ lo) : Pair w' B E p q n m l1 h1 l2 h2 := by
  obtain ⟨a1, a2, a3, a4, a5, a6, a7⟩ := h
  exact ⟨a1, a2, a3, a4, a5, a6.within hw (by omega), a7.within hw (by omega)⟩
/-- The boxes of the law's variables, and the two answers. -/
structure Bxs (w : World) (bA bS bX bG : Nat) (p : Option Addr) (n c : Nat) (top : Int) (g2 : Nat) (sp gp : Option Addr) (sn sc gc : Nat) (stop : Int) (ys : List Int) : Prop where
  A : Bx w bA p n c top
  S : Bx w bS sp sn sc stop
  X : Bx w bX (some ⟨g2, 0, none⟩) n n top
  G : Bx w bG gp sn gc stop
  si : Is w sp sn sc ys
  gi : Is w gp sn gc ys
theorem Bxs.below {w w' : World} {bA bS bX bG : Nat} {p : Option Addr} {n c : Nat} {top : Int} {g2 : Nat} {sp gp : Option Addr} {sn sc gc : Nat} {stop : Int} {ys : List Int} (h : Bxs w bA bS bX bG p n c top g2 sp gp sn sc gc stop ys) (hb : Below w.heap.size w w') : Bxs w' bA bS bX bG p n c top g2 sp gp sn sc gc stop ys :=
  ⟨h.A.below hb, h.S.below hb, h.X.below hb, h.G.below hb, h.si.below hb, h.gi.below hb⟩
theorem Bxs.within {w w' : World} {bA bS bX bG lo hi : Nat} {p : Option Addr} {n c : Nat} {top : Int} {g2 : Nat} {sp gp : Option Addr} {sn sc gc : Nat} {stop : Int} {ys : List Int} (h : Bxs w bA bS bX bG p n c top g2 sp gp sn sc gc stop ys) (hw : Within lo hi w w') (h1 : bA < lo ∨ hi ≤ bA) (h2 : bS < lo ∨ hi ≤ bS) (h3 : bX < lo ∨ hi ≤ bX) (h4 : bG < lo ∨ hi ≤ bG) (h5 : ∀ a, sp = some a → 0 < sn → a.block < lo ∨ hi ≤ a.block) (h6 : ∀ a, gp = some a → 0 < sn → a.block < lo ∨ hi ≤ a.block) : Bxs w' bA bS bX bG p n c top g2 sp gp sn sc gc stop ys :=
  ⟨h.A.within hw h1, h.S.within hw h2, h.X.within hw h3, h.G.within hw h4, h.si.within hw h5, h.gi.within hw h6⟩
/-- The boxes of the law's variables, and the two answers with their roots. -/
structure Bxc (w : World) (bA bS bX bG : Nat) (p : Option Addr) (n c : Nat) (top : Int) (g2 : Nat) (sp gp : Option Addr) (sn sc gc : Nat) (stop : Int) (ys : List Int) (sq gq : Option Addr) (sm sd gd : Nat) (zs : List Int) : Prop where
  b : Bxs w bA bS bX bG p n c top g2 sp gp sn sc gc stop ys
  sr : Is w sq sm sd zs
  gr : Is w gq sm gd zs
theorem Bxc.below {w w' : World} {bA bS bX bG : Nat} {p : Option Addr} {n c : Nat} {top : Int} {g2 : Nat} {sp gp : Option Addr} {sn sc gc : Nat} {stop : Int} {ys : List Int} {sq gq : Option Addr} {sm sd gd : Nat} {zs : List Int} (h : Bxc w bA bS bX bG p n c top g2 sp gp sn sc gc stop ys sq gq sm sd gd zs) (hb : Below w.heap.size w w') : Bxc w' bA bS bX bG p n c top g2 sp gp sn sc gc stop ys sq gq sm sd gd zs :=
  ⟨h.b.below hb, h.sr.below hb, h.gr.below hb⟩
theorem Bxc.within {w w' : World} {bA bS bX bG lo hi : Nat} {p : Option Addr} {n c : Nat} {top : Int} {g2 : Nat} {sp gp : Option Addr} {sn sc gc : Nat} {stop : Int} {ys : List Int} {sq gq : Option Addr} {sm sd gd : Nat} {zs : List Int} (h : Bxc w bA bS bX bG p n c top g2 sp gp sn sc gc stop ys sq gq sm sd gd zs) (hw : Within lo hi w w') (h1 : bA < lo ∨ hi ≤ bA) (h2 : bS < lo ∨ hi ≤ bS) (h3 : bX < lo ∨ hi ≤ bX) (h4 : bG < lo ∨ hi ≤ bG) (h5 : ∀ a, sp = some a → 0 < sn → a.block < lo ∨ hi ≤ a.block) (h6 : ∀ a, gp = some a → 0 < sn → a.block < lo ∨ hi ≤ a.block) (h7 : ∀ a, sq = some a → 0 < sm → a.block < lo ∨ hi ≤ a.block) (h8 : ∀ a, gq = some a → 0 < sm → a.block < lo ∨ hi ≤ a.block) : Bxc w' bA bS bX bG p n c top g2 sp gp sn sc gc stop ys sq gq sm sd gd zs :=
  ⟨h.b.within hw h1 h2 h3 h4 h5 h6, h.sr.within hw h7, h.gr.within hw h8⟩
set_option maxRecDepth 20000 in
set_option maxHeartbeats 16000000 in
theorem lawCollect (p : Option Addr) (n c : Nat) (top : Int) (ws : List Int) (rp : Option Addr) (rn rc : Nat) (rs : List Int) (w : World) (h : Is w p n c ws) (ht0 : -9223372036854775808 ≤ top) (ht1 : top ≤ 9223372036854775807) (hr : Is w rp rn rc rs) :
    Calls Try.prog 7 #[.agg #[.slice p n c, .int .i64 top], .slice rp rn rc] w fun e w' => e = .returned (.bool true) ∧ Below w.heap.size w w' := by
  have HI : Hid (Is w p n c ws) := h
  have HR : Hid (Is w rp rn rc rs) := hr
  have hsn := h.small.1
  have hsr := hr.small.1
  have HLn : Hid (ws.length = n) := h.len
  have HLr : Hid (rs.length = rn) := hr.len
  have HRG : Hid (∀ i, -9223372036854775808 ≤ ws.getD i 0 ∧ ws.getD i 0 ≤ 9223372036854775807) := h.rng
  have HRR : Hid (∀ i, -9223372036854775808 ≤ rs.getD i 0 ∧ rs.getD i 0 ≤ 9223372036854775807) := hr.rng
  clear h hr
  by_cases hrn : 1048576 < rn
  · have hd : decide ((1048576 : Int) < (rn : Int)) = true := decide_eq_true (by omega)
    go_enter Try.func7, Try.ntmps7
    go_wp2
    go_ret
    exact ⟨rfl, below1 w _⟩
  have hd : decide ((1048576 : Int) < (rn : Int)) = false := decide_eq_false (by omega)
  have hrm : rn ≤ maxLen := by unfold maxLen; omega
  go_enter Try.func7, Try.ntmps7
  go_wp2_with fail
  clear hd
  refine (szHeap_c p n c top 1048576 _ hsn (by omega) (by omega)).mono ?_
  rintro e w1 ⟨rfl, hb1⟩
  have HA1 : Hid (Bx w1 w.heap.size p n c top) := (Bx.new w p n c top _).below hb1
  have HB1 : Hid (Below w.heap.size w w1) := below_alloc hb1
  clear hb1
  have a0 := HA1.out.c0
  have a1 := HA1.out.c1
  by_cases hneg : (1048576 : Int) - n < 0
  · rw [show szOf 1048576 n = -1 by unfold szOf; rw [if_pos hneg]]
    go_wp2
    go_ret
    exact ⟨rfl, HB1.out⟩
  rw [show szOf 1048576 n = 1048576 - n by unfold szOf; rw [if_neg hneg]]
  have hn : n ≤ 1048576 := by omega
  have hnm : n ≤ maxLen := by unfold maxLen; omega
  have hdl : decide ((1048576 : Int) - n < 0) = false := decide_eq_false hneg
  go_wp2_with fail
  clear hdl
  refine (toHeap_c p n c top ws _ (HI.out.below HB1.out) hn).mono ?_
  rintro e w2 ⟨g1, rfl, hg1, ho1, hb2⟩
  have HO1 : Hid (Ro w2 g1 n ws) := ho1
  have HA2 : Hid (Bx w2 w.heap.size p n c top) := HA1.out.below hb2
  have HB2 : Hid (Below w.heap.size w w2) := HB1.out.trans (hb2.mono HB1.out.size)
  clear ho1 hb2 hg1 a0 a1 HA1
  go_wp2_with fail
  refine (toIntS_c rp rn rc rs _ (HR.out.below HB2.out) (by omega)).mono ?_
  rintro e w3 ⟨rfl, ho2, hb3⟩
  have HO2 : Hid (Ro w3 w2.heap.size rn rs) := ho2
  have HO13 : Hid (Ro w3 g1 n ws) := HO1.out.below hb3
  have HA3 : Hid (Bx w3 w.heap.size p n c top) := HA2.out.below hb3
  have HB3 : Hid (Below w.heap.size w w3) := HB2.out.trans (hb3.mono HB2.out.size)
  clear ho2 hb3 HA2 HO1
  go_wp2_with fail
  refine (specCollect_c _ n n top ws _ rn rn rs _ (HO13.out.is HLn.out hnm HRG.out) ht0 ht1 (HO2.out.is HLr.out hrm HRR.out) hn).mono ?_
  rintro e w4 ⟨sp, sn, sc, ys, stop, sq, sm, sd, zs, scode, rfl, hres, hsis, hsir, hswr, hb4⟩
  have HRES : Hid (CoRes ws top rs ys stop zs scode) := hres
  have HZL : Hid (zs.length = sm) := hsir.len
  have HSR : Hid (Is w4 sq sm sd zs) := hsir
  have HYL : Hid (ys.length = sn) := hsis.len
  have hsnn : sn ≤ 1048576 := by have := hres.le.1; rw [HLn.out, HYL.out] at this; omega
  have hsmm : sm ≤ 1048576 := by have := hres.le.2; rw [HLr.out, HZL.out] at this; omega
  have HSI : Hid (Is w4 sp sn sc ys) := hsis
  have HA4 : Hid (Bx w4 w.heap.size p n c top) := HA3.out.below hb4
  have HB4 : Hid (Below w.heap.size w w4) := HB3.out.trans (hb4.mono HB3.out.size)
  clear hres hsis hsir hswr hb4 HA3 HO13 HO2
  have a0 := (HA4.out.below (below1 w4 (.cells #[.slice sp sn sc, .int .i64 stop] 31))).c0
  have a1 := (HA4.out.below (below1 w4 (.cells #[.slice sp sn sc, .int .i64 stop] 31))).c1
  go_wp2_with fail
  refine (toHeap_c p n c top ws _ (HI.out.below (HB4.out.trans ((below1 _ _).mono HB4.out.size))) hn).mono ?_
  rintro e w5 ⟨g2, rfl, hg2, ho5, hb5⟩
  have HO5 : Hid (Ro w5 g2 n ws) := ho5
  have hg2a : w4.heap.size + 1 ≤ g2 := by simpa using hg2
  have hg2b := ho5.lt
  have HA5 : Hid (Bx w5 w.heap.size p n c top) := (HA4.out.below (below1 _ _)).below hb5
  have HS5 : Hid (Bx w5 w4.heap.size sp sn sc stop) := (Bx.new w4 sp sn sc stop _).below hb5
  have HB45 : Hid (Below w4.heap.size w4 w5) := below_alloc hb5
  have HB5 : Hid (Below w.heap.size w w5) := HB4.out.trans (HB45.out.mono HB4.out.size)
  have hs4 : w.heap.size < w4.heap.size := HA4.out.lt
  clear ho5 hb5 a0 a1 HA4 hg2
  go_wp2_with fail
  refine (toIntS_c rp rn rc rs _ (HR.out.below (HB5.out.trans ((below1 _ _).mono HB5.out.size))) (by omega)).mono ?_
  rintro e w6 ⟨rfl, ho6, hb6⟩
  have HO6 : Hid (Ro w6 (w5.heap.size + 1) rn rs) := by unfold Hid; simpa using ho6
  have HX6 : Hid (Bx w6 w5.heap.size (some ⟨g2, 0, none⟩) n n top) := (Bx.new w5 _ n n top _).below hb6
  have HA6 : Hid (Bx w6 w.heap.size p n c top) := (HA5.out.below (below1 _ _)).below hb6
  have HS6 : Hid (Bx w6 w4.heap.size sp sn sc stop) := (HS5.out.below (below1 _ _)).below hb6
  have HO56 : Hid (Ro w6 g2 n ws) := (HO5.out.below (below1 _ _)).below hb6
  have HB46 : Hid (Below w4.heap.size w4 w6) := HB45.out.trans ((below_alloc hb6).mono HB45.out.size)
  have HB6 : Hid (Below w.heap.size w w6) := HB4.out.trans (HB46.out.mono HB4.out.size)
  have h56 : w5.heap.size + 1 < w6.heap.size := HO6.out.lt
  have h45 := HB45.out.size
  have x0 := HX6.out.c0
  have x1 := HX6.out.c1
  clear ho6 hb6 HA5 HO5 HS5
  have hbI : (w5.alloc (.cells #[.slice (some ⟨g2, 0, none⟩) n n, .int .i64 top] 31)).heap.size = w5.heap.size + 1 := by simp
  rw [hbI]
  clear hbI
  go_wp2_with fail
  refine (implCollect_c _ n n top ws _ rn rn rs _ (HO56.out.is HLn.out hnm HRG.out) ht0 ht1 (HO6.out.is HLr.out hrm HRR.out)).mono ?_
  rintro e w7 ⟨gp, gn, gc, ys', gtop, gq, gm, gd, zs', gcode, rfl, hres, hgis, hgir, hgwr, hb7⟩
  obtain ⟨e1, e2, e3, e4⟩ := HRES.out.one hres
  obtain rfl := e1
  obtain rfl := e2
  obtain rfl := e3
  obtain rfl := e4
  obtain rfl : sn = gn := by rw [← HYL.out]; exact hgis.len
  obtain rfl : sm = gm := by rw [← HZL.out]; exact hgir.len
  obtain ⟨l1, u1, l2, u2, hpair⟩ := Pair.mk' hgwr
  have HGW : Hid (Pair w7 w6.heap.size w7.heap.size gp gq sn sm l1 u1 l2 u2) := hpair
  obtain ⟨hp1, hp2, hp3, hp4, hp5, _, _⟩ := hpair
  have HB67 : Hid (Below w6.heap.size w6 w7) := hb7
  have h67 := hb7.size
  have HSI7 : Hid (Is w7 sp sn sc ys) := HSI.out.below (HB46.out.trans (hb7.mono HB46.out.size))
  have HGI7 : Hid (Is w7 gp sn gc ys) := hgis
  have HSR7 : Hid (Is w7 sq sm sd zs) := HSR.out.below (HB46.out.trans (hb7.mono HB46.out.size))
  have HGR7 : Hid (Is w7 gq sm gd zs) := hgir
  have HO57 : Hid (Ro w7 g2 n ws) := HO56.out.below hb7
  have HO67 : Hid (Ro w7 (w5.heap.size + 1) rn rs) := HO6.out.below hb7
  have HXS : Hid (Bxc (w7.alloc (.cells #[.slice gp sn gc, .int .i64 stop] 31)) w.heap.size w4.heap.size w5.heap.size w7.heap.size p n c top g2 sp gp sn sc gc stop ys sq gq sm sd gd zs) :=
    ⟨⟨(HA6.out.below hb7).below (below1 _ _), (HS6.out.below hb7).below (below1 _ _), (HX6.out.below hb7).below (below1 _ _), Bx.new w7 gp sn gc stop _, HSI7.out.below (below1 _ _), HGI7.out.below (below1 _ _)⟩, HSR7.out.below (below1 _ _), HGR7.out.below (below1 _ _)⟩
  have HB7 : Hid (Below w.heap.size w w7) := HB6.out.trans (hb7.mono HB6.out.size)
  have HSLO : Hid (∀ a, sp = some a → 0 < sn → a.block < w4.heap.size) := by
    intro a ha h0
    obtain ⟨b, o, e, hlt, _⟩ := HSI.out.cells h0
    rw [ha] at e; cases e; exact hlt
  have HGLO : Hid (∀ a, gp = some a → 0 < sn → l1 ≤ a.block ∧ a.block < u1) := by
    intro a ha h0
    obtain ⟨t, _, _, e, r1, r2, _⟩ := HGW.out.2.2.2.2.2.1 h0
    rw [ha] at e; cases e; exact ⟨r1, r2⟩
  have HSLR : Hid (∀ a, sq = some a → 0 < sm → a.block < w4.heap.size) := by
    intro a ha h0
    obtain ⟨b, o, e, hlt, _⟩ := HSR.out.cells h0
    rw [ha] at e; cases e; exact hlt
  have HGLR : Hid (∀ a, gq = some a → 0 < sm → l2 ≤ a.block ∧ a.block < u2) := by
    intro a ha h0
    obtain ⟨t, _, _, e, r1, r2, _⟩ := HGW.out.2.2.2.2.2.2 h0
    rw [ha] at e; cases e; exact ⟨r1, r2⟩
  clear hres hgis hgir hgwr hb7 x0 x1 HA6 HS6 HX6 HO56 HO6 HSI HSR
  have s0 := HXS.out.b.S.c0
  have s1 := HXS.out.b.S.c1
  go_wp2_with fail
  refine (eqHeap_c gp sp sn gc sc stop ys _ HXS.out.b.gi HXS.out.b.si).mono ?_
  rintro e w7b ⟨rfl, hb8⟩
  have HX7b : Hid (Bxc w7b w.heap.size w4.heap.size w5.heap.size w7.heap.size p n c top g2 sp gp sn sc gc stop ys sq gq sm sd gd zs) := HXS.out.below hb8
  have HB77b : Hid (Below w7.heap.size w7 w7b) := below_alloc hb8
  have hne2 : (scode != scode) = false := by simp
  clear hb8 s0 s1 HXS
  go_wp2_with fail
  refine (eqIntS_c gq sq sm gd sd zs _ HX7b.out.gr HX7b.out.sr).mono ?_
  rintro e w8 ⟨rfl, q8, hw8⟩
  have hb8 : Below w7b.heap.size w7b w8 := by rw [hw8]; exact below_drewN' (Below.refl _ _) q8
  clear hw8
  have HX8 : Hid (Bxc w8 w.heap.size w4.heap.size w5.heap.size w7.heap.size p n c top g2 sp gp sn sc gc stop ys sq gq sm sd gd zs) := HX7b.out.below hb8
  have HB78 : Hid (Below w7.heap.size w7 w8) := HB77b.out.trans (hb8.mono HB77b.out.size)
  have HB8 : Hid (Below w.heap.size w w8) := HB7.out.trans (HB78.out.mono HB7.out.size)
  clear hb8 HX7b HB77b
  have a0 := HX8.out.b.A.c0
  have a1 := HX8.out.b.A.c1
  have x0 := HX8.out.b.X.c0
  have x1 := HX8.out.b.X.c1
  go_wp2_with fail
  go_cut [67] from 63 (fun v wc => v = .bool false ∧ Below w8.heap.size w8 wc)
  case first =>
    go_region_with (first | (go_at_call 22; refine (toHeap_c p n c top ws _ ?y1 hn).mono ?_; (case y1 => exact HI.out.below (below_drew HB8.out)); rintro e w9 ⟨g3, rfl, _, ho9, hb9⟩; have HO9 : Hid (Ro w9 g3 n ws) := ho9; have HO59 : Hid (Ro w9 g2 n ws) := ((HO57.out.below HB78.out).below (below_drew (Below.refl _ _))).below hb9; have HB89 : Hid (Below w8.heap.size w8 w9) := (below_drew (Below.refl _ _)).trans hb9; have x8 := (HX8.out.below HB89.out).b.X.c0; have x9 := (HX8.out.below HB89.out).b.X.c1; clear ho9 hb9) | (go_at_call 17; refine (eqHeap_c _ _ n n n top ws _ (HO59.out.is HLn.out hnm HRG.out) (HO9.out.is HLn.out hnm HRG.out)).mono ?_; rintro e w10 ⟨rfl, hb10⟩; have HB810 : Hid (Below w8.heap.size w8 w10) := HB89.out.trans (hb10.mono HB89.out.size); clear hb10))
    all_goals go_wp2_with fail
    all_goals go_meet
    all_goals exact ⟨rfl, HB810.out⟩
  case rest =>
    obtain ⟨rfl, hbc⟩ := hcut
    have HBC : Hid (Below w8.heap.size w8 wc) := hbc
    have HXC : Hid (Bxc wc w.heap.size w4.heap.size w5.heap.size w7.heap.size p n c top g2 sp gp sn sc gc stop ys sq gq sm sd gd zs) := HX8.out.below hbc
    have HB7C : Hid (Below w7.heap.size w7 wc) := HB78.out.trans (hbc.mono HB78.out.size)
    have HBCW : Hid (Below w.heap.size w wc) := HB8.out.trans (hbc.mono HB8.out.size)
    clear hbc a0 a1 x0 x1 HX8
    go_wp2_with fail
    refine (toIntS_c rp rn rc rs _ (HR.out.below HBCW.out) (by omega)).mono ?_
    rintro e w11 ⟨rfl, ho11, hb11⟩
    have HO11 : Hid (Ro w11 wc.heap.size rn rs) := ho11
    have HB711 : Hid (Below w7.heap.size w7 w11) := HB7C.out.trans (hb11.mono HB7C.out.size)
    have HX11 : Hid (Bxc w11 w.heap.size w4.heap.size w5.heap.size w7.heap.size p n c top g2 sp gp sn sc gc stop ys sq gq sm sd gd zs) := HXC.out.below hb11
    clear ho11 hb11 HXC
    go_wp2_with fail
    refine (eqIntS_c _ _ rn rn rn rs _ ((HO67.out.below HB711.out).is HLr.out hrm HRR.out) (HO11.out.is HLr.out hrm HRR.out)).mono ?_
    rintro e w12 ⟨rfl, q12, hw12⟩
    have HB1112 : Hid (Below w11.heap.size w11 w12) := by rw [hw12]; exact below_drewN' (Below.refl _ _) q12
    have HB712 : Hid (Below w7.heap.size w7 w12) := HB711.out.trans (HB1112.out.mono HB711.out.size)
    have HX12 : Hid (Bxc w12 w.heap.size w4.heap.size w5.heap.size w7.heap.size p n c top g2 sp gp sn sc gc stop ys sq gq sm sd gd zs) := HX11.out.below HB1112.out
    clear hw12 HX11
    have x0 := HX12.out.b.X.c0
    have x1 := HX12.out.b.X.c1
    go_wp2_with fail
    refine (markHeap_c _ n n (w4.heap.size + 1) w5.heap.size top 1 _ ((HO57.out.below HB712.out).wr hg2a hg2b) hn (by omega) (by omega)).mono ?_
    rintro e w13 ⟨rfl, _, wm, hbm, hw13⟩
    have HX13 : Hid (Bxc w13 w.heap.size w4.heap.size w5.heap.size w7.heap.size p n c top g2 sp gp sn sc gc stop ys sq gq sm sd gd zs) :=
      (HX12.out.below hbm).within hw13 (by omega) (by omega) (by omega) (by omega) (fun a ha h0 => Or.inl (by have := HSLO.out a ha h0; omega)) (fun a ha h0 => Or.inr (by have := HGLO.out a ha h0; omega)) (fun a ha h0 => Or.inl (by have := HSLR.out a ha h0; omega)) (fun a ha h0 => Or.inr (by have := HGLR.out a ha h0; omega))
    have HI13 : Hid (Ro w13 (w5.heap.size + 1) rn rs) := ((HO67.out.below HB712.out).below hbm).of_block (hw13.block _ (by omega))
    have HG13 : Hid (Pair w13 w6.heap.size w7.heap.size gp gq sn sm l1 u1 l2 u2) := ((HGW.out.below HB712.out).below hbm).within hw13 (by omega)
    have HB13 : Hid (Below w4.heap.size w4 w13) := by
      have h1 := HB46.out.trans (HB67.out.mono HB46.out.size)
      have h2 := h1.trans (HB712.out.mono h1.size)
      have h3 := h2.trans (hbm.mono h2.size)
      exact h3.trans (hw13.below (by omega))
    clear hbm hw13 x0 x1 HX12
    go_wp2_with fail
    refine (markIntS_c _ rn rn (w5.heap.size + 1) (w5.heap.size + 2) (1 + n) _ (HI13.out.wr (Nat.le_refl _) (by omega)) (by omega) (by omega) (by omega)).mono ?_
    rintro e w14 ⟨rfl, _, hw14⟩
    have HX14 : Hid (Bxc w14 w.heap.size w4.heap.size w5.heap.size w7.heap.size p n c top g2 sp gp sn sc gc stop ys sq gq sm sd gd zs) :=
      HX13.out.within hw14 (by omega) (by omega) (by omega) (by omega) (fun a ha h0 => Or.inl (by have := HSLO.out a ha h0; omega)) (fun a ha h0 => Or.inr (by have := HGLO.out a ha h0; omega)) (fun a ha h0 => Or.inl (by have := HSLR.out a ha h0; omega)) (fun a ha h0 => Or.inr (by have := HGLR.out a ha h0; omega))
    have HG14 : Hid (Pair w14 w6.heap.size w7.heap.size gp gq sn sm l1 u1 l2 u2) := HG13.out.within hw14 (by omega)
    have HB14 : Hid (Below w4.heap.size w4 w14) := HB13.out.trans (hw14.below (by omega))
    clear hw14 HX13
    have s0 := HX14.out.b.S.c0
    have s1 := HX14.out.b.S.c1
    have g0 := HX14.out.b.G.c0
    have g1' := HX14.out.b.G.c1
    have hkn : decide ((1 : Int) + n + rn < 0) = false := decide_eq_false (by omega)
    go_wp2_with fail
    refine (eqHeap_c gp sp sn gc sc stop ys _ HX14.out.b.gi HX14.out.b.si).mono ?_
    rintro e w14b ⟨rfl, hb14⟩
    have HX14b : Hid (Bxc w14b w.heap.size w4.heap.size w5.heap.size w7.heap.size p n c top g2 sp gp sn sc gc stop ys sq gq sm sd gd zs) := HX14.out.below hb14
    have HG14b : Hid (Pair w14b w6.heap.size w7.heap.size gp gq sn sm l1 u1 l2 u2) := HG14.out.below hb14
    have HB14b : Hid (Below w4.heap.size w4 w14b) := HB14.out.trans (hb14.mono HB14.out.size)
    clear hb14 s0 s1 g0 g1' HX14 HG14 HB14
    go_wp2_with fail
    refine (eqIntS_c gq sq sm gd sd zs _ HX14b.out.gr HX14b.out.sr).mono ?_
    rintro e w15 ⟨rfl, q15, hw15⟩
    have hb15 : Below w14b.heap.size w14b w15 := by rw [hw15]; exact below_drewN' (Below.refl _ _) q15
    have HX15 : Hid (Bxc w15 w.heap.size w4.heap.size w5.heap.size w7.heap.size p n c top g2 sp gp sn sc gc stop ys sq gq sm sd gd zs) := HX14b.out.below hb15
    have HG15 : Hid (Pair w15 w6.heap.size w7.heap.size gp gq sn sm l1 u1 l2 u2) := HG14b.out.below hb15
    have HB15 : Hid (Below w4.heap.size w4 w15) := HB14b.out.trans (hb15.mono HB14b.out.size)
    clear hb15 hw15 hkn HX14b HG14b HB14b
    have g0 := HX15.out.b.G.c0
    have g1' := HX15.out.b.G.c1
    go_wp2_with fail
    refine (markHeap_c gp sn gc l1 u1 stop 1 _ HG15.out.2.2.2.2.2.1 hsnn (by omega) (by omega)).mono ?_
    rintro e w15b ⟨rfl, hh15, wm, hbm, hw15⟩
    have HH15 : Hid (Held w15b gp sn 1) := hh15
    have HS15 : Hid (Bx w15b w4.heap.size sp sn sc stop ∧ Is w15b sp sn sc ys ∧ Bx w15b w.heap.size p n c top ∧ Bx w15b w7.heap.size gp sn gc stop ∧ Is w15b sq sm sd zs) :=
      ⟨(HX15.out.b.S.below hbm).within hw15 (by omega), (HX15.out.b.si.below hbm).within hw15 (fun a ha h0 => Or.inl (by have := HSLO.out a ha h0; omega)), (HX15.out.b.A.below hbm).within hw15 (by omega), (HX15.out.b.G.below hbm).within hw15 (by omega), (HX15.out.sr.below hbm).within hw15 (fun a ha h0 => Or.inl (by have := HSLR.out a ha h0; omega))⟩
    have HW15 : Hid (Wr w15b l2 u2 gq sm) := (HG15.out.2.2.2.2.2.2.below hbm).within hw15 (by omega)
    have HB15b : Hid (Below w4.heap.size w4 w15b) := (HB15.out.trans (hbm.mono HB15.out.size)).trans (hw15.below (by omega))
    clear hh15 hbm hw15 g0 g1' HX15 HG15 HB15
    go_wp2_with fail
    refine (markIntS_c gq sm gd l2 u2 (1 + sn) _ HW15.out hsmm (by omega) (by omega)).mono ?_
    rintro e w16 ⟨rfl, hh16, hw16⟩
    have HQ16 : Hid (Held w16 gq sm (1 + sn)) := hh16
    have HH16 : Hid (Held w16 gp sn 1) := by
      intro h0
      obtain ⟨t, e, hlt, hc⟩ := HH15.out h0
      have hg := HGLO.out _ e h0
      simp only at hg
      have hq := hw16.block t (by omega)
      refine ⟨t, e, by rw [hw16.size]; exact hlt, fun j hj => ?_⟩
      rw [World.cell?_of_block (w := w15b) hq]; exact hc j hj
    have HS16 : Hid (Bx w16 w4.heap.size sp sn sc stop ∧ Is w16 sp sn sc ys ∧ Bx w16 w.heap.size p n c top ∧ Bx w16 w7.heap.size gp sn gc stop ∧ Is w16 sq sm sd zs) :=
      ⟨HS15.out.1.within hw16 (by omega), HS15.out.2.1.within hw16 (fun a ha h0 => Or.inl (by have := HSLO.out a ha h0; omega)), HS15.out.2.2.1.within hw16 (by omega), HS15.out.2.2.2.1.within hw16 (by omega), HS15.out.2.2.2.2.within hw16 (fun a ha h0 => Or.inl (by have := HSLR.out a ha h0; omega))⟩
    have HB16 : Hid (Below w4.heap.size w4 w16) := HB15b.out.trans (hw16.below (by omega))
    clear hh16 hw16 HS15 HH15 HW15 HB15b
    have g0 := HS16.out.2.2.2.1.c0
    have g1' := HS16.out.2.2.2.1.c1
    go_wp2_with fail
    refine (heldHeap_c gp sn gc stop 1 _ HH16.out hsnn (by omega) (by omega)).mono ?_
    rintro e w16b ⟨rfl, hb16⟩
    have HQ16b : Hid (Held w16b gq sm (1 + sn)) := HQ16.out.below hb16
    have HS16b : Hid (Bx w16b w4.heap.size sp sn sc stop ∧ Is w16b sp sn sc ys ∧ Bx w16b w.heap.size p n c top ∧ Is w16b sq sm sd zs) := ⟨HS16.out.1.below hb16, HS16.out.2.1.below hb16, HS16.out.2.2.1.below hb16, HS16.out.2.2.2.2.below hb16⟩
    have HB16b : Hid (Below w4.heap.size w4 w16b) := HB16.out.trans (hb16.mono HB16.out.size)
    clear hb16 g0 g1' HS16 HQ16 HH16 HB16
    have hq : decide ((1 : Int) + sn < 0) = false := decide_eq_false (by omega)
    go_wp2_with fail
    refine (heldIntS_c gq sm gd (1 + sn) _ HQ16b.out hsmm (by omega) (by omega)).mono ?_
    rintro e w17 ⟨rfl, hw17⟩
    have HS17 : Hid (Bx w17 w4.heap.size sp sn sc stop ∧ Is w17 sp sn sc ys ∧ Bx w17 w.heap.size p n c top ∧ Is w17 sq sm sd zs) := by rw [hw17]; exact HS16b
    have HB17 : Hid (Below w4.heap.size w4 w17) := by rw [hw17]; exact HB16b
    have HBW17 : Hid (Below w.heap.size w w17) := HB4.out.trans (HB17.out.mono HB4.out.size)
    clear hw17 HS16b HB16b HQ16b hq
    have hq1 : decide ((1 : Int) + sn + sm < 0) = false := decide_eq_false (by omega)
    have hq2 : ((1 : Int) + sn + sm != 1 + sn + sm) = false := by simp
    have a0 := HS17.out.2.2.1.c0
    have a1 := HS17.out.2.2.1.c1
    go_wp2_with fail
    refine (toHeap_c p n c top ws _ (HI.out.below HBW17.out) hn).mono ?_
    rintro e w18 ⟨g4, rfl, _, ho18, hb18⟩
    have HO18 : Hid (Ro w18 g4 n ws) := ho18
    have HS18 : Hid (Bx w18 w4.heap.size sp sn sc stop ∧ Is w18 sp sn sc ys ∧ Is w18 sq sm sd zs) := ⟨HS17.out.1.below hb18, HS17.out.2.1.below hb18, HS17.out.2.2.2.below hb18⟩
    have HBW18 : Hid (Below w.heap.size w w18) := HBW17.out.trans (hb18.mono HBW17.out.size)
    clear ho18 hb18 a0 a1 HS17
    go_wp2_with fail
    refine (toIntS_c rp rn rc rs _ (HR.out.below HBW18.out) (by omega)).mono ?_
    rintro e w19 ⟨rfl, ho19, hb19⟩
    have HO19 : Hid (Ro w19 w18.heap.size rn rs) := ho19
    have HO1819 : Hid (Ro w19 g4 n ws) := HO18.out.below hb19
    have HS19 : Hid (Bx w19 w4.heap.size sp sn sc stop ∧ Is w19 sp sn sc ys ∧ Is w19 sq sm sd zs) := ⟨HS18.out.1.below hb19, HS18.out.2.1.below hb19, HS18.out.2.2.below hb19⟩
    have HBW19 : Hid (Below w.heap.size w w19) := HBW18.out.trans (hb19.mono HBW18.out.size)
    clear ho19 hb19 HS18
    go_wp2_with fail
    refine (implCollect_c _ n n top ws _ rn rn rs _ (HO1819.out.is HLn.out hnm HRG.out) ht0 ht1 (HO19.out.is HLr.out hrm HRR.out)).mono ?_
    rintro e w20 ⟨hp, hn', hc, ys', htop, hq, hm', hd, zs', hcode, rfl, hres, hhis, hhir, _, hb20⟩
    obtain ⟨e1, e2, e3, e4⟩ := HRES.out.one hres
    obtain rfl := e1
    obtain rfl := e2
    obtain rfl := e3
    obtain rfl := e4
    obtain rfl : sn = hn' := by rw [← HYL.out]; exact hhis.len
    obtain rfl : sm = hm' := by rw [← HZL.out]; exact hhir.len
    have HHI : Hid (Is w20 hp sn hc ys) := hhis
    have HHR : Hid (Is w20 hq sm hd zs) := hhir
    have HS20 : Hid (Bx w20 w4.heap.size sp sn sc stop ∧ Is w20 sp sn sc ys ∧ Is w20 sq sm sd zs) := ⟨HS19.out.1.below hb20, HS19.out.2.1.below hb20, HS19.out.2.2.below hb20⟩
    have HBW20 : Hid (Below w.heap.size w w20) := HBW19.out.trans (hb20.mono HBW19.out.size)
    clear hres hhis hhir hb20 HS19
    have s0 := (HS20.out.1.below (below1 w20 (.cells #[.slice hp sn hc, .int .i64 stop] 31))).c0
    have s1 := (HS20.out.1.below (below1 w20 (.cells #[.slice hp sn hc, .int .i64 stop] 31))).c1
    go_wp2_with fail
    refine (eqHeap_c hp sp sn hc sc stop ys _ (HHI.out.below (below1 _ _)) (HS20.out.2.1.below (below1 _ _))).mono ?_
    rintro e w21 ⟨rfl, hb21⟩
    have HB2021 : Hid (Below w20.heap.size w20 w21) := below_alloc hb21
    have HBW21 : Hid (Below w.heap.size w w21) := HBW20.out.trans (HB2021.out.mono HBW20.out.size)
    clear hb21
    go_wp2_with fail
    refine (eqIntS_c hq sq sm hd sd zs _ (HHR.out.below HB2021.out) (HS20.out.2.2.below HB2021.out)).mono ?_
    rintro e w22 ⟨rfl, q22, hw22⟩
    have HBW22 : Hid (Below w.heap.size w w22) := by rw [hw22]; exact HBW21.out.trans ((below_drewN' (Below.refl _ _) q22).mono HBW21.out.size)
    clear hw22
    go_wp2
    go_ret
    exact ⟨rfl, HBW22.out⟩
end Go.Proofs.Ytpfodinoeoejcaa
