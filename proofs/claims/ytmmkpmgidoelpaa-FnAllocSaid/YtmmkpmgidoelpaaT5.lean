import Derived.Test.YtmmkpmgidoelpaaT4
namespace Go.Proofs.Ytmmkpmgidoelpaa
open Go.RowKit Ch2
/-- The root that a byte chooses. -/
def rtF (wds : List Int) (v : Int) : Int := if ¬ v % 3 = 0 ∧ 8 < wds.length then wds.getD (8 + (v % ((wds.length : Int) - 8)).toNat) 0 else wds.getD (v % (wds.length : Int)).toNat 0
def rtN (bs wds : List Int) : Nat → Nat → List Int × Nat
  | 0, i => ([], i)
  | k + 1, i => ((rtN bs wds k i).1 ++ [rtF wds (nxV bs (rtN bs wds k i).2)], nxI bs (rtN bs wds k i).2)
theorem rtN_len (bs wds : List Int) (i : Nat) : ∀ k, (rtN bs wds k i).1.length = k
  | 0 => rfl
  | k + 1 => by rw [rtN]; simp [rtN_len bs wds i k]
theorem rtN_rng {bs wds : List Int} (h : ∀ j, -100000 ≤ wds.getD j 0 ∧ wds.getD j 0 ≤ 100000) (i : Nat) : ∀ k x, x ∈ (rtN bs wds k i).1 → -100000 ≤ x ∧ x ≤ 100000
  | 0, x, hx => by cases hx
  | k + 1, x, hx => by
    rw [rtN] at hx
    rcases List.mem_append.1 hx with hx | hx
    · exact rtN_rng h i k x hx
    · rw [List.mem_singleton.1 hx]; unfold rtF; split
      · exact h _
      · exact h _
/-- The roots that are drawn, and where the reader stands then. -/
def rootsF (bs wds : List Int) (i : Nat) : List Int × Nat := rtN bs wds (nxV bs i % 6).toNat (nxI bs i)
/-- What l7roots leaves. -/
def RtP (rb : Nat) (bp : Option Addr) (nb cb B : Nat) (bs wds : List Int) (i : Nat) (w w' : World) (e : Ending) : Prop := ∃ v, e = .returned v ∧ Fz w' w.heap.size v (rootsF bs wds i).1 ∧ Rz w' rb bp nb cb B bs (rootsF bs wds i).2 ∧ KpZ rb rb w w'
/-- At the head of its loop. -/
def RtI (rb : Nat) (bp : Option Addr) (nb cb B : Nat) (bs wds : List Int) (i0 cnt : Nat) (w : World) (fv jv : Value) (wr : World) : Prop := ∃ j : Nat, j ≤ cnt ∧ jv = .int .i64 j ∧ Hid (Fz wr w.heap.size fv (rtN bs wds j i0).1) ∧ Hid (Rz wr rb bp nb cb B bs (rtN bs wds j i0).2) ∧ Hid (KpZ rb rb w wr)
theorem RtI.step {rb : Nat} {bp : Option Addr} {nb cb B : Nat} {bs wds : List Int} {i0 cnt j : Nat} {w w5 w6 : World} {fv : Value} {g cap : Nat} {y : Int} (hj : j < cnt) (hl : (rtN bs wds j i0).1.length = j) (HF5 : Fz w5 w.heap.size fv (rtN bs wds j i0).1) (HR5 : Rz w5 rb bp nb cb B bs (rtN bs wds (j + 1) i0).2) (HK5 : KpZ rb rb w w5) (hrl : rb < w.heap.size)
    (hfr : Fr w6 g (j + 1) cap ((rtN bs wds j i0).1 ++ [y])) (hge : w.heap.size ≤ g) (hgr : w5.grownBy w6 fv.ownBlock) (hpk : (rtN bs wds (j + 1) i0).1 = (rtN bs wds j i0).1 ++ [y]) :
    RtI rb bp nb cb B bs wds i0 cnt w (.slice (some ⟨g, 0, none⟩) (j + 1) cap) (.int .i64 ((j : Int) + 1)) w6 := by
  have hs := HK5.size
  have hb : ∀ k, k < w.heap.size → w6.heap[k]? = w5.heap[k]? := fun k hk => hgr.block k (by omega) (fun e => by have := (HF5.lt k e.symm).1; omega)
  have hp := HR5.past
  refine ⟨j + 1, by omega, by simp, ?_, HR5.keep hgr.size (fun k hk => hb k (by omega)) (hb rb hrl), ⟨hgr.os.trans HK5.os, hgr.tape.trans HK5.tape, hgr.output.trans HK5.output, Nat.le_trans hs hgr.size, fun k hk e _ => (hb k hk).trans (HK5.block k hk e e)⟩⟩
  unfold Hid
  rw [hpk]
  exact Or.inr ⟨g, cap, by simp [hl], hge, by rw [List.length_append, List.length_singleton, hl]; exact hfr⟩
set_option maxRecDepth 20000 in
set_option maxHeartbeats 4000000 in
theorem l7roots_c (rb : Nat) (bp : Option Addr) (nb cb B : Nat) (bs wds : List Int) (i : Nat) (gw L cw : Nat) (w : World) (h : Rz w rb bp nb cb B bs i) (hw : Fr w gw L cw wds) (hne : gw ≠ rb) (hL0 : 8 ≤ L) (hL1 : L ≤ 23) (hbw : ∀ j, -100000 ≤ wds.getD j 0 ∧ wds.getD j 0 ≤ 100000) :
    Calls Try.prog 13 #[.pointer (some ⟨rb, 0, none⟩), .slice (some ⟨gw, 0, none⟩) L cw] w fun e w' => RtP rb bp nb cb B bs wds i w w' e := by
  have HRB : Hid (∀ i, 0 ≤ bs.getD i 0 ∧ bs.getD i 0 < 256) := h.by_.rng
  have HR : Hid (Rz w rb bp nb cb B bs i) := h
  have HW : Hid (Fr w gw L cw wds) := hw
  have HL : Hid (wds.length = L) := hw.len
  have HBW : Hid (∀ j, -100000 ≤ wds.getD j 0 ∧ wds.getD j 0 ≤ 100000) := hbw
  have hrl : rb < w.heap.size := h.lt
  have hgl : gw < w.heap.size := hw.lt
  have hn0 := nxV_rng h.by_.rng i
  obtain ⟨v0, hv0⟩ : ∃ v0 : Nat, nxV bs i = v0 := ⟨(nxV bs i).toNat, by omega⟩
  rw [hv0] at hn0
  have HV0 : Hid (nxV bs i = (v0 : Int)) := hv0
  clear h hw hv0 hbw
  obtain ⟨cnt, hcnt⟩ : ∃ cnt : Nat, cnt = v0 % 6 := ⟨_, rfl⟩
  have t0 : (v0 : Int).tmod 6 = (cnt : Int) := by rw [Int.tmod_eq_emod_of_nonneg (by omega)]; omega
  have hc5 : cnt ≤ 5 := by omega
  have HRF : Hid (rootsF bs wds i = rtN bs wds cnt (nxI bs i)) := by unfold Hid rootsF; rw [HV0.out]; congr 1; omega
  clear hcnt
  go_enter Try.func13, Try.ntmps13
  go_wp2_with fail
  refine (next_c rb bp nb cb B bs i w HR.out).mono ?_
  rintro e w1 ⟨rfl, hr1, hk1, hs1⟩
  rw [HV0.out]
  have HR1 : Hid (Rz w1 rb bp nb cb B bs (nxI bs i)) := hr1
  have HK1 : Hid (KpZ rb rb w w1) := hk1
  clear hr1 hk1 hs1
  go_wp2_with fail
  clear t0
  go_loopw [5, 7] (fun fv jv wr => RtI rb bp nb cb B bs wds (nxI bs i) cnt w fv jv wr) (fun _ jv _ => cnt - (intOf jv).toNat)
  case atStart => exact ⟨0, Nat.zero_le _, rfl, Or.inl ⟨rfl, rfl⟩, HR1.out, HK1.out⟩
  case round =>
    obtain ⟨j, hj, rfl, hF, hRd, hK⟩ := hrel
    by_cases hlt : j < cnt
    · go_wp2_with fail
      refine (next_c rb bp nb cb B bs _ wr hRd.out).mono ?_
      rintro e w5 ⟨rfl, hr5, hk5, hs5⟩
      have hvr := nxV_rng HRB.out (rtN bs wds j (nxI bs i)).2
      obtain ⟨x, hx⟩ : ∃ x : Nat, nxV bs (rtN bs wds j (nxI bs i)).2 = x := ⟨_, (Int.toNat_of_nonneg hvr.1).symm⟩
      have HX : Hid (nxV bs (rtN bs wds j (nxI bs i)).2 = (x : Int)) := hx
      rw [hx] at hvr
      have hxl : x < 256 := by omega
      have HR5 : Hid (Rz w5 rb bp nb cb B bs (rtN bs wds (j + 1) (nxI bs i)).2) := hr5
      have HK5 : Hid (KpZ rb rb w w5) := hK.out.trans hk5
      have HF5 : Hid (Fz w5 w.heap.size u5 (rtN bs wds j (nxI bs i)).1) := hF.out.keep (fun g e => hk5.block g (hF.out.lt g e).2 (by have := (hF.out.lt g e).1; omega) (by have := (hF.out.lt g e).1; omega))
      have HFL : Hid ((rtN bs wds j (nxI bs i)).1.length = j) := rtN_len _ _ _ _
      have HW5 : Hid (Fr w5 gw L cw wds) := HW.out.of_block (HK5.out.block _ hgl hne hne)
      have HS5 : Hid (w.heap.size ≤ w5.heap.size) := HK5.out.size
      rw [hx]
      clear hr5 hk5 hs5 hx hvr hF hRd hK
      obtain ⟨d, hd⟩ : ∃ d : Nat, d = x % 3 := ⟨_, rfl⟩
      have t2 : (x : Int).tmod 3 = (d : Int) := by rw [Int.tmod_eq_emod_of_nonneg (by omega), hd]; simp
      have hdd : d < 3 := by omega
      by_cases hit : 0 < d ∧ 8 < L
      · obtain ⟨hd0, hL8⟩ := hit
        obtain ⟨l8, hl8⟩ : ∃ l8 : Nat, l8 = L - 8 := ⟨_, rfl⟩
        obtain ⟨r, hr⟩ : ∃ r : Nat, r = x % l8 := ⟨_, rfl⟩
        have hrl8 : r < l8 := by rw [hr]; exact Nat.mod_lt _ (by omega)
        obtain ⟨ix, hix⟩ : ∃ ix : Nat, ix = 8 + r := ⟨_, rfl⟩
        have hixL : ix < L := by omega
        have t4 : (L : Int) - 8 = (l8 : Int) := by omega
        have t6 : (x : Int).tmod (l8 : Int) = (r : Int) := by rw [Int.tmod_eq_emod_of_nonneg (by omega), hr]; simp
        have t7 : (8 : Int) + (r : Int) = (ix : Int) := by omega
        have hb1 : decide ((0 : Int) < (d : Int)) = true := decide_eq_true (by omega)
        have hb2 : decide ((8 : Int) < (L : Int)) = true := decide_eq_true (by omega)
        have b5 : 0 < l8 := by omega
        have b6 : l8 ≤ 300 := by omega
        have b7 : r ≤ 300 := by omega
        have hbw := HBW.out ix
        obtain ⟨y, hy⟩ : ∃ y, wds.getD ix 0 = y := ⟨_, rfl⟩
        have g1 := (HW5.out.cell hixL).1
        rw [hy] at g1 hbw
        have HPK : Hid ((rtN bs wds (j + 1) (nxI bs i)).1 = (rtN bs wds j (nxI bs i)).1 ++ [y]) := by
          unfold Hid
          rw [rtN]
          show (rtN bs wds j (nxI bs i)).1 ++ [rtF wds (nxV bs (rtN bs wds j (nxI bs i)).2)] = _
          rw [HX.out, ← hy]
          have e : ((x : Int) % ((L : Int) - 8)).toNat = x % (L - 8) := by
            rw [show (L : Int) - 8 = ((L - 8 : Nat) : Int) by omega, ← Int.natCast_emod]
            exact Int.toNat_natCast _
          unfold rtF
          rw [HL.out, if_pos ⟨by omega, hL8⟩, e, hix, hr, hl8]
        clear hd hl8 hr hix hy
        go_wp2_with (at_builtin; refine appF_law w5 rfl (.tmp 27) (.tmp 37) rfl w.heap.size _ (rtN bs wds j (nxI bs i)).1 y (by simp [Act.eval]) HF5.out (by simp [Act.eval]) (by rw [HFL.out]; omega) HS5.out ?_; intro g cap w6 hf6 hg6 hgr6 hor6; rw [HFL.out] at hf6 ⊢; have HF6 := Hid.mk' hf6; have HGE6 := Hid.mk' hg6; have HG6 := Hid.mk' hgr6; clear hf6 hg6 hgr6 hor6)
        exact ⟨RtI.step hlt HFL.out HF5.out HR5.out HK5.out hrl HF6.out HGE6.out HG6.out HPK.out, by simp [intOf]; omega⟩
      · obtain ⟨a, ha⟩ : ∃ a : Nat, a = x % L := ⟨_, rfl⟩
        have haL : a < L := by rw [ha]; exact Nat.mod_lt _ (by omega)
        have t1 : (x : Int).tmod (L : Int) = (a : Int) := by rw [Int.tmod_eq_emod_of_nonneg (by omega), ha]; simp
        have hbw := HBW.out a
        obtain ⟨y, hy⟩ : ∃ y, wds.getD a 0 = y := ⟨_, rfl⟩
        have g1 := (HW5.out.cell haL).1
        rw [hy] at g1 hbw
        have HPK : Hid ((rtN bs wds (j + 1) (nxI bs i)).1 = (rtN bs wds j (nxI bs i)).1 ++ [y]) := by
          unfold Hid
          rw [rtN]
          show (rtN bs wds j (nxI bs i)).1 ++ [rtF wds (nxV bs (rtN bs wds j (nxI bs i)).2)] = _
          rw [HX.out, ← hy]
          unfold rtF
          rw [HL.out, if_neg (by omega), ha]
          congr 3
        have hit2 : 0 < d → ¬ 8 < L := fun h1 h2 => hit ⟨h1, h2⟩
        clear hd ha hy hit
        by_cases h0 : 0 < d
        · have hb1 : decide ((0 : Int) < (d : Int)) = true := decide_eq_true (by omega)
          have hb2 : decide ((8 : Int) < (L : Int)) = false := decide_eq_false (by have := hit2 h0; omega)
          go_wp2_with (at_builtin; refine appF_law w5 rfl (.tmp 39) (.tmp 47) rfl w.heap.size _ (rtN bs wds j (nxI bs i)).1 y (by simp [Act.eval]) HF5.out (by simp [Act.eval]) (by rw [HFL.out]; omega) HS5.out ?_; intro g cap w6 hf6 hg6 hgr6 hor6; rw [HFL.out] at hf6 ⊢; have HF6 := Hid.mk' hf6; have HGE6 := Hid.mk' hg6; have HG6 := Hid.mk' hgr6; clear hf6 hg6 hgr6 hor6)
          exact ⟨RtI.step hlt HFL.out HF5.out HR5.out HK5.out hrl HF6.out HGE6.out HG6.out HPK.out, by simp [intOf]; omega⟩
        · have hb1 : decide ((0 : Int) < (d : Int)) = false := decide_eq_false (by omega)
          go_wp2_with (at_builtin; refine appF_law w5 rfl (.tmp 39) (.tmp 47) rfl w.heap.size _ (rtN bs wds j (nxI bs i)).1 y (by simp [Act.eval]) HF5.out (by simp [Act.eval]) (by rw [HFL.out]; omega) HS5.out ?_; intro g cap w6 hf6 hg6 hgr6 hor6; rw [HFL.out] at hf6 ⊢; have HF6 := Hid.mk' hf6; have HGE6 := Hid.mk' hg6; have HG6 := Hid.mk' hgr6; clear hf6 hg6 hgr6 hor6)
          exact ⟨RtI.step hlt HFL.out HF5.out HR5.out HK5.out hrl HF6.out HGE6.out HG6.out HPK.out, by simp [intOf]; omega⟩
    · obtain rfl : j = cnt := by omega
      go_wp2_with fail
      go_ret
      exact ⟨_, rfl, by rw [HRF.out]; exact hF.out, by rw [HRF.out]; exact hRd.out, hK.out⟩
end Go.Proofs.Ytmmkpmgidoelpaa
