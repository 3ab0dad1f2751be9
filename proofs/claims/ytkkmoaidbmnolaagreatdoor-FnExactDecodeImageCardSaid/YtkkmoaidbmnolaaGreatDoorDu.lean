import Derived.Test.YtkkmoaidbmnolaaGreatDoorDs
import Derived.Deep.RegionHeld
namespace Go.Proofs.YtkkmoaidbmnolaaGreatDoor
open Go.RowKit Ch1
theorem RsE.keep {w w' : World} {b : Nat} {ys : List Int} {bad : Bool} (h : RsE w b ys bad) (hk : ∀ k, k ≤ b → w'.heap[k]? = w.heap[k]?) (hs : w.heap.size ≤ w'.heap.size) : RsE w' b ys bad := by
  obtain ⟨p, n, c, xs, k, hR, rfl⟩ := h
  refine ⟨p, n, c, xs, k, ⟨(hk b (Nat.le_refl _)).trans hR.blk, ⟨hR.by_.len, hR.by_.cap, hR.by_.big, hR.by_.rng, fun h0 => ?_, fun a ha h0 => Nat.lt_of_lt_of_le (hR.by_.old a ha h0) hs⟩, hR.far, hR.le, hR.sm⟩, rfl⟩
  obtain ⟨bb, o, e, hc⟩ := hR.by_.cells h0
  refine ⟨bb, o, e, fun i hi => ?_⟩
  have := hR.far _ e h0
  rw [World.cell?_of_block (w := w) (hk bb (Nat.le_of_lt this))]
  exact hc i hi
theorem RsE.below {w w' : World} {b : Nat} {ys : List Int} {bad : Bool} (h : RsE w b ys bad) (hb : Below w.heap.size w w') : RsE w' b ys bad := by
  obtain ⟨p, n, c, xs, k, hR, rfl⟩ := h
  exact ⟨p, n, c, xs, k, hR.below hb, rfl⟩
theorem RsE.lt {w : World} {b : Nat} {ys : List Int} {bad : Bool} (h : RsE w b ys bad) : b < w.heap.size := by
  obtain ⟨p, n, c, xs, k, hR, rfl⟩ := h
  exact hR.lt
theorem RsE.rg {w : World} {b : Nat} {ys : List Int} {bad : Bool} (h : RsE w b ys bad) : Rg ys := by
  obtain ⟨p, n, c, xs, k, hR, rfl⟩ := h
  exact fun x hx => rg_of hR.by_.rng x (List.mem_of_mem_drop hx)
theorem RsE.later {w : World} {b : Nat} {ys : List Int} {bad : Bool} (h : RsE w b ys bad) {g : Nat} (hg : b < g) (j : Nat) (v : Value) : RsE (w.setCell ⟨g, j, none⟩ v) b ys bad :=
  h.keep (fun k hk => Below.heap_setCell w ⟨g, j, none⟩ v k (by simp only; omega)) (by rw [set_size]; exact Nat.le_refl _)
/-- The specification's pure reader of a datum. -/
def rsR (kind : Int) (xs : List Int) : Option (Dt × List Int) :=
  if kind = 0 then (rdN 8 xs).map (fun r => (⟨0, r.1, [], 0⟩, r.2))
  else if kind = 1 then (rdN 1 xs).map (fun r => (⟨1, r.1, [], 0⟩, r.2))
  else if kind = 2 then (rdN 1 xs).bind (fun r => if r.1.toNat ≤ r.2.length then some (⟨2, 0, r.2.take r.1.toNat, 0⟩, r.2.drop r.1.toNat) else none)
  else (rdN 2 xs).map (fun r => (⟨kind, 0, [], r.1⟩, r.2))
def rsD (xs : List Int) : Option (Dt × List Int) := (rdN 1 xs).bind (fun r => rsR r.1 r.2)
theorem rsD_of {ys rest : List Int} {kd : Int} (h : rdN 1 ys = some (kd, rest)) : rsD ys = rsR kd rest := by unfold rsD; rw [h]; rfl
theorem rsD_no {ys : List Int} (h : rdN 1 ys = none) : rsD ys = none := by unfold rsD; rw [h]; rfl
set_option maxHeartbeats 1000000 in
/-- l1copy, of no bytes too. -/
theorem copyS_c (q : Option Addr) (m c : Nat) (ys : List Int) (w : World) (hy : By w q m c ys) (hm : m ≤ 1048576) :
    Calls Tryz.prog 24 #[.slice q m c] w fun e w' => ∃ v, e = .returned v ∧ Ow w' w.heap.size v ys ∧ Below w.heap.size w w' := by
  have HY := Hid.mkD hy
  clear hy
  go_enter Tryz.func24, Tryz.ntmps24
  go_wp2_with (at_builtin; refine appN_law _ rfl (.tmp 4) (.tmp 5) rfl w.heap.size (.slice none 0 0) [] ys (by simp [Act.eval]) (Ow.nil _ _) q m c (by simp [Act.eval]) HY.out (by simp; omega) (Nat.le_refl _) ?_; intro v' w' ho hg _; have HO2 : Hid (Ow w' w.heap.size v' ([] ++ ys)) := ho; have HG : Hid (Below w.heap.size w w') := hg; clear ho hg)
  go_ret
  exact ⟨_, rfl, HO2.out, HG.out⟩
/-- b[l : l + m]. -/
theorem slice_mid (w : World) (a : Option Addr) (n c l m : Nat) (h : l + m ≤ n) (hc : n ≤ c) :
    (Instr.slice 22 (.slice a n c) (some (.int .i64 (l : Int))) (some (.int .i64 ((l : Int) + (m : Int)))) none).run Tryz.prog w = .ok (.slice (if c = l then a else a.map (·.add (l * 1))) m (c - l)) w := by
  have g0 : (0 : Int) ≤ (l : Int) + (m : Int) := by omega
  have g1 : (l : Int) + (m : Int) ≤ (c : Int) := by omega
  have g2 : ((l : Int) + (m : Int)).toNat = l + m := by omega
  simp [Instr.slice, run_underlying Tryz.underlying22, Instr.sliceBounds, Instr.sliceBound, asIntOf, g0, g1, g2, go_sem]
theorem Rs.later {w : World} {b : Nat} {p : Option Addr} {n c : Nat} {xs : List Int} {k : Nat} {bad : Bool} (h : Rs w b p n c xs k bad) {g : Nat} (hg : b < g) (j : Nat) (v : Value) : Rs (w.setCell ⟨g, j, none⟩ v) b p n c xs k bad :=
  ⟨(Below.heap_setCell w ⟨g, j, none⟩ v b (by simp only; omega)).trans h.blk, h.by_.setCellD g j v (fun a ha h0 => by have := h.far a ha h0; omega), h.far, h.le, h.sm⟩
theorem Rs.at_ {w : World} {b : Nat} {p : Option Addr} {n c : Nat} {xs : List Int} {k : Nat} {bad : Bool} (h : Rs w b p n c xs k bad) {k' : Nat} {z : Int} (hk : k' ≤ n) (hz : z = (k' : Int)) : Rs (w.setCell ⟨b, 1, none⟩ (.int .i64 z)) b p n c xs k' bad := by
  subst hz
  exact ⟨set_one h.blk _, h.by_.setCellD _ _ _ h.far', h.far, hk, h.sm⟩
/-- What l4readDatum leaves. -/
def SdP (b : Nat) (ys : List Int) (bad : Bool) (w w' : World) (e : Ending) : Prop :=
  ∃ (d : Dt) (q : Option Addr) (m c : Nat), e = .returned (.agg #[.int .i64 d.kind, .int .i64 d.n, .slice q m c, .int .i64 d.count]) ∧ Sr b w w' ∧ ((∃ rest, rsD ys = some (d, rest) ∧ Ow w' w.heap.size (.slice q m c) d.text ∧ RsE w' b rest bad) ∨ (rsD ys = none ∧ ∃ rest, RsE w' b rest true))
set_option maxRecDepth 20000 in
set_option maxHeartbeats 8000000 in
theorem l4rdDatum_c (b : Nat) (ys : List Int) (bad : Bool) (w : World) (h : RsE w b ys bad) :
    Calls Tryz.prog 13 #[.pointer (some ⟨b, 0, none⟩)] w fun e w' => SdP b ys bad w w' e := by
  have HR := Hid.mkD h
  have hbl := h.lt
  clear h
  go_enter Tryz.func13, Tryz.ntmps13
  obtain ⟨W, hWW⟩ : ∃ W, W = w.alloc (.cells #[.int .i64 0, .int .i64 0, .slice none 0 0, .int .i64 0] 41) := ⟨_, rfl⟩
  have HWX : Hid (W.heap[w.heap.size]? = some (.cells #[.int .i64 0, .int .i64 0, .slice none 0 0, .int .i64 0] 41)) := by unfold Hid; rw [hWW]; exact Go.Deep.blk_alloc_new _ _
  have HWB : Hid (Below w.heap.size w W) := by unfold Hid; rw [hWW]; exact below1 _ _
  have HWs : Hid (W.heap.size = w.heap.size + 1) := by unfold Hid; rw [hWW]; simp
  go_wp2_with fail
  rw [← hWW]
  clear hWW
  refine (l4num_c b 1 ys bad _ (HR.out.below HWB.out) (by omega)).mono ?_
  rintro e w1 ⟨kd, rfl, hs1, hst0⟩
  obtain ⟨rest, bad1, hR1, hst⟩ : ∃ rest bad1, RsE w1 b rest bad1 ∧ ((rdN 1 ys = some (kd, rest) ∧ bad1 = bad) ∨ (rdN 1 ys = none ∧ kd = 0 ∧ bad1 = true)) := by
    rcases hst0 with ⟨r2, h1, h2⟩ | ⟨h1, h3, h2⟩
    · exact ⟨r2, bad, h2, Or.inl ⟨h1, rfl⟩⟩
    · exact ⟨ys, true, h2, Or.inr ⟨h1, h3, rfl⟩⟩
  have HS1 : Hid (Sr b w w1) := (Sr.of_below HWB.out).trans hs1
  have HX1 : Hid (w1.heap[w.heap.size]? = some (.cells #[.int .i64 0, .int .i64 0, .slice none 0 0, .int .i64 0] 41)) := (hs1.block _ (by have := HWs.out; omega) (by omega)).trans HWX.out
  have hsz : w.heap.size < w1.heap.size := (Array.getElem?_eq_some_iff.1 HX1.out).1
  obtain ⟨W1, hW1⟩ : ∃ W1, W1 = w1.alloc (.cells #[.int .i64 kd, .int .i64 0, .slice none 0 0, .int .i64 0] 41) := ⟨_, rfl⟩
  have HB1 : Hid (Below w1.heap.size w1 W1) := by unfold Hid; rw [hW1]; exact below1 _ _
  have HY1 : Hid (W1.heap[w1.heap.size]? = some (.cells #[.int .i64 kd, .int .i64 0, .slice none 0 0, .int .i64 0] 41)) := by unfold Hid; rw [hW1]; exact Go.Deep.blk_alloc_new _ _
  have HWs1 : Hid (W1.heap.size = w1.heap.size + 1) := by unfold Hid; rw [hW1]; simp
  have HSW : Hid (Sr b w W1) := HS1.out.trans (Sr.of_below HB1.out)
  have HXW : Hid (W1.heap[w.heap.size]? = some (.cells #[.int .i64 0, .int .i64 0, .slice none 0 0, .int .i64 0] 41)) := (HB1.out.block _ hsz).trans HX1.out
  have HRW : Hid (RsE W1 b rest bad1) := hR1.below HB1.out
  clear hst0 hs1 hR1 HWX HWB HWs
  by_cases k0 : kd = 0
  · subst k0
    go_wp2_with fail
    rw [← hW1]
    clear hW1
    refine (l4num_c b 8 rest bad1 _ HRW.out (by omega)).mono ?_
    rintro e w2 ⟨z, rfl, hs2, hst2⟩
    obtain ⟨r2, bad2, hR2, hst3⟩ : ∃ r2 bad2, RsE w2 b r2 bad2 ∧ ((rdN 8 rest = some (z, r2) ∧ bad2 = bad1) ∨ (rdN 8 rest = none ∧ bad2 = true)) := by
      rcases hst2 with ⟨r2, h1, h2⟩ | ⟨h1, _, h2⟩
      · exact ⟨r2, bad1, h2, Or.inl ⟨h1, rfl⟩⟩
      · exact ⟨rest, true, h2, Or.inr ⟨h1, rfl⟩⟩
    have hS2 : Sr b w w2 := HSW.out.trans hs2
    obtain ⟨a0, a1, a2, a3, b0, b1, b2, b3⟩ := cells4 ((hs2.block _ (by have := HWs1.out; omega) (by omega)).trans HXW.out)
    obtain ⟨d0, d1, d2, d3, e0, e1, e2, e3⟩ := cells4 ((hs2.block _ (by have := HWs1.out; omega) (by omega)).trans HY1.out)
    have HRF : Hid (∀ v0 v1 v2 v3 v4, RsE (((((w2.setCell ⟨w1.heap.size, 1, none⟩ v0).setCell ⟨w.heap.size, 0, none⟩ v1).setCell ⟨w.heap.size, 1, none⟩ v2).setCell ⟨w.heap.size, 2, none⟩ v3).setCell ⟨w.heap.size, 3, none⟩ v4) b r2 bad2 ∧ Sr b w (((((w2.setCell ⟨w1.heap.size, 1, none⟩ v0).setCell ⟨w.heap.size, 0, none⟩ v1).setCell ⟨w.heap.size, 1, none⟩ v2).setCell ⟨w.heap.size, 2, none⟩ v3).setCell ⟨w.heap.size, 3, none⟩ v4)) := fun _ _ _ _ _ => ⟨((((hR2.later (by omega) _ _).later hbl _ _).later hbl _ _).later hbl _ _).later hbl _ _, ((((hS2.later (by omega) _ _).later (Nat.le_refl _) _ _).later (Nat.le_refl _) _ _).later (Nat.le_refl _) _ _).later (Nat.le_refl _) _ _⟩
    have HFN : Hid ((∃ r', rsD ys = some (⟨0, z, [], 0⟩, r') ∧ r' = r2 ∧ bad2 = bad) ∨ (rsD ys = none ∧ bad2 = true)) := by
      rcases hst with ⟨g1, g2⟩ | ⟨g1, _, g2⟩
      · rcases hst3 with ⟨g3, g4⟩ | ⟨g3, g4⟩
        · refine Or.inl ⟨r2, ?_, rfl, g4.trans g2⟩
          rw [rsD_of g1]; unfold rsR; rw [if_pos rfl]; rw [g3]; rfl
        · refine Or.inr ⟨?_, g4⟩
          rw [rsD_of g1]; unfold rsR; rw [if_pos rfl]; rw [g3]; rfl
      · refine Or.inr ⟨rsD_no g1, ?_⟩
        rcases hst3 with ⟨_, g4⟩ | ⟨_, g4⟩
        · exact g4.trans g2
        · exact g4
    clear hst3 hst2 hs2 hR2 hS2
    go_wp2
    refine bodyPost_ret (v := .agg #[.int .i64 0, .int .i64 z, .slice none 0 0, .int .i64 0]) (by simp [results, Tryz.results13, go_sem, World.cell?_setCell_same, a0, a1, a2, a3]) rfl ?_
    obtain ⟨hR5, hS5⟩ := HRF.out (.int .i64 z) _ _ _ _
    rcases HFN.out with ⟨r', g1, rfl, g3⟩ | ⟨g1, g2⟩
    · subst g3
      exact ⟨⟨0, z, [], 0⟩, none, 0, 0, rfl, hS5, Or.inl ⟨_, g1, Ow.nil _ _, hR5⟩⟩
    · subst g2
      exact ⟨⟨0, z, [], 0⟩, none, 0, 0, rfl, hS5, Or.inr ⟨g1, _, hR5⟩⟩
  · by_cases k1 : kd = 1
    · subst k1
      go_wp2_with fail
      rw [← hW1]
      clear hW1
      refine (l4num_c b 1 rest bad1 _ HRW.out (by omega)).mono ?_
      rintro e w2 ⟨z, rfl, hs2, hst2⟩
      obtain ⟨r2, bad2, hR2, hst3⟩ : ∃ r2 bad2, RsE w2 b r2 bad2 ∧ ((rdN 1 rest = some (z, r2) ∧ bad2 = bad1) ∨ (rdN 1 rest = none ∧ bad2 = true)) := by
        rcases hst2 with ⟨r2, h1, h2⟩ | ⟨h1, _, h2⟩
        · exact ⟨r2, bad1, h2, Or.inl ⟨h1, rfl⟩⟩
        · exact ⟨rest, true, h2, Or.inr ⟨h1, rfl⟩⟩
      have hS2 : Sr b w w2 := HSW.out.trans hs2
      obtain ⟨a0, a1, a2, a3, b0, b1, b2, b3⟩ := cells4 ((hs2.block _ (by have := HWs1.out; omega) (by omega)).trans HXW.out)
      obtain ⟨d0, d1, d2, d3, e0, e1, e2, e3⟩ := cells4 ((hs2.block _ (by have := HWs1.out; omega) (by omega)).trans HY1.out)
      have HRF : Hid (∀ v0 v1 v2 v3 v4, RsE (((((w2.setCell ⟨w1.heap.size, 1, none⟩ v0).setCell ⟨w.heap.size, 0, none⟩ v1).setCell ⟨w.heap.size, 1, none⟩ v2).setCell ⟨w.heap.size, 2, none⟩ v3).setCell ⟨w.heap.size, 3, none⟩ v4) b r2 bad2 ∧ Sr b w (((((w2.setCell ⟨w1.heap.size, 1, none⟩ v0).setCell ⟨w.heap.size, 0, none⟩ v1).setCell ⟨w.heap.size, 1, none⟩ v2).setCell ⟨w.heap.size, 2, none⟩ v3).setCell ⟨w.heap.size, 3, none⟩ v4)) := fun _ _ _ _ _ => ⟨((((hR2.later (by omega) _ _).later hbl _ _).later hbl _ _).later hbl _ _).later hbl _ _, ((((hS2.later (by omega) _ _).later (Nat.le_refl _) _ _).later (Nat.le_refl _) _ _).later (Nat.le_refl _) _ _).later (Nat.le_refl _) _ _⟩
      have HFN : Hid ((∃ r', rsD ys = some (⟨1, z, [], 0⟩, r') ∧ r' = r2 ∧ bad2 = bad) ∨ (rsD ys = none ∧ bad2 = true)) := by
        rcases hst with ⟨g1, g2⟩ | ⟨g1, _, g2⟩
        · rcases hst3 with ⟨g3, g4⟩ | ⟨g3, g4⟩
          · refine Or.inl ⟨r2, ?_, rfl, g4.trans g2⟩
            rw [rsD_of g1]; unfold rsR; rw [if_neg (by decide), if_pos rfl]; rw [g3]; rfl
          · refine Or.inr ⟨?_, g4⟩
            rw [rsD_of g1]; unfold rsR; rw [if_neg (by decide), if_pos rfl]; rw [g3]; rfl
        · refine Or.inr ⟨rsD_no g1, ?_⟩
          rcases hst3 with ⟨_, g4⟩ | ⟨_, g4⟩
          · exact g4.trans g2
          · exact g4
      clear hst3 hst2 hs2 hR2 hS2
      go_wp2
      refine bodyPost_ret (v := .agg #[.int .i64 1, .int .i64 z, .slice none 0 0, .int .i64 0]) (by simp [results, Tryz.results13, go_sem, World.cell?_setCell_same, a0, a1, a2, a3]) rfl ?_
      obtain ⟨hR5, hS5⟩ := HRF.out (.int .i64 z) _ _ _ _
      rcases HFN.out with ⟨r', g1, rfl, g3⟩ | ⟨g1, g2⟩
      · subst g3
        exact ⟨⟨1, z, [], 0⟩, none, 0, 0, rfl, hS5, Or.inl ⟨_, g1, Ow.nil _ _, hR5⟩⟩
      · subst g2
        exact ⟨⟨1, z, [], 0⟩, none, 0, 0, rfl, hS5, Or.inr ⟨g1, _, hR5⟩⟩
    · by_cases k2 : kd = 2
      · subst k2
        go_wp2_with fail
        rw [← hW1]
        clear hW1
        refine (l4num_c b 1 rest bad1 _ HRW.out (by omega)).mono ?_
        rintro e w2 ⟨z, rfl, hs2, hst2⟩
        obtain ⟨r2, bad2, hR2, hst3, hz0, hz1⟩ : ∃ r2 bad2, RsE w2 b r2 bad2 ∧ ((rdN 1 rest = some (z, r2) ∧ bad2 = bad1) ∨ (rdN 1 rest = none ∧ bad2 = true)) ∧ 0 ≤ z ∧ z < 256 := by
          rcases hst2 with ⟨r2, h1, h2⟩ | ⟨h1, h3, h2⟩
          · have hb := rdN_byte HRW.out.rg h1
            exact ⟨r2, bad1, h2, Or.inl ⟨h1, rfl⟩, hb.1, hb.2⟩
          · exact ⟨rest, true, h2, Or.inr ⟨h1, rfl⟩, by omega, by omega⟩
        obtain ⟨zn, rfl⟩ := Int.eq_ofNat_of_zero_le hz0
        have HS2 : Hid (Sr b w w2) := HSW.out.trans hs2
        have HX2 : Hid (w2.heap[w.heap.size]? = some (.cells #[.int .i64 0, .int .i64 0, .slice none 0 0, .int .i64 0] 41)) := (hs2.block _ (by have := HWs1.out; omega) (by omega)).trans HXW.out
        have HY2 : Hid (w2.heap[w1.heap.size]? = some (.cells #[.int .i64 2, .int .i64 0, .slice none 0 0, .int .i64 0] 41)) := (hs2.block _ (by have := HWs1.out; omega) (by omega)).trans HY1.out
        obtain ⟨p, n, c, xs, k, hR, hr2⟩ := hR2
        have HRS := Hid.mkD hR
        have HR2E := Hid.mkD hr2
        have HFN : Hid ((rsD ys = (if zn ≤ r2.length then some (⟨2, 0, r2.take zn, 0⟩, r2.drop zn) else none) ∧ bad2 = bad) ∨ (rsD ys = none ∧ bad2 = true)) := by
          rcases hst with ⟨g1, g2⟩ | ⟨_, g1, _⟩
          · rcases hst3 with ⟨g3, g4⟩ | ⟨g3, g4⟩
            · refine Or.inl ⟨?_, g4.trans g2⟩
              rw [rsD_of g1]; unfold rsR; rw [if_neg (by decide), if_neg (by decide), if_pos rfl, g3]; rfl
            · refine Or.inr ⟨?_, g4⟩
              rw [rsD_of g1]; unfold rsR; rw [if_neg (by decide), if_neg (by decide), if_pos rfl, g3]; rfl
          · cases g1
        obtain ⟨x0, x1, x2, xf0, xf1, xf2⟩ := cells3 hR.blk
        have hsm := hR.sm
        have hle := hR.le
        have HL2 : Hid (r2.length = n - k) := by unfold Hid; rw [hr2, List.length_drop, hR.by_.len]
        clear hst2 hst3 hs2 hR hr2
        by_cases hfit : k + zn ≤ n
        · have hd : decide ((n : Int) < (k : Int) + (zn : Int)) = false := decide_eq_false (by omega)
          have fw : IntKind.i64.wrap ((k : Int) + (zn : Int)) = (k : Int) + (zn : Int) := by rw [IntKind.wrap_i64]; omega
          go_wp2_with fail
          go_region
          all_goals go_wp2_with fail
          obtain ⟨q, hq⟩ : ∃ q, q = (if c = k then p else p.map (·.add (k * 1))) := ⟨_, rfl⟩
          have hcn := HRS.out.by_.cap
          have hsl := fun wx => slice_mid wx p n c k zn hfit hcn
          rw [← hq] at hsl
          have hby : By w2 q zn (c - k) (r2.take zn) := by
            rw [HR2E.out]
            refine (HRS.out.by_.dropD (q := q) (d := c - k) hle (by omega) (Nat.le_trans (Nat.sub_le _ _) HRS.out.by_.big) (fun b' o' e hlt => ?_)).takeD (by omega)
            rw [hq, if_neg (by omega), e]
            simp [Addr.add]
          obtain ⟨tx, htx⟩ : ∃ tx, r2.take zn = tx := ⟨_, rfl⟩
          rw [htx] at hby
          have HTX := Hid.mkD htx
          have HBY := Hid.mkD hby
          have hbn : b ≠ w1.heap.size := by omega
          have hbn' : w1.heap.size ≠ b := by omega
          clear hby hq htx
          have SK : Hid (∀ wx, Below w2.heap.size w2 wx → wx.cell? ⟨b, 0, none⟩ = some (.slice p n c) ∧ wx.cell? ⟨b, 1, none⟩ = some (.int .i64 (k : Int))) := fun wx hb => by
            obtain ⟨z0, z1, _⟩ := cells3 (HRS.out.below hb).blk
            exact ⟨z0, z1⟩
          have hYl := (Array.getElem?_eq_some_iff.1 HY2.out).1
          have hXl := (Array.getElem?_eq_some_iff.1 HX2.out).1
          have HCUR : Hid (Below w2.heap.size w2 w2.drew.drew) := below_drewM (below_drewM (Below.refl _ _))
          go_region_held (fun wx => wx.cell? ⟨b, 0, none⟩ = some (.slice p n c) ∧ wx.cell? ⟨b, 1, none⟩ = some (.int .i64 (k : Int))) (first | exact SK.out _ HCUR.out | exact ⟨by rw [World.cell?_of_block (w := w3) (Below.heap_setCell w3 _ _ b hbn)]; exact zz0, by rw [World.cell?_of_block (w := w3) (Below.heap_setCell w3 _ _ b hbn)]; exact zz1⟩) (first
            | (go_at_call 24; refine (copyS_c q zn (c - k) tx _ (HBY.out.below HCUR.out) (by omega)).mono ?_; rintro e w3 ⟨v, rfl, ho, hb3⟩; have HO3 := Hid.mkD ho; have HB3 := Hid.mkD (HCUR.out.trans (hb3.mono HCUR.out.size)); obtain ⟨q3, c3, rfl, _⟩ := ho.len; obtain ⟨L3, hL3⟩ : ∃ L3, tx.length = L3 := ⟨_, rfl⟩; rw [hL3] at HO3 ⊢; clear hL3; obtain ⟨zz0, zz1, zz2, zf0, zf1, zf2⟩ := cells3 (HRS.out.below HB3.out).blk; obtain ⟨d0, d1, d2, d3, e0, e1, e2, e3⟩ := cells4 ((HB3.out.block _ hYl).trans HY2.out); obtain ⟨a0, a1, a2, a3, b0, b1, b2, b3⟩ := cells4 ((HB3.out.block _ hXl).trans HX2.out); have HCUR := HB3; clear ho hb3))
          all_goals go_wp2_with fail
          have hw2 := HS2.out.size
          have hR5 := ((((((HRS.out.below HB3.out).later (show b < w1.heap.size by omega) 2 (.slice q3 L3 c3)).at_ (k' := k + zn) (z := (k : Int) + (zn : Int)) hfit (by omega)).later hbl 0 (.int .i64 2)).later hbl 1 (.int .i64 0)).later hbl 2 (.slice q3 L3 c3)).later hbl 3 (.int .i64 0)
          have hS5 := ((((((HS2.out.trans (Sr.of_below HB3.out)).later (show w.heap.size ≤ w1.heap.size by omega) 2 (.slice q3 L3 c3)).trans (Sr.set b _ 1 (.int .i64 ((k : Int) + (zn : Int))))).later (Nat.le_refl _) 0 (.int .i64 2)).later (Nat.le_refl _) 1 (.int .i64 0)).later (Nat.le_refl _) 2 (.slice q3 L3 c3)).later (Nat.le_refl _) 3 (.int .i64 0)
          have hO5 := (((((HO3.out.low (show w1.heap.size < w2.heap.size from hYl) 2 (.slice q3 L3 c3)).low (show b < w2.heap.size by omega) 1 (.int .i64 ((k : Int) + (zn : Int)))).low (show w.heap.size < w2.heap.size from hXl) 0 (.int .i64 2)).low (show w.heap.size < w2.heap.size from hXl) 1 (.int .i64 0)).low (show w.heap.size < w2.heap.size from hXl) 2 (.slice q3 L3 c3)).low (show w.heap.size < w2.heap.size from hXl) 3 (.int .i64 0)
          refine bodyPost_ret (v := .agg #[.int .i64 2, .int .i64 0, .slice q3 L3 c3, .int .i64 0]) (by simp [results, Tryz.results13, go_sem, World.cell?_setCell_same, a0, a1, a2, a3]) rfl ?_
          refine ⟨⟨2, 0, tx, 0⟩, q3, L3, c3, rfl, hS5, ?_⟩
          rcases HFN.out with ⟨g1, g2⟩ | ⟨g1, g2⟩
          · refine Or.inl ⟨r2.drop zn, ?_, hO5.mono hw2, ?_⟩
            · rw [g1, if_pos (by have := HL2.out; omega), HTX.out]
            · rw [← g2]
              exact ⟨p, n, c, xs, k + zn, hR5, by rw [HR2E.out, List.drop_drop]⟩
          · refine Or.inr ⟨g1, _, ⟨p, n, c, xs, k + zn, by rw [← g2]; exact hR5, rfl⟩⟩
        · have hd : decide ((n : Int) < (k : Int) + (zn : Int)) = true := decide_eq_true (by omega)
          have fw : IntKind.i64.wrap ((k : Int) + (zn : Int)) = (k : Int) + (zn : Int) := by rw [IntKind.wrap_i64]; omega
          go_wp2_with fail
          go_region
          obtain ⟨d0, d1, d2, d3, e0, e1, e2, e3⟩ := cells4 HY2.out
          obtain ⟨a0, a1, a2, a3, b0, b1, b2, b3⟩ := cells4 HX2.out
          all_goals go_wp2_with fail
          have hR5 : RsE (((((w2.setCell ⟨b, 2, none⟩ (.bool true)).setCell ⟨w.heap.size, 0, none⟩ (.int .i64 2)).setCell ⟨w.heap.size, 1, none⟩ (.int .i64 0)).setCell ⟨w.heap.size, 2, none⟩ (.slice none 0 0)).setCell ⟨w.heap.size, 3, none⟩ (.int .i64 0)).drew b r2 true := by
            have hR6 : RsE (w2.setCell ⟨b, 2, none⟩ (.bool true)) b r2 true := ⟨p, n, c, xs, k, ⟨set_two HRS.out.blk _, HRS.out.by_.setCellD _ _ _ HRS.out.far', HRS.out.far, HRS.out.le, HRS.out.sm⟩, HR2E.out⟩
            exact ((((hR6.later hbl _ _).later hbl _ _).later hbl _ _).later hbl _ _).below (below_drewM (Below.refl _ _))
          have hS5 : Sr b w (((((w2.setCell ⟨b, 2, none⟩ (.bool true)).setCell ⟨w.heap.size, 0, none⟩ (.int .i64 2)).setCell ⟨w.heap.size, 1, none⟩ (.int .i64 0)).setCell ⟨w.heap.size, 2, none⟩ (.slice none 0 0)).setCell ⟨w.heap.size, 3, none⟩ (.int .i64 0)).drew := (((((HS2.out.trans (Sr.set _ _ _ _)).later (Nat.le_refl _) _ _).later (Nat.le_refl _) _ _).later (Nat.le_refl _) _ _).later (Nat.le_refl _) _ _).trans (Sr.of_below (below_drewM (Below.refl _ _)))
          refine bodyPost_ret (v := .agg #[.int .i64 2, .int .i64 0, .slice none 0 0, .int .i64 0]) (by simp [results, Tryz.results13, go_sem, World.cell?_setCell_same, a0, a1, a2, a3]) rfl ?_
          refine ⟨⟨2, 0, [], 0⟩, none, 0, 0, rfl, hS5, Or.inr ⟨?_, _, hR5⟩⟩
          rcases HFN.out with ⟨g1, _⟩ | ⟨g1, _⟩
          · rw [g1, if_neg (by have := HL2.out; omega)]
          · exact g1
      · have q0 : (kd == 0) = false := by simpa using k0
        have q1 : (kd == 1) = false := by simpa using k1
        have q2 : (kd == 2) = false := by simpa using k2
        go_wp2_with fail
        rw [← hW1]
        clear hW1
        refine (l4num_c b 2 rest bad1 _ HRW.out (by omega)).mono ?_
        rintro e w2 ⟨z, rfl, hs2, hst2⟩
        obtain ⟨r2, bad2, hR2, hst3⟩ : ∃ r2 bad2, RsE w2 b r2 bad2 ∧ ((rdN 2 rest = some (z, r2) ∧ bad2 = bad1) ∨ (rdN 2 rest = none ∧ bad2 = true)) := by
          rcases hst2 with ⟨r2, h1, h2⟩ | ⟨h1, _, h2⟩
          · exact ⟨r2, bad1, h2, Or.inl ⟨h1, rfl⟩⟩
          · exact ⟨rest, true, h2, Or.inr ⟨h1, rfl⟩⟩
        have hS2 : Sr b w w2 := HSW.out.trans hs2
        obtain ⟨a0, a1, a2, a3, b0, b1, b2, b3⟩ := cells4 ((hs2.block _ (by have := HWs1.out; omega) (by omega)).trans HXW.out)
        obtain ⟨d0, d1, d2, d3, e0, e1, e2, e3⟩ := cells4 ((hs2.block _ (by have := HWs1.out; omega) (by omega)).trans HY1.out)
        have HRF : Hid (∀ v0 v1 v2 v3 v4, RsE (((((w2.setCell ⟨w1.heap.size, 3, none⟩ v0).setCell ⟨w.heap.size, 0, none⟩ v1).setCell ⟨w.heap.size, 1, none⟩ v2).setCell ⟨w.heap.size, 2, none⟩ v3).setCell ⟨w.heap.size, 3, none⟩ v4) b r2 bad2 ∧ Sr b w (((((w2.setCell ⟨w1.heap.size, 3, none⟩ v0).setCell ⟨w.heap.size, 0, none⟩ v1).setCell ⟨w.heap.size, 1, none⟩ v2).setCell ⟨w.heap.size, 2, none⟩ v3).setCell ⟨w.heap.size, 3, none⟩ v4)) := fun _ _ _ _ _ => ⟨((((hR2.later (by omega) _ _).later hbl _ _).later hbl _ _).later hbl _ _).later hbl _ _, ((((hS2.later (by omega) _ _).later (Nat.le_refl _) _ _).later (Nat.le_refl _) _ _).later (Nat.le_refl _) _ _).later (Nat.le_refl _) _ _⟩
        have HFN : Hid ((∃ r', rsD ys = some (⟨kd, 0, [], z⟩, r') ∧ r' = r2 ∧ bad2 = bad) ∨ (rsD ys = none ∧ bad2 = true)) := by
          rcases hst with ⟨g1, g2⟩ | ⟨g1, _, g2⟩
          · rcases hst3 with ⟨g3, g4⟩ | ⟨g3, g4⟩
            · refine Or.inl ⟨r2, ?_, rfl, g4.trans g2⟩
              rw [rsD_of g1]; unfold rsR; rw [if_neg k0, if_neg k1, if_neg k2]; rw [g3]; rfl
            · refine Or.inr ⟨?_, g4⟩
              rw [rsD_of g1]; unfold rsR; rw [if_neg k0, if_neg k1, if_neg k2]; rw [g3]; rfl
          · refine Or.inr ⟨rsD_no g1, ?_⟩
            rcases hst3 with ⟨_, g4⟩ | ⟨_, g4⟩
            · exact g4.trans g2
            · exact g4
        clear hst3 hst2 hs2 hR2 hS2
        go_wp2
        refine bodyPost_ret (v := .agg #[.int .i64 kd, .int .i64 0, .slice none 0 0, .int .i64 z]) (by simp [results, Tryz.results13, go_sem, World.cell?_setCell_same, a0, a1, a2, a3]) rfl ?_
        obtain ⟨hR5, hS5⟩ := HRF.out (.int .i64 z) _ _ _ _
        rcases HFN.out with ⟨r', g1, rfl, g3⟩ | ⟨g1, g2⟩
        · subst g3
          exact ⟨⟨kd, 0, [], z⟩, none, 0, 0, rfl, hS5, Or.inl ⟨_, g1, Ow.nil _ _, hR5⟩⟩
        · subst g2
          exact ⟨⟨kd, 0, [], z⟩, none, 0, 0, rfl, hS5, Or.inr ⟨g1, _, hR5⟩⟩
end Go.Proofs.YtkkmoaidbmnolaaGreatDoor
