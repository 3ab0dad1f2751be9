import Derived.Test.YtleeldjncobheaaDoorSa
import Derived.Test.YtleeldjncobheaaDoorS5
namespace Go.Proofs.YtleeldjncobheaaDoor
open Go.RowKit Ch1 Ch2s
section
variable {w0 : World} {p : Option Addr} {n c : Nat} {top : Int} {ws : List Int} {np : Option Addr} {nn nc : Nat} {ns : List (List Int)}
/-- The end of a pair's text, in the specification. -/
def prU (g : Int → List Int → List Int) (r : Int × List Int) : List Int := (if r.1 ≠ 3 then g r.1 (r.2 ++ [32, 46, 32]) else r.2) ++ [41]
theorem prU_nil {g : Int → List Int → List Int} {o : List Int} : prU g (3, o) = o ++ [41] := by unfold prU; rw [if_neg (fun h => h rfl)]
theorem prU_more {g : Int → List Int → List Int} {x : Int} {o : List Int} (h : x ≠ 3) : prU g (x, o) = g x (o ++ [32, 46, 32]) ++ [41] := by unfold prU; rw [if_pos h]
/-- At the head of the loop over the pairs. -/
def PsI (B : Nat) (ws : List Int) (top : Int) (g : Int → List Int → List Int) (res : Int × List Int) (lo : Nat) (W : World) (gk : Nat) (ov rv : Value) (wr : World) : Prop :=
  ∃ (j : Nat) (rest : Int) (q : Option Addr) (L d : Nat) (out : List Int), gk = 1001 - j ∧ rv = .int .i64 rest ∧ ov = .slice q L d ∧ Hid (L = out.length) ∧ Hid (Ow wr B (.slice q L d) out) ∧ Hid (Kp B W wr) ∧ Hid (Hp.Ch2.WordOk ws top.toNat rest) ∧ Hid (-9223372036854775808 ≤ rest ∧ rest ≤ 9223372036854775807) ∧ Hid (prS g ws (1001 - j) rest out = res) ∧ Hid (j ≤ L ∧ lo ≤ L) ∧ L ≤ 1100000 ∧ j ≤ 1000
set_option maxRecDepth 20000 in
set_option maxHeartbeats 8000000 in
theorem shows_pair (hC : Cx w0 p n c top ws np nn nc ns) (f : Nat) (hf10 : f ≤ 1001) (ih : ShowS w0 p n c top ws np nn nc ns f) (hle : ∀ x o, (-9223372036854775808 ≤ x ∧ x ≤ 9223372036854775807) → (shS itoaZ (symZ ns) rareZ ws f x o).length ≤ max o.length 1000 + (1048600 + 10 * f)) (x : Int) (hx4 : x % 4 = 1) (h0 : 0 ≤ x) (h1 : x ≤ 9223372036854775807) (a : Nat) (ha : x / 4 = a) (hOb : Ob n a 2 (ws.getD a 0)) (hh : 0 ≤ ws.getD a 0) (hk : ws.getD a 0 % 4 = 0) (k1 : Hp.Ch2.WordOk ws top.toNat (ws.getD (a + 1) 0)) (k2 : Hp.Ch2.WordOk ws top.toNat (ws.getD (a + 2) 0)) (q : Option Addr) (L d : Nat) (xs : List Int) (w : World) (hLx : L = xs.length) (hO : Ow w w0.heap.size (.slice q L d) xs) (hb : Below w0.heap.size w0 w) (hfl : 1001 - L ≤ f + 1) (hx : L < 1000) :
    Calls Tryd.prog 35 #[.agg #[.slice p n c, .int .i64 top], .int .i64 x, .slice np nn nc, .slice q L d] w fun e w' => SP w0.heap.size (prU (shS itoaZ (symZ ns) rareZ ws f) (prS (shS itoaZ (symZ ns) rareZ ws f) ws 1001 (ws.getD (a + 2) 0) (shS itoaZ (symZ ns) rareZ ws f (ws.getD (a + 1) 0) (xs ++ [40])))) w w' e := by
  have HO : Hid (Ow w w0.heap.size (.slice q L d) xs) := hO
  have HL : Hid (L = xs.length) := hLx
  have hx2 : decide ((1000 : Int) ≤ L) = false := decide_eq_false (by omega)
  have hx3 : decide (1000 ≤ L) = false := decide_eq_false (by omega)
  have hB := hb.size
  obtain ⟨hm, m1, ham, hn⟩ := hOb
  have HB0 : Hid (Below w0.heap.size w0 w) := hb
  have HCX : Hid (Cx w0 p n c top ws np nn nc ns) := hC
  obtain ⟨b, o, rfl, hbl0, hc0⟩ := hC.is.cells (by omega)
  have hbl := Nat.lt_of_lt_of_le hbl0 hB
  have HCW : Hid (∀ w' i, Below w0.heap.size w0 w' → i < n → w'.cell? ⟨b, o + i, none⟩ = some (.int .i64 (ws.getD i 0))) := fun w' i hb' hi => by rw [hb'.cell (p := ⟨b, o + i, none⟩) hbl0]; exact hc0 i hi
  have ca := HCW.out w a hb (by omega)
  have y0 := fun o1 => cell_keep (below1 w o1) hbl ca
  have IH : Hid (ShowS w0 (some ⟨b, o, none⟩) n c top ws np nn nc ns f) := ih
  have HRG : Hid (∀ i, -9223372036854775808 ≤ ws.getD i 0 ∧ ws.getD i 0 ≤ 9223372036854775807) := hC.is.rng
  obtain ⟨g, hg⟩ : ∃ g, g = shS itoaZ (symZ ns) rareZ ws f := ⟨_, rfl⟩
  have HGE : Hid (g = shS itoaZ (symZ ns) rareZ ws f) := hg
  have HGR : Hid (Grw g) := by unfold Hid; rw [hg]; exact shS_grw _ _ _ _ f
  rw [← hg] at hle ⊢
  have HLE : Hid (∀ x o, (-9223372036854775808 ≤ x ∧ x ≤ 9223372036854775807) → (g x o).length ≤ max o.length 1000 + (1048600 + 10 * f)) := hle
  have HRN : Hid (∀ i, -9223372036854775808 ≤ ws.getD i 0 ∧ ws.getD i 0 ≤ 9223372036854775807) := hC.is.rng
  have HC1 : Hid (∀ w', Below w0.heap.size w0 w' → w'.cell? ⟨b, o + (a + 1), none⟩ = some (.int .i64 (ws.getD (a + 1) 0))) := fun w' hb' => HCW.out w' _ hb' (by omega)
  have HC2 : Hid (∀ w', Below w0.heap.size w0 w' → w'.cell? ⟨b, o + (a + 2), none⟩ = some (.int .i64 (ws.getD (a + 2) 0))) := fun w' hb' => HCW.out w' _ hb' (by omega)
  have HR1 : Hid (-9223372036854775808 ≤ ws.getD (a + 1) 0 ∧ ws.getD (a + 1) 0 ≤ 9223372036854775807) := hC.is.rng _
  have HR2 : Hid (-9223372036854775808 ≤ ws.getD (a + 2) 0 ∧ ws.getD (a + 2) 0 ≤ 9223372036854775807) := hC.is.rng _
  have HK1 : Hid (Hp.Ch2.WordOk ws top.toNat (ws.getD (a + 1) 0)) := k1
  have HK2 : Hid (Hp.Ch2.WordOk ws top.toNat (ws.getD (a + 2) 0)) := k2
  generalize ws.getD (a + 1) 0 = f1 at HC1 HR1 HK1 ⊢
  generalize ws.getD (a + 2) 0 = f2 at HC2 HR2 HK2 ⊢
  generalize hhd : ws.getD a 0 = hd at hh hk ca y0 hm
  have HHD : Hid (ws.getD a 0 = hd) := hhd
  have ian : (a : Int) < n := by omega
  obtain ⟨W, hWW⟩ : ∃ W, W = w.alloc (.cells #[.slice (some ⟨b, o, none⟩) n c, .int .i64 top] 40) := ⟨_, rfl⟩
  have HWX : Hid (W.heap[w.heap.size]? = some (.cells #[.slice (some ⟨b, o, none⟩) n c, .int .i64 top] 40)) := by unfold Hid; rw [hWW]; exact Go.Deep.blk_alloc_new _ _
  have HWB : Hid (Below w.heap.size w W) := by unfold Hid; rw [hWW]; exact below1 _ _
  have HWs : Hid (W.heap.size = w.heap.size + 1) := by unfold Hid; rw [hWW]; simp
  have hBW := Nat.le_trans hB HWB.out.size
  have HKW : Hid (∀ w', Kp w0.heap.size W w' → Below w0.heap.size w0 w') := fun w' hk' => (HB0.out.trans (HWB.out.mono hB)).trans hk'.below
  obtain ⟨out0, ho0⟩ : ∃ o0, o0 = xs ++ [40] := ⟨_, rfl⟩
  have HO0 : Hid (out0 = xs ++ [40]) := ho0
  have hl0 : out0.length = L + 1 := by rw [ho0, List.length_append, hLx]; rfl
  rw [← ho0]
  have wf1 : IntKind.i64.wrap ((a : Int) + 1) = (a : Int) + 1 := by rw [IntKind.wrap_i64]; omega
  have wf3 : (0 : Int) ≤ (a : Int) + 1 := by omega
  have wf4 : (a : Int) + 1 < n := by omega
  have wf5 : ((a : Int) + 1).toNat = a + 1 := by omega
  clear hO hLx hb hbl0 hc0 ih hg hle hhd hC ho0 k1 k2 hm
  go_enter Tryd.func35, Tryd.ntmps35
  go_wp2_with (first | (go_at_call 52; refine (Hp.l2tag_c x _).mono ?_; rintro e w1 ⟨rfl, hw1⟩; rw [hx4]; subst hw1) | (at_builtin; rw [← hWW]; refine app1s_law _ rfl (.tmp 115) (.tmp 116) rfl w0.heap.size (.slice q L d) xs 40 (by omega) (by omega) (by simp [Act.eval]) (by exact HO.out.below HWB.out) (by simp [Act.eval, HWs.out]) (by rw [← HL.out]; omega) hBW ?_; intro v' w1 ho hg hbt; rw [← HO0.out] at ho; obtain ⟨q1, c1, rfl, _⟩ := ho.len; rw [hl0] at ho ⊢; have HO1 : Hid (Ow w1 w0.heap.size (.slice q1 (L + 1) c1) out0) := ho; have HKK1 : Hid (Kp w0.heap.size W w1) := Kp.app (HO.out.below HWB.out) hg hbt; have x0 : w1.cell? ⟨w.heap.size, 0, none⟩ = some (.slice (some ⟨b, o, none⟩) n c) := HKK1.out.cell HWX.out (by decide) rfl; have x1 : w1.cell? ⟨w.heap.size, 1, none⟩ = some (.int .i64 top) := HKK1.out.cell HWX.out (by decide) rfl; have cx := HC1.out w1 (HKW.out _ HKK1.out); clear ho hg hbt))
  have HL1 : Hid (L + 1 = out0.length) := hl0.symm
  go_cut [3] from 118 (fun v wc => SV w0.heap.size (g f1 out0) w1 v wc)
  case first =>
    go_region_with (go_at_call 35; refine (IH.out f1 q1 (L + 1) c1 out0 _ HL1.out (by exact HO1.out.below (below_drewM (Below.refl _ _))) (by exact below_drewM (HKW.out _ HKK1.out)) HK1.out HR1.out ?yf (by omega)).mono ?_; (case yf => omega); rintro e w5 ⟨q5, L5, d5, rfl, hl5, ho5, hk5⟩; rw [← HGE.out] at hl5 ho5; have HL5 : Hid (L5 = (g f1 out0).length) := hl5.out; have HO5 : Hid (Ow w5 w0.heap.size (.slice q5 L5 d5) (g f1 out0)) := ho5; have HK5 : Hid (Kp w0.heap.size w1 w5) := ⟨(below_drewM (Below.refl _ _)).trans hk5.below, hk5.kept⟩; clear hl5 ho5 hk5)
    all_goals go_wp2_with fail
    all_goals go_meet
    all_goals exact ⟨q5, L5, d5, rfl, HL5.out, HO5.out, HK5.out⟩
  case rest =>
    obtain ⟨q2, L2, d2, rfl, hl2, ho2, hk2⟩ := hcut
    have HL2 : Hid (L2 = (g f1 out0).length) := hl2.out
    have HO2 : Hid (Ow wc w0.heap.size (.slice q2 L2 d2) (g f1 out0)) := ho2
    have HK2w : Hid (Kp w0.heap.size W wc) := HKK1.out.trans hk2
    have b1 : L2 ≤ 1100000 := by
      have h1 := HLE.out f1 out0 HR1.out
      rw [← HL2.out, ← HL1.out] at h1
      omega
    have b2 : L + 1 ≤ L2 := by
      have h1 := HGR.out f1 out0
      rw [← HL2.out, ← HL1.out] at h1
      exact h1
    have z0 : wc.cell? ⟨w.heap.size, 0, none⟩ = some (.slice (some ⟨b, o, none⟩) n c) := HK2w.out.cell HWX.out (by decide) rfl
    have zc := HC2.out wc (HKW.out _ HK2w.out)
    have ian2 : (a : Int) + 2 < n := by omega
    clear hl2 ho2 hk2 x0 x1 cx y0 ca HO1 HKK1
    obtain ⟨res, hres⟩ : ∃ r, r = prS g ws 1001 f2 (g f1 out0) := ⟨_, rfl⟩
    have HRES : Hid (prS g ws 1001 f2 (g f1 out0) = res) := hres.symm
    clear hres
    go_wp2
    clear z0 zc
    go_loopg [3, 15] 1001 (fun gk ov rv wr => PsI w0.heap.size ws top g res (L + 1) W gk ov rv wr)
    case atStart => exact ⟨0, f2, q2, L2, d2, _, rfl, rfl, rfl, HL2.out, HO2.out, HK2w.out, HK2.out, HR2.out, HRES.out, ⟨Nat.zero_le _, b2⟩, b1, Nat.zero_le _⟩
    case round =>
      clear HO2 HK2w HL2 b1 b2
      obtain ⟨j, rest, q3, L3, d3, out, hgk, rfl, rfl, hL3, hO3, hK3, hW3, hR3, hE, hJ, hbig, hj⟩ := hrel
      have HGK : Hid (gk = 1001 - j) := hgk
      have hj1 := hJ.out.1
      have hj2 := hJ.out.2
      clear hgk
      have x0 : wr.cell? ⟨w.heap.size, 0, none⟩ = some (.slice (some ⟨b, o, none⟩) n c) := hK3.out.cell HWX.out (by decide) rfl
      have x1 : wr.cell? ⟨w.heap.size, 1, none⟩ = some (.int .i64 top) := hK3.out.cell HWX.out (by decide) rfl
      have HBr : Hid (w0.heap.size ≤ wr.heap.size) := (HKW.out _ hK3.out).size
      have hs3 : L3 ≤ 9223372036854775807 := by omega
      by_cases hgo : L3 < 1000 ∧ isPr ws rest = true
      · obtain ⟨hll, hpr⟩ := hgo
        have dL : decide ((L3 : Int) < 1000) = true := decide_eq_true (by omega)
        have hx1 : rest % 4 = 1 := by unfold isPr at hpr; simp at hpr; omega
        obtain ⟨a3, ha3, ha3', _, hhd3, hOb3, hfw3⟩ := obj_of HCX.out.good HCX.out.is.len hx1 hW3.out
        have hk3 : ws.getD a3 0 % 4 = 0 := by rw [isPr_iff hx1 ha3'] at hpr; exact of_decide_eq_true hpr
        have hc3 := Hp.Ch2.head_pair hhd3 hk3
        have hh3 := (Hp.Ch2.head_cnt hhd3).1
        rw [hc3] at hOb3 hfw3
        have h3n := hOb3.ham
        have r0 : 0 ≤ rest := by rcases hW3.out with h | h | h | h <;> omega
        have r1 := hR3.out.2
        have HES : Hid (prS g ws (1001 - (j + 1)) (ws.getD (a3 + 2) 0) (g (ws.getD (a3 + 1) 0) (out ++ [32])) = res) := by
          unfold Hid
          rw [← hE.out, show 1001 - j = (1001 - (j + 1)) + 1 by omega, prS, if_pos ⟨by rw [← hL3.out]; exact hll, hpr⟩, ha3']
        have HN1 : Hid (Hp.Ch2.WordOk ws top.toNat (ws.getD (a3 + 1) 0)) := hfw3 0 (by omega)
        have HN2 : Hid (Hp.Ch2.WordOk ws top.toNat (ws.getD (a3 + 2) 0)) := hfw3 1 (by omega)
        have HQ1 : Hid (-9223372036854775808 ≤ ws.getD (a3 + 1) 0 ∧ ws.getD (a3 + 1) 0 ≤ 9223372036854775807) := HRN.out _
        have HQ2 : Hid (-9223372036854775808 ≤ ws.getD (a3 + 2) 0 ∧ ws.getD (a3 + 2) 0 ≤ 9223372036854775807) := HRN.out _
        have HD0 : Hid (∀ w', Kp w0.heap.size W w' → w'.cell? ⟨b, o + a3, none⟩ = some (.int .i64 (ws.getD a3 0))) := fun w' hk' => HCW.out w' _ (HKW.out _ hk') (by omega)
        have HD1 : Hid (∀ w', Kp w0.heap.size W w' → w'.cell? ⟨b, o + (a3 + 1), none⟩ = some (.int .i64 (ws.getD (a3 + 1) 0))) := fun w' hk' => HCW.out w' _ (HKW.out _ hk') (by omega)
        have HD2 : Hid (∀ w', Kp w0.heap.size W w' → w'.cell? ⟨b, o + (a3 + 2), none⟩ = some (.int .i64 (ws.getD (a3 + 2) 0))) := fun w' hk' => HCW.out w' _ (HKW.out _ hk') (by omega)
        generalize ws.getD (a3 + 1) 0 = n1 at HN1 HQ1 HD1 HES
        generalize ws.getD (a3 + 2) 0 = n2 at HN2 HQ2 HD2 HES
        generalize ws.getD a3 0 = hd3 at hk3 hh3 HD0
        have tq : rest.tdiv 4 = (a3 : Int) := by rw [Int.tdiv_eq_ediv_of_nonneg r0]; exact ha3
        have hk3t : hd3.tmod 4 = 0 := by rw [Int.tmod_eq_emod_of_nonneg hh3]; exact hk3
        have e0 := HD0.out wr hK3.out
        have v1 : IntKind.i64.wrap (a3 : Int) = (a3 : Int) := by rw [IntKind.wrap_i64]; omega
        have v2 : IntKind.i64.wrap ((a3 : Int) + 1) = (a3 : Int) + 1 := by rw [IntKind.wrap_i64]; omega
        have v3 : (0 : Int) ≤ (a3 : Int) + 1 := by omega
        have v4 : (a3 : Int) + 1 < n := by omega
        have v5 : ((a3 : Int) + 1).toNat = a3 + 1 := by omega
        have v6 : (a3 : Int) < n := by omega
        have v7 : (a3 : Int) + 2 < n := by omega
        clear hpr hhd3 hOb3 hfw3 hc3 ha3 ha3' hE hJ
        go_wp2_with (first | (go_at_call 52; refine (Hp.l2tag_c rest _).mono ?_; rintro e w3 ⟨rfl, hw3⟩; rw [hx1]; have hw3' := hw3.symm; clear hw3; subst hw3') | (at_builtin; refine app1s_law _ rfl (.tmp 152) (.tmp 153) rfl w0.heap.size (.slice q3 L3 d3) out 32 (by omega) (by omega) (by simp [Act.eval]) (by exact hO3.out) (by simp [Act.eval]) (by rw [← hL3.out]; omega) HBr.out ?_; intro v4 w4 ho hg hbt; obtain ⟨q4, c4, rfl, _⟩ := ho.len; have hl4 : (out ++ [32]).length = L3 + 1 := (by rw [List.length_append, ← hL3.out]; rfl); rw [hl4] at ho ⊢; have HO4 : Hid (Ow w4 w0.heap.size (.slice q4 (L3 + 1) c4) (out ++ [32])) := ho; have HL4 : Hid (L3 + 1 = (out ++ [32]).length) := hl4.symm; have HK4 : Hid (Kp w0.heap.size W w4) := hK3.out.trans (Kp.app hO3.out hg hbt); have z0 : w4.cell? ⟨w.heap.size, 0, none⟩ = some (.slice (some ⟨b, o, none⟩) n c) := HK4.out.cell HWX.out (by decide) rfl; have z1 : w4.cell? ⟨w.heap.size, 1, none⟩ = some (.int .i64 top) := HK4.out.cell HWX.out (by decide) rfl; have zc := HD1.out w4 HK4.out; clear ho hg hbt hl4))
        go_cut [3] from 134 to 172 (fun v wd => SV w0.heap.size (g n1 (out ++ [32])) w4 v wd)
        case first =>
          go_region_with (go_at_call 35; refine (IH.out n1 q4 (L3 + 1) c4 (out ++ [32]) _ HL4.out (by exact HO4.out.below (below_drewM (Below.refl _ _))) (by exact below_drewM (HKW.out _ HK4.out)) HN1.out HQ1.out ?yf (by omega)).mono ?_; (case yf => omega); rintro e w5 ⟨q5, L5, d5, rfl, hl5, ho5, hk5⟩; rw [← HGE.out] at hl5 ho5; have HL5 : Hid (L5 = (g n1 (out ++ [32])).length) := hl5.out; have HO5 : Hid (Ow w5 w0.heap.size (.slice q5 L5 d5) (g n1 (out ++ [32]))) := ho5; have HK5 : Hid (Kp w0.heap.size w4 w5) := ⟨(below_drewM (Below.refl _ _)).trans hk5.below, hk5.kept⟩; clear hl5 ho5 hk5)
          all_goals go_wp2_with fail
          all_goals go_meet
          all_goals exact ⟨q5, L5, d5, rfl, HL5.out, HO5.out, HK5.out⟩
        case rest =>
          obtain ⟨q5, L5, d5, rfl, hl5, ho5, hk5⟩ := hcut
          have HL5 : Hid (L5 = (g n1 (out ++ [32])).length) := hl5.out
          have HO5 : Hid (Ow _ w0.heap.size (.slice q5 L5 d5) (g n1 (out ++ [32]))) := ho5
          have HK5 : Hid (Kp w0.heap.size W _) := HK4.out.trans hk5
          have b1 : L5 ≤ 1100000 := by
            have h1 := HLE.out n1 (out ++ [32]) HQ1.out
            rw [← HL5.out, ← HL4.out] at h1
            omega
          have b2 : L3 + 1 ≤ L5 := by
            have h1 := HGR.out n1 (out ++ [32])
            rw [← HL5.out, ← HL4.out] at h1
            exact h1
          have g0 := HK5.out.cell HWX.out (show (40 : Nat) ≠ 5 by decide) (j := 0) rfl
          have g1 := HD2.out _ HK5.out
          clear hl5 ho5 hk5 z0 z1 zc x0 x1 e0
          go_wp2
          go_roundg (1001 - (j + 1))
          case measure => have := HGK.out; omega
          case rel => exact ⟨j + 1, n2, q5, L5, d5, _, rfl, rfl, rfl, HL5.out, HO5.out, HK5.out, HN2.out, HQ2.out, HES.out, ⟨by omega, by omega⟩, b1, by omega⟩
      · have HR : Hid (res = (rest, out)) := by
          unfold Hid
          rw [← hE.out, show 1001 - j = (1001 - (j + 1)) + 1 by omega, prS, if_neg (by rw [← hL3.out]; exact hgo)]
        clear hE hJ
        by_cases hll : L3 < 1000
        · have dL : decide ((L3 : Int) < 1000) = true := decide_eq_true (by omega)
          by_cases hx1 : rest % 4 = 1
          · obtain ⟨a3, ha3, ha3', _, hhd3, hOb3, _⟩ := obj_of HCX.out.good HCX.out.is.len hx1 hW3.out
            have hk3 : ws.getD a3 0 % 4 ≠ 0 := fun h => hgo ⟨hll, by rw [isPr_iff hx1 ha3']; exact decide_eq_true h⟩
            have hh3 := (Hp.Ch2.head_cnt hhd3).1
            have h3n := hOb3.ham
            have r0 : 0 ≤ rest := by rcases hW3.out with h | h | h | h <;> omega
            have r1 := hR3.out.2
            have e0 := HCW.out wr a3 (HKW.out _ hK3.out) (by omega)
            generalize ws.getD a3 0 = hd3 at hk3 hh3 e0
            have tq : rest.tdiv 4 = (a3 : Int) := by rw [Int.tdiv_eq_ediv_of_nonneg r0]; exact ha3
            have hk4 : (hd3 % 4 == 0) = false := by simpa using hk3
            have v6 : (a3 : Int) < n := by omega
            have h3b : (rest != 3) = true := by simp; omega
            have H3 : Hid (rest ≠ 3) := by unfold Hid; omega
            clear hgo hhd3 hOb3 ha3 ha3' hk3
            go_wp2_with (first | (go_at_call 52; refine (Hp.l2tag_c _ _).mono ?_; rintro e w3 ⟨rfl, hw3⟩; have hw3' := hw3.symm; clear hw3; subst hw3') | (at_builtin; refine appS3_law _ rfl (.tmp 175) _ rfl w0.heap.size (.slice q3 L3 d3) out [32, 46, 32] (by simp [Act.eval]) (by exact hO3.out) ⟨#[32, 46, 32]⟩ (by simp [Act.eval]) rfl (by rw [← hL3.out]; show L3 + 3 ≤ _; omega) HBr.out ?_; intro v4 w4 ho hg hbt; obtain ⟨q4, c4, rfl, _⟩ := ho.len; have hl4 : (out ++ [32, 46, 32]).length = L3 + 3 := (by rw [List.length_append, ← hL3.out]; rfl); rw [hl4] at ho ⊢; have HO4 : Hid (Ow w4 w0.heap.size (.slice q4 (L3 + 3) c4) (out ++ [32, 46, 32])) := ho; have HL4 : Hid (L3 + 3 = (out ++ [32, 46, 32]).length) := hl4.symm; have HK4 : Hid (Kp w0.heap.size W w4) := hK3.out.trans (Kp.app hO3.out hg hbt); have z0 : w4.cell? ⟨w.heap.size, 0, none⟩ = some (.slice (some ⟨b, o, none⟩) n c) := HK4.out.cell HWX.out (by decide) rfl; have z1 : w4.cell? ⟨w.heap.size, 1, none⟩ = some (.int .i64 top) := HK4.out.cell HWX.out (by decide) rfl; clear ho hg hbt hl4))
            refine (IH.out rest q4 (L3 + 3) c4 (out ++ [32, 46, 32]) _ HL4.out HO4.out (HKW.out _ HK4.out) hW3.out hR3.out (by omega) (by omega)).mono ?_
            rintro e w5 ⟨q5, L5, d5, rfl, hl5, ho5, hk5⟩
            rw [← HGE.out] at hl5 ho5
            have HO5 : Hid (Ow w5 w0.heap.size (.slice q5 L5 d5) (g rest (out ++ [32, 46, 32]))) := ho5
            have HK5 : Hid (Kp w0.heap.size W w5) := HK4.out.trans hk5
            have HB5 : Hid (w0.heap.size ≤ w5.heap.size) := (HKW.out _ HK5.out).size
            have HLL5 : Hid ((g rest (out ++ [32, 46, 32])).length ≤ 500000000) := by
              have h1 := HLE.out rest (out ++ [32, 46, 32]) hR3.out
              rw [← HL4.out] at h1
              unfold Hid
              omega
            clear hl5 ho5 hk5 z0 z1
            go_wp2_with (at_builtin; refine app1s_law _ rfl (.tmp 182) (.tmp 183) rfl w0.heap.size (.slice q5 L5 d5) (g rest (out ++ [32, 46, 32])) 41 (by omega) (by omega) (by simp [Act.eval]) (by exact HO5.out) (by simp [Act.eval]) HLL5.out HB5.out ?_; intro v6 w6 ho hg hbt; have HO6 : Hid (Ow w6 w0.heap.size v6 (g rest (out ++ [32, 46, 32]) ++ [41])) := ho; have HK6 : Hid (Kp w0.heap.size W w6) := HK5.out.trans (Kp.app HO5.out hg hbt); clear ho hg hbt)
            go_ret
            rw [HRES.out, HR.out, prU_more H3.out]
            exact SP.of HO6.out ((Kp.of_below HWB.out hB).trans HK6.out)
          · have hx1' : (rest % 4 == 1) = false := by simpa using hx1
            clear hgo hx1
            by_cases h3 : rest = 3
            · subst h3
              go_wp2_with (first | (go_at_call 52; refine (Hp.l2tag_c _ _).mono ?_; rintro e w3 ⟨rfl, hw3⟩; have hw3' := hw3.symm; clear hw3; subst hw3') | (at_builtin; refine app1s_law _ rfl (.tmp 182) (.tmp 183) rfl w0.heap.size (.slice q3 L3 d3) out 41 (by omega) (by omega) (by simp [Act.eval]) (by exact hO3.out) (by simp [Act.eval]) (by rw [← hL3.out]; omega) HBr.out ?_; intro v4 w4 ho hg hbt; have HO4 : Hid (Ow w4 w0.heap.size v4 (out ++ [41])) := ho; have HK4 : Hid (Kp w0.heap.size W w4) := hK3.out.trans (Kp.app hO3.out hg hbt); clear ho hg hbt))
              go_ret
              rw [HRES.out, HR.out, prU_nil]
              exact SP.of HO4.out ((Kp.of_below HWB.out hB).trans HK4.out)
            · have h3b : (rest != 3) = true := by simpa using h3
              have H3 : Hid (rest ≠ 3) := h3
              clear h3
              go_wp2_with (first | (go_at_call 52; refine (Hp.l2tag_c _ _).mono ?_; rintro e w3 ⟨rfl, hw3⟩; have hw3' := hw3.symm; clear hw3; subst hw3') | (at_builtin; refine appS3_law _ rfl (.tmp 175) _ rfl w0.heap.size (.slice q3 L3 d3) out [32, 46, 32] (by simp [Act.eval]) (by exact hO3.out) ⟨#[32, 46, 32]⟩ (by simp [Act.eval]) rfl (by rw [← hL3.out]; show L3 + 3 ≤ _; omega) HBr.out ?_; intro v4 w4 ho hg hbt; obtain ⟨q4, c4, rfl, _⟩ := ho.len; have hl4 : (out ++ [32, 46, 32]).length = L3 + 3 := (by rw [List.length_append, ← hL3.out]; rfl); rw [hl4] at ho ⊢; have HO4 : Hid (Ow w4 w0.heap.size (.slice q4 (L3 + 3) c4) (out ++ [32, 46, 32])) := ho; have HL4 : Hid (L3 + 3 = (out ++ [32, 46, 32]).length) := hl4.symm; have HK4 : Hid (Kp w0.heap.size W w4) := hK3.out.trans (Kp.app hO3.out hg hbt); have z0 : w4.cell? ⟨w.heap.size, 0, none⟩ = some (.slice (some ⟨b, o, none⟩) n c) := HK4.out.cell HWX.out (by decide) rfl; have z1 : w4.cell? ⟨w.heap.size, 1, none⟩ = some (.int .i64 top) := HK4.out.cell HWX.out (by decide) rfl; clear ho hg hbt hl4))
              refine (IH.out rest q4 (L3 + 3) c4 (out ++ [32, 46, 32]) _ HL4.out HO4.out (HKW.out _ HK4.out) hW3.out hR3.out (by omega) (by omega)).mono ?_
              rintro e w5 ⟨q5, L5, d5, rfl, hl5, ho5, hk5⟩
              rw [← HGE.out] at hl5 ho5
              have HO5 : Hid (Ow w5 w0.heap.size (.slice q5 L5 d5) (g rest (out ++ [32, 46, 32]))) := ho5
              have HK5 : Hid (Kp w0.heap.size W w5) := HK4.out.trans hk5
              have HB5 : Hid (w0.heap.size ≤ w5.heap.size) := (HKW.out _ HK5.out).size
              have HLL5 : Hid ((g rest (out ++ [32, 46, 32])).length ≤ 500000000) := by
                have h1 := HLE.out rest (out ++ [32, 46, 32]) hR3.out
                rw [← HL4.out] at h1
                unfold Hid
                omega
              clear hl5 ho5 hk5 z0 z1
              go_wp2_with (at_builtin; refine app1s_law _ rfl (.tmp 182) (.tmp 183) rfl w0.heap.size (.slice q5 L5 d5) (g rest (out ++ [32, 46, 32])) 41 (by omega) (by omega) (by simp [Act.eval]) (by exact HO5.out) (by simp [Act.eval]) HLL5.out HB5.out ?_; intro v6 w6 ho hg hbt; have HO6 : Hid (Ow w6 w0.heap.size v6 (g rest (out ++ [32, 46, 32]) ++ [41])) := ho; have HK6 : Hid (Kp w0.heap.size W w6) := HK5.out.trans (Kp.app HO5.out hg hbt); clear ho hg hbt)
              go_ret
              rw [HRES.out, HR.out, prU_more H3.out]
              exact SP.of HO6.out ((Kp.of_below HWB.out hB).trans HK6.out)
        · have dL : decide ((L3 : Int) < 1000) = false := decide_eq_false (by omega)
          clear hgo
          by_cases h3 : rest = 3
          · subst h3
            go_wp2_with (first | (go_at_call 52; refine (Hp.l2tag_c _ _).mono ?_; rintro e w3 ⟨rfl, hw3⟩; have hw3' := hw3.symm; clear hw3; subst hw3') | (at_builtin; refine app1s_law _ rfl (.tmp 182) (.tmp 183) rfl w0.heap.size (.slice q3 L3 d3) out 41 (by omega) (by omega) (by simp [Act.eval]) (by exact hO3.out) (by simp [Act.eval]) (by rw [← hL3.out]; omega) HBr.out ?_; intro v4 w4 ho hg hbt; have HO4 : Hid (Ow w4 w0.heap.size v4 (out ++ [41])) := ho; have HK4 : Hid (Kp w0.heap.size W w4) := hK3.out.trans (Kp.app hO3.out hg hbt); clear ho hg hbt))
            go_ret
            rw [HRES.out, HR.out, prU_nil]
            exact SP.of HO4.out ((Kp.of_below HWB.out hB).trans HK4.out)
          · have h3b : (rest != 3) = true := by simpa using h3
            have H3 : Hid (rest ≠ 3) := h3
            clear h3
            go_wp2_with (first | (go_at_call 52; refine (Hp.l2tag_c _ _).mono ?_; rintro e w3 ⟨rfl, hw3⟩; have hw3' := hw3.symm; clear hw3; subst hw3') | (at_builtin; refine appS3_law _ rfl (.tmp 175) _ rfl w0.heap.size (.slice q3 L3 d3) out [32, 46, 32] (by simp [Act.eval]) (by exact hO3.out) ⟨#[32, 46, 32]⟩ (by simp [Act.eval]) rfl (by rw [← hL3.out]; show L3 + 3 ≤ _; omega) HBr.out ?_; intro v4 w4 ho hg hbt; obtain ⟨q4, c4, rfl, _⟩ := ho.len; have hl4 : (out ++ [32, 46, 32]).length = L3 + 3 := (by rw [List.length_append, ← hL3.out]; rfl); rw [hl4] at ho ⊢; have HO4 : Hid (Ow w4 w0.heap.size (.slice q4 (L3 + 3) c4) (out ++ [32, 46, 32])) := ho; have HL4 : Hid (L3 + 3 = (out ++ [32, 46, 32]).length) := hl4.symm; have HK4 : Hid (Kp w0.heap.size W w4) := hK3.out.trans (Kp.app hO3.out hg hbt); have z0 : w4.cell? ⟨w.heap.size, 0, none⟩ = some (.slice (some ⟨b, o, none⟩) n c) := HK4.out.cell HWX.out (by decide) rfl; have z1 : w4.cell? ⟨w.heap.size, 1, none⟩ = some (.int .i64 top) := HK4.out.cell HWX.out (by decide) rfl; clear ho hg hbt hl4))
            refine (IH.out rest q4 (L3 + 3) c4 (out ++ [32, 46, 32]) _ HL4.out HO4.out (HKW.out _ HK4.out) hW3.out hR3.out (by omega) (by omega)).mono ?_
            rintro e w5 ⟨q5, L5, d5, rfl, hl5, ho5, hk5⟩
            rw [← HGE.out] at hl5 ho5
            have HO5 : Hid (Ow w5 w0.heap.size (.slice q5 L5 d5) (g rest (out ++ [32, 46, 32]))) := ho5
            have HK5 : Hid (Kp w0.heap.size W w5) := HK4.out.trans hk5
            have HB5 : Hid (w0.heap.size ≤ w5.heap.size) := (HKW.out _ HK5.out).size
            have HLL5 : Hid ((g rest (out ++ [32, 46, 32])).length ≤ 500000000) := by
              have h1 := HLE.out rest (out ++ [32, 46, 32]) hR3.out
              rw [← HL4.out] at h1
              unfold Hid
              omega
            clear hl5 ho5 hk5 z0 z1
            go_wp2_with (at_builtin; refine app1s_law _ rfl (.tmp 182) (.tmp 183) rfl w0.heap.size (.slice q5 L5 d5) (g rest (out ++ [32, 46, 32])) 41 (by omega) (by omega) (by simp [Act.eval]) (by exact HO5.out) (by simp [Act.eval]) HLL5.out HB5.out ?_; intro v6 w6 ho hg hbt; have HO6 : Hid (Ow w6 w0.heap.size v6 (g rest (out ++ [32, 46, 32]) ++ [41])) := ho; have HK6 : Hid (Kp w0.heap.size W w6) := HK5.out.trans (Kp.app HO5.out hg hbt); clear ho hg hbt)
            go_ret
            rw [HRES.out, HR.out, prU_more H3.out]
            exact SP.of HO6.out ((Kp.of_below HWB.out hB).trans HK6.out)
end
end Go.Proofs.YtleeldjncobheaaDoor
