import Derived.Test.YtleeldjncobheaaDoorS9
import Derived.Deep.CutRange
import Derived.Deep.LoopGhost
namespace Go.Proofs.YtleeldjncobheaaDoor
open Go.RowKit Ch1 Ch2s
/-- A value that holds what l2show answers. -/
def SV (B : Nat) (zs : List Int) (w : World) (v : Value) (w' : World) : Prop := ∃ q L d, v = .slice q L d ∧ Hid (L = zs.length) ∧ Ow w' B (.slice q L d) zs ∧ Kp B w w'
theorem Kp.cell {B : Nat} {w w' : World} (h : Kp B w w') {k j : Nat} {arr : Array Value} {t : TypeId} {v : Value} (e : w.heap[k]? = some (.cells arr t)) (ht : t ≠ 5) (hv : arr[j]? = some v) : w'.cell? ⟨k, j, none⟩ = some v := by
  have := h.kept k arr t e ht
  simp [World.cell?, this, hv]
theorem vecS_stop (g : Int → List Int → List Int) (ws : List Int) (p r i : Nat) (o : List Int) (h : r = 0 ∨ 1000 ≤ o.length) : vecS g ws p r i o = o := by
  cases r with
  | zero => rfl
  | succ r => rw [vecS, if_pos (by omega)]
section
variable {w0 : World} {p : Option Addr} {n c : Nat} {top : Int} {ws : List Int} {np : Option Addr} {nn nc : Nat} {ns : List (List Int)}
/-- At the head of the loop over a vector's elements. -/
def VsI (B : Nat) (ws : List Int) (g : Int → List Int → List Int) (a m : Nat) (out0 : List Int) (W : World) (gk : Nat) (ov iv : Value) (wr : World) : Prop :=
  ∃ (i : Nat) (q : Option Addr) (L d : Nat) (out : List Int), i ≤ m ∧ gk = m - i ∧ iv = .int .i64 i ∧ ov = .slice q L d ∧ Hid (L = out.length) ∧ Hid (Ow wr B (.slice q L d) out) ∧ Hid (Kp B W wr) ∧ Hid (vecS g ws a (m - i) i out = vecS g ws a m 0 out0) ∧ out0.length ≤ L ∧ L ≤ 1100000
set_option maxRecDepth 20000 in
set_option maxHeartbeats 8000000 in
theorem shows_vec (hC : Cx w0 p n c top ws np nn nc ns) (f : Nat) (hf10 : f ≤ 1001) (ih : ShowS w0 p n c top ws np nn nc ns f) (hle : ∀ x o, (-9223372036854775808 ≤ x ∧ x ≤ 9223372036854775807) → (shS itoaZ (symZ ns) rareZ ws f x o).length ≤ max o.length 1000 + (1048600 + 10 * f)) (x : Int) (hx4 : x % 4 = 1) (h0 : 0 ≤ x) (h1 : x ≤ 9223372036854775807) (a m : Nat) (ha : x / 4 = a) (hOb : Ob n a m (ws.getD a 0)) (hh : 0 ≤ ws.getD a 0) (hk : ws.getD a 0 % 4 = 1) (hwd : ∀ i, i < m → Hp.Ch2.WordOk ws top.toNat (ws.getD (a + 1 + i) 0)) (q : Option Addr) (L d : Nat) (xs : List Int) (w : World) (hLx : L = xs.length) (hO : Ow w w0.heap.size (.slice q L d) xs) (hb : Below w0.heap.size w0 w) (hfl : 1001 - L ≤ f + 1) (hx : L < 1000) :
    Calls Tryd.prog 35 #[.agg #[.slice p n c, .int .i64 top], .int .i64 x, .slice np nn nc, .slice q L d] w fun e w' => SP w0.heap.size (vecS (shS itoaZ (symZ ns) rareZ ws f) ws a m 0 (xs ++ [35, 40]) ++ [41]) w w' e := by
  have HO : Hid (Ow w w0.heap.size (.slice q L d) xs) := hO
  have HL : Hid (L = xs.length) := hLx
  have hx2 : decide ((1000 : Int) ≤ L) = false := decide_eq_false (by omega)
  have hx3 : decide (1000 ≤ L) = false := decide_eq_false (by omega)
  have hB := hb.size
  obtain ⟨hm, m1, ham, hn⟩ := hOb
  have HB0 : Hid (Below w0.heap.size w0 w) := hb
  have HI : Hid (Hp.Is w0 p n c ws) := hC.is
  obtain ⟨b, o, rfl, hbl0, hc0⟩ := hC.is.cells (by omega)
  have hbl := Nat.lt_of_lt_of_le hbl0 hB
  have HCW : Hid (∀ w' i, Below w0.heap.size w0 w' → i < n → w'.cell? ⟨b, o + i, none⟩ = some (.int .i64 (ws.getD i 0))) := fun w' i hb' hi => by rw [hb'.cell (p := ⟨b, o + i, none⟩) hbl0]; exact hc0 i hi
  have ca := HCW.out w a hb (by omega)
  have y0 := fun o1 => cell_keep (below1 w o1) hbl ca
  have IH : Hid (ShowS w0 (some ⟨b, o, none⟩) n c top ws np nn nc ns f) := ih
  have HRG : Hid (∀ i, -9223372036854775808 ≤ ws.getD i 0 ∧ ws.getD i 0 ≤ 9223372036854775807) := hC.is.rng
  have HWD : Hid (∀ i, i < m → Hp.Ch2.WordOk ws top.toNat (ws.getD (a + 1 + i) 0)) := hwd
  obtain ⟨g, hg⟩ : ∃ g, g = shS itoaZ (symZ ns) rareZ ws f := ⟨_, rfl⟩
  have HGE : Hid (g = shS itoaZ (symZ ns) rareZ ws f) := hg
  have HGR : Hid (Grw g) := by unfold Hid; rw [hg]; exact shS_grw _ _ _ _ f
  rw [← hg] at hle ⊢
  have HLE : Hid (∀ x o, (-9223372036854775808 ≤ x ∧ x ≤ 9223372036854775807) → (g x o).length ≤ max o.length 1000 + (1048600 + 10 * f)) := hle
  generalize hhd : ws.getD a 0 = hd at hh hk ca y0 hm
  have HHD : Hid (ws.getD a 0 = hd) := hhd
  have hmt : hd.tdiv 4 = (m : Int) := by rw [Int.tdiv_eq_ediv_of_nonneg hh]; exact hm
  clear hm
  have ian : (a : Int) < n := by omega
  obtain ⟨W, hWW⟩ : ∃ W, W = w.alloc (.cells #[.slice (some ⟨b, o, none⟩) n c, .int .i64 top] 40) := ⟨_, rfl⟩
  have HWX : Hid (W.heap[w.heap.size]? = some (.cells #[.slice (some ⟨b, o, none⟩) n c, .int .i64 top] 40)) := by unfold Hid; rw [hWW]; exact Go.Deep.blk_alloc_new _ _
  have HWB : Hid (Below w.heap.size w W) := by unfold Hid; rw [hWW]; exact below1 _ _
  have hBW := Nat.le_trans hB HWB.out.size
  have HKW : Hid (∀ w', Kp w0.heap.size W w' → Below w0.heap.size w0 w') := fun w' hk' => (HB0.out.trans (HWB.out.mono hB)).trans hk'.below
  obtain ⟨out0, ho0⟩ : ∃ o0, o0 = xs ++ [35, 40] := ⟨_, rfl⟩
  have HO0 : Hid (out0 = xs ++ [35, 40]) := ho0
  have hl0 : out0.length = L + 2 := by rw [ho0, List.length_append, hLx]; rfl
  rw [← ho0]
  clear hO hLx hb hbl0 hc0 ih hwd hg hle hhd hC ho0
  go_enter Tryd.func35, Tryd.ntmps35
  go_wp2_with (first | (go_at_call 52; refine (Hp.l2tag_c x _).mono ?_; rintro e w1 ⟨rfl, hw1⟩; rw [hx4]; subst hw1) | (at_builtin; rw [← hWW]; refine appS3_law _ rfl (.tmp 77) _ rfl w0.heap.size (.slice q L d) xs [35, 40] (by simp [Act.eval]) (by exact HO.out.below HWB.out) ⟨#[35, 40]⟩ (by simp [Act.eval]) rfl (by rw [← HL.out]; show L + 2 ≤ _; omega) hBW ?_; intro v' w1 ho hg hbt; rw [← HO0.out] at ho; obtain ⟨q1, c1, rfl, _⟩ := ho.len; rw [hl0] at ho ⊢; have HO1 : Hid (Ow w1 w0.heap.size (.slice q1 (L + 2) c1) out0) := ho; have HK1 : Hid (Kp w0.heap.size W w1) := Kp.app (HO.out.below HWB.out) hg hbt; have x0 : w1.cell? ⟨w.heap.size, 0, none⟩ = some (.slice (some ⟨b, o, none⟩) n c) := HK1.out.cell HWX.out (by decide) rfl; have x1 : w1.cell? ⟨w.heap.size, 1, none⟩ = some (.int .i64 top) := HK1.out.cell HWX.out (by decide) rfl; have cx := HCW.out w1 a (HKW.out _ HK1.out) (by omega); rw [HHD.out] at cx; clear ho hg hbt))
  have HW0 : Hid (L + 2 = out0.length) := hl0.symm
  have HFL : Hid (1001 - (L + 2) ≤ f) := by unfold Hid; omega
  clear x0 x1 cx y0 ca hl0
  go_loopg [3, 14] m (fun gk ov iv wr => VsI w0.heap.size ws g a m out0 W gk ov iv wr)
  case atStart => exact ⟨0, q1, L + 2, c1, out0, Nat.zero_le _, rfl, rfl, rfl, HW0.out, HO1.out, HK1.out, rfl, by rw [← HW0.out]; exact Nat.le_refl _, by omega⟩
  case round =>
    clear HO1 HK1
    obtain ⟨i, q3, L3, d3, out, hi, hgk, rfl, rfl, hL3, hO3, hK3, hE, hl1, hl2⟩ := hrel
    have HGK : Hid (gk = m - i) := hgk
    have HOL : Hid (out0.length ≤ L3) := hl1
    have hbig : L3 ≤ 1100000 := hl2
    clear hgk hl1 hl2
    have x0 : wr.cell? ⟨w.heap.size, 0, none⟩ = some (.slice (some ⟨b, o, none⟩) n c) := hK3.out.cell HWX.out (by decide) rfl
    have x1 : wr.cell? ⟨w.heap.size, 1, none⟩ = some (.int .i64 top) := hK3.out.cell HWX.out (by decide) rfl
    have HBr : Hid (w0.heap.size ≤ wr.heap.size) := (HKW.out _ hK3.out).size
    by_cases hgo : i < m ∧ L3 < 1000
    · obtain ⟨hlt, hll⟩ := hgo
      have dI : decide ((i : Int) < m) = true := decide_eq_true (by omega)
      have dL : decide ((L3 : Int) < 1000) = true := decide_eq_true (by omega)
      have HES : Hid (vecS g ws a (m - (i + 1)) (i + 1) (g (ws.getD (a + 1 + i) 0) (if 0 < i then out ++ [32] else out)) = vecS g ws a m 0 out0) := by
        unfold Hid; rw [← hE.out, show m - i = (m - (i + 1)) + 1 by omega, vecS, if_neg (show ¬ 1000 ≤ out.length by rw [← hL3.out]; omega)]
      have HWI : Hid (Hp.Ch2.WordOk ws top.toNat (ws.getD (a + 1 + i) 0)) := HWD.out i hlt
      have HRI : Hid (-9223372036854775808 ≤ ws.getD (a + 1 + i) 0 ∧ ws.getD (a + 1 + i) 0 ≤ 9223372036854775807) := HRG.out _
      have HCI : Hid (∀ w', Kp w0.heap.size W w' → w'.cell? ⟨b, o + (a + 1 + i), none⟩ = some (.int .i64 (ws.getD (a + 1 + i) 0))) := fun w' hk' => HCW.out w' _ (HKW.out _ hk') (by omega)
      obtain ⟨y, hy⟩ : ∃ y, y = ws.getD (a + 1 + i) 0 := ⟨_, rfl⟩
      rw [← hy] at HWI HRI HCI HES
      clear hy hE
      have wf1 : IntKind.i64.wrap ((a : Int) + 1) = (a : Int) + 1 := by rw [IntKind.wrap_i64]; omega
      have wf2 : IntKind.i64.wrap ((a : Int) + 1 + i) = (a : Int) + 1 + i := by rw [IntKind.wrap_i64]; omega
      have wf3 : (0 : Int) ≤ (a : Int) + 1 + i := by omega
      have wf4 : (a : Int) + 1 + i < n := by omega
      have wf5 : ((a : Int) + 1 + i).toNat = a + 1 + i := by omega
      by_cases hz : i = 0
      · subst hz
        rw [if_neg (Nat.lt_irrefl 0)] at HES
        have zc := HCI.out wr hK3.out
        rw [Nat.add_zero] at zc
        have wg2 : IntKind.i64.wrap ((a : Int) + 1 + ((0 : Nat) : Int)) = (a : Int) + 1 := by rw [IntKind.wrap_i64]; omega
        have wg5 : ((a : Int) + 1).toNat = a + 1 := by omega
        have wg6 : (0 : Int) ≤ (a : Int) + 1 := by omega
        have wg7 : (a : Int) + 1 < n := by omega
        go_wp2_with fail
        go_region_with (go_at_call 35; refine (IH.out y q3 L3 d3 out _ hL3.out (by exact hO3.out.below (below_drewM (Below.refl _ _))) (by exact below_drewM (HKW.out _ hK3.out)) HWI.out HRI.out ?yf (by omega)).mono ?_; (case yf => have := HOL.out; have := HW0.out; have := HFL.out; omega); rintro e w5 ⟨q5, L5, d5, rfl, hl5, ho5, hk5⟩; rw [← HGE.out] at hl5 ho5; have HL5 : Hid (L5 = (g y out).length) := hl5.out; have HO5 : Hid (Ow w5 w0.heap.size (.slice q5 L5 d5) (g y out)) := ho5; have HK5 : Hid (Kp w0.heap.size W w5) := hK3.out.trans ⟨(below_drewM (Below.refl _ _)).trans hk5.below, hk5.kept⟩; have b1 : L5 ≤ 1100000 := (by have h1 := HLE.out y out HRI.out; rw [← HL5.out, ← hL3.out] at h1; omega); have b2 : Hid (out0.length ≤ L5) := (by have h1 := HGR.out y out; rw [← HL5.out, ← hL3.out] at h1; have := HOL.out; unfold Hid; omega); clear hl5 ho5 hk5)
        all_goals
          go_wp2
          go_roundg (m - 1)
          case measure => have := HGK.out; omega
          case rel => exact ⟨1, q5, L5, d5, _, by omega, rfl, by go_num, rfl, HL5.out, HO5.out, HK5.out, HES.out, b2.out, b1⟩
      · have hpos : 0 < i := by omega
        rw [if_pos hpos] at HES
        have hposI : decide ((0 : Int) < i) = true := decide_eq_true (by omega)
        go_wp2_with (at_builtin; refine app1s_law _ rfl (.tmp 97) (.tmp 98) rfl w0.heap.size (.slice q3 L3 d3) out 32 (by omega) (by omega) (by simp [Act.eval]) (by exact hO3.out) (by simp [Act.eval]) (by rw [← hL3.out]; omega) HBr.out ?_; intro v4 w4 ho hg hbt; obtain ⟨q4, c4, rfl, _⟩ := ho.len; have hl4 : (out ++ [32]).length = L3 + 1 := (by rw [List.length_append, ← hL3.out]; rfl); rw [hl4] at ho ⊢; have HO4 : Hid (Ow w4 w0.heap.size (.slice q4 (L3 + 1) c4) (out ++ [32])) := ho; have HL4 : Hid (L3 + 1 = (out ++ [32]).length) := hl4.symm; have HK4 : Hid (Kp w0.heap.size W w4) := hK3.out.trans (Kp.app hO3.out hg hbt); have z0 : w4.cell? ⟨w.heap.size, 0, none⟩ = some (.slice (some ⟨b, o, none⟩) n c) := HK4.out.cell HWX.out (by decide) rfl; have z1 : w4.cell? ⟨w.heap.size, 1, none⟩ = some (.int .i64 top) := HK4.out.cell HWX.out (by decide) rfl; have zc := HCI.out w4 HK4.out; clear ho hg hbt hl4)
        go_region_with (go_at_call 35; refine (IH.out y q4 (L3 + 1) c4 (out ++ [32]) _ HL4.out (by exact HO4.out.below (below_drewM (Below.refl _ _))) (by exact below_drewM (HKW.out _ HK4.out)) HWI.out HRI.out ?yf (by omega)).mono ?_; (case yf => have := HOL.out; have := HW0.out; have := HFL.out; omega); rintro e w5 ⟨q5, L5, d5, rfl, hl5, ho5, hk5⟩; rw [← HGE.out] at hl5 ho5; have HL5 : Hid (L5 = (g y (out ++ [32])).length) := hl5.out; have HO5 : Hid (Ow w5 w0.heap.size (.slice q5 L5 d5) (g y (out ++ [32]))) := ho5; have HK5 : Hid (Kp w0.heap.size W w5) := HK4.out.trans ⟨(below_drewM (Below.refl _ _)).trans hk5.below, hk5.kept⟩; have b1 : L5 ≤ 1100000 := (by have h1 := HLE.out y (out ++ [32]) HRI.out; rw [← HL5.out, ← HL4.out] at h1; omega); have b2 : Hid (out0.length ≤ L5) := (by have h1 := HGR.out y (out ++ [32]); rw [← HL5.out, ← HL4.out] at h1; have := HOL.out; unfold Hid; omega); clear hl5 ho5 hk5)
        all_goals
          go_wp2
          go_roundg (m - (i + 1))
          case measure => have := HGK.out; omega
          case rel => exact ⟨i + 1, q5, L5, d5, _, by omega, rfl, by go_num, rfl, HL5.out, HO5.out, HK5.out, HES.out, b2.out, b1⟩
    · have HFN : Hid (out = vecS g ws a m 0 out0) := by
        unfold Hid
        rw [← hE.out]
        exact (vecS_stop g ws a (m - i) i out (by have := hL3.out; omega)).symm
      have HFIN : Hid (∀ v9 w9, Ow w9 w0.heap.size v9 (out ++ [41]) → Kp w0.heap.size W w9 → SP w0.heap.size (vecS g ws a m 0 out0 ++ [41]) w w9 (.returned v9)) := fun v9 w9 h1 h2 => by
        rw [← HFN.out]
        exact SP.of h1 ((Kp.of_below HWB.out hB).trans h2)
      by_cases hlt : i < m
      · have dI : decide ((i : Int) < m) = true := decide_eq_true (by omega)
        have dL : decide ((L3 : Int) < 1000) = false := decide_eq_false (by omega)
        clear hgo
        go_wp2_with (at_builtin; refine app1s_law _ rfl (.tmp 112) (.tmp 113) rfl w0.heap.size (.slice q3 L3 d3) out 41 (by omega) (by omega) (by simp [Act.eval]) (by exact hO3.out) (by simp [Act.eval]) (by rw [← hL3.out]; omega) HBr.out ?_; intro v4 w4 ho hg hbt; have HO4 : Hid (Ow w4 w0.heap.size v4 (out ++ [41])) := ho; have HK4 : Hid (Kp w0.heap.size W w4) := hK3.out.trans (Kp.app hO3.out hg hbt); clear ho hg hbt)
        go_ret
        exact HFIN.out _ _ HO4.out HK4.out
      · have dI : decide ((i : Int) < m) = false := decide_eq_false (by omega)
        clear hgo
        go_wp2_with (at_builtin; refine app1s_law _ rfl (.tmp 112) (.tmp 113) rfl w0.heap.size (.slice q3 L3 d3) out 41 (by omega) (by omega) (by simp [Act.eval]) (by exact hO3.out) (by simp [Act.eval]) (by rw [← hL3.out]; omega) HBr.out ?_; intro v4 w4 ho hg hbt; have HO4 : Hid (Ow w4 w0.heap.size v4 (out ++ [41])) := ho; have HK4 : Hid (Kp w0.heap.size W w4) := hK3.out.trans (Kp.app hO3.out hg hbt); clear ho hg hbt)
        go_ret
        exact HFIN.out _ _ HO4.out HK4.out
end
end Go.Proofs.YtleeldjncobheaaDoor
