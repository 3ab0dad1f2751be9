import Derived.Test.YtleeldjncobheaaDoorX5
namespace Go.Proofs.YtleeldjncobheaaDoor
open Go.RowKit Ch1
theorem Ow.grown1 {w : World} {B : Nat} {v : Value} {xs : List Int} (h : Ow w B v xs) (o : Obj) : Ow (w.alloc o) B v xs := h.below (below1 w o)
set_option maxHeartbeats 2000000 in
theorem text16_list (k : Nat) (p : Option Addr) (n c i : Nat) (ds r rEnd : List Dt) (w : World)
    (ih : ∀ (p : Option Addr) (n c i : Nat) (ds r : List Dt) (w : World), Da w p n c ds → n ≤ 3000 → i ≤ n → skip k (ds.drop i) = some r → Calls Tryd.prog 27 #[.slice p n c, .int .i64 i] w fun e w' => Txt w w' e (txt k (ds.drop i)))
    (hD : Da w p n c ds) (hn : n ≤ 3000) (hi : i < n) (hl : ds.drop i = ds.getD i dt0 :: r) (hr : r = ds.drop (i + 1)) (hg : goodB (ds.getD i dt0) = true) (hk : (ds.getD i dt0).kind = 3) (hs : skipN (skip k) (ds.getD i dt0).count.toNat r = some rEnd) :
    Calls Tryd.prog 27 #[.slice p n c, .int .i64 i] w fun e w' => Txt w w' e (txt (k + 1) (ds.drop i)) := by
  subst hr
  have HT : Hid (txt (k + 1) (ds.drop i) = 40 :: (elems (skip k) (txt k) (ds.getD i dt0).count.toNat (ds.drop (i + 1)) ++ [41])) := by unfold Hid; rw [hl]; exact txt_list k _ _ hk
  have HRG : Hid (Rg (txt (k + 1) (ds.drop i))) := txt_rg _ _ (hD.rg.drop i)
  have IH : Hid (∀ (p : Option Addr) (n c i : Nat) (ds r : List Dt) (w : World), Da w p n c ds → n ≤ 3000 → i ≤ n → skip k (ds.drop i) = some r → Calls Tryd.prog 27 #[.slice p n c, .int .i64 i] w fun e w' => Txt w w' e (txt k (ds.drop i))) := ih
  have hcnt := good_nonneg hg
  have HD : Hid (Da w p n c ds) := hD
  have HLEN : Hid (ds.length = n) := hD.len
  have HS : Hid (skipN (skip k) (ds.getD i dt0).count.toNat (ds.drop (i + 1)) = some rEnd) := hs
  have HKID : Hid (∀ W : World, Below w.heap.size w W → Calls Tryd.prog 46 #[.slice p n c, .int .i64 i] W fun e w' => Kids k n i (ds.getD i dt0).count.toNat ds W w' e) := fun W hW => kids26 k p n c i ds rEnd W (hD.below hW) hn hi hcnt hs
  have HBD : Hid (∀ j, j ≤ (ds.getD i dt0).count.toNat → (elems (skip k) (txt k) j (ds.drop (i + 1))).length ≤ 390000) := by
    intro j hj
    obtain ⟨q, hq⟩ := skipN_le hs hj
    have := elems_bound (txt_bound k) _ _ _ hq
    rw [List.length_drop, hD.len] at this
    omega
  obtain ⟨b, o, tp, tn, tc, rfl, hbl, he⟩ := hD.at hi
  have hhi := he.hi
  generalize ds.getD i dt0 = d at HT he hk hcnt HS HKID HBD hhi
  have e0 := he.c0
  have e1 := he.c1
  have e2 := he.c2
  have e3 := he.c3
  rw [hk] at e0
  clear hD he hl hg hk hs ih
  go_enter Tryd.func27, Tryd.ntmps27
  go_wp2_with (go_at_call 46; refine (HKID.out _ (by exact below2 w _ _)).mono ?_; rintro e w1 ⟨kv, ks, rfl, hkv, hkl, hks, hb1⟩)
  have HO : Hid (Ow w1 w.heap.size (.slice (some ⟨w.heap.size + 1, 0, none⟩) 1 1) [40]) := by
    have := (Ow.lit (w.alloc (Obj.cells #[Value.int IntKind.i64 3, Value.int IntKind.i64 d.n, Value.slice tp tn tc, Value.int IntKind.i64 d.count] 53)) w.heap.size [40] (by simp) (by unfold maxLen; simp))
    simp only [World.size_alloc] at this
    exact this.below hb1
  have HB1 : Hid (Below w.heap.size w w1) := (below2 w _ _).trans (hb1.mono (below2 w _ _).size)
  have HK : Hid (Kd w1 kv ks) := hkv.kd
  have HKL : Hid (ks.length = d.count.toNat) := hkl
  have HKS : Hid (∀ j, j < ks.length → ks.getD j 0 ≤ n ∧ skipN (skip k) j (ds.drop (i + 1)) = some (ds.drop (ks.getD j 0))) := hks
  obtain ⟨kp, kc, hke, hkrest⟩ := hkv.form
  subst hke
  clear hkrest hkv hkl hks hb1 HKID e0 e1 e2 e3
  have hkb : ks.length ≤ 9223372036854775807 := by rw [HKL.out]; omega
  go_wp2
  go_loopw [6, 8] (fun v kk wr => ∃ (j : Nat), j ≤ ks.length ∧ kk = .int .i64 j ∧ Hid (Ow wr w.heap.size v ([40] ++ elems (skip k) (txt k) j (ds.drop (i + 1)))) ∧ Hid (Kd wr (.slice kp ks.length kc) ks) ∧ Hid (Below w.heap.size w wr)) (fun _ kk _ => ks.length - (intOf kk).toNat)
  case atStart => exact ⟨0, Nat.zero_le _, rfl, HO, HK, HB1⟩
  case round =>
    clear HO HB1 HK
    obtain ⟨j, hj, rfl, hO, hK, hb⟩ := hrel
    by_cases hlt : j < ks.length
    · obtain ⟨g, c', e, _, gc⟩ := hK.out.cell (by omega)
      cases e
      have gj := gc j hlt
      have hp := HKS.out j hlt
      obtain ⟨q1, hq1⟩ := skipN_le HS.out (show j + 1 ≤ d.count.toNat by rw [← HKL.out]; omega)
      obtain ⟨q0, hq0, hqk⟩ := skipN_succ_some hq1
      rw [hp.2] at hq0
      cases hq0
      have hp1 := hp.1
      have HE1 : Hid (elems (skip k) (txt k) (j + 1) (ds.drop (i + 1)) = elems (skip k) (txt k) j (ds.drop (i + 1)) ++ ((if j = 0 then [] else [32]) ++ txt k (ds.drop (ks.getD j 0)))) := elems_succ _ _ _ _ _ hp.2
      have hl1 := HBD.out (j + 1) (by rw [← HKL.out]; omega)
      have HL1 : Hid ((elems (skip k) (txt k) (j + 1) (ds.drop (i + 1))).length ≤ 390000) := hl1
      have HQK : Hid (skip k (ds.drop (ks.getD j 0)) = some q1) := hqk
      rw [HE1.out, List.length_append, List.length_append] at hl1
      clear hp hq1 hqk gc
      generalize hpos : ks.getD j 0 = pos at gj hp1 HE1 HQK hl1
      have hpos : Hid (ks.getD j 0 = pos) := hpos
      generalize elems (skip k) (txt k) j (ds.drop (i + 1)) = acc at hO HE1 hl1
      generalize hxt : txt k (ds.drop pos) = xt at HE1 hl1
      have HXT : Hid (txt k (ds.drop pos) = xt) := hxt
      clear hxt
      have hsz := hb.out.size
      cases j with
      | zero =>
        simp only [if_true, List.length_nil] at hl1
        go_wp2_with (first | (go_at_call 27; refine (IH.out _ n c pos ds q1 _ (by exact HD.out.below hb.out) hn hp1 HQK.out).mono ?_; rw [HXT.out]; rintro e w2 ⟨b2, o2, c2, rfl, hy2, hb2⟩; have HY2 : Hid (By w2 (some ⟨b2, o2, none⟩) xt.length c2 xt) := hy2; have HB2 : Hid (Below wr.heap.size wr w2) := hb2; have hsz2 := hb2.size; clear hy2 hb2) | (at_builtin; refine app_law _ rfl (.tmp 50) (.tmp 56) rfl w.heap.size u6 ([40] ++ acc) xt (by simp [Act.eval]) (by exact hO.out.below HB2.out) b2 o2 xt.length c2 (by simp [Act.eval]) HY2.out (by simp; omega) (by omega) ?_; intro v' w3 ho hg hgr; have HO3 : Hid (Ow w3 w.heap.size v' ([40] ++ acc ++ xt)) := ho; have HK3 : Hid (Kd w3 (.slice (some ⟨g, 0, none⟩) ks.length kc) ks) := (hK.out.below HB2.out).grown (hO.out.below HB2.out) hgr; have HB3 : Hid (Below w.heap.size w w3) := (hb.out.trans (HB2.out.mono hsz)).trans hg; clear ho hg hgr))
        refine ⟨⟨1, by omega, by go_num, ?_, HK3, HB3⟩, by simp [intOf]; omega⟩
        have e1 := HE1.out
        simp only [if_true, List.nil_append] at e1
        rw [show (1 : Nat) = 0 + 1 from rfl, e1, ← List.append_assoc]
        exact HO3
      | succ j =>
        simp only [Nat.add_eq_zero_iff, Nat.one_ne_zero, and_false, if_false, List.length_singleton] at hl1
        go_wp2_with (first | (at_builtin; refine app_law _ rfl (.tmp 47) (.tmp 48) rfl w.heap.size u6 ([40] ++ acc) [32] (by simp [Act.eval]) (by exact hO.out.below (below1 _ _)) wr.heap.size 0 1 1 (by simp [Act.eval]) (By.lit wr 32 (by omega) (by omega)) (by simp; omega) (by simp; omega) ?_; intro v0 w0 ho hg hgr; have HO0 : Hid (Ow w0 w.heap.size v0 ([40] ++ acc ++ [32])) := ho; have HB00 := hb.out.alloc hsz (Obj.cells #[Value.int .u8 32] 5); have HK0 : Hid (Kd w0 (.slice (some ⟨g, 0, none⟩) ks.length kc) ks) := (hK.out.below (below1 wr _)).grown (hO.out.below (below1 wr _)) hgr; have HB0 : Hid (Below w.heap.size w w0) := HB00.trans hg; have hsz0 := HB0.out.size; obtain ⟨g1, c1, e1, hk1, gc1⟩ := HK0.out.cell (by omega); have gj1 : w0.cell? ⟨g, j + 1, none⟩ = some (.int .i64 (pos : Int)) := (by cases e1; have := gc1 (j + 1) hlt; rw [hpos.out] at this; exact this); clear ho hg hgr HB00 gc1 e1 hk1) | (go_at_call 27; refine (IH.out _ n c pos ds q1 _ (by exact HD.out.below HB0.out) hn hp1 HQK.out).mono ?_; rw [HXT.out]; rintro e w2 ⟨b2, o2, c2, rfl, hy2, hb2⟩; have HY2 : Hid (By w2 (some ⟨b2, o2, none⟩) xt.length c2 xt) := hy2; have HB2 : Hid (Below w0.heap.size w0 w2) := hb2; have hsz2 := hb2.size; clear hy2 hb2) | (at_builtin; refine app_law _ rfl (.tmp 50) (.tmp 56) rfl w.heap.size v0 ([40] ++ acc ++ [32]) xt (by simp [Act.eval]) (by exact HO0.out.below HB2.out) b2 o2 xt.length c2 (by simp [Act.eval]) HY2.out (by simp; omega) (by omega) ?_; intro v' w3 ho hg hgr; have HO3 : Hid (Ow w3 w.heap.size v' ([40] ++ acc ++ [32] ++ xt)) := ho; have HK3 : Hid (Kd w3 (.slice (some ⟨g, 0, none⟩) ks.length kc) ks) := (HK0.out.below HB2.out).grown (HO0.out.below HB2.out) hgr; have HB3 : Hid (Below w.heap.size w w3) := (HB0.out.trans (HB2.out.mono hsz0)).trans hg; clear ho hg hgr))
        refine ⟨⟨j + 1 + 1, by omega, by go_num, ?_, HK3, HB3⟩, by simp [intOf]; omega⟩
        have e1 := HE1.out
        simp only [Nat.add_eq_zero_iff, Nat.one_ne_zero, and_false, if_false] at e1
        rw [e1, ← List.append_assoc, ← List.append_assoc]
        exact HO3
    · obtain rfl : j = ks.length := by omega
      have hl0 := HBD.out ks.length (by rw [HKL.out]; omega)
      have HT2 : Hid (txt (k + 1) (ds.drop i) = [40] ++ elems (skip k) (txt k) ks.length (ds.drop (i + 1)) ++ [41]) := by unfold Hid; rw [HT.out, HKL.out]; simp
      generalize elems (skip k) (txt k) ks.length (ds.drop (i + 1)) = acc at hO hl0 HT2
      have hsz := hb.out.size
      go_wp2_with (at_builtin; refine app_law _ rfl (.tmp 58) (.tmp 59) rfl w.heap.size u6 ([40] ++ acc) [41] (by simp [Act.eval]) (by exact hO.out.below (below1 _ _)) wr.heap.size 0 1 1 (by simp [Act.eval]) (By.lit wr 41 (by omega) (by omega)) (by simp; omega) (by simp; omega) ?_; intro v0 w0 ho hg hgr; have HO0 : Hid (Ow w0 w.heap.size v0 ([40] ++ acc ++ [41])) := ho; have HB0 : Hid (Below w.heap.size w w0) := (hb.out.alloc hsz _).trans hg; clear ho hg hgr)
      go_ret
      have HF : Ow w0 w.heap.size v0 (txt (k + 1) (ds.drop i)) := by rw [HT2.out]; exact HO0.out
      exact HF.txt (rng_of HRG.out) (by rw [HT2.out]; simp) HB0.out
end Go.Proofs.YtleeldjncobheaaDoor
