import Derived.Test.YtleeldjncobheaaDoorX7
namespace Go.Proofs.YtleeldjncobheaaDoor
open Go.RowKit Ch1
set_option maxHeartbeats 1000000 in
theorem write5_bad (p : Option Addr) (n c : Nat) (ds : List Dt) (w : World) (hD : Da w p n c ds) (hv : validB ds = false) :
    Calls Tryd.prog 6 #[.slice p n c] w fun e w' => Bys w w' e (outT ds) := by
  have HT : Hid (outT ds = []) := by unfold Hid outT; rw [hv]; rfl
  have HD : Hid (Da w p n c ds) := hD
  clear hD
  go_enter Tryd.func6, Tryd.ntmps6
  go_wp2_with (go_at_call 25; refine (valid6 _ n c ds _ HD.out).mono ?_; rintro e w1 ⟨rfl, hb1⟩; rw [hv])
  go_ret
  rw [HT.out]
  exact ⟨none, 0, rfl, By.nil _, hb1⟩
set_option maxHeartbeats 2000000 in
theorem write5_good (p : Option Addr) (n c : Nat) (ds : List Dt) (w : World) (hD : Da w p n c ds) (hv : validB ds = true) :
    Calls Tryd.prog 6 #[.slice p n c] w fun e w' => Bys w w' e (outT ds) := by
  have HT : Hid (outT ds = rowT ds) := by unfold Hid outT; rw [hv]; rfl
  have HRG : Hid (Rg (rowT ds)) := rowX_rg _ _ hD.rg
  have hn : n ≤ 3000 := by have := (valid_small hv).1; rw [hD.len] at this; exact this
  have HR : Hid (rowOf ds = true) := (valid_small hv).2
  have HLN : Hid ((rowT ds).length ≤ 390000) := by
    have := rowX_len ds.length ds
    unfold Hid rowT; rw [hD.len] at *; omega
  have HD : Hid (Da w p n c ds) := hD
  clear hD
  go_enter Tryd.func6, Tryd.ntmps6
  go_wp2_with (first | (go_at_call 25; refine (valid6 _ n c ds _ HD.out).mono ?_; rintro e w1 ⟨rfl, hb1⟩; rw [hv]; have HB1 : Hid (Below w.heap.size w w1) := hb1; clear hb1) | (go_at_call 26; refine (forms15 _ n c ds _ (by exact HD.out.below HB1.out) hn HR.out).mono ?_; rintro e w2 ⟨fv, fs, rfl, hfv, hrt, hfs, hfl, hb2⟩))
  have HB2 : Hid (Below w.heap.size w w2) := HB1.out.trans (hb2.mono HB1.out.size)
  have HK : Hid (Kd w2 fv fs) := hfv.kd
  have HFS : Hid (∀ j, j < fs.length → fs.getD j 0 ≤ n ∧ ∃ r, skip 100 (ds.drop (fs.getD j 0)) = some r) := hfs
  have HRT : Hid (rowT ds = fs.flatMap (fun p => txt 100 (ds.drop p) ++ [10])) := hrt
  obtain ⟨kp, kc, hke, hkrest⟩ := hfv.form
  subst hke
  clear hkrest hfv hrt hfs hb2 HB1
  go_wp2
  go_loopw [3, 5] (fun v kk wr => ∃ (j : Nat), j ≤ fs.length ∧ kk = .int .i64 j ∧ Hid (Ow wr w.heap.size v ((fs.take j).flatMap (fun p => txt 100 (ds.drop p) ++ [10]))) ∧ Hid (Kd wr (.slice kp fs.length kc) fs) ∧ Hid (Below w.heap.size w wr)) (fun _ kk _ => fs.length - (intOf kk).toNat)
  case atStart => exact ⟨0, Nat.zero_le _, rfl, Ow.nil _ _, HK, HB2⟩
  case round =>
    clear HB2 HK
    obtain ⟨j, hj, rfl, hO, hK, hb⟩ := hrel
    by_cases hlt : j < fs.length
    · obtain ⟨g, c', e, _, gc⟩ := hK.out.cell (by omega)
      cases e
      have gj := gc j hlt
      obtain ⟨hp1, q1, hqk⟩ := HFS.out j hlt
      have HQK : Hid (skip 100 (ds.drop (fs.getD j 0)) = some q1) := hqk
      have HE1 : Hid ((fs.take (j + 1)).flatMap (fun p => txt 100 (ds.drop p) ++ [10]) = (fs.take j).flatMap (fun p => txt 100 (ds.drop p) ++ [10]) ++ (txt 100 (ds.drop (fs.getD j 0)) ++ [10])) := take_succ_flat fs _ j hlt
      have hl1 := take_flat_le fs (fun p => txt 100 (ds.drop p) ++ [10]) (j + 1)
      rw [← HRT.out, HE1.out, List.length_append, List.length_append] at hl1
      have hl2 := HLN.out
      clear gc hqk
      generalize fs.getD j 0 = pos at gj hp1 HE1 HQK hl1
      generalize (fs.take j).flatMap (fun p => txt 100 (ds.drop p) ++ [10]) = acc at hO HE1 hl1
      generalize hxt : txt 100 (ds.drop pos) = xt at HE1 hl1
      have HXT : Hid (txt 100 (ds.drop pos) = xt) := hxt
      clear hxt
      have hl3 : acc.length + xt.length + 1 ≤ 390000 := by simp at hl1; omega
      clear hl1 hl2
      have hsz := hb.out.size
      go_wp2_with (first | (go_at_call 27; refine (text16 100 _ n c pos ds q1 _ (by exact HD.out.below hb.out) hn hp1 HQK.out).mono ?_; rw [HXT.out]; rintro e w2 ⟨b2, o2, c2, rfl, hy2, hb2⟩; have HY2 : Hid (By w2 (some ⟨b2, o2, none⟩) xt.length c2 xt) := hy2; have HB2 : Hid (Below wr.heap.size wr w2) := hb2; have hsz2 := hb2.size; clear hy2 hb2) | (at_builtin; refine app_law _ rfl (.tmp 17) (.tmp 23) rfl w.heap.size u3 acc xt (by simp [Act.eval]) (by exact hO.out.below HB2.out) b2 o2 xt.length c2 (by simp [Act.eval]) HY2.out (by omega) (by omega) ?_; intro v' w3 ho hg hgr; have HO3 : Hid (Ow w3 w.heap.size v' (acc ++ xt)) := ho; have HK3 : Hid (Kd w3 (.slice (some ⟨g, 0, none⟩) fs.length kc) fs) := (hK.out.below HB2.out).grown (hO.out.below HB2.out) hgr; have HB3 : Hid (Below w.heap.size w w3) := (hb.out.trans (HB2.out.mono hsz)).trans hg; have hsz3 := HB3.out.size; clear ho hg hgr) | (at_builtin; refine app_law _ rfl (.tmp 25) (.tmp 26) rfl w.heap.size v' (acc ++ xt) [10] (by simp [Act.eval]) (by exact HO3.out.below (below1 _ _)) w3.heap.size 0 1 1 (by simp [Act.eval]) (By.lit w3 10 (by omega) (by omega)) (by simp; omega) (by simp; omega) ?_; intro v4 w4 ho hg hgr; have HO4 : Hid (Ow w4 w.heap.size v4 (acc ++ xt ++ [10])) := ho; have HK4 : Hid (Kd w4 (.slice (some ⟨g, 0, none⟩) fs.length kc) fs) := (HK3.out.below (below1 w3 _)).grown (HO3.out.below (below1 w3 _)) hgr; have HB4 : Hid (Below w.heap.size w w4) := (HB3.out.alloc hsz3 _).trans hg; clear ho hg hgr))
      refine ⟨⟨j + 1, by omega, by go_num, ?_, HK4, HB4⟩, by simp [intOf]; omega⟩
      rw [HE1.out, ← List.append_assoc]
      exact HO4
    · obtain rfl : j = fs.length := by omega
      rw [List.take_length] at hO
      have HO2 : Hid (Ow wr w.heap.size u3 (rowT ds)) := by unfold Hid; rw [HRT.out]; exact hO.out
      clear hO
      go_wp2
      go_ret
      rw [HT.out]
      obtain ⟨p5, c5, e5, hy5, _⟩ := HO2.out.by_ (rng_of HRG.out)
      subst e5
      exact ⟨p5, c5, rfl, hy5, hb.out⟩
theorem write5 (p : Option Addr) (n c : Nat) (ds : List Dt) (w : World) (hD : Da w p n c ds) : Calls Tryd.prog 6 #[.slice p n c] w fun e w' => Bys w w' e (outT ds) := by
  cases hv : validB ds
  · exact write5_bad p n c ds w hD hv
  · exact write5_good p n c ds w hD hv
end Go.Proofs.YtleeldjncobheaaDoor
