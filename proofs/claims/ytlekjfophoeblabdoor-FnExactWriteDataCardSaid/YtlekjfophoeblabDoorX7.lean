import Derived.Test.YtlekjfophoeblabDoorX6
namespace Go.Proofs.YtlekjfophoeblabDoor
open Go.RowKit Ch1
theorem text16 (k : Nat) : ∀ (p : Option Addr) (n c i : Nat) (ds r : List Dt) (w : World), Da w p n c ds → n ≤ 3000 → i ≤ n → skip k (ds.drop i) = some r → Calls Tryd.prog 33 #[.slice p n c, .int .i64 i] w fun e w' => Txt w w' e (txt k (ds.drop i)) := by
  have place : ∀ (n i : Nat) (ds : List Dt) (d : Dt) (q : List Dt), ds.length = n → ds.drop i = d :: q → i < n ∧ d = ds.getD i dt0 ∧ q = ds.drop (i + 1) := by
    intro n i ds d q hn hl
    have hi : i < ds.length := by
      apply Nat.lt_of_not_le
      intro h
      rw [List.drop_eq_nil_of_le h] at hl; cases hl
    rw [drop_cons ds i hi] at hl
    cases hl
    exact ⟨by omega, rfl, rfl⟩
  induction k with
  | zero =>
    intro p n c i ds r w hD hn _ hs
    obtain ⟨d, q, hl, hg, ⟨hk, rfl⟩ | ⟨k', e, _⟩⟩ := skip_some hs
    · obtain ⟨hin, rfl, rfl⟩ := place n i ds d _ hD.len hl
      rcases good_kinds hg with h0 | h0 | h0 | h0
      · exact text16_int 0 p n c i ds _ w hD hin hl hg h0
      · exact text16_bool 0 p n c i ds _ w hD hin hl h0
      · exact text16_sym 0 p n c i ds _ w hD hin hl hg h0
      · exact absurd h0 hk
    · omega
  | succ k ih =>
    intro p n c i ds r w hD hn _ hs
    obtain ⟨d, q, hl, hg, ⟨hk, rfl⟩ | ⟨k', e, hk, hss⟩⟩ := skip_some hs
    · obtain ⟨hin, rfl, rfl⟩ := place n i ds d _ hD.len hl
      rcases good_kinds hg with h0 | h0 | h0 | h0
      · exact text16_int _ p n c i ds _ w hD hin hl hg h0
      · exact text16_bool _ p n c i ds _ w hD hin hl h0
      · exact text16_sym _ p n c i ds _ w hD hin hl hg h0
      · exact absurd h0 hk
    · obtain rfl : k = k' := by omega
      obtain ⟨hin, rfl, rfl⟩ := place n i ds d q hD.len hl
      exact text16_list k p n c i ds _ r w ih hD hn hin hl rfl hg hk hss
/-- What WriteData answers. -/
def outT (ds : List Dt) : List Int := if validB ds = true then rowT ds else []
/-- A slice that reads as xs; nothing that was there has turned. -/
def Bys (w w' : World) (e : Ending) (xs : List Int) : Prop := ∃ p c, e = .returned (.slice p xs.length c) ∧ By w' p xs.length c xs ∧ Below w.heap.size w w'
theorem By.nil (w : World) : By w none 0 0 [] := ⟨rfl, Nat.le_refl _, by unfold maxLen; omega, fun i => by simp, fun h => absurd h (Nat.lt_irrefl 0), fun a ha => by cases ha⟩
theorem valid_small {ds : List Dt} (h : validB ds = true) : ds.length ≤ 3000 ∧ rowOf ds = true := by
  unfold validB at h; simp at h; exact h
theorem rowX_rg : ∀ (n : Nat) (l : List Dt), RgD l → Rg (rowX n l) := by
  intro n
  induction n with
  | zero => intro l _; cases l <;> (intro x hx; cases hx)
  | succ n ih =>
    intro l h
    cases l with
    | nil => intro x hx; cases hx
    | cons d r =>
      simp only [rowX]
      cases e : skip 100 (d :: r) with
      | none => intro x hx; cases hx
      | some r' =>
        obtain ⟨k, _, _, rfl⟩ := skip_eats 100 _ _ e
        refine Rg.app (txt_rg 100 _ h) (Rg.app (xs := [10]) ?_ (ih _ (h.drop k)))
        intro x hx; simp at hx; omega
theorem rowX_len : ∀ (n : Nat) (l : List Dt), (rowX n l).length ≤ 130 * l.length := by
  intro n
  induction n with
  | zero => intro l; cases l <;> simp [rowX]
  | succ n ih =>
    intro l
    cases l with
    | nil => simp [rowX]
    | cons d r =>
      simp only [rowX]
      cases e : skip 100 (d :: r) with
      | none => simp
      | some r' =>
        have h1 := txt_bound 100 _ _ e
        have h2 := ih r'
        simp only [List.length_append, List.length_cons] at h1 ⊢
        omega
theorem take_flat_le (fs : List Nat) (g : Nat → List Int) (j : Nat) : ((fs.take j).flatMap g).length ≤ (fs.flatMap g).length := by
  have : fs.flatMap g = (fs.take j).flatMap g ++ (fs.drop j).flatMap g := by rw [← List.flatMap_append, List.take_append_drop]
  rw [this, List.length_append]; omega
theorem take_succ_flat (fs : List Nat) (g : Nat → List Int) (j : Nat) (h : j < fs.length) : (fs.take (j + 1)).flatMap g = (fs.take j).flatMap g ++ g (fs.getD j 0) := by
  rw [List.take_succ_eq_append_getElem h, List.flatMap_append]
  simp [List.getD, List.getElem?_eq_getElem h]
set_option maxHeartbeats 1000000 in
theorem write5_bad (p : Option Addr) (n c : Nat) (ds : List Dt) (w : World) (hD : Da w p n c ds) (hv : validB ds = false) :
    Calls Tryd.prog 7 #[.slice p n c] w fun e w' => Bys w w' e (outT ds) := by
  have HT : Hid (outT ds = []) := by unfold Hid outT; rw [hv]; rfl
  have HD : Hid (Da w p n c ds) := hD
  clear hD
  go_enter Tryd.func7, Tryd.ntmps7
  go_wp2_with (go_at_call 31; refine (valid6 _ n c ds _ HD.out).mono ?_; rintro e w1 ⟨rfl, hb1⟩; rw [hv])
  go_ret
  rw [HT.out]
  exact ⟨none, 0, rfl, By.nil _, hb1⟩
set_option maxHeartbeats 2000000 in
theorem write5_good (p : Option Addr) (n c : Nat) (ds : List Dt) (w : World) (hD : Da w p n c ds) (hv : validB ds = true) :
    Calls Tryd.prog 7 #[.slice p n c] w fun e w' => Bys w w' e (outT ds) := by
  have HT : Hid (outT ds = rowT ds) := by unfold Hid outT; rw [hv]; rfl
  have HRG : Hid (Rg (rowT ds)) := rowX_rg _ _ hD.rg
  have hn : n ≤ 3000 := by have := (valid_small hv).1; rw [hD.len] at this; exact this
  have HR : Hid (rowOf ds = true) := (valid_small hv).2
  have HLN : Hid ((rowT ds).length ≤ 390000) := by
    have := rowX_len ds.length ds
    unfold Hid rowT; rw [hD.len] at *; omega
  have HD : Hid (Da w p n c ds) := hD
  clear hD
  go_enter Tryd.func7, Tryd.ntmps7
  go_wp2_with (first | (go_at_call 31; refine (valid6 _ n c ds _ HD.out).mono ?_; rintro e w1 ⟨rfl, hb1⟩; rw [hv]; have HB1 : Hid (Below w.heap.size w w1) := hb1; clear hb1) | (go_at_call 32; refine (forms15 _ n c ds _ (by exact HD.out.below HB1.out) hn HR.out).mono ?_; rintro e w2 ⟨fv, fs, rfl, hfv, hrt, hfs, hfl, hb2⟩))
  have HB2 : Hid (Below w.heap.size w w2) := HB1.out.trans (hb2.mono HB1.out.size)
  have HK : Hid (Kd w2 fv fs) := hfv.kd
  have HFS : Hid (∀ j, j < fs.length → fs.getD j 0 ≤ n ∧ ∃ r, skip 100 (ds.drop (fs.getD j 0)) = some r) := hfs
  have HRT : Hid (rowT ds = fs.flatMap (fun p => txt 100 (ds.drop p) ++ [10])) := hrt
  obtain ⟨kp, kc, hke, hkrest⟩ := hfv.form
  subst hke
  clear hkrest hfv hrt hfs hb2 HB1
  go_wp2
  go_loopw [3, 5] (fun v kk wr => ∃ (j : Nat), j ≤ fs.length ∧ kk = .int .i64 j ∧ Hid (Ow wr w.heap.size v ((fs.take j).flatMap (fun p => txt 100 (ds.drop p) ++ [10]))) ∧ Hid (Kd wr (.slice kp fs.length kc) fs) ∧ Hid (Below w.heap.size w wr)) (fun _ kk _ => fs.length - (intOf kk).toNat)
  case atStart => exact ⟨0, Nat.zero_le _, rfl, Ow.nil _ _, HK, HB2⟩
  case round =>
    clear HB2 HK
    obtain ⟨j, hj, rfl, hO, hK, hb⟩ := hrel
    by_cases hlt : j < fs.length
    · obtain ⟨g, c', e, _, gc⟩ := hK.out.cell (by omega)
      cases e
      have gj := gc j hlt
      obtain ⟨hp1, q1, hqk⟩ := HFS.out j hlt
      have HQK : Hid (skip 100 (ds.drop (fs.getD j 0)) = some q1) := hqk
      have HE1 : Hid ((fs.take (j + 1)).flatMap (fun p => txt 100 (ds.drop p) ++ [10]) = (fs.take j).flatMap (fun p => txt 100 (ds.drop p) ++ [10]) ++ (txt 100 (ds.drop (fs.getD j 0)) ++ [10])) := take_succ_flat fs _ j hlt
      have hl1 := take_flat_le fs (fun p => txt 100 (ds.drop p) ++ [10]) (j + 1)
      rw [← HRT.out, HE1.out, List.length_append, List.length_append] at hl1
      have hl2 := HLN.out
      clear gc hqk
      generalize fs.getD j 0 = pos at gj hp1 HE1 HQK hl1
      generalize (fs.take j).flatMap (fun p => txt 100 (ds.drop p) ++ [10]) = acc at hO HE1 hl1
      generalize hxt : txt 100 (ds.drop pos) = xt at HE1 hl1
      have HXT : Hid (txt 100 (ds.drop pos) = xt) := hxt
      clear hxt
      have hl3 : acc.length + xt.length + 1 ≤ 390000 := by simp at hl1; omega
      clear hl1 hl2
      have hsz := hb.out.size
      go_wp2_with (first | (go_at_call 33; refine (text16 100 _ n c pos ds q1 _ (by exact HD.out.below hb.out) hn hp1 HQK.out).mono ?_; rw [HXT.out]; rintro e w2 ⟨b2, o2, c2, rfl, hy2, hb2⟩; have HY2 : Hid (By w2 (some ⟨b2, o2, none⟩) xt.length c2 xt) := hy2; have HB2 : Hid (Below wr.heap.size wr w2) := hb2; have hsz2 := hb2.size; clear hy2 hb2) | (at_builtin; refine app_law _ rfl (.tmp 17) (.tmp 23) rfl w.heap.size u3 acc xt (by simp [Act.eval]) (by exact hO.out.below HB2.out) b2 o2 xt.length c2 (by simp [Act.eval]) HY2.out (by omega) (by omega) ?_; intro v' w3 ho hg hgr; have HO3 : Hid (Ow w3 w.heap.size v' (acc ++ xt)) := ho; have HK3 : Hid (Kd w3 (.slice (some ⟨g, 0, none⟩) fs.length kc) fs) := (hK.out.below HB2.out).grown (hO.out.below HB2.out) hgr; have HB3 : Hid (Below w.heap.size w w3) := (hb.out.trans (HB2.out.mono hsz)).trans hg; have hsz3 := HB3.out.size; clear ho hg hgr) | (at_builtin; refine app_law _ rfl (.tmp 25) (.tmp 26) rfl w.heap.size v' (acc ++ xt) [10] (by simp [Act.eval]) (by exact HO3.out.below (below1 _ _)) w3.heap.size 0 1 1 (by simp [Act.eval]) (By.lit w3 10 (by omega) (by omega)) (by simp; omega) (by simp; omega) ?_; intro v4 w4 ho hg hgr; have HO4 : Hid (Ow w4 w.heap.size v4 (acc ++ xt ++ [10])) := ho; have HK4 : Hid (Kd w4 (.slice (some ⟨g, 0, none⟩) fs.length kc) fs) := (HK3.out.below (below1 w3 _)).grown (HO3.out.below (below1 w3 _)) hgr; have HB4 : Hid (Below w.heap.size w w4) := (HB3.out.alloc hsz3 _).trans hg; clear ho hg hgr))
      refine ⟨⟨j + 1, by omega, by go_num, ?_, HK4, HB4⟩, by simp [intOf]; omega⟩
      rw [HE1.out, ← List.append_assoc]
      exact HO4
    · obtain rfl : j = fs.length := by omega
      rw [List.take_length] at hO
      have HO2 : Hid (Ow wr w.heap.size u3 (rowT ds)) := by unfold Hid; rw [HRT.out]; exact hO.out
      clear hO
      go_wp2
      go_ret
      rw [HT.out]
      obtain ⟨p5, c5, e5, hy5, _⟩ := HO2.out.by_ (rng_of HRG.out)
      subst e5
      exact ⟨p5, c5, rfl, hy5, hb.out⟩
theorem write5 (p : Option Addr) (n c : Nat) (ds : List Dt) (w : World) (hD : Da w p n c ds) : Calls Tryd.prog 7 #[.slice p n c] w fun e w' => Bys w w' e (outT ds) := by
  cases hv : validB ds
  · exact write5_bad p n c ds w hD hv
  · exact write5_good p n c ds w hD hv
end Go.Proofs.YtlekjfophoeblabDoor
