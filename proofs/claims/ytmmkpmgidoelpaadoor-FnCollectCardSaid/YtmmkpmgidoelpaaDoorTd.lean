import Derived.Test.YtmmkpmgidoelpaaDoorT7
namespace Go.Proofs.YtmmkpmgidoelpaaDoor.Hp
open Go.RowKit Ch2
theorem i64_of {xs : List Int} (h : ∀ x, x ∈ xs → -100000 ≤ x ∧ x ≤ 100000) (i : Nat) : -9223372036854775808 ≤ xs.getD i 0 ∧ xs.getD i 0 ≤ 9223372036854775807 := by
  have := getD_rng h i; omega
theorem spW_rng {bs ws : List Int} (hb : ∀ i, 0 ≤ bs.getD i 0 ∧ bs.getD i 0 < 256) (h : ∀ j, -100000 ≤ ws.getD j 0 ∧ ws.getD j 0 ≤ 100000) (i j : Nat) : -100000 ≤ (spW bs ws i).getD j 0 ∧ (spW bs ws i).getD j 0 ≤ 100000 := by
  have hs : ∀ (a : Nat) (x : Int), -1000 ≤ x → x ≤ 1000 → -100000 ≤ (ws.set a x).getD j 0 ∧ (ws.set a x).getD j 0 ≤ 100000 := fun a x h1 h2 => by
    by_cases e : a = j
    · subst e
      by_cases hl : a < ws.length
      · have e2 : (ws.set a x).getD a 0 = x := by simp [List.getD, hl]
        rw [e2]; omega
      · rw [List.set_eq_of_length_le (by omega)]; exact h a
    · have e2 : (ws.set a x).getD j 0 = ws.getD j 0 := by simp [List.getD, e]
      rw [e2]; exact h j
  have hv := nxV_rng hb (nxI bs (nxI bs i))
  unfold spW
  split
  · exact hs _ _ (by omega) (by omega)
  · split
    · exact hs _ _ (by omega) (by omega)
    · split
      · by_cases hl : j < ws.length
        · have e2 : (ws ++ List.replicate (20000 + nxV bs (nxI bs i) % 2 - (ws.length : Int)).toNat (0 : Int)).getD j 0 = ws.getD j 0 := by simp [List.getD, List.getElem?_append_left hl]
          rw [e2]; exact h j
        · have e : (ws ++ List.replicate (20000 + nxV bs (nxI bs i) % 2 - (ws.length : Int)).toNat (0 : Int)).getD j 0 = 0 := by
            unfold List.getD
            rw [List.getElem?_append_right (by omega), List.getElem?_replicate]
            split <;> rfl
          rw [e]; omega
      · exact h j
theorem spT_rng {bs : List Int} {top : Int} (i : Nat) (h : 0 ≤ top ∧ top ≤ 265) : -1 ≤ spT bs top i ∧ spT bs top i ≤ 266 := by
  unfold spT; split
  · omega
  · split <;> omega
theorem spW_len {bs ws : List Int} (hb : ∀ i, 0 ≤ bs.getD i 0 ∧ bs.getD i 0 < 256) (i : Nat) (h : ws.length ≤ 265) : (spW bs ws i).length ≤ 20001 := by
  have hv := nxV_rng hb (nxI bs i)
  unfold spW
  split
  · simp; omega
  · split
    · simp; omega
    · split
      · simp; omega
      · omega
/-- What DrawCollect draws. -/
def DcR (bs ws : List Int) (top : Int) (rs : List Int) : Prop := ∃ s, HeapR bs (nxI bs 0) s ∧ ws = (if nxV bs 0 % 16 = 0 then spW bs s.ws (rootsF bs s.wds s.pos).2 else s.ws) ∧ top = (if nxV bs 0 % 16 = 0 then spT bs s.top (rootsF bs s.wds s.pos).2 else s.top) ∧ rs = (rootsF bs s.wds s.pos).1
theorem DcR.one {bs ws ws' rs rs' : List Int} {top top' : Int} (h : DcR bs ws top rs) (h' : DcR bs ws' top' rs') : ws = ws' ∧ top = top' ∧ rs = rs' := by
  obtain ⟨s, h1, rfl, rfl, rfl⟩ := h
  obtain ⟨s', h2, rfl, rfl, rfl⟩ := h'
  obtain rfl := h1.one h2
  exact ⟨rfl, rfl, rfl⟩
/-- What is left of it. -/
def DcP (bs : List Int) (w w' : World) (e : Ending) : Prop := ∃ (p : Option Addr) (n c : Nat) (ws : List Int) (top : Int) (q : Option Addr) (m d : Nat) (rs : List Int), e = .returned (.tuple #[.agg #[.slice p n c, .int .i64 top], .slice q m d]) ∧ DcR bs ws top rs ∧ Is w' p n c ws ∧ Is w' q m d rs ∧ n ≤ 20001 ∧ -1 ≤ top ∧ top ≤ 266 ∧ m ≤ 5 ∧ Below w.heap.size w w'
set_option maxRecDepth 20000 in
set_option maxHeartbeats 8000000 in
theorem drawCollect_c (cp : Option Addr) (cn cc : Nat) (cs bs : List Int) (hbs : bs = cs.take 500) (w : World) (h : Bz w cp cn cs) (hcc : cn ≤ cc) (hcm : cc ≤ 9223372036854775807) :
    Calls Tryd.prog 4 #[.slice cp cn cc] w fun e w' => DcP bs w w' e := by
  obtain ⟨W, hW⟩ : ∃ W, W = w.alloc (.cells #[.slice none 0 0, .int .i64 0] 25) := ⟨_, rfl⟩
  have HBW : Hid (Below w.heap.size w W) := by unfold Hid; rw [hW]; exact below1 _ _
  have HRV : Hid (W.heap[w.heap.size]? = some (.cells #[.slice none 0 0, .int .i64 0] 25)) := by unfold Hid; rw [hW]; exact Go.Deep.blk_alloc_new _ _
  have HWs : Hid (W.heap.size = w.heap.size + 1) := by unfold Hid; rw [hW]; simp
  have HCS : Hid (Bz W cp cn cs) := h.below HBW.out
  clear h
  go_enter Tryd.func4, Tryd.ntmps4
  go_wp2_with fail
  rw [← hW]
  clear hW
  refine (open_c cp cn cc cs W HCS.out hcc hcm).mono ?_
  rintro e w1 ⟨oc, rfl, hr1, hb1⟩
  rw [← hbs] at hr1
  obtain ⟨rb, hrb⟩ : ∃ rb, rb = W.heap.size := ⟨_, rfl⟩
  rw [← hrb] at hr1 ⊢
  obtain ⟨nb, hnb⟩ : ∃ nb, nb = min cn 500 := ⟨_, rfl⟩
  rw [← hnb] at hr1
  have HR1 : Hid (Rz w1 rb cp nb oc rb bs 0) := hr1
  have HRB : Hid (∀ i, 0 ≤ bs.getD i 0 ∧ bs.getD i 0 < 256) := hr1.by_.rng
  have HB1 : Hid (Below w.heap.size w w1) := HBW.out.trans (hb1.mono HBW.out.size)
  have HRV1 : Hid (w1.heap[w.heap.size]? = some (.cells #[.slice none 0 0, .int .i64 0] 25)) := by unfold Hid; rw [hb1.block _ (by have := HWs.out; omega)]; exact HRV.out
  have hrbw : w.heap.size < rb := by have := HWs.out; omega
  have hvr := nxV_rng hr1.by_.rng 0
  obtain ⟨k, hk⟩ : ∃ k : Nat, nxV bs 0 = k := ⟨(nxV bs 0).toNat, by omega⟩
  rw [hk] at hvr
  have hk256 : k < 256 := by omega
  have HK : Hid (nxV bs 0 = (k : Int)) := hk
  clear hr1 hb1 hbs hrb hnb hk hvr HCS
  go_wp2_with fail
  refine (next_c rb cp nb oc rb bs 0 w1 HR1.out).mono ?_
  rintro e w2 ⟨rfl, hr2, hk2, hs2⟩
  rw [HK.out]
  have HR2 : Hid (Rz w2 rb cp nb oc rb bs (nxI bs 0)) := hr2
  have HRV2 : Hid (w2.heap[w.heap.size]? = some (.cells #[.slice none 0 0, .int .i64 0] 25)) := by unfold Hid; rw [hk2.block _ (Array.getElem?_eq_some_iff.1 HRV1.out).1 (by omega) (by omega)]; exact HRV1.out
  have HB2 : Hid (Below w.heap.size w w2) := HB1.out.trans (hk2.below HB1.out.size (by omega) (by omega))
  clear hr2 hk2 hs2 HR1 HRV1
  go_wp2_with fail
  refine (l7heap_c rb cp nb oc rb bs (nxI bs 0) w2 HR2.out).mono ?_
  rintro e w3 ⟨s, n, gw, cw, gh, hc, rfl, hhr, hj, hn10, hn265, hwl, hfh, hfw, hne, hgh, hgw, hr3, hk3⟩
  have HHR : Hid (HeapR bs (nxI bs 0) s) := hhr
  have HJ : Hid (Hj n s) := hj
  have h23 := hk3.size
  have hrv2 := (Array.getElem?_eq_some_iff.1 HRV2.out).1
  have hrb2 := HR2.out.lt
  obtain ⟨W3, hW3⟩ : ∃ W3, W3 = w3.alloc (.cells #[.slice (some ⟨gh, 0, none⟩) n hc, .int .i64 s.top] 25) := ⟨_, rfl⟩
  have hbW3 : Below w3.heap.size w3 W3 := by rw [hW3]; exact below1 _ _
  have hhv3 : W3.heap[w3.heap.size]? = some (.cells #[.slice (some ⟨gh, 0, none⟩) n hc, .int .i64 s.top] 25) := by rw [hW3]; exact new_blk _ _ rfl
  have hsW3 : W3.heap.size = w3.heap.size + 1 := by rw [hW3]; simp
  have HR3 : Hid (Rz W3 rb cp nb oc rb bs s.pos) := hr3.below hbW3
  have HFH3 : Hid (Fr W3 gh n hc s.ws) := hfh.below hbW3
  have HFW3 : Hid (Fr W3 gw s.wds.length cw s.wds) := hfw.below hbW3
  have HRV3 : Hid (W3.heap[w.heap.size]? = some (.cells #[.slice none 0 0, .int .i64 0] 25)) := by unfold Hid; rw [hbW3.block _ (by omega), hk3.block _ hrv2 (by omega) (by omega)]; exact HRV2.out
  have HB3 : Hid (Below w.heap.size w W3) := (HB2.out.trans (hk3.below HB2.out.size (by omega) (by omega))).trans (hbW3.mono (Nat.le_trans HB2.out.size h23))
  have hghl := hfh.lt
  have hgwl := hfw.lt
  obtain ⟨B3, hB3⟩ : ∃ B3, B3 = W3.heap.size := ⟨_, rfl⟩
  go_wp2_with fail
  rw [← hW3]
  refine (l7roots_c rb cp nb oc rb bs s.wds s.pos gw s.wds.length cw W3 HR3.out HFW3.out (by omega) hj.wl hwl hj.bw).mono ?_
  rintro e w4 ⟨fv, rfl, hf4, hr4, hk4⟩
  rw [← hB3] at hf4
  have h34 := hk4.size
  obtain ⟨f0, hf0⟩ : ∃ f0, f0 = (rootsF bs s.wds s.pos).1 := ⟨_, rfl⟩
  obtain ⟨i1, hi1⟩ : ∃ i1, i1 = (rootsF bs s.wds s.pos).2 := ⟨_, rfl⟩
  rw [← hf0] at hf4
  rw [← hi1] at hr4
  have HF4 : Hid (Fz w4 B3 fv f0) := hf4
  have HR4 : Hid (Rz w4 rb cp nb oc rb bs i1) := hr4
  have HHV4 : Hid (w4.heap[w3.heap.size]? = some (.cells #[.slice (some ⟨gh, 0, none⟩) n hc, .int .i64 s.top] 25)) := by unfold Hid; rw [hk4.block _ (by omega) (by omega) (by omega)]; exact hhv3
  have HRV4 : Hid (w4.heap[w.heap.size]? = some (.cells #[.slice none 0 0, .int .i64 0] 25)) := by unfold Hid; rw [hk4.block _ (by omega) (by omega) (by omega)]; exact HRV3.out
  have HFH4 : Hid (Fr w4 gh n hc s.ws) := HFH3.out.of_block (hk4.block _ (by omega) (by omega) (by omega))
  have HB4 : Hid (Below w.heap.size w w4) := HB3.out.trans (hk4.below HB3.out.size (by omega) (by omega))
  have HS4 : Hid (B3 ≤ w4.heap.size) := by unfold Hid; omega
  have HF0 : Hid (f0 = (rootsF bs s.wds s.pos).1 ∧ i1 = (rootsF bs s.wds s.pos).2) := ⟨hf0, hi1⟩
  have HFR0 : Hid (∀ x, x ∈ f0 → -100000 ≤ x ∧ x ≤ 100000) := by unfold Hid; rw [hf0]; exact rtN_rng hj.bw _ _
  have HFL0 : Hid (f0.length ≤ 5) := by
    unfold Hid; rw [hf0]; unfold rootsF; rw [rtN_len]
    have := nxV_rng HRB.out s.pos
    omega
  obtain ⟨hb, hhb⟩ : ∃ hb, hb = w3.heap.size := ⟨_, rfl⟩
  rw [← hhb] at HHV4 ⊢
  have hlo : rb < B3 ∧ gh < B3 ∧ hb < B3 ∧ w.heap.size < B3 ∧ w.heap.size ≠ hb ∧ gh ≠ hb ∧ gh ≠ w.heap.size ∧ gh ≠ rb ∧ w.heap.size < gh ∧ w.heap.size < hb ∧ rb < hb := by omega
  have hTb : 0 ≤ s.top ∧ s.top ≤ 265 := by have := hj.lo; have := hj.hi; omega
  clear hhr hj hfh hfw hr3 hk3 hW3 hbW3 hhv3 hsW3 HR3 HFH3 HFW3 HRV3 HB3 hf4 hr4 hk4 hf0 hi1 hB3 hhb h34 h23 hrv2 hrb2 HB2 HRV2 HR2 hghl hgwl hgh hgw hwl hne
  obtain ⟨T, hT⟩ : ∃ T, s.top = T := ⟨_, rfl⟩
  rw [hT] at hTb
  have HT : Hid (s.top = T) := hT
  obtain ⟨l1, l2, l3, l4, l5, l6, l7, l8, l9, l10, l11⟩ := hlo
  have HWR : Hid (∀ i, -9223372036854775808 ≤ s.ws.getD i 0 ∧ s.ws.getD i 0 ≤ 9223372036854775807) := fun i => by have := HJ.out.bh i; omega
  have HIW : Hid (Is w4 (some ⟨gh, 0, none⟩) n hc s.ws) := HFH4.out.is HWR.out
  obtain ⟨fq, fc, hfe, hfi⟩ := HF4.out.is (i64_of HFR0.out)
  subst hfe
  obtain ⟨kd, hkd⟩ : ∃ kd : Nat, kd = k % 16 := ⟨_, rfl⟩
  have t1 : (k : Int).tmod 16 = (kd : Int) := by rw [Int.tmod_eq_emod_of_nonneg (by omega)]; omega
  have hkd16 : kd < 16 := by omega
  have HKD : Hid (nxV bs 0 % 16 = (kd : Int)) := by unfold Hid; rw [HK.out]; omega
  clear hkd hT
  obtain ⟨c0, c1, f0', f1'⟩ := two_cells HHV4.out
  obtain ⟨r0, r1, rf0, rf1⟩ := two_cells HRV4.out
  rw [HT.out] at c1
  have HFI := Hid.mk' hfi
  clear hfi
  by_cases h0 : kd = 0
  · have hb1 : ((kd : Int) == 0) = true := by simp [h0]
    have HZ : Hid (nxV bs 0 % 16 = 0) := by unfold Hid; rw [HKD.out]; omega
    clear h0
    go_wp2_with fail
    refine (l7spoil_c rb cp nb oc rb bs i1 gh n hc s.ws T w4 HR4.out HFH4.out l8 hn10 hn265 hTb.1 hTb.2).mono ?_
    rintro e w8 ⟨⟨g', n', c', rfl, hf8⟩, hk8⟩
    have hs4 := HS4.out
    have HHV8 : w8.heap[hb]? = some (.cells #[.slice (some ⟨gh, 0, none⟩) n hc, .int .i64 T] 25) := by rw [hk8.block _ (by omega) (by omega) (by omega), HHV4.out, HT.out]
    have HRV8 : w8.heap[w.heap.size]? = some (.cells #[.slice none 0 0, .int .i64 0] 25) := by rw [hk8.block _ (by omega) (by omega) (by omega)]; exact HRV4.out
    have HB8 : Hid (Below w.heap.size w w8) := HB4.out.trans (hk8.below HB4.out.size (by omega) (by omega))
    have HF8 : Hid (Fz w8 B3 (.slice fq f0.length fc) f0) := HF4.out.keep (fun g e => hk8.block g (HF4.out.lt g e).2 (by have := (HF4.out.lt g e).1; omega) (by have := (HF4.out.lt g e).1; omega))
    obtain ⟨T2, hT2⟩ : ∃ T2, spT bs T i1 = T2 := ⟨_, rfl⟩
    have hT2r := spT_rng (bs := bs) i1 hTb
    rw [hT2] at hT2r ⊢
    have HT2 : Hid (spT bs T i1 = T2) := hT2
    have e1 := hf8.not HHV8 (by decide)
    have e2 := hf8.not HRV8 (by decide)
    have HFR8 := Hid.mk' hf8
    have HN8 : Hid (n' ≤ 20001) := by unfold Hid; rw [← hf8.len]; exact spW_len HRB.out i1 (by rw [HJ.out.len]; omega)
    have HBH := HJ.out.bh
    obtain ⟨a0, a1, y0, y1⟩ := two_cells HHV8
    obtain ⟨q0, q1, z0, z1⟩ := two_cells HRV8
    have hs8 : w.heap.size < w8.heap.size := (Array.getElem?_eq_some_iff.1 HRV8).1
    obtain ⟨fq2, fc2, hfe2, hfi2⟩ := HF8.out.is (i64_of HFR0.out)
    cases hfe2
    have HFI8 := Hid.mk' hfi2
    obtain ⟨hT20, hT21⟩ := hT2r
    clear hfi2 hf8 hk8 hT2 c0 c1 f0' f1' r0 r1 rf0 rf1 HHV8 HRV8 hs4
    go_wp2_with fail
    refine bodyPost_ret (v := .tuple #[.agg #[.slice (some ⟨g', 0, none⟩) n' c', .int .i64 T2], .slice fq f0.length fc]) (by simp [results, Tryd.results4, go_sem, q0, q1]) rfl ?_
    have hset : Below w.heap.size w8 ((((w8.setCell ⟨hb, 0, none⟩ (.slice (some ⟨g', 0, none⟩) n' c')).setCell ⟨hb, 1, none⟩ (.int .i64 T2)).setCell ⟨w.heap.size, 0, none⟩ (.slice (some ⟨g', 0, none⟩) n' c')).setCell ⟨w.heap.size, 1, none⟩ (.int .i64 T2)) := ((((Below.refl _ _).setCell (by simp; omega) _).setCell (by simp; omega) _).setCell (by simp) _).setCell (by simp) _
    have hwin : Within w.heap.size (hb + 1) w8 ((((w8.setCell ⟨hb, 0, none⟩ (.slice (some ⟨g', 0, none⟩) n' c')).setCell ⟨hb, 1, none⟩ (.int .i64 T2)).setCell ⟨w.heap.size, 0, none⟩ (.slice (some ⟨g', 0, none⟩) n' c')).setCell ⟨w.heap.size, 1, none⟩ (.int .i64 T2)) := ((((Within.refl _ _ _).set (by simp; omega) (by simp) _).set (by simp; omega) (by simp) _).set (by simp) (by simp; omega) _).set (by simp) (by simp; omega) _
    have hfr4 := (((HFR8.out.setOther (a := ⟨hb, 0, none⟩) e1 (.slice (some ⟨g', 0, none⟩) n' c')).setOther (a := ⟨hb, 1, none⟩) e1 (.int .i64 T2)).setOther (a := ⟨w.heap.size, 0, none⟩) e2 (.slice (some ⟨g', 0, none⟩) n' c')).setOther (a := ⟨w.heap.size, 1, none⟩) e2 (.int .i64 T2)
    refine ⟨_, n', c', _, T2, fq, f0.length, fc, f0, rfl, ⟨s, HHR.out, by rw [if_pos HZ.out, ← HF0.out.2], by rw [if_pos HZ.out, ← HF0.out.2, HT.out, HT2.out], HF0.out.1⟩, hfr4.is (fun j => by have := spW_rng HRB.out HBH i1 j; omega), HFI8.out.within hwin (fun a ha h0 => Or.inr (by have := (HF8.out.lt a.block (by rw [ha]; rfl)).1; omega)), HN8.out, by omega, by omega, HFL0.out, HB8.out.trans hset⟩
  · have hb1 : ((kd : Int) == 0) = false := by simp; omega
    have HZ : Hid (¬ nxV bs 0 % 16 = 0) := by unfold Hid; rw [HKD.out]; omega
    go_wp2_with fail
    have hset : Below w.heap.size w4 ((w4.setCell ⟨w.heap.size, 0, none⟩ (.slice (some ⟨gh, 0, none⟩) n hc)).setCell ⟨w.heap.size, 1, none⟩ (.int .i64 T)) := ((Below.refl _ _).setCell (by simp) _).setCell (by simp) _
    have hwin : Within w.heap.size (w.heap.size + 1) w4 ((w4.setCell ⟨w.heap.size, 0, none⟩ (.slice (some ⟨gh, 0, none⟩) n hc)).setCell ⟨w.heap.size, 1, none⟩ (.int .i64 T)) := ((Within.refl _ _ _).set (by simp) (by simp) _).set (by simp) (by simp) _
    refine bodyPost_ret (v := .tuple #[.agg #[.slice (some ⟨gh, 0, none⟩) n hc, .int .i64 T], .slice fq f0.length fc]) (by simp [results, Tryd.results4, go_sem, r0, r1]) rfl ?_
    exact ⟨_, n, hc, s.ws, T, fq, f0.length, fc, f0, rfl, ⟨s, HHR.out, by rw [if_neg HZ.out], by rw [if_neg HZ.out, HT.out], HF0.out.1⟩, HIW.out.within hwin (fun a ha _ => by cases ha; exact Or.inr (by show w.heap.size + 1 ≤ gh; omega)), HFI.out.within hwin (fun a ha h0 => Or.inr (by have := (HF4.out.lt a.block (by rw [ha]; rfl)).1; omega)), by omega, by omega, by omega, HFL0.out, HB4.out.trans hset⟩
end Go.Proofs.YtmmkpmgidoelpaaDoor.Hp
