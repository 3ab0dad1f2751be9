import Derived.Test.YtmmkpmgidoelpaaDoorT6
namespace Go.Proofs.YtmmkpmgidoelpaaDoor.Hp
open Go.RowKit Ch2
/-- What l7spoilHeap makes of a heap. -/
def spW (bs ws : List Int) (i : Nat) : List Int := if nxV bs i % 5 = 2 then ws.set (nxV bs (nxI bs i) % (ws.length : Int)).toNat (nxV bs (nxI bs (nxI bs i))) else if nxV bs i % 5 = 3 then ws.set (nxV bs (nxI bs i) % (ws.length : Int)).toNat (-(nxV bs (nxI bs (nxI bs i)))) else if nxV bs i % 5 = 4 then ws ++ List.replicate (20000 + nxV bs (nxI bs i) % 2 - (ws.length : Int)).toNat 0 else ws
def spT (bs : List Int) (top : Int) (i : Nat) : Int := if nxV bs i % 5 = 0 then top + 1 else if nxV bs i % 5 = 1 then -1 else top
/-- What it leaves. -/
def SpP (bs ws : List Int) (top : Int) (i : Nat) (w' : World) (e : Ending) : Prop := ∃ g n c, e = .returned (.agg #[.slice (some ⟨g, 0, none⟩) n c, .int .i64 (spT bs top i)]) ∧ Fr w' g n c (spW bs ws i)
theorem KpZ.set {x y : Nat} {w wX : World} (h : KpZ x y w wX) {a : Addr} (v : Value) (ha : w.heap.size ≤ a.block) : KpZ x y w (wX.setCell a v) :=
  ⟨h.os, h.tape, h.output, by have := h.size; simp; omega, fun k hk e1 e2 => (Below.heap_setCell wX a v k (by omega)).trans (h.block k hk e1 e2)⟩
theorem KpZ.put {x y : Nat} {w wX : World} (h : KpZ x y w wX) {a : Addr} (v : Value) (ha : a.block = y) : KpZ x y w (wX.setCell a v) :=
  ⟨h.os, h.tape, h.output, by have := h.size; simp; omega, fun k hk e1 e2 => (Below.heap_setCell wX a v k (by omega)).trans (h.block k hk e1 e2)⟩
theorem KpZ.drew {x y : Nat} {w wX : World} (h : KpZ x y w wX) : KpZ x y w wX.drew := ⟨h.os, h.tape, h.output, h.size, h.block⟩
set_option maxRecDepth 20000 in
set_option maxHeartbeats 8000000 in
theorem l7spoil_c (rb : Nat) (bp : Option Addr) (nb cb B : Nat) (bs : List Int) (i : Nat) (g n c : Nat) (ws : List Int) (top : Int) (w : World) (h : Rz w rb bp nb cb B bs i) (hf : Fr w g n c ws) (hne : g ≠ rb) (hn0 : 10 ≤ n) (hn1 : n ≤ 265) (ht0 : 0 ≤ top) (ht1 : top ≤ 265) :
    Calls Tryd.prog 17 #[.agg #[.slice (some ⟨g, 0, none⟩) n c, .int .i64 top], .pointer (some ⟨rb, 0, none⟩)] w fun e w' => SpP bs ws top i w' e ∧ KpZ rb g w w' := by
  have HRB : Hid (∀ i, 0 ≤ bs.getD i 0 ∧ bs.getD i 0 < 256) := h.by_.rng
  have HLW : Hid (ws.length = n) := hf.len
  obtain ⟨W, hW⟩ : ∃ W, W = (w.alloc (.cells #[.slice (some ⟨g, 0, none⟩) n c, .int .i64 top] 25)).alloc (.cells #[.slice none 0 0, .int .i64 0] 25) := ⟨_, rfl⟩
  have HBW : Hid (Below w.heap.size w W) := by unfold Hid; rw [hW]; exact below2 _ _ _
  have HHV : Hid (W.heap[w.heap.size]? = some (.cells #[.slice (some ⟨g, 0, none⟩) n c, .int .i64 top] 25)) := by unfold Hid; rw [hW, old_blk _ _ (by simp), new_blk _ _ rfl]
  have HRV : Hid (W.heap[w.heap.size + 1]? = some (.cells #[.slice none 0 0, .int .i64 0] 25)) := by unfold Hid; rw [hW, new_blk _ _ (by simp)]
  have HRD : Hid (Rz W rb bp nb cb B bs i) := h.below HBW.out
  have HF : Hid (Fr W g n c ws) := hf.below HBW.out
  have hrl : rb < w.heap.size := h.lt
  have hgl : g < w.heap.size := hf.lt
  have hn2 := nxV_rng h.by_.rng i
  have hn3 := nxV_rng h.by_.rng (nxI bs i)
  have hn4 := nxV_rng h.by_.rng (nxI bs (nxI bs i))
  obtain ⟨v0, hv0⟩ : ∃ v0 : Nat, nxV bs i = v0 := ⟨(nxV bs i).toNat, by omega⟩
  obtain ⟨v1, hv1⟩ : ∃ v1 : Nat, nxV bs (nxI bs i) = v1 := ⟨(nxV bs (nxI bs i)).toNat, by omega⟩
  obtain ⟨v2, hv2⟩ : ∃ v2 : Nat, nxV bs (nxI bs (nxI bs i)) = v2 := ⟨(nxV bs (nxI bs (nxI bs i))).toNat, by omega⟩
  rw [hv0] at hn2
  rw [hv1] at hn3
  rw [hv2] at hn4
  have HV0 : Hid (nxV bs i = (v0 : Int)) := hv0
  have HV1 : Hid (nxV bs (nxI bs i) = (v1 : Int)) := hv1
  have HV2 : Hid (nxV bs (nxI bs (nxI bs i)) = (v2 : Int)) := hv2
  clear h hf hv0 hv1 hv2
  obtain ⟨k, hk⟩ : ∃ k : Nat, k = v0 % 5 := ⟨_, rfl⟩
  have t0 : (v0 : Int).tmod 5 = (k : Int) := by rw [Int.tmod_eq_emod_of_nonneg (by omega)]; omega
  have hk5 : k < 5 := by omega
  have HK : Hid (nxV bs i % 5 = (k : Int)) := by unfold Hid; rw [HV0.out]; omega
  clear hk
  go_enter Tryd.func17, Tryd.ntmps17
  go_wp2_with fail
  rw [← hW]
  clear hW
  refine (next_c rb bp nb cb B bs i W HRD.out).mono ?_
  rintro e w1 ⟨rfl, hr1, hk1, hs1⟩
  rw [HV0.out]
  have HR1 : Hid (Rz w1 rb bp nb cb B bs (nxI bs i)) := hr1
  have HK1 : Hid (KpZ rb rb W w1) := hk1
  clear hr1 hk1 hs1
  go_wp2_with fail
  clear t0
  refine (next_c rb bp nb cb B bs (nxI bs i) w1 HR1.out).mono ?_
  rintro e w2 ⟨rfl, hr2, hk2, hs2⟩
  rw [HV1.out]
  have HR2 : Hid (Rz w2 rb bp nb cb B bs (nxI bs (nxI bs i))) := hr2
  have HK2 : Hid (KpZ rb rb W w2) := HK1.out.trans hk2
  have hWs1 := (Array.getElem?_eq_some_iff.1 HRV.out).1
  have HHV2 : Hid (w2.heap[w.heap.size]? = some (.cells #[.slice (some ⟨g, 0, none⟩) n c, .int .i64 top] 25)) := by unfold Hid; rw [HK2.out.block _ (by omega) (by omega) (by omega)]; exact HHV.out
  have HRV2 : Hid (w2.heap[w.heap.size + 1]? = some (.cells #[.slice none 0 0, .int .i64 0] 25)) := by unfold Hid; rw [HK2.out.block _ (by omega) (by omega) (by omega)]; exact HRV.out
  have HF2 : Hid (Fr w2 g n c ws) := HF.out.of_block (HK2.out.block _ (by have := HBW.out.size; omega) hne hne)
  have HKW : Hid (KpZ rb g w w2) := by
    have h1 := HK2.out
    exact ⟨h1.os.trans HBW.out.os, h1.tape.trans HBW.out.tape, h1.output.trans HBW.out.output, Nat.le_trans HBW.out.size h1.size, fun q hq e1 e2 => (h1.block q (by have := HBW.out.size; omega) e1 e1).trans (HBW.out.block q hq)⟩
  obtain ⟨c0, c1, f0, f1⟩ := two_cells HHV2.out
  obtain ⟨r0, r1, rf0, rf1⟩ := two_cells HRV2.out
  have hs2l : w.heap.size + 1 < w2.heap.size := (Array.getElem?_eq_some_iff.1 HRV2.out).1
  clear hr2 hk2 hs2 HRD HHV HRV HF HR1 HK1 HK2 hWs1
  have hkk : k = 0 ∨ k = 1 ∨ k = 2 ∨ k = 3 ∨ k = 4 := by omega
  have hnb : ((n : Int) == 0) = false := by simp; omega
  rcases hkk with rfl | rfl | rfl | rfl | rfl
  · have HT : Hid (spT bs top i = top + 1 ∧ spW bs ws i = ws) := by unfold Hid spT spW; rw [HK.out]; simp
    go_wp2_with fail
    refine bodyPost_ret (v := .agg #[.slice (some ⟨g, 0, none⟩) n c, .int .i64 (top + 1)]) (by simp [results, Tryd.results17, go_sem, r0, r1]) rfl ⟨⟨g, n, c, by rw [HT.out.1], ?_⟩, ((HKW.out.set _ (by simp)).set _ (by simp)).set _ (by simp)⟩
    rw [HT.out.2]
    exact ((HF2.out.setOther (by simp; omega) _).setOther (by simp; omega) _).setOther (by simp; omega) _
  · have HT : Hid (spT bs top i = -1 ∧ spW bs ws i = ws) := by unfold Hid spT spW; rw [HK.out]; simp
    go_wp2_with fail
    refine bodyPost_ret (v := .agg #[.slice (some ⟨g, 0, none⟩) n c, .int .i64 (-1)]) (by simp [results, Tryd.results17, go_sem, r0, r1]) rfl ⟨⟨g, n, c, by rw [HT.out.1], ?_⟩, ((HKW.out.set _ (by simp)).set _ (by simp)).set _ (by simp)⟩
    rw [HT.out.2]
    exact ((HF2.out.setOther (by simp; omega) _).setOther (by simp; omega) _).setOther (by simp; omega) _
  · obtain ⟨a, ha⟩ : ∃ a : Nat, a = v1 % n := ⟨_, rfl⟩
    have han : a < n := by rw [ha]; exact Nat.mod_lt _ (by omega)
    have t1 : (v1 : Int).tmod (n : Int) = (a : Int) := by rw [Int.tmod_eq_emod_of_nonneg (by omega), ha]; simp
    have HT : Hid (spT bs top i = top ∧ spW bs ws i = ws.set a (v2 : Int)) := by
      unfold Hid spT spW; rw [HK.out, HV1.out, HV2.out, HLW.out, ha]
      have e : ((v1 : Int) % (n : Int)).toNat = v1 % n := by rw [← Int.natCast_emod]; exact Int.toNat_natCast _
      rw [e]; simp
    clear ha
    have SK : Hid (∀ wx : World, wx.heap[w.heap.size]? = w2.heap[w.heap.size]? → wx.cell? ⟨w.heap.size, 0, none⟩ = some (.slice (some ⟨g, 0, none⟩) n c) ∧ wx.cell? ⟨w.heap.size, 1, none⟩ = some (.int .i64 top)) := fun wx hb => by
      rw [HHV2.out] at hb
      obtain ⟨q0, q1, _, _⟩ := two_cells hb
      exact ⟨q0, q1⟩
    have SK0 := Hid.mk' (SK.out w2.drew rfl)
    have f1 : (a : Int) < (n : Int) := by omega
    go_wp2_with fail
    go_region_held (fun wx => wx.cell? ⟨w.heap.size, 0, none⟩ = some (.slice (some ⟨g, 0, none⟩) n c) ∧ wx.cell? ⟨w.heap.size, 1, none⟩ = some (.int .i64 top)) (first | exact SK6.out _ | exact SK5.out | exact SK0.out) (first | (go_at_call 14; refine (next_c rb bp nb cb B bs (nxI bs (nxI bs i)) w2.drew (HR2.out.below (below_drew (Below.refl _ _)))).mono ?_; rintro e w5 ⟨rfl, hr5, hk5, hs5⟩; rw [HV2.out]; have HF5 := Hid.mk' ((HF2.out.below (below_drew (Below.refl _ _))).of_block (hk5.block g (show g < w2.heap.size by omega) hne hne)); have HB5 := Hid.mk' (hk5.block w.heap.size (show w.heap.size < w2.heap.size by omega) (by omega) (by omega)); have SK5 := Hid.mk' (SK.out w5 HB5.out); have HK5 := Hid.mk' (show KpZ rb g w w5 from ⟨hk5.os.trans HKW.out.os, hk5.tape.trans HKW.out.tape, hk5.output.trans HKW.out.output, Nat.le_trans HKW.out.size hk5.size, fun q hq e1 e2 => (hk5.block q (Nat.lt_of_lt_of_le hq HKW.out.size) e1 e1).trans (HKW.out.block q hq e1 e2)⟩); have HR5 := Hid.mk' (show w5.heap[w.heap.size + 1]? = some (.cells #[.slice none 0 0, .int .i64 0] 25) from (hk5.block (w.heap.size + 1) (show w.heap.size + 1 < w2.heap.size by omega) (by omega) (by omega)).trans HRV2.out); have SK6 := Hid.mk' (fun v => SK.out (w5.setCell ⟨g, a, none⟩ v) ((Below.heap_setCell w5 _ v w.heap.size (by simp; omega)).trans HB5.out)); obtain ⟨e5v, e5⟩ : ∃ e5v, w5.cell? ⟨g, a, none⟩ = some e5v := ⟨_, (HF5.out.cell han).1⟩; have e6 := (HF5.out.cell han).2; clear hr5 hk5 hs5))
    all_goals (have hq := SK6.out (.int .i64 (v2 : Int)); obtain ⟨p0, p1⟩ := hq; obtain ⟨q0, q1, qf0, qf1⟩ := two_cells ((Below.heap_setCell w5 ⟨g, a, none⟩ (.int .i64 (v2 : Int)) (w.heap.size + 1) (by simp; omega)).trans HR5.out))
    all_goals go_wp2_with fail
    all_goals refine bodyPost_ret (v := .agg #[.slice (some ⟨g, 0, none⟩) n c, .int .i64 top]) (by simp [results, Tryd.results17, go_sem, q0, q1]) rfl ⟨⟨g, n, c, by rw [HT.out.1], ?_⟩, ((HK5.out.put _ rfl).set _ (by simp)).set _ (by simp)⟩
    all_goals (rw [HT.out.2]; refine ((HF5.out.set a (v2 : Int) (by rw [List.length_set]; exact HLW.out) (fun t ht => ?_)).setOther (by simp; omega) _).setOther (by simp; omega) _; by_cases e : t = a; (· subst e; rw [if_pos rfl]; simp [List.getD, show t < ws.length by rw [HLW.out]; omega]); (· rw [if_neg e]; simp [List.getD, show ¬ a = t by omega]))
  · obtain ⟨a, ha⟩ : ∃ a : Nat, a = v1 % n := ⟨_, rfl⟩
    have han : a < n := by rw [ha]; exact Nat.mod_lt _ (by omega)
    have t1 : (v1 : Int).tmod (n : Int) = (a : Int) := by rw [Int.tmod_eq_emod_of_nonneg (by omega), ha]; simp
    have HT : Hid (spT bs top i = top ∧ spW bs ws i = ws.set a (-(v2 : Int))) := by
      unfold Hid spT spW; rw [HK.out, HV1.out, HV2.out, HLW.out, ha]
      have e : ((v1 : Int) % (n : Int)).toNat = v1 % n := by rw [← Int.natCast_emod]; exact Int.toNat_natCast _
      rw [e]; simp
    clear ha
    have SK : Hid (∀ wx : World, wx.heap[w.heap.size]? = w2.heap[w.heap.size]? → wx.cell? ⟨w.heap.size, 0, none⟩ = some (.slice (some ⟨g, 0, none⟩) n c) ∧ wx.cell? ⟨w.heap.size, 1, none⟩ = some (.int .i64 top)) := fun wx hb => by
      rw [HHV2.out] at hb
      obtain ⟨q0, q1, _, _⟩ := two_cells hb
      exact ⟨q0, q1⟩
    have SK0 := Hid.mk' (SK.out w2.drew rfl)
    have f1 : (a : Int) < (n : Int) := by omega
    go_wp2_with fail
    go_region_held (fun wx => wx.cell? ⟨w.heap.size, 0, none⟩ = some (.slice (some ⟨g, 0, none⟩) n c) ∧ wx.cell? ⟨w.heap.size, 1, none⟩ = some (.int .i64 top)) (first | exact SK6.out _ | exact SK5.out | exact SK0.out) (first | (go_at_call 14; refine (next_c rb bp nb cb B bs (nxI bs (nxI bs i)) w2.drew (HR2.out.below (below_drew (Below.refl _ _)))).mono ?_; rintro e w5 ⟨rfl, hr5, hk5, hs5⟩; rw [HV2.out]; have HF5 := Hid.mk' ((HF2.out.below (below_drew (Below.refl _ _))).of_block (hk5.block g (show g < w2.heap.size by omega) hne hne)); have HB5 := Hid.mk' (hk5.block w.heap.size (show w.heap.size < w2.heap.size by omega) (by omega) (by omega)); have SK5 := Hid.mk' (SK.out w5 HB5.out); have HK5 := Hid.mk' (show KpZ rb g w w5 from ⟨hk5.os.trans HKW.out.os, hk5.tape.trans HKW.out.tape, hk5.output.trans HKW.out.output, Nat.le_trans HKW.out.size hk5.size, fun q hq e1 e2 => (hk5.block q (Nat.lt_of_lt_of_le hq HKW.out.size) e1 e1).trans (HKW.out.block q hq e1 e2)⟩); have HR5 := Hid.mk' (show w5.heap[w.heap.size + 1]? = some (.cells #[.slice none 0 0, .int .i64 0] 25) from (hk5.block (w.heap.size + 1) (show w.heap.size + 1 < w2.heap.size by omega) (by omega) (by omega)).trans HRV2.out); have SK6 := Hid.mk' (fun v => SK.out (w5.setCell ⟨g, a, none⟩ v) ((Below.heap_setCell w5 _ v w.heap.size (by simp; omega)).trans HB5.out)); obtain ⟨e5v, e5⟩ : ∃ e5v, w5.cell? ⟨g, a, none⟩ = some e5v := ⟨_, (HF5.out.cell han).1⟩; have e6 := (HF5.out.cell han).2; clear hr5 hk5 hs5))
    all_goals (have hq := SK6.out (.int .i64 (-(v2 : Int))); obtain ⟨p0, p1⟩ := hq; obtain ⟨q0, q1, qf0, qf1⟩ := two_cells ((Below.heap_setCell w5 ⟨g, a, none⟩ (.int .i64 (-(v2 : Int))) (w.heap.size + 1) (by simp; omega)).trans HR5.out))
    all_goals go_wp2_with fail
    all_goals refine bodyPost_ret (v := .agg #[.slice (some ⟨g, 0, none⟩) n c, .int .i64 top]) (by simp [results, Tryd.results17, go_sem, q0, q1]) rfl ⟨⟨g, n, c, by rw [HT.out.1], ?_⟩, ((HK5.out.put _ rfl).set _ (by simp)).set _ (by simp)⟩
    all_goals (rw [HT.out.2]; refine ((HF5.out.set a (-(v2 : Int)) (by rw [List.length_set]; exact HLW.out) (fun t ht => ?_)).setOther (by simp; omega) _).setOther (by simp; omega) _; by_cases e : t = a; (· subst e; rw [if_pos rfl]; simp [List.getD, show t < ws.length by rw [HLW.out]; omega]); (· rw [if_neg e]; simp [List.getD, show ¬ a = t by omega]))
  · obtain ⟨b2, hb2⟩ : ∃ b2 : Nat, b2 = v1 % 2 := ⟨_, rfl⟩
    obtain ⟨m1, hm1⟩ : ∃ m1 : Nat, m1 = 20000 + b2 := ⟨_, rfl⟩
    obtain ⟨m, hm⟩ : ∃ m : Nat, m = m1 - n := ⟨_, rfl⟩
    have t1 : (v1 : Int).tmod 2 = (b2 : Int) := by rw [Int.tmod_eq_emod_of_nonneg (by omega)]; omega
    have t2 : (20000 : Int) + (b2 : Int) = (m1 : Int) := by omega
    have t3 : (m1 : Int) - (n : Int) = (m : Int) := by omega
    have hbb : b2 ≤ 1 := by omega
    have hmm : m1 ≤ 20001 := by omega
    have hm0 : 0 < m := by omega
    have hmb : m ≤ 20001 := by omega
    have HT : Hid (spT bs top i = top ∧ spW bs ws i = ws ++ List.replicate m 0) := by
      unfold Hid spT spW; rw [HK.out, HV1.out, HLW.out]
      have e : (20000 + (v1 : Int) % 2 - (n : Int)).toNat = m := by omega
      rw [e]; simp
    clear hb2 hm1 hm
    go_wp2_with (at_builtin; refine appZ0_law w2 rfl (.tmp 52) (.tmp 59) rfl g n c ws m (by simp [Act.eval]) (by simp [Act.eval]) HF2.out hm0 (by omega) ?_; intro g' cap' w5 hf5 hg5 hor5; have HF5 := Hid.mk' hf5; have HG5 := Hid.mk' hg5; have HOR5 := Hid.mk' hor5; have hB5 : w5.heap[w.heap.size]? = some (.cells #[.slice (some ⟨g, 0, none⟩) n c, .int .i64 top] 25) := (hg5.block w.heap.size (by omega) (by simp; omega)).trans HHV2.out; have hR5 : w5.heap[w.heap.size + 1]? = some (.cells #[.slice none 0 0, .int .i64 0] 25) := (hg5.block (w.heap.size + 1) hs2l (by simp; omega)).trans HRV2.out; obtain ⟨p0, p1, pf0, pf1⟩ := two_cells hB5; obtain ⟨q0, q1, qf0, qf1⟩ := two_cells hR5; clear hf5 hg5 hor5 hB5 hR5)
    have hgne : g' ≠ w.heap.size ∧ g' ≠ w.heap.size + 1 := by
      rcases HOR5.out with h | h
      · exact ⟨by omega, by omega⟩
      · exact ⟨by omega, by omega⟩
    have HK5 : KpZ rb g w w5 := by
      have hg := HG5.out
      exact ⟨hg.os.trans HKW.out.os, hg.tape.trans HKW.out.tape, hg.output.trans HKW.out.output, Nat.le_trans HKW.out.size hg.size, fun q hq e1 e2 => (hg.block q (Nat.lt_of_lt_of_le hq HKW.out.size) (fun e => e2 (Option.some.inj e))).trans (HKW.out.block q hq e1 e2)⟩
    refine bodyPost_ret (v := .agg #[.slice (some ⟨g', 0, none⟩) (n + m) cap', .int .i64 top]) (by simp [results, Tryd.results17, go_sem, q0, q1]) rfl ⟨⟨g', n + m, cap', by rw [HT.out.1], ?_⟩, ((HK5.set _ (by simp)).set _ (by simp)).set _ (by simp)⟩
    rw [HT.out.2]
    exact ((HF5.out.setOther (by simp; omega) _).setOther (by simp; omega) _).setOther (by simp; omega) _
end Go.Proofs.YtmmkpmgidoelpaaDoor.Hp
