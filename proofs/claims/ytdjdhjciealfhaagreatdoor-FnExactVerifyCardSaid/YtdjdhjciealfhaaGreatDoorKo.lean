import Derived.Test.YtdjdhjciealfhaaGreatDoorKw
namespace Go.Proofs.YtdjdhjciealfhaaGreatDoor
open Go.RowKit Go.Shelf Ch1
attribute [local go_sem] Oper.semAt_some
namespace Vf
/-- Left without a panic. -/
def noPanic (Q : Exit → Act → World → Prop) : Exit → Act → World → Prop
  | .normal, a, w => Q .normal a w
  | .ret, a, w => Q .ret a w
  | .exit i, a, w => Q (.exit i) a w
  | .goto t, a, w => Q (.goto t) a w
  | .panic _, _, _ => False
  | .outgrown, _, _ => False
theorem noPanic_le {Q : Exit → Act → World → Prop} : ∀ e a w, noPanic Q e a w → Q e a w
  | .normal, _, _, h => h
  | .ret, _, _, h => h
  | .exit _, _, _, h => h
  | .goto _, _, _, h => h
  | .panic _, _, _, h => h.elim
  | .outgrown, _, _, h => h.elim
/-- What statesOf answers. -/
def SoP (m : Md) (f : Fn) (dl : Nat) (w w' : World) (e : Ending) : Prop := Below w.heap.size w w' ∧ ((∃ σ S, w.heap.size ≤ S ∧ e = .returned (.tuple #[.slice (some ⟨S, 0, none⟩) dl dl, .bool true]) ∧ Sp w' dl S σ ∧ Least m f σ ∧ AskS m f σ) ∨ (¬ Safe m f ∧ e = .returned (.tuple #[.slice none 0 0, .bool false])))
theorem Sp.run {W : World} {n S : Nat} {σ : States} (h : Sp W n S σ) {k : Nat} (hk : k < n) (r : Option (List Nat)) : (storeCells ⟨S, k * 202, none⟩ (stO r)).run Tryz.prog W = .ok () (W.setCells S (k * 202) (stO r)) := by
  have ht := h.there hk
  have := run_storeCells_cells (P := Tryz.prog) S (k * 202) (stO r) 0 W (fun j hj => by rw [stO_len] at hj; exact (ht j hj).1) (fun j hj => by rw [stO_len] at hj; exact (ht j hj).2) (stO_one r)
  exact this
theorem first_st {f : Fn} {n : Nat} (h : f.params = (n : Int)) : stG true n (fun i => if i < n then 255 else 0) = stO (some (first f)) := by
  show _ = stG true (first f).length (fun i => (first f).getD i 0)
  have e : first f = List.replicate n 255 := by unfold first; rw [h]; rfl
  rw [e, List.length_replicate]
  exact stG_congr (fun i _ => by
    by_cases hi : i < n
    · rw [if_pos hi, getD_rep n 255 i hi]
    · rw [if_neg hi, getD_none (by simp; omega)])
set_option maxHeartbeats 1000000 in
theorem all_c (Lb : Nat) (w : World) : Calls Tryz.prog 45 #[.pointer (some ⟨Lb, 0, none⟩)] w fun e w' => e = .returned (.func (.func 71) #[] #[.pointer (some ⟨w.heap.size, 0, none⟩)]) ∧ w' = w.alloc (.cells #[.pointer (some ⟨Lb, 0, none⟩)] 125) := by
  go_enter Tryz.func45, Tryz.ntmps45
  go_wp2
  go_ret
  exact ⟨rfl, rfl⟩
/-- The first state alone. -/
def fst1 (f : Fn) : States := fun j => if j = 0 then some (first f) else none
theorem hd_first {m : Md} {f : Fn} {n pn : Nat} {xs : List Nat} (h0 : 0 < n) (hp : f.params = (pn : Int)) (hp2 : pn ≤ 20) (hx : ∀ y, y ∈ xs ↔ y = 0 ∨ y ∈ ([] : List Nat)) (hs : xs.Pairwise (· < ·)) : Hd m f n (ms n (fst1 f) xs) (fst1 f) xs := by
  have hfst : first f = List.replicate pn 255 := by unfold first; rw [hp]; rfl
  have hgs : GoodS (first f) := fun v hv => by rw [hfst] at hv; rw [List.eq_of_mem_replicate hv]; exact ⟨by decide, by decide⟩
  have hnd : xs.Nodup := hs.imp (fun h => Nat.ne_of_lt h)
  have hxs : ∀ y ∈ xs, y = 0 := fun y hy => by rcases (hx y).1 hy with h | h; exact h; cases h
  refine ⟨⟨fun k s _ hk => ?_, fun τ hτ k s _ hk => ?_, first f, by simp [fst1], Le.refl _⟩, fun y hy => ?_, fun y _ hy => ?_, Nat.le_refl _, nodup_len hnd (fun y hy => by rw [hxs y hy]; exact h0), hnd⟩
  · by_cases hk0 : k = 0
    · unfold fst1 at hk
      rw [if_pos hk0] at hk
      cases hk
      exact ⟨hgs, by rw [hfst, List.length_replicate]; omega⟩
    · unfold fst1 at hk; rw [if_neg hk0] at hk; cases hk
  · by_cases hk0 : k = 0
    · unfold fst1 at hk
      rw [if_pos hk0] at hk
      cases hk
      rw [hk0]
      exact hτ.start
    · unfold fst1 at hk; rw [if_neg hk0] at hk; cases hk
  · rw [hxs y hy]
    exact ⟨h0, by simp [fst1]⟩
  · have hy0 : y ≠ 0 := fun e => hy ((hx y).2 (Or.inl e))
    have e : fst1 f y = none := by unfold fst1; rw [if_neg hy0]
    exact ⟨fun s hs => (by rw [e] at hs; cases hs), fun s hs => (by rw [e] at hs; cases hs)⟩
set_option maxRecDepth 20000 in
set_option maxHeartbeats 16000000 in
theorem statesOf_c (cp : Option Addr) (cn cc : Nat) (g : Int) (fp : Option Addr) (fn fc : Nat) (rp : Option Addr) (rl rc : Nat) (dp : Option Addr) (dl dc : Nat) (m : Md) (f : Fn) (w : World) (h : SoAt w cp cn cc fp fn fc rp rl rc dp dl dc m f) :
    Calls Tryz.prog 20 #[.agg #[.slice cp cn cc, .int .i64 g, .slice fp fn fc], .agg #[.int .i64 f.params, .slice rp rl rc, .slice dp dl dc]] w fun e w' => SoP m f dl w w' e := by
  have HH := mkD h
  have hd0 := h.d0
  have hd1 := h.d1
  have hcap := small_of h.co.cap h.co.big
  obtain ⟨pn, hpn⟩ := Int.eq_ofNat_of_zero_le h.p0
  have hp20 : pn ≤ 20 := by have := h.p1; omega
  have HPN := mkD hpn
  rw [hpn]
  obtain ⟨ii, hi1, hpr⟩ := Option.map_eq_some_iff.1 infoSt
  simp only [Prod.mk.injEq] at hpr
  have HI : Hid (Tryz.prog.info? 90 = some ii ∧ ii.zero = some (.agg Tryz.zeroCells90) ∧ ii.size = 202 ∧ ii.bytes = 416) := ⟨hi1, hpr.1, hpr.2.1, hpr.2.2⟩
  obtain ⟨W, hW⟩ : ∃ W, W = (((w.alloc (.cells #[.slice cp cn cc, .int .i64 g, .slice fp fn fc] 33)).alloc (.cells #[.int .i64 (pn : Int), .slice rp rl rc, .slice dp dl dc] 48)).alloc (.cells #[.slice none 0 0] 51)).alloc (.cells #[.bool false] 4) := ⟨_, rfl⟩
  have HBW : Hid (Below w.heap.size w W) := by unfold Hid; rw [hW]; exact below4 w _ _ _ _
  have hWs : W.heap.size = w.heap.size + 1 + 1 + 1 + 1 := by rw [hW]; simp
  clear h hpn hi1 hpr
  refine (callsIn_wide (n := 10)).1 ?_
  refine callsIn_of_wp_marks Tryz.func20 rfl trivial ?_ rfl
  simp only [Tryz.ntmps20, List.size_toArray, List.length_cons, List.length_nil, Nat.reduceAdd, Nat.reduceSub, Array.replicate_succ, Array.replicate_zero, List.push_toArray, List.append_toArray, List.nil_append, List.cons_append]
  refine wpIn_mono (Q := noPanic _) ?_ noPanic_le
  rw [wpIn_wide]
  go_wp2_with (at_make; rw [← hW]; refine wpList_make_full _ rfl (.tmp 17) (.tmp 17) 51 rfl W.heap.size 90 ii _ 202 Tryz.underlying51 HI.out.1 HI.out.2.1 HI.out.2.2.1 .i64 .i64 dl dl dl (by simp [Act.eval]) (by simp [Act.eval]) rfl rfl (by rw [HI.out.2.2.2]; omega) (by unfold maxLen; omega) (Nat.le_refl _) ?_; intro w0 ho hg; have HS0 : Hid (Sp w0 dl W.heap.size (fun _ => none)) := Sp.made ho; have HB0 : Hid (Below W.heap.size W w0) := (Below.refl _ W).grown hg (Nat.le_refl _) (fun k h => by cases h); clear ho hg)
  obtain ⟨Vb, hVb⟩ : ∃ Vb, Vb = w0.heap.size := ⟨_, rfl⟩
  obtain ⟨w1, hw1⟩ : ∃ w1, w1 = w0.alloc (.cells #[.slice (some ⟨w.heap.size + 1 + 1 + 1 + 1, 0, none⟩) dl dl] 51) := ⟨_, rfl⟩
  rw [← hw1, ← hVb]
  have HB1 : Hid (Below W.heap.size W w1) := by unfold Hid; rw [hw1]; exact HB0.out.trans ((below1 _ _).mono HB0.out.size)
  have HS1 : Hid (Sp w1 dl (w.heap.size + 1 + 1 + 1 + 1) (fun _ => none)) := by unfold Hid; rw [hw1, ← hWs]; exact HS0.out.below (below1 _ _)
  have HV1 : Hid (w1.heap[Vb]? = some (.cells #[.slice (some ⟨w.heap.size + 1 + 1 + 1 + 1, 0, none⟩) dl dl] 51)) := by unfold Hid; rw [hw1, hVb]; exact Go.Deep.blk_alloc_new _ _
  have HVN : Hid (Vb ≠ w.heap.size + 1 + 1 + 1 + 1) := by have h1 := HS0.out.lt; unfold Hid; rw [hVb]; omega
  have HW4 : Hid (W.heap[w.heap.size]? = some (.cells #[.slice cp cn cc, .int .i64 g, .slice fp fn fc] 33) ∧ W.heap[w.heap.size + 1]? = some (.cells #[.int .i64 (pn : Int), .slice rp rl rc, .slice dp dl dc] 48) ∧ W.heap[w.heap.size + 1 + 1]? = some (.cells #[.slice none 0 0] 51) ∧ W.heap[w.heap.size + 1 + 1 + 1]? = some (.cells #[.bool false] 4)) := by
    unfold Hid
    rw [hW]
    refine ⟨?_, ?_, ?_, ?_⟩
    · rw [(below1 _ _).block _ (by simp; try omega), (below1 _ _).block _ (by simp; try omega), (below1 _ _).block _ (by simp), Go.Deep.blk_alloc_new]
    · rw [(below1 _ _).block _ (by simp; try omega), (below1 _ _).block _ (by simp)]
      have := Go.Deep.blk_alloc_new (w.alloc (.cells #[.slice cp cn cc, .int .i64 g, .slice fp fn fc] 33)) (.cells #[.int .i64 (pn : Int), .slice rp rl rc, .slice dp dl dc] 48)
      rwa [World.size_alloc] at this
    · rw [(below1 _ _).block _ (by simp)]
      have := Go.Deep.blk_alloc_new ((w.alloc (.cells #[.slice cp cn cc, .int .i64 g, .slice fp fn fc] 33)).alloc (.cells #[.int .i64 (pn : Int), .slice rp rl rc, .slice dp dl dc] 48)) (.cells #[.slice none 0 0] 51)
      rwa [World.size_alloc, World.size_alloc] at this
    · have := Go.Deep.blk_alloc_new (((w.alloc (.cells #[.slice cp cn cc, .int .i64 g, .slice fp fn fc] 33)).alloc (.cells #[.int .i64 (pn : Int), .slice rp rl rc, .slice dp dl dc] 48)).alloc (.cells #[.slice none 0 0] 51)) (.cells #[.bool false] 4)
      rwa [World.size_alloc, World.size_alloc, World.size_alloc] at this
  have y0 := cell_at HV1.out (i := 0) rfl
  obtain ⟨z0, z1, z2, _, _, _⟩ := cells3 ((HB1.out.block (w.heap.size + 1) (by omega)).trans HW4.out.2.1)
  have HFS := mkD (firstState_c pn rp rl rc dp dl dc w1.drew hp20)
  rw [first_st HPN.out] at HFS
  obtain ⟨A, hA⟩ : ∃ A, A = stO (some (first f)) := ⟨_, rfl⟩
  rw [← hA] at HFS
  have HA := mkD hA
  have hAl : A.length = 202 := by rw [hA]; exact stO_len _
  have hV1l : Vb < w1.heap.size := (Array.getElem?_eq_some_iff.1 HV1.out).1
  clear hW hw1 hVb hA HS0 HB0
  have hmix := laysIn.mixed
  have hw1s : w.heap.size ≤ w1.heap.size := by have := HB1.out.size; omega
  have HBw1 : Hid (Below w.heap.size w w1) := HBW.out.trans (HB1.out.mono (by omega))
  go_cut [] from 19 to 23 (fun wc => Sp wc dl (w.heap.size + 1 + 1 + 1 + 1) (fst1 f) ∧ KT (w.heap.size + 1 + 1 + 1 + 1) w1 wc ∧ Below w.heap.size w wc)
  case first =>
    refine (wpIn_wide (n := 10)).1 ?_
    gi_region_with_o (refine ⟨trivial, ?_⟩; refine (callsIn_wide.2 HFS.out).mono ?_; rintro e w2 ⟨rfl, hb2⟩; have HB2 : Hid (Below w1.heap.size w1 w2) := (below_drewM (Below.refl _ _)).trans hb2; have y2 := cell_keepD HB2.out hV1l y0; have hst : Sem.run Tryz.prog (storeCells ⟨w.heap.size + 1 + 1 + 1 + 1, 0, none⟩ A) w2 = .ok () (w2.setCells (w.heap.size + 1 + 1 + 1 + 1) 0 A) := (by have h1 := Sp.run (HS1.out.below HB2.out) hd0 (some (first f)); rw [Nat.zero_mul, ← HA.out] at h1; exact h1); clear hb2)
    all_goals
      go_wp2_with fail
      go_meet
      refine ⟨?_, (KT.below HB2.out).trans (KT.set _ _ _ _), Below.setCells (by omega) _ _ _ (HBw1.out.trans (HB2.out.mono hw1s))⟩
      have h1 := Sp.store (HS1.out.below HB2.out) hd0 (some (first f))
      rw [Nat.zero_mul, ← HA.out] at h1
      exact h1
  case rest =>
    obtain ⟨hSc, hKc, hBc⟩ := hcut
    clear HFS HA hAl A
    have HSc := mkD hSc
    have HKc := mkD hKc
    have HBc := mkD hBc
    have hcs : w.heap.size ≤ wc.heap.size := hBc.size
    have HWL : Hid (Wl (wc.alloc (.cells #[.slice none 0 0] 93)) w.heap.size wc.heap.size (.slice none 0 0) []) := ⟨Go.Deep.blk_alloc_new _ _, ⟨rfl, Or.inl ⟨rfl, rfl⟩⟩, List.Pairwise.nil⟩
    have HAD := mkD (add_c w.heap.size wc.heap.size (.slice none 0 0) [] 0 _ HWL.out (by simp) (by simp; omega))
    clear hSc hKc hBc
    go_wp2_with fail
    refine HAD.out.mono ?_
    rintro e w3 ⟨⟨u, rfl⟩, v', xs', hwl, hmem, hlen, hwf, hbel, _⟩
    have HWL3 := mkD hwl
    have HMEM := mkD hmem
    have HWF := mkD hwf
    have HBE : Hid (Below w.heap.size w w3) := HBc.out.trans (((below1 wc _).mono hcs).trans (hbel w.heap.size (Nat.le_refl _) hcs))
    have HALL := mkD (all_c wc.heap.size w3)
    clear hwl hmem hlen hwf hbel HAD
    go_wp2_with fail
    refine HALL.out.mono ?_
    rintro e w4 ⟨rfl, hw4⟩
    have HW4E := mkD hw4
    clear HALL hw4
    go_wp2_with fail
    have hw4 := HW4E.out
    have HF4 : Hid (Fx w w4 dl wc.heap.size w3.heap.size Vb #[.slice cp cn cc, .int .i64 g, .slice fp fn fc] #[.int .i64 (pn : Int), .slice rp rl rc, .slice dp dl dc]) := by
      have k1 : KT (w.heap.size + 1 + 1 + 1 + 1) w1 w4 := by
        rw [hw4]
        exact ((HKc.out.trans (KT.below (below1 _ _))).trans (KT.wf HWL.out HWF.out)).trans (KT.below (below1 _ _))
      have k2 : ∀ k a t, W.heap[k]? = some (.cells a t) → k ≠ w.heap.size + 1 + 1 + 1 + 1 → t ≠ 3 → t ≠ 93 → w4.heap[k]? = some (.cells a t) := fun k a t hk h1 h2 h3 => k1 k a t ((HB1.out.block k (Array.getElem?_eq_some_iff.1 hk).1).trans hk) h1 h2 h3
      refine ⟨k2 _ _ _ HW4.out.1 (by omega) (by decide) (by decide), k2 _ _ _ HW4.out.2.1 (by omega) (by decide) (by decide), k2 _ _ _ HW4.out.2.2.1 (by omega) (by decide) (by decide), k2 _ _ _ HW4.out.2.2.2 (by omega) (by decide) (by decide), k1 _ _ _ HV1.out HVN.out (by decide) (by decide), by rw [hw4]; exact Go.Deep.blk_alloc_new _ _, by rw [hw4]; exact HBE.out.trans ((below1 _ _).mono HBE.out.size), hcs, ?_, HVN.out⟩
      have h1 := HSc.out.lt
      have h2 := HWL3.out.lt
      omega
    have HS4 : Hid (Sp w4 dl (w.heap.size + 1 + 1 + 1 + 1) (fst1 f)) := by
      have h1 := HSc.out.below (below1 wc (.cells #[.slice none 0 0] 93))
      have h2 : w3.heap[w.heap.size + 1 + 1 + 1 + 1]? = (wc.alloc (.cells #[.slice none 0 0] 93)).heap[w.heap.size + 1 + 1 + 1 + 1]? := HWF.out _ h1.lt (by have := HSc.out.lt; omega) (fun e => by cases e)
      rw [hw4]
      exact (h1.keep h2).below (below1 _ _)
    have HWL4 : Hid (Wl w4 w.heap.size wc.heap.size v' xs') := by unfold Hid; rw [hw4]; exact HWL3.out.below (below1 _ _)
    have HDL : Hid (f.code.length = dl) := HH.out.co.len
    have hw4s : w.heap.size ≤ w4.heap.size := HF4.out.bel.size
    have HI0 : Hid (IH w m f dl wc.heap.size w3.heap.size Vb #[.slice cp cn cc, .int .i64 g, .slice fp fn fc] #[.int .i64 (pn : Int), .slice rp rl rc, .slice dp dl dc] (ms dl (fst1 f) xs') w4) := ⟨fst1 f, v', xs', HF4.out, HS4.out, HWL4.out, hd_first hd0 HPN.out hp20 HMEM.out HWL4.out.srt⟩
    clear hw4
    refine (wpIn_wide (n := 10)).1 (wpIn_rangeAll (n := 10) rfl rfl (IH w m f dl wc.heap.size w3.heap.size Vb #[.slice cp cn cc, .int .i64 g, .slice fp fn fc] #[.int .i64 (pn : Int), .slice rp rl rc, .slice dp dl dc]) (IPp w m f dl wc.heap.size w3.heap.size Vb #[.slice cp cn cc, .int .i64 g, .slice fp fn fc] #[.int .i64 (pn : Int), .slice rp rl rc, .slice dp dl dc]) (IXx w m f) (IEe w m f dl wc.heap.size w3.heap.size Vb #[.slice cp cn cc, .int .i64 g, .slice fp fn fc] #[.int .i64 (pn : Int), .slice rp rl rc, .slice dp dl dc]) (IH.own hw4s) (IPp.own hw4s) (IXx.own hw4s) (IEe.own hw4s) (IH.al HDL.out) HI0.out 25 8 ?assign ?body ?done ?stop)
    case assign =>
      intro l x W5 K hK
      simp only [actOf] at hK
      gi_wp2
      exact hK
    case body =>
      intro l M x W5 hl hrec hIp
      obtain ⟨σ, v, r, s, hF, hS, hWl, hR, hs, hx⟩ := hIp
      have HF := mkD hF
      have HS := mkD hS
      have HWl := mkD hWl
      have HR := mkD hR
      have HSI := mkD hs
      have HREC := mkD hrec
      have hgs := hR.pg.good x s (by rw [HDL.out]; exact hx) hs
      have HGS := mkD hgs
      obtain ⟨cb, co, hdp, _, _⟩ := HH.out.co.cells hd0
      subst hdp
      clear hF hS hWl hR hs hrec hgs
      simp only [actOf, List.setIfInBounds_toArray, List.set_cons_succ, List.set_cons_zero]
      gi_wp2
      refine reg7k l 8 w.heap.size (w.heap.size + 1) cb co (w.heap.size + 1 + 1 + 1 + 1) Vb x cp cn cc g fp fn fc (pn : Int) rp rl rc dl dc m f σ s HH.out HF.out.bel rfl rfl rfl rfl rfl hx HF.out.mb HF.out.fb HF.out.sb HS.out HSI.out HGS.out.1 HGS.out.2 ?_
      intro R b Mb wf hMd hBf hMb hRb
      have HMD := mkD hMd
      have HBF := mkD hBf
      have HRB := mkD hRb
      have HFf := mkD (HF.out.below hBf)
      clear hMd hBf hRb
      simp only [fr7, Act.put, List.setIfInBounds_toArray, List.set_cons_succ, List.set_cons_zero]
      cases b
      · have r0 := cell_at HFf.out.r0 (i := 0) rfl
        have r1 := cell_at HFf.out.r1 (i := 0) rfl
        have f0 : wf.frozen? ⟨w.heap.size + 1 + 1, 0, none⟩ = false := by simp [World.frozen?, HFf.out.r0]
        have f1 : wf.frozen? ⟨w.heap.size + 1 + 1 + 1, 0, none⟩ = false := by simp [World.frozen?, HFf.out.r1]
        have HNS : Hid (¬ Safe m f) := HR.out.pg.unsafe_ (by rw [HDL.out]; exact hx) HGS.out.1 (fun τ hτ => HR.out.pg.le τ hτ x s (by rw [HDL.out]; exact hx) HSI.out) (fun hh => by have h1 := HMD.out.1.2 hh; cases h1)
        gi_wp2
        refine ⟨(((KeepsOthers.below HBF.out).trans (Go.KeepsOthers.setCell _ _ _)).trans (Go.KeepsOthers.setCell _ _ _)).from _, rfl, HNS.out, ?_, ?_, ((HFf.out.bel.setCell (by simp only; omega) _).setCell (by simp only; omega) _)⟩
        · rw [Below.heap_setCell _ _ _ _ (by simp only; omega)]
          simp [World.setCell, Array.getElem?_modify, HFf.out.r0]
        · have h1 : (wf.setCell ⟨w.heap.size + 1 + 1, 0, none⟩ (.slice none 0 0)).heap[w.heap.size + 1 + 1 + 1]? = some (.cells #[.bool false] 4) := by rw [Below.heap_setCell _ _ _ _ (by simp only; omega)]; exact HFf.out.r1
          generalize wf.setCell ⟨w.heap.size + 1 + 1, 0, none⟩ (.slice none 0 0) = V at h1 ⊢
          simp [World.setCell, Array.getElem?_modify, h1]
      · obtain ⟨hfit, hask⟩ := HMD.out.1.1 rfl
        have HFIT := mkD hfit
        have HASK := mkD hask
        have HRE := mkD (HMD.out.2 rfl)
        obtain ⟨z0, z1, z2, _, _, _⟩ := cells3 HFf.out.fb
        have HIO := mkD (HH.out.ok x hx)
        obtain ⟨jo, hjo⟩ := Int.eq_ofNat_of_zero_le HIO.out.1
        have hj18 : jo < 18 := by have := HIO.out.2.1; omega
        have HJO := mkD hjo
        have HWO := mkD (waysOn_c (some ⟨cb, co, none⟩) dl dc x f.code wf (HH.out.co.below HFf.out.bel) hx jo hjo hj18 (HH.out.tb.below HFf.out.bel))
        clear hfit hask hjo HMD
        gi_wp2_with (refine ⟨trivial, ?_⟩; gi_at_call 47; refine (CallsIn.inRound l (callsIn_wide.2 HWO.out)).mono ?_; rintro e w7 ⟨rfl, hwy, hb7, hsz7⟩; have HWY := mkD hwy; have HB7 := mkD hb7; have HSZ := mkD hsz7; clear hwy hb7 hsz7 z0 z1 z2)
        obtain ⟨rr, hrr⟩ := HREC.out
        have hlr : l < W5.heap.size := (Array.getElem?_eq_some_iff.1 hrr).1
        have hr7 : w7.heap[l]? = some (.loop rr) := (HB7.out.block l (Nat.lt_of_lt_of_le hlr HBF.out.size)).trans ((HBF.out.block l hlr).trans hrr)
        obtain ⟨ka, hka⟩ := Int.eq_ofNat_of_zero_le (show 0 ≤ (f.code.getD x in0).a by rcases HIO.out.2.2 with h | h <;> omega)
        have HF7 := mkD (HFf.out.below HB7.out)
        have HC7 : Hid (w7.cell? ⟨cb, co + x * 3 + 1, none⟩ = some (.int .i64 (ka : Nat))) := by
          obtain ⟨cb', co', e, _, hcc⟩ := (HH.out.co.below HF7.out.bel).cells hd0
          cases e
          have h1 := (hcc x hx).2.1
          rw [hka] at h1
          exact h1
        have hw57 : W5.heap.size ≤ w7.heap.size := Nat.le_trans HBF.out.size HB7.out.size
        have HBW7 : Hid (Below W5.heap.size W5 w7) := HBF.out.trans (HB7.out.mono HBF.out.size)
        have HKA := mkD hka
        have HST : Hid (∀ τ, OkS m f τ → ∃ t, τ x = some t ∧ Le s t) := fun τ hτ => HR.out.pg.le τ hτ x s (by rw [HDL.out]; exact hx) HSI.out
        have h07 : INn w W5 m f dl wc.heap.size w3.heap.size Vb #[.slice cp cn cc, .int .i64 g, .slice fp fn fc] #[.int .i64 (pn : Int), .slice rp rl rc, .slice (some ⟨cb, co, none⟩) dl dc] x M w4.heap.size wf.heap.size Mb s R [] w7 := ⟨σ, v, r, HF7.out, HS.out.below HBW7.out, HWl.out.below HBW7.out, HR.out, (HB7.out.block Mb (Array.getElem?_eq_some_iff.1 HRB.out).1).trans HRB.out, fun k hk => Or.inl (Nat.lt_of_lt_of_le (owns_lt HWl.out.own k hk).1 HBF.out.size), by rw [HSZ.out]; exact Nat.le_refl _, (KeepsOthers.below HBW7.out).from _⟩
        refine wpIn_rangeWays (l₀ := l) hr7 (by omega) rfl (enters_of Tryz.func77 (by kernel_rfl) rfl) (ways1_stops 7 wf.heap.size cb co dl dc x jo ka (f.code.getD x in0) w7 HWY.out HJO.out hka hx (by omega) HC7.out) rfl (fun pre => INn w W5 m f dl wc.heap.size w3.heap.size Vb #[.slice cp cn cc, .int .i64 g, .slice fp fn fc] #[.int .i64 (pn : Int), .slice rp rl rc, .slice (some ⟨cb, co, none⟩) dl dc] x M w4.heap.size wf.heap.size Mb s R (pre.map Subtype.val)) (fun c _ W => IXx w m f c W ∧ KeepsFrom w4.heap.size W5 W) (INn.own Subtype.val (by have := HF7.out.bel.size; exact this) hw57) (fun c => IXn.own (by have := HF7.out.bel.size; exact this) hw57 c) h07 47 11 ?assign2 ?body2 ?done2 ?stop2
        case assign2 =>
          intro l2 y W8 K hK
          simp only [actOf] at hK
          gi_wp2
          exact hK
        case body2 =>
          intro l2 pre y0 W8 hl2 hI8
          obtain ⟨y, hy⟩ := y0
          obtain ⟨σ8, v8, xs8, hF8, hS8, hW8, hR8, hM8, ho8, hz8, hk8⟩ := hI8
          have HF8 := mkD hF8
          have HS8 := mkD hS8
          have HW8 := mkD hW8
          have HR8 := mkD hR8
          have HM8 := mkD hM8
          have HO8 := mkD ho8
          have HK8 := mkD hk8
          have HY := mkD hy
          have hyl : y ≤ dl := by have h1 := nexts_le HIO.out (by rw [HDL.out]; exact hx) hy; rw [HDL.out] at h1; exact h1
          obtain ⟨z0, z1, z2, _, _, _⟩ := cells3 HF8.out.fb
          clear hF8 hS8 hW8 hR8 hM8 ho8 hk8
          simp only [actOf, List.setIfInBounds_toArray, List.set_cons_succ, List.set_cons_zero]
          by_cases hyd : y = dl
          · have be : ((y : Int) == (dl : Int)) = true := by simp; omega
            have r0 := cell_at HF8.out.r0 (i := 0) rfl
            have r1 := cell_at HF8.out.r1 (i := 0) rfl
            have f0 : W8.frozen? ⟨w.heap.size + 1 + 1, 0, none⟩ = false := by simp [World.frozen?, HF8.out.r0]
            have f1 : W8.frozen? ⟨w.heap.size + 1 + 1 + 1, 0, none⟩ = false := by simp [World.frozen?, HF8.out.r1]
            have HNS : Hid (¬ Safe m f) := fun hsf => by
              obtain ⟨τ, hτ, _⟩ := hsf
              refine HR8.out.pg.none_ (by rw [HDL.out]; exact hx) HGS.out.1 HST.out (fun hh => ?_) ⟨τ, hτ⟩
              have h1 := (hh.2 y HY.out).1
              rw [HDL.out] at h1
              omega
            gi_wp2
            have hfx := fail_ix (B0 := w4.heap.size) (W5 := W5) HF8.out HNS.out HK8.out
            exact ⟨hfx.2.2.from _, hfx.1, hfx.2.1⟩
          · have be : ((y : Int) == (dl : Int)) = false := by simp; omega
            have hylt : y < dl := by omega
            have v0 := cell_at HF8.out.sb (i := 0) rfl
            obtain ⟨A8, hA8⟩ : ∃ A8, A8 = stO (σ8 y) := ⟨_, rfl⟩
            have HA8 := mkD hA8
            have hA8l : A8.length = 202 := by rw [hA8]; exact stO_len _
            have HA81 : Hid (∀ v ∈ A8, v.oneCell' = true) := by unfold Hid; rw [hA8]; exact stO_one _
            have hrg : W8.rangeAt (w.heap.size + 1 + 1 + 1 + 1) (y * 202) A8 := by rw [hA8]; exact HS8.out.range hylt
            have hz9 : (Tryz.prog.info? 90).map (·.size) = some A8.length := by rw [hA8]; exact sizeO _
            have HRG := mkD hrg
            have HZ9 := mkD hz9
            clear hA8 hrg hz9
            gi_wp2
            refine op_round l2 _ (fun c h => by cases h) (wp_load_mid 90 (.tmp 55) rfl (w.heap.size + 1 + 1 + 1 + 1) (y * 202) rfl A8 _ HRG.out Tryz.underlying90 rfl HZ9.out ?_)
            gi_wp2
            have HZ8 := mkD (Go.Deep.blk_alloc_new W8 (.cells Tryz.zeroCells90 90))
            rw [run_putL HZ8.out (by rw [zeroS]; simp [stG_len]) hA8l HA81.out]
            obtain ⟨W9, hW9⟩ : ∃ W9, W9 = (W8.alloc (.cells Tryz.zeroCells90 90)).setCells W8.heap.size 0 A8 := ⟨_, rfl⟩
            rw [← hW9]
            have HB9 : Hid (Below W8.heap.size W8 W9) := by unfold Hid; rw [hW9]; exact Below.setCells (Nat.le_refl _) _ _ _ (below1 _ _)
            have HA9 : Hid (W9.heap[W8.heap.size]? = some (.cells A8.toArray 90)) := by unfold Hid; rw [hW9]; exact blk_put HZ8.out (by rw [zeroS]; simp [stG_len]) hA8l
            have HM9 := mkD ((HB9.out.block Mb (Array.getElem?_eq_some_iff.1 HM8.out).1).trans HM8.out)
            clear hW9 HZ8
            have hRl : R.length = 202 := by rw [HRE.out]; exact stG_len _ _ _
            have HRZ : Hid ((Tryz.prog.info? 90).map (·.size) = some R.length) := by unfold Hid; rw [HRE.out]; exact sizeS _ _ _
            obtain ⟨o, ho⟩ : ∃ o, o = outOf m f (f.code.getD x in0) s := ⟨_, rfl⟩
            have HOE := mkD ho
            have HRO : Hid (R = stL o) := by unfold Hid; rw [ho]; exact HRE.out
            have HGO : Hid (GoodS o ∧ o.length ≤ 200) := by unfold Hid; rw [ho]; exact ⟨good_out HGS.out.1 HFIT.out, HFIT.out.2.2⟩
            have HG8 : Hid ((∀ i, kT (σ8 y) i < 512) ∧ kC (σ8 y) ≤ 200) := by
              unfold Hid
              cases hq : σ8 y with
              | none => exact ⟨fun i => by simp [kT], by simp [kC]⟩
              | some q =>
                have h1 := HR8.out.pg.good y q (by rw [HDL.out]; exact hylt) hq
                exact ⟨fun i => h1.1.lt i, h1.2⟩
            have HJC := mkD (joined_c (kR (σ8 y)) (kC (σ8 y)) (kT (σ8 y)) true o.length (fun i => o.getD i 0) W9 HG8.out.2 HGO.out.2 HG8.out.1 (fun i => HGO.out.1.lt i))
            rw [← stO_eq, ← HA8.out, show stG true o.length (fun i => o.getD i 0) = R from HRO.out.symm] at HJC
            clear ho
            gi_wp2
            refine op_round l2 _ (fun c h => by cases h) (wp_load_mid 90 (.tmp 12) rfl W8.heap.size 0 rfl A8 _ (blk_range HA9.out) Tryz.underlying90 rfl HZ9.out ?_)
            gi_wp2
            refine op_round l2 _ (fun c h => by cases h) (wp_load_mid 90 (.tmp 9) rfl Mb 0 rfl R _ (blk_range HM9.out) Tryz.underlying90 rfl HRZ.out ?_)
            gi_wp2_with (refine ⟨trivial, ?_⟩; gi_at_call 48; refine (CallsIn.inRound l2 (CallsIn.inRound l (callsIn_wide.2 HJC.out))).mono ?_; rintro e w10 ⟨hb10, r3, c3, t3, b, rfl, hj1, hj2⟩; have HB10 := mkD hb10; have HJ := mkD (join_st hj1 hj2); obtain ⟨A10, hA10⟩ : ∃ A10, A10 = stG r3 c3 t3 := ⟨_, rfl⟩; rw [← hA10]; have HA10 := mkD hA10; have hA10l : A10.length = 202 := (by rw [hA10]; exact stG_len _ _ _); have HA101 : Hid (∀ v ∈ A10, v.oneCell' = true) := (by unfold Hid; rw [hA10]; exact stG_one _ _ _); clear hb10 hj1 hj2 hA10)
            have HZ10 := mkD (Go.Deep.blk_alloc_new w10 (.cells Tryz.zeroCells90 90))
            rw [run_putL HZ10.out (by rw [zeroS]; simp [stG_len]) hA10l HA101.out]
            obtain ⟨W11, hW11⟩ : ∃ W11, W11 = (w10.alloc (.cells Tryz.zeroCells90 90)).setCells w10.heap.size 0 A10 := ⟨_, rfl⟩
            rw [← hW11]
            have HB11 : Hid (Below w10.heap.size w10 W11) := by unfold Hid; rw [hW11]; exact Below.setCells (Nat.le_refl _) _ _ _ (below1 _ _)
            have HJ11 : Hid (W11.heap[w10.heap.size]? = some (.cells A10.toArray 90)) := by unfold Hid; rw [hW11]; exact blk_put HZ10.out (by rw [zeroS]; simp [stG_len]) hA10l
            have HB8 : Hid (Below W8.heap.size W8 W11) := HB9.out.trans ((HB10.out.trans (HB11.out.mono HB10.out.size)).mono HB9.out.size)
            have HA11 : Hid (W11.heap[W8.heap.size]? = some (.cells A8.toArray 90)) := by
              have h1 := (Array.getElem?_eq_some_iff.1 HA9.out).1
              exact ((HB10.out.trans (HB11.out.mono HB10.out.size)).block _ h1).trans HA9.out
            have HF11 := mkD (HF8.out.below HB8.out)
            clear hW11 HZ10 HJC
            cases b
            · have r0 := cell_at HF11.out.r0 (i := 0) rfl
              have r1 := cell_at HF11.out.r1 (i := 0) rfl
              have f0 : W11.frozen? ⟨w.heap.size + 1 + 1, 0, none⟩ = false := by simp [World.frozen?, HF11.out.r0]
              have f1 : W11.frozen? ⟨w.heap.size + 1 + 1 + 1, 0, none⟩ = false := by simp [World.frozen?, HF11.out.r1]
              have HNS : Hid (¬ Safe m f) := fun hsf => by
                obtain ⟨τ, hτ, _⟩ := hsf
                refine HR8.out.pg.none_ (by rw [HDL.out]; exact hx) HGS.out.1 HST.out (fun hh => ?_) ⟨τ, hτ⟩
                obtain ⟨q, hq, hne⟩ := HJ.out.2 rfl
                exact hne (by rw [HOE.out]; exact (hh.2 y HY.out).2 q hq)
              gi_wp2
              have hfx := fail_ix (B0 := w4.heap.size) (W5 := W5) HF11.out HNS.out (HK8.out.trans ((KeepsOthers.below HB8.out).from _))
              exact ⟨((KeepsOthers.below HB8.out).trans hfx.2.2).from _, hfx.1, hfx.2.1⟩
            · obtain ⟨hlen, hAj⟩ := HJ.out.1 rfl
              have HLEN := mkD hlen
              have HAJ : Hid (A10 = stO (some (joinO (σ8 y) o))) := by unfold Hid; rw [HA10.out]; exact hAj
              have HS11 := mkD (HS8.out.below HB8.out)
              have HW11 := mkD (HW8.out.below HB8.out)
              have HM11 := mkD ((HB8.out.block Mb (Array.getElem?_eq_some_iff.1 HM8.out).1).trans HM8.out)
              have k0 : W11.cell? ⟨W8.heap.size, 0, none⟩ = some (.bool (kR (σ8 y))) := cell_at HA11.out (by rw [HA8.out, stO_eq]; rfl)
              have v11 := cell_at HF11.out.sb (i := 0) rfl
              have HZ10 : Hid ((Tryz.prog.info? 90).map (·.size) = some A10.length) := by unfold Hid; rw [HA10.out]; exact sizeS _ _ _
              have HRUN : Hid ((storeCells ⟨w.heap.size + 1 + 1 + 1 + 1, y * 202, none⟩ A10).run Tryz.prog W11 = .ok () (W11.setCells (w.heap.size + 1 + 1 + 1 + 1) (y * 202) A10)) := by
                have h1 := Sp.run HS11.out hylt (some (joinO (σ8 y) o))
                rw [← HAJ.out] at h1
                exact h1
              have HW12 : Hid (Wl (W11.setCells (w.heap.size + 1 + 1 + 1 + 1) (y * 202) A10) w.heap.size wc.heap.size v8 xs8) := by
                obtain ⟨arr, h1, _⟩ := HS11.out
                exact HW11.out.sets h1 _
              have HLB : Hid (wc.heap.size < wf.heap.size) := Nat.lt_of_lt_of_le HWl.out.lt HBF.out.size
              have HSB : Hid (w.heap.size + 1 + 1 + 1 + 1 < wf.heap.size) := Nat.lt_of_lt_of_le HS.out.lt HBF.out.size
              have HCB : Hid (cb < w.heap.size) := by
                obtain ⟨cb', co', e, h1, _⟩ := HH.out.co.cells hd0
                cases e
                exact h1
              have hSW5 := HS.out.lt
              clear hlen hAj z0 z1 z2 v0
              cases hkr : kR (σ8 y)
              · rw [hkr] at k0
                have HNO : Hid (¬ ∃ r, σ8 y = some r ∧ joinL r o = r) := fun ⟨q, hq, _⟩ => by rw [hq] at hkr; cases hkr
                clear hkr
                gi_wp2
                refine op_round l2 _ (fun c h => by cases h) (wp_load_mid 90 (.tmp 13) rfl w10.heap.size 0 rfl A10 _ (blk_range HJ11.out) Tryz.underlying90 rfl HZ10.out ?_)
                gi_wp2
                rw [HRUN.out]
                have HAD := mkD (add_c w.heap.size wc.heap.size v8 xs8 y (W11.setCells (w.heap.size + 1 + 1 + 1 + 1) (y * 202) A10) HW12.out (by have := HR8.out.len; omega) (by rw [size_setCells]; exact HF11.out.bel.size))
                rw [HAJ.out] at HAD ⊢
                gi_wp2_with (refine ⟨trivial, ?_⟩; gi_at_call 44; refine (CallsIn.inRound l2 (CallsIn.inRound l (callsIn_wide.2 HAD.out))).mono ?_; intro e w13 ha13; obtain ⟨⟨ua, hea⟩, hrest⟩ := ha13; subst hea; have HAD13 : Hid (AdP w.heap.size wc.heap.size v8 xs8 y (W11.setCells (w.heap.size + 1 + 1 + 1 + 1) (y * 202) (stO (some (joinO (σ8 y) o)))) w13 (.returned ua)) := ⟨⟨ua, rfl⟩, hrest⟩; clear hrest)
                have hgr := INn.grow (W5 := W5) (B0 := w4.heap.size) (b := wf.heap.size) (Mb := Mb) (cb := cb) (Rl := R) HF11.out HS11.out HW11.out HR8.out HM11.out (by omega) HO8.out (by have := HB8.out.size; omega) (HK8.out.trans ((KeepsOthers.below HB8.out).from _)) HLB.out HSB.out HCB.out HDL.out hx HGS.out.1 HST.out HFIT.out hylt HY.out HOE.out HLEN.out HNO.out HAD13.out
                refine ⟨((KeepsOthers.below HB8.out).trans hgr.2.1).from _, KpS.trans (fun k _ o hk _ => (HB8.out.block k (Array.getElem?_eq_some_iff.1 hk).1).trans hk) hgr.2.2, ?_⟩
                simp only [List.map_append, List.map_cons, List.map_nil]
                exact hgr.1
              · rw [hkr] at k0
                obtain ⟨q, hq⟩ : ∃ q, σ8 y = some q := by
                  cases hq : σ8 y with
                  | none => rw [hq] at hkr; cases hkr
                  | some q => exact ⟨q, rfl⟩
                have HQ := mkD hq
                have hJS := join_same (q := q) (o := o) (r3 := r3) (c3 := c3) (t3 := t3) (by rw [← HA10.out, HAJ.out, hq]) (HR8.out.pg.good y q (by rw [HDL.out]; exact hylt) hq).2
                have HJS : Hid ((∀ i ∈ List.range 200, t3 i = kT (σ8 y) i) ↔ joinL q o = q) := by unfold Hid; rw [hq]; exact hJS
                obtain ⟨tk, htk⟩ : ∃ tk, tk = kT (σ8 y) := ⟨_, rfl⟩
                have hneq := eq_sets88 t3 tk W11
                obtain ⟨eqb, heqb⟩ : ∃ eqb, eqb = decide (∀ i ∈ List.range 200, t3 i = tk i) := ⟨_, rfl⟩
                rw [← heqb] at hneq
                have HEQB : Hid (eqb = true ↔ joinL q o = q) := by unfold Hid; rw [heqb, decide_eq_true_iff, htk]; exact HJS.out
                have HJR := mkD (sets_range (w := W11) (k := w10.heap.size) (r := r3) (c := c3) (t := t3) (ty := 90) (by rw [← HA10.out]; exact HJ11.out))
                have HKR2 : Hid (W11.rangeAt W8.heap.size 2 (setV tk)) := by
                  have h1 := HA11.out
                  rw [HA8.out, stO_eq] at h1
                  rw [htk]
                  exact sets_range h1
                have l1 := setV_len t3
                have l2' := setV_len tk
                clear hkr hq hJS htk heqb
                gi_wp2
                refine op_round l2 _ (fun c h => by cases h) (wp_load_mid 88 (.tmp 69) rfl w10.heap.size 2 rfl (setV t3) _ HJR.out Tryz.underlying88 rfl (size88 t3) ?_)
                gi_wp2
                refine op_round l2 _ (fun c h => by cases h) (wp_load_mid 88 (.tmp 71) rfl W8.heap.size 2 rfl (setV tk) _ HKR2.out Tryz.underlying88 rfl (size88 tk) ?_)
                have HNEQ := mkD hneq
                clear hneq
                gi_wp2
                rw [HNEQ.out]
                cases eqb
                · have HNO : Hid (¬ ∃ r, σ8 y = some r ∧ joinL r o = r) := fun ⟨q', hq', hj'⟩ => by
                    rw [HQ.out] at hq'
                    cases hq'
                    have h1 := HEQB.out.2 hj'
                    cases h1
                  simp only [Result.andThen_ok, Bool.not_false, Oper.uponIn]
                  gi_wp2
                  refine op_round l2 _ (fun c h => by cases h) (wp_load_mid 90 (.tmp 13) rfl w10.heap.size 0 rfl A10 _ (blk_range HJ11.out) Tryz.underlying90 rfl HZ10.out ?_)
                  gi_wp2
                  rw [HRUN.out]
                  have HAD := mkD (add_c w.heap.size wc.heap.size v8 xs8 y (W11.setCells (w.heap.size + 1 + 1 + 1 + 1) (y * 202) A10) HW12.out (by have := HR8.out.len; omega) (by rw [size_setCells]; exact HF11.out.bel.size))
                  rw [HAJ.out] at HAD ⊢
                  gi_wp2_with (refine ⟨trivial, ?_⟩; gi_at_call 44; refine (CallsIn.inRound l2 (CallsIn.inRound l (callsIn_wide.2 HAD.out))).mono ?_; intro e w13 ha13; obtain ⟨⟨ua, hea⟩, hrest⟩ := ha13; subst hea; have HAD13 : Hid (AdP w.heap.size wc.heap.size v8 xs8 y (W11.setCells (w.heap.size + 1 + 1 + 1 + 1) (y * 202) (stO (some (joinO (σ8 y) o)))) w13 (.returned ua)) := ⟨⟨ua, rfl⟩, hrest⟩; clear hrest)
                  have hgr := INn.grow (W5 := W5) (B0 := w4.heap.size) (b := wf.heap.size) (Mb := Mb) (cb := cb) (Rl := R) HF11.out HS11.out HW11.out HR8.out HM11.out (by omega) HO8.out (by have := HB8.out.size; omega) (HK8.out.trans ((KeepsOthers.below HB8.out).from _)) HLB.out HSB.out HCB.out HDL.out hx HGS.out.1 HST.out HFIT.out hylt HY.out HOE.out HLEN.out HNO.out HAD13.out
                  refine ⟨((KeepsOthers.below HB8.out).trans hgr.2.1).from _, KpS.trans (fun k _ o hk _ => (HB8.out.block k (Array.getElem?_eq_some_iff.1 hk).1).trans hk) hgr.2.2, ?_⟩
                  simp only [List.map_append, List.map_cons, List.map_nil]
                  exact hgr.1
                · gi_wp2
                  have hsm := INn.same (W5 := W5) (B0 := w4.heap.size) (b := wf.heap.size) (Mb := Mb) (Rl := R) HF11.out HS11.out HW11.out HR8.out HM11.out HO8.out (by have := HB8.out.size; omega) (HK8.out.trans ((KeepsOthers.below HB8.out).from _)) HDL.out hx HGS.out.1 HST.out HFIT.out hylt HY.out HOE.out HLEN.out ⟨q, HQ.out, HEQB.out.1 (by first | trivial | rfl)⟩
                  refine ⟨(KeepsOthers.below HB8.out).from _, fun k _ o hk _ => (HB8.out.block k (Array.getElem?_eq_some_iff.1 hk).1).trans hk, ?_⟩
                  simp only [List.map_append, List.map_cons, List.map_nil]
                  exact hsm
        case done2 =>
          intro ys W8 hys hI8
          obtain ⟨σ8, v8, xs8, hF8, hS8, hW8, hR8, hM8, ho8, hz8, hk8⟩ := hI8
          obtain ⟨M', hM', hH'⟩ := hR8.over HDL.out (fun k hk => by rw [hys]; exact hk) HFIT.out HASK.out
          have HFIN : Hid (KeepsFrom w4.heap.size W5 W8 ∧ ∃ M', M' < M ∧ IH w m f dl wc.heap.size w3.heap.size Vb #[.slice cp cn cc, .int .i64 g, .slice fp fn fc] #[.int .i64 (pn : Int), .slice rp rl rc, .slice (some ⟨cb, co, none⟩) dl dc] M' W8) := ⟨hk8, M', hM', σ8, v8, xs8, hF8, hS8, hW8, hH'⟩
          clear hys hF8 hS8 hW8 hR8 hM8 ho8 hz8 hk8 hM' hH'
          gi_wp2
          exact HFIN.out
        case stop2 =>
          intro c pre W8 _ hX8
          obtain ⟨⟨rfl, h1, h2, h3, h4⟩, hk8⟩ := hX8
          gi_wp2
          exact ⟨hk8, rfl, h1, h2, h3, h4⟩
    case done =>
      intro D W5 hD hE hK
      obtain ⟨σ, hF, hS, hL, hA⟩ := hE
      have HF5 := mkD hF
      have HS5 := mkD hS
      have HLA := mkD (And.intro hL hA)
      have HK := mkD hK
      have y6 := cell_at hF.sb (i := 0) rfl
      have r0 := cell_at hF.r0 (i := 0) rfl
      have r1 := cell_at hF.r1 (i := 0) rfl
      have f0 : W5.frozen? ⟨w.heap.size + 1 + 1, 0, none⟩ = false := by simp [World.frozen?, hF.r0]
      have f1 : W5.frozen? ⟨w.heap.size + 1 + 1 + 1, 0, none⟩ = false := by simp [World.frozen?, hF.r1]
      clear hF hS hL hA hK
      go_wp2_with fail
      obtain ⟨X, hX⟩ : ∃ X, X = (W5.setCell ⟨w.heap.size + 1 + 1, 0, none⟩ (.slice (some ⟨w.heap.size + 1 + 1 + 1 + 1, 0, none⟩) dl dl)).setCell ⟨w.heap.size + 1 + 1 + 1, 0, none⟩ (.bool true) := ⟨_, rfl⟩
      rw [← hX]
      have hKX : X.heap[D]? = some (.deferred (some [])) := by rw [hX]; exact (KeepsOthers.setCell _ _ _).same D _ ((KeepsOthers.setCell _ _ _).same D _ HK.out rfl) rfl
      refine ⟨by simp, .inl ⟨_, _, rfl, run_takeDeferred hKX, ?_⟩⟩
      have hx0 : X.heap[w.heap.size + 1 + 1]? = some (.cells #[.slice (some ⟨w.heap.size + 1 + 1 + 1 + 1, 0, none⟩) dl dl] 51) := by
        rw [hX, Below.heap_setCell _ _ _ _ (by simp only; omega)]
        simp [World.setCell, Array.getElem?_modify, HF5.out.r0]
      have hx1 : X.heap[w.heap.size + 1 + 1 + 1]? = some (.cells #[.bool true] 4) := by
        have h1 : (W5.setCell ⟨w.heap.size + 1 + 1, 0, none⟩ (.slice (some ⟨w.heap.size + 1 + 1 + 1 + 1, 0, none⟩) dl dl)).heap[w.heap.size + 1 + 1 + 1]? = some (.cells #[.bool false] 4) := by rw [Below.heap_setCell _ _ _ _ (by simp only; omega)]; exact HF5.out.r1
        rw [hX]
        generalize (W5.setCell ⟨w.heap.size + 1 + 1, 0, none⟩ (.slice (some ⟨w.heap.size + 1 + 1 + 1 + 1, 0, none⟩) dl dl)) = V at h1 ⊢
        simp [World.setCell, Array.getElem?_modify, h1]
      have hxS : X.heap[w.heap.size + 1 + 1 + 1 + 1]? = W5.heap[w.heap.size + 1 + 1 + 1 + 1]? := by rw [hX, Below.heap_setCell _ _ _ _ (by simp only; omega), Below.heap_setCell _ _ _ _ (by simp only; omega)]
      have hbX : Below w.heap.size w X := by rw [hX]; exact (HF5.out.bel.setCell (by simp only; omega) _).setCell (by simp only; omega) _
      have hne : ∀ (k : Nat) (a : Array Value) (t : TypeId), X.heap[k]? = some (.cells a t) → (X.putObj D (.deferred none)).heap[k]? = some (.cells a t) := fun k a t hk => (World.putObj_heap_other (fun e => by rw [e, hKX] at hk; cases hk)).trans hk
      have hbY : Below w.heap.size w (X.putObj D (.deferred none)) := hbX.trans (belowK_b (w := w) (Nat.le_refl _) X D _ _ (by omega) hKX rfl rfl)
      obtain ⟨Y, hY⟩ : ∃ Y, Y = X.putObj D (.deferred none) := ⟨_, rfl⟩
      rw [← hY] at hne hbY ⊢
      have c0 := cell_at (hne _ _ _ hx0) (i := 0) rfl
      have c1 := cell_at (hne _ _ _ hx1) (i := 0) rfl
      have hSY : Sp Y dl (w.heap.size + 1 + 1 + 1 + 1) σ := by
        obtain ⟨arr, ha, r⟩ := HS5.out
        exact ⟨arr, hne _ _ _ (hxS.trans ha), r⟩
      refine ⟨.tuple #[.slice (some ⟨w.heap.size + 1 + 1 + 1 + 1, 0, none⟩) dl dl, .bool true], ?_, hbY, Or.inl ⟨σ, _, by omega, rfl, hSY, HLA.out.1, HLA.out.2⟩⟩
      simp [results, Tryz.results20, go_sem, c0, c1]
    case stop =>
      intro D c W5 hD hX hK
      obtain ⟨rfl, hns, h0, h1, hb⟩ := hX
      have HNS := mkD hns
      gi_wp2
      refine ⟨by simp, .inl ⟨_, _, rfl, run_takeDeferred hK, ?_⟩⟩
      have hne : ∀ (k : Nat) (a : Array Value) (t : TypeId), W5.heap[k]? = some (.cells a t) → (W5.putObj D (.deferred none)).heap[k]? = some (.cells a t) := fun k a t hk => (World.putObj_heap_other (fun e => by rw [e, hK] at hk; cases hk)).trans hk
      have hbY : Below w.heap.size w (W5.putObj D (.deferred none)) := hb.trans (belowK_b (w := w) (Nat.le_refl _) W5 D _ _ (by omega) hK rfl rfl)
      obtain ⟨Y, hY⟩ : ∃ Y, Y = W5.putObj D (.deferred none) := ⟨_, rfl⟩
      rw [← hY] at hne hbY ⊢
      have c0 := cell_at (hne _ _ _ h0) (i := 0) rfl
      have c1 := cell_at (hne _ _ _ h1) (i := 0) rfl
      refine ⟨.tuple #[.slice none 0 0, .bool false], ?_, hbY, Or.inr ⟨HNS.out, rfl⟩⟩
      simp [results, Tryz.results20, go_sem, c0, c1]
end Vf
end Go.Proofs.YtdjdhjciealfhaaGreatDoor
