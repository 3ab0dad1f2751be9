import Derived.Test.YtdjdhjciealfhaaGreatDoorKb
namespace Go.Proofs.YtdjdhjciealfhaaGreatDoor
open Go.RowKit Ch1
namespace Vf
set_option maxRecDepth 20000 in
set_option maxHeartbeats 4000000 in
/-- stateBehind: what an instruction makes of a state. -/
theorem stateBehind_c (cp : Option Addr) (cn cc : Nat) (g : Int) (fp : Option Addr) (fn fc : Nat) (k : Int) (rp : Option Addr) (rl rc : Nat) (dp : Option Addr) (dl dc : Nat) (m : Md) (f : Fn) (x : In) (s : List Nat) (w : World) (h : LbAt w cp cn cc rp rl rc m f x s) (hfu : Fu w fp fn fc m.funcs) (hfr : ∀ i, i < m.funcs.length → (m.funcs.getD i fn0).free.length ≤ 1000) (hg : GoodS s) :
    Calls Tryz.prog 46 #[.agg #[.slice cp cn cc, .int .i64 g, .slice fp fn fc], .agg #[.int .i64 k, .slice rp rl rc, .slice dp dl dc], .agg #[.int .i64 x.op, .int .i64 x.a, .int .i64 x.b], .agg (stL s).toArray] w fun e w' => BhP m f x s w w' e := by
  obtain ⟨A, hA⟩ : ∃ A, A = stL s := ⟨_, rfl⟩
  have hl1 : A.length = 202 := by rw [hA]; exact stG_len _ _ _
  have hsl := h.sl
  have hop : 0 ≤ x.op ∧ x.op ≤ 17 := ⟨h.ok.1, h.ok.2.1⟩
  obtain ⟨W, hW⟩ : ∃ W, W = ((((w.alloc (.cells #[.slice cp cn cc, .int .i64 g, .slice fp fn fc] 33)).alloc (.cells #[.int .i64 k, .slice rp rl rc, .slice dp dl dc] 48)).alloc (.cells #[.int .i64 x.op, .int .i64 x.a, .int .i64 x.b] 73)).alloc (.cells A.toArray 90)).alloc (.cells Tryz.zeroCells90 90) := ⟨_, rfl⟩
  have HBW : Hid (Below w.heap.size w W) := by unfold Hid; rw [hW]; exact (below4 w _ _ _ _).trans ((below1 _ _).mono (below4 w _ _ _ _).size)
  have hWs : W.heap.size = w.heap.size + 1 + 1 + 1 + 1 + 1 := by rw [hW]; simp
  have HM : Hid (W.heap[w.heap.size]? = some (.cells #[.slice cp cn cc, .int .i64 g, .slice fp fn fc] 33)) := by
    unfold Hid
    rw [hW, (below1 _ _).block _ (by simp; try omega), (below1 _ _).block _ (by simp; try omega), (below1 _ _).block _ (by simp; try omega), (below1 _ _).block _ (by simp)]
    exact Go.Deep.blk_alloc_new _ _
  have HF : Hid (W.heap[w.heap.size + 1]? = some (.cells #[.int .i64 k, .slice rp rl rc, .slice dp dl dc] 48)) := by
    unfold Hid
    rw [hW, (below1 _ _).block _ (by simp; try omega), (below1 _ _).block _ (by simp; try omega), (below1 _ _).block _ (by simp)]
    have := Go.Deep.blk_alloc_new (w.alloc (.cells #[.slice cp cn cc, .int .i64 g, .slice fp fn fc] 33)) (.cells #[.int .i64 k, .slice rp rl rc, .slice dp dl dc] 48)
    rwa [World.size_alloc] at this
  have HX : Hid (W.heap[w.heap.size + 1 + 1]? = some (.cells #[.int .i64 x.op, .int .i64 x.a, .int .i64 x.b] 73)) := by
    unfold Hid
    rw [hW, (below1 _ _).block _ (by simp; try omega), (below1 _ _).block _ (by simp)]
    have := Go.Deep.blk_alloc_new ((w.alloc (.cells #[.slice cp cn cc, .int .i64 g, .slice fp fn fc] 33)).alloc (.cells #[.int .i64 k, .slice rp rl rc, .slice dp dl dc] 48)) (.cells #[.int .i64 x.op, .int .i64 x.a, .int .i64 x.b] 73)
    rwa [World.size_alloc, World.size_alloc] at this
  have HSB : Hid (Sb W (w.heap.size + 1 + 1 + 1) true s.length (fun i => s.getD i 0)) := by
    unfold Hid Sb
    rw [hW, (below1 _ _).block _ (by simp), hA]
    have := Sb.new (((w.alloc (.cells #[.slice cp cn cc, .int .i64 g, .slice fp fn fc] 33)).alloc (.cells #[.int .i64 k, .slice rp rl rc, .slice dp dl dc] 48)).alloc (.cells #[.int .i64 x.op, .int .i64 x.a, .int .i64 x.b] 73)) true s.length (fun i => s.getD i 0)
    rw [World.size_alloc, World.size_alloc, World.size_alloc] at this
    exact this
  have HZ : Hid (Sb W (w.heap.size + 1 + 1 + 1 + 1) false 0 (fun _ => 0)) := by
    unfold Hid
    rw [hW, zeroS]
    have := Sb.new ((((w.alloc (.cells #[.slice cp cn cc, .int .i64 g, .slice fp fn fc] 33)).alloc (.cells #[.int .i64 k, .slice rp rl rc, .slice dp dl dc] 48)).alloc (.cells #[.int .i64 x.op, .int .i64 x.a, .int .i64 x.b] 73)).alloc (.cells A.toArray 90)) false 0 (fun _ => 0)
    rw [World.size_alloc, World.size_alloc, World.size_alloc, World.size_alloc] at this
    exact this
  have HG := mkD hg
  have HLB := mkD h
  have HFU := mkD hfu
  have HFR := mkD hfr
  have hl0 := stG_len false 0 (fun _ => 0)
  have HLF := mkD (leftBy_c cp cn cc g fp fn fc k rp rl rc dp dl dc m f x s W ⟨h.ok, h.cs.below HBW.out, h.ne, h.ct, h.fr.below HBW.out, h.tb.below HBW.out, h.sl⟩)
  have y0 := HSB.out.c0
  have y1 := HSB.out.c1
  rw [hW] at y0 y1
  rw [← hA]
  have HA := mkD hA
  clear h hfu hfr hg hA
  by_cases hloc : x.op = 1 ∧ (s.length : Int) ≤ x.a
  · have b1 : (x.op == 1) = true := by simp [hloc.1]
    have d1 : decide ((s.length : Int) ≤ x.a) = true := decide_eq_true hloc.2
    have HNO : Hid (¬ (fits m f x s ∧ asks m x s)) := fun hh => by have h1 := hh.1.2.1 hloc.1; have h2 := hloc.2; omega
    have HBX := HBW
    clear hloc HLF
    go_enter Tryz.func46, Tryz.ntmps46
    go_wp2_with fail
    rw [← hW]
    clear hW y0 y1
    rw [buildS, (Sb.put' HZ.out _ _ _).2]
    obtain ⟨W3, hW3⟩ : ∃ W3, W3 = W.setCells (w.heap.size + 1 + 1 + 1 + 1) 0 (stG false 0 (fun _ => 0)) := ⟨_, rfl⟩
    rw [← hW3]
    have HS3 : Hid (Sb W3 (w.heap.size + 1 + 1 + 1 + 1) false 0 (fun _ => 0)) := by unfold Hid; rw [hW3]; exact (Sb.put' HZ.out _ _ _).1
    have HB3 : Hid (Below w.heap.size w W3) := by unfold Hid; rw [hW3]; exact Below.setCells (by omega) _ _ _ HBX.out
    clear hW3
    go_wp2_with fail
    have HLV := HS3.out.ret
    exact bodyPost_ret (v := .tuple #[.agg (stG false 0 (fun _ => 0)).toArray, .bool false]) (by simp [results, Tryz.results46, asAddr, HLV]) rfl ⟨HB3.out, Or.inl ⟨HNO.out, _, rfl⟩⟩
  have HLO : Hid (x.op = 1 → x.a.toNat < s.length) := fun e => by
    have h1 := HLB.out.ok.2.2
    have h3 : 0 ≤ x.a := by rcases h1 with h1 | h1 <;> omega
    have : ¬ (s.length : Int) ≤ x.a := fun h2 => hloc ⟨e, h2⟩
    omega
  have key : (x.op == 1) = true → decide ((s.length : Int) ≤ x.a) = false := fun e => decide_eq_false (fun h2 => hloc ⟨by simpa using e, h2⟩)
  have HKEY := mkD key
  clear hloc key
  obtain ⟨lf, hlf⟩ : ∃ lf, lf = lefts m f x s := ⟨_, rfl⟩
  have HLV0 := mkD hlf
  rw [← hlf] at HLF
  clear hlf
  have HGO : ∀ {Q : Prop}, ((x.op == 1) = true → decide ((s.length : Int) ≤ x.a) = false → Q) → ((x.op == 1) = false → Q) → Q := fun h1 h2 => by
    cases hb : (x.op == 1)
    · exact h2 hb
    · exact h1 hb (HKEY.out hb)
  have HRA : Hid (W.rangeAt (w.heap.size + 1 + 1 + 1) 0 A) := by unfold Hid; rw [HA.out]; exact HSB.out.range
  have HZA : Hid ((Tryz.prog.info? 90).map (·.size) = some A.length) := by unfold Hid; rw [HA.out]; exact sizeS _ _ _
  have eA : stG true s.length (fun i => s.getD i 0) = A := HA.out.symm
  rw [eA] at HLF
  clear eA
  obtain ⟨n, hn⟩ : ∃ n, n = (allow m x).length := ⟨_, rfl⟩
  have HN := mkD hn
  clear hn
  have HT5 : Hid (∀ i, s.getD i 0 < 512) := fun i => HG.out.lt i
  have HT0 : Hid (∀ i, s.length ≤ i → s.getD i 0 = 0) := fun i hi => getD_none hi
  refine HGO ?_ ?_
  · intro b1 d1
    go_enter Tryz.func46, Tryz.ntmps46
    go_wp2_with fail
    rw [← hW]
    clear hW y0 y1 HKEY HGO
    refine wp_load_mid 90 (.tmp 7) rfl _ 0 rfl _ _ HRA.out Tryz.underlying90 rfl HZA.out ?_
    go_wp2_with fail
    refine HLF.out.mono ?_
    rintro e w1 ⟨rfl, hb1⟩
    have HB1 := mkD hb1
    have HBw1 : Hid (Below w.heap.size w w1) := HBW.out.trans (hb1.mono HBW.out.size)
    clear hb1 HLF
    obtain ⟨z0, z1, z2, _, _, _⟩ := cells3 ((HB1.out.block w.heap.size (by omega)).trans HM.out)
    obtain ⟨v0, v1, v2, _, _, _⟩ := cells3 ((HB1.out.block (w.heap.size + 1 + 1) (by omega)).trans HX.out)
    have HTB := mkD (takenBy_c cp cn cc g fp fn fc m f x w1 HLB.out.ok (HFU.out.below HBw1.out) HFR.out (HLB.out.tb.below HBw1.out))
    go_wp2_with fail
    refine HTB.out.mono ?_
    rintro e w2 ⟨u, rfl, ho2, hb2⟩
    obtain ⟨pu, cu, hu⟩ := ho2.form
    rw [← HN.out] at hu
    subst hu
    have HB2 : Hid (Below W.heap.size W w2) := HB1.out.trans (hb2.mono HB1.out.size)
    have HBw2 : Hid (Below w.heap.size w w2) := HBw1.out.trans (hb2.mono HBw1.out.size)
    have HTK := mkD (take_c (w.heap.size + 1 + 1 + 1) true s.length (fun i => s.getD i 0) pu n cu (allow m x) w2 (HSB.out.below HB2.out) HT5.out HT0.out ho2.nk (fun i => allow_lt i) hsl)
    have HZ2 := mkD (HZ.out.below HB2.out)
    clear hb2 ho2 HTB z0 z1 z2 v0 v1 v2
    go_wp2_with fail
    refine HTK.out.mono ?_
    rintro e w3 ⟨b, rfl, hiff, hb3, ho3, hs3⟩
    have HIF := mkD hiff
    have HZ := mkD (HZ2.out.oth ho3 (by omega))
    have HBX : Hid (Below w.heap.size w w3) := HBw2.out.trans (hb3.mono (by omega))
    have HS3 := mkD hs3
    clear hiff hb3 ho3 hs3 HTK HZ2
    cases b
    · have HNO : Hid (¬ (fits m f x s ∧ asks m x s)) := fun hh => by
        have h1 := HIF.out.2 ⟨by rw [HN.out]; exact hh.1.1, by rw [HN.out]; exact hh.2⟩
        cases h1
      go_wp2_with fail
      rw [buildS, (Sb.put' HZ.out _ _ _).2]
      obtain ⟨W3, hW3⟩ : ∃ W3, W3 = w3.setCells (w.heap.size + 1 + 1 + 1 + 1) 0 (stG false 0 (fun _ => 0)) := ⟨_, rfl⟩
      rw [← hW3]
      have HS3 : Hid (Sb W3 (w.heap.size + 1 + 1 + 1 + 1) false 0 (fun _ => 0)) := by unfold Hid; rw [hW3]; exact (Sb.put' HZ.out _ _ _).1
      have HB3 : Hid (Below w.heap.size w W3) := by unfold Hid; rw [hW3]; exact Below.setCells (by omega) _ _ _ HBX.out
      clear hW3
      go_wp2_with fail
      have HLV := HS3.out.ret
      exact bodyPost_ret (v := .tuple #[.agg (stG false 0 (fun _ => 0)).toArray, .bool false]) (by simp [results, Tryz.results46, asAddr, HLV]) rfl ⟨HB3.out, Or.inl ⟨HNO.out, _, rfl⟩⟩
    · have HYES := mkD (HIF.out.1 rfl)
      have hns : n ≤ s.length := HYES.out.1
      have HAS : Hid (asks m x s) := by have h1 := HYES.out.2; rw [HN.out] at h1; exact h1
      have HSS := mkD (HS3.out rfl)
      clear HIF HYES HS3
      by_cases hz : lf = 0
      · have b2 : ((lf : Int) != 0) = false := by simp; omega
        have HEQ := mkD (out_zero (m := m) (f := f) (x := x) (s := s) (n := n) HN.out (by rw [← HLV0.out]; exact hz))
        have HFI : Hid (fits m f x s) := ⟨by rw [← HN.out]; exact hns, HLO.out, by rw [out_len, if_pos (by rw [← HLV0.out]; exact hz)]; omega⟩
        obtain ⟨cF, hcF⟩ : ∃ cF, cF = s.length - n := ⟨_, rfl⟩
        obtain ⟨tF, htF⟩ : ∃ tF : Nat → Nat, tF = fun k => if k < s.length - n then s.getD k 0 else 0 := ⟨_, rfl⟩
        rw [← htF, ← hcF] at HSS HEQ
        have hlF := stG_len true cF tF
        clear hz hcF htF
        go_wp2_with fail
        refine wp_load_mid 90 (.tmp 7) rfl _ 0 rfl _ _ HSS.out.range Tryz.underlying90 rfl (sizeS _ _ _) ?_
        go_wp2_with fail
        rw [(Sb.put' HZ.out _ _ _).2]
        obtain ⟨W3, hW3⟩ : ∃ W3, W3 = w3.setCells (w.heap.size + 1 + 1 + 1 + 1) 0 (stG true cF tF) := ⟨_, rfl⟩
        rw [← hW3]
        have HS3 : Hid (Sb W3 (w.heap.size + 1 + 1 + 1 + 1) true cF tF) := by unfold Hid; rw [hW3]; exact (Sb.put' HZ.out _ _ _).1
        have HB3 : Hid (Below w.heap.size w W3) := by unfold Hid; rw [hW3]; exact Below.setCells (by omega) _ _ _ HBX.out
        clear hW3
        go_wp2_with fail
        have HLV := HS3.out.ret
        exact bodyPost_ret (v := .tuple #[.agg (stG true cF tF).toArray, .bool true]) (by simp [results, Tryz.results46, asAddr, HLV]) rfl ⟨HB3.out, Or.inr ⟨HFI.out, HAS.out, by rw [HEQ.out]⟩⟩
      · have b2 : ((lf : Int) != 0) = true := by simp; omega
        have HEQ := mkD (out_one (m := m) (f := f) (x := x) (s := s) (n := n) (v := lf) HN.out HLV0.out hz)
        obtain ⟨cF, hcF⟩ : ∃ cF, cF = s.length - n := ⟨_, rfl⟩
        obtain ⟨tF, htF⟩ : ∃ tF : Nat → Nat, tF = fun k => if k < s.length - n then s.getD k 0 else 0 := ⟨_, rfl⟩
        rw [← htF, ← hcF] at HSS
        have HLE := mkD (leave_c (w.heap.size + 1 + 1 + 1) true cF tF lf w3 HSS.out (by omega))
        have HCF := mkD hcF
        obtain ⟨tG, htG⟩ : ∃ tG : Nat → Nat, tG = fun k => if k = cF then lf else tF k := ⟨_, rfl⟩
        have HEQ2 : Hid (stG true (cF + 1) tG = stL (outOf m f x s)) := by
          unfold Hid
          rw [← HEQ.out, hcF, htG]
          refine stG_congr (fun i _ => ?_)
          simp only [htF, hcF]
        rw [← htG] at HLE
        clear hcF htF htG HEQ
        go_wp2_with fail
        refine HLE.out.mono ?_
        rintro e w4 ⟨b4, rfl, hiff4, hb4, ho4, hs4⟩
        have HIF4 := mkD hiff4
        have HZ := mkD (HZ.out.oth ho4 (by omega))
        have HBX : Hid (Below w.heap.size w w4) := HBX.out.trans (hb4.mono (by omega))
        have HS4 := mkD hs4
        clear hiff4 hb4 ho4 hs4 HLE
        cases b4
        · have HNO : Hid (¬ (fits m f x s ∧ asks m x s)) := fun hh => by
            have h1 := hh.1.2.2
            rw [out_len, if_neg (by rw [← HLV0.out]; exact hz), ← HN.out, ← HCF.out] at h1
            have h2 := HIF4.out.2 (by omega)
            cases h2
          go_wp2_with fail
          rw [buildS, (Sb.put' HZ.out _ _ _).2]
          obtain ⟨W3, hW3⟩ : ∃ W3, W3 = w4.setCells (w.heap.size + 1 + 1 + 1 + 1) 0 (stG false 0 (fun _ => 0)) := ⟨_, rfl⟩
          rw [← hW3]
          have HS3 : Hid (Sb W3 (w.heap.size + 1 + 1 + 1 + 1) false 0 (fun _ => 0)) := by unfold Hid; rw [hW3]; exact (Sb.put' HZ.out _ _ _).1
          have HB3 : Hid (Below w.heap.size w W3) := by unfold Hid; rw [hW3]; exact Below.setCells (by omega) _ _ _ HBX.out
          clear hW3
          go_wp2_with fail
          have HLV := HS3.out.ret
          exact bodyPost_ret (v := .tuple #[.agg (stG false 0 (fun _ => 0)).toArray, .bool false]) (by simp [results, Tryz.results46, asAddr, HLV]) rfl ⟨HB3.out, Or.inl ⟨HNO.out, _, rfl⟩⟩
        · have HFI : Hid (fits m f x s) := ⟨by rw [← HN.out]; exact hns, HLO.out, by rw [out_len, if_neg (by rw [← HLV0.out]; exact hz), ← HN.out, ← HCF.out]; have := HIF4.out.1 rfl; omega⟩
          have HSS := mkD (HS4.out rfl)
          have HEQ := HEQ2
          have hlF := stG_len true (cF + 1) tG
          clear HEQ2 HS4 HIF4
          obtain ⟨cG, hcG⟩ : ∃ cG, cG = cF + 1 := ⟨_, rfl⟩
          rw [← hcG] at HSS HEQ hlF
          clear hcG
          go_wp2_with fail
          refine wp_load_mid 90 (.tmp 7) rfl _ 0 rfl _ _ HSS.out.range Tryz.underlying90 rfl (sizeS _ _ _) ?_
          go_wp2_with fail
          rw [(Sb.put' HZ.out _ _ _).2]
          obtain ⟨W3, hW3⟩ : ∃ W3, W3 = w4.setCells (w.heap.size + 1 + 1 + 1 + 1) 0 (stG true cG tG) := ⟨_, rfl⟩
          rw [← hW3]
          have HS3 : Hid (Sb W3 (w.heap.size + 1 + 1 + 1 + 1) true cG tG) := by unfold Hid; rw [hW3]; exact (Sb.put' HZ.out _ _ _).1
          have HB3 : Hid (Below w.heap.size w W3) := by unfold Hid; rw [hW3]; exact Below.setCells (by omega) _ _ _ HBX.out
          clear hW3
          go_wp2_with fail
          have HLV := HS3.out.ret
          exact bodyPost_ret (v := .tuple #[.agg (stG true cG tG).toArray, .bool true]) (by simp [results, Tryz.results46, asAddr, HLV]) rfl ⟨HB3.out, Or.inr ⟨HFI.out, HAS.out, by rw [HEQ.out]⟩⟩
  · intro b1
    go_enter Tryz.func46, Tryz.ntmps46
    go_wp2_with fail
    rw [← hW]
    clear hW y0 y1 HKEY HGO
    refine wp_load_mid 90 (.tmp 7) rfl _ 0 rfl _ _ HRA.out Tryz.underlying90 rfl HZA.out ?_
    go_wp2_with fail
    refine HLF.out.mono ?_
    rintro e w1 ⟨rfl, hb1⟩
    have HB1 := mkD hb1
    have HBw1 : Hid (Below w.heap.size w w1) := HBW.out.trans (hb1.mono HBW.out.size)
    clear hb1 HLF
    obtain ⟨z0, z1, z2, _, _, _⟩ := cells3 ((HB1.out.block w.heap.size (by omega)).trans HM.out)
    obtain ⟨v0, v1, v2, _, _, _⟩ := cells3 ((HB1.out.block (w.heap.size + 1 + 1) (by omega)).trans HX.out)
    have HTB := mkD (takenBy_c cp cn cc g fp fn fc m f x w1 HLB.out.ok (HFU.out.below HBw1.out) HFR.out (HLB.out.tb.below HBw1.out))
    go_wp2_with fail
    refine HTB.out.mono ?_
    rintro e w2 ⟨u, rfl, ho2, hb2⟩
    obtain ⟨pu, cu, hu⟩ := ho2.form
    rw [← HN.out] at hu
    subst hu
    have HB2 : Hid (Below W.heap.size W w2) := HB1.out.trans (hb2.mono HB1.out.size)
    have HBw2 : Hid (Below w.heap.size w w2) := HBw1.out.trans (hb2.mono HBw1.out.size)
    have HTK := mkD (take_c (w.heap.size + 1 + 1 + 1) true s.length (fun i => s.getD i 0) pu n cu (allow m x) w2 (HSB.out.below HB2.out) HT5.out HT0.out ho2.nk (fun i => allow_lt i) hsl)
    have HZ2 := mkD (HZ.out.below HB2.out)
    clear hb2 ho2 HTB z0 z1 z2 v0 v1 v2
    go_wp2_with fail
    refine HTK.out.mono ?_
    rintro e w3 ⟨b, rfl, hiff, hb3, ho3, hs3⟩
    have HIF := mkD hiff
    have HZ := mkD (HZ2.out.oth ho3 (by omega))
    have HBX : Hid (Below w.heap.size w w3) := HBw2.out.trans (hb3.mono (by omega))
    have HS3 := mkD hs3
    clear hiff hb3 ho3 hs3 HTK HZ2
    cases b
    · have HNO : Hid (¬ (fits m f x s ∧ asks m x s)) := fun hh => by
        have h1 := HIF.out.2 ⟨by rw [HN.out]; exact hh.1.1, by rw [HN.out]; exact hh.2⟩
        cases h1
      go_wp2_with fail
      rw [buildS, (Sb.put' HZ.out _ _ _).2]
      obtain ⟨W3, hW3⟩ : ∃ W3, W3 = w3.setCells (w.heap.size + 1 + 1 + 1 + 1) 0 (stG false 0 (fun _ => 0)) := ⟨_, rfl⟩
      rw [← hW3]
      have HS3 : Hid (Sb W3 (w.heap.size + 1 + 1 + 1 + 1) false 0 (fun _ => 0)) := by unfold Hid; rw [hW3]; exact (Sb.put' HZ.out _ _ _).1
      have HB3 : Hid (Below w.heap.size w W3) := by unfold Hid; rw [hW3]; exact Below.setCells (by omega) _ _ _ HBX.out
      clear hW3
      go_wp2_with fail
      have HLV := HS3.out.ret
      exact bodyPost_ret (v := .tuple #[.agg (stG false 0 (fun _ => 0)).toArray, .bool false]) (by simp [results, Tryz.results46, asAddr, HLV]) rfl ⟨HB3.out, Or.inl ⟨HNO.out, _, rfl⟩⟩
    · have HYES := mkD (HIF.out.1 rfl)
      have hns : n ≤ s.length := HYES.out.1
      have HAS : Hid (asks m x s) := by have h1 := HYES.out.2; rw [HN.out] at h1; exact h1
      have HSS := mkD (HS3.out rfl)
      clear HIF HYES HS3
      by_cases hz : lf = 0
      · have b2 : ((lf : Int) != 0) = false := by simp; omega
        have HEQ := mkD (out_zero (m := m) (f := f) (x := x) (s := s) (n := n) HN.out (by rw [← HLV0.out]; exact hz))
        have HFI : Hid (fits m f x s) := ⟨by rw [← HN.out]; exact hns, HLO.out, by rw [out_len, if_pos (by rw [← HLV0.out]; exact hz)]; omega⟩
        obtain ⟨cF, hcF⟩ : ∃ cF, cF = s.length - n := ⟨_, rfl⟩
        obtain ⟨tF, htF⟩ : ∃ tF : Nat → Nat, tF = fun k => if k < s.length - n then s.getD k 0 else 0 := ⟨_, rfl⟩
        rw [← htF, ← hcF] at HSS HEQ
        have hlF := stG_len true cF tF
        clear hz hcF htF
        go_wp2_with fail
        refine wp_load_mid 90 (.tmp 7) rfl _ 0 rfl _ _ HSS.out.range Tryz.underlying90 rfl (sizeS _ _ _) ?_
        go_wp2_with fail
        rw [(Sb.put' HZ.out _ _ _).2]
        obtain ⟨W3, hW3⟩ : ∃ W3, W3 = w3.setCells (w.heap.size + 1 + 1 + 1 + 1) 0 (stG true cF tF) := ⟨_, rfl⟩
        rw [← hW3]
        have HS3 : Hid (Sb W3 (w.heap.size + 1 + 1 + 1 + 1) true cF tF) := by unfold Hid; rw [hW3]; exact (Sb.put' HZ.out _ _ _).1
        have HB3 : Hid (Below w.heap.size w W3) := by unfold Hid; rw [hW3]; exact Below.setCells (by omega) _ _ _ HBX.out
        clear hW3
        go_wp2_with fail
        have HLV := HS3.out.ret
        exact bodyPost_ret (v := .tuple #[.agg (stG true cF tF).toArray, .bool true]) (by simp [results, Tryz.results46, asAddr, HLV]) rfl ⟨HB3.out, Or.inr ⟨HFI.out, HAS.out, by rw [HEQ.out]⟩⟩
      · have b2 : ((lf : Int) != 0) = true := by simp; omega
        have HEQ := mkD (out_one (m := m) (f := f) (x := x) (s := s) (n := n) (v := lf) HN.out HLV0.out hz)
        obtain ⟨cF, hcF⟩ : ∃ cF, cF = s.length - n := ⟨_, rfl⟩
        obtain ⟨tF, htF⟩ : ∃ tF : Nat → Nat, tF = fun k => if k < s.length - n then s.getD k 0 else 0 := ⟨_, rfl⟩
        rw [← htF, ← hcF] at HSS
        have HLE := mkD (leave_c (w.heap.size + 1 + 1 + 1) true cF tF lf w3 HSS.out (by omega))
        have HCF := mkD hcF
        obtain ⟨tG, htG⟩ : ∃ tG : Nat → Nat, tG = fun k => if k = cF then lf else tF k := ⟨_, rfl⟩
        have HEQ2 : Hid (stG true (cF + 1) tG = stL (outOf m f x s)) := by
          unfold Hid
          rw [← HEQ.out, hcF, htG]
          refine stG_congr (fun i _ => ?_)
          simp only [htF, hcF]
        rw [← htG] at HLE
        clear hcF htF htG HEQ
        go_wp2_with fail
        refine HLE.out.mono ?_
        rintro e w4 ⟨b4, rfl, hiff4, hb4, ho4, hs4⟩
        have HIF4 := mkD hiff4
        have HZ := mkD (HZ.out.oth ho4 (by omega))
        have HBX : Hid (Below w.heap.size w w4) := HBX.out.trans (hb4.mono (by omega))
        have HS4 := mkD hs4
        clear hiff4 hb4 ho4 hs4 HLE
        cases b4
        · have HNO : Hid (¬ (fits m f x s ∧ asks m x s)) := fun hh => by
            have h1 := hh.1.2.2
            rw [out_len, if_neg (by rw [← HLV0.out]; exact hz), ← HN.out, ← HCF.out] at h1
            have h2 := HIF4.out.2 (by omega)
            cases h2
          go_wp2_with fail
          rw [buildS, (Sb.put' HZ.out _ _ _).2]
          obtain ⟨W3, hW3⟩ : ∃ W3, W3 = w4.setCells (w.heap.size + 1 + 1 + 1 + 1) 0 (stG false 0 (fun _ => 0)) := ⟨_, rfl⟩
          rw [← hW3]
          have HS3 : Hid (Sb W3 (w.heap.size + 1 + 1 + 1 + 1) false 0 (fun _ => 0)) := by unfold Hid; rw [hW3]; exact (Sb.put' HZ.out _ _ _).1
          have HB3 : Hid (Below w.heap.size w W3) := by unfold Hid; rw [hW3]; exact Below.setCells (by omega) _ _ _ HBX.out
          clear hW3
          go_wp2_with fail
          have HLV := HS3.out.ret
          exact bodyPost_ret (v := .tuple #[.agg (stG false 0 (fun _ => 0)).toArray, .bool false]) (by simp [results, Tryz.results46, asAddr, HLV]) rfl ⟨HB3.out, Or.inl ⟨HNO.out, _, rfl⟩⟩
        · have HFI : Hid (fits m f x s) := ⟨by rw [← HN.out]; exact hns, HLO.out, by rw [out_len, if_neg (by rw [← HLV0.out]; exact hz), ← HN.out, ← HCF.out]; have := HIF4.out.1 rfl; omega⟩
          have HSS := mkD (HS4.out rfl)
          have HEQ := HEQ2
          have hlF := stG_len true (cF + 1) tG
          clear HEQ2 HS4 HIF4
          obtain ⟨cG, hcG⟩ : ∃ cG, cG = cF + 1 := ⟨_, rfl⟩
          rw [← hcG] at HSS HEQ hlF
          clear hcG
          go_wp2_with fail
          refine wp_load_mid 90 (.tmp 7) rfl _ 0 rfl _ _ HSS.out.range Tryz.underlying90 rfl (sizeS _ _ _) ?_
          go_wp2_with fail
          rw [(Sb.put' HZ.out _ _ _).2]
          obtain ⟨W3, hW3⟩ : ∃ W3, W3 = w4.setCells (w.heap.size + 1 + 1 + 1 + 1) 0 (stG true cG tG) := ⟨_, rfl⟩
          rw [← hW3]
          have HS3 : Hid (Sb W3 (w.heap.size + 1 + 1 + 1 + 1) true cG tG) := by unfold Hid; rw [hW3]; exact (Sb.put' HZ.out _ _ _).1
          have HB3 : Hid (Below w.heap.size w W3) := by unfold Hid; rw [hW3]; exact Below.setCells (by omega) _ _ _ HBX.out
          clear hW3
          go_wp2_with fail
          have HLV := HS3.out.ret
          exact bodyPost_ret (v := .tuple #[.agg (stG true cG tG).toArray, .bool true]) (by simp [results, Tryz.results46, asAddr, HLV]) rfl ⟨HB3.out, Or.inr ⟨HFI.out, HAS.out, by rw [HEQ.out]⟩⟩
end Vf
end Go.Proofs.YtdjdhjciealfhaaGreatDoor
