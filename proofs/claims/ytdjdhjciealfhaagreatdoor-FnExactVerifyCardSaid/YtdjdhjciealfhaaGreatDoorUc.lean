import Derived.Test.YtdjdhjciealfhaaGreatDoorUq
import Derived.Deep.CutBlock
import Derived.Deep.RegionHeld
namespace Go.Proofs.YtdjdhjciealfhaaGreatDoor
open Go.RowKit Ch1
namespace Vf
/-- At the head of the loop over the places that an instruction leads to. -/
def V5 (m : Md) (f : Fn) (W : World) (n S : Nat) (σ0 : States) (i : Nat) (o nx : List Nat) (ov nv : Value) (Bo Bn : Nat) (gr0 : Bool) (gk : Nat) (gv kv : Value) (wr : World) : Prop := ∃ k gr σ vs, k + gk = nx.length ∧ kv = .int .i64 (k : Nat) ∧ gv = .bool gr ∧ Hid (Vs m f W n S σ vs wr) ∧ Hid (Grw m f n σ0 σ i gr) ∧ Hid (gr = false → Tkn n σ o nx k) ∧ Hid (Rws n vs ov Bo o wr) ∧ Hid (Rws n vs nv Bn nx wr) ∧ Hid (gr = false → gr0 = false)
theorem nexts_len (x : In) (i : Nat) : (nexts x i).length ≤ 2 := by
  unfold nexts
  by_cases h1 : x.op = 10 ∨ x.op = 11
  · rw [if_pos h1]; simp
  · rw [if_neg h1]
    by_cases h2 : x.op = 12
    · rw [if_pos h2]; simp
    · rw [if_neg h2]
      by_cases h3 : x.op = 13
      · rw [if_pos h3]; simp
      · rw [if_neg h3]; simp
theorem Ss.mono {B B' n S : Nat} {σ : States} {vs : Nat → Value} {w : World} (h : Ss B n S σ vs w) (hB : B' ≤ B) : Ss B' n S σ vs w := ⟨Nat.le_trans hB h.lo, h.row, h.non, fun i s hi hs => (h.own i s hi hs).mono hB, h.dist⟩
/-- The region that asks l3after, with l3after's answer. -/
theorem reg17k {a0 : Act} {wr : World} {Q : Exit → Act → World → Prop} (M F cb co S i : Nat) (cp : Option Addr) (cn cc : Nat) (g : Int) (fp : Option Addr) (fn fc : Nat) (k0 : Int) (rp : Option Addr) (rl rc dl dc : Nat) (q : Option Addr) (l c n c6 : Nat) (m : Md) (f : Fn) (x : In) (s : List Nat) (hz : a0.tmps.size = 125) (h2 : sl a0 2 = .pointer (some ⟨M, 0, none⟩)) (h3 : sl a0 3 = .pointer (some ⟨F, 0, none⟩)) (h6 : sl a0 6 = .slice (some ⟨S, 0, none⟩) n c6) (h11 : sl a0 11 = .int .i64 (i : Int)) (hid : i < dl) (hin : i < n)
    (hS : ∀ wx, Below wr.heap.size wr wx → S17 M F cb co S i cp cn cc g fp fn fc k0 rp rl rc dl dc x.op x.a x.b q l c wx)
    (hC : Calls Tryz.prog 60 #[(.agg #[.slice cp cn cc, .int .i64 g, .slice fp fn fc]), (.agg #[.int .i64 k0, .slice rp rl rc, .slice (some ⟨cb, co, none⟩) dl dc]), (.agg #[.int .i64 x.op, .int .i64 x.a, .int .i64 x.b]), .slice q l c] wr.drew fun e w' => AfP m f x s wr.drew w' e)
    (hQ : ∀ v b w9, Below wr.heap.size wr w9 → (b = true ↔ fits m f x s) → (b = true → OwI w9 wr.heap.size v (outOf m f x s)) → Q .normal (fr17 a0 F cb co S i cp cn cc g fp fn fc k0 rp rl rc dl dc x.op x.a x.b q l c n c6 v b) w9) :
    (Code.region 17 ops17 true).wp Tryz.prog Q a0 wr := by
  have hb0 : Below wr.heap.size wr wr.drew := below_drewM (Below.refl _ _)
  refine Code.wp_mono (Q := Ends (fun a w9 => Q .normal a w9)) (fun e a w9 h => ?_) (reg17 M F cb co S i cp cn cc g fp fn fc k0 rp rl rc dl dc x.op x.a x.b q l c n c6 hz h2 h3 h6 h11 hid hin (hS _ hb0) (hC.mono ?_))
  · cases e with
    | normal => exact h
    | _ => exact h.elim
  · rintro e w1 ⟨v, b, rfl, hb1, hfit, hown⟩
    exact ⟨v, b, rfl, hS _ (hb0.trans hb1), hQ v b w1 (hb0.trans hb1) hfit hown⟩
set_option maxRecDepth 20000 in
set_option maxHeartbeats 8000000 in
theorem states_c (cp : Option Addr) (cn cc : Nat) (g : Int) (fp : Option Addr) (fn fc : Nat) (rp : Option Addr) (rl rc : Nat) (dp : Option Addr) (dl dc : Nat) (m : Md) (f : Fn) (w : World)
    (hcs : Dd w cp cn cc m.consts) (hne : ∀ i, i < m.consts.length → 0 < (m.consts.getD i []).length) (hfr : Bo w rp rl rc f.free) (hco : Ii w dp dl dc f.code) (hok : ∀ i, i < dl → InsOk m f (f.code.getD i in0)) (hd0 : 0 < dl) (hd1 : dl ≤ 5000) (hp0 : 0 ≤ f.params) (hp1 : f.params ≤ 20) :
    Calls Tryz.prog 34 #[.agg #[.slice cp cn cc, .int .i64 g, .slice fp fn fc], .agg #[.int .i64 f.params, .slice rp rl rc, .slice dp dl dc]] w fun e w' => StP m f w w' e := by
  have HCS := mkD hcs
  have HNE := mkD hne
  have HFR := mkD hfr
  have HCO := mkD hco
  have HOK := mkD hok
  have HDL : Hid (f.code.length = dl) := hco.len
  obtain ⟨cb, co, rfl, hcb, hcc⟩ := hco.cells hd0
  have HCC := mkD hcc
  obtain ⟨pn, hpn⟩ := Int.eq_ofNat_of_zero_le hp0
  have HPN : Hid (f.params = (pn : Int)) := hpn
  have hpb : pn ≤ 20 := by omega
  rw [hpn]
  obtain ⟨W, hW⟩ : ∃ W, W = (w.alloc (.cells #[.slice cp cn cc, .int .i64 g, .slice fp fn fc] 33)).alloc (.cells #[.int .i64 (pn : Int), .slice rp rl rc, .slice (some ⟨cb, co, none⟩) dl dc] 48) := ⟨_, rfl⟩
  have HBW : Hid (Below w.heap.size w W) := by unfold Hid; rw [hW]; exact below2 w _ _
  have hw1 : w.heap.size + 1 < W.heap.size := by rw [hW]; simp
  have HF : Hid (W.heap[w.heap.size + 1]? = some (.cells #[.int .i64 (pn : Int), .slice rp rl rc, .slice (some ⟨cb, co, none⟩) dl dc] 48)) := by
    unfold Hid
    rw [hW]
    have := Go.Deep.blk_alloc_new (w.alloc (.cells #[.slice cp cn cc, .int .i64 g, .slice fp fn fc] 33)) (.cells #[.int .i64 (pn : Int), .slice rp rl rc, .slice (some ⟨cb, co, none⟩) dl dc] 48)
    rwa [World.size_alloc] at this
  have HM : Hid (W.heap[w.heap.size]? = some (.cells #[.slice cp cn cc, .int .i64 g, .slice fp fn fc] 33)) := by
    unfold Hid
    rw [hW]
    exact ((below1 _ _).block w.heap.size (by simp)).trans (Go.Deep.blk_alloc_new _ _)
  obtain ⟨ii, hi1, hpr⟩ := Option.map_eq_some_iff.1 infoS
  simp only [Prod.mk.injEq] at hpr
  obtain ⟨hz, hs, hb⟩ := hpr
  have HI : Hid (Tryz.prog.info? 78 = some ii ∧ ii.zero = some (.agg #[.bool false, .slice none 0 0]) ∧ ii.size = 2 ∧ ii.bytes = 32) := ⟨hi1, hz, hs, hb⟩
  obtain ⟨f0, f1, f2, _, _, _⟩ := cells3 HF.out
  clear hi1 hz hs hb hcs hne hfr hco hok hpn hp0 hp1 hcc
  go_enter Tryz.func34, Tryz.ntmps34
  go_wp2_with (at_make; rw [← hW]; refine wpList_make_full _ rfl (.tmp 21) (.tmp 21) 74 rfl W.heap.size 78 ii _ 2 Tryz.underlying74 HI.out.1 HI.out.2.1 HI.out.2.2.1 .i64 .i64 dl dl dl (by simp [Act.eval]) (by simp [Act.eval]) rfl rfl (by rw [HI.out.2.2.2]; omega) (by unfold maxLen; omega) (Nat.le_refl _) ?_; clear hW; intro w0 ho hg; have HS0 : Hid (S1 W.heap.size dl 0 w0) := S1.made ho; have HB0 : Hid (Below W.heap.size W w0) := (Below.refl _ W).grown hg (Nat.le_refl _) (fun k h => by cases h); clear ho hg)
  go_loopw [7] (fun iv wr => ∃ i : Nat, i ≤ dl ∧ iv = .int .i64 i ∧ Hid (S1 W.heap.size dl i wr) ∧ Hid (Below W.heap.size W wr)) (fun iv _ => dl - (intOf iv).toNat)
  case atStart => exact ⟨0, Nat.zero_le _, rfl, HS0, HB0⟩
  case round =>
    clear HS0 HB0 w0
    obtain ⟨i, hi, rfl, hS, hB⟩ := hrel
    by_cases hlt : i < dl
    · obtain ⟨x0, x1, xf0, xf1⟩ := hS.out.cells hlt
      go_wp2
      exact ⟨⟨i + 1, by omega, by go_num, hS.out.step hlt, hB.out.setCell (Nat.le_refl _) _⟩, by simp [intOf]; omega⟩
    · obtain rfl : dl = i := by omega
      have HFr := mkD ((hB.out.block (w.heap.size + 1) (by omega)).trans HF.out)
      obtain ⟨e0, e1, e2, _, _, _⟩ := cells3 HFr.out
      go_wp2_with fail
      go_loopw [8, 9] (fun fv iv wq => ∃ (j : Nat) (p : Option Addr) (c : Nat), j ≤ pn ∧ fv = .slice p j c ∧ iv = .int .i64 j ∧ Hid (OwI wq W.heap.size (.slice p j c) (List.replicate j 255)) ∧ Hid (S1 W.heap.size dl dl wq) ∧ Hid (Below W.heap.size W wq)) (fun _ iv _ => pn - (intOf iv).toNat)
      case atStart => exact ⟨0, none, 0, Nat.zero_le _, rfl, rfl, ⟨rfl, Or.inl ⟨rfl, rfl⟩⟩, hS, hB⟩
      case round =>
        clear e0 e1 e2 HFr
        rename World => wq
        obtain ⟨j, p, c, hj, rfl, rfl, hO, hS', hB'⟩ := hrel
        have HFr := mkD ((hB'.out.block (w.heap.size + 1) (by omega)).trans HF.out)
        obtain ⟨e0, e1, e2, _, _, _⟩ := cells3 HFr.out
        by_cases hlt2 : j < pn
        · have HAL : Hid ((List.replicate j 255 ++ [255]).length = j + 1) := by unfold Hid; simp
          have HRS : Hid (List.replicate j 255 ++ [255] = List.replicate (j + 1) 255) := by unfold Hid; rw [List.replicate_succ']
          have hwq : W.heap.size ≤ wq.heap.size := hB'.out.size
          go_wp2_with (at_builtin; refine app1I_law _ rfl (.tmp 39) (.tmp 40) rfl W.heap.size (.slice p j c) (List.replicate j 255) 255 (by simp [Act.eval]) hO.out (by simp [Act.eval]) (by simp; omega) hwq ?_; intro v5 w5 ho5 hb5 hbt5; obtain ⟨p5, c5, hv5⟩ := ho5.form; rw [HAL.out] at hv5; subst hv5; rw [HRS.out] at ho5; have HO5 := mkD ho5; have HB5 := mkD hb5; have HBT := mkD hbt5; clear ho5 hb5 hbt5)
          refine ⟨⟨j + 1, p5, c5, by omega, rfl, by go_num, HO5, ?_, hB'.out.trans HB5.out⟩, by simp [intOf]; omega⟩
          obtain ⟨arr, ha, _⟩ := hS'.out
          exact hS'.out.keep (HBT.out _ (Array.getElem?_eq_some_iff.1 ha).1 (owns_ne hO.out ha (by decide)))
        · obtain rfl : pn = j := by omega
          obtain ⟨x0, x1, xf0, xf1⟩ := hS'.out.cells hd0
          have HV : Hid (Vs m f W dl W.heap.size (fun k => if k = 0 then some (List.replicate pn 255) else none) (fun k => if k = 0 then .slice p pn c else .slice none 0 0) ((wq.setCell ⟨W.heap.size, 0 * 2, none⟩ (.bool false)).setCell ⟨W.heap.size, 0 * 2 + 1, none⟩ (.slice p pn c))) := by
            have hgs : GoodS (List.replicate pn 255) := fun v hv => by rw [List.eq_of_mem_replicate hv]; exact ⟨by decide, by decide⟩
            have hfst : first f = List.replicate pn 255 := by unfold first; rw [HPN.out]; rfl
            refine ⟨(hS'.out.ss (Nat.le_refl _)).store hd0 rfl (fun _ _ _ _ e => by cases e) hO.out (fun _ _ _ _ _ e => by cases e), (hB'.out.setCell (Nat.le_refl _) _).setCell (Nat.le_refl _) _, fun k s _ hs => ?_, fun τ hτ k s hk hs => ?_, ⟨List.replicate pn 255, by simp, by rw [hfst]; exact Le.refl _⟩⟩
            · by_cases hk0 : k = 0
              · rw [if_pos hk0] at hs
                cases hs
                exact ⟨hgs, by simp; omega⟩
              · rw [if_neg hk0] at hs; cases hs
            · by_cases hk0 : k = 0
              · rw [if_pos hk0] at hs
                cases hs
                subst hk0
                rw [← hfst]
                exact hτ.start
              · rw [if_neg hk0] at hs; cases hs
          rw [Nat.zero_mul] at x0 x1 xf0 xf1
          obtain ⟨g0, hg0⟩ : ∃ g0, g0 + wt dl (fun k => if k = 0 then some (List.replicate pn 255) else none) = dl * 102201 := ⟨dl * 102201 - wt dl (fun k => if k = 0 then some (List.replicate pn 255) else none), by
            have := wt_bound dl (fun k => if k = 0 then some (List.replicate pn 255) else none) (fun i s hi hs => HV.out.good i s (by rw [HDL.out]; exact hi) hs)
            omega⟩
          have HG0 := mkD hg0
          clear hg0
          go_wp2_with fail
          clear hlt hlt2 hj hi hB hS e0 e1 e2
          go_loopg [] g0 (fun gk wr => V3 m f W dl W.heap.size gk wr)
          case atStart => exact ⟨_, _, HG0.out, HV⟩
          case round =>
            clear HV HG0 x0 x1 xf0 xf1 hO hS' hB' HFr
            obtain ⟨g3, hg3e⟩ : ∃ x : Nat, x = gk := ⟨gk, rfl⟩
            rw [← hg3e] at hrel
            obtain ⟨σ0, vs0, hg3, hV0⟩ := hrel
            have HG3 := mkD hg3
            clear hg3
            go_wp2_with fail
            go_loopg [10, 11] dl (fun gk gv iv wr => V4 m f W dl W.heap.size σ0 gk gv iv wr)
            case atStart => exact ⟨0, false, σ0, vs0, by omega, rfl, rfl, hV0, ⟨fun _ => ⟨fun _ _ => rfl, fun j hj => absurd hj (Nat.not_lt_zero j)⟩, fun e => (by cases e), Nat.le_refl _⟩⟩
            case round =>
              clear hV0
              obtain ⟨i, gr, σ, vs, hik, rfl, rfl, hV, hGr⟩ := hrel
              have HFr := mkD ((hV.out.bel.block (w.heap.size + 1) (by omega)).trans HF.out)
              have HMr := mkD ((hV.out.bel.block w.heap.size (by omega)).trans HM.out)
              have HBr : Hid (Below w.heap.size w wr) := HBW.out.trans (hV.out.bel.mono (by omega))
              obtain ⟨e0, e1, e2, _, _, _⟩ := cells3 HFr.out
              obtain ⟨d0, d1, d2, _, _, _⟩ := cells3 HMr.out
              by_cases hlt : i < dl
              · obtain ⟨x0, x1, xf0, xf1⟩ := hV.out.ss.cells hlt
                cases hs : σ i with
                | none =>
                  rw [hs] at x0
                  go_wp2_with fail
                  go_roundg (dl - (i + 1))
                  case measure => omega
                  case rel => exact ⟨i + 1, gr, σ, vs, by omega, by go_num, rfl, hV, hGr.out.skip hs⟩
                | some s =>
                  rw [hs] at x0
                  obtain ⟨p2, l2, c2, hv2, hvl2⟩ := hV.out.ss.form hlt
                  have hl2 := hvl2 s hs
                  subst hl2
                  rw [hv2] at x1
                  obtain ⟨y0, y1, y2⟩ := HCC.out i hlt
                  rw [← HBr.out.cell (p := ⟨cb, co + i * 3, none⟩) hcb] at y0
                  rw [← HBr.out.cell (p := ⟨cb, co + i * 3 + 1, none⟩) hcb] at y1
                  rw [← HBr.out.cell (p := ⟨cb, co + i * 3 + 2, none⟩) hcb] at y2
                  obtain ⟨x, hx⟩ : ∃ x, x = f.code.getD i in0 := ⟨_, rfl⟩
                  have HX := mkD hx
                  rw [← hx] at y0 y1 y2
                  have HIO : Hid (InsOk m f x) := by unfold Hid; rw [hx]; exact HOK.out i hlt
                  have HSI := mkD hs
                  have HV2 := mkD hv2
                  have HGS := mkD (hV.out.good i s (by rw [HDL.out]; exact hlt) hs)
                  have hs200 : s.length ≤ 200 := HGS.out.2
                  have HA3 : Hid (x.op = 0 → 0 < (m.consts.getD x.a.toNat []).length) := fun e => by
                    obtain ⟨_, _, ⟨h2, _⟩ | ⟨_, _, h3, h4⟩⟩ := HIO.out
                    · omega
                    · have hb0 : bnd m f x.op = m.consts.length := by unfold bnd; rw [if_pos e]
                      rw [hb0] at h4
                      exact HNE.out _ (by omega)
                  have HA5 : Hid (Ni wr.drew p2 s.length c2 s) := by
                    have h5 := hV.out.ss.own i s hlt hs
                    rw [hv2] at h5
                    exact h5.ni.below (below_drewM (Below.refl _ _))
                  clear hx hs hv2 hvl2
                  go_upto_region 17 with fail
                  go_cut [12, 13] from 46 to 121 (fun ov bv wc => V4a m f x s wr ov bv wc)
                  case first =>
                    have hsz := hV.out.bel.size
                    have hSl := hV.out.ss.lt
                    have hbs := HBr.out.size
                    have SK : Hid (∀ wx, Below wr.heap.size wr wx → (wx.cell? ⟨w.heap.size, 0, none⟩ = some (.slice cp cn cc) ∧ wx.cell? ⟨w.heap.size, 1, none⟩ = some (.int .i64 g) ∧ wx.cell? ⟨w.heap.size, 2, none⟩ = some (.slice fp fn fc) ∧ wx.cell? ⟨w.heap.size + 1, 0, none⟩ = some (.int .i64 (pn : Int)) ∧ wx.cell? ⟨w.heap.size + 1, 1, none⟩ = some (.slice rp rl rc) ∧ wx.cell? ⟨w.heap.size + 1, 2, none⟩ = some (.slice (some ⟨cb, co, none⟩) dl dc) ∧ wx.cell? ⟨cb, co + i * 3, none⟩ = some (.int .i64 x.op) ∧ wx.cell? ⟨cb, co + i * 3 + 1, none⟩ = some (.int .i64 x.a) ∧ wx.cell? ⟨cb, co + i * 3 + 2, none⟩ = some (.int .i64 x.b) ∧ wx.cell? ⟨W.heap.size, i * 2 + 1, none⟩ = some (.slice p2 s.length c2))) := fun wx hb => ⟨cell_keepD hb (by omega) d0, cell_keepD hb (by omega) d1, cell_keepD hb (by omega) d2, cell_keepD hb (by omega) e0, cell_keepD hb (by omega) e1, cell_keepD hb (by omega) e2, cell_keepD hb (by omega) y0, cell_keepD hb (by omega) y1, cell_keepD hb (by omega) y2, cell_keepD hb (by omega) x1⟩
                    have HAF : Hid (Calls Tryz.prog 60 #[.agg #[.slice cp cn cc, .int .i64 g, .slice fp fn fc], .agg #[.int .i64 (pn : Int), .slice rp rl rc, .slice (some ⟨cb, co, none⟩) dl dc], .agg #[.int .i64 x.op, .int .i64 x.a, .int .i64 x.b], .slice p2 s.length c2] wr.drew fun e w' => AfP m f x s wr.drew w' e) := after_c cp cn cc g fp fn fc pn rp rl rc (some ⟨cb, co, none⟩) dl dc p2 s.length c2 m f x s _ HIO.out (HCS.out.below (below_drewM HBr.out)) HA3.out (HFR.out.below (below_drewM HBr.out)) HA5.out hs200
                    have HCUR : Hid (Below wr.heap.size wr wr.drew) := below_drewM (Below.refl _ _)
                    have hix : (i : Int) < (dl : Int) := by omega
                    clear HIO HCS HA3 HFR HA5 hs200 HBr hV hGr HOK HCO HNE HCC HF HM HFr HMr HBW HG3 hsz hSl hbs hw1 HX HSI HV2 HGS x0 x1 xf0 xf1 y0 y1 y2 d0 d1 d2 e0 e1 e2 HPN HI hpb hcb HDL
                    refine reg17k w.heap.size (w.heap.size + 1) cb co W.heap.size i cp cn cc g fp fn fc (pn : Int) rp rl rc dl dc p2 s.length c2 dl dl m f x s rfl rfl rfl rfl rfl hlt hlt SK.out HAF.out ?_
                    intro v b w9 hb1 hfit hown
                    have HCUR : Hid (Below wr.heap.size wr w9) := hb1
                    have HFT := mkD hfit
                    have HOW := mkD hown
                    clear hb1 hfit hown SK HAF
                    simp only [fr17, Act.put, List.setIfInBounds_toArray, List.set_cons_succ, List.set_cons_zero]
                    go_wp2_with fail
                    go_meet
                    exact ⟨b, rfl, HCUR, HFT, HOW⟩
                  case rest =>
                    obtain ⟨b, rfl, hBc, hfit, hown⟩ := hcut
                    have HST : Hid (∀ τ, OkS m f τ → ∃ t, τ i = some t ∧ Le s t) := fun τ hτ => hV.out.le τ hτ i s (by rw [HDL.out]; exact hlt) HSI.out
                    have HVc := mkD (hV.out.below hBc.out)
                    have HBc : Hid (Below w.heap.size w wc) := HBr.out.trans (hBc.out.mono HBr.out.size)
                    cases b
                    · have HNO : Hid (¬ ∃ τ, OkS m f τ) := hV.out.none_ HDL.out hlt HGS.out.1 HST.out (fun hh => by have := hfit.out.2 (by rw [HX.out]; exact hh.1); cases this)
                      clear e0 e1 e2 d0 d1 d2 x0 x1 xf0 xf1 y0 y1 y2
                      go_wp2_with fail
                      exact bodyPost_ret (v := .tuple #[.slice none 0 0, .bool false]) (by simp [results, Tryz.results34, go_sem]) rfl (Or.inr ⟨HNO.out, rfl, HBc.out⟩)
                    · have HFI : Hid (fits m f (f.code.getD i in0) s) := by unfold Hid; rw [← HX.out]; exact hfit.out.1 rfl
                      obtain ⟨o, ho⟩ : ∃ o, o = outOf m f x s := ⟨_, rfl⟩
                      have HOE : Hid (o = outOf m f (f.code.getD i in0) s) := by unfold Hid; rw [← HX.out]; exact ho
                      have hro := hown.out rfl
                      rw [← ho] at hro
                      obtain ⟨q, d, hq⟩ := hro.form
                      subst hq
                      have HRO : Hid (Rws dl vs (.slice q o.length d) wr.heap.size o wc) := Rws.new hV.out.ss hro
                      have HGO : Hid (GoodS o) := by unfold Hid; rw [HOE.out]; exact good_out HGS.out.1 HFI.out
                      have ho200 : o.length ≤ 200 := by rw [HOE.out]; exact HFI.out.2.2
                      clear hro ho
                      have e0 := cell_keepD hBc.out (by have := hV.out.bel.size; omega) e0
                      have e1 := cell_keepD hBc.out (by have := hV.out.bel.size; omega) e1
                      have e2 := cell_keepD hBc.out (by have := hV.out.bel.size; omega) e2
                      have y0 := cell_keepD hBc.out (by have := HBr.out.size; omega) y0
                      have y1 := cell_keepD hBc.out (by have := HBr.out.size; omega) y1
                      have y2 := cell_keepD hBc.out (by have := HBr.out.size; omega) y2
                      go_wp2_with fail
                      refine (nexts_c m f x i HIO.out (by omega) wc).mono ?_
                      rintro e wn ⟨nv, rfl, hno, hnb⟩
                      obtain ⟨nx, hnx⟩ : ∃ nx, nx = nexts x i := ⟨_, rfl⟩
                      have HNX : Hid (nx = nexts (f.code.getD i in0) i) := by unfold Hid; rw [← HX.out]; exact hnx
                      have hnl : nx.length ≤ 2 := by rw [hnx]; exact nexts_len x i
                      rw [← hnx] at hno
                      obtain ⟨np, nc, hnv⟩ := hno.form
                      subst hnv
                      have HRN : Hid (Rws dl vs (.slice np nx.length nc) wc.heap.size nx wn) := Rws.new HVc.out.ss hno
                      have HRO2 := mkD (HRO.out.below hnb)
                      have HVn := mkD (HVc.out.below hnb)
                      have HS0 : Hid (gr = false → σ0 i = some s) := fun e => by rw [← (hGr.out.no e).1 i hlt]; exact HSI.out
                      clear hno hnb hnx e0 e1 e2 d0 d1 d2 x0 x1 xf0 xf1 y0 y1 y2 HRO HVc HBc
                      go_wp2_with fail
                      go_loopg [10, 15] nx.length (fun gk gv kv wq => V5 m f W dl W.heap.size σ0 i o nx (.slice q o.length d) (.slice np nx.length nc) wr.heap.size wc.heap.size gr gk gv kv wq)
                      case atStart => exact ⟨0, gr, σ, vs, by omega, rfl, rfl, HVn, hGr, fun _ k' hk' => absurd hk' (Nat.not_lt_zero k'), HRO2, HRN, fun e => e⟩
                      case round =>
                        clear HVn HRO2 HRN
                        obtain ⟨k, gr5, σ5, vs5, hkk, rfl, rfl, hV5, hGr5, hTk, hRo, hRn, hG0⟩ := hrel
                        have HB5 : Hid (Below w.heap.size w wr) := HBW.out.trans (hV5.out.bel.mono (by omega))
                        by_cases hk5 : k < nx.length
                        · obtain ⟨_, _, _, hc⟩ := hRn.out.own.cell
                          obtain ⟨gN, rfl, hgl, _, hcell⟩ := hc (by omega)
                          obtain ⟨n1, hn1⟩ : ∃ n1, n1 = nx.getD k 0 := ⟨_, rfl⟩
                          have HN1 := mkD hn1
                          have z0 := hcell k hk5
                          rw [← hn1] at z0
                          have HMEM : Hid (n1 ∈ nexts (f.code.getD i in0) i) := by
                            unfold Hid
                            rw [← HNX.out, hn1, List.getD_eq_getElem?_getD, List.getElem?_eq_getElem hk5]
                            exact List.getElem_mem hk5
                          have hcap := hRn.out.own.cell.2.1
                          clear hc hcell hn1
                          by_cases hn1l : n1 < dl
                          · have dd : decide ((dl : Int) ≤ (n1 : Int)) = false := decide_eq_false (by omega)
                            obtain ⟨x0, x1, xf0, xf1⟩ := hV5.out.ss.cells hn1l
                            obtain ⟨p3, l3, c3, hv3, hvl3⟩ := hV5.out.ss.form hn1l
                            have hJ := join_c W.heap.size dl W.heap.size σ5 vs5 n1 q d o _ wr hV5.out.ss hn1l (fun r hr => hV5.out.good n1 r (by rw [HDL.out]; exact hn1l) hr) hRo.out.own (fun b hb => hRo.out.dis n1 b hn1l hb) HGO.out ho200
                            obtain ⟨nb, hnb⟩ : ∃ nb, nb = (σ5 n1).isNone := ⟨_, rfl⟩
                            rw [← hnb] at x0
                            rw [← hnb, hv3] at hJ
                            rw [hv3] at x1
                            have HJ := mkD hJ
                            clear hJ hnb hvl3 hv3
                            go_wp2_with fail
                            refine HJ.out.mono ?_
                            rintro e w7 ⟨u, more, fit, rfl, hjo⟩
                            obtain ⟨pu, lu, cu, hu⟩ := hjo.form
                            subst hu
                            have HJO := mkD hjo
                            clear hjo HJ x0 x1 xf0 xf1
                            cases fit
                            · have HNO : Hid (¬ ∃ τ, OkS m f τ) := by
                                obtain ⟨r, hr, hne⟩ := HJO.out.bad rfl
                                exact hV5.out.none_ HDL.out hlt HGS.out.1 HST.out (fun hh => hne (by rw [HOE.out]; exact (hh.2 n1 HMEM.out).2 r hr))
                              have HB7 : Hid (Below w.heap.size w w7) := HB5.out.trans ((HJO.out.bel hV5.out.ss hn1l).mono (by omega))
                              go_wp2_with fail
                              exact bodyPost_ret (v := .tuple #[.slice none 0 0, .bool false]) (by simp [results, Tryz.results34, go_sem]) rfl (Or.inr ⟨HNO.out, rfl, HB7.out.trans ((below1 _ _).mono HB7.out.size)⟩)
                            · have HVP : Hid (∀ w8, Below w7.heap.size w7 w8 → Vs m f W dl W.heap.size (put σ5 n1 o) (fun j => if j = n1 then .slice pu lu cu else vs5 j) ((w8.setCell ⟨W.heap.size, n1 * 2, none⟩ (.bool false)).setCell ⟨W.heap.size, n1 * 2 + 1, none⟩ (.slice pu lu cu))) := fun w8 hb => by
                                have h := HJO.out
                                rw [HOE.out] at h ⊢
                                exact hV5.out.puts HDL.out hlt HGS.out.1 HST.out HFI.out hn1l HMEM.out h hb
                              have HRP : Hid (∀ w8, Below w7.heap.size w7 w8 → Rws dl (fun j => if j = n1 then .slice pu lu cu else vs5 j) (.slice q o.length d) _ o ((w8.setCell ⟨W.heap.size, n1 * 2, none⟩ (.bool false)).setCell ⟨W.heap.size, n1 * 2 + 1, none⟩ (.slice pu lu cu))) := fun w8 hb => hRo.out.step hV5.out.ss hn1l HJO.out hb
                              have HRQ : Hid (∀ w8, Below w7.heap.size w7 w8 → Rws dl (fun j => if j = n1 then .slice pu lu cu else vs5 j) (.slice (some ⟨gN, 0, none⟩) nx.length nc) _ nx ((w8.setCell ⟨W.heap.size, n1 * 2, none⟩ (.bool false)).setCell ⟨W.heap.size, n1 * 2 + 1, none⟩ (.slice pu lu cu))) := fun w8 hb => hRn.out.step hV5.out.ss hn1l HJO.out hb
                              have HGP := mkD (hGr5.out.puts hn1l (HJO.out.len rfl) (HJO.out.more rfl) HN1.out.symm hTk.out)
                              obtain ⟨arr, harr, harc⟩ := hV5.out.ss.row
                              have hSl := hV5.out.ss.lt
                              have hSw := hV5.out.ss.old hn1l
                              have h7S : w7.heap[W.heap.size]? = some (.cells arr 78) := (HJO.out.sx.block _ hSl (fun e => (hSw _ e).2.2 rfl)).trans harr
                              have hlt7 : W.heap.size < w7.heap.size := Nat.lt_of_lt_of_le hSl HJO.out.sx.size
                              obtain ⟨ha0, ha1⟩ := harc n1 hn1l
                              have s0 : w7.cell? ⟨W.heap.size, n1 * 2, none⟩ = some (.bool (σ5 n1).isNone) := by simp [World.cell?, h7S, ha0]
                              have s1 : w7.cell? ⟨W.heap.size, n1 * 2 + 1, none⟩ = some (vs5 n1) := by simp [World.cell?, h7S, ha1]
                              have t0 : w7.frozen? ⟨W.heap.size, n1 * 2, none⟩ = false := by simp [World.frozen?, h7S]
                              have t1 : w7.frozen? ⟨W.heap.size, n1 * 2 + 1, none⟩ = false := by simp [World.frozen?, h7S]
                              obtain ⟨_, _, _, hc7⟩ := (hRn.out.own.other HJO.out.sx (fun b hb => hRn.out.dis n1 b hn1l hb)).cell
                              obtain ⟨g7, hg7e, hg7, _, hcell7⟩ := hc7 (by omega)
                              cases hg7e
                              have z7 := hcell7 k hk5
                              rw [← HN1.out] at z7
                              clear harr harc h7S ha0 ha1 hc7 hcell7 z0 hSw
                              have HK5 := mkD hk5
                              cases gr5
                              · go_wp2_with fail
                                go_region
                                all_goals go_wp2_with fail
                                all_goals
                                  go_roundg (nx.length - (k + 1))
                                  case measure => omega
                                  case rel => exact ⟨k + 1, more, put σ5 n1 o, fun j => if j = n1 then .slice pu lu cu else vs5 j, (by have := HK5.out; omega), by go_num, rfl, (HVP.out w7 (Below.refl _ _)).below (below_drewM (below1 _ _)), HGP.out.1, HGP.out.2, (HRP.out w7 (Below.refl _ _)).below (below_drewM (below1 _ _)), (HRQ.out w7 (Below.refl _ _)).below (below_drewM (below1 _ _)), fun _ => by simpa using hG0.out⟩
                              · go_wp2_with fail
                                go_region
                                all_goals go_wp2_with fail
                                all_goals
                                  go_roundg (nx.length - (k + 1))
                                  case measure => omega
                                  case rel => exact ⟨k + 1, true, put σ5 n1 o, fun j => if j = n1 then .slice pu lu cu else vs5 j, (by have := HK5.out; omega), by go_num, rfl, (HVP.out w7 (Below.refl _ _)).below (below_drewM (below1 _ _)), HGP.out.1, fun e => (by cases e), (HRP.out w7 (Below.refl _ _)).below (below_drewM (below1 _ _)), (HRQ.out w7 (Below.refl _ _)).below (below_drewM (below1 _ _)), fun e => (by cases e)⟩
                          · have dd : decide ((dl : Int) ≤ (n1 : Int)) = true := decide_eq_true (by omega)
                            have HNO : Hid (¬ ∃ τ, OkS m f τ) := hV5.out.none_ HDL.out hlt HGS.out.1 HST.out (fun hh => hn1l (hh.2 n1 HMEM.out).1)
                            go_wp2_with fail
                            exact bodyPost_ret (v := .tuple #[.slice none 0 0, .bool false]) (by simp [results, Tryz.results34, go_sem]) rfl (Or.inr ⟨HNO.out, rfl, HB5.out⟩)
                        · have HGN := mkD (hGr5.out.next HDL.out hlt (fun e => HS0.out (hG0.out e)) HFI.out (fun e => by have h1 := hTk.out e; rw [show k = nx.length by omega] at h1; rw [← HOE.out, ← HNX.out]; exact h1))
                          go_wp2_with fail
                          go_roundg (dl - (i + 1))
                          case measure => omega
                          case rel => exact ⟨i + 1, gr5, σ5, vs5, by omega, by go_num, rfl, hV5, HGN⟩
              · cases gr
                · have HL := mkD (hV.out.least HDL.out (by have h1 := hGr.out; rwa [show i = dl by omega] at h1))
                  have HSS := mkD (hV.out.ss.mono (B' := w.heap.size) (by omega))
                  go_wp2_with fail
                  refine bodyPost_ret (v := .tuple #[.slice (some ⟨W.heap.size, 0, none⟩) dl dl, .bool true]) (by simp [results, Tryz.results34, go_sem]) rfl (Or.inl ⟨W.heap.size, σ, vs, by rw [HDL.out], by rw [HDL.out]; exact HSS.out, HL.out, HBr.out⟩)
                · have hgw := hGr.out.yes rfl
                  have hgb := wt_bound dl σ (fun j s hj hs => hV.out.good j s (by rw [HDL.out]; exact hj) hs)
                  have hg3' := HG3.out
                  go_wp2_with fail
                  go_roundg (dl * 102201 - wt dl σ)
                  case measure => omega
                  case rel => exact ⟨σ, vs, by omega, hV⟩
end Vf
end Go.Proofs.YtdjdhjciealfhaaGreatDoor
