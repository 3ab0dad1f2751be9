import Derived.Test.YtmmkpmgidoelpaaDoorCe
import Derived.Deep.Cut
namespace Go.Proofs.YtmmkpmgidoelpaaDoor.Hp
open Go.RowKit Ch2 Go.Maps
/-- At the loop's head: k objects are moved. -/
def CoLoop (w : World) (cb mb g : Nat) (p : Option Addr) (n c T : Nat) (ws rs : List Int) (q : Option Addr) (rn d : Nat) (zs : List Int) (pv : Value) (wr : World) : Prop := ∃ (k a : Nat) (xs : List Int) (D : DataW Unit), a ≤ n ∧ pv = .int .i64 (a : Int) ∧ Hid (k ≤ (stage ws rs k).ord.length) ∧ Hid (a = offs ws (stage ws rs k).ord k) ∧ Hid (Cst wr cb mb g p n c T ws (stage ws rs k) xs k 0 D) ∧ Hid (RtQ wr cb mb g (w.heap.size + 2) q rn d zs) ∧ Hid (BxW wr (w.heap.size + 1) none 0 0 0) ∧ Hid (Below w.heap.size w wr)
theorem coP_none {ws : List Int} {top : Int} {rs : List Int} {w w' : World} (h : ¬ GoodR ws top rs) (hb : Below w.heap.size w w') : CoP ws top rs w w' (.returned (.tuple #[.agg #[.slice none 0 0, .int .i64 0], .slice none 0 0, .int .i64 1])) := by
  have hnil : ∀ w : World, Is w (none : Option Addr) 0 0 [] := fun w => ⟨rfl, Nat.le_refl _, Nat.zero_le _, fun i => (by simp), fun h => absurd h (Nat.lt_irrefl 0)⟩
  exact ⟨Option.none, 0, 0, [], 0, Option.none, 0, 0, [], 1, rfl, Or.inl ⟨h, rfl, rfl, rfl, rfl⟩, hnil _, hnil _, ⟨w.heap.size, Nat.le_refl _, hb.size, Or.inl ⟨fun h => absurd h (Nat.lt_irrefl 0), fun h => absurd h (Nat.lt_irrefl 0)⟩⟩, hb⟩
theorem coP_some {ws : List Int} {T : Nat} {rs : List Int} {w w' : World} {cb mb g n c d rn K B : Nat} {p q : Option Addr} {xs zs : List Int} {D : DataW Unit} (hG : GoodR ws (T : Int) rs) (hC : Cst w' cb mb g p n c T ws (stage ws rs K) xs K 0 D) (hK : (stage ws rs K).ord.length = K) (hR : RtQ w' cb mb g B q rn d zs) (hZ : Gone (stage ws rs 0).mv rs zs rn) (hl : rs.length = rn) (hd : rn ≤ d) (hd2 : d ≤ maxLen) (hB : w.heap.size ≤ B) (hgB : w.heap.size ≤ g) (hb : Below w.heap.size w w') (hrr : ∀ i, -9223372036854775808 ≤ rs.getD i 0 ∧ rs.getD i 0 ≤ 9223372036854775807) : CoP ws (T : Int) rs w w' (.returned (.tuple #[.agg #[.slice (some ⟨g, 0, none⟩) n n, .int .i64 ((stage ws rs K).top : Int)], .slice q rn d, .int .i64 0])) := by
  have hlen := hC.src.len
  have hT : T ≤ n := by have := hG.good.hi; omega
  have hn : n ≤ 20000 := by have := hG.good.size; omega
  have htf := top_fit hG.good hC.inv
  have hmr : ∀ j, -1 ≤ (stage ws rs K).mv j ∧ (stage ws rs K).mv j ≤ 20000 := fun j => ⟨hC.inv.lo j, by have := hC.inv.mv_le j; omega⟩
  have hz : zs = rs.map (mvd (stage ws rs K).mv) := by
    refine list_ext_getD (by rw [hZ.len, List.length_map]) (fun j hj => ?_)
    rw [hZ.len] at hj
    rw [hZ.at_ j hj, if_pos (by omega)]
    have hmg : (rs.map (mvd (stage ws rs K).mv)).getD j 0 = mvd (stage ws rs K).mv (rs.getD j 0) := by simp [List.getD, List.getElem?_eq_getElem hj]
    rw [hmg]
    refine mvd_same (fun e => ?_)
    have h0 := hZ.set j hj (by omega) e
    have h1 := stage_keep (ws := ws) (rs := rs) (k := 0) h0 K
    rw [Nat.zero_add] at h1
    exact h1.symm
  have hzl : zs.length = rn := by rw [hZ.len]; exact hl
  have hgl := hC.fr.lt
  refine ⟨_, n, n, xs, _, q, rn, d, zs, 0, rfl, Or.inr ⟨hG, K, hK, by simpa using hC.inv, by rw [hC.pl.len]; exact hlen.symm, ?_, rfl, hz, rfl⟩, hC.fr.is (hC.pl.rng hC.inv hC.src.rng hmr), ?_, ?_, hb⟩
  · rw [hlen]; exact hC.pl.done hC.inv hK
  · by_cases h0 : 0 < rn
    · obtain ⟨r, rfl, _, _, _, _, hF⟩ := hR h0
      refine hF.is ?_
      rw [hz]; exact map_rng hrr hmr
    · obtain rfl : rn = 0 := by omega
      obtain rfl : zs = [] := List.eq_nil_of_length_eq_zero hzl
      exact ⟨rfl, hd, hd2, fun i => (by simp), fun h => absurd h (Nat.lt_irrefl 0)⟩
  · by_cases h0 : 0 < rn
    · obtain ⟨r, rfl, h1, _, _, h4, hF⟩ := hR h0
      have hrl := hF.lt
      rcases Nat.lt_or_ge g r with h5 | h5
      · exact ⟨r, by omega, by omega, Or.inl ⟨hC.fr.wr hgB h5, hF.wr (Nat.le_refl _) hrl⟩⟩
      · exact ⟨g, hgB, by omega, Or.inr ⟨hC.fr.wr (Nat.le_refl _) hgl, hF.wr (by omega) (by omega)⟩⟩
    · exact ⟨w'.heap.size, hb.size, Nat.le_refl _, Or.inl ⟨hC.fr.wr hgB hgl, fun h => absurd h h0⟩⟩
theorem al1 (w : World) (o : Obj) : (w.alloc o).heap[w.heap.size]? = some o := by
  have e : (w.alloc o).heap = w.heap.push o := rfl
  rw [e]; simp
theorem al3 (w : World) (o1 o2 o3 : Obj) : (((w.alloc o1).alloc o2).alloc o3).drew.heap[w.heap.size]? = some o1 ∧ (((w.alloc o1).alloc o2).alloc o3).drew.heap[w.heap.size + 1]? = some o2 ∧ (((w.alloc o1).alloc o2).alloc o3).drew.heap[w.heap.size + 1 + 1]? = some o3 := by
  have e : (((w.alloc o1).alloc o2).alloc o3).drew.heap = ((w.heap.push o1).push o2).push o3 := rfl
  rw [e]
  have h1 : ¬ w.heap.size = w.heap.size + 1 + 1 := by omega
  have h2 : ¬ w.heap.size = w.heap.size + 1 := by omega
  refine ⟨?_, ?_, ?_⟩
  · rw [Array.getElem?_push, Array.size_push, Array.size_push, if_neg h1, Array.getElem?_push, Array.size_push, if_neg h2, Array.getElem?_push, if_pos rfl]
  · rw [Array.getElem?_push, Array.size_push, Array.size_push, if_neg (by omega), Array.getElem?_push, Array.size_push, if_pos rfl]
  · rw [Array.getElem?_push, Array.size_push, Array.size_push, if_pos rfl]
theorem colaid_mk {w1 wc : World} {p : Option Addr} {n c T : Nat} (cb mb g : Nat) (t : TypeId) (h1 : wc.heap[cb]? = some (.cells #[.slice p n c, .int .i64 (T : Int), .slice (some ⟨g, 0, none⟩) n n, .int .i64 0, .map (some mb)] t)) (h2 : wc.heap[mb]? = some (.map #[] 0)) (h3 : wc.heap[g]? = some (.cells (madeCells #[.int .i64 0] n) 3)) (d1 : cb ≠ g) (d2 : cb ≠ mb) (d3 : g ≠ mb) (l1 : w1.heap.size ≤ cb) (l2 : w1.heap.size ≤ mb) (l3 : w1.heap.size ≤ g) (hn : n ≤ 20000) (hb : Below w1.heap.size w1 wc) : CoLaid w1 p n c T (.pointer (some ⟨cb, 0, none⟩)) wc := by
  refine ⟨cb, mb, g, rfl, ⟨?_, ?_, ⟨?_, ?_, (Array.getElem?_eq_some_iff.1 h1).1, ?_, ?_⟩, ?_, ?_⟩, ?_, d1, d2, d3, l1, l2, l3, hb⟩
  · simp [World.cell?, h1]
  · simp [World.cell?, h1]
  · simp [World.cell?, h1]
  · simp [World.cell?, h1]
  · simp [World.frozen?, h1]
  · simp [World.frozen?, h1]
  · simp [World.cell?, h1]
  · obtain ⟨es, st, hh, rr⟩ := World.ownsMap_made w1 Tryd.prog 3 (plainElem (H := Unit) Tryd.prog 3)
    have e : (w1.alloc (.map #[] 0)).heap[w1.heap.size]? = some (.map #[] 0) := al1 _ _
    rw [e] at hh
    exact ⟨es, st, by rw [h2]; exact hh, rr⟩
  · obtain ⟨cur, hc, hs, hf⟩ := World.rowIs_made w1 (.int .i64 0) n 3
    have e : (w1.alloc (.cells (madeCells #[.int .i64 0] n) 3)).heap[w1.heap.size]? = some (.cells (madeCells #[.int .i64 0] n) 3) := al1 _ _
    rw [e] at hc
    refine ⟨⟨_, ⟨cur, by rw [h3]; exact hc, hs, hf⟩, fun j hj => ?_⟩, Nat.le_refl _, by unfold maxLen; omega, by simp⟩
    simp [List.getD, hj]
theorem below3d (w : World) (o o2 o3 : Obj) : Below w.heap.size w (((w.alloc o).alloc o2).alloc o3).drew := below_drew (below3 w o o2 o3)
set_option maxRecDepth 20000 in
set_option maxHeartbeats 8000000 in
theorem implCollect_c (p : Option Addr) (n c : Nat) (top : Int) (ws : List Int) (rp : Option Addr) (rn rc : Nat) (rs : List Int) (w : World) (hI : Is w p n c ws) (ht0 : -9223372036854775808 ≤ top) (ht1 : top ≤ 9223372036854775807) (hR : Is w rp rn rc rs) :
    Calls Tryd.prog 7 #[.agg #[.slice p n c, .int .i64 top], .slice rp rn rc] w fun e w' => CoP ws top rs w w' e := by
  have HI : Hid (Is w p n c ws) := hI
  have HR : Hid (Is w rp rn rc rs) := hR
  have hlen : Hid (ws.length = n) := hI.len
  have hrl : Hid (rs.length = rn) := hR.len
  clear hI hR
  go_enter Tryd.func7, Tryd.ntmps7
  go_wp2_with fail
  refine (implValidHeap_c p n c top ws rp rn rc rs _ (by exact HI.out.below (below2 _ _ _)) ht0 ht1 (by exact HR.out.below (below2 _ _ _))).mono ?_
  rintro e w1 ⟨b, rfl, hbb, hb1⟩
  have HB1 : Hid (Below w.heap.size w w1) := below_alloc (below_alloc hb1)
  have HR1 : Hid (BxW w1 (w.heap.size + 1) none 0 0 0) := by
    have := (BxW.new (w.alloc (.cells #[.slice p n c, .int .i64 top] 25)) none 0 0 0 25).below hb1
    unfold Hid; simpa using this
  have HA1 : Hid (Bx w1 w.heap.size p n c top) := ((Bx.new w p n c top _).below (below1 _ _)).below hb1
  have hsz1 : w.heap.size + 2 ≤ w1.heap.size := by have := HR1.out.bx.lt; omega
  clear hb1
  cases b
  · have HN : Hid (¬ GoodR ws top rs) := fun h => by have := hbb.2 h; cases this
    have r0 := HR1.out.bx.c0
    have r1 := HR1.out.bx.c1
    have rf0 := HR1.out.f0
    have rf1 := HR1.out.f1
    clear hbb
    go_wp2
    exact bodyPost_ret (v := .tuple #[.agg #[.slice none 0 0, .int .i64 0], .slice none 0 0, .int .i64 1]) (by simp [results, Tryd.results7, go_sem, r0, r1]) rfl (coP_none HN.out ((HB1.out.setCell (p := ⟨w.heap.size + 1, 0, none⟩) (by simp) (.slice none 0 0)).setCell (p := ⟨w.heap.size + 1, 1, none⟩) (by simp) (.int .i64 0)))
  · have hg := hbb.1 rfl
    obtain ⟨T, rfl⟩ := Int.eq_ofNat_of_zero_le hg.good.lo
    have HG : Hid (GoodR ws T rs) := hg
    have hn2 : n ≤ 20000 := by have := hg.good.size; rw [hlen.out] at this; exact this
    have hT : T ≤ n := by have := hg.good.hi; rw [hlen.out] at this; omega
    have hrn2 : rn ≤ 20000 := by have := hg.few; rw [hrl.out] at this; exact this
    have a0 := HA1.out.c0
    have a1 := HA1.out.c1
    clear hbb hg
    have hmk := run_make_row' (P := Tryd.prog) 23 3 (.int .i64 0) 8 Tryd.underlying23 info3 rfl .i64 .i64 n (by omega) (by omega)
    go_wp2_with fail
    have hmm := @run_makeMap Tryd.prog
    have q10 : ∀ o1, (w1.alloc o1).cell? ⟨w.heap.size, 0, none⟩ = some (.slice p n c) := fun o1 => (HA1.out.below (below1 _ _)).c0
    have q11 : ∀ o1, (w1.alloc o1).cell? ⟨w.heap.size, 1, none⟩ = some (.int .i64 T) := fun o1 => (HA1.out.below (below1 _ _)).c1
    have q20 : ∀ o1 o2, ((w1.alloc o1).alloc o2).cell? ⟨w.heap.size, 0, none⟩ = some (.slice p n c) := fun o1 o2 => ((HA1.out.below (below1 _ _)).below (below1 _ _)).c0
    have q21 : ∀ o1 o2, ((w1.alloc o1).alloc o2).cell? ⟨w.heap.size, 1, none⟩ = some (.int .i64 T) := fun o1 o2 => ((HA1.out.below (below1 _ _)).below (below1 _ _)).c1
    have q30 : ∀ o1 o2 o3, (((w1.alloc o1).alloc o2).alloc o3).cell? ⟨w.heap.size, 0, none⟩ = some (.slice p n c) := fun o1 o2 o3 => (((HA1.out.below (below1 _ _)).below (below1 _ _)).below (below1 _ _)).c0
    have q31 : ∀ o1 o2 o3, (((w1.alloc o1).alloc o2).alloc o3).cell? ⟨w.heap.size, 1, none⟩ = some (.int .i64 T) := fun o1 o2 o3 => (((HA1.out.below (below1 _ _)).below (below1 _ _)).below (below1 _ _)).c1
    go_cut [7] from 15 (fun v wc => CoLaid w1 p n c T v wc)
    case first =>
      go_region
      all_goals go_wp2_with fail
      all_goals go_meet
      all_goals clear hmm hmk q10 q11 q20 q21 q30 q31 a0 a1
      · exact colaid_mk (w1.heap.size + 1 + 1) (w1.heap.size + 1) w1.heap.size _ (al3 _ _ _ _).2.2 (al3 _ _ _ _).2.1 (al3 _ _ _ _).1 (by omega) (by omega) (by omega) (by omega) (by omega) (by omega) hn2 (below3d _ _ _ _)
      · exact colaid_mk (w1.heap.size + 1) (w1.heap.size + 1 + 1) w1.heap.size _ (al3 _ _ _ _).2.1 (al3 _ _ _ _).2.2 (al3 _ _ _ _).1 (by omega) (by omega) (by omega) (by omega) (by omega) (by omega) hn2 (below3d _ _ _ _)
      · exact colaid_mk (w1.heap.size + 1 + 1) w1.heap.size (w1.heap.size + 1) _ (al3 _ _ _ _).2.2 (al3 _ _ _ _).1 (al3 _ _ _ _).2.1 (by omega) (by omega) (by omega) (by omega) (by omega) (by omega) hn2 (below3d _ _ _ _)
      · exact colaid_mk (w1.heap.size + 1) w1.heap.size (w1.heap.size + 1 + 1) _ (al3 _ _ _ _).2.1 (al3 _ _ _ _).1 (al3 _ _ _ _).2.2 (by omega) (by omega) (by omega) (by omega) (by omega) (by omega) hn2 (below3d _ _ _ _)
      · exact colaid_mk w1.heap.size (w1.heap.size + 1 + 1) (w1.heap.size + 1) _ (al3 _ _ _ _).1 (al3 _ _ _ _).2.2 (al3 _ _ _ _).2.1 (by omega) (by omega) (by omega) (by omega) (by omega) (by omega) hn2 (below3d _ _ _ _)
      · exact colaid_mk w1.heap.size (w1.heap.size + 1) (w1.heap.size + 1 + 1) _ (al3 _ _ _ _).1 (al3 _ _ _ _).2.1 (al3 _ _ _ _).2.2 (by omega) (by omega) (by omega) (by omega) (by omega) (by omega) hn2 (below3d _ _ _ _)
    case rest =>
      obtain ⟨cb, mb, g, rfl, hcp, hfr, d1, d2, d3, l1, l2, l3, hbc⟩ := hcut
      have HBC : Hid (Below w1.heap.size w1 wc) := hbc
      have HBW : Hid (Below w.heap.size w wc) := HB1.out.trans (hbc.mono HB1.out.size)
      have hplt : Hid (∀ a, p = some a → 0 < n → a.block < w.heap.size) := fun a ha h0 => by
        obtain ⟨b, o, e, hlt, _⟩ := HI.out.cells h0
        rw [ha] at e; cases e; exact hlt
      have HAP : Hid (Apart cb mb g p n) := ⟨d1, d2, d3, fun h0 a ha => by have := hplt.out a ha h0; omega⟩
      have HC : Hid (Cst wc cb mb g p n c T ws cs0 (List.replicate n 0) 0 0 (.map [])) := ⟨hcp, MapIs.zero, hfr, Pl.zero ws n, inv0 ws T, HI.out.below HBW.out⟩
      have HRC : Hid (BxW wc (w.heap.size + 1) none 0 0 0) := HR1.out.below hbc
      have hsz2 := hbc.size
      clear hcp hfr hbc hmk hmm q10 q11 q20 q21 q30 q31 a0 a1
      go_wp2_with fail
      refine (clone_any rp rn rc rs _ (HR.out.below HBW.out) (by omega)).mono ?_
      rintro e w2 ⟨q, d, rfl, hd1, hd2, hq, hb2⟩
      have HB2 : Hid (Below w.heap.size w w2) := HBW.out.trans (hb2.mono HBW.out.size)
      have HC2 : Hid (Cst w2 cb mb g p n c T ws cs0 (List.replicate n 0) 0 0 (.map [])) := HC.out.below hb2
      have HRC2 : Hid (BxW w2 (w.heap.size + 1) none 0 0 0) := HRC.out.below hb2
      have hcl := HC.out.cp.to.lt
      have hml := HC.out.cp.own.lt
      have hgl := HC.out.fr.lt
      have HRT2 : Hid (RtQ w2 cb mb g (w.heap.size + 2) q rn d rs) := fun h0 => by
        obtain ⟨r, e, h1, h2⟩ := hq h0
        exact ⟨r, e, by omega, by omega, by omega, by omega, h2⟩
      have HQ4 : Hid (∀ r, q = some ⟨r, 0, none⟩ → 0 < rn → 0 < n → ∀ a, p = some a → a.block ≠ r) := fun r hr h0 h1 a ha => by
        obtain ⟨r', e, h2, _⟩ := hq h0
        rw [hr] at e; cases e
        have := hplt.out a ha h1; omega
      have hsz3 := hb2.size
      clear hq hb2 HC HRC
      go_wp2_with fail
      refine (moveRoots_c cb mb g n c T d rn (w.heap.size + 2) p q ws rs _ _ _ HC2.out HAP.out HG.out HRT2.out hrl.out HQ4.out (by omega) (by omega) (by omega) (by omega)).mono ?_
      rintro e w3 ⟨rfl, xs0, D0, zs, hC3, hR3, hZ, hb3⟩
      have HC3 : Hid (Cst w3 cb mb g p n c T ws (stage ws rs 0) xs0 0 0 D0) := hC3
      have HRT3 : Hid (RtQ w3 cb mb g (w.heap.size + 2) q rn d zs) := hR3
      have HZ : Hid (Gone (stage ws rs 0).mv rs zs rn) := hZ
      have HB3 : Hid (Below w.heap.size w w3) := HB2.out.trans (hb3.mono (by omega))
      have HRC3 : Hid (BxW w3 (w.heap.size + 1) none 0 0 0) := by
        have hq := hb3.block (w.heap.size + 1) (by omega)
        have h := HRC2.out
        refine ⟨⟨?_, ?_, ?_⟩, ?_, ?_⟩
        · rw [World.cell?_of_block (w := w2) hq]; exact h.bx.c0
        · rw [World.cell?_of_block (w := w2) hq]; exact h.bx.c1
        · have := hb3.size; omega
        · rw [World.frozen?_of_block (w := w2) hq]; exact h.f0
        · rw [World.frozen?_of_block (w := w2) hq]; exact h.f1
      clear hC3 hR3 hZ hb3 HC2 HRC2 HRT2
      go_wp2_with fail
      go_loopw [9] (fun pv wr => CoLoop w cb mb g p n c T ws rs q rn d zs pv wr) (fun pv _ => n + 1 - (intOf pv).toNat)
      case atStart =>
        exact ⟨0, 0, xs0, D0, Nat.zero_le _, rfl, Nat.zero_le _, by unfold Hid; simp [offs], HC3, HRT3, HRC3, HB3⟩
      case round =>
        obtain ⟨k, a, xs, D, han, rfl, hk, ha, hC, hRT, hRC, hB⟩ := hrel
        have hinv := hC.out.inv
        obtain ⟨htp, hol⟩ := top_fit HG.out.good hinv
        obtain ⟨t, ht⟩ : ∃ t, (stage ws rs k).top = t := ⟨_, rfl⟩
        have HT : Hid ((stage ws rs k).top = t) := ht
        have v0 := hC.out.cp.to.c0
        have v1 := hC.out.cp.to.c1
        have hmr : Hid (∀ j, -1 ≤ (stage ws rs k).mv j ∧ (stage ws rs k).mv j ≤ 20000) := fun j => ⟨hinv.lo j, by have := hinv.mv_le j; omega⟩
        have HXI : Hid (Is wr (some ⟨g, 0, none⟩) n n xs) := hC.out.fr.is (hC.out.pl.rng hinv HI.out.rng hmr.out)
        rw [ht] at v1 htp
        by_cases hlast : k < (stage ws rs k).ord.length
        · have hin0 := offs_in ws (stage ws rs k).ord hlast (Nat.zero_le _)
          obtain ⟨q0, hq0⟩ : ∃ q0, (stage ws rs k).ord.getD k 0 = q0 := ⟨_, rfl⟩
          obtain ⟨m, hm⟩ : ∃ m, cnt (ws.getD q0 0) = m := ⟨_, rfl⟩
          have hinm := offs_in ws (stage ws rs k).ord hlast (b := m) (by rw [hq0, hm]; exact Nat.le_refl _)
          have htop := hinv.top
          have hst : St ws T q0 := hinv.st _ (by rw [← hq0]; simp [List.getD, List.getElem?_eq_getElem hlast])
          obtain ⟨hhd, _⟩ := head_fit HG.out.good hst
          obtain ⟨_, _, hc1, hc2⟩ := head_cnt hhd
          rw [hm] at hc1 hc2
          have hhx : xs.getD a 0 = ws.getD q0 0 := by
            have := hC.out.pl.obj k hlast 0 (Nat.zero_le _)
            rw [Nat.add_zero, ← ha.out] at this
            rw [this]; unfold valP; rw [if_pos rfl, hq0]
          have hx4 : xs.getD a 0 / 4 = (m : Int) := by rw [hhx]; exact hc2.symm
          have HX4 : Hid (xs.getD a 0 / 4 = (m : Int)) := hx4
          have hat : a < t := by rw [← ht, htop, ha.out]; omega
          have hfit : a + 1 + m ≤ n := by rw [ha.out]; rw [htop] at ht; omega
          have hdec : decide ((a : Int) < (t : Int)) = true := decide_eq_true (by omega)
          have HQ0 : Hid ((stage ws rs k).ord.getD k 0 = q0) := hq0
          have HM : Hid (cnt (ws.getD q0 0) = m) := hm
          have HLAST : Hid (k < (stage ws rs k).ord.length) := hlast
          have HOL : Hid ((stage ws rs k).ord.length ≤ n) := by unfold Hid; omega
          clear hin0 hinm htop hst hhd hc2 hhx hx4 hinv hol ht hq0 hm hlast
          go_wp2_with fail
          refine (fieldsAt_c _ n n a m t xs _ HXI.out hfit (by omega) HX4.out hc1).mono ?_
          rintro e w4 ⟨fq, fc, rfl, f1, f2, f3, hb4⟩
          have HC4 : Hid (Cst w4 cb mb g p n c T ws (stage ws rs k) xs k 0 D) := hC.out.below hb4
          have HRT4 : Hid (RtQ w4 cb mb g (w.heap.size + 2) q rn d zs) := hRT.out.below hb4
          have HRC4 : Hid (BxW w4 (w.heap.size + 1) none 0 0 0) := hRC.out.below hb4
          have HB4 : Hid (Below w.heap.size w w4) := hB.out.trans (hb4.mono hB.out.size)
          have HFQ : Hid (0 < m → fq = some ⟨g, offs ws (stage ws rs k).ord k + 1, none⟩) := fun h0 => by
            have := f3 g 0 rfl h0
            rw [this, ha.out, Nat.zero_add]
          clear f1 f2 f3 hb4 v0 v1 hC hRT hRC hB HXI hdec
          go_wp2_with fail
          refine (moveFields_c cb mb g n c T fc k m p fq ws xs _ D _ HC4.out HAP.out HG.out.good hlen.out.symm HLAST.out (by rw [HQ0.out, HM.out]) hc1 HFQ.out).mono ?_
          rintro e w5 ⟨rfl, xs', D', hC5, ht5⟩
          have hstg : visits ws (stage ws rs k) (flds ws ((stage ws rs k).ord.getD k 0)) = stage ws rs (k + 1) := by rw [stage, if_pos HLAST.out]
          have hpre := visits_pre ws (flds ws ((stage ws rs k).ord.getD k 0)) (stage ws rs k)
          rw [hstg] at hC5 hpre
          have hinv5 := hC5.inv
          obtain ⟨htp5, hol5⟩ := top_fit HG.out.good hinv5
          have hp1 : (stage ws rs (k + 1)).ord.getD k 0 = q0 := by rw [pre_getD hpre HLAST.out]; exact HQ0.out
          have hp2 : offs ws (stage ws rs (k + 1)).ord k = a := by rw [pre_offs hpre (Nat.le_of_lt HLAST.out)]; exact ha.out.symm
          have hp3 : k < (stage ws rs (k + 1)).ord.length := Nat.lt_of_lt_of_le HLAST.out hpre.length_le
          have hp4 : offs ws (stage ws rs (k + 1)).ord (k + 1) = a + 1 + m := by rw [offs_succ ws _ k hp3, hp1, hp2, HM.out]; omega
          have hmr5 : ∀ j, -1 ≤ (stage ws rs (k + 1)).mv j ∧ (stage ws rs (k + 1)).mv j ≤ 20000 := fun j => ⟨hinv5.lo j, by have := hinv5.mv_le j; omega⟩
          have HXI5 : Hid (Is w5 (some ⟨g, 0, none⟩) n n xs') := hC5.fr.is (hC5.pl.rng hinv5 HI.out.rng hmr5)
          have hx5 : xs'.getD a 0 / 4 = (m : Int) := by
            have := hC5.pl.obj k hp3 0 (Nat.zero_le _)
            rw [Nat.add_zero, hp2] at this
            rw [this]; unfold valP; rw [if_pos rfl, hp1]
            have hst : St ws T q0 := hinv5.st _ (by rw [← hp1]; simp [List.getD, List.getElem?_eq_getElem hp3])
            obtain ⟨_, _, _, hc2⟩ := head_cnt (head_fit HG.out.good hst).1
            rw [HM.out] at hc2; exact hc2.symm
          have HX5 : Hid (xs'.getD a 0 / 4 = (m : Int)) := hx5
          have HC5 : Hid (Cst w5 cb mb g p n c T ws (stage ws rs (k + 1)) xs' (k + 1) 0 D') := hC5
          have HRT5 : Hid (RtQ w5 cb mb g (w.heap.size + 2) q rn d zs) := HRT4.out.three ht5
          have hs4 := HB4.out.size
          have hlt4 := HRC4.out.bx.lt
          have HRC5 : Hid (BxW w5 (w.heap.size + 1) none 0 0 0) := by
            have hq := ht5.block (w.heap.size + 1) hlt4 (by omega) (by omega) (by omega)
            have h := HRC4.out
            refine ⟨⟨?_, ?_, ?_⟩, ?_, ?_⟩
            · rw [World.cell?_of_block (w := w4) hq]; exact h.bx.c0
            · rw [World.cell?_of_block (w := w4) hq]; exact h.bx.c1
            · have := ht5.size; omega
            · rw [World.frozen?_of_block (w := w4) hq]; exact h.f0
            · rw [World.frozen?_of_block (w := w4) hq]; exact h.f1
          have HB5 : Hid (Below w.heap.size w w5) := HB4.out.trans (ht5.below (by omega) (by omega) (by omega) hs4)
          have HP4 : Hid (a + 1 + m = offs ws (stage ws rs (k + 1)).ord (k + 1)) := hp4.symm
          have HP3 : Hid (k + 1 ≤ (stage ws rs (k + 1)).ord.length) := hp3
          obtain ⟨t5, ht5'⟩ : ∃ t5, (stage ws rs (k + 1)).top = t5 := ⟨_, rfl⟩
          have v0 := HC5.out.cp.to.c0
          have v1 := HC5.out.cp.to.c1
          rw [ht5'] at v1
          clear hC5 hpre hstg hinv5 hp1 hp2 hp3 hp4 hmr5 hx5 ht5 HC4 HRT4 HRC4 HB4 htp5 hol5 ht5' HFQ
          go_wp2_with fail
          refine (behindObject_c _ n n a m (a + 1 + m) rfl t5 xs' _ HXI5.out (by omega) (by omega) HX5.out hc1).mono ?_
          rintro e w6 ⟨rfl, hw6⟩
          have HB56 : Hid (Below w5.heap.size w5 w6) := by rw [hw6]; exact below1 _ _
          clear hw6
          go_wp2
          exact ⟨⟨k + 1, a + 1 + m, xs', D', hfit, by go_num, HP3, HP4, HC5.out.below HB56.out, HRT5.out.below HB56.out, HRC5.out.below HB56.out, HB5.out.trans (HB56.out.mono HB5.out.size)⟩, by simp [intOf]; omega⟩
        · have hkk : (stage ws rs k).ord.length = k := by have := hk.out; omega
          have hat : a = t := by
            have h1 := hinv.top
            rw [hkk, ht] at h1
            rw [ha.out, h1]
          have HKK : Hid ((stage ws rs k).ord.length = k) := hkk
          have hnat : ¬ a < t := by omega
          have r0 := hRC.out.bx.c0
          have r1 := hRC.out.bx.c1
          have rf0 := hRC.out.f0
          have rf1 := hRC.out.f1
          have hcbne : ¬ cb = w.heap.size + 1 := by omega
          clear hkk hat hinv hol ht
          go_wp2
          refine bodyPost_ret (v := .tuple #[.agg #[.slice (some ⟨g, 0, none⟩) n n, .int .i64 (t : Int)], .slice q rn d, .int .i64 0]) (by simp [results, Tryd.results7, go_sem, r0, r1]) rfl ?_
          rw [← HT.out]
          have hcst : Cst ((wr.setCell ⟨w.heap.size + 1, 0, none⟩ (.slice (some ⟨g, 0, none⟩) n n)).setCell ⟨w.heap.size + 1, 1, none⟩ (.int .i64 ((stage ws rs k).top : Int))) cb mb g p n c T ws (stage ws rs k) xs k 0 D := (hC.out.setOther (by omega) (by omega) (by omega) (fun h0 a ha => by have := hplt.out a ha h0; omega) _).setOther (by omega) (by omega) (by omega) (fun h0 a ha => by have := hplt.out a ha h0; omega) _
          refine coP_some HG.out hcst HKK.out (B := w.heap.size + 2) (fun h0 => ?_) HZ.out hrl.out hd1 hd2 (by omega) (by omega) ((hB.out.setCell (p := ⟨w.heap.size + 1, 0, none⟩) (by simp) _).setCell (p := ⟨w.heap.size + 1, 1, none⟩) (by simp) _) HR.out.rng
          obtain ⟨r, e, h1, h2, h3, h4, h5⟩ := hRT.out h0
          exact ⟨r, e, h1, h2, h3, h4, (h5.setOther (by simp; omega) _).setOther (by simp; omega) _⟩
end Go.Proofs.YtmmkpmgidoelpaaDoor.Hp
