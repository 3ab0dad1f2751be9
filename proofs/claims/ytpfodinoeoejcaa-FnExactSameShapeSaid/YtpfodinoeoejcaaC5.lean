import Derived.Test.YtpfodinoeoejcaaC4
namespace Go.Proofs.Ytpfodinoeoejcaa
open Go.RowKit Ch2
/-- At the head of a round over the objects. -/
def CoR (ws : List Int) (s : Cs) (w2 : World) (n K : Nat) (iv : Value) (wr : World) : Prop := ∃ (i : Nat) (xs : List Int), i ≤ K ∧ iv = .int .i64 i ∧ Hid (Fr wr w2.heap.size n n xs) ∧ Hid (BxW wr (w2.heap.size + 1) (some ⟨w2.heap.size, 0, none⟩) n n ((offs ws s.ord i : Nat) : Int)) ∧ Hid (Done ws s n xs i 0) ∧ Hid (Below w2.heap.size w2 wr)
/-- Inside: t words of the object i are there. -/
def CiR (ws : List Int) (s : Cs) (w2 : World) (n i cq : Nat) (tv : Value) (wr : World) : Prop := ∃ (t : Nat) (xs : List Int), 1 ≤ t ∧ t ≤ cq + 1 ∧ tv = .int .i64 t ∧ Hid (Fr wr w2.heap.size n n xs) ∧ Hid (BxW wr (w2.heap.size + 1) (some ⟨w2.heap.size, 0, none⟩) n n ((offs ws s.ord i : Nat) : Int)) ∧ Hid (Done ws s n xs i t) ∧ Hid (Below w2.heap.size w2 wr)
theorem mvd_rng {f : Nat → Int} {x : Int} (hf : ∀ j, -1 ≤ f j ∧ f j ≤ 20000) (hx : -9223372036854775808 ≤ x ∧ x ≤ 9223372036854775807) : -9223372036854775808 ≤ mvd f x ∧ mvd f x ≤ 9223372036854775807 := by
  unfold mvd
  split
  · have := hf (x / 4).toNat; omega
  · exact hx
theorem Done.rng {ws : List Int} {s : Cs} {n : Nat} {xs : List Int} {K : Nat} (h : Done ws s n xs K 0) (hK : K ≤ s.ord.length) (hl : xs.length = n) (hw : ∀ i, -9223372036854775808 ≤ ws.getD i 0 ∧ ws.getD i 0 ≤ 9223372036854775807) (hf : ∀ j, -1 ≤ s.mv j ∧ s.mv j ≤ 20000) (j : Nat) : -9223372036854775808 ≤ xs.getD j 0 ∧ xs.getD j 0 ≤ 9223372036854775807 := by
  rcases Nat.lt_or_ge j n with h1 | h1
  · rcases Nat.lt_or_ge j (offs ws s.ord K) with h6 | h6
    · obtain ⟨i, b, h7, h8, rfl⟩ := cover_offs ws _ K j hK h6
      rw [h.old i h7 b h8]
      unfold valC
      split
      · exact hw _
      · exact mvd_rng hf (hw _)
    · rw [h.rest j (by omega) h1]; omega
  · have : xs.getD j 0 = 0 := by simp [List.getD, List.getElem?_eq_none (show xs.length ≤ j by omega)]
    rw [this]; omega
theorem map_rng {f : Nat → Int} {rs : List Int} (hr : ∀ i, -9223372036854775808 ≤ rs.getD i 0 ∧ rs.getD i 0 ≤ 9223372036854775807) (hf : ∀ j, -1 ≤ f j ∧ f j ≤ 20000) (i : Nat) : -9223372036854775808 ≤ (rs.map (mvd f)).getD i 0 ∧ (rs.map (mvd f)).getD i 0 ≤ 9223372036854775807 := by
  by_cases h : i < rs.length
  · have e : (rs.map (mvd f)).getD i 0 = mvd f (rs.getD i 0) := by simp [List.getD, List.getElem?_eq_getElem h]
    rw [e]; exact mvd_rng hf (hr i)
  · have : (rs.map (mvd f)).getD i 0 = 0 := by simp [List.getD, List.getElem?_eq_none (show rs.length ≤ i by omega)]
    rw [this]; omega
theorem OwZ.isw {w : World} {B : Nat} {v : Value} {zs : List Int} (h : OwZ w B v zs) (hr : ∀ i, -9223372036854775808 ≤ zs.getD i 0 ∧ zs.getD i 0 ≤ 9223372036854775807) : ∃ q d, v = .slice q zs.length d ∧ Is w q zs.length d zs ∧ Wr w B w.heap.size q zs.length ∧ (∀ a, q = some a → B ≤ a.block) := by
  have h' := h
  obtain ⟨_, ⟨rfl, h0⟩ | ⟨g, cap, cur, rfl, hg, hh, h1, h2, h3, h4⟩⟩ := h
  · exact ⟨none, 0, by rw [h0], ⟨rfl, by omega, Nat.zero_le _, hr, fun h => by omega⟩, fun h => by omega, fun a ha => by cases ha⟩
  · by_cases hp : 0 < zs.length
    · obtain ⟨g', cap', e, hg', hf⟩ := Fr.of_owns h' hp rfl
      cases e
      exact ⟨some ⟨g, 0, none⟩, cap, rfl, hf.is hr, hf.wr hg' hf.lt, fun a ha => by cases ha; exact hg⟩
    · exact ⟨some ⟨g, 0, none⟩, cap, rfl, ⟨rfl, h1, h2, hr, fun h => absurd h hp⟩, fun h => absurd h hp, fun a ha => by cases ha; exact hg⟩
theorem take_snoc (zs : List Int) (a : Nat) (h : a < zs.length) : zs.take (a + 1) = zs.take a ++ [zs.getD a 0] := by
  rw [List.take_add_one, List.getElem?_eq_getElem h]
  simp [List.getD, List.getElem?_eq_getElem h]
set_option maxRecDepth 20000 in
set_option maxHeartbeats 8000000 in
theorem specCollect_c (p : Option Addr) (n c : Nat) (top : Int) (ws : List Int) (rp : Option Addr) (rn rc : Nat) (rs : List Int) (w : World) (hI : Is w p n c ws) (ht0 : -9223372036854775808 ≤ top) (ht1 : top ≤ 9223372036854775807) (hR : Is w rp rn rc rs) (hnn : n ≤ 1048576) :
    Calls Try.prog 29 #[.agg #[.slice p n c, .int .i64 top], .slice rp rn rc] w fun e w' => CoP ws top rs w w' e := by
  have HI : Hid (Is w p n c ws) := hI
  have HR : Hid (Is w rp rn rc rs) := hR
  have hlen : Hid (ws.length = n) := hI.len
  have hrl : Hid (rs.length = rn) := hR.len
  clear hI hR
  go_enter Try.func29, Try.ntmps29
  go_wp2_with fail
  refine (specValidHeap_c p n c top ws rp rn rc rs _ (by exact HI.out.below (below2 _ _ _)) ht0 ht1 (by exact HR.out.below (below2 _ _ _))).mono ?_
  rintro e w1 ⟨b, rfl, hbb, hb1⟩
  have HB1 : Hid (Below w.heap.size w w1) := below_alloc (below_alloc hb1)
  have HR1 : Hid (BxW w1 (w.heap.size + 1) none 0 0 0) := by
    have := (BxW.new (w.alloc (.cells #[.slice p n c, .int .i64 top] 31)) none 0 0 0 31).below hb1
    unfold Hid; simpa using this
  have HA1 : Hid (Bx w1 w.heap.size p n c top) := ((Bx.new w p n c top _).below (below1 _ _)).below hb1
  clear hb1
  cases b
  · have HN : Hid (¬ GoodR ws top rs) := fun h => by have := hbb.2 h; cases this
    have r0 := HR1.out.bx.c0
    have r1 := HR1.out.bx.c1
    have rf0 := HR1.out.f0
    have rf1 := HR1.out.f1
    clear hbb
    go_wp2
    refine bodyPost_ret (v := .tuple #[.agg #[.slice none 0 0, .int .i64 0], .slice none 0 0, .int .i64 1]) (by simp [results, Try.results29, go_sem, r0, r1]) rfl ?_
    have hnil : ∀ w : World, Is w (none : Option Addr) 0 0 [] := fun w => ⟨rfl, Nat.le_refl _, Nat.zero_le _, fun i => (by simp), fun h => absurd h (Nat.lt_irrefl 0)⟩
    have hbx := (HB1.out.setCell (p := ⟨w.heap.size + 1, 0, none⟩) (by simp) (.slice none 0 0)).setCell (p := ⟨w.heap.size + 1, 1, none⟩) (by simp) (.int .i64 0)
    exact ⟨none, 0, 0, [], 0, none, 0, 0, [], 1, rfl, Or.inl ⟨HN.out, rfl, rfl, rfl, rfl⟩, hnil _, hnil _, ⟨w.heap.size, Nat.le_refl _, hbx.size, Or.inl ⟨fun h => absurd h (Nat.lt_irrefl 0), fun h => absurd h (Nat.lt_irrefl 0)⟩⟩, hbx⟩
  · have hg := hbb.1 rfl
    obtain ⟨T, rfl⟩ := Int.eq_ofNat_of_zero_le hg.good.lo
    have HTN : Hid (((T : Nat) : Int).toNat = T) := by unfold Hid; simp
    have HG : Hid (GoodR ws T rs) := hg
    have hn2 : n ≤ 20000 := by have := hg.good.size; rw [hlen.out] at this; exact this
    have hT : T ≤ n := by have := hg.good.hi; rw [hlen.out] at this; omega
    have hrn2 : rn ≤ 20000 := by have := hg.few; rw [hrl.out] at this; exact this
    have a0 := HA1.out.c0
    have a1 := HA1.out.c1
    clear hbb hg
    go_wp2_with fail
    refine (l2order_c p n c T ws rp rn rc rs _ (HI.out.below HB1.out) (HR.out.below HB1.out) HG.out).mono ?_
    rintro e w2 ⟨K, ov, rfl, hK, hinv, hown, hmv, hb2⟩
    obtain ⟨op, oc, rfl, ho1, ho2, hoc⟩ := hown.form
    have HB2 : Hid (Below w.heap.size w w2) := HB1.out.trans (hb2.mono HB1.out.size)
    have HA2 : Hid (Bx w2 w.heap.size p n c T) := HA1.out.below hb2
    have HR2 : Hid (BxW w2 (w.heap.size + 1) none 0 0 0) := HR1.out.below hb2
    have HK : Hid ((stage ws rs K).ord.length = K) := hK
    have HINV : Hid (Inv ws T (stage ws rs K)) := hinv
    have HMV : Hid (Mv w2 (w1.heap.size + 1) T (stage ws rs K).mv) := hmv
    have HOC : Hid (0 < K → ∃ g, op = some ⟨g, 0, none⟩ ∧ g < w2.heap.size ∧ ∀ j, j < K → w2.cell? ⟨g, j, none⟩ = some (.int .i64 (((stage ws rs K).ord.getD j 0 : Nat) : Int))) := fun h0 => by
      obtain ⟨g, e, _, h2, h3⟩ := hoc (by rw [hK]; exact h0)
      exact ⟨g, e, h2, fun j hj => h3 j (by rw [hK]; exact hj)⟩
    rw [hK]
    obtain ⟨s, hs⟩ : ∃ s, stage ws rs K = s := ⟨_, rfl⟩
    have HS : Hid (stage ws rs K = s) := hs
    rw [hs] at HK HINV HMV HOC
    clear hK hinv hmv hown hoc hb2 a0 a1 hs
    have HTL := HINV.out.top_le (fun q hq => ((goodH_obj HG.out.good).1 q hq).2)
    have hKT : K ≤ T := by have := HK.out; omega
    have MVR : Hid (∀ j, -1 ≤ s.mv j ∧ s.mv j ≤ 20000) := by
      intro j
      refine ⟨HINV.out.lo j, ?_⟩
      rcases Int.lt_or_le (s.mv j) 0 with h | h
      · omega
      · obtain ⟨a, ha, e⟩ := List.getElem_of_mem ((HINV.out.mem j).1 h)
        have h1 := HINV.out.at_ a ha
        rw [show s.ord.getD a 0 = j by simp [List.getD, List.getElem?_eq_getElem ha, e]] at h1
        have h2 := offs_mono ws s.ord (s.ord.length - a) a (by omega)
        rw [show a + (s.ord.length - a) = s.ord.length by omega, ← HINV.out.top] at h2
        omega
    have MVG : Hid (∀ i, i < T → ((List.range T).map s.mv).getD i 0 = s.mv i) := fun i hi => by simp [List.getD, hi]
    have MVI : Hid (∀ wx : World, Mv wx (w1.heap.size + 1) T s.mv → Is wx (some ⟨w1.heap.size + 1, 0, none⟩) T T ((List.range T).map s.mv)) := fun wx hx => by
      refine ⟨by simp, Nat.le_refl _, by unfold maxLen; omega, fun i => ?_, fun _ => ⟨_, 0, rfl, hx.lt, fun i hi => ?_⟩⟩
      · by_cases hi : i < T
        · rw [MVG.out i hi]; have := MVR.out i; omega
        · have : ((List.range T).map s.mv).getD i 0 = 0 := by simp [List.getD, hi]
          rw [this]; omega
      · rw [Nat.zero_add, MVG.out i hi]; exact hx.cell hi
    have a0 := HA2.out.c0
    have a1 := HA2.out.c1
    have hmk := run_make_row' (P := Try.prog) 29 3 (.int .i64 0) 8 Try.underlying29 info3 rfl .i64 .i64 n (by omega) (by omega)
    go_wp2
    clear hmk
    go_loopw [10] (fun iv wr => CoR ws s w2 n K iv wr) (fun iv _ => K - (intOf iv).toNat)
    case atStart =>
      have hrow := Ro.zeros ((World.rowIs_made w2 (.int .i64 0) n 3).congr (fun j _ => rfl))
      have hfr : Fr (w2.alloc (.cells (madeCells #[.int .i64 0] n) 3)) w2.heap.size n n (List.replicate n 0) := ⟨⟨_, hrow, fun j _ => rfl⟩, Nat.le_refl _, by unfold maxLen; omega, by simp⟩
      have hnew := BxW.new (w2.alloc (.cells (madeCells #[.int .i64 0] n) 3)) (some ⟨w2.heap.size, 0, none⟩) n n 0 31
      refine ⟨0, List.replicate n 0, Nat.zero_le _, rfl, hfr.below (below1 _ _), ?_, ⟨fun a ha => absurd ha (Nat.not_lt_zero a), fun b hb => absurd hb (Nat.not_lt_zero b), fun j _ _ => rep_getD n j⟩, below2 w2 _ _⟩
      unfold Hid
      have : offs ws s.ord 0 = 0 := by simp [offs]
      rw [this]
      simpa using hnew
    case round =>
      obtain ⟨i, xs, hi, rfl, hF, hO, hD, hB⟩ := hrel
      have hAr : Hid (Bx wr w.heap.size p n c T) := HA2.out.below hB.out
      have b0 := hAr.out.c0
      have b1 := hAr.out.c1
      have o0 := hO.out.bx.c0
      have o1 := hO.out.bx.c1
      have of1 := hO.out.f1
      by_cases hlt : i < K
      · obtain ⟨og, rfl, hog2, hocc⟩ := HOC.out (by omega)
        have gO := hocc i hlt
        rw [← hB.out.cell (p := ⟨og, i, none⟩) hog2] at gO
        have hil : i < s.ord.length := by rw [HK.out]; exact hlt
        obtain ⟨q, hq⟩ : ∃ q, s.ord.getD i 0 = q := ⟨_, rfl⟩
        have HQ : Hid (s.ord.getD i 0 = q) := hq
        rw [hq] at gO
        have hqs : St ws T q := HINV.out.st q (by rw [← hq]; simp [List.getD, List.getElem?_eq_getElem hil])
        have hqT : q < T := hqs.1
        have hho := (goodH_obj HG.out.good).1 q hqs
        have HQO : Hid (ObjOk ws T q) := (goodH_obj HG.out.good).2 q hqs
        obtain ⟨b2, o2, rfl, hbl2, gg2⟩ := HI.out.cells (by omega)
        have HGG : Hid (∀ j, j < n → wr.cell? ⟨b2, o2 + j, none⟩ = some (.int .i64 (ws.getD j 0))) := fun j hj => by
          rw [hB.out.cell (p := ⟨b2, o2 + j, none⟩) (Nat.lt_of_lt_of_le hbl2 HB2.out.size), HB2.out.cell (p := ⟨b2, o2 + j, none⟩) hbl2]; exact gg2 j hj
        have gh := HGG.out q (by omega)
        have hh1 := head_cnt hho.1
        obtain ⟨cq, hcq⟩ : ∃ cq, cnt (ws.getD q 0) = cq := ⟨_, rfl⟩
        have HCQ : Hid (cnt (ws.getD q 0) = cq) := hcq
        rw [hcq] at hh1
        have hsz : q + 1 + cq ≤ T := by have := hho.2; rw [hcq] at this; exact this
        have hofs := offs_succ ws s.ord i hil
        rw [hq, hcq] at hofs
        have hofm := offs_mono ws s.ord (K - (i + 1)) (i + 1) (by rw [HK.out]; omega)
        rw [show i + 1 + (K - (i + 1)) = K by omega] at hofm
        have htop := HINV.out.top
        rw [HK.out] at htop
        obtain ⟨hd2, hhd⟩ : ∃ hd2, ws.getD q 0 = hd2 := ⟨_, rfl⟩
        have HHD : Hid (ws.getD q 0 = hd2) := hhd
        rw [hhd] at gh hh1
        have hdq := tdiv4 hd2 hh1.1
        rw [← hh1.2.2.2] at hdq
        have hcq1 : cq ≤ 1000 := hh1.2.2.1
        have hd20 : 0 ≤ hd2 := hh1.1
        have hd21 : hd2 ≤ 10000 := by omega
        obtain ⟨z, hz⟩ : ∃ z, offs ws s.ord i = z := ⟨_, rfl⟩
        have HZ : Hid (offs ws s.ord i = z) := hz
        have HZ1 : Hid (offs ws s.ord (i + 1) = z + (1 + cq)) := by unfold Hid; rw [hofs, hz]
        have hzn : z + 1 + cq ≤ n := by omega
        rw [hz] at o1
        obtain ⟨d0, d1⟩ := hF.out.cell (show z < n by omega)
        have f1 : (q : Int) < (n : Int) := by omega
        have f2 : (z : Int) < (n : Int) := by omega
        clear hocc hq hcq gg2 hho hqs hofs hofm htop hhd hh1 hz
        go_wp2_with fail
        go_region
        all_goals go_wp2
        clear d0 d1 gO f2
        have hset0 : Two w2.heap.size w2.heap.size wr (wr.setCell ⟨w2.heap.size, z, none⟩ (.int .i64 hd2)).drew := ((Two.refl w2.heap.size w2.heap.size wr).set (a := ⟨w2.heap.size, z, none⟩) (Or.inl rfl) _).drew
        have HSET0 : Hid (Two w2.heap.size w2.heap.size wr (wr.setCell ⟨w2.heap.size, z, none⟩ (.int .i64 hd2)).drew) := hset0
        clear hset0
        go_loopw [13] (fun tv wr => CiR ws s w2 n i cq tv wr) (fun tv _ => cq + 1 - (intOf tv).toNat)
        case atStart =>
          have hxl := hF.out.len
          refine ⟨1, xs.set z hd2, Nat.le_refl _, by omega, rfl, (hF.out.set z hd2 (by rw [List.length_set]; exact hxl) (fun t ht => ?_)).of_block rfl, hO.out.two HSET0.out (by omega) (by omega), hD.out.set hil (fun t ht => ?_) (by rw [HZ.out]; omega), hB.out.trans (HSET0.out.below (Nat.le_refl _) (Nat.le_refl _))⟩
          · by_cases e : t = z
            · subst e; simp [List.getD, show t < xs.length by omega]
            · rw [if_neg e]; simp [List.getD, show ¬ z = t by omega]
          · rw [HZ.out, Nat.add_zero]
            by_cases e : t = z
            · subst e; rw [if_pos rfl]; unfold valC; rw [if_pos rfl, HQ.out, HHD.out]; simp [List.getD, show t < xs.length by omega]
            · rw [if_neg e]; simp [List.getD, show ¬ z = t by omega]
        case round =>
          clear hF hO hD hB hAr b0 b1 o0 o1 of1 HGG gh HSET0
          obtain ⟨t, ys, ht1', ht2', rfl, hF, hO, hD, hB⟩ := hrel
          have hAr : Hid (Bx wr w.heap.size (some ⟨b2, o2, none⟩) n c T) := HA2.out.below hB.out
          have b0 := hAr.out.c0
          have b1 := hAr.out.c1
          have o0 := hO.out.bx.c0
          have o1 := hO.out.bx.c1
          have of1 := hO.out.f1
          rw [HZ.out] at o1
          by_cases hlt3 : t ≤ cq
          · have gx : wr.cell? ⟨b2, o2 + (q + t), none⟩ = some (.int .i64 (ws.getD (q + t) 0)) := by
              obtain ⟨b', o', e, _, hc⟩ := HI.out.cells (by omega)
              cases e
              rw [hB.out.cell (p := ⟨b2, o2 + (q + t), none⟩) (Nat.lt_of_lt_of_le hbl2 HB2.out.size), HB2.out.cell (p := ⟨b2, o2 + (q + t), none⟩) hbl2]
              exact hc _ (by omega)
            have hwk := HQO.out.2 (q + t) (by omega) (by rw [HCQ.out]; omega)
            obtain ⟨x, hx⟩ : ∃ x, ws.getD (q + t) 0 = x := ⟨_, rfl⟩
            have HXX : Hid (ws.getD (q + t) 0 = x) := hx
            rw [hx] at gx hwk
            have HXP : Hid (x % 4 = 1 → 0 ≤ x ∧ (x / 4).toNat < T) := fun hk => by rcases hwk with h' | h' | h' | h' <;> first | omega | exact ⟨h'.2.1, h'.2.2.1⟩
            obtain ⟨y, hy⟩ : ∃ y, mvd s.mv x = y := ⟨_, rfl⟩
            have HY : Hid (mvd s.mv x = y) := hy
            obtain ⟨d0, d1⟩ := hF.out.cell (show z + t < n by omega)
            have HMVr : Hid (Mv wr (w1.heap.size + 1) T s.mv) := HMV.out.of_block (hB.out.block _ HMV.out.lt)
            have HMR : Hid (∀ j, -1 ≤ s.mv j ∧ s.mv j ≤ 20000) := MVR.out
            have f1 : (q : Int) + (t : Int) < (n : Int) := by omega
            have f2 : (z : Int) + (t : Int) < (n : Int) := by omega
            have f3 : (0 : Int) ≤ (q : Int) + (t : Int) := by omega
            have f4 : (0 : Int) ≤ (z : Int) + (t : Int) := by omega
            have fw1 : IntKind.i64.wrap ((q : Int) + (t : Int)) = (q : Int) + (t : Int) := by rw [IntKind.wrap_i64]; omega
            have fw2 : IntKind.i64.wrap ((z : Int) + (t : Int)) = (z : Int) + (t : Int) := by rw [IntKind.wrap_i64]; omega
            have fn1 : ((q : Int) + (t : Int)).toNat = q + t := by omega
            have fn2 : ((z : Int) + (t : Int)).toNat = z + t := by omega
            have hd : decide ((t : Int) ≤ (cq : Int)) = true := decide_eq_true (by omega)
            have hxl := hF.out.len
            have FIN : Hid (CiR ws s w2 n i cq (.int .i64 ((t : Int) + 1)) (wr.setCell ⟨w2.heap.size, z + t, none⟩ (.int .i64 y)).drew ∧ cq + 1 - (intOf (.int .i64 ((t : Int) + 1))).toNat < cq + 1 - (intOf (.int .i64 (t : Int))).toNat) := by
              have hset : Two w2.heap.size w2.heap.size wr (wr.setCell ⟨w2.heap.size, z + t, none⟩ (.int .i64 y)).drew := ((Two.refl w2.heap.size w2.heap.size wr).set (a := ⟨w2.heap.size, z + t, none⟩) (Or.inl rfl) _).drew
              refine ⟨⟨t + 1, ys.set (z + t) y, by omega, by omega, by go_num, (hF.out.set (z + t) y (by rw [List.length_set]; exact hxl) (fun a ha => ?_)).of_block rfl, hO.out.two hset (by omega) (by omega), hD.out.set hil (fun a ha => ?_) (by rw [HZ.out]; omega), hB.out.trans (hset.below (Nat.le_refl _) (Nat.le_refl _))⟩, by simp [intOf]; omega⟩
              · by_cases e : a = z + t
                · subst e; simp [List.getD, show z + t < ys.length by omega]
                · rw [if_neg e]; simp [List.getD, show ¬ z + t = a by omega]
              · rw [HZ.out]
                by_cases e : a = z + t
                · subst e; rw [if_pos rfl]; unfold valC; rw [if_neg (by omega), HQ.out, HXX.out, HY.out]; simp [List.getD, show z + t < ys.length by omega]
                · rw [if_neg e]; simp [List.getD, show ¬ z + t = a by omega]
            clear hx hy hwk
            go_wp2_with fail
            go_region_with (go_at_call 56; refine (l2moved_c x _ T T ((List.range T).map s.mv) s.mv _ ?y1 ?y2 HMR.out HXP.out (by omega)).mono ?_; (case y1 => exact MVI.out _ (HMVr.out.of_block rfl)); (case y2 => exact MVG.out); rintro e w4 ⟨rfl, hwx⟩; have hwy := hwx.symm; clear hwx; subst hwy; rw [HY.out])
            all_goals go_wp2
            all_goals exact FIN.out
          · obtain rfl : t = cq + 1 := by omega
            have hd : decide (((cq + 1 : Nat) : Int) ≤ (cq : Int)) = false := decide_eq_false (by omega)
            have hd' : decide ((cq : Int) + 1 ≤ (cq : Int)) = false := decide_eq_false (by omega)
            have HN : Hid (Done ws s n ys (i + 1) 0) := Done.next (by rw [HQ.out, HCQ.out, Nat.add_comm 1 cq]; exact hD.out) hil
            go_wp2
            first | go_roundw | refine ⟨?rel, ?measure⟩
            case measure => simp [intOf]; omega
            case rel =>
              refine ⟨i + 1, ys, by omega, by go_num, hF.out.setOther (by simp) _, ?_, HN.out, hB.out.setCell (by simp) _⟩
              have := hO.out.setTop ((z : Int) + (1 + (cq : Int)))
              unfold Hid
              rw [HZ1.out, show ((z + (1 + cq) : Nat) : Int) = (z : Int) + (1 + (cq : Int)) by omega]
              exact this
      · obtain rfl : i = K := by omega
        have HDK : Hid (Done ws s n xs i 0) := hD
        have HTOP : Hid (offs ws s.ord i = s.top) := by unfold Hid; rw [HINV.out.top, HK.out]
        rw [HTOP.out] at o1
        have HMVr : Hid (Mv wr (w1.heap.size + 1) T s.mv) := HMV.out.of_block (hB.out.block _ HMV.out.lt)
        have hRr : Hid (BxW wr (w.heap.size + 1) none 0 0 0) := HR2.out.below hB.out
        have hBW : Hid (Below w.heap.size w wr) := HB2.out.trans (hB.out.mono HB2.out.size)
        have hwsz : w2.heap.size + 2 ≤ wr.heap.size := hO.out.bx.lt
        have hw2lt : w.heap.size + 1 < w2.heap.size := HR2.out.bx.lt
        have hw1lt : w1.heap.size + 1 < w2.heap.size := HMV.out.lt
        obtain ⟨wK, hwK⟩ : ∃ wK, wK = wr := ⟨_, rfl⟩
        have HWK : Hid (wK = wr) := hwK
        clear hwK
        go_wp2
        go_loopw [14, 15] (fun nv iv wx => ∃ a : Nat, a ≤ rn ∧ iv = .int .i64 a ∧ Hid (OwZ wx (w2.heap.size + 2) nv ((rs.map (mvd s.mv)).take a)) ∧ Hid (Below (w2.heap.size + 2) wr wx)) (fun _ iv _ => rn - (intOf iv).toNat)
        case atStart => exact ⟨0, Nat.zero_le _, rfl, OwZ.nil _ _, Below.refl _ _⟩
        case round =>
          obtain ⟨a, ha, rfl, hOZ, hX⟩ := hrel
          have HBN : Hid (Below w.heap.size w wr) := hBW.out.trans (hX.out.mono (by omega))
          by_cases hlt4 : a < rn
          · obtain ⟨b3, o3, rfl, hbl3, gg3⟩ := HR.out.cells (by omega)
            have gx := gg3 a hlt4
            rw [← HBN.out.cell (p := ⟨b3, o3 + a, none⟩) hbl3] at gx
            have hwk := HG.out.roots a (by rw [hrl.out]; exact hlt4)
            rw [HTN.out] at hwk
            obtain ⟨x, hx⟩ : ∃ x, rs.getD a 0 = x := ⟨_, rfl⟩
            have HXX : Hid (rs.getD a 0 = x) := hx
            rw [hx] at gx hwk
            have HXP : Hid (x % 4 = 1 → 0 ≤ x ∧ (x / 4).toNat < T) := fun hk => by rcases hwk with h' | h' | h' | h' <;> first | omega | exact ⟨h'.2.1, h'.2.2.1⟩
            obtain ⟨y, hy⟩ : ∃ y, mvd s.mv x = y := ⟨_, rfl⟩
            have HY : Hid (mvd s.mv x = y) := hy
            have HMVx : Hid (Mv wr (w1.heap.size + 1) T s.mv) := HMVr.out.of_block (hX.out.block _ (by omega))
            have HMR : Hid (∀ j, -1 ≤ s.mv j ∧ s.mv j ≤ 20000) := MVR.out
            have hzl : Hid (((rs.map (mvd s.mv)).take a).length ≤ 1000000) := by unfold Hid; rw [List.length_take]; omega
            have hwz : w2.heap.size + 2 ≤ wr.heap.size := Nat.le_trans hwsz hX.out.size
            have HTS : Hid ((rs.map (mvd s.mv)).take (a + 1) = (rs.map (mvd s.mv)).take a ++ [y]) := by
              unfold Hid
              rw [take_snoc _ _ (by rw [List.length_map, hrl.out]; exact hlt4)]
              have : (rs.map (mvd s.mv)).getD a 0 = y := by
                rw [← HY.out, ← HXX.out]
                simp [List.getD, List.getElem?_eq_getElem (show a < rs.length by rw [hrl.out]; exact hlt4)]
              rw [this]
            clear gg3 hwk hx hy
            go_wp2_with (first | (go_at_call 56; refine (l2moved_c x _ T T ((List.range T).map s.mv) s.mv _ (MVI.out _ HMVx.out) MVG.out HMR.out HXP.out (by omega)).mono ?_; rintro e w4 ⟨rfl, hwx⟩; have hwy := hwx.symm; clear hwx; subst hwy; rw [HY.out]) | (at_builtin; refine appZ_law wr rfl (.tmp 91) (.tmp 98) rfl (w2.heap.size + 2) _ ((rs.map (mvd s.mv)).take a) y (by simp [Act.eval]) hOZ.out (by simp [Act.eval]) hzl.out hwz ?_; intro v' w5 hov hb5; have HOV : Hid (OwZ w5 (w2.heap.size + 2) v' ((rs.map (mvd s.mv)).take a ++ [y])) := hov; have HBB : Hid (Below (w2.heap.size + 2) wr w5) := hb5; clear hov hb5))
            exact ⟨⟨a + 1, by omega, by go_num, by unfold Hid; rw [HTS.out]; exact HOV.out, hX.out.trans HBB.out⟩, by simp [intOf]; omega⟩
          · obtain rfl : a = rn := by omega
            have hoz := hOZ.out
            rw [List.take_of_length_le (by rw [List.length_map, hrl.out]; exact Nat.le_refl _)] at hoz
            obtain ⟨zq, zd, rfl, hzi, hzw, hzb⟩ := hoz.isw (map_rng HR.out.rng MVR.out)
            have HZI : Hid (Is wr zq (rs.map (mvd s.mv)).length zd (rs.map (mvd s.mv))) := hzi
            have HZW : Hid (Wr wr (w2.heap.size + 2) wr.heap.size zq (rs.map (mvd s.mv)).length) := hzw
            have HZB : Hid (∀ a, zq = some a → w2.heap.size + 2 ≤ a.block) := hzb
            have p0 : wr.cell? ⟨w2.heap.size + 1, 0, none⟩ = some (.slice (some ⟨w2.heap.size, 0, none⟩) n n) := by rw [hX.out.cell (p := ⟨w2.heap.size + 1, 0, none⟩) (by simp)]; exact o0
            have p1 : wr.cell? ⟨w2.heap.size + 1, 1, none⟩ = some (.int .i64 (s.top : Int)) := by rw [hX.out.cell (p := ⟨w2.heap.size + 1, 1, none⟩) (by simp)]; exact o1
            have r0 : wr.cell? ⟨w.heap.size + 1, 0, none⟩ = some (.slice none 0 0) := by rw [hX.out.cell (p := ⟨w.heap.size + 1, 0, none⟩) (by simp; omega)]; exact hRr.out.bx.c0
            have r1 : wr.cell? ⟨w.heap.size + 1, 1, none⟩ = some (.int .i64 0) := by rw [hX.out.cell (p := ⟨w.heap.size + 1, 1, none⟩) (by simp; omega)]; exact hRr.out.bx.c1
            have rf0 : wr.frozen? ⟨w.heap.size + 1, 0, none⟩ = false := by rw [hX.out.frozen (p := ⟨w.heap.size + 1, 0, none⟩) (by simp; omega)]; exact hRr.out.f0
            have rf1 : wr.frozen? ⟨w.heap.size + 1, 1, none⟩ = false := by rw [hX.out.frozen (p := ⟨w.heap.size + 1, 1, none⟩) (by simp; omega)]; exact hRr.out.f1
            have hFx : Hid (Fr wr w2.heap.size n n xs) := hF.out.of_block (hX.out.block _ (by omega))
            clear hzi hzw hzb hoz hOZ
            go_wp2
            refine bodyPost_ret (v := .tuple #[.agg #[.slice (some ⟨w2.heap.size, 0, none⟩) n n, .int .i64 (s.top : Int)], .slice zq (rs.map (mvd s.mv)).length zd, .int .i64 0]) (by simp [results, Try.results29, go_sem, r0, r1]) rfl ?_
            have hWin : Within (w.heap.size + 1) (w.heap.size + 2) wr ((wr.setCell ⟨w.heap.size + 1, 0, none⟩ (.slice (some ⟨w2.heap.size, 0, none⟩) n n)).setCell ⟨w.heap.size + 1, 1, none⟩ (.int .i64 (s.top : Int))) := ((Within.refl _ _ _).set (by simp) (by simp) _).set (by simp) (by simp) _
            have hF' : Fr ((wr.setCell ⟨w.heap.size + 1, 0, none⟩ (.slice (some ⟨w2.heap.size, 0, none⟩) n n)).setCell ⟨w.heap.size + 1, 1, none⟩ (.int .i64 (s.top : Int))) w2.heap.size n n xs := (hFx.out.setOther (by simp; omega) _).setOther (by simp; omega) _
            have hws := hX.out.size
            refine ⟨some ⟨w2.heap.size, 0, none⟩, n, n, xs, _, zq, _, zd, rs.map (mvd s.mv), 0, rfl, Or.inr ⟨HG.out, i, ?_, ?_, ?_, ?_, ?_, ?_, rfl⟩, hF'.is (HDK.out.rng (by rw [HK.out]; exact Nat.le_refl _) hF'.len HI.out.rng MVR.out), HZI.out.within hWin (fun a ha _ => Or.inr (by have := HZB.out a ha; omega)), ⟨w2.heap.size + 2, by omega, by rw [hWin.size]; omega, Or.inl ⟨hF'.wr (by omega) (by omega), by rw [hWin.size]; exact HZW.out.within hWin (Or.inl (by omega))⟩⟩, (HBN.out.setCell (by simp) _).setCell (by simp) _⟩
            · rw [HS.out]; exact HK.out
            · rw [HS.out, HTN.out]; exact HINV.out
            · rw [hlen.out]; exact hF'.len
            · rw [HS.out, hlen.out]; exact HDK.out
            · rw [HS.out]
            · rw [HS.out]
end Go.Proofs.Ytpfodinoeoejcaa
