import Derived.Test.YtlpibogllmlacaaDoorM3
namespace Go.Proofs.YtlpibogllmlacaaDoor
open Go.RowKit Ch1
theorem infoFn : (Tryd.prog.info? 44).map (fun i => (i.zero, i.size, i.bytes)) = some (some (.agg #[.int .i64 0, .slice none 0 0, .slice none 0 0]), 3, 56) := by kernel_rfl
/-- The first k of n functions lie in block g. -/
def RowF (w : World) (g : Nat) (fs : List Fn) (n k : Nat) : Prop := ∃ (f : Nat → Value) (tf tc : Nat → Nat), w.rowIs g 44 (n * 3) f ∧ ∀ i, i < k →
  f (i * 3) = .int .i64 (fs.getD i fn0).params ∧ f (i * 3 + 1) = .slice (some ⟨tf i, 0, none⟩) (fs.getD i fn0).free.length (fs.getD i fn0).free.length ∧ f (i * 3 + 2) = .slice (some ⟨tc i, 0, none⟩) (fs.getD i fn0).code.length (fs.getD i fn0).code.length ∧
  g < tf i ∧ g < tc i ∧ Bo w (some ⟨tf i, 0, none⟩) (fs.getD i fn0).free.length (fs.getD i fn0).free.length (fs.getD i fn0).free ∧ Ii w (some ⟨tc i, 0, none⟩) (fs.getD i fn0).code.length (fs.getD i fn0).code.length (fs.getD i fn0).code
theorem RowF.made {w w' : World} {g n : Nat} {vs : List Value} (fs : List Fn) (ho : w'.ownsRow g 44 3 (.slice (some ⟨w.heap.size, 0, none⟩) n n) n vs) : RowF w' w.heap.size fs n 0 := by
  obtain ⟨_, h | ⟨g', cap, cur, hv, _, hh, _, _, hsz, _⟩⟩ := ho
  · cases h.1
  · cases hv
    exact ⟨fun i => cur.getD i .nilIface, fun _ => 0, fun _ => 0, ⟨cur, hh, hsz, fun i hi => by simp [Array.getD, show i < cur.size by omega]⟩, fun i hi => absurd hi (Nat.not_lt_zero i)⟩
theorem RowF.below {w w' : World} {g n k : Nat} {fs : List Fn} (h : RowF w g fs n k) (hb : Below w.heap.size w w') : RowF w' g fs n k := by
  obtain ⟨f, tf, tc, hr, hc⟩ := h
  refine ⟨f, tf, tc, hr.of_block (hb.block g hr.lt), fun i hi => ?_⟩
  obtain ⟨h0, h1, h2, h3, h4, h5, h6⟩ := hc i hi
  exact ⟨h0, h1, h2, h3, h4, h5.below hb, h6.below hb⟩
theorem RowF.cells {w : World} {g n k : Nat} {fs : List Fn} (h : RowF w g fs n k) (i : Nat) (hi : i < n * 3) : ∃ v, w.cell? ⟨g, i, none⟩ = some v ∧ w.frozen? ⟨g, i, none⟩ = false := by
  obtain ⟨f, _, _, hr, _⟩ := h
  exact ⟨_, hr.cell hi, hr.frozen i⟩
theorem RowF.lt {w : World} {g n k : Nat} {fs : List Fn} (h : RowF w g fs n k) : g < w.heap.size := by
  obtain ⟨f, _, _, hr, _⟩ := h
  exact hr.lt
theorem RowF.store {w : World} {g n k : Nat} {fs : List Fn} (h : RowF w g fs n k) (x : Fn) (hx : fs.getD k fn0 = x) (t u : Nat) (ht : g < t) (hu : g < u) (hB : Bo w (some ⟨t, 0, none⟩) x.free.length x.free.length x.free) (hI : Ii w (some ⟨u, 0, none⟩) x.code.length x.code.length x.code) :
    RowF (((w.setCell ⟨g, k * 3, none⟩ (.int .i64 x.params)).setCell ⟨g, k * 3 + 1, none⟩ (.slice (some ⟨t, 0, none⟩) x.free.length x.free.length)).setCell ⟨g, k * 3 + 2, none⟩ (.slice (some ⟨u, 0, none⟩) x.code.length x.code.length)) g fs n (k + 1) := by
  obtain ⟨f, tf, tc, hr, hc⟩ := h
  refine ⟨_, fun i => if i = k then t else tf i, fun i => if i = k then u else tc i, ((hr.set (k * 3) _).set (k * 3 + 1) _).set (k * 3 + 2) _, fun i hi => ?_⟩
  by_cases e : i = k
  · subst e
    rw [hx]
    refine ⟨by simp, by simp, by simp, by simpa using ht, by simpa using hu, ?_, ?_⟩
    · simp only [if_true]
      exact ((hB.setOther (fun y hy => by cases hy; simp; omega) _).setOther (fun y hy => by cases hy; simp; omega) _).setOther (fun y hy => by cases hy; simp; omega) _
    · simp only [if_true]
      exact ((hI.setOther (fun y hy => by cases hy; simp; omega) _).setOther (fun y hy => by cases hy; simp; omega) _).setOther (fun y hy => by cases hy; simp; omega) _
  · obtain ⟨h0, h1, h2, h3, h4, h5, h6⟩ := hc i (by omega)
    have q := q3 e
    refine ⟨?_, ?_, ?_, by simp [e, h3], by simp [e, h4], ?_, ?_⟩
    · rw [if_neg (by have := q 0 2 (by omega) (by omega); omega), if_neg (by have := q 0 1 (by omega) (by omega); omega), if_neg (by have := q 0 0 (by omega) (by omega); omega)]; exact h0
    · rw [if_neg (q 1 2 (by omega) (by omega)), if_neg (q 1 1 (by omega) (by omega)), if_neg (by have := q 1 0 (by omega) (by omega); omega)]; simp only [if_neg e]; exact h1
    · rw [if_neg (q 2 2 (by omega) (by omega)), if_neg (q 2 1 (by omega) (by omega)), if_neg (by have := q 2 0 (by omega) (by omega); omega)]; simp only [if_neg e]; exact h2
    · simp only [if_neg e]
      exact ((h5.setOther (fun y hy => by cases hy; simp; omega) _).setOther (fun y hy => by cases hy; simp; omega) _).setOther (fun y hy => by cases hy; simp; omega) _
    · simp only [if_neg e]
      exact ((h6.setOther (fun y hy => by cases hy; simp; omega) _).setOther (fun y hy => by cases hy; simp; omega) _).setOther (fun y hy => by cases hy; simp; omega) _
theorem RowF.fu {w : World} {g n : Nat} {fs : List Fn} (h : RowF w g fs n n) (hl : fs.length = n) (hbig : n ≤ maxLen) : Fu w (some ⟨g, 0, none⟩) n n fs := by
  obtain ⟨f, tf, tc, hr, hc⟩ := h
  refine ⟨hl, Nat.le_refl _, hbig, fun hn => ⟨g, 0, rfl, hr.lt, fun i hi => ?_⟩⟩
  obtain ⟨h0, h1, h2, h3, h4, h5, h6⟩ := hc i hi
  refine ⟨_, _, _, _, _, _, ?_, ?_, ?_, h5, h6⟩
  · rw [Nat.zero_add, ← h0]; exact hr.cell (by omega)
  · rw [Nat.zero_add, ← h1]; exact hr.cell (by omega)
  · rw [Nat.zero_add, ← h2]; exact hr.cell (by omega)
set_option maxHeartbeats 2000000 in
theorem toFuncS_c (p : Option Addr) (n c : Nat) (fs : List Fn) (w : World) (hD : Fu w p n c fs) (hn : n ≤ 1048576) (hfit : FnsFit fs n 1048576) :
    Calls Tryd.prog 15 #[.slice p n c] w fun e w' => e = .returned (.slice (some ⟨w.heap.size, 0, none⟩) n n) ∧ Fu w' (some ⟨w.heap.size, 0, none⟩) n n fs ∧ RowF w' w.heap.size fs n n ∧ Below w.heap.size w w' := by
  have HD : Hid (Fu w p n c fs) := hD
  have HT : Hid (FnsFit fs n 1048576) := hfit
  clear hD hfit
  obtain ⟨ii, hi1, hpr⟩ := Option.map_eq_some_iff.1 infoFn
  simp only [Prod.mk.injEq] at hpr
  obtain ⟨hz, hs, hb⟩ := hpr
  have HI : Hid (Tryd.prog.info? 44 = some ii ∧ ii.zero = some (.agg #[.int .i64 0, .slice none 0 0, .slice none 0 0]) ∧ ii.size = 3 ∧ ii.bytes = 56) := ⟨hi1, hz, hs, hb⟩
  clear hi1 hz hs hb
  go_enter Tryd.func15, Tryd.ntmps15
  go_wp2_with (at_make; refine wpList_make_full _ rfl (.tmp 6) (.tmp 6) 29 rfl w.heap.size 44 ii _ 3 Tryd.underlying29 HI.out.1 HI.out.2.1 HI.out.2.2.1 .i64 .i64 n n n (by simp [Act.eval]) (by simp [Act.eval]) rfl rfl (by rw [HI.out.2.2.2]; omega) (by unfold maxLen; omega) (Nat.le_refl _) ?_)
  intro w0 ho hg
  have HR : Hid (RowF w0 w.heap.size fs n 0) := RowF.made fs ho
  have HBL : Hid (Below w.heap.size w w0) := (Below.refl _ w).grown hg (Nat.le_refl _) (fun k h => by cases h)
  clear ho hg
  go_wp2
  go_loopw [4] (fun i wr => ∃ k : Nat, k ≤ n ∧ i = .int .i64 k ∧ Hid (RowF wr w.heap.size fs n k) ∧ Hid (Below w.heap.size w wr)) (fun i _ => n - (intOf i).toNat)
  case atStart => exact ⟨0, Nat.zero_le _, rfl, HR, HBL⟩
  case round =>
    clear HR HBL w0
    obtain ⟨k, hk, rfl, hr, hb⟩ := hrel
    by_cases hlt : k < n
    · obtain ⟨b, o, rfl, hbl, g⟩ := HD.out.cells (by omega)
      obtain ⟨fp, fl, fc, cp, cl, cc, he⟩ := g k hlt
      clear g
      have hfl : Hid ((fs.getD k fn0).free.length = fl) := he.free.len
      have hcl : Hid ((fs.getD k fn0).code.length = cl) := he.code.len
      have hfl2 : fl ≤ 1048576 := by have := (HT.out k hlt).1; rw [hfl.out] at this; omega
      have hcl2 : cl ≤ 1048576 := by have := (HT.out k hlt).2; rw [hcl.out] at this; omega
      have he' := he.below (w' := wr) hbl hb.out
      have HF : Hid (Bo wr fp fl fc (fs.getD k fn0).free) := he'.free
      have HC : Hid (Ii wr cp cl cc (fs.getD k fn0).code) := he'.code
      have e0 := he'.c0
      have e1 := he'.c1
      have e2 := he'.c2
      clear he he'
      have hgl := hr.out.lt
      have HST : Hid (∀ (w1 : World) (t u : Nat), Below wr.heap.size wr w1 → wr.heap.size ≤ t → wr.heap.size ≤ u → Bo w1 (some ⟨t, 0, none⟩) fl fl (fs.getD k fn0).free → Ii w1 (some ⟨u, 0, none⟩) cl cl (fs.getD k fn0).code →
        RowF (((w1.setCell ⟨w.heap.size, k * 3, none⟩ (.int .i64 (fs.getD k fn0).params)).setCell ⟨w.heap.size, k * 3 + 1, none⟩ (.slice (some ⟨t, 0, none⟩) fl fl)).setCell ⟨w.heap.size, k * 3 + 2, none⟩ (.slice (some ⟨u, 0, none⟩) cl cl)) w.heap.size fs n (k + 1)) := by
        intro w1 t u h1 h2 h3 h4 h5
        rw [← hfl.out] at h4 ⊢
        rw [← hcl.out] at h5 ⊢
        exact (hr.out.below h1).store _ rfl t u (by omega) (by omega) h4 h5
      generalize fs.getD k fn0 = f at e0 e1 e2 HF HC HST
      go_wp2_with (go_at_call 27; refine (toFunc_c _ fp fl fc cp cl cc f.free f.code _ HF.out HC.out hfl2 hcl2).mono ?_; rintro e w1 ⟨t, u, rfl, ht1, hu1, hbo, hii, hb1⟩; have hz := hb1.size; obtain ⟨v0, cc0, ff0⟩ := (hr.out.below hb1).cells (k * 3) (by omega); obtain ⟨v1, cc1, ff1⟩ := (hr.out.below hb1).cells (k * 3 + 1) (by omega); obtain ⟨v2, cc2, ff2⟩ := (hr.out.below hb1).cells (k * 3 + 2) (by omega))
      exact ⟨⟨k + 1, by omega, by go_num, HST.out w1 t u hb1 ht1 hu1 hbo hii, (((hb.out.trans (hb1.mono hb.out.size)).setCell (Nat.le_refl _) _).setCell (Nat.le_refl _) _).setCell (Nat.le_refl _) _⟩, by simp [intOf]; omega⟩
    · have : k = n := by omega
      subst this
      go_wp2
      go_ret
      exact ⟨rfl, hr.out.fu HD.out.len (by unfold maxLen; omega), hr.out, hb.out⟩
theorem infoDs : (Tryd.prog.info? 37).map (fun i => (i.zero, i.size, i.bytes)) = some (some (.slice none 0 0), 1, 24) := by kernel_rfl
/-- The first k of n lists of data lie in block g. -/
def RowD (w : World) (g : Nat) (ls : List (List Dt)) (n k : Nat) : Prop := ∃ (f : Nat → Value) (t : Nat → Nat), w.rowIs g 37 n f ∧ ∀ i, i < k →
  f i = .slice (some ⟨t i, 0, none⟩) (ls.getD i []).length (ls.getD i []).length ∧ g < t i ∧ Row w (t i) (ls.getD i []) (ls.getD i []).length (ls.getD i []).length
theorem RowD.below {w w' : World} {g n k : Nat} {ls : List (List Dt)} (h : RowD w g ls n k) (hb : Below w.heap.size w w') : RowD w' g ls n k := by
  obtain ⟨f, t, hr, hc⟩ := h
  refine ⟨f, t, hr.of_block (hb.block g hr.lt), fun i hi => ?_⟩
  obtain ⟨h0, h1, h2⟩ := hc i hi
  exact ⟨h0, h1, h2.below hb⟩
theorem RowD.cells {w : World} {g n k : Nat} {ls : List (List Dt)} (h : RowD w g ls n k) (i : Nat) (hi : i < n) : ∃ v, w.cell? ⟨g, i, none⟩ = some v ∧ w.frozen? ⟨g, i, none⟩ = false := by
  obtain ⟨f, _, hr, _⟩ := h
  exact ⟨_, hr.cell hi, hr.frozen i⟩
theorem RowD.lt {w : World} {g n k : Nat} {ls : List (List Dt)} (h : RowD w g ls n k) : g < w.heap.size := by
  obtain ⟨f, _, hr, _⟩ := h
  exact hr.lt
theorem RowD.store {w : World} {g n k : Nat} {ls : List (List Dt)} (h : RowD w g ls n k) (x : List Dt) (hx : ls.getD k [] = x) (t : Nat) (ht : g < t) (hR : Row w t x x.length x.length) :
    RowD (w.setCell ⟨g, k, none⟩ (.slice (some ⟨t, 0, none⟩) x.length x.length)) g ls n (k + 1) := by
  obtain ⟨f, tt, hr, hc⟩ := h
  refine ⟨_, fun i => if i = k then t else tt i, hr.set k _, fun i hi => ?_⟩
  by_cases e : i = k
  · subst e
    rw [hx]
    refine ⟨by simp, by simpa using ht, ?_⟩
    simp only [if_true]
    exact hR.setLow (by simpa using ht) _
  · obtain ⟨h0, h1, h2⟩ := hc i (by omega)
    refine ⟨?_, by simp [e, h1], ?_⟩
    · rw [if_neg e]; simp only [if_neg e]; exact h0
    · simp only [if_neg e]
      exact h2.setLow (by simpa using h1) _
/-- Counts that are ints. -/
def Cnts (ds : List Dt) : Prop := ∀ i, i < ds.length → -9223372036854775808 ≤ (ds.getD i dt0).count ∧ (ds.getD i dt0).count ≤ 9223372036854775807
theorem Da.cnts {w : World} {p : Option Addr} {n c : Nat} {ds : List Dt} (h : Da w p n c ds) : Cnts ds := fun i hi => by
  rw [h.len] at hi
  obtain ⟨b, o, _, _, g⟩ := h.cells (by omega)
  obtain ⟨tp, tn, tc, he⟩ := g i hi
  exact ⟨he.lo, he.hi⟩
theorem RowD.dd {w : World} {g n : Nat} {ls : List (List Dt)} (h : RowD w g ls n n) (hl : ls.length = n) (hbig : n ≤ maxLen) (hfit : ∀ i, i < n → (ls.getD i []).length ≤ maxLen ∧ Cnts (ls.getD i [])) : Dd w (some ⟨g, 0, none⟩) n n ls := by
  obtain ⟨f, t, hr, hc⟩ := h
  refine ⟨hl, Nat.le_refl _, hbig, fun hn => ⟨g, 0, rfl, hr.lt, fun i hi => ?_⟩⟩
  obtain ⟨h0, h1, h2⟩ := hc i hi
  refine ⟨_, _, _, ?_, h2.da rfl (hfit i hi).1 (hfit i hi).2⟩
  rw [Nat.zero_add, ← h0]; exact hr.cell hi
set_option maxHeartbeats 2000000 in
theorem toDatumSS_c (p : Option Addr) (n c : Nat) (ls : List (List Dt)) (w : World) (hD : Dd w p n c ls) (hn : n ≤ 1048576) (hfit : ∀ i, i < n → DsFit (ls.getD i []) 1048576) :
    Calls Tryd.prog 14 #[.slice p n c] w fun e w' => e = .returned (.slice (some ⟨w.heap.size, 0, none⟩) n n) ∧ Dd w' (some ⟨w.heap.size, 0, none⟩) n n ls ∧ RowD w' w.heap.size ls n n ∧ Below w.heap.size w w' := by
  have HD : Hid (Dd w p n c ls) := hD
  have HT : Hid (∀ i, i < n → DsFit (ls.getD i []) 1048576) := hfit
  clear hD hfit
  have hmk := run_make_row' (P := Tryd.prog) 28 37 (.slice none 0 0) 24 Tryd.underlying28 infoDs rfl .i64 .i64 n (by omega) (by omega)
  go_enter Tryd.func14, Tryd.ntmps14
  go_wp2
  clear hmk
  go_loopw [4] (fun i wr => ∃ k : Nat, k ≤ n ∧ i = .int .i64 k ∧ Hid (RowD wr w.heap.size ls n k) ∧ Hid (Below w.heap.size w wr)) (fun i _ => n - (intOf i).toNat)
  case atStart => exact ⟨0, Nat.zero_le _, rfl, ⟨_, fun _ => 0, World.rowIs_made w (.slice none 0 0) n 37, fun i hi => absurd hi (Nat.not_lt_zero i)⟩, below1 _ _⟩
  case round =>
    obtain ⟨k, hk, rfl, hr, hb⟩ := hrel
    by_cases hlt : k < n
    · obtain ⟨b, o, rfl, hbl, g⟩ := HD.out.cells (by omega)
      obtain ⟨q, m, d, e0, he⟩ := g k hlt
      clear g
      have hml : Hid ((ls.getD k []).length = m) := he.len
      have hft := HT.out k hlt
      have hm2 : m ≤ 1048576 := by have := hft.1; rw [hml.out] at this; omega
      have HTX : Hid (∀ i, i < m → (((ls.getD k []).getD i dt0).text.length : Int) ≤ 1048576) := fun i hi => hft.2 i (by rw [hml.out]; exact hi)
      rw [← hb.out.cell (p := ⟨b, o + k, none⟩) hbl] at e0
      have HE : Hid (Da wr q m d (ls.getD k [])) := he.below hb.out
      clear he hft
      have hgl := hr.out.lt
      have HST : Hid (∀ (w1 : World) (t : Nat), Below wr.heap.size wr w1 → wr.heap.size ≤ t → Row w1 t (ls.getD k []) m m → RowD (w1.setCell ⟨w.heap.size, k, none⟩ (.slice (some ⟨t, 0, none⟩) m m)) w.heap.size ls n (k + 1)) := by
        intro w1 t h1 h2 h3
        rw [← hml.out] at h3 ⊢
        exact (hr.out.below h1).store _ rfl t (by omega) h3
      generalize ls.getD k [] = x at HE HTX HST
      go_wp2_with (go_at_call 26; refine (toDatumSr q m d x _ HE.out hm2 HTX.out).mono ?_; rintro e w1 ⟨rfl, _, hrw, hb1⟩; have hz := hb1.size; obtain ⟨v0, cc0, ff0⟩ := (hr.out.below hb1).cells k hlt)
      exact ⟨⟨k + 1, by omega, by go_num, HST.out w1 _ hb1 (Nat.le_refl _) hrw, (hb.out.trans (hb1.mono hb.out.size)).setCell (Nat.le_refl _) _⟩, by simp [intOf]; omega⟩
    · have : k = n := by omega
      subst this
      go_wp2
      go_ret
      refine ⟨rfl, hr.out.dd HD.out.len (by unfold maxLen; omega) (fun i hi => ?_), hr.out, hb.out⟩
      obtain ⟨b, o, _, _, g⟩ := HD.out.cells (by omega)
      obtain ⟨q, m, d, _, he⟩ := g i hi
      exact ⟨by have := (HT.out i hi).1; unfold maxLen; omega, he.cnts⟩
end Go.Proofs.YtlpibogllmlacaaDoor
