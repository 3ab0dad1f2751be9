import Derived.Test.YtdjdhjciealfhaaGreatDoorM2
namespace Go.Proofs.YtdjdhjciealfhaaGreatDoor
open Go.RowKit Ch1
/-- A variable of three cells in block b. -/
structure B3 (w : World) (b : Nat) (v0 v1 v2 : Value) : Prop where
  c0 : w.cell? ⟨b, 0, none⟩ = some v0
  c1 : w.cell? ⟨b, 1, none⟩ = some v1
  c2 : w.cell? ⟨b, 2, none⟩ = some v2
  f0 : w.frozen? ⟨b, 0, none⟩ = false
  f1 : w.frozen? ⟨b, 1, none⟩ = false
  f2 : w.frozen? ⟨b, 2, none⟩ = false
  lt : b < w.heap.size
theorem B3.of_heap {w : World} {b : Nat} {v0 v1 v2 : Value} {t : TypeId} (e : w.heap[b]? = some (.cells #[v0, v1, v2] t)) : B3 w b v0 v1 v2 :=
  ⟨by simp [World.cell?, e], by simp [World.cell?, e], by simp [World.cell?, e], by simp [World.frozen?, e], by simp [World.frozen?, e], by simp [World.frozen?, e], (Array.getElem?_eq_some_iff.1 e).1⟩
theorem B3.new (w : World) (v0 v1 v2 : Value) (t : TypeId) : B3 (w.alloc (.cells #[v0, v1, v2] t)) w.heap.size v0 v1 v2 := by
  have e' : (w.alloc (.cells #[v0, v1, v2] t)).heap = w.heap.push (.cells #[v0, v1, v2] t) := rfl
  exact B3.of_heap (t := t) (by rw [e']; simp)
theorem B3.of_block {w w' : World} {b : Nat} {v0 v1 v2 : Value} (h : B3 w b v0 v1 v2) (hb : w'.heap[b]? = w.heap[b]?) (hs : w.heap.size ≤ w'.heap.size) : B3 w' b v0 v1 v2 :=
  ⟨by rw [World.cell?_of_block (w := w) hb]; exact h.c0, by rw [World.cell?_of_block (w := w) hb]; exact h.c1, by rw [World.cell?_of_block (w := w) hb]; exact h.c2, by rw [World.frozen?_of_block (w := w) hb]; exact h.f0, by rw [World.frozen?_of_block (w := w) hb]; exact h.f1, by rw [World.frozen?_of_block (w := w) hb]; exact h.f2, Nat.lt_of_lt_of_le h.lt hs⟩
theorem B3.below {w w' : World} {b : Nat} {v0 v1 v2 : Value} (h : B3 w b v0 v1 v2) (hb : Below w.heap.size w w') : B3 w' b v0 v1 v2 := h.of_block (hb.block b h.lt) hb.size
theorem B3.other {w : World} {b : Nat} {v0 v1 v2 : Value} (h : B3 w b v0 v1 v2) {a : Addr} (ha : b ≠ a.block) (v : Value) : B3 (w.setCell a v) b v0 v1 v2 := h.of_block (Below.heap_setCell w a v b ha) (by simp [World.setCell])
theorem B3.set0 {w : World} {b : Nat} {v0 v1 v2 : Value} (h : B3 w b v0 v1 v2) (v : Value) : B3 (w.setCell ⟨b, 0, none⟩ v) b v v1 v2 :=
  ⟨World.cell?_setCell_same' w _ _ (by rw [h.c0]; rfl), by rw [World.cell?_setCell_other _ _ _ _ (by intro e; cases e)]; exact h.c1, by rw [World.cell?_setCell_other _ _ _ _ (by intro e; cases e)]; exact h.c2, by rw [World.frozen?_setCell]; exact h.f0, by rw [World.frozen?_setCell]; exact h.f1, by rw [World.frozen?_setCell]; exact h.f2, by have := h.lt; simpa [World.setCell] using this⟩
theorem B3.set1 {w : World} {b : Nat} {v0 v1 v2 : Value} (h : B3 w b v0 v1 v2) (v : Value) : B3 (w.setCell ⟨b, 1, none⟩ v) b v0 v v2 :=
  ⟨by rw [World.cell?_setCell_other _ _ _ _ (by intro e; cases e)]; exact h.c0, World.cell?_setCell_same' w _ _ (by rw [h.c1]; rfl), by rw [World.cell?_setCell_other _ _ _ _ (by intro e; cases e)]; exact h.c2, by rw [World.frozen?_setCell]; exact h.f0, by rw [World.frozen?_setCell]; exact h.f1, by rw [World.frozen?_setCell]; exact h.f2, by have := h.lt; simpa [World.setCell] using this⟩
theorem B3.set2 {w : World} {b : Nat} {v0 v1 v2 : Value} (h : B3 w b v0 v1 v2) (v : Value) : B3 (w.setCell ⟨b, 2, none⟩ v) b v0 v1 v :=
  ⟨by rw [World.cell?_setCell_other _ _ _ _ (by intro e; cases e)]; exact h.c0, by rw [World.cell?_setCell_other _ _ _ _ (by intro e; cases e)]; exact h.c1, World.cell?_setCell_same' w _ _ (by rw [h.c2]; rfl), by rw [World.frozen?_setCell]; exact h.f0, by rw [World.frozen?_setCell]; exact h.f1, by rw [World.frozen?_setCell]; exact h.f2, by have := h.lt; simpa [World.setCell] using this⟩
/-- What toFunc leaves. -/
def ToFq (k : Int) (fl cl : Nat) (free : List Bool) (code : List In) (w w' : World) (e : Ending) : Prop := ∃ tf tc, e = .returned (.agg #[.int .i64 k, .slice (some ⟨tf, 0, none⟩) fl fl, .slice (some ⟨tc, 0, none⟩) cl cl]) ∧ w.heap.size ≤ tf ∧ w.heap.size ≤ tc ∧ Bo w' (some ⟨tf, 0, none⟩) fl fl free ∧ Ii w' (some ⟨tc, 0, none⟩) cl cl code ∧ Below w.heap.size w w'
set_option maxHeartbeats 2000000 in
theorem toFunc_c (k : Int) (fp : Option Addr) (fl fc : Nat) (cp : Option Addr) (cl cc : Nat) (free : List Bool) (code : List In) (w : World) (hB : Bo w fp fl fc free) (hI : Ii w cp cl cc code) (hf : fl ≤ 1048576) (hc : cl ≤ 1048576) :
    Calls Tryz.prog 39 #[.agg #[.int .i64 k, .slice fp fl fc, .slice cp cl cc]] w fun e w' => ToFq k fl cl free code w w' e := by
  have HB : Hid (Bo w fp fl fc free) := hB
  have HI : Hid (Ii w cp cl cc code) := hI
  clear hB hI
  go_enter Tryz.func39, Tryz.ntmps39
  go_wp2_with fail
  refine (toBoolS_c fp fl fc free _ (by exact HB.out.below (below3 w _ _ _)) hf).mono ?_
  rintro e w1 ⟨rfl, hbo, hb1⟩
  have hz := hb1.size
  have hbo' : Bo w1 (some ⟨w.heap.size + 1 + 1 + 1, 0, none⟩) fl fl free := by simpa using hbo
  have hbb : Below w.heap.size w w1 := (below3 w _ _ _).trans (hb1.mono (by simp; omega))
  have hz' : w.heap.size + 3 ≤ w1.heap.size := by simpa using hz
  have HBO : Hid (Bo w1 (some ⟨w.heap.size + 1 + 1 + 1, 0, none⟩) fl fl free) := hbo'
  have HBB : Hid (Below w.heap.size w w1) := hbb
  have HX : Hid (B3 w1 (w.heap.size + 1 + 1) (.int .i64 k) (.slice none 0 0) (.slice none 0 0)) := by
    have := (B3.new ((w.alloc (.cells #[.int .i64 k, .slice fp fl fc, .slice cp cl cc] 66)).alloc (.cells #[.int .i64 0, .slice none 0 0, .slice none 0 0] 48)) (.int .i64 k) (.slice none 0 0) (.slice none 0 0) 48).below hb1
    unfold Hid; simpa using this
  have HY : Hid (B3 w1 (w.heap.size + 1) (.int .i64 0) (.slice none 0 0) (.slice none 0 0)) := by
    have := ((B3.new (w.alloc (.cells #[.int .i64 k, .slice fp fl fc, .slice cp cl cc] 66)) (.int .i64 0) (.slice none 0 0) (.slice none 0 0) 48).below (below1 _ _)).below hb1
    unfold Hid; simpa using this
  have HA : Hid (B3 w1 w.heap.size (.int .i64 k) (.slice fp fl fc) (.slice cp cl cc)) := ((((B3.new w (.int .i64 k) (.slice fp fl fc) (.slice cp cl cc) 66).below (below1 _ _)).below (below1 _ _)).below hb1)
  have x1 := HX.out.c1
  have x1f := HX.out.f1
  have a2 := HA.out.c2
  clear hbo hbo' hbb hb1 hz
  go_wp2_with fail
  have HX1 : Hid (B3 (w1.setCell ⟨w.heap.size + 1 + 1, 1, none⟩ (.slice (some ⟨w.heap.size + 1 + 1 + 1, 0, none⟩) fl fl)) (w.heap.size + 1 + 1) (.int .i64 k) (.slice (some ⟨w.heap.size + 1 + 1 + 1, 0, none⟩) fl fl) (.slice none 0 0)) := HX.out.set1 _
  have HY1 : Hid (B3 (w1.setCell ⟨w.heap.size + 1 + 1, 1, none⟩ (.slice (some ⟨w.heap.size + 1 + 1 + 1, 0, none⟩) fl fl)) (w.heap.size + 1) (.int .i64 0) (.slice none 0 0) (.slice none 0 0)) := HY.out.other (by simp) _
  have HBB1 : Hid (Below w.heap.size w (w1.setCell ⟨w.heap.size + 1 + 1, 1, none⟩ (.slice (some ⟨w.heap.size + 1 + 1 + 1, 0, none⟩) fl fl))) := HBB.out.setCell (by simp; omega) _
  have HBO1 : Hid (Bo (w1.setCell ⟨w.heap.size + 1 + 1, 1, none⟩ (.slice (some ⟨w.heap.size + 1 + 1 + 1, 0, none⟩) fl fl)) (some ⟨w.heap.size + 1 + 1 + 1, 0, none⟩) fl fl free) := HBO.out.setOther (fun x hx => by cases hx; simp) _
  have hsz1 : w.heap.size + 3 ≤ (w1.setCell ⟨w.heap.size + 1 + 1, 1, none⟩ (.slice (some ⟨w.heap.size + 1 + 1 + 1, 0, none⟩) fl fl)).heap.size := by simpa [World.setCell] using hz'
  clear x1 x1f a2 HX HY HA HBB HBO hz'
  refine (toInsS_c cp cl cc code _ (by exact HI.out.below HBB1.out) hc).mono ?_
  generalize w1.setCell ⟨w.heap.size + 1 + 1, 1, none⟩ (.slice (some ⟨w.heap.size + 1 + 1 + 1, 0, none⟩) fl fl) = w1' at HX1 HY1 HBB1 HBO1 hsz1
  rintro e w2 ⟨rfl, hii, hb2⟩
  have HII : Hid (Ii w2 (some ⟨w1'.heap.size, 0, none⟩) cl cl code) := hii
  have HBO2 : Hid (Bo w2 (some ⟨w.heap.size + 1 + 1 + 1, 0, none⟩) fl fl free) := HBO1.out.below hb2
  have HX2 : Hid (B3 w2 (w.heap.size + 1 + 1) (.int .i64 k) (.slice (some ⟨w.heap.size + 1 + 1 + 1, 0, none⟩) fl fl) (.slice none 0 0)) := HX1.out.below hb2
  have HY2 : Hid (B3 w2 (w.heap.size + 1) (.int .i64 0) (.slice none 0 0) (.slice none 0 0)) := HY1.out.below hb2
  have HBB2 : Hid (Below w.heap.size w w2) := HBB1.out.trans (hb2.mono HBB1.out.size)
  have x0 := HX2.out.c0
  have x1 := HX2.out.c1
  have x2 := HX2.out.c2
  have x2f := HX2.out.f2
  have y0 := HY2.out.c0
  have y1 := HY2.out.c1
  have y2 := HY2.out.c2
  have y0f := HY2.out.f0
  have y1f := HY2.out.f1
  have y2f := HY2.out.f2
  clear hii hb2 HX1 HY1 HBO1 HBB1
  go_wp2
  refine bodyPost_ret (v := .agg #[.int .i64 k, .slice (some ⟨w.heap.size + 1 + 1 + 1, 0, none⟩) fl fl, .slice (some ⟨w1'.heap.size, 0, none⟩) cl cl]) (by simp [results, Tryz.results39, go_sem, y0, y1, y2]) rfl ⟨_, _, rfl, by omega, by omega, ?_, ?_, ?_⟩
  · exact (((HBO2.out.setOther (fun x hx => by cases hx; simp) _).setOther (fun x hx => by cases hx; simp; omega) _).setOther (fun x hx => by cases hx; simp; omega) _).setOther (fun x hx => by cases hx; simp; omega) _
  · exact (((HII.out.setOther (fun x hx => by cases hx; simp; omega) _).setOther (fun x hx => by cases hx; simp; omega) _).setOther (fun x hx => by cases hx; simp; omega) _).setOther (fun x hx => by cases hx; simp; omega) _
  · exact (((HBB2.out.setCell (by simp; omega) _).setCell (by simp) _).setCell (by simp) _).setCell (by simp) _
end Go.Proofs.YtdjdhjciealfhaaGreatDoor
namespace Go.Proofs.YtdjdhjciealfhaaGreatDoor
open Go.RowKit Ch1
theorem infoFn : (Tryz.prog.info? 48).map (fun i => (i.zero, i.size, i.bytes)) = some (some (.agg #[.int .i64 0, .slice none 0 0, .slice none 0 0]), 3, 56) := by kernel_rfl
/-- The first k of n functions lie in block g. -/
def RowF (w : World) (g : Nat) (fs : List Fn) (n k : Nat) : Prop := ∃ (f : Nat → Value) (tf tc : Nat → Nat), w.rowIs g 48 (n * 3) f ∧ ∀ i, i < k →
  f (i * 3) = .int .i64 (fs.getD i fn0).params ∧ f (i * 3 + 1) = .slice (some ⟨tf i, 0, none⟩) (fs.getD i fn0).free.length (fs.getD i fn0).free.length ∧ f (i * 3 + 2) = .slice (some ⟨tc i, 0, none⟩) (fs.getD i fn0).code.length (fs.getD i fn0).code.length ∧
  g < tf i ∧ g < tc i ∧ Bo w (some ⟨tf i, 0, none⟩) (fs.getD i fn0).free.length (fs.getD i fn0).free.length (fs.getD i fn0).free ∧ Ii w (some ⟨tc i, 0, none⟩) (fs.getD i fn0).code.length (fs.getD i fn0).code.length (fs.getD i fn0).code
theorem RowF.made {w w' : World} {g n : Nat} {vs : List Value} (fs : List Fn) (ho : w'.ownsRow g 48 3 (.slice (some ⟨w.heap.size, 0, none⟩) n n) n vs) : RowF w' w.heap.size fs n 0 := by
  obtain ⟨_, h | ⟨g', cap, cur, hv, _, hh, _, _, hsz, _⟩⟩ := ho
  · cases h.1
  · cases hv
    exact ⟨fun i => cur.getD i .nilIface, fun _ => 0, fun _ => 0, ⟨cur, hh, hsz, fun i hi => by simp [Array.getD, show i < cur.size by omega]⟩, fun i hi => absurd hi (Nat.not_lt_zero i)⟩
theorem RowF.below {w w' : World} {g n k : Nat} {fs : List Fn} (h : RowF w g fs n k) (hb : Below w.heap.size w w') : RowF w' g fs n k := by
  obtain ⟨f, tf, tc, hr, hc⟩ := h
  refine ⟨f, tf, tc, hr.of_block (hb.block g hr.lt), fun i hi => ?_⟩
  obtain ⟨h0, h1, h2, h3, h4, h5, h6⟩ := hc i hi
  exact ⟨h0, h1, h2, h3, h4, h5.below hb, h6.below hb⟩
theorem RowF.cells {w : World} {g n k : Nat} {fs : List Fn} (h : RowF w g fs n k) (i : Nat) (hi : i < n * 3) : ∃ v, w.cell? ⟨g, i, none⟩ = some v ∧ w.frozen? ⟨g, i, none⟩ = false := by
  obtain ⟨f, _, _, hr, _⟩ := h
  exact ⟨_, hr.cell hi, hr.frozen i⟩
theorem RowF.lt {w : World} {g n k : Nat} {fs : List Fn} (h : RowF w g fs n k) : g < w.heap.size := by
  obtain ⟨f, _, _, hr, _⟩ := h
  exact hr.lt
theorem RowF.store {w : World} {g n k : Nat} {fs : List Fn} (h : RowF w g fs n k) (x : Fn) (hx : fs.getD k fn0 = x) (t u : Nat) (ht : g < t) (hu : g < u) (hB : Bo w (some ⟨t, 0, none⟩) x.free.length x.free.length x.free) (hI : Ii w (some ⟨u, 0, none⟩) x.code.length x.code.length x.code) :
    RowF (((w.setCell ⟨g, k * 3, none⟩ (.int .i64 x.params)).setCell ⟨g, k * 3 + 1, none⟩ (.slice (some ⟨t, 0, none⟩) x.free.length x.free.length)).setCell ⟨g, k * 3 + 2, none⟩ (.slice (some ⟨u, 0, none⟩) x.code.length x.code.length)) g fs n (k + 1) := by
  obtain ⟨f, tf, tc, hr, hc⟩ := h
  refine ⟨_, fun i => if i = k then t else tf i, fun i => if i = k then u else tc i, ((hr.set (k * 3) _).set (k * 3 + 1) _).set (k * 3 + 2) _, fun i hi => ?_⟩
  by_cases e : i = k
  · subst e
    rw [hx]
    refine ⟨by simp, by simp, by simp, by simpa using ht, by simpa using hu, ?_, ?_⟩
    · simp only [if_true]
      exact ((hB.setOther (fun y hy => by cases hy; simp; omega) _).setOther (fun y hy => by cases hy; simp; omega) _).setOther (fun y hy => by cases hy; simp; omega) _
    · simp only [if_true]
      exact ((hI.setOther (fun y hy => by cases hy; simp; omega) _).setOther (fun y hy => by cases hy; simp; omega) _).setOther (fun y hy => by cases hy; simp; omega) _
  · obtain ⟨h0, h1, h2, h3, h4, h5, h6⟩ := hc i (by omega)
    have q := q3 e
    refine ⟨?_, ?_, ?_, by simp [e, h3], by simp [e, h4], ?_, ?_⟩
    · rw [if_neg (by have := q 0 2 (by omega) (by omega); omega), if_neg (by have := q 0 1 (by omega) (by omega); omega), if_neg (by have := q 0 0 (by omega) (by omega); omega)]; exact h0
    · rw [if_neg (q 1 2 (by omega) (by omega)), if_neg (q 1 1 (by omega) (by omega)), if_neg (by have := q 1 0 (by omega) (by omega); omega)]; simp only [if_neg e]; exact h1
    · rw [if_neg (q 2 2 (by omega) (by omega)), if_neg (q 2 1 (by omega) (by omega)), if_neg (by have := q 2 0 (by omega) (by omega); omega)]; simp only [if_neg e]; exact h2
    · simp only [if_neg e]
      exact ((h5.setOther (fun y hy => by cases hy; simp; omega) _).setOther (fun y hy => by cases hy; simp; omega) _).setOther (fun y hy => by cases hy; simp; omega) _
    · simp only [if_neg e]
      exact ((h6.setOther (fun y hy => by cases hy; simp; omega) _).setOther (fun y hy => by cases hy; simp; omega) _).setOther (fun y hy => by cases hy; simp; omega) _
theorem RowF.fu {w : World} {g n : Nat} {fs : List Fn} (h : RowF w g fs n n) (hl : fs.length = n) (hbig : n ≤ maxLen) : Fu w (some ⟨g, 0, none⟩) n n fs := by
  obtain ⟨f, tf, tc, hr, hc⟩ := h
  refine ⟨hl, Nat.le_refl _, hbig, fun hn => ⟨g, 0, rfl, hr.lt, fun i hi => ?_⟩⟩
  obtain ⟨h0, h1, h2, h3, h4, h5, h6⟩ := hc i hi
  refine ⟨_, _, _, _, _, _, ?_, ?_, ?_, h5, h6⟩
  · rw [Nat.zero_add, ← h0]; exact hr.cell (by omega)
  · rw [Nat.zero_add, ← h1]; exact hr.cell (by omega)
  · rw [Nat.zero_add, ← h2]; exact hr.cell (by omega)
set_option maxHeartbeats 2000000 in
theorem toFuncS_c (p : Option Addr) (n c : Nat) (fs : List Fn) (w : World) (hD : Fu w p n c fs) (hn : n ≤ 1048576) (hfit : FnsFit fs n 1048576) :
    Calls Tryz.prog 18 #[.slice p n c] w fun e w' => e = .returned (.slice (some ⟨w.heap.size, 0, none⟩) n n) ∧ Fu w' (some ⟨w.heap.size, 0, none⟩) n n fs ∧ RowF w' w.heap.size fs n n ∧ Below w.heap.size w w' := by
  have HD : Hid (Fu w p n c fs) := hD
  have HT : Hid (FnsFit fs n 1048576) := hfit
  clear hD hfit
  obtain ⟨ii, hi1, hpr⟩ := Option.map_eq_some_iff.1 infoFn
  simp only [Prod.mk.injEq] at hpr
  obtain ⟨hz, hs, hb⟩ := hpr
  have HI : Hid (Tryz.prog.info? 48 = some ii ∧ ii.zero = some (.agg #[.int .i64 0, .slice none 0 0, .slice none 0 0]) ∧ ii.size = 3 ∧ ii.bytes = 56) := ⟨hi1, hz, hs, hb⟩
  clear hi1 hz hs hb
  go_enter Tryz.func18, Tryz.ntmps18
  go_wp2_with (at_make; refine wpList_make_full _ rfl (.tmp 6) (.tmp 6) 31 rfl w.heap.size 48 ii _ 3 Tryz.underlying31 HI.out.1 HI.out.2.1 HI.out.2.2.1 .i64 .i64 n n n (by simp [Act.eval]) (by simp [Act.eval]) rfl rfl (by rw [HI.out.2.2.2]; omega) (by unfold maxLen; omega) (Nat.le_refl _) ?_)
  intro w0 ho hg
  have HR : Hid (RowF w0 w.heap.size fs n 0) := RowF.made fs ho
  have HBL : Hid (Below w.heap.size w w0) := (Below.refl _ w).grown hg (Nat.le_refl _) (fun k h => by cases h)
  clear ho hg
  go_wp2
  go_loopw [4] (fun i wr => ∃ k : Nat, k ≤ n ∧ i = .int .i64 k ∧ Hid (RowF wr w.heap.size fs n k) ∧ Hid (Below w.heap.size w wr)) (fun i _ => n - (intOf i).toNat)
  case atStart => exact ⟨0, Nat.zero_le _, rfl, HR, HBL⟩
  case round =>
    clear HR HBL w0
    obtain ⟨k, hk, rfl, hr, hb⟩ := hrel
    by_cases hlt : k < n
    · obtain ⟨b, o, rfl, hbl, g⟩ := HD.out.cells (by omega)
      obtain ⟨fp, fl, fc, cp, cl, cc, he⟩ := g k hlt
      clear g
      have hfl : Hid ((fs.getD k fn0).free.length = fl) := he.free.len
      have hcl : Hid ((fs.getD k fn0).code.length = cl) := he.code.len
      have hfl2 : fl ≤ 1048576 := by have := (HT.out k hlt).1; rw [hfl.out] at this; omega
      have hcl2 : cl ≤ 1048576 := by have := (HT.out k hlt).2; rw [hcl.out] at this; omega
      have he' := he.below (w' := wr) hbl hb.out
      have HF : Hid (Bo wr fp fl fc (fs.getD k fn0).free) := he'.free
      have HC : Hid (Ii wr cp cl cc (fs.getD k fn0).code) := he'.code
      have e0 := he'.c0
      have e1 := he'.c1
      have e2 := he'.c2
      clear he he'
      have hgl := hr.out.lt
      have HST : Hid (∀ (w1 : World) (t u : Nat), Below wr.heap.size wr w1 → wr.heap.size ≤ t → wr.heap.size ≤ u → Bo w1 (some ⟨t, 0, none⟩) fl fl (fs.getD k fn0).free → Ii w1 (some ⟨u, 0, none⟩) cl cl (fs.getD k fn0).code →
        RowF (((w1.setCell ⟨w.heap.size, k * 3, none⟩ (.int .i64 (fs.getD k fn0).params)).setCell ⟨w.heap.size, k * 3 + 1, none⟩ (.slice (some ⟨t, 0, none⟩) fl fl)).setCell ⟨w.heap.size, k * 3 + 2, none⟩ (.slice (some ⟨u, 0, none⟩) cl cl)) w.heap.size fs n (k + 1)) := by
        intro w1 t u h1 h2 h3 h4 h5
        rw [← hfl.out] at h4 ⊢
        rw [← hcl.out] at h5 ⊢
        exact (hr.out.below h1).store _ rfl t u (by omega) (by omega) h4 h5
      generalize fs.getD k fn0 = f at e0 e1 e2 HF HC HST
      go_wp2_with (go_at_call 39; refine (toFunc_c _ fp fl fc cp cl cc f.free f.code _ HF.out HC.out hfl2 hcl2).mono ?_; rintro e w1 ⟨t, u, rfl, ht1, hu1, hbo, hii, hb1⟩; have hz := hb1.size; obtain ⟨v0, cc0, ff0⟩ := (hr.out.below hb1).cells (k * 3) (by omega); obtain ⟨v1, cc1, ff1⟩ := (hr.out.below hb1).cells (k * 3 + 1) (by omega); obtain ⟨v2, cc2, ff2⟩ := (hr.out.below hb1).cells (k * 3 + 2) (by omega))
      exact ⟨⟨k + 1, by omega, by go_num, HST.out w1 t u hb1 ht1 hu1 hbo hii, (((hb.out.trans (hb1.mono hb.out.size)).setCell (Nat.le_refl _) _).setCell (Nat.le_refl _) _).setCell (Nat.le_refl _) _⟩, by simp [intOf]; omega⟩
    · have : k = n := by omega
      subst this
      go_wp2
      go_ret
      exact ⟨rfl, hr.out.fu HD.out.len (by unfold maxLen; omega), hr.out, hb.out⟩
theorem infoDs : (Tryz.prog.info? 67).map (fun i => (i.zero, i.size, i.bytes)) = some (some (.slice none 0 0), 1, 24) := by kernel_rfl
/-- The first k of n lists of data lie in block g. -/
def RowD (w : World) (g : Nat) (ls : List (List Dt)) (n k : Nat) : Prop := ∃ (f : Nat → Value) (t : Nat → Nat), w.rowIs g 67 n f ∧ ∀ i, i < k →
  f i = .slice (some ⟨t i, 0, none⟩) (ls.getD i []).length (ls.getD i []).length ∧ g < t i ∧ Row w (t i) (ls.getD i []) (ls.getD i []).length (ls.getD i []).length
theorem RowD.below {w w' : World} {g n k : Nat} {ls : List (List Dt)} (h : RowD w g ls n k) (hb : Below w.heap.size w w') : RowD w' g ls n k := by
  obtain ⟨f, t, hr, hc⟩ := h
  refine ⟨f, t, hr.of_block (hb.block g hr.lt), fun i hi => ?_⟩
  obtain ⟨h0, h1, h2⟩ := hc i hi
  exact ⟨h0, h1, h2.below hb⟩
theorem RowD.cells {w : World} {g n k : Nat} {ls : List (List Dt)} (h : RowD w g ls n k) (i : Nat) (hi : i < n) : ∃ v, w.cell? ⟨g, i, none⟩ = some v ∧ w.frozen? ⟨g, i, none⟩ = false := by
  obtain ⟨f, _, hr, _⟩ := h
  exact ⟨_, hr.cell hi, hr.frozen i⟩
theorem RowD.lt {w : World} {g n k : Nat} {ls : List (List Dt)} (h : RowD w g ls n k) : g < w.heap.size := by
  obtain ⟨f, _, hr, _⟩ := h
  exact hr.lt
theorem RowD.store {w : World} {g n k : Nat} {ls : List (List Dt)} (h : RowD w g ls n k) (x : List Dt) (hx : ls.getD k [] = x) (t : Nat) (ht : g < t) (hR : Row w t x x.length x.length) :
    RowD (w.setCell ⟨g, k, none⟩ (.slice (some ⟨t, 0, none⟩) x.length x.length)) g ls n (k + 1) := by
  obtain ⟨f, tt, hr, hc⟩ := h
  refine ⟨_, fun i => if i = k then t else tt i, hr.set k _, fun i hi => ?_⟩
  by_cases e : i = k
  · subst e
    rw [hx]
    refine ⟨by simp, by simpa using ht, ?_⟩
    simp only [if_true]
    exact hR.setLow (by simpa using ht) _
  · obtain ⟨h0, h1, h2⟩ := hc i (by omega)
    refine ⟨?_, by simp [e, h1], ?_⟩
    · rw [if_neg e]; simp only [if_neg e]; exact h0
    · simp only [if_neg e]
      exact h2.setLow (by simpa using h1) _
/-- Counts that are ints. -/
def Cnts (ds : List Dt) : Prop := ∀ i, i < ds.length → -9223372036854775808 ≤ (ds.getD i dt0).count ∧ (ds.getD i dt0).count ≤ 9223372036854775807
theorem Da.cnts {w : World} {p : Option Addr} {n c : Nat} {ds : List Dt} (h : Da w p n c ds) : Cnts ds := fun i hi => by
  rw [h.len] at hi
  obtain ⟨b, o, _, _, g⟩ := h.cells (by omega)
  obtain ⟨tp, tn, tc, he⟩ := g i hi
  exact ⟨he.lo, he.hi⟩
theorem RowD.dd {w : World} {g n : Nat} {ls : List (List Dt)} (h : RowD w g ls n n) (hl : ls.length = n) (hbig : n ≤ maxLen) (hfit : ∀ i, i < n → (ls.getD i []).length ≤ maxLen ∧ Cnts (ls.getD i [])) : Dd w (some ⟨g, 0, none⟩) n n ls := by
  obtain ⟨f, t, hr, hc⟩ := h
  refine ⟨hl, Nat.le_refl _, hbig, fun hn => ⟨g, 0, rfl, hr.lt, fun i hi => ?_⟩⟩
  obtain ⟨h0, h1, h2⟩ := hc i hi
  refine ⟨_, _, _, ?_, h2.da rfl (hfit i hi).1 (hfit i hi).2⟩
  rw [Nat.zero_add, ← h0]; exact hr.cell hi
set_option maxHeartbeats 2000000 in
theorem toDatumSS_c (p : Option Addr) (n c : Nat) (ls : List (List Dt)) (w : World) (hD : Dd w p n c ls) (hn : n ≤ 1048576) (hfit : ∀ i, i < n → DsFit (ls.getD i []) 1048576) :
    Calls Tryz.prog 17 #[.slice p n c] w fun e w' => e = .returned (.slice (some ⟨w.heap.size, 0, none⟩) n n) ∧ Dd w' (some ⟨w.heap.size, 0, none⟩) n n ls ∧ RowD w' w.heap.size ls n n ∧ Below w.heap.size w w' := by
  have HD : Hid (Dd w p n c ls) := hD
  have HT : Hid (∀ i, i < n → DsFit (ls.getD i []) 1048576) := hfit
  clear hD hfit
  have hmk := run_make_row' (P := Tryz.prog) 30 67 (.slice none 0 0) 24 Tryz.underlying30 infoDs rfl .i64 .i64 n (by omega) (by omega)
  go_enter Tryz.func17, Tryz.ntmps17
  go_wp2
  clear hmk
  go_loopw [4] (fun i wr => ∃ k : Nat, k ≤ n ∧ i = .int .i64 k ∧ Hid (RowD wr w.heap.size ls n k) ∧ Hid (Below w.heap.size w wr)) (fun i _ => n - (intOf i).toNat)
  case atStart => exact ⟨0, Nat.zero_le _, rfl, ⟨_, fun _ => 0, World.rowIs_made w (.slice none 0 0) n 67, fun i hi => absurd hi (Nat.not_lt_zero i)⟩, below1 _ _⟩
  case round =>
    obtain ⟨k, hk, rfl, hr, hb⟩ := hrel
    by_cases hlt : k < n
    · obtain ⟨b, o, rfl, hbl, g⟩ := HD.out.cells (by omega)
      obtain ⟨q, m, d, e0, he⟩ := g k hlt
      clear g
      have hml : Hid ((ls.getD k []).length = m) := he.len
      have hft := HT.out k hlt
      have hm2 : m ≤ 1048576 := by have := hft.1; rw [hml.out] at this; omega
      have HTX : Hid (∀ i, i < m → (((ls.getD k []).getD i dt0).text.length : Int) ≤ 1048576) := fun i hi => hft.2 i (by rw [hml.out]; exact hi)
      rw [← hb.out.cell (p := ⟨b, o + k, none⟩) hbl] at e0
      have HE : Hid (Da wr q m d (ls.getD k [])) := he.below hb.out
      clear he hft
      have hgl := hr.out.lt
      have HST : Hid (∀ (w1 : World) (t : Nat), Below wr.heap.size wr w1 → wr.heap.size ≤ t → Row w1 t (ls.getD k []) m m → RowD (w1.setCell ⟨w.heap.size, k, none⟩ (.slice (some ⟨t, 0, none⟩) m m)) w.heap.size ls n (k + 1)) := by
        intro w1 t h1 h2 h3
        rw [← hml.out] at h3 ⊢
        exact (hr.out.below h1).store _ rfl t (by omega) h3
      generalize ls.getD k [] = x at HE HTX HST
      go_wp2_with (go_at_call 38; refine (toDatumSr q m d x _ HE.out hm2 HTX.out).mono ?_; rintro e w1 ⟨rfl, _, hrw, hb1⟩; have hz := hb1.size; obtain ⟨v0, cc0, ff0⟩ := (hr.out.below hb1).cells k hlt)
      exact ⟨⟨k + 1, by omega, by go_num, HST.out w1 _ hb1 (Nat.le_refl _) hrw, (hb.out.trans (hb1.mono hb.out.size)).setCell (Nat.le_refl _) _⟩, by simp [intOf]; omega⟩
    · have : k = n := by omega
      subst this
      go_wp2
      go_ret
      refine ⟨rfl, hr.out.dd HD.out.len (by unfold maxLen; omega) (fun i hi => ?_), hr.out, hb.out⟩
      obtain ⟨b, o, _, _, g⟩ := HD.out.cells (by omega)
      obtain ⟨q, m, d, _, he⟩ := g i hi
      exact ⟨by have := (HT.out i hi).1; unfold maxLen; omega, he.cnts⟩
end Go.Proofs.YtdjdhjciealfhaaGreatDoor
namespace Go.Proofs.YtdjdhjciealfhaaGreatDoor
open Go.RowKit Ch1
theorem RowF.setLow {w : World} {g n k : Nat} {fs : List Fn} (h : RowF w g fs n k) {a : Addr} (ha : a.block < g) (v : Value) : RowF (w.setCell a v) g fs n k := by
  obtain ⟨f, tf, tc, hr, hc⟩ := h
  refine ⟨f, tf, tc, hr.of_block (Below.heap_setCell w a v g (by omega)), fun i hi => ?_⟩
  obtain ⟨h0, h1, h2, h3, h4, h5, h6⟩ := hc i hi
  exact ⟨h0, h1, h2, h3, h4, h5.setOther (fun y hy => by cases hy; simp; omega) v, h6.setOther (fun y hy => by cases hy; simp; omega) v⟩
theorem RowD.setLow {w : World} {g n k : Nat} {ls : List (List Dt)} (h : RowD w g ls n k) {a : Addr} (ha : a.block < g) (v : Value) : RowD (w.setCell a v) g ls n k := by
  obtain ⟨f, t, hr, hc⟩ := h
  refine ⟨f, t, hr.of_block (Below.heap_setCell w a v g (by omega)), fun i hi => ?_⟩
  obtain ⟨h0, h1, h2⟩ := hc i hi
  exact ⟨h0, h1, h2.setLow (by omega) v⟩
theorem Mo.fits {w : World} {cp : Option Addr} {cn cc : Nat} {fp : Option Addr} {fn fc : Nat} {m : Md} (h : Mo w cp cn cc fp fn fc m) (hf : Fits cn fn m) : ∀ i, i < cn → (m.consts.getD i []).length ≤ maxLen ∧ Cnts (m.consts.getD i []) := fun i hi => by
  obtain ⟨b, o, _, _, g⟩ := h.cs.cells (by omega)
  obtain ⟨q, k, d, _, he⟩ := g i hi
  exact ⟨by have := (hf.cs i hi).1; unfold maxLen; omega, he.cnts⟩
/-- What toModule leaves: rows of the call's own. -/
def ToMq (cn fn : Nat) (m : Md) (w w' : World) (e : Ending) : Prop := ∃ tc tf, e = .returned (.agg #[.slice (some ⟨tc, 0, none⟩) cn cn, .int .i64 m.globals, .slice (some ⟨tf, 0, none⟩) fn fn]) ∧ Mo w' (some ⟨tc, 0, none⟩) cn cn (some ⟨tf, 0, none⟩) fn fn m ∧ Below w.heap.size w w'
set_option maxHeartbeats 2000000 in
theorem toModule_c (cp : Option Addr) (cn cc : Nat) (fp : Option Addr) (fn fc : Nat) (m : Md) (w : World) (hM : Mo w cp cn cc fp fn fc m) (hF : Fits cn fn m) :
    Calls Tryz.prog 6 #[.agg #[.slice cp cn cc, .int .i64 m.globals, .slice fp fn fc]] w fun e w' => ToMq cn fn m w w' e := by
  have HM : Hid (Mo w cp cn cc fp fn fc m) := hM
  have HF : Hid (Fits cn fn m) := hF
  clear hM hF
  go_enter Tryz.func6, Tryz.ntmps6
  go_wp2_with fail
  refine (toDatumSS_c cp cn cc m.consts _ (by exact HM.out.cs.below (below3 w _ _ _)) HF.out.hcn HF.out.cs).mono ?_
  rintro e w1 ⟨rfl, _, hrd, hb1⟩
  have hz' : w.heap.size + 3 ≤ w1.heap.size := by have := hb1.size; simpa using this
  have HRD : Hid (RowD w1 (w.heap.size + 1 + 1 + 1) m.consts cn cn) := by unfold Hid; simpa using hrd
  have HBB : Hid (Below w.heap.size w w1) := (below3 w _ _ _).trans (hb1.mono (by simp; omega))
  have HX : Hid (B3 w1 (w.heap.size + 1 + 1) (.slice none 0 0) (.int .i64 0) (.slice none 0 0)) := by
    have := (B3.new ((w.alloc (.cells #[.slice cp cn cc, .int .i64 m.globals, .slice fp fn fc] 25)).alloc (.cells #[.slice none 0 0, .int .i64 0, .slice none 0 0] 33)) (.slice none 0 0) (.int .i64 0) (.slice none 0 0) 33).below hb1
    unfold Hid; simpa using this
  have HY : Hid (B3 w1 (w.heap.size + 1) (.slice none 0 0) (.int .i64 0) (.slice none 0 0)) := by
    have := ((B3.new (w.alloc (.cells #[.slice cp cn cc, .int .i64 m.globals, .slice fp fn fc] 25)) (.slice none 0 0) (.int .i64 0) (.slice none 0 0) 33).below (below1 _ _)).below hb1
    unfold Hid; simpa using this
  have HA : Hid (B3 w1 w.heap.size (.slice cp cn cc) (.int .i64 m.globals) (.slice fp fn fc)) := ((((B3.new w (.slice cp cn cc) (.int .i64 m.globals) (.slice fp fn fc) 25).below (below1 _ _)).below (below1 _ _)).below hb1)
  have x0 := HX.out.c0
  have x0f := HX.out.f0
  have x1 := HX.out.c1
  have x1f := HX.out.f1
  have a1 := HA.out.c1
  have a2 := HA.out.c2
  clear hrd hb1
  go_wp2_with fail
  have HX1 : Hid (B3 ((w1.setCell ⟨w.heap.size + 1 + 1, 0, none⟩ (.slice (some ⟨w.heap.size + 1 + 1 + 1, 0, none⟩) cn cn)).setCell ⟨w.heap.size + 1 + 1, 1, none⟩ (.int .i64 m.globals)) (w.heap.size + 1 + 1) (.slice (some ⟨w.heap.size + 1 + 1 + 1, 0, none⟩) cn cn) (.int .i64 m.globals) (.slice none 0 0)) := (HX.out.set0 _).set1 _
  have HY1 : Hid (B3 ((w1.setCell ⟨w.heap.size + 1 + 1, 0, none⟩ (.slice (some ⟨w.heap.size + 1 + 1 + 1, 0, none⟩) cn cn)).setCell ⟨w.heap.size + 1 + 1, 1, none⟩ (.int .i64 m.globals)) (w.heap.size + 1) (.slice none 0 0) (.int .i64 0) (.slice none 0 0)) := (HY.out.other (by simp) _).other (by simp) _
  have HBB1 : Hid (Below w.heap.size w ((w1.setCell ⟨w.heap.size + 1 + 1, 0, none⟩ (.slice (some ⟨w.heap.size + 1 + 1 + 1, 0, none⟩) cn cn)).setCell ⟨w.heap.size + 1 + 1, 1, none⟩ (.int .i64 m.globals))) := (HBB.out.setCell (by simp; omega) _).setCell (by simp; omega) _
  have HRD1 : Hid (RowD ((w1.setCell ⟨w.heap.size + 1 + 1, 0, none⟩ (.slice (some ⟨w.heap.size + 1 + 1 + 1, 0, none⟩) cn cn)).setCell ⟨w.heap.size + 1 + 1, 1, none⟩ (.int .i64 m.globals)) (w.heap.size + 1 + 1 + 1) m.consts cn cn) := (HRD.out.setLow (by simp) _).setLow (by simp) _
  have hsz1 : w.heap.size + 3 ≤ ((w1.setCell ⟨w.heap.size + 1 + 1, 0, none⟩ (.slice (some ⟨w.heap.size + 1 + 1 + 1, 0, none⟩) cn cn)).setCell ⟨w.heap.size + 1 + 1, 1, none⟩ (.int .i64 m.globals)).heap.size := by simpa [World.setCell] using hz'
  clear x0 x0f x1 x1f a1 a2 HX HY HA HBB HRD hz'
  refine (toFuncS_c fp fn fc m.funcs _ (by exact HM.out.fs.below HBB1.out) HF.out.hfn HF.out.fs).mono ?_
  generalize (w1.setCell ⟨w.heap.size + 1 + 1, 0, none⟩ (.slice (some ⟨w.heap.size + 1 + 1 + 1, 0, none⟩) cn cn)).setCell ⟨w.heap.size + 1 + 1, 1, none⟩ (.int .i64 m.globals) = w1' at HX1 HY1 HBB1 HRD1 hsz1
  rintro e w2 ⟨rfl, _, hrf, hb2⟩
  have HRF : Hid (RowF w2 w1'.heap.size m.funcs fn fn) := hrf
  have HRD2 : Hid (RowD w2 (w.heap.size + 1 + 1 + 1) m.consts cn cn) := HRD1.out.below hb2
  have HX2 : Hid (B3 w2 (w.heap.size + 1 + 1) (.slice (some ⟨w.heap.size + 1 + 1 + 1, 0, none⟩) cn cn) (.int .i64 m.globals) (.slice none 0 0)) := HX1.out.below hb2
  have HY2 : Hid (B3 w2 (w.heap.size + 1) (.slice none 0 0) (.int .i64 0) (.slice none 0 0)) := HY1.out.below hb2
  have HBB2 : Hid (Below w.heap.size w w2) := HBB1.out.trans (hb2.mono HBB1.out.size)
  have x0 := HX2.out.c0
  have x1 := HX2.out.c1
  have x2 := HX2.out.c2
  have x2f := HX2.out.f2
  have y0 := HY2.out.c0
  have y1 := HY2.out.c1
  have y2 := HY2.out.c2
  have y0f := HY2.out.f0
  have y1f := HY2.out.f1
  have y2f := HY2.out.f2
  clear hrf hb2 HX1 HY1 HRD1 HBB1
  go_wp2
  refine bodyPost_ret (v := .agg #[.slice (some ⟨w.heap.size + 1 + 1 + 1, 0, none⟩) cn cn, .int .i64 m.globals, .slice (some ⟨w1'.heap.size, 0, none⟩) fn fn]) (by simp [results, Tryz.results6, go_sem, y0, y1, y2]) rfl ⟨_, _, rfl, ⟨?_, ?_⟩, ?_⟩
  · exact (((((HRD2.out.setLow (by simp) _).setLow (by simp) _).setLow (by simp) _).setLow (by simp) _)).dd HM.out.cs.len (by have := HF.out.hcn; unfold maxLen; omega) (HM.out.fits HF.out)
  · exact (((((HRF.out.setLow (by simp; omega) _).setLow (by simp; omega) _).setLow (by simp; omega) _).setLow (by simp; omega) _)).fu HM.out.fs.len (by have := HF.out.hfn; unfold maxLen; omega)
  · exact (((HBB2.out.setCell (by simp; omega) _).setCell (by simp) _).setCell (by simp) _).setCell (by simp) _
/-! ### equality, at equal things -/
set_option maxHeartbeats 400000 in
theorem eqBoolS_c (p1 p2 : Option Addr) (n c1 c2 : Nat) (xs : List Bool) (w : World) (h1 : Bo w p1 n c1 xs) (h2 : Bo w p2 n c2 xs) :
    Calls Tryz.prog 22 #[.slice p1 n c1, .slice p2 n c2] w fun e w' => e = .returned (.bool true) ∧ ∃ q, w' = w.drewN q := by
  have hbig := small_of h1.cap h1.big
  have HC1 : Hid (Bo w p1 n c1 xs) := h1
  have HC2 : Hid (Bo w p2 n c2 xs) := h2
  clear h1 h2
  go_enter Tryz.func22, Tryz.ntmps22
  go_wp2
  go_loopw [5] (fun i wr => ∃ k q : Nat, k ≤ n ∧ i = .int .i64 k ∧ wr = w.drewN q) (fun i _ => n - (intOf i).toNat)
  case atStart => exact ⟨0, 0, Nat.zero_le _, rfl, rfl⟩
  case round =>
    obtain ⟨k, q, hk, rfl, rfl⟩ := hrel
    by_cases hlt : k < n
    · obtain ⟨b1, o1, rfl, _, g1⟩ := HC1.out.cells (by omega)
      obtain ⟨b2, o2, rfl, _, g2⟩ := HC2.out.cells (by omega)
      have g1 := g1 k hlt
      have g2 := g2 k hlt
      generalize xs.getD k false = x at g1 g2
      go_wp2
      go_quiet (fail)
      cases x
      all_goals go_wp2
      all_goals exact ⟨⟨k + 1, q + nq, by omega, by go_num, rfl⟩, by simp [intOf]; omega⟩
    · go_wp2
      go_ret
      exact ⟨rfl, q, rfl⟩
set_option maxHeartbeats 400000 in
theorem eqIns_c (x y z : Int) (w : World) :
    Calls Tryz.prog 101 #[.agg #[.int .i64 x, .int .i64 y, .int .i64 z], .agg #[.int .i64 x, .int .i64 y, .int .i64 z]] w fun e w' => e = .returned (.bool true) ∧ Below w.heap.size w w' := by
  go_enter Tryz.func101, Tryz.ntmps101
  go_wp2
  go_ret
  exact ⟨rfl, below2 w _ _⟩
set_option maxHeartbeats 1000000 in
theorem eqInsS_c (p1 p2 : Option Addr) (n c1 c2 : Nat) (xs : List In) (w : World) (h1 : Ii w p1 n c1 xs) (h2 : Ii w p2 n c2 xs) :
    Calls Tryz.prog 81 #[.slice p1 n c1, .slice p2 n c2] w fun e w' => e = .returned (.bool true) ∧ Below w.heap.size w w' := by
  have hbig := small_of h1.cap h1.big
  have H1 : Hid (Ii w p1 n c1 xs) := h1
  have H2 : Hid (Ii w p2 n c2 xs) := h2
  clear h1 h2
  go_enter Tryz.func81, Tryz.ntmps81
  go_wp2
  go_loopw [5] (fun i wr => ∃ k : Nat, k ≤ n ∧ i = .int .i64 k ∧ Hid (Below w.heap.size w wr)) (fun i _ => n - (intOf i).toNat)
  case atStart => exact ⟨0, Nat.zero_le _, rfl, Below.refl _ _⟩
  case round =>
    obtain ⟨k, hk, rfl, hb⟩ := hrel
    by_cases hlt : k < n
    · obtain ⟨b, o, rfl, hbl, g⟩ := (H1.out.below hb.out).cells (by omega)
      obtain ⟨e0, e1, e2⟩ := g k hlt
      obtain ⟨b', o', rfl, hbl', g'⟩ := (H2.out.below hb.out).cells (by omega)
      obtain ⟨f0, f1, f2⟩ := g' k hlt
      clear g g'
      generalize xs.getD k in0 = d at e0 e1 e2 f0 f1 f2
      go_wp2
      go_region_with (go_at_call 101; refine (eqIns_c _ _ _ _).mono ?_; rintro e w1 ⟨rfl, hb1⟩)
      all_goals
        go_wp2
        exact ⟨⟨k + 1, by omega, by go_num, hb.out.trans ((Below.refl _ wr).drew.trans (hb1.mono hb.out.size))⟩, by simp [intOf]; omega⟩
    · go_wp2
      go_ret
      exact ⟨rfl, hb.out⟩
set_option maxHeartbeats 1000000 in
theorem eqFunc_c (k : Int) (fp fp' : Option Addr) (fl fc fc' : Nat) (cp cp' : Option Addr) (cl cc cc' : Nat) (bs : List Bool) (xs : List In) (w : World) (h1 : Bo w fp fl fc bs) (h2 : Bo w fp' fl fc' bs) (h3 : Ii w cp cl cc xs) (h4 : Ii w cp' cl cc' xs) :
    Calls Tryz.prog 51 #[.agg #[.int .i64 k, .slice fp fl fc, .slice cp cl cc], .agg #[.int .i64 k, .slice fp' fl fc', .slice cp' cl cc']] w fun e w' => e = .returned (.bool true) ∧ Below w.heap.size w w' := by
  have H1 : Hid (Bo w fp fl fc bs) := h1
  have H2 : Hid (Bo w fp' fl fc' bs) := h2
  have H3 : Hid (Ii w cp cl cc xs) := h3
  have H4 : Hid (Ii w cp' cl cc' xs) := h4
  clear h1 h2 h3 h4
  go_enter Tryz.func51, Tryz.ntmps51
  go_wp2_with (first | (go_at_call 22; refine (eqBoolS_c _ _ _ _ _ bs _ (by exact H1.out.below (below2 w _ _)) (by exact H2.out.below (below2 w _ _))).mono ?_; rintro e w1 ⟨rfl, q, hw1⟩; have hw2 := hw1.symm; clear hw1; subst hw2) | (go_at_call 81; refine (eqInsS_c _ _ _ _ _ xs _ (by exact H3.out.below (below_drewN' (below2 w _ _) q)) (by exact H4.out.below (below_drewN' (below2 w _ _) q))).mono ?_; rintro e w3 ⟨rfl, hb3⟩))
  go_ret
  exact ⟨rfl, (below_drewN' (below2 w _ _) q).trans (hb3.mono (by simp; omega))⟩
end Go.Proofs.YtdjdhjciealfhaaGreatDoor
