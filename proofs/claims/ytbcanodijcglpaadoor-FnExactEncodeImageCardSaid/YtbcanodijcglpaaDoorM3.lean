import Derived.Test.YtbcanodijcglpaaDoorM2
namespace Go.Proofs.YtbcanodijcglpaaDoor
open Go.RowKit Ch1
/-- A variable of three cells in block b. -/
structure B3 (w : World) (b : Nat) (v0 v1 v2 : Value) : Prop where
  c0 : w.cell? ⟨b, 0, none⟩ = some v0
  c1 : w.cell? ⟨b, 1, none⟩ = some v1
  c2 : w.cell? ⟨b, 2, none⟩ = some v2
  f0 : w.frozen? ⟨b, 0, none⟩ = false
  f1 : w.frozen? ⟨b, 1, none⟩ = false
  f2 : w.frozen? ⟨b, 2, none⟩ = false
  lt : b < w.heap.size
theorem B3.of_heap {w : World} {b : Nat} {v0 v1 v2 : Value} {t : TypeId} (e : w.heap[b]? = some (.cells #[v0, v1, v2] t)) : B3 w b v0 v1 v2 :=
  ⟨by simp [World.cell?, e], by simp [World.cell?, e], by simp [World.cell?, e], by simp [World.frozen?, e], by simp [World.frozen?, e], by simp [World.frozen?, e], (Array.getElem?_eq_some_iff.1 e).1⟩
theorem B3.new (w : World) (v0 v1 v2 : Value) (t : TypeId) : B3 (w.alloc (.cells #[v0, v1, v2] t)) w.heap.size v0 v1 v2 := by
  have e' : (w.alloc (.cells #[v0, v1, v2] t)).heap = w.heap.push (.cells #[v0, v1, v2] t) := rfl
  exact B3.of_heap (t := t) (by rw [e']; simp)
theorem B3.of_block {w w' : World} {b : Nat} {v0 v1 v2 : Value} (h : B3 w b v0 v1 v2) (hb : w'.heap[b]? = w.heap[b]?) (hs : w.heap.size ≤ w'.heap.size) : B3 w' b v0 v1 v2 :=
  ⟨by rw [World.cell?_of_block (w := w) hb]; exact h.c0, by rw [World.cell?_of_block (w := w) hb]; exact h.c1, by rw [World.cell?_of_block (w := w) hb]; exact h.c2, by rw [World.frozen?_of_block (w := w) hb]; exact h.f0, by rw [World.frozen?_of_block (w := w) hb]; exact h.f1, by rw [World.frozen?_of_block (w := w) hb]; exact h.f2, Nat.lt_of_lt_of_le h.lt hs⟩
theorem B3.below {w w' : World} {b : Nat} {v0 v1 v2 : Value} (h : B3 w b v0 v1 v2) (hb : Below w.heap.size w w') : B3 w' b v0 v1 v2 := h.of_block (hb.block b h.lt) hb.size
theorem B3.other {w : World} {b : Nat} {v0 v1 v2 : Value} (h : B3 w b v0 v1 v2) {a : Addr} (ha : b ≠ a.block) (v : Value) : B3 (w.setCell a v) b v0 v1 v2 := h.of_block (Below.heap_setCell w a v b ha) (by simp [World.setCell])
theorem B3.set0 {w : World} {b : Nat} {v0 v1 v2 : Value} (h : B3 w b v0 v1 v2) (v : Value) : B3 (w.setCell ⟨b, 0, none⟩ v) b v v1 v2 :=
  ⟨World.cell?_setCell_same' w _ _ (by rw [h.c0]; rfl), by rw [World.cell?_setCell_other _ _ _ _ (by intro e; cases e)]; exact h.c1, by rw [World.cell?_setCell_other _ _ _ _ (by intro e; cases e)]; exact h.c2, by rw [World.frozen?_setCell]; exact h.f0, by rw [World.frozen?_setCell]; exact h.f1, by rw [World.frozen?_setCell]; exact h.f2, by have := h.lt; simpa [World.setCell] using this⟩
theorem B3.set1 {w : World} {b : Nat} {v0 v1 v2 : Value} (h : B3 w b v0 v1 v2) (v : Value) : B3 (w.setCell ⟨b, 1, none⟩ v) b v0 v v2 :=
  ⟨by rw [World.cell?_setCell_other _ _ _ _ (by intro e; cases e)]; exact h.c0, World.cell?_setCell_same' w _ _ (by rw [h.c1]; rfl), by rw [World.cell?_setCell_other _ _ _ _ (by intro e; cases e)]; exact h.c2, by rw [World.frozen?_setCell]; exact h.f0, by rw [World.frozen?_setCell]; exact h.f1, by rw [World.frozen?_setCell]; exact h.f2, by have := h.lt; simpa [World.setCell] using this⟩
theorem B3.set2 {w : World} {b : Nat} {v0 v1 v2 : Value} (h : B3 w b v0 v1 v2) (v : Value) : B3 (w.setCell ⟨b, 2, none⟩ v) b v0 v1 v :=
  ⟨by rw [World.cell?_setCell_other _ _ _ _ (by intro e; cases e)]; exact h.c0, by rw [World.cell?_setCell_other _ _ _ _ (by intro e; cases e)]; exact h.c1, World.cell?_setCell_same' w _ _ (by rw [h.c2]; rfl), by rw [World.frozen?_setCell]; exact h.f0, by rw [World.frozen?_setCell]; exact h.f1, by rw [World.frozen?_setCell]; exact h.f2, by have := h.lt; simpa [World.setCell] using this⟩
/-- What toFunc leaves. -/
def ToFq (k : Int) (fl cl : Nat) (free : List Bool) (code : List In) (w w' : World) (e : Ending) : Prop := ∃ tf tc, e = .returned (.agg #[.int .i64 k, .slice (some ⟨tf, 0, none⟩) fl fl, .slice (some ⟨tc, 0, none⟩) cl cl]) ∧ w.heap.size ≤ tf ∧ w.heap.size ≤ tc ∧ Bo w' (some ⟨tf, 0, none⟩) fl fl free ∧ Ii w' (some ⟨tc, 0, none⟩) cl cl code ∧ Below w.heap.size w w'
set_option maxHeartbeats 2000000 in
theorem toFunc_c (k : Int) (fp : Option Addr) (fl fc : Nat) (cp : Option Addr) (cl cc : Nat) (free : List Bool) (code : List In) (w : World) (hB : Bo w fp fl fc free) (hI : Ii w cp cl cc code) (hf : fl ≤ 1048576) (hc : cl ≤ 1048576) :
    Calls Tryd.prog 37 #[.agg #[.int .i64 k, .slice fp fl fc, .slice cp cl cc]] w fun e w' => ToFq k fl cl free code w w' e := by
  have HB : Hid (Bo w fp fl fc free) := hB
  have HI : Hid (Ii w cp cl cc code) := hI
  clear hB hI
  go_enter Tryd.func37, Tryd.ntmps37
  go_wp2_with fail
  refine (toBoolS_c fp fl fc free _ (by exact HB.out.below (below3 w _ _ _)) hf).mono ?_
  rintro e w1 ⟨rfl, hbo, hb1⟩
  have hz := hb1.size
  have hbo' : Bo w1 (some ⟨w.heap.size + 1 + 1 + 1, 0, none⟩) fl fl free := by simpa using hbo
  have hbb : Below w.heap.size w w1 := (below3 w _ _ _).trans (hb1.mono (by simp; omega))
  have hz' : w.heap.size + 3 ≤ w1.heap.size := by simpa using hz
  have HBO : Hid (Bo w1 (some ⟨w.heap.size + 1 + 1 + 1, 0, none⟩) fl fl free) := hbo'
  have HBB : Hid (Below w.heap.size w w1) := hbb
  have HX : Hid (B3 w1 (w.heap.size + 1 + 1) (.int .i64 k) (.slice none 0 0) (.slice none 0 0)) := by
    have := (B3.new ((w.alloc (.cells #[.int .i64 k, .slice fp fl fc, .slice cp cl cc] 65)).alloc (.cells #[.int .i64 0, .slice none 0 0, .slice none 0 0] 52)) (.int .i64 k) (.slice none 0 0) (.slice none 0 0) 52).below hb1
    unfold Hid; simpa using this
  have HY : Hid (B3 w1 (w.heap.size + 1) (.int .i64 0) (.slice none 0 0) (.slice none 0 0)) := by
    have := ((B3.new (w.alloc (.cells #[.int .i64 k, .slice fp fl fc, .slice cp cl cc] 65)) (.int .i64 0) (.slice none 0 0) (.slice none 0 0) 52).below (below1 _ _)).below hb1
    unfold Hid; simpa using this
  have HA : Hid (B3 w1 w.heap.size (.int .i64 k) (.slice fp fl fc) (.slice cp cl cc)) := ((((B3.new w (.int .i64 k) (.slice fp fl fc) (.slice cp cl cc) 65).below (below1 _ _)).below (below1 _ _)).below hb1)
  have x1 := HX.out.c1
  have x1f := HX.out.f1
  have a2 := HA.out.c2
  clear hbo hbo' hbb hb1 hz
  go_wp2_with fail
  have HX1 : Hid (B3 (w1.setCell ⟨w.heap.size + 1 + 1, 1, none⟩ (.slice (some ⟨w.heap.size + 1 + 1 + 1, 0, none⟩) fl fl)) (w.heap.size + 1 + 1) (.int .i64 k) (.slice (some ⟨w.heap.size + 1 + 1 + 1, 0, none⟩) fl fl) (.slice none 0 0)) := HX.out.set1 _
  have HY1 : Hid (B3 (w1.setCell ⟨w.heap.size + 1 + 1, 1, none⟩ (.slice (some ⟨w.heap.size + 1 + 1 + 1, 0, none⟩) fl fl)) (w.heap.size + 1) (.int .i64 0) (.slice none 0 0) (.slice none 0 0)) := HY.out.other (by simp) _
  have HBB1 : Hid (Below w.heap.size w (w1.setCell ⟨w.heap.size + 1 + 1, 1, none⟩ (.slice (some ⟨w.heap.size + 1 + 1 + 1, 0, none⟩) fl fl))) := HBB.out.setCell (by simp; omega) _
  have HBO1 : Hid (Bo (w1.setCell ⟨w.heap.size + 1 + 1, 1, none⟩ (.slice (some ⟨w.heap.size + 1 + 1 + 1, 0, none⟩) fl fl)) (some ⟨w.heap.size + 1 + 1 + 1, 0, none⟩) fl fl free) := HBO.out.setOther (fun x hx => by cases hx; simp) _
  have hsz1 : w.heap.size + 3 ≤ (w1.setCell ⟨w.heap.size + 1 + 1, 1, none⟩ (.slice (some ⟨w.heap.size + 1 + 1 + 1, 0, none⟩) fl fl)).heap.size := by simpa [World.setCell] using hz'
  clear x1 x1f a2 HX HY HA HBB HBO hz'
  refine (toInsS_c cp cl cc code _ (by exact HI.out.below HBB1.out) hc).mono ?_
  generalize w1.setCell ⟨w.heap.size + 1 + 1, 1, none⟩ (.slice (some ⟨w.heap.size + 1 + 1 + 1, 0, none⟩) fl fl) = w1' at HX1 HY1 HBB1 HBO1 hsz1
  rintro e w2 ⟨rfl, hii, hb2⟩
  have HII : Hid (Ii w2 (some ⟨w1'.heap.size, 0, none⟩) cl cl code) := hii
  have HBO2 : Hid (Bo w2 (some ⟨w.heap.size + 1 + 1 + 1, 0, none⟩) fl fl free) := HBO1.out.below hb2
  have HX2 : Hid (B3 w2 (w.heap.size + 1 + 1) (.int .i64 k) (.slice (some ⟨w.heap.size + 1 + 1 + 1, 0, none⟩) fl fl) (.slice none 0 0)) := HX1.out.below hb2
  have HY2 : Hid (B3 w2 (w.heap.size + 1) (.int .i64 0) (.slice none 0 0) (.slice none 0 0)) := HY1.out.below hb2
  have HBB2 : Hid (Below w.heap.size w w2) := HBB1.out.trans (hb2.mono HBB1.out.size)
  have x0 := HX2.out.c0
  have x1 := HX2.out.c1
  have x2 := HX2.out.c2
  have x2f := HX2.out.f2
  have y0 := HY2.out.c0
  have y1 := HY2.out.c1
  have y2 := HY2.out.c2
  have y0f := HY2.out.f0
  have y1f := HY2.out.f1
  have y2f := HY2.out.f2
  clear hii hb2 HX1 HY1 HBO1 HBB1
  go_wp2
  refine bodyPost_ret (v := .agg #[.int .i64 k, .slice (some ⟨w.heap.size + 1 + 1 + 1, 0, none⟩) fl fl, .slice (some ⟨w1'.heap.size, 0, none⟩) cl cl]) (by simp [results, Tryd.results37, go_sem, y0, y1, y2]) rfl ⟨_, _, rfl, by omega, by omega, ?_, ?_, ?_⟩
  · exact (((HBO2.out.setOther (fun x hx => by cases hx; simp) _).setOther (fun x hx => by cases hx; simp; omega) _).setOther (fun x hx => by cases hx; simp; omega) _).setOther (fun x hx => by cases hx; simp; omega) _
  · exact (((HII.out.setOther (fun x hx => by cases hx; simp; omega) _).setOther (fun x hx => by cases hx; simp; omega) _).setOther (fun x hx => by cases hx; simp; omega) _).setOther (fun x hx => by cases hx; simp; omega) _
  · exact (((HBB2.out.setCell (by simp; omega) _).setCell (by simp) _).setCell (by simp) _).setCell (by simp) _
end Go.Proofs.YtbcanodijcglpaaDoor
