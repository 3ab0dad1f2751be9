import Derived.Test.YtkkmoaidbmnolaaGreatDoorWd
namespace Go.Proofs.YtkkmoaidbmnolaaGreatDoor
open Go.RowKit Ch1
theorem Bo.setOther {w : World} {p : Option Addr} {n c : Nat} {bs : List Bool} (h : Bo w p n c bs) {a : Addr} (ha : ∀ x, p = some x → x.block ≠ a.block) (v : Value) : Bo (w.setCell a v) p n c bs := by
  refine ⟨h.len, h.cap, h.big, fun hn => ?_⟩
  obtain ⟨b, o, e, hlt, hc⟩ := h.cells hn
  exact ⟨b, o, e, by simpa [World.setCell] using hlt, fun i hi => by rw [World.cell?_of_block (w := w) (Below.heap_setCell w a v b (ha _ e))]; exact hc i hi⟩
theorem Ii.setOther {w : World} {p : Option Addr} {n c : Nat} {xs : List In} (h : Ii w p n c xs) {a : Addr} (ha : ∀ x, p = some x → x.block ≠ a.block) (v : Value) : Ii (w.setCell a v) p n c xs := by
  refine ⟨h.len, h.cap, h.big, fun hn => ?_⟩
  obtain ⟨b, o, e, hlt, hc⟩ := h.cells hn
  refine ⟨b, o, e, by simpa [World.setCell] using hlt, fun i hi => ?_⟩
  have hq := Below.heap_setCell w a v b (ha _ e)
  obtain ⟨h0, h1, h2⟩ := hc i hi
  exact ⟨by rw [World.cell?_of_block (w := w) hq]; exact h0, by rw [World.cell?_of_block (w := w) hq]; exact h1, by rw [World.cell?_of_block (w := w) hq]; exact h2⟩
theorem Row.setLow {w : World} {g n k : Nat} {ds : List Dt} (h : Row w g ds n k) {a : Addr} (ha : a.block < g) (v : Value) : Row (w.setCell a v) g ds n k := by
  obtain ⟨f, t, hr, hc⟩ := h
  refine ⟨f, t, hr.of_block (Below.heap_setCell w a v g (by omega)), fun i hi => ?_⟩
  obtain ⟨h0, h1, h2, h3, h4, h5⟩ := hc i hi
  exact ⟨h0, h1, h2, h3, h4, h5.setCell (by omega) v⟩
/-! ### copies -/
theorem info4 : (Tryz.prog.info? 4).map (fun i => (i.zero, i.size, i.bytes)) = some (some (.bool false), 1, 1) := by kernel_rfl
theorem infoIns : (Tryz.prog.info? 48).map (fun i => (i.zero, i.size, i.bytes)) = some (some (.agg #[.int .i64 0, .int .i64 0, .int .i64 0]), 3, 24) := by kernel_rfl
/-- The first k of n instructions lie in block g. -/
def RowI (w : World) (g : Nat) (xs : List In) (n k : Nat) : Prop := ∃ f : Nat → Value, w.rowIs g 48 (n * 3) f ∧ ∀ i, i < k → f (i * 3) = .int .i64 (xs.getD i in0).op ∧ f (i * 3 + 1) = .int .i64 (xs.getD i in0).a ∧ f (i * 3 + 2) = .int .i64 (xs.getD i in0).b
theorem RowI.made {w w' : World} {g n : Nat} {vs : List Value} (xs : List In) (ho : w'.ownsRow g 48 3 (.slice (some ⟨w.heap.size, 0, none⟩) n n) n vs) : RowI w' w.heap.size xs n 0 := by
  obtain ⟨_, h | ⟨g', cap, cur, hv, _, hh, _, _, hsz, _⟩⟩ := ho
  · cases h.1
  · cases hv
    exact ⟨fun i => cur.getD i .nilIface, ⟨cur, hh, hsz, fun i hi => by simp [Array.getD, show i < cur.size by omega]⟩, fun i hi => absurd hi (Nat.not_lt_zero i)⟩
theorem RowI.below {w w' : World} {g n k : Nat} {xs : List In} (h : RowI w g xs n k) (hb : Below w.heap.size w w') : RowI w' g xs n k := by
  obtain ⟨f, hr, hc⟩ := h
  exact ⟨f, hr.of_block (hb.block g hr.lt), hc⟩
theorem RowI.cells {w : World} {g n k : Nat} {xs : List In} (h : RowI w g xs n k) (i : Nat) (hi : i < n * 3) : ∃ v, w.cell? ⟨g, i, none⟩ = some v ∧ w.frozen? ⟨g, i, none⟩ = false := by
  obtain ⟨f, hr, _⟩ := h
  exact ⟨_, hr.cell hi, hr.frozen i⟩
theorem q3 {i k : Nat} (e : i ≠ k) : ∀ a b, a < 3 → b < 3 → ¬ (i * 3 + a = k * 3 + b) := fun a b ha hb => by omega
theorem RowI.store {w : World} {g n k : Nat} {xs : List In} (h : RowI w g xs n k) (x : In) (hx : xs.getD k in0 = x) :
    RowI (((w.setCell ⟨g, k * 3, none⟩ (.int .i64 x.op)).setCell ⟨g, k * 3 + 1, none⟩ (.int .i64 x.a)).setCell ⟨g, k * 3 + 2, none⟩ (.int .i64 x.b)) g xs n (k + 1) := by
  obtain ⟨f, hr, hc⟩ := h
  refine ⟨_, ((hr.set (k * 3) _).set (k * 3 + 1) _).set (k * 3 + 2) _, fun i hi => ?_⟩
  by_cases e : i = k
  · subst e
    rw [hx]
    exact ⟨by simp, by simp, by simp⟩
  · obtain ⟨h0, h1, h2⟩ := hc i (by omega)
    have q := q3 e
    refine ⟨?_, ?_, ?_⟩
    · rw [if_neg (by have := q 0 2 (by omega) (by omega); omega), if_neg (by have := q 0 1 (by omega) (by omega); omega), if_neg (by have := q 0 0 (by omega) (by omega); omega)]; exact h0
    · rw [if_neg (q 1 2 (by omega) (by omega)), if_neg (q 1 1 (by omega) (by omega)), if_neg (by have := q 1 0 (by omega) (by omega); omega)]; exact h1
    · rw [if_neg (q 2 2 (by omega) (by omega)), if_neg (q 2 1 (by omega) (by omega)), if_neg (by have := q 2 0 (by omega) (by omega); omega)]; exact h2
theorem RowI.ii {w : World} {g n : Nat} {xs : List In} (h : RowI w g xs n n) (hl : xs.length = n) (hbig : n ≤ maxLen) : Ii w (some ⟨g, 0, none⟩) n n xs := by
  obtain ⟨f, hr, hc⟩ := h
  refine ⟨hl, Nat.le_refl _, hbig, fun hn => ⟨g, 0, rfl, hr.lt, fun i hi => ?_⟩⟩
  obtain ⟨h0, h1, h2⟩ := hc i hi
  refine ⟨?_, ?_, ?_⟩
  · rw [Nat.zero_add, ← h0]; exact hr.cell (by omega)
  · rw [Nat.zero_add, ← h1]; exact hr.cell (by omega)
  · rw [Nat.zero_add, ← h2]; exact hr.cell (by omega)
end Go.Proofs.YtkkmoaidbmnolaaGreatDoor
namespace Go.Proofs.YtkkmoaidbmnolaaGreatDoor
open Go.RowKit Ch1
/-- A variable of three cells in block b. -/
structure B3 (w : World) (b : Nat) (v0 v1 v2 : Value) : Prop where
  c0 : w.cell? ⟨b, 0, none⟩ = some v0
  c1 : w.cell? ⟨b, 1, none⟩ = some v1
  c2 : w.cell? ⟨b, 2, none⟩ = some v2
  f0 : w.frozen? ⟨b, 0, none⟩ = false
  f1 : w.frozen? ⟨b, 1, none⟩ = false
  f2 : w.frozen? ⟨b, 2, none⟩ = false
  lt : b < w.heap.size
theorem B3.of_heap {w : World} {b : Nat} {v0 v1 v2 : Value} {t : TypeId} (e : w.heap[b]? = some (.cells #[v0, v1, v2] t)) : B3 w b v0 v1 v2 :=
  ⟨by simp [World.cell?, e], by simp [World.cell?, e], by simp [World.cell?, e], by simp [World.frozen?, e], by simp [World.frozen?, e], by simp [World.frozen?, e], (Array.getElem?_eq_some_iff.1 e).1⟩
theorem B3.new (w : World) (v0 v1 v2 : Value) (t : TypeId) : B3 (w.alloc (.cells #[v0, v1, v2] t)) w.heap.size v0 v1 v2 := by
  have e' : (w.alloc (.cells #[v0, v1, v2] t)).heap = w.heap.push (.cells #[v0, v1, v2] t) := rfl
  exact B3.of_heap (t := t) (by rw [e']; simp)
theorem B3.of_block {w w' : World} {b : Nat} {v0 v1 v2 : Value} (h : B3 w b v0 v1 v2) (hb : w'.heap[b]? = w.heap[b]?) (hs : w.heap.size ≤ w'.heap.size) : B3 w' b v0 v1 v2 :=
  ⟨by rw [World.cell?_of_block (w := w) hb]; exact h.c0, by rw [World.cell?_of_block (w := w) hb]; exact h.c1, by rw [World.cell?_of_block (w := w) hb]; exact h.c2, by rw [World.frozen?_of_block (w := w) hb]; exact h.f0, by rw [World.frozen?_of_block (w := w) hb]; exact h.f1, by rw [World.frozen?_of_block (w := w) hb]; exact h.f2, Nat.lt_of_lt_of_le h.lt hs⟩
theorem B3.below {w w' : World} {b : Nat} {v0 v1 v2 : Value} (h : B3 w b v0 v1 v2) (hb : Below w.heap.size w w') : B3 w' b v0 v1 v2 := h.of_block (hb.block b h.lt) hb.size
theorem B3.other {w : World} {b : Nat} {v0 v1 v2 : Value} (h : B3 w b v0 v1 v2) {a : Addr} (ha : b ≠ a.block) (v : Value) : B3 (w.setCell a v) b v0 v1 v2 := h.of_block (Below.heap_setCell w a v b ha) (by simp [World.setCell])
theorem B3.set0 {w : World} {b : Nat} {v0 v1 v2 : Value} (h : B3 w b v0 v1 v2) (v : Value) : B3 (w.setCell ⟨b, 0, none⟩ v) b v v1 v2 :=
  ⟨World.cell?_setCell_same' w _ _ (by rw [h.c0]; rfl), by rw [World.cell?_setCell_other _ _ _ _ (by intro e; cases e)]; exact h.c1, by rw [World.cell?_setCell_other _ _ _ _ (by intro e; cases e)]; exact h.c2, by rw [World.frozen?_setCell]; exact h.f0, by rw [World.frozen?_setCell]; exact h.f1, by rw [World.frozen?_setCell]; exact h.f2, by have := h.lt; simpa [World.setCell] using this⟩
theorem B3.set1 {w : World} {b : Nat} {v0 v1 v2 : Value} (h : B3 w b v0 v1 v2) (v : Value) : B3 (w.setCell ⟨b, 1, none⟩ v) b v0 v v2 :=
  ⟨by rw [World.cell?_setCell_other _ _ _ _ (by intro e; cases e)]; exact h.c0, World.cell?_setCell_same' w _ _ (by rw [h.c1]; rfl), by rw [World.cell?_setCell_other _ _ _ _ (by intro e; cases e)]; exact h.c2, by rw [World.frozen?_setCell]; exact h.f0, by rw [World.frozen?_setCell]; exact h.f1, by rw [World.frozen?_setCell]; exact h.f2, by have := h.lt; simpa [World.setCell] using this⟩
theorem B3.set2 {w : World} {b : Nat} {v0 v1 v2 : Value} (h : B3 w b v0 v1 v2) (v : Value) : B3 (w.setCell ⟨b, 2, none⟩ v) b v0 v1 v :=
  ⟨by rw [World.cell?_setCell_other _ _ _ _ (by intro e; cases e)]; exact h.c0, by rw [World.cell?_setCell_other _ _ _ _ (by intro e; cases e)]; exact h.c1, World.cell?_setCell_same' w _ _ (by rw [h.c2]; rfl), by rw [World.frozen?_setCell]; exact h.f0, by rw [World.frozen?_setCell]; exact h.f1, by rw [World.frozen?_setCell]; exact h.f2, by have := h.lt; simpa [World.setCell] using this⟩
/-- What toFunc leaves. -/
def ToFq (k : Int) (fl cl : Nat) (free : List Bool) (code : List In) (w w' : World) (e : Ending) : Prop := ∃ tf tc, e = .returned (.agg #[.int .i64 k, .slice (some ⟨tf, 0, none⟩) fl fl, .slice (some ⟨tc, 0, none⟩) cl cl]) ∧ w.heap.size ≤ tf ∧ w.heap.size ≤ tc ∧ Bo w' (some ⟨tf, 0, none⟩) fl fl free ∧ Ii w' (some ⟨tc, 0, none⟩) cl cl code ∧ Below w.heap.size w w'
end Go.Proofs.YtkkmoaidbmnolaaGreatDoor
namespace Go.Proofs.YtkkmoaidbmnolaaGreatDoor
open Go.RowKit Ch1
theorem infoFn : (Tryz.prog.info? 46).map (fun i => (i.zero, i.size, i.bytes)) = some (some (.agg #[.int .i64 0, .slice none 0 0, .slice none 0 0]), 3, 56) := by kernel_rfl
/-- The first k of n functions lie in block g. -/
def RowF (w : World) (g : Nat) (fs : List Fn) (n k : Nat) : Prop := ∃ (f : Nat → Value) (tf tc : Nat → Nat), w.rowIs g 46 (n * 3) f ∧ ∀ i, i < k →
  f (i * 3) = .int .i64 (fs.getD i fn0).params ∧ f (i * 3 + 1) = .slice (some ⟨tf i, 0, none⟩) (fs.getD i fn0).free.length (fs.getD i fn0).free.length ∧ f (i * 3 + 2) = .slice (some ⟨tc i, 0, none⟩) (fs.getD i fn0).code.length (fs.getD i fn0).code.length ∧
  g < tf i ∧ g < tc i ∧ Bo w (some ⟨tf i, 0, none⟩) (fs.getD i fn0).free.length (fs.getD i fn0).free.length (fs.getD i fn0).free ∧ Ii w (some ⟨tc i, 0, none⟩) (fs.getD i fn0).code.length (fs.getD i fn0).code.length (fs.getD i fn0).code
theorem RowF.made {w w' : World} {g n : Nat} {vs : List Value} (fs : List Fn) (ho : w'.ownsRow g 46 3 (.slice (some ⟨w.heap.size, 0, none⟩) n n) n vs) : RowF w' w.heap.size fs n 0 := by
  obtain ⟨_, h | ⟨g', cap, cur, hv, _, hh, _, _, hsz, _⟩⟩ := ho
  · cases h.1
  · cases hv
    exact ⟨fun i => cur.getD i .nilIface, fun _ => 0, fun _ => 0, ⟨cur, hh, hsz, fun i hi => by simp [Array.getD, show i < cur.size by omega]⟩, fun i hi => absurd hi (Nat.not_lt_zero i)⟩
theorem RowF.below {w w' : World} {g n k : Nat} {fs : List Fn} (h : RowF w g fs n k) (hb : Below w.heap.size w w') : RowF w' g fs n k := by
  obtain ⟨f, tf, tc, hr, hc⟩ := h
  refine ⟨f, tf, tc, hr.of_block (hb.block g hr.lt), fun i hi => ?_⟩
  obtain ⟨h0, h1, h2, h3, h4, h5, h6⟩ := hc i hi
  exact ⟨h0, h1, h2, h3, h4, h5.below hb, h6.below hb⟩
theorem RowF.cells {w : World} {g n k : Nat} {fs : List Fn} (h : RowF w g fs n k) (i : Nat) (hi : i < n * 3) : ∃ v, w.cell? ⟨g, i, none⟩ = some v ∧ w.frozen? ⟨g, i, none⟩ = false := by
  obtain ⟨f, _, _, hr, _⟩ := h
  exact ⟨_, hr.cell hi, hr.frozen i⟩
theorem RowF.lt {w : World} {g n k : Nat} {fs : List Fn} (h : RowF w g fs n k) : g < w.heap.size := by
  obtain ⟨f, _, _, hr, _⟩ := h
  exact hr.lt
theorem RowF.store {w : World} {g n k : Nat} {fs : List Fn} (h : RowF w g fs n k) (x : Fn) (hx : fs.getD k fn0 = x) (t u : Nat) (ht : g < t) (hu : g < u) (hB : Bo w (some ⟨t, 0, none⟩) x.free.length x.free.length x.free) (hI : Ii w (some ⟨u, 0, none⟩) x.code.length x.code.length x.code) :
    RowF (((w.setCell ⟨g, k * 3, none⟩ (.int .i64 x.params)).setCell ⟨g, k * 3 + 1, none⟩ (.slice (some ⟨t, 0, none⟩) x.free.length x.free.length)).setCell ⟨g, k * 3 + 2, none⟩ (.slice (some ⟨u, 0, none⟩) x.code.length x.code.length)) g fs n (k + 1) := by
  obtain ⟨f, tf, tc, hr, hc⟩ := h
  refine ⟨_, fun i => if i = k then t else tf i, fun i => if i = k then u else tc i, ((hr.set (k * 3) _).set (k * 3 + 1) _).set (k * 3 + 2) _, fun i hi => ?_⟩
  by_cases e : i = k
  · subst e
    rw [hx]
    refine ⟨by simp, by simp, by simp, by simpa using ht, by simpa using hu, ?_, ?_⟩
    · simp only [if_true]
      exact ((hB.setOther (fun y hy => by cases hy; simp; omega) _).setOther (fun y hy => by cases hy; simp; omega) _).setOther (fun y hy => by cases hy; simp; omega) _
    · simp only [if_true]
      exact ((hI.setOther (fun y hy => by cases hy; simp; omega) _).setOther (fun y hy => by cases hy; simp; omega) _).setOther (fun y hy => by cases hy; simp; omega) _
  · obtain ⟨h0, h1, h2, h3, h4, h5, h6⟩ := hc i (by omega)
    have q := q3 e
    refine ⟨?_, ?_, ?_, by simp [e, h3], by simp [e, h4], ?_, ?_⟩
    · rw [if_neg (by have := q 0 2 (by omega) (by omega); omega), if_neg (by have := q 0 1 (by omega) (by omega); omega), if_neg (by have := q 0 0 (by omega) (by omega); omega)]; exact h0
    · rw [if_neg (q 1 2 (by omega) (by omega)), if_neg (q 1 1 (by omega) (by omega)), if_neg (by have := q 1 0 (by omega) (by omega); omega)]; simp only [if_neg e]; exact h1
    · rw [if_neg (q 2 2 (by omega) (by omega)), if_neg (q 2 1 (by omega) (by omega)), if_neg (by have := q 2 0 (by omega) (by omega); omega)]; simp only [if_neg e]; exact h2
    · simp only [if_neg e]
      exact ((h5.setOther (fun y hy => by cases hy; simp; omega) _).setOther (fun y hy => by cases hy; simp; omega) _).setOther (fun y hy => by cases hy; simp; omega) _
    · simp only [if_neg e]
      exact ((h6.setOther (fun y hy => by cases hy; simp; omega) _).setOther (fun y hy => by cases hy; simp; omega) _).setOther (fun y hy => by cases hy; simp; omega) _
theorem RowF.fu {w : World} {g n : Nat} {fs : List Fn} (h : RowF w g fs n n) (hl : fs.length = n) (hbig : n ≤ maxLen) : Fu w (some ⟨g, 0, none⟩) n n fs := by
  obtain ⟨f, tf, tc, hr, hc⟩ := h
  refine ⟨hl, Nat.le_refl _, hbig, fun hn => ⟨g, 0, rfl, hr.lt, fun i hi => ?_⟩⟩
  obtain ⟨h0, h1, h2, h3, h4, h5, h6⟩ := hc i hi
  refine ⟨_, _, _, _, _, _, ?_, ?_, ?_, h5, h6⟩
  · rw [Nat.zero_add, ← h0]; exact hr.cell (by omega)
  · rw [Nat.zero_add, ← h1]; exact hr.cell (by omega)
  · rw [Nat.zero_add, ← h2]; exact hr.cell (by omega)
theorem infoDs : (Tryz.prog.info? 39).map (fun i => (i.zero, i.size, i.bytes)) = some (some (.slice none 0 0), 1, 24) := by kernel_rfl
/-- The first k of n lists of data lie in block g. -/
def RowD (w : World) (g : Nat) (ls : List (List Dt)) (n k : Nat) : Prop := ∃ (f : Nat → Value) (t : Nat → Nat), w.rowIs g 39 n f ∧ ∀ i, i < k →
  f i = .slice (some ⟨t i, 0, none⟩) (ls.getD i []).length (ls.getD i []).length ∧ g < t i ∧ Row w (t i) (ls.getD i []) (ls.getD i []).length (ls.getD i []).length
theorem RowD.below {w w' : World} {g n k : Nat} {ls : List (List Dt)} (h : RowD w g ls n k) (hb : Below w.heap.size w w') : RowD w' g ls n k := by
  obtain ⟨f, t, hr, hc⟩ := h
  refine ⟨f, t, hr.of_block (hb.block g hr.lt), fun i hi => ?_⟩
  obtain ⟨h0, h1, h2⟩ := hc i hi
  exact ⟨h0, h1, h2.below hb⟩
theorem RowD.cells {w : World} {g n k : Nat} {ls : List (List Dt)} (h : RowD w g ls n k) (i : Nat) (hi : i < n) : ∃ v, w.cell? ⟨g, i, none⟩ = some v ∧ w.frozen? ⟨g, i, none⟩ = false := by
  obtain ⟨f, _, hr, _⟩ := h
  exact ⟨_, hr.cell hi, hr.frozen i⟩
theorem RowD.lt {w : World} {g n k : Nat} {ls : List (List Dt)} (h : RowD w g ls n k) : g < w.heap.size := by
  obtain ⟨f, _, hr, _⟩ := h
  exact hr.lt
theorem RowD.store {w : World} {g n k : Nat} {ls : List (List Dt)} (h : RowD w g ls n k) (x : List Dt) (hx : ls.getD k [] = x) (t : Nat) (ht : g < t) (hR : Row w t x x.length x.length) :
    RowD (w.setCell ⟨g, k, none⟩ (.slice (some ⟨t, 0, none⟩) x.length x.length)) g ls n (k + 1) := by
  obtain ⟨f, tt, hr, hc⟩ := h
  refine ⟨_, fun i => if i = k then t else tt i, hr.set k _, fun i hi => ?_⟩
  by_cases e : i = k
  · subst e
    rw [hx]
    refine ⟨by simp, by simpa using ht, ?_⟩
    simp only [if_true]
    exact hR.setLow (by simpa using ht) _
  · obtain ⟨h0, h1, h2⟩ := hc i (by omega)
    refine ⟨?_, by simp [e, h1], ?_⟩
    · rw [if_neg e]; simp only [if_neg e]; exact h0
    · simp only [if_neg e]
      exact h2.setLow (by simpa using h1) _
/-- Counts that are ints. -/
def Cnts (ds : List Dt) : Prop := ∀ i, i < ds.length → -9223372036854775808 ≤ (ds.getD i dt0).count ∧ (ds.getD i dt0).count ≤ 9223372036854775807
theorem Da.cnts {w : World} {p : Option Addr} {n c : Nat} {ds : List Dt} (h : Da w p n c ds) : Cnts ds := fun i hi => by
  rw [h.len] at hi
  obtain ⟨b, o, _, _, g⟩ := h.cells (by omega)
  obtain ⟨tp, tn, tc, he⟩ := g i hi
  exact ⟨he.lo, he.hi⟩
theorem RowD.dd {w : World} {g n : Nat} {ls : List (List Dt)} (h : RowD w g ls n n) (hl : ls.length = n) (hbig : n ≤ maxLen) (hfit : ∀ i, i < n → (ls.getD i []).length ≤ maxLen ∧ Cnts (ls.getD i [])) : Dd w (some ⟨g, 0, none⟩) n n ls := by
  obtain ⟨f, t, hr, hc⟩ := h
  refine ⟨hl, Nat.le_refl _, hbig, fun hn => ⟨g, 0, rfl, hr.lt, fun i hi => ?_⟩⟩
  obtain ⟨h0, h1, h2⟩ := hc i hi
  refine ⟨_, _, _, ?_, h2.da rfl (hfit i hi).1 (hfit i hi).2⟩
  rw [Nat.zero_add, ← h0]; exact hr.cell hi
end Go.Proofs.YtkkmoaidbmnolaaGreatDoor
namespace Go.Proofs.YtkkmoaidbmnolaaGreatDoor
open Go.RowKit Ch1
theorem RowF.setLow {w : World} {g n k : Nat} {fs : List Fn} (h : RowF w g fs n k) {a : Addr} (ha : a.block < g) (v : Value) : RowF (w.setCell a v) g fs n k := by
  obtain ⟨f, tf, tc, hr, hc⟩ := h
  refine ⟨f, tf, tc, hr.of_block (Below.heap_setCell w a v g (by omega)), fun i hi => ?_⟩
  obtain ⟨h0, h1, h2, h3, h4, h5, h6⟩ := hc i hi
  exact ⟨h0, h1, h2, h3, h4, h5.setOther (fun y hy => by cases hy; simp; omega) v, h6.setOther (fun y hy => by cases hy; simp; omega) v⟩
theorem RowD.setLow {w : World} {g n k : Nat} {ls : List (List Dt)} (h : RowD w g ls n k) {a : Addr} (ha : a.block < g) (v : Value) : RowD (w.setCell a v) g ls n k := by
  obtain ⟨f, t, hr, hc⟩ := h
  refine ⟨f, t, hr.of_block (Below.heap_setCell w a v g (by omega)), fun i hi => ?_⟩
  obtain ⟨h0, h1, h2⟩ := hc i hi
  exact ⟨h0, h1, h2.setLow (by omega) v⟩
theorem Mo.fits {w : World} {cp : Option Addr} {cn cc : Nat} {fp : Option Addr} {fn fc : Nat} {m : Md} (h : Mo w cp cn cc fp fn fc m) (hf : Fits cn fn m) : ∀ i, i < cn → (m.consts.getD i []).length ≤ maxLen ∧ Cnts (m.consts.getD i []) := fun i hi => by
  obtain ⟨b, o, _, _, g⟩ := h.cs.cells (by omega)
  obtain ⟨q, k, d, _, he⟩ := g i hi
  exact ⟨by have := (hf.cs i hi).1; unfold maxLen; omega, he.cnts⟩
/-- What toModule leaves: rows of the call's own. -/
def ToMq (cn fn : Nat) (m : Md) (w w' : World) (e : Ending) : Prop := ∃ tc tf, e = .returned (.agg #[.slice (some ⟨tc, 0, none⟩) cn cn, .int .i64 m.globals, .slice (some ⟨tf, 0, none⟩) fn fn]) ∧ Mo w' (some ⟨tc, 0, none⟩) cn cn (some ⟨tf, 0, none⟩) fn fn m ∧ Below w.heap.size w w'
/-! ### equality, at equal things -/
set_option maxHeartbeats 400000 in
theorem eqBoolS_c (p1 p2 : Option Addr) (n c1 c2 : Nat) (xs : List Bool) (w : World) (h1 : Bo w p1 n c1 xs) (h2 : Bo w p2 n c2 xs) :
    Calls Tryz.prog 58 #[.slice p1 n c1, .slice p2 n c2] w fun e w' => e = .returned (.bool true) ∧ ∃ q, w' = w.drewN q := by
  have hbig := small_of h1.cap h1.big
  have HC1 : Hid (Bo w p1 n c1 xs) := h1
  have HC2 : Hid (Bo w p2 n c2 xs) := h2
  clear h1 h2
  go_enter Tryz.func58, Tryz.ntmps58
  go_wp2
  go_loopw [5] (fun i wr => ∃ k q : Nat, k ≤ n ∧ i = .int .i64 k ∧ wr = w.drewN q) (fun i _ => n - (intOf i).toNat)
  case atStart => exact ⟨0, 0, Nat.zero_le _, rfl, rfl⟩
  case round =>
    obtain ⟨k, q, hk, rfl, rfl⟩ := hrel
    by_cases hlt : k < n
    · obtain ⟨b1, o1, rfl, _, g1⟩ := HC1.out.cells (by omega)
      obtain ⟨b2, o2, rfl, _, g2⟩ := HC2.out.cells (by omega)
      have g1 := g1 k hlt
      have g2 := g2 k hlt
      generalize xs.getD k false = x at g1 g2
      go_wp2
      go_quiet (fail)
      cases x
      all_goals go_wp2
      all_goals exact ⟨⟨k + 1, q + nq, by omega, by go_num, rfl⟩, by simp [intOf]; omega⟩
    · go_wp2
      go_ret
      exact ⟨rfl, q, rfl⟩
set_option maxHeartbeats 400000 in
theorem eqIns_c (x y z : Int) (w : World) :
    Calls Tryz.prog 71 #[.agg #[.int .i64 x, .int .i64 y, .int .i64 z], .agg #[.int .i64 x, .int .i64 y, .int .i64 z]] w fun e w' => e = .returned (.bool true) ∧ Below w.heap.size w w' := by
  go_enter Tryz.func71, Tryz.ntmps71
  go_wp2
  go_ret
  exact ⟨rfl, below2 w _ _⟩
set_option maxHeartbeats 1000000 in
theorem eqInsS_c (p1 p2 : Option Addr) (n c1 c2 : Nat) (xs : List In) (w : World) (h1 : Ii w p1 n c1 xs) (h2 : Ii w p2 n c2 xs) :
    Calls Tryz.prog 59 #[.slice p1 n c1, .slice p2 n c2] w fun e w' => e = .returned (.bool true) ∧ Below w.heap.size w w' := by
  have hbig := small_of h1.cap h1.big
  have H1 : Hid (Ii w p1 n c1 xs) := h1
  have H2 : Hid (Ii w p2 n c2 xs) := h2
  clear h1 h2
  go_enter Tryz.func59, Tryz.ntmps59
  go_wp2
  go_loopw [5] (fun i wr => ∃ k : Nat, k ≤ n ∧ i = .int .i64 k ∧ Hid (Below w.heap.size w wr)) (fun i _ => n - (intOf i).toNat)
  case atStart => exact ⟨0, Nat.zero_le _, rfl, Below.refl _ _⟩
  case round =>
    obtain ⟨k, hk, rfl, hb⟩ := hrel
    by_cases hlt : k < n
    · obtain ⟨b, o, rfl, hbl, g⟩ := (H1.out.below hb.out).cells (by omega)
      obtain ⟨e0, e1, e2⟩ := g k hlt
      obtain ⟨b', o', rfl, hbl', g'⟩ := (H2.out.below hb.out).cells (by omega)
      obtain ⟨f0, f1, f2⟩ := g' k hlt
      clear g g'
      generalize xs.getD k in0 = d at e0 e1 e2 f0 f1 f2
      go_wp2
      go_region_with (go_at_call 71; refine (eqIns_c _ _ _ _).mono ?_; rintro e w1 ⟨rfl, hb1⟩)
      all_goals
        go_wp2
        exact ⟨⟨k + 1, by omega, by go_num, hb.out.trans ((Below.refl _ wr).drew.trans (hb1.mono hb.out.size))⟩, by simp [intOf]; omega⟩
    · go_wp2
      go_ret
      exact ⟨rfl, hb.out⟩
set_option maxHeartbeats 1000000 in
theorem eqFunc_c (k : Int) (fp fp' : Option Addr) (fl fc fc' : Nat) (cp cp' : Option Addr) (cl cc cc' : Nat) (bs : List Bool) (xs : List In) (w : World) (h1 : Bo w fp fl fc bs) (h2 : Bo w fp' fl fc' bs) (h3 : Ii w cp cl cc xs) (h4 : Ii w cp' cl cc' xs) :
    Calls Tryz.prog 35 #[.agg #[.int .i64 k, .slice fp fl fc, .slice cp cl cc], .agg #[.int .i64 k, .slice fp' fl fc', .slice cp' cl cc']] w fun e w' => e = .returned (.bool true) ∧ Below w.heap.size w w' := by
  have H1 : Hid (Bo w fp fl fc bs) := h1
  have H2 : Hid (Bo w fp' fl fc' bs) := h2
  have H3 : Hid (Ii w cp cl cc xs) := h3
  have H4 : Hid (Ii w cp' cl cc' xs) := h4
  clear h1 h2 h3 h4
  go_enter Tryz.func35, Tryz.ntmps35
  go_wp2_with (first | (go_at_call 58; refine (eqBoolS_c _ _ _ _ _ bs _ (by exact H1.out.below (below2 w _ _)) (by exact H2.out.below (below2 w _ _))).mono ?_; rintro e w1 ⟨rfl, q, hw1⟩; have hw2 := hw1.symm; clear hw1; subst hw2) | (go_at_call 59; refine (eqInsS_c _ _ _ _ _ xs _ (by exact H3.out.below (below_drewN' (below2 w _ _) q)) (by exact H4.out.below (below_drewN' (below2 w _ _) q))).mono ?_; rintro e w3 ⟨rfl, hb3⟩))
  go_ret
  exact ⟨rfl, (below_drewN' (below2 w _ _) q).trans (hb3.mono (by simp; omega))⟩
end Go.Proofs.YtkkmoaidbmnolaaGreatDoor
namespace Go.Proofs.YtkkmoaidbmnolaaGreatDoor
open Go.RowKit Ch1
set_option maxHeartbeats 1000000 in
theorem eqFuncS_c (p1 p2 : Option Addr) (n c1 c2 : Nat) (fs : List Fn) (w : World) (h1 : Fu w p1 n c1 fs) (h2 : Fu w p2 n c2 fs) :
    Calls Tryz.prog 19 #[.slice p1 n c1, .slice p2 n c2] w fun e w' => e = .returned (.bool true) ∧ Below w.heap.size w w' := by
  have hbig := small_of h1.cap h1.big
  have H1 : Hid (Fu w p1 n c1 fs) := h1
  have H2 : Hid (Fu w p2 n c2 fs) := h2
  clear h1 h2
  go_enter Tryz.func19, Tryz.ntmps19
  go_wp2
  go_loopw [5] (fun i wr => ∃ k : Nat, k ≤ n ∧ i = .int .i64 k ∧ Hid (Below w.heap.size w wr)) (fun i _ => n - (intOf i).toNat)
  case atStart => exact ⟨0, Nat.zero_le _, rfl, Below.refl _ _⟩
  case round =>
    obtain ⟨k, hk, rfl, hb⟩ := hrel
    by_cases hlt : k < n
    · obtain ⟨b, o, rfl, hbl, g⟩ := H1.out.cells (by omega)
      obtain ⟨fp, fl, fc, cp, cl, cc, he⟩ := g k hlt
      obtain ⟨b', o', rfl, hbl', g'⟩ := H2.out.cells (by omega)
      obtain ⟨fp', fl', fc', cp', cl', cc', he'⟩ := g' k hlt
      have e1 := he.free.len
      have e2 := he'.free.len
      have e3 := he.code.len
      have e4 := he'.code.len
      obtain rfl : fl = fl' := by omega
      obtain rfl : cl = cl' := by omega
      clear g g' e1 e2 e3 e4
      replace he := he.below (w' := wr) hbl hb.out
      replace he' := he'.below (w' := wr) hbl' hb.out
      generalize fs.getD k fn0 = d at he he'
      have HY : Hid (Bo wr fp fl fc d.free) := he.free
      have HY' : Hid (Bo wr fp' fl fc' d.free) := he'.free
      have HZ : Hid (Ii wr cp cl cc d.code) := he.code
      have HZ' : Hid (Ii wr cp' cl cc' d.code) := he'.code
      have e0 := he.c0
      have e1 := he.c1
      have e2 := he.c2
      have f0 := he'.c0
      have f1 := he'.c1
      have f2 := he'.c2
      clear he he'
      go_wp2
      go_region_with (go_at_call 35; refine (eqFunc_c _ fp fp' fl fc fc' cp cp' cl cc cc' d.free d.code _ ?y1 ?y2 ?y3 ?y4).mono ?_; (case y1 => exact HY.out.below (below_drewN' (Below.refl _ _) _)); (case y2 => exact HY'.out.below (below_drewN' (Below.refl _ _) _)); (case y3 => exact HZ.out.below (below_drewN' (Below.refl _ _) _)); (case y4 => exact HZ'.out.below (below_drewN' (Below.refl _ _) _)); rintro e w1 ⟨rfl, hb1⟩)
      all_goals
        go_wp2
        exact ⟨⟨k + 1, by omega, by go_num, hb.out.trans ((Below.refl _ wr).drew.trans (hb1.mono hb.out.size))⟩, by simp [intOf]; omega⟩
    · go_wp2
      go_ret
      exact ⟨rfl, hb.out⟩
set_option maxHeartbeats 1000000 in
theorem eqDatumSS_c (p1 p2 : Option Addr) (n c1 c2 : Nat) (ls : List (List Dt)) (w : World) (h1 : Dd w p1 n c1 ls) (h2 : Dd w p2 n c2 ls) :
    Calls Tryz.prog 18 #[.slice p1 n c1, .slice p2 n c2] w fun e w' => e = .returned (.bool true) ∧ Below w.heap.size w w' := by
  have hbig := small_of h1.cap h1.big
  have H1 : Hid (Dd w p1 n c1 ls) := h1
  have H2 : Hid (Dd w p2 n c2 ls) := h2
  clear h1 h2
  go_enter Tryz.func18, Tryz.ntmps18
  go_wp2
  go_loopw [5] (fun i wr => ∃ k : Nat, k ≤ n ∧ i = .int .i64 k ∧ Hid (Below w.heap.size w wr)) (fun i _ => n - (intOf i).toNat)
  case atStart => exact ⟨0, Nat.zero_le _, rfl, Below.refl _ _⟩
  case round =>
    obtain ⟨k, hk, rfl, hb⟩ := hrel
    by_cases hlt : k < n
    · obtain ⟨b, o, rfl, hbl, g⟩ := (H1.out.below hb.out).cells (by omega)
      obtain ⟨q, m, d, e0, he⟩ := g k hlt
      obtain ⟨b', o', rfl, hbl', g'⟩ := (H2.out.below hb.out).cells (by omega)
      obtain ⟨q', m', d', f0, he'⟩ := g' k hlt
      have e1 := he.len
      have e2 := he'.len
      obtain rfl : m = m' := by omega
      clear g g' e1 e2
      generalize ls.getD k [] = x at he he'
      have HY : Hid (Da wr q m d x) := he
      have HY' : Hid (Da wr q' m d' x) := he'
      clear he he'
      go_wp2
      go_region_with (go_at_call 34; refine (eqDatumS9 q q' m d d' x _ ?y1 ?y2).mono ?_; (case y1 => exact HY.out.below (below_drewN' (Below.refl _ _) _)); (case y2 => exact HY'.out.below (below_drewN' (Below.refl _ _) _)); rintro e w1 ⟨rfl, hb1⟩)
      all_goals
        go_wp2
        exact ⟨⟨k + 1, by omega, by go_num, hb.out.trans ((Below.refl _ wr).drew.trans (hb1.mono hb.out.size))⟩, by simp [intOf]; omega⟩
    · go_wp2
      go_ret
      exact ⟨rfl, hb.out⟩
set_option maxHeartbeats 1000000 in
theorem eqModule_c (cp cp' : Option Addr) (cn cc cc' : Nat) (fp fp' : Option Addr) (fn fc fc' : Nat) (m : Md) (w : World) (h1 : Mo w cp cn cc fp fn fc m) (h2 : Mo w cp' cn cc' fp' fn fc' m) :
    Calls Tryz.prog 7 #[.agg #[.slice cp cn cc, .int .i64 m.globals, .slice fp fn fc], .agg #[.slice cp' cn cc', .int .i64 m.globals, .slice fp' fn fc']] w fun e w' => e = .returned (.bool true) ∧ Below w.heap.size w w' := by
  have H1 : Hid (Mo w cp cn cc fp fn fc m) := h1
  have H2 : Hid (Mo w cp' cn cc' fp' fn fc' m) := h2
  clear h1 h2
  go_enter Tryz.func7, Tryz.ntmps7
  go_wp2_with fail
  refine (eqDatumSS_c cp cp' cn cc cc' m.consts _ (by exact H1.out.cs.below (below2 w _ _)) (by exact H2.out.cs.below (below2 w _ _))).mono ?_
  rintro e w1 ⟨rfl, hb1⟩
  have HB1 : Hid (Below w.heap.size w w1) := (below2 w _ _).trans (hb1.mono (by simp; omega))
  have HA : Hid (B3 w1 w.heap.size (.slice cp cn cc) (.int .i64 m.globals) (.slice fp fn fc)) := ((B3.new w (.slice cp cn cc) (.int .i64 m.globals) (.slice fp fn fc) 26).below (below1 _ _)).below hb1
  have HX : Hid (B3 w1 (w.heap.size + 1) (.slice cp' cn cc') (.int .i64 m.globals) (.slice fp' fn fc')) := by
    have := (B3.new (w.alloc (.cells #[.slice cp cn cc, .int .i64 m.globals, .slice fp fn fc] 26)) (.slice cp' cn cc') (.int .i64 m.globals) (.slice fp' fn fc') 26).below hb1
    unfold Hid; simpa using this
  have a1 := HA.out.c1
  have a2 := HA.out.c2
  have x1 := HX.out.c1
  have x2 := HX.out.c2
  clear hb1
  go_wp2_with fail
  refine (eqFuncS_c fp fp' fn fc fc' m.funcs _ (H1.out.fs.below HB1.out) (H2.out.fs.below HB1.out)).mono ?_
  rintro e w2 ⟨rfl, hb2⟩
  have HB2 : Hid (Below w.heap.size w w2) := HB1.out.trans (hb2.mono HB1.out.size)
  clear hb2
  go_wp2
  go_ret
  exact ⟨rfl, HB2.out⟩
end Go.Proofs.YtkkmoaidbmnolaaGreatDoor
