import Derived.Test.YtkkmoaidbmnolaaGreatDoorD1
import Derived.Test.YtkkmoaidbmnolaaGreatDoorM6
namespace Go.Proofs.YtkkmoaidbmnolaaGreatDoor
open Go.RowKit Ch1
/-! ### rows that may be written -/
def IsR (w : World) (b : Nat) (e : TypeId) (m : Nat) : Prop := ∃ f, w.rowIs b e m f
theorem IsR.setCell {w : World} {b m : Nat} {e : TypeId} (h : IsR w b e m) (g i : Nat) (v : Value) : IsR (w.setCell ⟨g, i, none⟩ v) b e m := by
  obtain ⟨f, hf⟩ := h
  by_cases hg : b = g
  · subst hg; exact ⟨_, hf.set i v⟩
  · exact ⟨f, hf.setOther hg v⟩
theorem IsR.of_block {w w' : World} {b m : Nat} {e : TypeId} (h : IsR w b e m) (hb : w'.heap[b]? = w.heap[b]?) : IsR w' b e m := by
  obtain ⟨f, hf⟩ := h
  exact ⟨f, hf.of_block hb⟩
theorem IsR.lt {w : World} {b m : Nat} {e : TypeId} (h : IsR w b e m) : b < w.heap.size := by obtain ⟨f, hf⟩ := h; exact hf.lt
theorem IsR.at {w : World} {b m : Nat} {e : TypeId} (h : IsR w b e m) {i : Nat} (hi : i < m) : (∃ v, w.cell? ⟨b, i, none⟩ = some v) ∧ w.frozen? ⟨b, i, none⟩ = false := by
  obtain ⟨f, hf⟩ := h
  exact ⟨⟨_, hf.cell hi⟩, hf.frozen i⟩
/-- Only blocks from lo to ahead of hi have turned. -/
structure Within (lo hi : Nat) (w w' : World) : Prop where
  os : w'.os = w.os
  tape : w'.tape = w.tape
  output : w'.output = w.output
  size : w'.heap.size = w.heap.size
  block : ∀ k, k < lo ∨ hi ≤ k → w'.heap[k]? = w.heap[k]?
theorem Within.refl (lo hi : Nat) (w : World) : Within lo hi w w := ⟨rfl, rfl, rfl, rfl, fun _ _ => rfl⟩
theorem Within.trans {lo hi : Nat} {a b c : World} (h : Within lo hi a b) (k : Within lo hi b c) : Within lo hi a c :=
  ⟨k.os.trans h.os, k.tape.trans h.tape, k.output.trans h.output, k.size.trans h.size, fun i hi => (k.block i hi).trans (h.block i hi)⟩
theorem Within.wider {lo hi lo' hi' : Nat} {a b : World} (h : Within lo hi a b) (h1 : lo' ≤ lo) (h2 : hi ≤ hi') : Within lo' hi' a b :=
  ⟨h.os, h.tape, h.output, h.size, fun k hk => h.block k (by omega)⟩
theorem Within.set {lo hi : Nat} {a w : World} (h : Within lo hi a w) {p : Addr} (h1 : lo ≤ p.block) (h2 : p.block < hi) (v : Value) : Within lo hi a (w.setCell p v) :=
  h.trans ⟨rfl, rfl, rfl, by simp [World.setCell], fun k hk => Below.heap_setCell _ _ _ _ (by omega)⟩
theorem Within.below {lo hi : Nat} {a w : World} (h : Within lo hi a w) {B : Nat} (hB : B ≤ lo) : Below B a w :=
  ⟨h.os, h.tape, h.output, by rw [h.size]; exact Nat.le_refl _, fun k hk => h.block k (by omega)⟩
theorem By.within {lo hi : Nat} {w w' : World} {p : Option Addr} {n c : Nat} {xs : List Int} (h : By w p n c xs) (hw : Within lo hi w w') (hp : ∀ a, p = some a → 0 < n → a.block < lo ∨ hi ≤ a.block) : By w' p n c xs := by
  refine ⟨h.len, h.cap, h.big, h.rng, fun hn => ?_, fun a ha hn => by rw [hw.size]; exact h.old a ha hn⟩
  obtain ⟨b, o, e, hc⟩ := h.cells hn
  have ho := hp _ e hn
  exact ⟨b, o, e, fun i hi => by rw [World.cell?_of_block (w := w) (hw.block b ho)]; exact hc i hi⟩
/-! ### toByteS, toDatum, toDatumS with what may be written -/
set_option maxHeartbeats 400000 in
theorem toByteR (p : Option Addr) (n c : Nat) (xs : List Int) (w : World) (h : By w p n c xs) (hn : n ≤ 1048576) :
    Calls Tryz.prog 5 #[.slice p n c] w fun e w' => e = .returned (.slice (some ⟨w.heap.size, 0, none⟩) n n) ∧ By w' (some ⟨w.heap.size, 0, none⟩) n n xs ∧ Below w.heap.size w w' ∧ IsR w' w.heap.size 5 n := by
  have HB : Hid (By w p n c xs) := h
  clear h
  have hmk := run_make_row' (P := Tryz.prog) 22 5 (.int .u8 0) 1 Tryz.underlying22 info5 rfl .i64 .i64 n (by omega) (by omega)
  go_enter Tryz.func5, Tryz.ntmps5
  go_wp2
  clear hmk
  go_loopw [4] (fun i wr => ∃ k : Nat, k ≤ n ∧ i = .int .i64 k ∧ Hid (wr.rowIs w.heap.size 5 n (fun j => .int .u8 (if j < k then xs.getD j 0 else 0))) ∧ Hid (Below w.heap.size w wr)) (fun i _ => n - (intOf i).toNat)
  case atStart =>
    refine ⟨0, Nat.zero_le _, rfl, ?_, ?_⟩
    · exact (World.rowIs_made w (.int .u8 0) n 5).congr (fun j _ => by simp)
    · exact (Below.refl _ _).alloc (Nat.le_refl _) _
  case round =>
    obtain ⟨k, hk, rfl, hr, hb⟩ := hrel
    by_cases hlt : k < n
    · obtain ⟨b, o, rfl, g⟩ := HB.out.cells (by omega)
      have hold := HB.out.old _ rfl (by omega)
      have g1 := g k hlt
      clear g
      rw [← hb.out.cell (p := ⟨b, o + k, none⟩) hold] at g1
      have g2 := hr.out.cell hlt
      have g3 := hr.out.frozen k
      go_wp2
      refine ⟨⟨k + 1, by omega, by go_num, (hr.out.set k _).congr (fun j hj => ?_), hb.out.setCell (Nat.le_refl _) _⟩, by simp [intOf]; omega⟩
      by_cases e : j = k
      · subst e; simp
      · by_cases e2 : j < k
        · simp [e, e2, show j < k + 1 by omega]
        · simp [e, e2, show ¬ j < k + 1 by omega]
    · have : k = n := by omega
      subst this
      go_wp2
      go_ret
      refine ⟨rfl, ⟨HB.out.len, Nat.le_refl _, by unfold maxLen; omega, HB.out.rng, fun hp => ⟨w.heap.size, 0, rfl, fun i hi => ?_⟩, fun a ha _ => ?_⟩, hb.out, ⟨_, hr.out⟩⟩
      · have := hr.out.cell hi
        rw [if_pos hi] at this
        simpa using this
      · cases ha; exact hr.out.lt
theorem IsR.below {w w' : World} {b m : Nat} {e : TypeId} (h : IsR w b e m) (hb : Below w.heap.size w w') : IsR w' b e m := h.of_block (hb.block b h.lt)
/-- The first k of n data lie in block g, and all of it may be written. -/
def RowR (w : World) (g : Nat) (ds : List Dt) (n k : Nat) : Prop := ∃ (f : Nat → Value) (t : Nat → Nat), w.rowIs g 41 (n * 4) f ∧ ∀ i, i < k →
  f (i * 4) = .int .i64 (ds.getD i dt0).kind ∧ f (i * 4 + 1) = .int .i64 (ds.getD i dt0).n ∧
  f (i * 4 + 2) = .slice (some ⟨t i, 0, none⟩) (ds.getD i dt0).text.length (ds.getD i dt0).text.length ∧
  f (i * 4 + 3) = .int .i64 (ds.getD i dt0).count ∧ g < t i ∧
  By w (some ⟨t i, 0, none⟩) (ds.getD i dt0).text.length (ds.getD i dt0).text.length (ds.getD i dt0).text ∧ IsR w (t i) 5 (ds.getD i dt0).text.length
theorem RowR.row {w : World} {g n k : Nat} {ds : List Dt} (h : RowR w g ds n k) : Row w g ds n k := by
  obtain ⟨f, t, hr, hc⟩ := h
  exact ⟨f, t, hr, fun i hi => by obtain ⟨h0, h1, h2, h3, h4, h5, _⟩ := hc i hi; exact ⟨h0, h1, h2, h3, h4, h5⟩⟩
theorem RowR.made {w w' : World} {g n : Nat} {xs : List Value} (ds : List Dt) (ho : w'.ownsRow g 41 4 (.slice (some ⟨w.heap.size, 0, none⟩) n n) n xs) : RowR w' w.heap.size ds n 0 := by
  obtain ⟨_, h | ⟨g', cap, cur, hv, _, hh, _, _, hsz, _⟩⟩ := ho
  · cases h.1
  · cases hv
    exact ⟨fun i => cur.getD i .nilIface, fun _ => 0, ⟨cur, hh, hsz, fun i hi => by simp [Array.getD, show i < cur.size by omega]⟩, fun i hi => absurd hi (Nat.not_lt_zero i)⟩
theorem RowR.below {w w' : World} {g n k : Nat} {ds : List Dt} (h : RowR w g ds n k) (hb : Below w.heap.size w w') : RowR w' g ds n k := by
  obtain ⟨f, t, hr, hc⟩ := h
  refine ⟨f, t, hr.of_block (hb.block g hr.lt), fun i hi => ?_⟩
  obtain ⟨h0, h1, h2, h3, h4, h5, h6⟩ := hc i hi
  exact ⟨h0, h1, h2, h3, h4, h5.below hb, h6.below hb⟩
theorem RowR.store {w : World} {g n k : Nat} {ds : List Dt} (h : RowR w g ds n k) (t : Nat) (ht : g < t) (hb : By w (some ⟨t, 0, none⟩) (ds.getD k dt0).text.length (ds.getD k dt0).text.length (ds.getD k dt0).text) (hi : IsR w t 5 (ds.getD k dt0).text.length) :
    RowR ((((w.setCell ⟨g, k * 4, none⟩ (.int .i64 (ds.getD k dt0).kind)).setCell ⟨g, k * 4 + 1, none⟩ (.int .i64 (ds.getD k dt0).n)).setCell ⟨g, k * 4 + 2, none⟩ (.slice (some ⟨t, 0, none⟩) (ds.getD k dt0).text.length (ds.getD k dt0).text.length)).setCell ⟨g, k * 4 + 3, none⟩ (.int .i64 (ds.getD k dt0).count)) g ds n (k + 1) := by
  obtain ⟨f, t', hr, hc⟩ := h
  refine ⟨_, fun i => if i = k then t else t' i, (((hr.set (k * 4) _).set (k * 4 + 1) _).set (k * 4 + 2) _).set (k * 4 + 3) _, fun i hik => ?_⟩
  by_cases e : i = k
  · subst e
    refine ⟨by simp, by simp, by simp, by simp, by simpa using ht, ?_, ?_⟩
    · simp only [if_true]
      exact (((hb.setCell (by simp; omega) _).setCell (by simp; omega) _).setCell (by simp; omega) _).setCell (by simp; omega) _
    · simp only [if_true]
      exact (((hi.setCell _ _ _).setCell _ _ _).setCell _ _ _).setCell _ _ _
  · obtain ⟨h0, h1, h2, h3, h4, h5, h6⟩ := hc i (by omega)
    have q : ∀ a b, a < 4 → b < 4 → ¬ (i * 4 + a = k * 4 + b) := fun a b ha hb => by omega
    refine ⟨?_, ?_, ?_, ?_, by simp [e, h4], ?_, ?_⟩
    · rw [if_neg (by have := q 0 3 (by omega) (by omega); omega), if_neg (by have := q 0 2 (by omega) (by omega); omega), if_neg (by have := q 0 1 (by omega) (by omega); omega), if_neg (by have := q 0 0 (by omega) (by omega); omega)]; exact h0
    · rw [if_neg (q 1 3 (by omega) (by omega)), if_neg (q 1 2 (by omega) (by omega)), if_neg (q 1 1 (by omega) (by omega)), if_neg (by have := q 1 0 (by omega) (by omega); omega)]; exact h1
    · rw [if_neg (q 2 3 (by omega) (by omega)), if_neg (q 2 2 (by omega) (by omega)), if_neg (q 2 1 (by omega) (by omega)), if_neg (by have := q 2 0 (by omega) (by omega); omega)]; simp only [if_neg e]; exact h2
    · rw [if_neg (q 3 3 (by omega) (by omega)), if_neg (q 3 2 (by omega) (by omega)), if_neg (q 3 1 (by omega) (by omega)), if_neg (by have := q 3 0 (by omega) (by omega); omega)]; exact h3
    · simp only [if_neg e]
      exact (((h5.setCell (by simp; omega) _).setCell (by simp; omega) _).setCell (by simp; omega) _).setCell (by simp; omega) _
    · simp only [if_neg e]
      exact (((h6.setCell _ _ _).setCell _ _ _).setCell _ _ _).setCell _ _ _
end Go.Proofs.YtkkmoaidbmnolaaGreatDoor
namespace Go.Proofs.YtkkmoaidbmnolaaGreatDoor
open Go.RowKit Ch1
theorem RowR.setLow {w : World} {g n k : Nat} {ds : List Dt} (h : RowR w g ds n k) {a : Addr} (ha : a.block < g) (v : Value) : RowR (w.setCell a v) g ds n k := by
  obtain ⟨f, t, hr, hc⟩ := h
  refine ⟨f, t, hr.of_block (Below.heap_setCell w a v g (by omega)), fun i hi => ?_⟩
  obtain ⟨h0, h1, h2, h3, h4, h5, h6⟩ := hc i hi
  exact ⟨h0, h1, h2, h3, h4, h5.setCell (by omega) v, h6.of_block (Below.heap_setCell w a v _ (by omega))⟩
/-- What toFunc leaves. -/
def ToFr (k : Int) (fl cl : Nat) (free : List Bool) (code : List In) (w w' : World) (e : Ending) : Prop := ∃ tf tc, e = .returned (.agg #[.int .i64 k, .slice (some ⟨tf, 0, none⟩) fl fl, .slice (some ⟨tc, 0, none⟩) cl cl]) ∧ w.heap.size ≤ tf ∧ w.heap.size ≤ tc ∧ Bo w' (some ⟨tf, 0, none⟩) fl fl free ∧ Ii w' (some ⟨tc, 0, none⟩) cl cl code ∧ IsR w' tf 4 fl ∧ IsR w' tc 48 (cl * 3) ∧ Below w.heap.size w w'
/-- The first k of n functions lie in block g. -/
def RowFR (w : World) (g : Nat) (fs : List Fn) (n k : Nat) : Prop := ∃ (f : Nat → Value) (tf tc : Nat → Nat), w.rowIs g 46 (n * 3) f ∧ ∀ i, i < k →
  f (i * 3) = .int .i64 (fs.getD i fn0).params ∧ f (i * 3 + 1) = .slice (some ⟨tf i, 0, none⟩) (fs.getD i fn0).free.length (fs.getD i fn0).free.length ∧ f (i * 3 + 2) = .slice (some ⟨tc i, 0, none⟩) (fs.getD i fn0).code.length (fs.getD i fn0).code.length ∧
  g < tf i ∧ g < tc i ∧ Bo w (some ⟨tf i, 0, none⟩) (fs.getD i fn0).free.length (fs.getD i fn0).free.length (fs.getD i fn0).free ∧ Ii w (some ⟨tc i, 0, none⟩) (fs.getD i fn0).code.length (fs.getD i fn0).code.length (fs.getD i fn0).code ∧ IsR w (tf i) 4 (fs.getD i fn0).free.length ∧ IsR w (tc i) 48 ((fs.getD i fn0).code.length * 3)
theorem RowFR.made {w w' : World} {g n : Nat} {vs : List Value} (fs : List Fn) (ho : w'.ownsRow g 46 3 (.slice (some ⟨w.heap.size, 0, none⟩) n n) n vs) : RowFR w' w.heap.size fs n 0 := by
  obtain ⟨_, h | ⟨g', cap, cur, hv, _, hh, _, _, hsz, _⟩⟩ := ho
  · cases h.1
  · cases hv
    exact ⟨fun i => cur.getD i .nilIface, fun _ => 0, fun _ => 0, ⟨cur, hh, hsz, fun i hi => by simp [Array.getD, show i < cur.size by omega]⟩, fun i hi => absurd hi (Nat.not_lt_zero i)⟩
theorem RowFR.below {w w' : World} {g n k : Nat} {fs : List Fn} (h : RowFR w g fs n k) (hb : Below w.heap.size w w') : RowFR w' g fs n k := by
  obtain ⟨f, tf, tc, hr, hc⟩ := h
  refine ⟨f, tf, tc, hr.of_block (hb.block g hr.lt), fun i hi => ?_⟩
  obtain ⟨h0, h1, h2, h3, h4, h5, h6, h7, h8⟩ := hc i hi
  exact ⟨h0, h1, h2, h3, h4, h5.below hb, h6.below hb, h7.below hb, h8.below hb⟩
theorem RowFR.cells {w : World} {g n k : Nat} {fs : List Fn} (h : RowFR w g fs n k) (i : Nat) (hi : i < n * 3) : ∃ v, w.cell? ⟨g, i, none⟩ = some v ∧ w.frozen? ⟨g, i, none⟩ = false := by
  obtain ⟨f, _, _, hr, _⟩ := h
  exact ⟨_, hr.cell hi, hr.frozen i⟩
theorem RowFR.lt {w : World} {g n k : Nat} {fs : List Fn} (h : RowFR w g fs n k) : g < w.heap.size := by
  obtain ⟨f, _, _, hr, _⟩ := h
  exact hr.lt
theorem RowFR.store {w : World} {g n k : Nat} {fs : List Fn} (h : RowFR w g fs n k) (x : Fn) (hx : fs.getD k fn0 = x) (t u : Nat) (ht : g < t) (hu : g < u) (hB : Bo w (some ⟨t, 0, none⟩) x.free.length x.free.length x.free) (hI : Ii w (some ⟨u, 0, none⟩) x.code.length x.code.length x.code) (hB2 : IsR w t 4 x.free.length) (hI2 : IsR w u 48 (x.code.length * 3)) :
    RowFR (((w.setCell ⟨g, k * 3, none⟩ (.int .i64 x.params)).setCell ⟨g, k * 3 + 1, none⟩ (.slice (some ⟨t, 0, none⟩) x.free.length x.free.length)).setCell ⟨g, k * 3 + 2, none⟩ (.slice (some ⟨u, 0, none⟩) x.code.length x.code.length)) g fs n (k + 1) := by
  obtain ⟨f, tf, tc, hr, hc⟩ := h
  refine ⟨_, fun i => if i = k then t else tf i, fun i => if i = k then u else tc i, ((hr.set (k * 3) _).set (k * 3 + 1) _).set (k * 3 + 2) _, fun i hi => ?_⟩
  by_cases e : i = k
  · subst e
    rw [hx]
    refine ⟨by simp, by simp, by simp, by simpa using ht, by simpa using hu, ?_, ?_, ?_, ?_⟩
    · simp only [if_true]
      exact ((hB.setOther (fun y hy => by cases hy; simp; omega) _).setOther (fun y hy => by cases hy; simp; omega) _).setOther (fun y hy => by cases hy; simp; omega) _
    · simp only [if_true]
      exact ((hI.setOther (fun y hy => by cases hy; simp; omega) _).setOther (fun y hy => by cases hy; simp; omega) _).setOther (fun y hy => by cases hy; simp; omega) _
    · simp only [if_true]
      exact ((hB2.setCell _ _ _).setCell _ _ _).setCell _ _ _
    · simp only [if_true]
      exact ((hI2.setCell _ _ _).setCell _ _ _).setCell _ _ _
  · obtain ⟨h0, h1, h2, h3, h4, h5, h6, h7, h8⟩ := hc i (by omega)
    have q := q3 e
    refine ⟨?_, ?_, ?_, by simp [e, h3], by simp [e, h4], ?_, ?_, ?_, ?_⟩
    · rw [if_neg (by have := q 0 2 (by omega) (by omega); omega), if_neg (by have := q 0 1 (by omega) (by omega); omega), if_neg (by have := q 0 0 (by omega) (by omega); omega)]; exact h0
    · rw [if_neg (q 1 2 (by omega) (by omega)), if_neg (q 1 1 (by omega) (by omega)), if_neg (by have := q 1 0 (by omega) (by omega); omega)]; simp only [if_neg e]; exact h1
    · rw [if_neg (q 2 2 (by omega) (by omega)), if_neg (q 2 1 (by omega) (by omega)), if_neg (by have := q 2 0 (by omega) (by omega); omega)]; simp only [if_neg e]; exact h2
    · simp only [if_neg e]
      exact ((h5.setOther (fun y hy => by cases hy; simp; omega) _).setOther (fun y hy => by cases hy; simp; omega) _).setOther (fun y hy => by cases hy; simp; omega) _
    · simp only [if_neg e]
      exact ((h6.setOther (fun y hy => by cases hy; simp; omega) _).setOther (fun y hy => by cases hy; simp; omega) _).setOther (fun y hy => by cases hy; simp; omega) _
    · simp only [if_neg e]
      exact ((h7.setCell _ _ _).setCell _ _ _).setCell _ _ _
    · simp only [if_neg e]
      exact ((h8.setCell _ _ _).setCell _ _ _).setCell _ _ _
theorem RowFR.fu {w : World} {g n : Nat} {fs : List Fn} (h : RowFR w g fs n n) (hl : fs.length = n) (hbig : n ≤ maxLen) : Fu w (some ⟨g, 0, none⟩) n n fs := by
  obtain ⟨f, tf, tc, hr, hc⟩ := h
  refine ⟨hl, Nat.le_refl _, hbig, fun hn => ⟨g, 0, rfl, hr.lt, fun i hi => ?_⟩⟩
  obtain ⟨h0, h1, h2, h3, h4, h5, h6, _, _⟩ := hc i hi
  refine ⟨_, _, _, _, _, _, ?_, ?_, ?_, h5, h6⟩
  · rw [Nat.zero_add, ← h0]; exact hr.cell (by omega)
  · rw [Nat.zero_add, ← h1]; exact hr.cell (by omega)
  · rw [Nat.zero_add, ← h2]; exact hr.cell (by omega)
/-- The first k of n lists of data lie in block g. -/
def RowDR (w : World) (g : Nat) (ls : List (List Dt)) (n k : Nat) : Prop := ∃ (f : Nat → Value) (t : Nat → Nat), w.rowIs g 39 n f ∧ ∀ i, i < k →
  f i = .slice (some ⟨t i, 0, none⟩) (ls.getD i []).length (ls.getD i []).length ∧ g < t i ∧ RowR w (t i) (ls.getD i []) (ls.getD i []).length (ls.getD i []).length
theorem RowDR.below {w w' : World} {g n k : Nat} {ls : List (List Dt)} (h : RowDR w g ls n k) (hb : Below w.heap.size w w') : RowDR w' g ls n k := by
  obtain ⟨f, t, hr, hc⟩ := h
  refine ⟨f, t, hr.of_block (hb.block g hr.lt), fun i hi => ?_⟩
  obtain ⟨h0, h1, h2⟩ := hc i hi
  exact ⟨h0, h1, h2.below hb⟩
theorem RowDR.cells {w : World} {g n k : Nat} {ls : List (List Dt)} (h : RowDR w g ls n k) (i : Nat) (hi : i < n) : ∃ v, w.cell? ⟨g, i, none⟩ = some v ∧ w.frozen? ⟨g, i, none⟩ = false := by
  obtain ⟨f, _, hr, _⟩ := h
  exact ⟨_, hr.cell hi, hr.frozen i⟩
theorem RowDR.lt {w : World} {g n k : Nat} {ls : List (List Dt)} (h : RowDR w g ls n k) : g < w.heap.size := by
  obtain ⟨f, _, hr, _⟩ := h
  exact hr.lt
theorem RowDR.store {w : World} {g n k : Nat} {ls : List (List Dt)} (h : RowDR w g ls n k) (x : List Dt) (hx : ls.getD k [] = x) (t : Nat) (ht : g < t) (hR : RowR w t x x.length x.length) :
    RowDR (w.setCell ⟨g, k, none⟩ (.slice (some ⟨t, 0, none⟩) x.length x.length)) g ls n (k + 1) := by
  obtain ⟨f, tt, hr, hc⟩ := h
  refine ⟨_, fun i => if i = k then t else tt i, hr.set k _, fun i hi => ?_⟩
  by_cases e : i = k
  · subst e
    rw [hx]
    refine ⟨by simp, by simpa using ht, ?_⟩
    simp only [if_true]
    exact hR.setLow (by simpa using ht) _
  · obtain ⟨h0, h1, h2⟩ := hc i (by omega)
    refine ⟨?_, by simp [e, h1], ?_⟩
    · rw [if_neg e]; simp only [if_neg e]; exact h0
    · simp only [if_neg e]
      exact h2.setLow (by simpa using h1) _
theorem RowDR.dd {w : World} {g n : Nat} {ls : List (List Dt)} (h : RowDR w g ls n n) (hl : ls.length = n) (hbig : n ≤ maxLen) (hfit : ∀ i, i < n → (ls.getD i []).length ≤ maxLen ∧ Cnts (ls.getD i [])) : Dd w (some ⟨g, 0, none⟩) n n ls := by
  obtain ⟨f, t, hr, hc⟩ := h
  refine ⟨hl, Nat.le_refl _, hbig, fun hn => ⟨g, 0, rfl, hr.lt, fun i hi => ?_⟩⟩
  obtain ⟨h0, h1, h2⟩ := hc i hi
  refine ⟨_, _, _, ?_, h2.row.da rfl (hfit i hi).1 (hfit i hi).2⟩
  rw [Nat.zero_add, ← h0]; exact hr.cell hi
theorem RowFR.setLow {w : World} {g n k : Nat} {fs : List Fn} (h : RowFR w g fs n k) {a : Addr} (ha : a.block < g) (v : Value) : RowFR (w.setCell a v) g fs n k := by
  obtain ⟨f, tf, tc, hr, hc⟩ := h
  refine ⟨f, tf, tc, hr.of_block (Below.heap_setCell w a v g (by omega)), fun i hi => ?_⟩
  obtain ⟨h0, h1, h2, h3, h4, h5, h6, h7, h8⟩ := hc i hi
  exact ⟨h0, h1, h2, h3, h4, h5.setOther (fun y hy => by cases hy; simp; omega) v, h6.setOther (fun y hy => by cases hy; simp; omega) v, h7.of_block (Below.heap_setCell w a v _ (by omega)), h8.of_block (Below.heap_setCell w a v _ (by omega))⟩
theorem RowDR.setLow {w : World} {g n k : Nat} {ls : List (List Dt)} (h : RowDR w g ls n k) {a : Addr} (ha : a.block < g) (v : Value) : RowDR (w.setCell a v) g ls n k := by
  obtain ⟨f, t, hr, hc⟩ := h
  refine ⟨f, t, hr.of_block (Below.heap_setCell w a v g (by omega)), fun i hi => ?_⟩
  obtain ⟨h0, h1, h2⟩ := hc i hi
  exact ⟨h0, h1, h2.setLow (by omega) v⟩
/-- What toModule leaves: rows of the call's own. -/
def ToMr (cn fn : Nat) (m : Md) (w w' : World) (e : Ending) : Prop := ∃ tc tf, e = .returned (.agg #[.slice (some ⟨tc, 0, none⟩) cn cn, .int .i64 m.globals, .slice (some ⟨tf, 0, none⟩) fn fn]) ∧ Mo w' (some ⟨tc, 0, none⟩) cn cn (some ⟨tf, 0, none⟩) fn fn m ∧ RowDR w' tc m.consts cn cn ∧ RowFR w' tf m.funcs fn fn ∧ w.heap.size ≤ tc ∧ w.heap.size ≤ tf ∧ Below w.heap.size w w'
end Go.Proofs.YtkkmoaidbmnolaaGreatDoor
namespace Go.Proofs.YtkkmoaidbmnolaaGreatDoor
open Go.RowKit Ch1
set_option maxHeartbeats 400000 in
theorem mark11_nil (p : Option Addr) (c : Nat) (k : Int) (w : World) : Calls Tryz.prog 9 #[.slice p 0 c, .int .i64 k] w fun e w' => e = .returned (.int .i64 k) ∧ w' = w := by
  go_enter Tryz.func9, Tryz.ntmps9
  go_wp2
  go_loop [1, 5] (fun kv i => kv = .int .i64 k ∧ i = .int .i64 0) (fun _ _ => 0)
  case atStart => exact ⟨rfl, rfl⟩
  case round =>
    obtain ⟨rfl, rfl⟩ := hrel
    go_wp2
    go_ret
    exact ⟨rfl, rfl⟩
def mk (x : Int) : Int := x % 256
set_option maxHeartbeats 1000000 in
theorem mark11 (t n m c : Nat) (f : Nat → Value) (k : Int) (w : World) (hr : w.rowIs t 5 m f) (hnm : n ≤ m) (hn : n ≤ 1000000000) (h0 : 0 ≤ k) (h1 : k ≤ 4000000000000000000) :
    Calls Tryz.prog 9 #[.slice (some ⟨t, 0, none⟩) n c, .int .i64 k] w fun e w' => e = .returned (.int .i64 (k + n)) ∧ w'.rowIs t 5 m (fun j => if j < n then .int .u8 (mk (k + j)) else f j) ∧ Within t (t + 1) w w' := by
  have HR : Hid (w.rowIs t 5 m f) := hr
  clear hr
  go_enter Tryz.func9, Tryz.ntmps9
  go_wp2
  go_loopw [1, 5] (fun kv i wr => ∃ (j : Nat) (z : Int), j ≤ n ∧ i = .int .i64 j ∧ kv = .int .i64 z ∧ Hid (z = k + j) ∧ Hid (wr.rowIs t 5 m (fun x => if x < j then .int .u8 (mk (k + x)) else f x)) ∧ Hid (Within t (t + 1) w wr)) (fun _ i _ => n - (intOf i).toNat)
  case atStart => exact ⟨0, k, Nat.zero_le _, rfl, rfl, by unfold Hid; simp, HR.out.congr (fun j _ => by simp), Within.refl _ _ _⟩
  case round =>
    obtain ⟨j, z, hj, rfl, rfl, hz, hR, hW⟩ := hrel
    have hz0 : 0 ≤ z := by rw [hz.out]; omega
    have hz1 : z ≤ 4100000000000000000 := by rw [hz.out]; omega
    by_cases hlt : j < n
    · have g2 := hR.out.cell (show j < m by omega)
      have g3 := hR.out.frozen j
      obtain ⟨y, hy⟩ : ∃ y, (if j < j then Value.int .u8 (mk (k + j)) else f j) = y := ⟨_, rfl⟩
      simp only [hy] at g2
      clear hy
      go_wp2
      refine ⟨⟨j + 1, z + 1, by omega, by go_num, rfl, by unfold Hid; rw [hz.out]; omega, (hR.out.set j _).congr (fun x hx => ?_), hW.out.set (Nat.le_refl _) (Nat.lt_succ_self _) _⟩, by simp [intOf]; omega⟩
      by_cases e : x = j
      · subst e
        rw [if_pos rfl, if_pos (Nat.lt_succ_self _), hz.out]; rfl
      · by_cases e2 : x < j
        · rw [if_neg e, if_pos e2, if_pos (by omega)]
        · rw [if_neg e, if_neg e2, if_neg (by omega)]
    · obtain rfl : j = n := by omega
      go_wp2
      go_ret
      exact ⟨ret_int hz.out, hR.out, hW.out⟩

set_option maxHeartbeats 400000 in
theorem held12_nil (p : Option Addr) (c : Nat) (k : Int) (w : World) : Calls Tryz.prog 60 #[.slice p 0 c, .int .i64 k] w fun e w' => e = .returned (.int .i64 k) ∧ w' = w := by
  go_enter Tryz.func60, Tryz.ntmps60
  go_wp2
  go_loop [1, 5] (fun kv i => kv = .int .i64 k ∧ i = .int .i64 0) (fun _ _ => 0)
  case atStart => exact ⟨rfl, rfl⟩
  case round =>
    obtain ⟨rfl, rfl⟩ := hrel
    go_wp2
    go_ret
    exact ⟨rfl, rfl⟩
set_option maxHeartbeats 1000000 in
theorem held12 (t n c : Nat) (k : Int) (w : World) (hc : ∀ j, j < n → w.cell? ⟨t, j, none⟩ = some (.int .u8 (mk (k + j)))) (hn : n ≤ 1000000000) (h0 : 0 ≤ k) (h1 : k ≤ 4000000000000000000) :
    Calls Tryz.prog 60 #[.slice (some ⟨t, 0, none⟩) n c, .int .i64 k] w fun e w' => e = .returned (.int .i64 (k + n)) ∧ w' = w := by
  have HC : Hid (∀ j, j < n → w.cell? ⟨t, j, none⟩ = some (.int .u8 (mk (k + j)))) := hc
  clear hc
  go_enter Tryz.func60, Tryz.ntmps60
  go_wp2
  go_loop [1, 5] (fun kv i => ∃ (j : Nat) (z : Int), j ≤ n ∧ i = .int .i64 j ∧ kv = .int .i64 z ∧ Hid (z = k + j)) (fun _ i => n - (intOf i).toNat)
  case atStart => exact ⟨0, k, Nat.zero_le _, rfl, rfl, by unfold Hid; simp⟩
  case round =>
    obtain ⟨j, z, hj, rfl, rfl, hz⟩ := hrel
    have hz0 : 0 ≤ z := by rw [hz.out]; omega
    have hz1 : z ≤ 4100000000000000000 := by rw [hz.out]; omega
    by_cases hlt : j < n
    · have g2 := HC.out j hlt
      rw [← hz.out, mk] at g2
      go_wp2
      exact ⟨⟨j + 1, z + 1, by omega, by go_num, rfl, by unfold Hid; rw [hz.out]; omega⟩, by simp [intOf]; omega⟩
    · obtain rfl : j = n := by omega
      go_wp2
      go_ret
      exact ⟨ret_int hz.out, rfl⟩
/-! ### markDatumS -/
/-- Data in block g and texts, all from lo to ahead of hi, that may be written. -/
structure Mk (w : World) (lo hi g n : Nat) : Prop where
  g1 : lo ≤ g
  g2 : g < hi
  row : IsR w g 41 (n * 4)
  txts : ∀ i, i < n → ∃ t tl, w.cell? ⟨g, i * 4 + 2, none⟩ = some (.slice (some ⟨t, 0, none⟩) tl tl) ∧ lo ≤ t ∧ t < hi ∧ t ≠ g ∧ tl ≤ 1048576 ∧ IsR w t 5 tl
theorem cell_set_other (w : World) (g i j : Nat) (v : Value) (h : i ≠ j) : (w.setCell ⟨g, j, none⟩ v).cell? ⟨g, i, none⟩ = w.cell? ⟨g, i, none⟩ := by
  rw [World.cell?_setCell_other]
  intro e
  cases e
  exact h rfl
theorem Mk.set {w : World} {lo hi g n : Nat} (h : Mk w lo hi g n) (j : Nat) (hj : j % 4 ≠ 2) (v : Value) : Mk (w.setCell ⟨g, j, none⟩ v) lo hi g n := by
  refine ⟨h.g1, h.g2, h.row.setCell _ _ _, fun i hi => ?_⟩
  obtain ⟨t, tl, hc, r1, r2, r3, r4, r5⟩ := h.txts i hi
  exact ⟨t, tl, by rw [cell_set_other _ _ _ _ _ (by omega)]; exact hc, r1, r2, r3, r4, r5.setCell _ _ _⟩
theorem Mk.only {w w' : World} {lo hi g n t tl : Nat} (h : Mk w lo hi g n) (ht : t ≠ g) (hw : Within t (t + 1) w w') (hr : IsR w t 5 tl → IsR w' t 5 tl) (hk : IsR w t 5 tl) : Mk w' lo hi g n := by
  have key : ∀ b e m, IsR w b e m → IsR w' b e m := by
    intro b e m hb
    by_cases e1 : b = t
    · subst e1
      obtain ⟨f, c, h1, h2, h3⟩ := hb
      obtain ⟨f', c', h1', h2', h3'⟩ := hk
      rw [h1] at h1'
      cases h1'
      obtain rfl : m = tl := by omega
      exact hr ⟨f', c, h1, h2, h3'⟩
    · exact hb.of_block (hw.block b (by omega))
  refine ⟨h.g1, h.g2, key _ _ _ h.row, fun i hi => ?_⟩
  obtain ⟨t', tl', hc, r1, r2, r3, r4, r5⟩ := h.txts i hi
  exact ⟨t', tl', by rw [World.cell?_of_block (w := w) (hw.block g (by omega))]; exact hc, r1, r2, r3, r4, key _ _ _ r5⟩
theorem RowR.mk {w : World} {g n : Nat} {ds : List Dt} (h : RowR w g ds n n) (ht : ∀ i, i < n → ((ds.getD i dt0).text.length : Int) ≤ 1048576) : Mk w g w.heap.size g n := by
  obtain ⟨f, t, hr, hc⟩ := h
  refine ⟨Nat.le_refl _, hr.lt, ⟨f, hr⟩, fun i hi => ?_⟩
  obtain ⟨h0, h1, h2, h3, h4, h5, h6⟩ := hc i hi
  have := ht i hi
  exact ⟨t i, _, by rw [hr.cell (by omega), h2], by omega, h6.lt, by omega, by omega, h6⟩
set_option maxHeartbeats 2000000 in
theorem mark10 (g n c lo hi : Nat) (w : World) (hM : Mk w lo hi g n) (hn : n ≤ 1048576) :
    Calls Tryz.prog 36 #[.slice (some ⟨g, 0, none⟩) n c, .int .i64 1] w fun e w' => ∃ z : Int, e = .returned (.int .i64 z) ∧ 0 ≤ z ∧ Within lo hi w w' := by
  have HM : Hid (Mk w lo hi g n) := hM
  clear hM
  go_enter Tryz.func36, Tryz.ntmps36
  go_wp2
  go_loopw [1, 5] (fun kv iv wr => ∃ (i : Nat) (z : Int), i ≤ n ∧ iv = .int .i64 i ∧ kv = .int .i64 z ∧ 0 ≤ z ∧ z ≤ 1 + 1048600 * (i : Int) ∧ Hid (Mk wr lo hi g n) ∧ Hid (Within lo hi w wr)) (fun _ iv _ => n - (intOf iv).toNat)
  case atStart => exact ⟨0, 1, Nat.zero_le _, rfl, rfl, by omega, by omega, HM, Within.refl _ _ _⟩
  case round =>
    obtain ⟨i, z, hin, rfl, rfl, hz0, hz1, hM, hW⟩ := hrel
    by_cases hlt : i < n
    · obtain ⟨t, tl, hct, r1, r2, r3, r4, r5⟩ := hM.out.txts i hlt
      obtain ⟨⟨y0, a0⟩, f0⟩ := hM.out.row.at (show i * 4 < n * 4 by omega)
      obtain ⟨⟨y1, a1⟩, f1⟩ := hM.out.row.at (show i * 4 + 1 < n * 4 by omega)
      have R5 : Hid (IsR wr t 5 tl) := r5
      have hg1 := hM.out.g1
      have hg2 := hM.out.g2
      have hzb : z ≤ 2000000000000 := by omega
      obtain ⟨ff, hff⟩ : IsR ((wr.setCell ⟨g, i * 4, none⟩ (.int .i64 z)).setCell ⟨g, i * 4 + 1, none⟩ (.int .i64 (z + 1))) t 5 tl := (r5.setCell _ _ _).setCell _ _ _
      have HFF : Hid (((wr.setCell ⟨g, i * 4, none⟩ (.int .i64 z)).setCell ⟨g, i * 4 + 1, none⟩ (.int .i64 (z + 1))).rowIs t 5 tl ff) := hff
      clear r5 hff R5
      go_wp2_with (go_at_call 9; refine (mark11 t tl tl tl ff (z + 1 + 1) _ HFF.out (Nat.le_refl _) (by omega) (by omega) (by omega)).mono ?_; rintro e w1 ⟨rfl, hr1, hw1⟩; have HM1 : Hid (Mk w1 lo hi g n) := ((hM.out.set (i * 4) (by omega) _).set (i * 4 + 1) (by omega) _).only r3 hw1 (fun _ => ⟨_, hr1⟩) ⟨_, HFF.out⟩; have HW1 : Hid (Within lo hi w w1) := ((hW.out.set hg1 hg2 _).set hg1 hg2 _).trans (hw1.wider r1 (by omega)); obtain ⟨⟨y3, a3⟩, f3⟩ := HM1.out.row.at (show i * 4 + 3 < n * 4 by omega); clear hr1 hw1)
      exact ⟨⟨i + 1, _, by omega, by go_num, rfl, by omega, by omega, HM1.out.set (i * 4 + 3) (by omega) _, HW1.out.set hg1 hg2 _⟩, by simp [intOf]; omega⟩
    · go_wp2
      go_ret
      exact ⟨z, rfl, hz0, hW.out⟩
end Go.Proofs.YtkkmoaidbmnolaaGreatDoor
