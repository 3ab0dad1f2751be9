import Derived.Test.YtnnpfoilojicjaaGreatDoorX5
namespace Go.Proofs.YtnnpfoilojicjaaGreatDoor
open Go.RowKit Ch1
theorem Hid.mkD {p : Prop} (h : p) : Hid p := h
structure Sr (b : Nat) (w w' : World) : Prop where
 size : w.heap.size ≤ w'.heap.size
 os : w'.os = w.os
 tape : w'.tape = w.tape
 output : w'.output = w.output
 block : ∀ k, k < w.heap.size → k ≠ b → w'.heap[k]? = w.heap[k]?
theorem Sr.trans {b : Nat} {u v w : World} (h : Sr b u v) (k : Sr b v w) : Sr b u w := ⟨Nat.le_trans h.size k.size, k.os.trans h.os, k.tape.trans h.tape, k.output.trans h.output, fun i h1 h2 => (k.block i (Nat.lt_of_lt_of_le h1 h.size) h2).trans (h.block i h1 h2)⟩
theorem Sr.set (b : Nat) (w : World) (j : Nat) (v : Value) : Sr b w (w.setCell ⟨b, j, none⟩ v) := ⟨by simp [World.setCell], rfl, rfl, rfl, fun k _ hk => Below.heap_setCell w ⟨b, j, none⟩ v k hk⟩
theorem Sr.of_below {b : Nat} {w w' : World} (h : Below w.heap.size w w') : Sr b w w' := ⟨h.size, h.os, h.tape, h.output, fun k hk _ => h.block k hk⟩
theorem Sr.below {b B : Nat} {w w' : World} (h : Sr b w w') (hB : B ≤ b) (hs : B ≤ w.heap.size) : Below B w w' := ⟨h.os, h.tape, h.output, h.size, fun k hk => h.block k (by omega) (by omega)⟩
def IsR (w : World) (b : Nat) (e : TypeId) (m : Nat) : Prop := ∃ f, w.rowIs b e m f
theorem IsR.setCell {w : World} {b m : Nat} {e : TypeId} (h : IsR w b e m) (g i : Nat) (v : Value) : IsR (w.setCell ⟨g, i, none⟩ v) b e m := by
 obtain ⟨f, hf⟩ := h
 by_cases hg : b = g
 ·subst hg; exact ⟨_, hf.set i v⟩
 ·exact ⟨f, hf.setOther hg v⟩
theorem IsR.of_block {w w' : World} {b m : Nat} {e : TypeId} (h : IsR w b e m) (hb : w'.heap[b]? = w.heap[b]?) : IsR w' b e m := by
 obtain ⟨f, hf⟩ := h
 exact ⟨f, hf.of_block hb⟩
theorem IsR.lt {w : World} {b m : Nat} {e : TypeId} (h : IsR w b e m) : b < w.heap.size := by obtain ⟨f, hf⟩ := h; exact hf.lt
theorem IsR.at {w : World} {b m : Nat} {e : TypeId} (h : IsR w b e m) {i : Nat} (hi : i < m) : (∃ v, w.cell? ⟨b, i, none⟩ = some v) ∧ w.frozen? ⟨b, i, none⟩ = false := by
 obtain ⟨f, hf⟩ := h
 exact ⟨⟨_, hf.cell hi⟩, hf.frozen i⟩
structure Within (lo hi : Nat) (w w' : World) : Prop where
 os : w'.os = w.os
 tape : w'.tape = w.tape
 output : w'.output = w.output
 size : w'.heap.size = w.heap.size
 block : ∀ k, k < lo ∨ hi ≤ k → w'.heap[k]? = w.heap[k]?
theorem Within.refl (lo hi : Nat) (w : World) : Within lo hi w w := ⟨rfl, rfl, rfl, rfl, fun _ _ => rfl⟩
theorem Within.trans {lo hi : Nat} {a b c : World} (h : Within lo hi a b) (k : Within lo hi b c) : Within lo hi a c :=
 ⟨k.os.trans h.os, k.tape.trans h.tape, k.output.trans h.output, k.size.trans h.size, fun i hi => (k.block i hi).trans (h.block i hi)⟩
theorem Within.wider {lo hi lo' hi' : Nat} {a b : World} (h : Within lo hi a b) (h1 : lo' ≤ lo) (h2 : hi ≤ hi') : Within lo' hi' a b :=
 ⟨h.os, h.tape, h.output, h.size, fun k hk => h.block k (by omega)⟩
theorem Within.set {lo hi : Nat} {a w : World} (h : Within lo hi a w) {p : Addr} (h1 : lo ≤ p.block) (h2 : p.block < hi) (v : Value) : Within lo hi a (w.setCell p v) :=
 h.trans ⟨rfl, rfl, rfl, by simp [World.setCell], fun k hk => Below.heap_setCell _ _ _ _ (by omega)⟩
theorem Within.below {lo hi : Nat} {a w : World} (h : Within lo hi a w) {B : Nat} (hB : B ≤ lo) : Below B a w :=
 ⟨h.os, h.tape, h.output, by rw [h.size]; exact Nat.le_refl _, fun k hk => h.block k (by omega)⟩
set_option maxHeartbeats 400000 in
theorem toByteR (p : Option Addr) (n c : Nat) (xs : List Int) (w : World) (h : By w p n c xs) (hn : n ≤ 1048576) :
  Calls Tryz.prog 28 #[.slice p n c] w fun e w' => e = .returned (.slice (some ⟨w.heap.size, 0, none⟩) n n) ∧ By w' (some ⟨w.heap.size, 0, none⟩) n n xs ∧ Below w.heap.size w w' ∧ IsR w' w.heap.size 5 n := by
 have HB : Hid (By w p n c xs) := h
 clear h
 have hmk := run_make_row' (P := Tryz.prog) 34 5 (.int .u8 0) 1 Tryz.underlying34 info5 rfl .i64 .i64 n (by omega) (by omega)
 go_enter Tryz.func28, Tryz.ntmps28
 go_wp2
 clear hmk
 go_loopw [4] (fun i wr => ∃ k : Nat, k ≤ n ∧ i = .int .i64 k ∧ Hid (wr.rowIs w.heap.size 5 n (fun j => .int .u8 (if j < k then xs.getD j 0 else 0))) ∧ Hid (Below w.heap.size w wr)) (fun i _ => n - (intOf i).toNat)
 case atStart =>
  refine ⟨0, Nat.zero_le _, rfl, ?_, ?_⟩
  ·exact (World.rowIs_made w (.int .u8 0) n 5).congr (fun j _ => by simp)
  ·exact (Below.refl _ _).alloc (Nat.le_refl _) _
 case round =>
  obtain ⟨k, hk, rfl, hr, hb⟩ := hrel
  by_cases hlt : k < n
  ·obtain ⟨b, o, rfl, g⟩ := HB.out.cells (by omega)
   have hold := HB.out.old _ rfl (by omega)
   have g1 := g k hlt
   clear g
   rw [← hb.out.cell (p := ⟨b, o + k, none⟩) hold] at g1
   have g2 := hr.out.cell hlt
   have g3 := hr.out.frozen k
   go_wp2
   refine ⟨⟨k + 1, by omega, by go_num, (hr.out.set k _).congr (fun j hj => ?_), hb.out.setCell (Nat.le_refl _) _⟩, by simp [intOf]; omega⟩
   by_cases e : j = k
   ·subst e; simp
   ·by_cases e2 : j < k
    ·simp [e, e2, show j < k + 1 by omega]
    ·simp [e, e2, show ¬ j < k + 1 by omega]
  ·have : k = n := by omega
   subst this
   go_wp2
   go_ret
   refine ⟨rfl, ⟨HB.out.len, Nat.le_refl _, by unfold maxLen; omega, HB.out.rng, fun hp => ⟨w.heap.size, 0, rfl, fun i hi => ?_⟩, fun a ha _ => ?_⟩, hb.out, ⟨_, hr.out⟩⟩
   ·have := hr.out.cell hi
    rw [if_pos hi] at this
    simpa using this
   ·cases ha; exact hr.out.lt
theorem IsR.below {w w' : World} {b m : Nat} {e : TypeId} (h : IsR w b e m) (hb : Below w.heap.size w w') : IsR w' b e m := h.of_block (hb.block b h.lt)
set_option maxHeartbeats 1000000 in
theorem toDatumR (k n c : Int) (tp : Option Addr) (tn tc : Nat) (xs : List Int) (w : World) (hB : By w tp tn tc xs) (hn : tn ≤ 1048576) :
  Calls Tryz.prog 17 #[.agg #[.int .i64 k, .int .i64 n, .slice tp tn tc, .int .i64 c]] w fun e w' => ∃ g, e = .returned (.agg #[.int .i64 k, .int .i64 n, .slice (some ⟨g, 0, none⟩) tn tn, .int .i64 c]) ∧ w.heap.size ≤ g ∧ By w' (some ⟨g, 0, none⟩) tn tn xs ∧ Below w.heap.size w w' ∧ IsR w' g 5 tn := by
 have HB : Hid (By w tp tn tc xs) := hB
 clear hB
 go_enter Tryz.func17, Tryz.ntmps17
 go_wp2_with (go_at_call 28; refine (toByteR _ _ _ xs _ (by exact HB.out.below (below3 w _ _ _)) hn).mono ?_; rintro e w1 ⟨rfl, hby, hb1, hir⟩; have hz := hb1.size; obtain ⟨hc1, hf1⟩ := bcell hb1)
 have hby' : By w1 (some ⟨w.heap.size + 1 + 1 + 1, 0, none⟩) tn tn xs := by simpa using hby
 have hir' : IsR w1 (w.heap.size + 1 + 1 + 1) 5 tn := by simpa using hir
 have hbb : Below w.heap.size w w1 := (below3 w _ _ _).trans (hb1.mono (by simp; omega))
 refine bodyPost_ret (v := .agg #[.int .i64 k, .int .i64 n, .slice (some ⟨w.heap.size + 1 + 1 + 1, 0, none⟩) tn tn, .int .i64 c]) (by simp [results, Tryz.results17, go_sem, hc1]) rfl ⟨_, rfl, by omega, ?_, ?_, ?_⟩
 ·exact (((((hby'.setCell (by simp) _).setCell (by simp) _).setCell (by simp; omega) _).setCell (by simp; omega) _).setCell (by simp; omega) _).setCell (by simp; omega) _
 ·exact (((((hbb.setCell (by simp; omega) _).setCell (by simp; omega) _).setCell (by simp) _).setCell (by simp) _).setCell (by simp) _).setCell (by simp) _
 ·exact (((((hir'.setCell _ _ _).setCell _ _ _).setCell _ _ _).setCell _ _ _).setCell _ _ _).setCell _ _ _
def RowR (w : World) (g : Nat) (ds : List Dt) (n k : Nat) : Prop := ∃ (f : Nat → Value) (t : Nat → Nat), w.rowIs g 47 (n * 4) f ∧ ∀ i, i < k →
 f (i * 4) = .int .i64 (ds.getD i dt0).kind ∧ f (i * 4 + 1) = .int .i64 (ds.getD i dt0).n ∧
 f (i * 4 + 2) = .slice (some ⟨t i, 0, none⟩) (ds.getD i dt0).text.length (ds.getD i dt0).text.length ∧
 f (i * 4 + 3) = .int .i64 (ds.getD i dt0).count ∧ g < t i ∧
 By w (some ⟨t i, 0, none⟩) (ds.getD i dt0).text.length (ds.getD i dt0).text.length (ds.getD i dt0).text ∧ IsR w (t i) 5 (ds.getD i dt0).text.length
theorem RowR.row {w : World} {g n k : Nat} {ds : List Dt} (h : RowR w g ds n k) : Row w g ds n k := by
 obtain ⟨f, t, hr, hc⟩ := h
 exact ⟨f, t, hr, fun i hi => by obtain ⟨h0, h1, h2, h3, h4, h5, _⟩ := hc i hi; exact ⟨h0, h1, h2, h3, h4, h5⟩⟩
theorem RowR.made {w w' : World} {g n : Nat} {xs : List Value} (ds : List Dt) (ho : w'.ownsRow g 47 4 (.slice (some ⟨w.heap.size, 0, none⟩) n n) n xs) : RowR w' w.heap.size ds n 0 := by
 obtain ⟨_, h | ⟨g', cap, cur, hv, _, hh, _, _, hsz, _⟩⟩ := ho
 ·cases h.1
 ·cases hv
  exact ⟨fun i => cur.getD i .nilIface, fun _ => 0, ⟨cur, hh, hsz, fun i hi => by simp [Array.getD, show i < cur.size by omega]⟩, fun i hi => absurd hi (Nat.not_lt_zero i)⟩
theorem RowR.below {w w' : World} {g n k : Nat} {ds : List Dt} (h : RowR w g ds n k) (hb : Below w.heap.size w w') : RowR w' g ds n k := by
 obtain ⟨f, t, hr, hc⟩ := h
 refine ⟨f, t, hr.of_block (hb.block g hr.lt), fun i hi => ?_⟩
 obtain ⟨h0, h1, h2, h3, h4, h5, h6⟩ := hc i hi
 exact ⟨h0, h1, h2, h3, h4, h5.below hb, h6.below hb⟩
theorem RowR.store {w : World} {g n k : Nat} {ds : List Dt} (h : RowR w g ds n k) (t : Nat) (ht : g < t) (hb : By w (some ⟨t, 0, none⟩) (ds.getD k dt0).text.length (ds.getD k dt0).text.length (ds.getD k dt0).text) (hi : IsR w t 5 (ds.getD k dt0).text.length) :
  RowR ((((w.setCell ⟨g, k * 4, none⟩ (.int .i64 (ds.getD k dt0).kind)).setCell ⟨g, k * 4 + 1, none⟩ (.int .i64 (ds.getD k dt0).n)).setCell ⟨g, k * 4 + 2, none⟩ (.slice (some ⟨t, 0, none⟩) (ds.getD k dt0).text.length (ds.getD k dt0).text.length)).setCell ⟨g, k * 4 + 3, none⟩ (.int .i64 (ds.getD k dt0).count)) g ds n (k + 1) := by
 obtain ⟨f, t', hr, hc⟩ := h
 refine ⟨_, fun i => if i = k then t else t' i, (((hr.set (k * 4) _).set (k * 4 + 1) _).set (k * 4 + 2) _).set (k * 4 + 3) _, fun i hik => ?_⟩
 by_cases e : i = k
 ·subst e
  refine ⟨by simp, by simp, by simp, by simp, by simpa using ht, ?_, ?_⟩
  ·simp only [if_true]
   exact (((hb.setCell (by simp; omega) _).setCell (by simp; omega) _).setCell (by simp; omega) _).setCell (by simp; omega) _
  ·simp only [if_true]
   exact (((hi.setCell _ _ _).setCell _ _ _).setCell _ _ _).setCell _ _ _
 ·obtain ⟨h0, h1, h2, h3, h4, h5, h6⟩ := hc i (by omega)
  have q : ∀ a b, a < 4 → b < 4 → ¬ (i * 4 + a = k * 4 + b) := fun a b ha hb => by omega
  refine ⟨?_, ?_, ?_, ?_, by simp [e, h4], ?_, ?_⟩
  ·rw [if_neg (by have := q 0 3 (by omega) (by omega); omega), if_neg (by have := q 0 2 (by omega) (by omega); omega), if_neg (by have := q 0 1 (by omega) (by omega); omega), if_neg (by have := q 0 0 (by omega) (by omega); omega)]; exact h0
  ·rw [if_neg (q 1 3 (by omega) (by omega)), if_neg (q 1 2 (by omega) (by omega)), if_neg (q 1 1 (by omega) (by omega)), if_neg (by have := q 1 0 (by omega) (by omega); omega)]; exact h1
  ·rw [if_neg (q 2 3 (by omega) (by omega)), if_neg (q 2 2 (by omega) (by omega)), if_neg (q 2 1 (by omega) (by omega)), if_neg (by have := q 2 0 (by omega) (by omega); omega)]; simp only [if_neg e]; exact h2
  ·rw [if_neg (q 3 3 (by omega) (by omega)), if_neg (q 3 2 (by omega) (by omega)), if_neg (q 3 1 (by omega) (by omega)), if_neg (by have := q 3 0 (by omega) (by omega); omega)]; exact h3
  ·simp only [if_neg e]
   exact (((h5.setCell (by simp; omega) _).setCell (by simp; omega) _).setCell (by simp; omega) _).setCell (by simp; omega) _
  ·simp only [if_neg e]
   exact (((h6.setCell _ _ _).setCell _ _ _).setCell _ _ _).setCell _ _ _
set_option maxHeartbeats 1000000 in
theorem toDatumSR (p : Option Addr) (n c : Nat) (ds : List Dt) (w : World) (hD : Da w p n c ds) (hn : n ≤ 1048576) (ht : ∀ i, i < n → ((ds.getD i dt0).text.length : Int) ≤ 1048576) :
  Calls Tryz.prog 6 #[.slice p n c] w fun e w' => e = .returned (.slice (some ⟨w.heap.size, 0, none⟩) n n) ∧ RowR w' w.heap.size ds n n ∧ Da w' (some ⟨w.heap.size, 0, none⟩) n n ds ∧ Below w.heap.size w w' := by
 have HD : Hid (Da w p n c ds) := hD
 have HT : Hid (∀ i, i < n → ((ds.getD i dt0).text.length : Int) ≤ 1048576) := ht
 clear hD ht
 obtain ⟨i47, hi47, hpr⟩ := Option.map_eq_some_iff.1 info47
 simp only [Prod.mk.injEq] at hpr
 obtain ⟨hz47, hs47, hb47⟩ := hpr
 have HI : Hid (Tryz.prog.info? 47 = some i47 ∧ i47.zero = some (.agg #[.int .i64 0, .int .i64 0, .slice none 0 0, .int .i64 0]) ∧ i47.size = 4 ∧ i47.bytes = 48) := ⟨hi47, hz47, hs47, hb47⟩
 clear hi47 hz47 hs47 hb47
 go_enter Tryz.func6, Tryz.ntmps6
 go_wp2_with (at_make; refine wpList_make_full _ rfl (.tmp 6) (.tmp 6) 26 rfl w.heap.size 47 i47 _ 4 Tryz.underlying26 HI.out.1 HI.out.2.1 HI.out.2.2.1 .i64 .i64 n n n (by simp [Act.eval]) (by simp [Act.eval]) rfl rfl (by rw [HI.out.2.2.2]; omega) (by unfold maxLen; omega) (Nat.le_refl _) ?_)
 intro w0 ho hg
 have HR : Hid (RowR w0 w.heap.size ds n 0) := RowR.made ds ho
 have HBL : Hid (Below w.heap.size w w0) := (Below.refl _ w).grown hg (Nat.le_refl _) (fun k h => by cases h)
 clear ho hg
 go_wp2
 go_loopw [4] (fun i wr => ∃ k : Nat, k ≤ n ∧ i = .int .i64 k ∧ Hid (RowR wr w.heap.size ds n k) ∧ Hid (Below w.heap.size w wr)) (fun i _ => n - (intOf i).toNat)
 case atStart => exact ⟨0, Nat.zero_le _, rfl, HR, HBL⟩
 case round =>
  clear HR HBL w0
  obtain ⟨k, hk, rfl, hr, hb⟩ := hrel
  by_cases hlt : k < n
  ·obtain ⟨b, o, rfl, hbl, g⟩ := HD.out.cells (by omega)
   obtain ⟨tp, tn, tc, he⟩ := g k hlt
   clear g
   have htl : Hid ((ds.getD k dt0).text.length = tn) := he.by_.len
   have htn : tn ≤ 1048576 := by have := HT.out k hlt; rw [htl.out] at this; omega
   have he' := he.below (w' := wr) hbl hb.out
   have HY : Hid (By wr tp tn tc (ds.getD k dt0).text) := he'.by_
   have e0 := he'.c0
   have e1 := he'.c1
   have e2 := he'.c2
   have e3 := he'.c3
   clear he he'
   have hgl := hr.out.row.lt
   have HST : Hid (∀ (w1 : World) (t : Nat), Below wr.heap.size wr w1 → wr.heap.size ≤ t → By w1 (some ⟨t, 0, none⟩) tn tn (ds.getD k dt0).text → IsR w1 t 5 tn →
    RowR ((((w1.setCell ⟨w.heap.size, k * 4, none⟩ (.int .i64 (ds.getD k dt0).kind)).setCell ⟨w.heap.size, k * 4 + 1, none⟩ (.int .i64 (ds.getD k dt0).n)).setCell ⟨w.heap.size, k * 4 + 2, none⟩ (.slice (some ⟨t, 0, none⟩) tn tn)).setCell ⟨w.heap.size, k * 4 + 3, none⟩ (.int .i64 (ds.getD k dt0).count)) w.heap.size ds n (k + 1)) := by
    intro w1 t h1 h2 h3 h4
    rw [← htl.out] at h3 h4 ⊢
    exact (hr.out.below h1).store t (by omega) h3 h4
   generalize ds.getD k dt0 = d at e0 e1 e2 e3 HY HST
   go_wp2_with (go_at_call 17; refine (toDatumR _ _ _ tp tn tc d.text _ HY.out htn).mono ?_; rintro e w1 ⟨t, rfl, ht1, hby, hb1, hir⟩; have hz := hb1.size; obtain ⟨v0, cc0, ff0⟩ := (hr.out.row.below hb1).cells (k * 4) (by omega); obtain ⟨v1, cc1, ff1⟩ := (hr.out.row.below hb1).cells (k * 4 + 1) (by omega); obtain ⟨v2, cc2, ff2⟩ := (hr.out.row.below hb1).cells (k * 4 + 2) (by omega); obtain ⟨v3, cc3, ff3⟩ := (hr.out.row.below hb1).cells (k * 4 + 3) (by omega))
   exact ⟨⟨k + 1, by omega, by go_num, HST.out w1 t hb1 ht1 hby hir, ((((hb.out.trans (hb1.mono hb.out.size)).setCell (Nat.le_refl _) _).setCell (Nat.le_refl _) _).setCell (Nat.le_refl _) _).setCell (Nat.le_refl _) _⟩, by simp [intOf]; omega⟩
  ·have : k = n := by omega
   subst this
   go_wp2
   go_ret
   refine ⟨rfl, hr.out, hr.out.row.da HD.out.len (by unfold maxLen; omega) (fun i hi => ?_), hb.out⟩
   obtain ⟨b, o, _, _, g⟩ := HD.out.cells (by omega)
   obtain ⟨tp, tn, tc, he⟩ := g i hi
   exact ⟨he.lo, he.hi⟩
def mk (x : Int) : Int := x % 256
set_option maxHeartbeats 1000000 in
theorem mark11 (t n m c : Nat) (f : Nat → Value) (k : Int) (w : World) (hr : w.rowIs t 5 m f) (hnm : n ≤ m) (hn : n ≤ 1000000000) (h0 : 0 ≤ k) (h1 : k ≤ 4000000000000000000) :
  Calls Tryz.prog 23 #[.slice (some ⟨t, 0, none⟩) n c, .int .i64 k] w fun e w' => e = .returned (.int .i64 (k + n)) ∧ w'.rowIs t 5 m (fun j => if j < n then .int .u8 (mk (k + j)) else f j) ∧ Within t (t + 1) w w' := by
 have HR : Hid (w.rowIs t 5 m f) := hr
 clear hr
 go_enter Tryz.func23, Tryz.ntmps23
 go_wp2
 go_loopw [1, 5] (fun kv i wr => ∃ (j : Nat) (z : Int), j ≤ n ∧ i = .int .i64 j ∧ kv = .int .i64 z ∧ Hid (z = k + j) ∧ Hid (wr.rowIs t 5 m (fun x => if x < j then .int .u8 (mk (k + x)) else f x)) ∧ Hid (Within t (t + 1) w wr)) (fun _ i _ => n - (intOf i).toNat)
 case atStart => exact ⟨0, k, Nat.zero_le _, rfl, rfl, by unfold Hid; simp, HR.out.congr (fun j _ => by simp), Within.refl _ _ _⟩
 case round =>
  obtain ⟨j, z, hj, rfl, rfl, hz, hR, hW⟩ := hrel
  have hz0 : 0 ≤ z := by rw [hz.out]; omega
  have hz1 : z ≤ 4100000000000000000 := by rw [hz.out]; omega
  by_cases hlt : j < n
  ·have g2 := hR.out.cell (show j < m by omega)
   have g3 := hR.out.frozen j
   obtain ⟨y, hy⟩ : ∃ y, (if j < j then Value.int .u8 (mk (k + j)) else f j) = y := ⟨_, rfl⟩
   simp only [hy] at g2
   clear hy
   go_wp2
   refine ⟨⟨j + 1, z + 1, by omega, by go_num, rfl, by unfold Hid; rw [hz.out]; omega, (hR.out.set j _).congr (fun x hx => ?_), hW.out.set (Nat.le_refl _) (Nat.lt_succ_self _) _⟩, by simp [intOf]; omega⟩
   by_cases e : x = j
   ·subst e
    rw [if_pos rfl, if_pos (Nat.lt_succ_self _), hz.out]; rfl
   ·by_cases e2 : x < j
    ·rw [if_neg e, if_pos e2, if_pos (by omega)]
    ·rw [if_neg e, if_neg e2, if_neg (by omega)]
  ·obtain rfl : j = n := by omega
   go_wp2
   go_ret
   exact ⟨ret_int hz.out, hR.out, hW.out⟩
set_option maxHeartbeats 1000000 in
theorem held12 (t n c : Nat) (k : Int) (w : World) (hc : ∀ j, j < n → w.cell? ⟨t, j, none⟩ = some (.int .u8 (mk (k + j)))) (hn : n ≤ 1000000000) (h0 : 0 ≤ k) (h1 : k ≤ 4000000000000000000) :
  Calls Tryz.prog 24 #[.slice (some ⟨t, 0, none⟩) n c, .int .i64 k] w fun e w' => e = .returned (.int .i64 (k + n)) ∧ w' = w := by
 have HC : Hid (∀ j, j < n → w.cell? ⟨t, j, none⟩ = some (.int .u8 (mk (k + j)))) := hc
 clear hc
 go_enter Tryz.func24, Tryz.ntmps24
 go_wp2
 go_loop [1, 5] (fun kv i => ∃ (j : Nat) (z : Int), j ≤ n ∧ i = .int .i64 j ∧ kv = .int .i64 z ∧ Hid (z = k + j)) (fun _ i => n - (intOf i).toNat)
 case atStart => exact ⟨0, k, Nat.zero_le _, rfl, rfl, by unfold Hid; simp⟩
 case round =>
  obtain ⟨j, z, hj, rfl, rfl, hz⟩ := hrel
  have hz0 : 0 ≤ z := by rw [hz.out]; omega
  have hz1 : z ≤ 4100000000000000000 := by rw [hz.out]; omega
  by_cases hlt : j < n
  ·have g2 := HC.out j hlt
   rw [← hz.out, mk] at g2
   go_wp2
   exact ⟨⟨j + 1, z + 1, by omega, by go_num, rfl, by unfold Hid; rw [hz.out]; omega⟩, by simp [intOf]; omega⟩
  ·obtain rfl : j = n := by omega
   go_wp2
   go_ret
   exact ⟨ret_int hz.out, rfl⟩
structure Mk (w : World) (lo hi g n : Nat) : Prop where
 g1 : lo ≤ g
 g2 : g < hi
 row : IsR w g 47 (n * 4)
 txts : ∀ i, i < n → ∃ t tl, w.cell? ⟨g, i * 4 + 2, none⟩ = some (.slice (some ⟨t, 0, none⟩) tl tl) ∧ lo ≤ t ∧ t < hi ∧ t ≠ g ∧ tl ≤ 1048576 ∧ IsR w t 5 tl
theorem cell_set_other (w : World) (g i j : Nat) (v : Value) (h : i ≠ j) : (w.setCell ⟨g, j, none⟩ v).cell? ⟨g, i, none⟩ = w.cell? ⟨g, i, none⟩ := by
 rw [World.cell?_setCell_other]
 intro e
 cases e
 exact h rfl
theorem Mk.set {w : World} {lo hi g n : Nat} (h : Mk w lo hi g n) (j : Nat) (hj : j % 4 ≠ 2) (v : Value) : Mk (w.setCell ⟨g, j, none⟩ v) lo hi g n := by
 refine ⟨h.g1, h.g2, h.row.setCell _ _ _, fun i hi => ?_⟩
 obtain ⟨t, tl, hc, r1, r2, r3, r4, r5⟩ := h.txts i hi
 exact ⟨t, tl, by rw [cell_set_other _ _ _ _ _ (by omega)]; exact hc, r1, r2, r3, r4, r5.setCell _ _ _⟩
theorem Mk.only {w w' : World} {lo hi g n t tl : Nat} (h : Mk w lo hi g n) (ht : t ≠ g) (hw : Within t (t + 1) w w') (hr : IsR w t 5 tl → IsR w' t 5 tl) (hk : IsR w t 5 tl) : Mk w' lo hi g n := by
 have key : ∀ b e m, IsR w b e m → IsR w' b e m := by
  intro b e m hb
  by_cases e1 : b = t
  ·subst e1
   obtain ⟨f, c, h1, h2, h3⟩ := hb
   obtain ⟨f', c', h1', h2', h3'⟩ := hk
   rw [h1] at h1'
   cases h1'
   obtain rfl : m = tl := by omega
   exact hr ⟨f', c, h1, h2, h3'⟩
  ·exact hb.of_block (hw.block b (by omega))
 refine ⟨h.g1, h.g2, key _ _ _ h.row, fun i hi => ?_⟩
 obtain ⟨t', tl', hc, r1, r2, r3, r4, r5⟩ := h.txts i hi
 exact ⟨t', tl', by rw [World.cell?_of_block (w := w) (hw.block g (by omega))]; exact hc, r1, r2, r3, r4, key _ _ _ r5⟩
theorem RowR.mk {w : World} {g n : Nat} {ds : List Dt} (h : RowR w g ds n n) (ht : ∀ i, i < n → ((ds.getD i dt0).text.length : Int) ≤ 1048576) : Mk w g w.heap.size g n := by
 obtain ⟨f, t, hr, hc⟩ := h
 refine ⟨Nat.le_refl _, hr.lt, ⟨f, hr⟩, fun i hi => ?_⟩
 obtain ⟨h0, h1, h2, h3, h4, h5, h6⟩ := hc i hi
 have := ht i hi
 exact ⟨t i, _, by rw [hr.cell (by omega), h2], by omega, h6.lt, by omega, by omega, h6⟩
set_option maxHeartbeats 2000000 in
theorem mark10 (g n c lo hi : Nat) (w : World) (hM : Mk w lo hi g n) (hn : n ≤ 1048576) :
  Calls Tryz.prog 10 #[.slice (some ⟨g, 0, none⟩) n c, .int .i64 1] w fun e w' => ∃ z : Int, e = .returned (.int .i64 z) ∧ 0 ≤ z ∧ Within lo hi w w' := by
 have HM : Hid (Mk w lo hi g n) := hM
 clear hM
 go_enter Tryz.func10, Tryz.ntmps10
 go_wp2
 go_loopw [1, 5] (fun kv iv wr => ∃ (i : Nat) (z : Int), i ≤ n ∧ iv = .int .i64 i ∧ kv = .int .i64 z ∧ 0 ≤ z ∧ z ≤ 1 + 1048600 * (i : Int) ∧ Hid (Mk wr lo hi g n) ∧ Hid (Within lo hi w wr)) (fun _ iv _ => n - (intOf iv).toNat)
 case atStart => exact ⟨0, 1, Nat.zero_le _, rfl, rfl, by omega, by omega, HM, Within.refl _ _ _⟩
 case round =>
  obtain ⟨i, z, hin, rfl, rfl, hz0, hz1, hM, hW⟩ := hrel
  by_cases hlt : i < n
  ·obtain ⟨t, tl, hct, r1, r2, r3, r4, r5⟩ := hM.out.txts i hlt
   obtain ⟨⟨y0, a0⟩, f0⟩ := hM.out.row.at (show i * 4 < n * 4 by omega)
   obtain ⟨⟨y1, a1⟩, f1⟩ := hM.out.row.at (show i * 4 + 1 < n * 4 by omega)
   have R5 : Hid (IsR wr t 5 tl) := r5
   have hg1 := hM.out.g1
   have hg2 := hM.out.g2
   have hzb : z ≤ 2000000000000 := by omega
   obtain ⟨ff, hff⟩ : IsR ((wr.setCell ⟨g, i * 4, none⟩ (.int .i64 z)).setCell ⟨g, i * 4 + 1, none⟩ (.int .i64 (z + 1))) t 5 tl := (r5.setCell _ _ _).setCell _ _ _
   have HFF : Hid (((wr.setCell ⟨g, i * 4, none⟩ (.int .i64 z)).setCell ⟨g, i * 4 + 1, none⟩ (.int .i64 (z + 1))).rowIs t 5 tl ff) := hff
   clear r5 hff R5
   go_wp2_with (go_at_call 23; refine (mark11 t tl tl tl ff (z + 1 + 1) _ HFF.out (Nat.le_refl _) (by omega) (by omega) (by omega)).mono ?_; rintro e w1 ⟨rfl, hr1, hw1⟩; have HM1 : Hid (Mk w1 lo hi g n) := ((hM.out.set (i * 4) (by omega) _).set (i * 4 + 1) (by omega) _).only r3 hw1 (fun _ => ⟨_, hr1⟩) ⟨_, HFF.out⟩; have HW1 : Hid (Within lo hi w w1) := ((hW.out.set hg1 hg2 _).set hg1 hg2 _).trans (hw1.wider r1 (by omega)); obtain ⟨⟨y3, a3⟩, f3⟩ := HM1.out.row.at (show i * 4 + 3 < n * 4 by omega); clear hr1 hw1)
   exact ⟨⟨i + 1, _, by omega, by go_num, rfl, by omega, by omega, HM1.out.set (i * 4 + 3) (by omega) _, HW1.out.set hg1 hg2 _⟩, by simp [intOf]; omega⟩
  ·go_wp2
   go_ret
   exact ⟨z, rfl, hz0, hW.out⟩
end Go.Proofs.YtnnpfoilojicjaaGreatDoor
