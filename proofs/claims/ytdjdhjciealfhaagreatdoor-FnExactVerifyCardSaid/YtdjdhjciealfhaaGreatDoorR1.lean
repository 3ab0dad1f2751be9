import Derived.Test.YtdjdhjciealfhaaGreatDoorM8
import Derived.Lib.SlBytesConst
import Derived.Test.YtdjdhjciealfhaaGreatDoorM5
namespace Go.Proofs.YtdjdhjciealfhaaGreatDoor
open Go.RowKit Ch1
/-! ### all bytes are bytes -/
def Rg (xs : List Int) : Prop := ∀ x ∈ xs, 0 ≤ x ∧ x < 256
theorem rng_of {xs : List Int} (h : Rg xs) (i : Nat) : 0 ≤ xs.getD i 0 ∧ xs.getD i 0 < 256 := by
  by_cases hi : i < xs.length
  · exact h _ (by simp [List.getD, List.getElem?_eq_getElem hi])
  · simp [List.getD, List.getElem?_eq_none (Nat.le_of_not_lt hi)]
theorem rg_of {xs : List Int} (h : ∀ i, 0 ≤ xs.getD i 0 ∧ xs.getD i 0 < 256) : Rg xs := by
  intro x hx
  obtain ⟨i, hi, e⟩ := List.getElem_of_mem hx
  have := h i
  simpa [List.getD, List.getElem?_eq_getElem hi, e] using this
theorem Rg.app {xs ys : List Int} (h : Rg xs) (k : Rg ys) : Rg (xs ++ ys) := by
  intro x hx
  rcases List.mem_append.1 hx with hx | hx
  · exact h x hx
  · exact k x hx
def RgD (l : List Dt) : Prop := ∀ d ∈ l, Rg d.text
theorem RgD.drop {l : List Dt} (h : RgD l) (i : Nat) : RgD (l.drop i) := fun d hd => h d (List.mem_of_mem_drop hd)
theorem rg_nums (l : List UInt8) : Rg (nums l) := rg_of (nums_rng l)
theorem rg_bool (n : Int) : Rg (boolT n) := by unfold boolT; split <;> (intro x hx; simp at hx; omega)
theorem elems_rg {f : List Dt → Option (List Dt)} {g : List Dt → List Int} (hf : Eats f) (hg : ∀ l, RgD l → Rg (g l)) (r : List Dt) (hr : RgD r) : ∀ c, Rg (elems f g c r) := by
  intro c
  induction c with
  | zero => intro x hx; cases hx
  | succ c ih =>
    refine Rg.app ih (Rg.app ?_ (hg _ ?_))
    · split
      · intro x hx; cases hx
      · intro x hx; simp at hx; omega
    · cases e : skipN f c r with
      | none => intro d hd; cases hd
      | some q =>
        obtain ⟨j, _, _, rfl⟩ := skipN_eats hf _ _ _ e
        exact hr.drop j
theorem txt_rg : ∀ (k : Nat) (l : List Dt), RgD l → Rg (txt k l) := by
  intro k
  induction k with
  | zero =>
    intro l h
    cases l with
    | nil => intro x hx; cases hx
    | cons d r =>
      simp only [txt]
      split
      · exact rg_nums _
      · split
        · exact rg_bool _
        · exact h d (by simp)
  | succ k ih =>
    intro l h
    cases l with
    | nil => intro x hx; cases hx
    | cons d r =>
      simp only [txt]
      split
      · exact rg_nums _
      · split
        · exact rg_bool _
        · split
          · exact h d (by simp)
          · have := elems_rg (skip_eats k) ih r (fun e he => h e (by simp [he])) d.count.toNat
            refine Rg.app (xs := [40]) ?_ (Rg.app this ?_)
            · intro x hx; simp at hx; omega
            · intro x hx; simp at hx; omega
theorem Da.rg {w : World} {p : Option Addr} {n c : Nat} {ds : List Dt} (h : Da w p n c ds) : RgD ds := by
  intro d hd
  obtain ⟨i, hi, rfl⟩ := List.getElem_of_mem hd
  obtain ⟨b, o, _, _, g⟩ := h.cells (by rw [← h.len]; omega)
  obtain ⟨tp, tn, tc, he⟩ := g i (by rw [← h.len]; exact hi)
  have := rg_of he.by_.rng
  simpa [List.getD, List.getElem?_eq_getElem hi] using this
/-! ### the places of a list's elements, readable -/
def Kd (w : World) (kv : Value) (ks : List Nat) : Prop := ∃ p c, kv = .slice p ks.length c ∧ (0 < ks.length → ∃ g cur, p = some ⟨g, 0, none⟩ ∧ w.heap[g]? = some (.cells cur 3) ∧ ks.length ≤ c ∧ ∀ j, j < ks.length → cur[j]? = some (.int .i64 ((ks.getD j 0 : Nat) : Int)))
theorem OwI.kd {w : World} {B : Nat} {v : Value} {ks : List Nat} (h : OwI w B v ks) : Kd w v ks := by
  obtain ⟨_, ⟨rfl, h0⟩ | ⟨g, cap, cur, rfl, hg, hh, h1, h2, h3, h4⟩⟩ := h
  · exact ⟨none, 0, by rw [h0], fun h => by omega⟩
  · refine ⟨some ⟨g, 0, none⟩, cap, rfl, fun _ => ⟨g, cur, rfl, hh, h1, fun i hi => ?_⟩⟩
    have e : (List.take (ks.length * 1) cur.toList)[i]? = (ks.map fun k : Nat => Value.int .i64 (k : Int))[i]? := by rw [h4]
    rw [List.getElem?_take, if_pos (by omega)] at e
    have : cur.toList[i]? = some (.int .i64 ((ks.getD i 0 : Nat) : Int)) := by rw [e]; simp [List.getD, List.getElem?_eq_getElem hi]
    simpa using this
theorem Kd.below {w w' : World} {kv : Value} {ks : List Nat} (h : Kd w kv ks) (hb : Below w.heap.size w w') : Kd w' kv ks := by
  obtain ⟨p, c, e, hc⟩ := h
  refine ⟨p, c, e, fun hn => ?_⟩
  obtain ⟨g, cur, e1, hh, r⟩ := hc hn
  exact ⟨g, cur, e1, by rw [hb.block g (Array.getElem?_eq_some_iff.1 hh).1]; exact hh, r⟩
theorem Kd.grown {w w' : World} {B : Nat} {v kv : Value} {xs : List Int} {ks : List Nat} (h : Kd w kv ks) (ho : Ow w B v xs) (hg : w.grownBy w' v.ownBlock) : Kd w' kv ks := by
  obtain ⟨p, c, e, hc⟩ := h
  refine ⟨p, c, e, fun hn => ?_⟩
  obtain ⟨g, cur, e1, hh, r⟩ := hc hn
  refine ⟨g, cur, e1, ?_, r⟩
  rw [hg.block g (Array.getElem?_eq_some_iff.1 hh).1 ?_]; exact hh
  obtain ⟨_, ⟨rfl, _⟩ | ⟨g', cap, cur', rfl, _, hh', _⟩⟩ := ho
  · intro e; cases e
  · intro e; cases e
    rw [hh] at hh'; cases hh'
theorem Kd.cell {w : World} {kv : Value} {ks : List Nat} (h : Kd w kv ks) (hn : 0 < ks.length) : ∃ g c, kv = .slice (some ⟨g, 0, none⟩) ks.length c ∧ ks.length ≤ c ∧ ∀ j, j < ks.length → w.cell? ⟨g, j, none⟩ = some (.int .i64 ((ks.getD j 0 : Nat) : Int)) := by
  obtain ⟨p, c, e, hc⟩ := h
  obtain ⟨g, cur, rfl, hh, hl, r⟩ := hc hn
  exact ⟨g, c, e, hl, fun j hj => by simp [World.cell?, hh, r j hj]⟩
theorem By.lit2 (w : World) (x y : Int) (hx : 0 ≤ x ∧ x < 256) (hy : 0 ≤ y ∧ y < 256) : By (w.alloc (.cells #[.int .u8 x, .int .u8 y] 5 (2, 3))) (some ⟨w.heap.size, 0, none⟩) 2 2 [x, y] := by
  refine ⟨rfl, Nat.le_refl _, by unfold maxLen; omega, rng_of ?_, fun _ => ⟨w.heap.size, 0, rfl, fun i hi => ?_⟩, fun a ha _ => by cases ha; simp⟩
  · intro z hz; simp at hz; rcases hz with rfl | rfl
    · exact hx
    · exact hy
  · rw [World.cell?_alloc_mark]
    match i, hi with
    | 0, _ => rfl
    | 1, _ => rfl
theorem Txt.up {w W w' : World} {e : Ending} {xs : List Int} (h : Txt W w' e xs) (hb : Below w.heap.size w W) : Txt w w' e xs := by
  obtain ⟨b, o, c, h1, h2, h3⟩ := h
  exact ⟨b, o, c, h1, h2, hb.trans (h3.mono hb.size)⟩
end Go.Proofs.YtdjdhjciealfhaaGreatDoor
namespace Go.Proofs.YtdjdhjciealfhaaGreatDoor
open Go.RowKit Ch1
/-! ### rows that may be written -/
def IsR (w : World) (b : Nat) (e : TypeId) (m : Nat) : Prop := ∃ f, w.rowIs b e m f
theorem IsR.setCell {w : World} {b m : Nat} {e : TypeId} (h : IsR w b e m) (g i : Nat) (v : Value) : IsR (w.setCell ⟨g, i, none⟩ v) b e m := by
  obtain ⟨f, hf⟩ := h
  by_cases hg : b = g
  · subst hg; exact ⟨_, hf.set i v⟩
  · exact ⟨f, hf.setOther hg v⟩
theorem IsR.of_block {w w' : World} {b m : Nat} {e : TypeId} (h : IsR w b e m) (hb : w'.heap[b]? = w.heap[b]?) : IsR w' b e m := by
  obtain ⟨f, hf⟩ := h
  exact ⟨f, hf.of_block hb⟩
theorem IsR.lt {w : World} {b m : Nat} {e : TypeId} (h : IsR w b e m) : b < w.heap.size := by obtain ⟨f, hf⟩ := h; exact hf.lt
theorem IsR.at {w : World} {b m : Nat} {e : TypeId} (h : IsR w b e m) {i : Nat} (hi : i < m) : (∃ v, w.cell? ⟨b, i, none⟩ = some v) ∧ w.frozen? ⟨b, i, none⟩ = false := by
  obtain ⟨f, hf⟩ := h
  exact ⟨⟨_, hf.cell hi⟩, hf.frozen i⟩
/-- Only blocks from lo to ahead of hi have turned. -/
structure Within (lo hi : Nat) (w w' : World) : Prop where
  os : w'.os = w.os
  tape : w'.tape = w.tape
  output : w'.output = w.output
  size : w'.heap.size = w.heap.size
  block : ∀ k, k < lo ∨ hi ≤ k → w'.heap[k]? = w.heap[k]?
theorem Within.refl (lo hi : Nat) (w : World) : Within lo hi w w := ⟨rfl, rfl, rfl, rfl, fun _ _ => rfl⟩
theorem Within.trans {lo hi : Nat} {a b c : World} (h : Within lo hi a b) (k : Within lo hi b c) : Within lo hi a c :=
  ⟨k.os.trans h.os, k.tape.trans h.tape, k.output.trans h.output, k.size.trans h.size, fun i hi => (k.block i hi).trans (h.block i hi)⟩
theorem Within.wider {lo hi lo' hi' : Nat} {a b : World} (h : Within lo hi a b) (h1 : lo' ≤ lo) (h2 : hi ≤ hi') : Within lo' hi' a b :=
  ⟨h.os, h.tape, h.output, h.size, fun k hk => h.block k (by omega)⟩
theorem Within.set {lo hi : Nat} {a w : World} (h : Within lo hi a w) {p : Addr} (h1 : lo ≤ p.block) (h2 : p.block < hi) (v : Value) : Within lo hi a (w.setCell p v) :=
  h.trans ⟨rfl, rfl, rfl, by simp [World.setCell], fun k hk => Below.heap_setCell _ _ _ _ (by omega)⟩
theorem Within.below {lo hi : Nat} {a w : World} (h : Within lo hi a w) {B : Nat} (hB : B ≤ lo) : Below B a w :=
  ⟨h.os, h.tape, h.output, by rw [h.size]; exact Nat.le_refl _, fun k hk => h.block k (by omega)⟩
theorem By.within {lo hi : Nat} {w w' : World} {p : Option Addr} {n c : Nat} {xs : List Int} (h : By w p n c xs) (hw : Within lo hi w w') (hp : ∀ a, p = some a → 0 < n → a.block < lo ∨ hi ≤ a.block) : By w' p n c xs := by
  refine ⟨h.len, h.cap, h.big, h.rng, fun hn => ?_, fun a ha hn => by rw [hw.size]; exact h.old a ha hn⟩
  obtain ⟨b, o, e, hc⟩ := h.cells hn
  have ho := hp _ e hn
  exact ⟨b, o, e, fun i hi => by rw [World.cell?_of_block (w := w) (hw.block b ho)]; exact hc i hi⟩
/-! ### toByteS, toDatum, toDatumS with what may be written -/
set_option maxHeartbeats 400000 in
theorem toByteR (p : Option Addr) (n c : Nat) (xs : List Int) (w : World) (h : By w p n c xs) (hn : n ≤ 1048576) :
    Calls Tryz.prog 86 #[.slice p n c] w fun e w' => e = .returned (.slice (some ⟨w.heap.size, 0, none⟩) n n) ∧ By w' (some ⟨w.heap.size, 0, none⟩) n n xs ∧ Below w.heap.size w w' ∧ IsR w' w.heap.size 5 n := by
  have HB : Hid (By w p n c xs) := h
  clear h
  have hmk := run_make_row' (P := Tryz.prog) 108 5 (.int .u8 0) 1 Tryz.underlying108 info5 rfl .i64 .i64 n (by omega) (by omega)
  go_enter Tryz.func86, Tryz.ntmps86
  go_wp2
  clear hmk
  go_loopw [4] (fun i wr => ∃ k : Nat, k ≤ n ∧ i = .int .i64 k ∧ Hid (wr.rowIs w.heap.size 5 n (fun j => .int .u8 (if j < k then xs.getD j 0 else 0))) ∧ Hid (Below w.heap.size w wr)) (fun i _ => n - (intOf i).toNat)
  case atStart =>
    refine ⟨0, Nat.zero_le _, rfl, ?_, ?_⟩
    · exact (World.rowIs_made w (.int .u8 0) n 5).congr (fun j _ => by simp)
    · exact (Below.refl _ _).alloc (Nat.le_refl _) _
  case round =>
    obtain ⟨k, hk, rfl, hr, hb⟩ := hrel
    by_cases hlt : k < n
    · obtain ⟨b, o, rfl, g⟩ := HB.out.cells (by omega)
      have hold := HB.out.old _ rfl (by omega)
      have g1 := g k hlt
      clear g
      rw [← hb.out.cell (p := ⟨b, o + k, none⟩) hold] at g1
      have g2 := hr.out.cell hlt
      have g3 := hr.out.frozen k
      go_wp2
      refine ⟨⟨k + 1, by omega, by go_num, (hr.out.set k _).congr (fun j hj => ?_), hb.out.setCell (Nat.le_refl _) _⟩, by simp [intOf]; omega⟩
      by_cases e : j = k
      · subst e; simp
      · by_cases e2 : j < k
        · simp [e, e2, show j < k + 1 by omega]
        · simp [e, e2, show ¬ j < k + 1 by omega]
    · have : k = n := by omega
      subst this
      go_wp2
      go_ret
      refine ⟨rfl, ⟨HB.out.len, Nat.le_refl _, by unfold maxLen; omega, HB.out.rng, fun hp => ⟨w.heap.size, 0, rfl, fun i hi => ?_⟩, fun a ha _ => ?_⟩, hb.out, ⟨_, hr.out⟩⟩
      · have := hr.out.cell hi
        rw [if_pos hi] at this
        simpa using this
      · cases ha; exact hr.out.lt
theorem IsR.below {w w' : World} {b m : Nat} {e : TypeId} (h : IsR w b e m) (hb : Below w.heap.size w w') : IsR w' b e m := h.of_block (hb.block b h.lt)
set_option maxHeartbeats 1000000 in
theorem toDatumR (k n c : Int) (tp : Option Addr) (tn tc : Nat) (xs : List Int) (w : World) (hB : By w tp tn tc xs) (hn : tn ≤ 1048576) :
    Calls Tryz.prog 64 #[.agg #[.int .i64 k, .int .i64 n, .slice tp tn tc, .int .i64 c]] w fun e w' => ∃ g, e = .returned (.agg #[.int .i64 k, .int .i64 n, .slice (some ⟨g, 0, none⟩) tn tn, .int .i64 c]) ∧ w.heap.size ≤ g ∧ By w' (some ⟨g, 0, none⟩) tn tn xs ∧ Below w.heap.size w w' ∧ IsR w' g 5 tn := by
  have HB : Hid (By w tp tn tc xs) := hB
  clear hB
  go_enter Tryz.func64, Tryz.ntmps64
  go_wp2_with (go_at_call 86; refine (toByteR _ _ _ xs _ (by exact HB.out.below (below3 w _ _ _)) hn).mono ?_; rintro e w1 ⟨rfl, hby, hb1, hir⟩; have hz := hb1.size; obtain ⟨hc1, hf1⟩ := bcell hb1)
  have hby' : By w1 (some ⟨w.heap.size + 1 + 1 + 1, 0, none⟩) tn tn xs := by simpa using hby
  have hir' : IsR w1 (w.heap.size + 1 + 1 + 1) 5 tn := by simpa using hir
  have hbb : Below w.heap.size w w1 := (below3 w _ _ _).trans (hb1.mono (by simp; omega))
  refine bodyPost_ret (v := .agg #[.int .i64 k, .int .i64 n, .slice (some ⟨w.heap.size + 1 + 1 + 1, 0, none⟩) tn tn, .int .i64 c]) (by simp [results, Tryz.results64, go_sem, hc1]) rfl ⟨_, rfl, by omega, ?_, ?_, ?_⟩
  · exact (((((hby'.setCell (by simp) _).setCell (by simp) _).setCell (by simp; omega) _).setCell (by simp; omega) _).setCell (by simp; omega) _).setCell (by simp; omega) _
  · exact (((((hbb.setCell (by simp; omega) _).setCell (by simp; omega) _).setCell (by simp) _).setCell (by simp) _).setCell (by simp) _).setCell (by simp) _
  · exact (((((hir'.setCell _ _ _).setCell _ _ _).setCell _ _ _).setCell _ _ _).setCell _ _ _).setCell _ _ _
/-- The first k of n data lie in block g, and all of it may be written. -/
def RowR (w : World) (g : Nat) (ds : List Dt) (n k : Nat) : Prop := ∃ (f : Nat → Value) (t : Nat → Nat), w.rowIs g 121 (n * 4) f ∧ ∀ i, i < k →
  f (i * 4) = .int .i64 (ds.getD i dt0).kind ∧ f (i * 4 + 1) = .int .i64 (ds.getD i dt0).n ∧
  f (i * 4 + 2) = .slice (some ⟨t i, 0, none⟩) (ds.getD i dt0).text.length (ds.getD i dt0).text.length ∧
  f (i * 4 + 3) = .int .i64 (ds.getD i dt0).count ∧ g < t i ∧
  By w (some ⟨t i, 0, none⟩) (ds.getD i dt0).text.length (ds.getD i dt0).text.length (ds.getD i dt0).text ∧ IsR w (t i) 5 (ds.getD i dt0).text.length
theorem RowR.row {w : World} {g n k : Nat} {ds : List Dt} (h : RowR w g ds n k) : Row w g ds n k := by
  obtain ⟨f, t, hr, hc⟩ := h
  exact ⟨f, t, hr, fun i hi => by obtain ⟨h0, h1, h2, h3, h4, h5, _⟩ := hc i hi; exact ⟨h0, h1, h2, h3, h4, h5⟩⟩
theorem RowR.made {w w' : World} {g n : Nat} {xs : List Value} (ds : List Dt) (ho : w'.ownsRow g 121 4 (.slice (some ⟨w.heap.size, 0, none⟩) n n) n xs) : RowR w' w.heap.size ds n 0 := by
  obtain ⟨_, h | ⟨g', cap, cur, hv, _, hh, _, _, hsz, _⟩⟩ := ho
  · cases h.1
  · cases hv
    exact ⟨fun i => cur.getD i .nilIface, fun _ => 0, ⟨cur, hh, hsz, fun i hi => by simp [Array.getD, show i < cur.size by omega]⟩, fun i hi => absurd hi (Nat.not_lt_zero i)⟩
theorem RowR.below {w w' : World} {g n k : Nat} {ds : List Dt} (h : RowR w g ds n k) (hb : Below w.heap.size w w') : RowR w' g ds n k := by
  obtain ⟨f, t, hr, hc⟩ := h
  refine ⟨f, t, hr.of_block (hb.block g hr.lt), fun i hi => ?_⟩
  obtain ⟨h0, h1, h2, h3, h4, h5, h6⟩ := hc i hi
  exact ⟨h0, h1, h2, h3, h4, h5.below hb, h6.below hb⟩
theorem RowR.store {w : World} {g n k : Nat} {ds : List Dt} (h : RowR w g ds n k) (t : Nat) (ht : g < t) (hb : By w (some ⟨t, 0, none⟩) (ds.getD k dt0).text.length (ds.getD k dt0).text.length (ds.getD k dt0).text) (hi : IsR w t 5 (ds.getD k dt0).text.length) :
    RowR ((((w.setCell ⟨g, k * 4, none⟩ (.int .i64 (ds.getD k dt0).kind)).setCell ⟨g, k * 4 + 1, none⟩ (.int .i64 (ds.getD k dt0).n)).setCell ⟨g, k * 4 + 2, none⟩ (.slice (some ⟨t, 0, none⟩) (ds.getD k dt0).text.length (ds.getD k dt0).text.length)).setCell ⟨g, k * 4 + 3, none⟩ (.int .i64 (ds.getD k dt0).count)) g ds n (k + 1) := by
  obtain ⟨f, t', hr, hc⟩ := h
  refine ⟨_, fun i => if i = k then t else t' i, (((hr.set (k * 4) _).set (k * 4 + 1) _).set (k * 4 + 2) _).set (k * 4 + 3) _, fun i hik => ?_⟩
  by_cases e : i = k
  · subst e
    refine ⟨by simp, by simp, by simp, by simp, by simpa using ht, ?_, ?_⟩
    · simp only [if_true]
      exact (((hb.setCell (by simp; omega) _).setCell (by simp; omega) _).setCell (by simp; omega) _).setCell (by simp; omega) _
    · simp only [if_true]
      exact (((hi.setCell _ _ _).setCell _ _ _).setCell _ _ _).setCell _ _ _
  · obtain ⟨h0, h1, h2, h3, h4, h5, h6⟩ := hc i (by omega)
    have q : ∀ a b, a < 4 → b < 4 → ¬ (i * 4 + a = k * 4 + b) := fun a b ha hb => by omega
    refine ⟨?_, ?_, ?_, ?_, by simp [e, h4], ?_, ?_⟩
    · rw [if_neg (by have := q 0 3 (by omega) (by omega); omega), if_neg (by have := q 0 2 (by omega) (by omega); omega), if_neg (by have := q 0 1 (by omega) (by omega); omega), if_neg (by have := q 0 0 (by omega) (by omega); omega)]; exact h0
    · rw [if_neg (q 1 3 (by omega) (by omega)), if_neg (q 1 2 (by omega) (by omega)), if_neg (q 1 1 (by omega) (by omega)), if_neg (by have := q 1 0 (by omega) (by omega); omega)]; exact h1
    · rw [if_neg (q 2 3 (by omega) (by omega)), if_neg (q 2 2 (by omega) (by omega)), if_neg (q 2 1 (by omega) (by omega)), if_neg (by have := q 2 0 (by omega) (by omega); omega)]; simp only [if_neg e]; exact h2
    · rw [if_neg (q 3 3 (by omega) (by omega)), if_neg (q 3 2 (by omega) (by omega)), if_neg (q 3 1 (by omega) (by omega)), if_neg (by have := q 3 0 (by omega) (by omega); omega)]; exact h3
    · simp only [if_neg e]
      exact (((h5.setCell (by simp; omega) _).setCell (by simp; omega) _).setCell (by simp; omega) _).setCell (by simp; omega) _
    · simp only [if_neg e]
      exact (((h6.setCell _ _ _).setCell _ _ _).setCell _ _ _).setCell _ _ _
set_option maxHeartbeats 1000000 in
theorem toDatumSR (p : Option Addr) (n c : Nat) (ds : List Dt) (w : World) (hD : Da w p n c ds) (hn : n ≤ 1048576) (ht : ∀ i, i < n → ((ds.getD i dt0).text.length : Int) ≤ 1048576) :
    Calls Tryz.prog 38 #[.slice p n c] w fun e w' => e = .returned (.slice (some ⟨w.heap.size, 0, none⟩) n n) ∧ RowR w' w.heap.size ds n n ∧ Da w' (some ⟨w.heap.size, 0, none⟩) n n ds ∧ Below w.heap.size w w' := by
  have HD : Hid (Da w p n c ds) := hD
  have HT : Hid (∀ i, i < n → ((ds.getD i dt0).text.length : Int) ≤ 1048576) := ht
  clear hD ht
  obtain ⟨i47, hi47, hpr⟩ := Option.map_eq_some_iff.1 info47
  simp only [Prod.mk.injEq] at hpr
  obtain ⟨hz47, hs47, hb47⟩ := hpr
  have HI : Hid (Tryz.prog.info? 121 = some i47 ∧ i47.zero = some (.agg #[.int .i64 0, .int .i64 0, .slice none 0 0, .int .i64 0]) ∧ i47.size = 4 ∧ i47.bytes = 48) := ⟨hi47, hz47, hs47, hb47⟩
  clear hi47 hz47 hs47 hb47
  go_enter Tryz.func38, Tryz.ntmps38
  go_wp2_with (at_make; refine wpList_make_full _ rfl (.tmp 6) (.tmp 6) 67 rfl w.heap.size 121 i47 _ 4 Tryz.underlying67 HI.out.1 HI.out.2.1 HI.out.2.2.1 .i64 .i64 n n n (by simp [Act.eval]) (by simp [Act.eval]) rfl rfl (by rw [HI.out.2.2.2]; omega) (by unfold maxLen; omega) (Nat.le_refl _) ?_)
  intro w0 ho hg
  have HR : Hid (RowR w0 w.heap.size ds n 0) := RowR.made ds ho
  have HBL : Hid (Below w.heap.size w w0) := (Below.refl _ w).grown hg (Nat.le_refl _) (fun k h => by cases h)
  clear ho hg
  go_wp2
  go_loopw [4] (fun i wr => ∃ k : Nat, k ≤ n ∧ i = .int .i64 k ∧ Hid (RowR wr w.heap.size ds n k) ∧ Hid (Below w.heap.size w wr)) (fun i _ => n - (intOf i).toNat)
  case atStart => exact ⟨0, Nat.zero_le _, rfl, HR, HBL⟩
  case round =>
    clear HR HBL w0
    obtain ⟨k, hk, rfl, hr, hb⟩ := hrel
    by_cases hlt : k < n
    · obtain ⟨b, o, rfl, hbl, g⟩ := HD.out.cells (by omega)
      obtain ⟨tp, tn, tc, he⟩ := g k hlt
      clear g
      have htl : Hid ((ds.getD k dt0).text.length = tn) := he.by_.len
      have htn : tn ≤ 1048576 := by have := HT.out k hlt; rw [htl.out] at this; omega
      have he' := he.below (w' := wr) hbl hb.out
      have HY : Hid (By wr tp tn tc (ds.getD k dt0).text) := he'.by_
      have e0 := he'.c0
      have e1 := he'.c1
      have e2 := he'.c2
      have e3 := he'.c3
      clear he he'
      have hgl := hr.out.row.lt
      have HST : Hid (∀ (w1 : World) (t : Nat), Below wr.heap.size wr w1 → wr.heap.size ≤ t → By w1 (some ⟨t, 0, none⟩) tn tn (ds.getD k dt0).text → IsR w1 t 5 tn →
        RowR ((((w1.setCell ⟨w.heap.size, k * 4, none⟩ (.int .i64 (ds.getD k dt0).kind)).setCell ⟨w.heap.size, k * 4 + 1, none⟩ (.int .i64 (ds.getD k dt0).n)).setCell ⟨w.heap.size, k * 4 + 2, none⟩ (.slice (some ⟨t, 0, none⟩) tn tn)).setCell ⟨w.heap.size, k * 4 + 3, none⟩ (.int .i64 (ds.getD k dt0).count)) w.heap.size ds n (k + 1)) := by
        intro w1 t h1 h2 h3 h4
        rw [← htl.out] at h3 h4 ⊢
        exact (hr.out.below h1).store t (by omega) h3 h4
      generalize ds.getD k dt0 = d at e0 e1 e2 e3 HY HST
      go_wp2_with (go_at_call 64; refine (toDatumR _ _ _ tp tn tc d.text _ HY.out htn).mono ?_; rintro e w1 ⟨t, rfl, ht1, hby, hb1, hir⟩; have hz := hb1.size; obtain ⟨v0, cc0, ff0⟩ := (hr.out.row.below hb1).cells (k * 4) (by omega); obtain ⟨v1, cc1, ff1⟩ := (hr.out.row.below hb1).cells (k * 4 + 1) (by omega); obtain ⟨v2, cc2, ff2⟩ := (hr.out.row.below hb1).cells (k * 4 + 2) (by omega); obtain ⟨v3, cc3, ff3⟩ := (hr.out.row.below hb1).cells (k * 4 + 3) (by omega))
      exact ⟨⟨k + 1, by omega, by go_num, HST.out w1 t hb1 ht1 hby hir, ((((hb.out.trans (hb1.mono hb.out.size)).setCell (Nat.le_refl _) _).setCell (Nat.le_refl _) _).setCell (Nat.le_refl _) _).setCell (Nat.le_refl _) _⟩, by simp [intOf]; omega⟩
    · have : k = n := by omega
      subst this
      go_wp2
      go_ret
      refine ⟨rfl, hr.out, hr.out.row.da HD.out.len (by unfold maxLen; omega) (fun i hi => ?_), hb.out⟩
      obtain ⟨b, o, _, _, g⟩ := HD.out.cells (by omega)
      obtain ⟨tp, tn, tc, he⟩ := g i hi
      exact ⟨he.lo, he.hi⟩
end Go.Proofs.YtdjdhjciealfhaaGreatDoor
namespace Go.Proofs.YtdjdhjciealfhaaGreatDoor
open Go.RowKit Ch1
theorem RowR.setLow {w : World} {g n k : Nat} {ds : List Dt} (h : RowR w g ds n k) {a : Addr} (ha : a.block < g) (v : Value) : RowR (w.setCell a v) g ds n k := by
  obtain ⟨f, t, hr, hc⟩ := h
  refine ⟨f, t, hr.of_block (Below.heap_setCell w a v g (by omega)), fun i hi => ?_⟩
  obtain ⟨h0, h1, h2, h3, h4, h5, h6⟩ := hc i hi
  exact ⟨h0, h1, h2, h3, h4, h5.setCell (by omega) v, h6.of_block (Below.heap_setCell w a v _ (by omega))⟩
set_option maxHeartbeats 400000 in
theorem toBoolS_r (p : Option Addr) (n c : Nat) (bs : List Bool) (w : World) (h : Bo w p n c bs) (hn : n ≤ 1048576) :
    Calls Tryz.prog 65 #[.slice p n c] w fun e w' => e = .returned (.slice (some ⟨w.heap.size, 0, none⟩) n n) ∧ Bo w' (some ⟨w.heap.size, 0, none⟩) n n bs ∧ IsR w' w.heap.size 4 n ∧ Below w.heap.size w w' := by
  have HB : Hid (Bo w p n c bs) := h
  clear h
  have hmk := run_make_row' (P := Tryz.prog) 43 4 (.bool false) 1 Tryz.underlying43 info4 rfl .i64 .i64 n (by omega) (by omega)
  go_enter Tryz.func65, Tryz.ntmps65
  go_wp2
  clear hmk
  go_loopw [4] (fun i wr => ∃ k : Nat, k ≤ n ∧ i = .int .i64 k ∧ Hid (wr.rowIs w.heap.size 4 n (fun j => .bool (if j < k then bs.getD j false else false))) ∧ Hid (Below w.heap.size w wr)) (fun i _ => n - (intOf i).toNat)
  case atStart =>
    refine ⟨0, Nat.zero_le _, rfl, ?_, ?_⟩
    · exact (World.rowIs_made w (.bool false) n 4).congr (fun j _ => by simp)
    · exact (Below.refl _ _).alloc (Nat.le_refl _) _
  case round =>
    obtain ⟨k, hk, rfl, hr, hb⟩ := hrel
    by_cases hlt : k < n
    · obtain ⟨b, o, rfl, hold, g⟩ := HB.out.cells (by omega)
      have g1 := g k hlt
      clear g
      rw [← hb.out.cell (p := ⟨b, o + k, none⟩) hold] at g1
      have g2 := hr.out.cell hlt
      have g3 := hr.out.frozen k
      obtain ⟨bk, hbk⟩ : ∃ bk, bs.getD k false = bk := ⟨_, rfl⟩
      have HBK : Hid (bs.getD k false = bk) := hbk
      rw [hbk] at g1
      clear hbk
      go_wp2
      refine ⟨⟨k + 1, by omega, by go_num, (hr.out.set k _).congr (fun j hj => ?_), hb.out.setCell (Nat.le_refl _) _⟩, by simp [intOf]; omega⟩
      by_cases e : j = k
      · subst e; rw [if_pos rfl, if_pos (Nat.lt_succ_self _), HBK.out]
      · by_cases e2 : j < k
        · simp [e, e2, show j < k + 1 by omega]
        · simp [e, e2, show ¬ j < k + 1 by omega]
    · have : k = n := by omega
      subst this
      go_wp2
      go_ret
      refine ⟨rfl, ⟨HB.out.len, Nat.le_refl _, by unfold maxLen; omega, fun hp => ⟨w.heap.size, 0, rfl, hr.out.lt, fun i hi => ?_⟩⟩, ⟨_, hr.out⟩, hb.out⟩
      have := hr.out.cell hi
      rw [if_pos hi] at this
      simpa using this
set_option maxHeartbeats 1000000 in
theorem toInsS_r (p : Option Addr) (n c : Nat) (xs : List In) (w : World) (hD : Ii w p n c xs) (hn : n ≤ 1048576) :
    Calls Tryz.prog 66 #[.slice p n c] w fun e w' => e = .returned (.slice (some ⟨w.heap.size, 0, none⟩) n n) ∧ Ii w' (some ⟨w.heap.size, 0, none⟩) n n xs ∧ IsR w' w.heap.size 73 (n * 3) ∧ Below w.heap.size w w' := by
  have HD : Hid (Ii w p n c xs) := hD
  clear hD
  obtain ⟨ii, hi1, hpr⟩ := Option.map_eq_some_iff.1 infoIns
  simp only [Prod.mk.injEq] at hpr
  obtain ⟨hz, hs, hb⟩ := hpr
  have HI : Hid (Tryz.prog.info? 73 = some ii ∧ ii.zero = some (.agg #[.int .i64 0, .int .i64 0, .int .i64 0]) ∧ ii.size = 3 ∧ ii.bytes = 24) := ⟨hi1, hz, hs, hb⟩
  clear hi1 hz hs hb
  go_enter Tryz.func66, Tryz.ntmps66
  go_wp2_with (at_make; refine wpList_make_full _ rfl (.tmp 6) (.tmp 6) 46 rfl w.heap.size 73 ii _ 3 Tryz.underlying46 HI.out.1 HI.out.2.1 HI.out.2.2.1 .i64 .i64 n n n (by simp [Act.eval]) (by simp [Act.eval]) rfl rfl (by rw [HI.out.2.2.2]; omega) (by unfold maxLen; omega) (Nat.le_refl _) ?_)
  intro w0 ho hg
  have HR : Hid (RowI w0 w.heap.size xs n 0) := RowI.made xs ho
  have HBL : Hid (Below w.heap.size w w0) := (Below.refl _ w).grown hg (Nat.le_refl _) (fun k h => by cases h)
  clear ho hg
  go_wp2
  go_loopw [4] (fun i wr => ∃ k : Nat, k ≤ n ∧ i = .int .i64 k ∧ Hid (RowI wr w.heap.size xs n k) ∧ Hid (Below w.heap.size w wr)) (fun i _ => n - (intOf i).toNat)
  case atStart => exact ⟨0, Nat.zero_le _, rfl, HR, HBL⟩
  case round =>
    clear HR HBL w0
    obtain ⟨k, hk, rfl, hr, hb⟩ := hrel
    by_cases hlt : k < n
    · obtain ⟨b, o, rfl, hbl, g⟩ := HD.out.cells (by omega)
      obtain ⟨e0, e1, e2⟩ := g k hlt
      clear g
      rw [← hb.out.cell (p := ⟨b, o + k * 3, none⟩) hbl] at e0
      rw [← hb.out.cell (p := ⟨b, o + k * 3 + 1, none⟩) hbl] at e1
      rw [← hb.out.cell (p := ⟨b, o + k * 3 + 2, none⟩) hbl] at e2
      obtain ⟨x, hx⟩ : ∃ x, xs.getD k in0 = x := ⟨_, rfl⟩
      have HX : Hid (xs.getD k in0 = x) := hx
      rw [hx] at e0 e1 e2
      clear hx
      have HST : Hid (∀ w1 : World, Below wr.heap.size wr w1 → RowI (((w1.setCell ⟨w.heap.size, k * 3, none⟩ (.int .i64 x.op)).setCell ⟨w.heap.size, k * 3 + 1, none⟩ (.int .i64 x.a)).setCell ⟨w.heap.size, k * 3 + 2, none⟩ (.int .i64 x.b)) w.heap.size xs n (k + 1)) := fun w1 h1 => (hr.out.below h1).store x HX.out
      go_wp2_with (go_at_call 87; refine (toIns_c _ _ _ _).mono ?_; rintro e w1 ⟨rfl, hb1⟩; have hz := hb1.size; obtain ⟨v0, cc0, ff0⟩ := (hr.out.below hb1).cells (k * 3) (by omega); obtain ⟨v1, cc1, ff1⟩ := (hr.out.below hb1).cells (k * 3 + 1) (by omega); obtain ⟨v2, cc2, ff2⟩ := (hr.out.below hb1).cells (k * 3 + 2) (by omega))
      exact ⟨⟨k + 1, by omega, by go_num, HST.out w1 hb1, (((hb.out.trans (hb1.mono hb.out.size)).setCell (Nat.le_refl _) _).setCell (Nat.le_refl _) _).setCell (Nat.le_refl _) _⟩, by simp [intOf]; omega⟩
    · have : k = n := by omega
      subst this
      go_wp2
      go_ret
      exact ⟨rfl, hr.out.ii HD.out.len (by unfold maxLen; omega), (by obtain ⟨f, hf, _⟩ := hr.out; exact ⟨f, hf⟩), hb.out⟩
/-- What toFunc leaves. -/
def ToFr (k : Int) (fl cl : Nat) (free : List Bool) (code : List In) (w w' : World) (e : Ending) : Prop := ∃ tf tc, e = .returned (.agg #[.int .i64 k, .slice (some ⟨tf, 0, none⟩) fl fl, .slice (some ⟨tc, 0, none⟩) cl cl]) ∧ w.heap.size ≤ tf ∧ w.heap.size ≤ tc ∧ Bo w' (some ⟨tf, 0, none⟩) fl fl free ∧ Ii w' (some ⟨tc, 0, none⟩) cl cl code ∧ IsR w' tf 4 fl ∧ IsR w' tc 73 (cl * 3) ∧ Below w.heap.size w w'
set_option maxHeartbeats 2000000 in
theorem toFunc_r (k : Int) (fp : Option Addr) (fl fc : Nat) (cp : Option Addr) (cl cc : Nat) (free : List Bool) (code : List In) (w : World) (hB : Bo w fp fl fc free) (hI : Ii w cp cl cc code) (hf : fl ≤ 1048576) (hc : cl ≤ 1048576) :
    Calls Tryz.prog 39 #[.agg #[.int .i64 k, .slice fp fl fc, .slice cp cl cc]] w fun e w' => ToFr k fl cl free code w w' e := by
  have HB : Hid (Bo w fp fl fc free) := hB
  have HI : Hid (Ii w cp cl cc code) := hI
  clear hB hI
  go_enter Tryz.func39, Tryz.ntmps39
  go_wp2_with fail
  refine (toBoolS_r fp fl fc free _ (by exact HB.out.below (below3 w _ _ _)) hf).mono ?_
  rintro e w1 ⟨rfl, hbo, hir, hb1⟩
  have hz := hb1.size
  have hbo' : Bo w1 (some ⟨w.heap.size + 1 + 1 + 1, 0, none⟩) fl fl free := by simpa using hbo
  have hbb : Below w.heap.size w w1 := (below3 w _ _ _).trans (hb1.mono (by simp; omega))
  have hz' : w.heap.size + 3 ≤ w1.heap.size := by simpa using hz
  have hir' : IsR w1 (w.heap.size + 1 + 1 + 1) 4 fl := by simpa using hir
  have HIR : Hid (IsR w1 (w.heap.size + 1 + 1 + 1) 4 fl) := hir'
  have HBO : Hid (Bo w1 (some ⟨w.heap.size + 1 + 1 + 1, 0, none⟩) fl fl free) := hbo'
  have HBB : Hid (Below w.heap.size w w1) := hbb
  have HX : Hid (B3 w1 (w.heap.size + 1 + 1) (.int .i64 k) (.slice none 0 0) (.slice none 0 0)) := by
    have := (B3.new ((w.alloc (.cells #[.int .i64 k, .slice fp fl fc, .slice cp cl cc] 66)).alloc (.cells #[.int .i64 0, .slice none 0 0, .slice none 0 0] 48)) (.int .i64 k) (.slice none 0 0) (.slice none 0 0) 48).below hb1
    unfold Hid; simpa using this
  have HY : Hid (B3 w1 (w.heap.size + 1) (.int .i64 0) (.slice none 0 0) (.slice none 0 0)) := by
    have := ((B3.new (w.alloc (.cells #[.int .i64 k, .slice fp fl fc, .slice cp cl cc] 66)) (.int .i64 0) (.slice none 0 0) (.slice none 0 0) 48).below (below1 _ _)).below hb1
    unfold Hid; simpa using this
  have HA : Hid (B3 w1 w.heap.size (.int .i64 k) (.slice fp fl fc) (.slice cp cl cc)) := ((((B3.new w (.int .i64 k) (.slice fp fl fc) (.slice cp cl cc) 66).below (below1 _ _)).below (below1 _ _)).below hb1)
  have x1 := HX.out.c1
  have x1f := HX.out.f1
  have a2 := HA.out.c2
  clear hbo hbo' hbb hb1 hz hir hir'
  go_wp2_with fail
  have HX1 : Hid (B3 (w1.setCell ⟨w.heap.size + 1 + 1, 1, none⟩ (.slice (some ⟨w.heap.size + 1 + 1 + 1, 0, none⟩) fl fl)) (w.heap.size + 1 + 1) (.int .i64 k) (.slice (some ⟨w.heap.size + 1 + 1 + 1, 0, none⟩) fl fl) (.slice none 0 0)) := HX.out.set1 _
  have HY1 : Hid (B3 (w1.setCell ⟨w.heap.size + 1 + 1, 1, none⟩ (.slice (some ⟨w.heap.size + 1 + 1 + 1, 0, none⟩) fl fl)) (w.heap.size + 1) (.int .i64 0) (.slice none 0 0) (.slice none 0 0)) := HY.out.other (by simp) _
  have HBB1 : Hid (Below w.heap.size w (w1.setCell ⟨w.heap.size + 1 + 1, 1, none⟩ (.slice (some ⟨w.heap.size + 1 + 1 + 1, 0, none⟩) fl fl))) := HBB.out.setCell (by simp; omega) _
  have HBO1 : Hid (Bo (w1.setCell ⟨w.heap.size + 1 + 1, 1, none⟩ (.slice (some ⟨w.heap.size + 1 + 1 + 1, 0, none⟩) fl fl)) (some ⟨w.heap.size + 1 + 1 + 1, 0, none⟩) fl fl free) := HBO.out.setOther (fun x hx => by cases hx; simp) _
  have HIR1 : Hid (IsR (w1.setCell ⟨w.heap.size + 1 + 1, 1, none⟩ (.slice (some ⟨w.heap.size + 1 + 1 + 1, 0, none⟩) fl fl)) (w.heap.size + 1 + 1 + 1) 4 fl) := HIR.out.setCell _ _ _
  have hsz1 : w.heap.size + 3 ≤ (w1.setCell ⟨w.heap.size + 1 + 1, 1, none⟩ (.slice (some ⟨w.heap.size + 1 + 1 + 1, 0, none⟩) fl fl)).heap.size := by simpa [World.setCell] using hz'
  clear x1 x1f a2 HX HY HA HBB HBO HIR hz'
  refine (toInsS_r cp cl cc code _ (by exact HI.out.below HBB1.out) hc).mono ?_
  generalize w1.setCell ⟨w.heap.size + 1 + 1, 1, none⟩ (.slice (some ⟨w.heap.size + 1 + 1 + 1, 0, none⟩) fl fl) = w1' at HX1 HY1 HBB1 HBO1 HIR1 hsz1
  rintro e w2 ⟨rfl, hii, hji, hb2⟩
  have HJI : Hid (IsR w2 w1'.heap.size 73 (cl * 3)) := hji
  have HIR2 : Hid (IsR w2 (w.heap.size + 1 + 1 + 1) 4 fl) := HIR1.out.below hb2
  have HII : Hid (Ii w2 (some ⟨w1'.heap.size, 0, none⟩) cl cl code) := hii
  have HBO2 : Hid (Bo w2 (some ⟨w.heap.size + 1 + 1 + 1, 0, none⟩) fl fl free) := HBO1.out.below hb2
  have HX2 : Hid (B3 w2 (w.heap.size + 1 + 1) (.int .i64 k) (.slice (some ⟨w.heap.size + 1 + 1 + 1, 0, none⟩) fl fl) (.slice none 0 0)) := HX1.out.below hb2
  have HY2 : Hid (B3 w2 (w.heap.size + 1) (.int .i64 0) (.slice none 0 0) (.slice none 0 0)) := HY1.out.below hb2
  have HBB2 : Hid (Below w.heap.size w w2) := HBB1.out.trans (hb2.mono HBB1.out.size)
  have x0 := HX2.out.c0
  have x1 := HX2.out.c1
  have x2 := HX2.out.c2
  have x2f := HX2.out.f2
  have y0 := HY2.out.c0
  have y1 := HY2.out.c1
  have y2 := HY2.out.c2
  have y0f := HY2.out.f0
  have y1f := HY2.out.f1
  have y2f := HY2.out.f2
  clear hii hji hb2 HIR1 HX1 HY1 HBO1 HBB1
  go_wp2
  refine bodyPost_ret (v := .agg #[.int .i64 k, .slice (some ⟨w.heap.size + 1 + 1 + 1, 0, none⟩) fl fl, .slice (some ⟨w1'.heap.size, 0, none⟩) cl cl]) (by simp [results, Tryz.results39, go_sem, y0, y1, y2]) rfl ⟨_, _, rfl, by omega, by omega, ?_, ?_, (((HIR2.out.setCell _ _ _).setCell _ _ _).setCell _ _ _).setCell _ _ _, (((HJI.out.setCell _ _ _).setCell _ _ _).setCell _ _ _).setCell _ _ _, ?_⟩
  · exact (((HBO2.out.setOther (fun x hx => by cases hx; simp) _).setOther (fun x hx => by cases hx; simp; omega) _).setOther (fun x hx => by cases hx; simp; omega) _).setOther (fun x hx => by cases hx; simp; omega) _
  · exact (((HII.out.setOther (fun x hx => by cases hx; simp; omega) _).setOther (fun x hx => by cases hx; simp; omega) _).setOther (fun x hx => by cases hx; simp; omega) _).setOther (fun x hx => by cases hx; simp; omega) _
  · exact (((HBB2.out.setCell (by simp; omega) _).setCell (by simp) _).setCell (by simp) _).setCell (by simp) _
/-- The first k of n functions lie in block g. -/
def RowFR (w : World) (g : Nat) (fs : List Fn) (n k : Nat) : Prop := ∃ (f : Nat → Value) (tf tc : Nat → Nat), w.rowIs g 48 (n * 3) f ∧ ∀ i, i < k →
  f (i * 3) = .int .i64 (fs.getD i fn0).params ∧ f (i * 3 + 1) = .slice (some ⟨tf i, 0, none⟩) (fs.getD i fn0).free.length (fs.getD i fn0).free.length ∧ f (i * 3 + 2) = .slice (some ⟨tc i, 0, none⟩) (fs.getD i fn0).code.length (fs.getD i fn0).code.length ∧
  g < tf i ∧ g < tc i ∧ Bo w (some ⟨tf i, 0, none⟩) (fs.getD i fn0).free.length (fs.getD i fn0).free.length (fs.getD i fn0).free ∧ Ii w (some ⟨tc i, 0, none⟩) (fs.getD i fn0).code.length (fs.getD i fn0).code.length (fs.getD i fn0).code ∧ IsR w (tf i) 4 (fs.getD i fn0).free.length ∧ IsR w (tc i) 73 ((fs.getD i fn0).code.length * 3)
theorem RowFR.made {w w' : World} {g n : Nat} {vs : List Value} (fs : List Fn) (ho : w'.ownsRow g 48 3 (.slice (some ⟨w.heap.size, 0, none⟩) n n) n vs) : RowFR w' w.heap.size fs n 0 := by
  obtain ⟨_, h | ⟨g', cap, cur, hv, _, hh, _, _, hsz, _⟩⟩ := ho
  · cases h.1
  · cases hv
    exact ⟨fun i => cur.getD i .nilIface, fun _ => 0, fun _ => 0, ⟨cur, hh, hsz, fun i hi => by simp [Array.getD, show i < cur.size by omega]⟩, fun i hi => absurd hi (Nat.not_lt_zero i)⟩
theorem RowFR.below {w w' : World} {g n k : Nat} {fs : List Fn} (h : RowFR w g fs n k) (hb : Below w.heap.size w w') : RowFR w' g fs n k := by
  obtain ⟨f, tf, tc, hr, hc⟩ := h
  refine ⟨f, tf, tc, hr.of_block (hb.block g hr.lt), fun i hi => ?_⟩
  obtain ⟨h0, h1, h2, h3, h4, h5, h6, h7, h8⟩ := hc i hi
  exact ⟨h0, h1, h2, h3, h4, h5.below hb, h6.below hb, h7.below hb, h8.below hb⟩
theorem RowFR.cells {w : World} {g n k : Nat} {fs : List Fn} (h : RowFR w g fs n k) (i : Nat) (hi : i < n * 3) : ∃ v, w.cell? ⟨g, i, none⟩ = some v ∧ w.frozen? ⟨g, i, none⟩ = false := by
  obtain ⟨f, _, _, hr, _⟩ := h
  exact ⟨_, hr.cell hi, hr.frozen i⟩
theorem RowFR.lt {w : World} {g n k : Nat} {fs : List Fn} (h : RowFR w g fs n k) : g < w.heap.size := by
  obtain ⟨f, _, _, hr, _⟩ := h
  exact hr.lt
theorem RowFR.store {w : World} {g n k : Nat} {fs : List Fn} (h : RowFR w g fs n k) (x : Fn) (hx : fs.getD k fn0 = x) (t u : Nat) (ht : g < t) (hu : g < u) (hB : Bo w (some ⟨t, 0, none⟩) x.free.length x.free.length x.free) (hI : Ii w (some ⟨u, 0, none⟩) x.code.length x.code.length x.code) (hB2 : IsR w t 4 x.free.length) (hI2 : IsR w u 73 (x.code.length * 3)) :
    RowFR (((w.setCell ⟨g, k * 3, none⟩ (.int .i64 x.params)).setCell ⟨g, k * 3 + 1, none⟩ (.slice (some ⟨t, 0, none⟩) x.free.length x.free.length)).setCell ⟨g, k * 3 + 2, none⟩ (.slice (some ⟨u, 0, none⟩) x.code.length x.code.length)) g fs n (k + 1) := by
  obtain ⟨f, tf, tc, hr, hc⟩ := h
  refine ⟨_, fun i => if i = k then t else tf i, fun i => if i = k then u else tc i, ((hr.set (k * 3) _).set (k * 3 + 1) _).set (k * 3 + 2) _, fun i hi => ?_⟩
  by_cases e : i = k
  · subst e
    rw [hx]
    refine ⟨by simp, by simp, by simp, by simpa using ht, by simpa using hu, ?_, ?_, ?_, ?_⟩
    · simp only [if_true]
      exact ((hB.setOther (fun y hy => by cases hy; simp; omega) _).setOther (fun y hy => by cases hy; simp; omega) _).setOther (fun y hy => by cases hy; simp; omega) _
    · simp only [if_true]
      exact ((hI.setOther (fun y hy => by cases hy; simp; omega) _).setOther (fun y hy => by cases hy; simp; omega) _).setOther (fun y hy => by cases hy; simp; omega) _
    · simp only [if_true]
      exact ((hB2.setCell _ _ _).setCell _ _ _).setCell _ _ _
    · simp only [if_true]
      exact ((hI2.setCell _ _ _).setCell _ _ _).setCell _ _ _
  · obtain ⟨h0, h1, h2, h3, h4, h5, h6, h7, h8⟩ := hc i (by omega)
    have q := q3 e
    refine ⟨?_, ?_, ?_, by simp [e, h3], by simp [e, h4], ?_, ?_, ?_, ?_⟩
    · rw [if_neg (by have := q 0 2 (by omega) (by omega); omega), if_neg (by have := q 0 1 (by omega) (by omega); omega), if_neg (by have := q 0 0 (by omega) (by omega); omega)]; exact h0
    · rw [if_neg (q 1 2 (by omega) (by omega)), if_neg (q 1 1 (by omega) (by omega)), if_neg (by have := q 1 0 (by omega) (by omega); omega)]; simp only [if_neg e]; exact h1
    · rw [if_neg (q 2 2 (by omega) (by omega)), if_neg (q 2 1 (by omega) (by omega)), if_neg (by have := q 2 0 (by omega) (by omega); omega)]; simp only [if_neg e]; exact h2
    · simp only [if_neg e]
      exact ((h5.setOther (fun y hy => by cases hy; simp; omega) _).setOther (fun y hy => by cases hy; simp; omega) _).setOther (fun y hy => by cases hy; simp; omega) _
    · simp only [if_neg e]
      exact ((h6.setOther (fun y hy => by cases hy; simp; omega) _).setOther (fun y hy => by cases hy; simp; omega) _).setOther (fun y hy => by cases hy; simp; omega) _
    · simp only [if_neg e]
      exact ((h7.setCell _ _ _).setCell _ _ _).setCell _ _ _
    · simp only [if_neg e]
      exact ((h8.setCell _ _ _).setCell _ _ _).setCell _ _ _
theorem RowFR.fu {w : World} {g n : Nat} {fs : List Fn} (h : RowFR w g fs n n) (hl : fs.length = n) (hbig : n ≤ maxLen) : Fu w (some ⟨g, 0, none⟩) n n fs := by
  obtain ⟨f, tf, tc, hr, hc⟩ := h
  refine ⟨hl, Nat.le_refl _, hbig, fun hn => ⟨g, 0, rfl, hr.lt, fun i hi => ?_⟩⟩
  obtain ⟨h0, h1, h2, h3, h4, h5, h6, _, _⟩ := hc i hi
  refine ⟨_, _, _, _, _, _, ?_, ?_, ?_, h5, h6⟩
  · rw [Nat.zero_add, ← h0]; exact hr.cell (by omega)
  · rw [Nat.zero_add, ← h1]; exact hr.cell (by omega)
  · rw [Nat.zero_add, ← h2]; exact hr.cell (by omega)
set_option maxHeartbeats 2000000 in
theorem toFuncS_r (p : Option Addr) (n c : Nat) (fs : List Fn) (w : World) (hD : Fu w p n c fs) (hn : n ≤ 1048576) (hfit : FnsFit fs n 1048576) :
    Calls Tryz.prog 18 #[.slice p n c] w fun e w' => e = .returned (.slice (some ⟨w.heap.size, 0, none⟩) n n) ∧ Fu w' (some ⟨w.heap.size, 0, none⟩) n n fs ∧ RowFR w' w.heap.size fs n n ∧ Below w.heap.size w w' := by
  have HD : Hid (Fu w p n c fs) := hD
  have HT : Hid (FnsFit fs n 1048576) := hfit
  clear hD hfit
  obtain ⟨ii, hi1, hpr⟩ := Option.map_eq_some_iff.1 infoFn
  simp only [Prod.mk.injEq] at hpr
  obtain ⟨hz, hs, hb⟩ := hpr
  have HI : Hid (Tryz.prog.info? 48 = some ii ∧ ii.zero = some (.agg #[.int .i64 0, .slice none 0 0, .slice none 0 0]) ∧ ii.size = 3 ∧ ii.bytes = 56) := ⟨hi1, hz, hs, hb⟩
  clear hi1 hz hs hb
  go_enter Tryz.func18, Tryz.ntmps18
  go_wp2_with (at_make; refine wpList_make_full _ rfl (.tmp 6) (.tmp 6) 31 rfl w.heap.size 48 ii _ 3 Tryz.underlying31 HI.out.1 HI.out.2.1 HI.out.2.2.1 .i64 .i64 n n n (by simp [Act.eval]) (by simp [Act.eval]) rfl rfl (by rw [HI.out.2.2.2]; omega) (by unfold maxLen; omega) (Nat.le_refl _) ?_)
  intro w0 ho hg
  have HR : Hid (RowFR w0 w.heap.size fs n 0) := RowFR.made fs ho
  have HBL : Hid (Below w.heap.size w w0) := (Below.refl _ w).grown hg (Nat.le_refl _) (fun k h => by cases h)
  clear ho hg
  go_wp2
  go_loopw [4] (fun i wr => ∃ k : Nat, k ≤ n ∧ i = .int .i64 k ∧ Hid (RowFR wr w.heap.size fs n k) ∧ Hid (Below w.heap.size w wr)) (fun i _ => n - (intOf i).toNat)
  case atStart => exact ⟨0, Nat.zero_le _, rfl, HR, HBL⟩
  case round =>
    clear HR HBL w0
    obtain ⟨k, hk, rfl, hr, hb⟩ := hrel
    by_cases hlt : k < n
    · obtain ⟨b, o, rfl, hbl, g⟩ := HD.out.cells (by omega)
      obtain ⟨fp, fl, fc, cp, cl, cc, he⟩ := g k hlt
      clear g
      have hfl : Hid ((fs.getD k fn0).free.length = fl) := he.free.len
      have hcl : Hid ((fs.getD k fn0).code.length = cl) := he.code.len
      have hfl2 : fl ≤ 1048576 := by have := (HT.out k hlt).1; rw [hfl.out] at this; omega
      have hcl2 : cl ≤ 1048576 := by have := (HT.out k hlt).2; rw [hcl.out] at this; omega
      have he' := he.below (w' := wr) hbl hb.out
      have HF : Hid (Bo wr fp fl fc (fs.getD k fn0).free) := he'.free
      have HC : Hid (Ii wr cp cl cc (fs.getD k fn0).code) := he'.code
      have e0 := he'.c0
      have e1 := he'.c1
      have e2 := he'.c2
      clear he he'
      have hgl := hr.out.lt
      have HST : Hid (∀ (w1 : World) (t u : Nat), Below wr.heap.size wr w1 → wr.heap.size ≤ t → wr.heap.size ≤ u → Bo w1 (some ⟨t, 0, none⟩) fl fl (fs.getD k fn0).free → Ii w1 (some ⟨u, 0, none⟩) cl cl (fs.getD k fn0).code → IsR w1 t 4 fl → IsR w1 u 73 (cl * 3) →
        RowFR (((w1.setCell ⟨w.heap.size, k * 3, none⟩ (.int .i64 (fs.getD k fn0).params)).setCell ⟨w.heap.size, k * 3 + 1, none⟩ (.slice (some ⟨t, 0, none⟩) fl fl)).setCell ⟨w.heap.size, k * 3 + 2, none⟩ (.slice (some ⟨u, 0, none⟩) cl cl)) w.heap.size fs n (k + 1)) := by
        intro w1 t u h1 h2 h3 h4 h5 h6 h7
        rw [← hfl.out] at h4 h6 ⊢
        rw [← hcl.out] at h5 h7 ⊢
        exact (hr.out.below h1).store _ rfl t u (by omega) (by omega) h4 h5 h6 h7
      generalize fs.getD k fn0 = f at e0 e1 e2 HF HC HST
      go_wp2_with (go_at_call 39; refine (toFunc_r _ fp fl fc cp cl cc f.free f.code _ HF.out HC.out hfl2 hcl2).mono ?_; rintro e w1 ⟨t, u, rfl, ht1, hu1, hbo, hii, hjb, hji, hb1⟩; have hz := hb1.size; obtain ⟨v0, cc0, ff0⟩ := (hr.out.below hb1).cells (k * 3) (by omega); obtain ⟨v1, cc1, ff1⟩ := (hr.out.below hb1).cells (k * 3 + 1) (by omega); obtain ⟨v2, cc2, ff2⟩ := (hr.out.below hb1).cells (k * 3 + 2) (by omega))
      exact ⟨⟨k + 1, by omega, by go_num, HST.out w1 t u hb1 ht1 hu1 hbo hii hjb hji, (((hb.out.trans (hb1.mono hb.out.size)).setCell (Nat.le_refl _) _).setCell (Nat.le_refl _) _).setCell (Nat.le_refl _) _⟩, by simp [intOf]; omega⟩
    · have : k = n := by omega
      subst this
      go_wp2
      go_ret
      exact ⟨rfl, hr.out.fu HD.out.len (by unfold maxLen; omega), hr.out, hb.out⟩
/-- The first k of n lists of data lie in block g. -/
def RowDR (w : World) (g : Nat) (ls : List (List Dt)) (n k : Nat) : Prop := ∃ (f : Nat → Value) (t : Nat → Nat), w.rowIs g 67 n f ∧ ∀ i, i < k →
  f i = .slice (some ⟨t i, 0, none⟩) (ls.getD i []).length (ls.getD i []).length ∧ g < t i ∧ RowR w (t i) (ls.getD i []) (ls.getD i []).length (ls.getD i []).length
theorem RowDR.below {w w' : World} {g n k : Nat} {ls : List (List Dt)} (h : RowDR w g ls n k) (hb : Below w.heap.size w w') : RowDR w' g ls n k := by
  obtain ⟨f, t, hr, hc⟩ := h
  refine ⟨f, t, hr.of_block (hb.block g hr.lt), fun i hi => ?_⟩
  obtain ⟨h0, h1, h2⟩ := hc i hi
  exact ⟨h0, h1, h2.below hb⟩
theorem RowDR.cells {w : World} {g n k : Nat} {ls : List (List Dt)} (h : RowDR w g ls n k) (i : Nat) (hi : i < n) : ∃ v, w.cell? ⟨g, i, none⟩ = some v ∧ w.frozen? ⟨g, i, none⟩ = false := by
  obtain ⟨f, _, hr, _⟩ := h
  exact ⟨_, hr.cell hi, hr.frozen i⟩
theorem RowDR.lt {w : World} {g n k : Nat} {ls : List (List Dt)} (h : RowDR w g ls n k) : g < w.heap.size := by
  obtain ⟨f, _, hr, _⟩ := h
  exact hr.lt
theorem RowDR.store {w : World} {g n k : Nat} {ls : List (List Dt)} (h : RowDR w g ls n k) (x : List Dt) (hx : ls.getD k [] = x) (t : Nat) (ht : g < t) (hR : RowR w t x x.length x.length) :
    RowDR (w.setCell ⟨g, k, none⟩ (.slice (some ⟨t, 0, none⟩) x.length x.length)) g ls n (k + 1) := by
  obtain ⟨f, tt, hr, hc⟩ := h
  refine ⟨_, fun i => if i = k then t else tt i, hr.set k _, fun i hi => ?_⟩
  by_cases e : i = k
  · subst e
    rw [hx]
    refine ⟨by simp, by simpa using ht, ?_⟩
    simp only [if_true]
    exact hR.setLow (by simpa using ht) _
  · obtain ⟨h0, h1, h2⟩ := hc i (by omega)
    refine ⟨?_, by simp [e, h1], ?_⟩
    · rw [if_neg e]; simp only [if_neg e]; exact h0
    · simp only [if_neg e]
      exact h2.setLow (by simpa using h1) _
theorem RowDR.dd {w : World} {g n : Nat} {ls : List (List Dt)} (h : RowDR w g ls n n) (hl : ls.length = n) (hbig : n ≤ maxLen) (hfit : ∀ i, i < n → (ls.getD i []).length ≤ maxLen ∧ Cnts (ls.getD i [])) : Dd w (some ⟨g, 0, none⟩) n n ls := by
  obtain ⟨f, t, hr, hc⟩ := h
  refine ⟨hl, Nat.le_refl _, hbig, fun hn => ⟨g, 0, rfl, hr.lt, fun i hi => ?_⟩⟩
  obtain ⟨h0, h1, h2⟩ := hc i hi
  refine ⟨_, _, _, ?_, h2.row.da rfl (hfit i hi).1 (hfit i hi).2⟩
  rw [Nat.zero_add, ← h0]; exact hr.cell hi
set_option maxHeartbeats 2000000 in
theorem toDatumSS_r (p : Option Addr) (n c : Nat) (ls : List (List Dt)) (w : World) (hD : Dd w p n c ls) (hn : n ≤ 1048576) (hfit : ∀ i, i < n → DsFit (ls.getD i []) 1048576) :
    Calls Tryz.prog 17 #[.slice p n c] w fun e w' => e = .returned (.slice (some ⟨w.heap.size, 0, none⟩) n n) ∧ Dd w' (some ⟨w.heap.size, 0, none⟩) n n ls ∧ RowDR w' w.heap.size ls n n ∧ Below w.heap.size w w' := by
  have HD : Hid (Dd w p n c ls) := hD
  have HT : Hid (∀ i, i < n → DsFit (ls.getD i []) 1048576) := hfit
  clear hD hfit
  have hmk := run_make_row' (P := Tryz.prog) 30 67 (.slice none 0 0) 24 Tryz.underlying30 infoDs rfl .i64 .i64 n (by omega) (by omega)
  go_enter Tryz.func17, Tryz.ntmps17
  go_wp2
  clear hmk
  go_loopw [4] (fun i wr => ∃ k : Nat, k ≤ n ∧ i = .int .i64 k ∧ Hid (RowDR wr w.heap.size ls n k) ∧ Hid (Below w.heap.size w wr)) (fun i _ => n - (intOf i).toNat)
  case atStart => exact ⟨0, Nat.zero_le _, rfl, ⟨_, fun _ => 0, World.rowIs_made w (.slice none 0 0) n 67, fun i hi => absurd hi (Nat.not_lt_zero i)⟩, below1 _ _⟩
  case round =>
    obtain ⟨k, hk, rfl, hr, hb⟩ := hrel
    by_cases hlt : k < n
    · obtain ⟨b, o, rfl, hbl, g⟩ := HD.out.cells (by omega)
      obtain ⟨q, m, d, e0, he⟩ := g k hlt
      clear g
      have hml : Hid ((ls.getD k []).length = m) := he.len
      have hft := HT.out k hlt
      have hm2 : m ≤ 1048576 := by have := hft.1; rw [hml.out] at this; omega
      have HTX : Hid (∀ i, i < m → (((ls.getD k []).getD i dt0).text.length : Int) ≤ 1048576) := fun i hi => hft.2 i (by rw [hml.out]; exact hi)
      rw [← hb.out.cell (p := ⟨b, o + k, none⟩) hbl] at e0
      have HE : Hid (Da wr q m d (ls.getD k [])) := he.below hb.out
      clear he hft
      have hgl := hr.out.lt
      have HST : Hid (∀ (w1 : World) (t : Nat), Below wr.heap.size wr w1 → wr.heap.size ≤ t → RowR w1 t (ls.getD k []) m m → RowDR (w1.setCell ⟨w.heap.size, k, none⟩ (.slice (some ⟨t, 0, none⟩) m m)) w.heap.size ls n (k + 1)) := by
        intro w1 t h1 h2 h3
        rw [← hml.out] at h3 ⊢
        exact (hr.out.below h1).store _ rfl t (by omega) h3
      generalize ls.getD k [] = x at HE HTX HST
      go_wp2_with (go_at_call 38; refine (toDatumSR q m d x _ HE.out hm2 HTX.out).mono ?_; rintro e w1 ⟨rfl, hrw, _, hb1⟩; have hz := hb1.size; obtain ⟨v0, cc0, ff0⟩ := (hr.out.below hb1).cells k hlt)
      exact ⟨⟨k + 1, by omega, by go_num, HST.out w1 _ hb1 (Nat.le_refl _) hrw, (hb.out.trans (hb1.mono hb.out.size)).setCell (Nat.le_refl _) _⟩, by simp [intOf]; omega⟩
    · have : k = n := by omega
      subst this
      go_wp2
      go_ret
      refine ⟨rfl, hr.out.dd HD.out.len (by unfold maxLen; omega) (fun i hi => ?_), hr.out, hb.out⟩
      obtain ⟨b, o, _, _, g⟩ := HD.out.cells (by omega)
      obtain ⟨q, m, d, _, he⟩ := g i hi
      exact ⟨by have := (HT.out i hi).1; unfold maxLen; omega, he.cnts⟩
theorem RowFR.setLow {w : World} {g n k : Nat} {fs : List Fn} (h : RowFR w g fs n k) {a : Addr} (ha : a.block < g) (v : Value) : RowFR (w.setCell a v) g fs n k := by
  obtain ⟨f, tf, tc, hr, hc⟩ := h
  refine ⟨f, tf, tc, hr.of_block (Below.heap_setCell w a v g (by omega)), fun i hi => ?_⟩
  obtain ⟨h0, h1, h2, h3, h4, h5, h6, h7, h8⟩ := hc i hi
  exact ⟨h0, h1, h2, h3, h4, h5.setOther (fun y hy => by cases hy; simp; omega) v, h6.setOther (fun y hy => by cases hy; simp; omega) v, h7.of_block (Below.heap_setCell w a v _ (by omega)), h8.of_block (Below.heap_setCell w a v _ (by omega))⟩
theorem RowDR.setLow {w : World} {g n k : Nat} {ls : List (List Dt)} (h : RowDR w g ls n k) {a : Addr} (ha : a.block < g) (v : Value) : RowDR (w.setCell a v) g ls n k := by
  obtain ⟨f, t, hr, hc⟩ := h
  refine ⟨f, t, hr.of_block (Below.heap_setCell w a v g (by omega)), fun i hi => ?_⟩
  obtain ⟨h0, h1, h2⟩ := hc i hi
  exact ⟨h0, h1, h2.setLow (by omega) v⟩
/-- What toModule leaves: rows of the call's own. -/
def ToMr (cn fn : Nat) (m : Md) (w w' : World) (e : Ending) : Prop := ∃ tc tf, e = .returned (.agg #[.slice (some ⟨tc, 0, none⟩) cn cn, .int .i64 m.globals, .slice (some ⟨tf, 0, none⟩) fn fn]) ∧ Mo w' (some ⟨tc, 0, none⟩) cn cn (some ⟨tf, 0, none⟩) fn fn m ∧ RowDR w' tc m.consts cn cn ∧ RowFR w' tf m.funcs fn fn ∧ w.heap.size ≤ tc ∧ w.heap.size ≤ tf ∧ Below w.heap.size w w'
set_option maxHeartbeats 2000000 in
theorem toModule_r (cp : Option Addr) (cn cc : Nat) (fp : Option Addr) (fn fc : Nat) (m : Md) (w : World) (hM : Mo w cp cn cc fp fn fc m) (hF : Fits cn fn m) :
    Calls Tryz.prog 6 #[.agg #[.slice cp cn cc, .int .i64 m.globals, .slice fp fn fc]] w fun e w' => ToMr cn fn m w w' e := by
  have HM : Hid (Mo w cp cn cc fp fn fc m) := hM
  have HF : Hid (Fits cn fn m) := hF
  clear hM hF
  go_enter Tryz.func6, Tryz.ntmps6
  go_wp2_with fail
  refine (toDatumSS_r cp cn cc m.consts _ (by exact HM.out.cs.below (below3 w _ _ _)) HF.out.hcn HF.out.cs).mono ?_
  rintro e w1 ⟨rfl, _, hrd, hb1⟩
  have hz' : w.heap.size + 3 ≤ w1.heap.size := by have := hb1.size; simpa using this
  have HRD : Hid (RowDR w1 (w.heap.size + 1 + 1 + 1) m.consts cn cn) := by unfold Hid; simpa using hrd
  have HBB : Hid (Below w.heap.size w w1) := (below3 w _ _ _).trans (hb1.mono (by simp; omega))
  have HX : Hid (B3 w1 (w.heap.size + 1 + 1) (.slice none 0 0) (.int .i64 0) (.slice none 0 0)) := by
    have := (B3.new ((w.alloc (.cells #[.slice cp cn cc, .int .i64 m.globals, .slice fp fn fc] 25)).alloc (.cells #[.slice none 0 0, .int .i64 0, .slice none 0 0] 33)) (.slice none 0 0) (.int .i64 0) (.slice none 0 0) 33).below hb1
    unfold Hid; simpa using this
  have HY : Hid (B3 w1 (w.heap.size + 1) (.slice none 0 0) (.int .i64 0) (.slice none 0 0)) := by
    have := ((B3.new (w.alloc (.cells #[.slice cp cn cc, .int .i64 m.globals, .slice fp fn fc] 25)) (.slice none 0 0) (.int .i64 0) (.slice none 0 0) 33).below (below1 _ _)).below hb1
    unfold Hid; simpa using this
  have HA : Hid (B3 w1 w.heap.size (.slice cp cn cc) (.int .i64 m.globals) (.slice fp fn fc)) := ((((B3.new w (.slice cp cn cc) (.int .i64 m.globals) (.slice fp fn fc) 25).below (below1 _ _)).below (below1 _ _)).below hb1)
  have x0 := HX.out.c0
  have x0f := HX.out.f0
  have x1 := HX.out.c1
  have x1f := HX.out.f1
  have a1 := HA.out.c1
  have a2 := HA.out.c2
  clear hrd hb1
  go_wp2_with fail
  have HX1 : Hid (B3 ((w1.setCell ⟨w.heap.size + 1 + 1, 0, none⟩ (.slice (some ⟨w.heap.size + 1 + 1 + 1, 0, none⟩) cn cn)).setCell ⟨w.heap.size + 1 + 1, 1, none⟩ (.int .i64 m.globals)) (w.heap.size + 1 + 1) (.slice (some ⟨w.heap.size + 1 + 1 + 1, 0, none⟩) cn cn) (.int .i64 m.globals) (.slice none 0 0)) := (HX.out.set0 _).set1 _
  have HY1 : Hid (B3 ((w1.setCell ⟨w.heap.size + 1 + 1, 0, none⟩ (.slice (some ⟨w.heap.size + 1 + 1 + 1, 0, none⟩) cn cn)).setCell ⟨w.heap.size + 1 + 1, 1, none⟩ (.int .i64 m.globals)) (w.heap.size + 1) (.slice none 0 0) (.int .i64 0) (.slice none 0 0)) := (HY.out.other (by simp) _).other (by simp) _
  have HBB1 : Hid (Below w.heap.size w ((w1.setCell ⟨w.heap.size + 1 + 1, 0, none⟩ (.slice (some ⟨w.heap.size + 1 + 1 + 1, 0, none⟩) cn cn)).setCell ⟨w.heap.size + 1 + 1, 1, none⟩ (.int .i64 m.globals))) := (HBB.out.setCell (by simp; omega) _).setCell (by simp; omega) _
  have HRD1 : Hid (RowDR ((w1.setCell ⟨w.heap.size + 1 + 1, 0, none⟩ (.slice (some ⟨w.heap.size + 1 + 1 + 1, 0, none⟩) cn cn)).setCell ⟨w.heap.size + 1 + 1, 1, none⟩ (.int .i64 m.globals)) (w.heap.size + 1 + 1 + 1) m.consts cn cn) := (HRD.out.setLow (by simp) _).setLow (by simp) _
  have hsz1 : w.heap.size + 3 ≤ ((w1.setCell ⟨w.heap.size + 1 + 1, 0, none⟩ (.slice (some ⟨w.heap.size + 1 + 1 + 1, 0, none⟩) cn cn)).setCell ⟨w.heap.size + 1 + 1, 1, none⟩ (.int .i64 m.globals)).heap.size := by simpa [World.setCell] using hz'
  clear x0 x0f x1 x1f a1 a2 HX HY HA HBB HRD hz'
  refine (toFuncS_r fp fn fc m.funcs _ (by exact HM.out.fs.below HBB1.out) HF.out.hfn HF.out.fs).mono ?_
  generalize (w1.setCell ⟨w.heap.size + 1 + 1, 0, none⟩ (.slice (some ⟨w.heap.size + 1 + 1 + 1, 0, none⟩) cn cn)).setCell ⟨w.heap.size + 1 + 1, 1, none⟩ (.int .i64 m.globals) = w1' at HX1 HY1 HBB1 HRD1 hsz1
  rintro e w2 ⟨rfl, _, hrf, hb2⟩
  have HRF : Hid (RowFR w2 w1'.heap.size m.funcs fn fn) := hrf
  have HRD2 : Hid (RowDR w2 (w.heap.size + 1 + 1 + 1) m.consts cn cn) := HRD1.out.below hb2
  have HX2 : Hid (B3 w2 (w.heap.size + 1 + 1) (.slice (some ⟨w.heap.size + 1 + 1 + 1, 0, none⟩) cn cn) (.int .i64 m.globals) (.slice none 0 0)) := HX1.out.below hb2
  have HY2 : Hid (B3 w2 (w.heap.size + 1) (.slice none 0 0) (.int .i64 0) (.slice none 0 0)) := HY1.out.below hb2
  have HBB2 : Hid (Below w.heap.size w w2) := HBB1.out.trans (hb2.mono HBB1.out.size)
  have x0 := HX2.out.c0
  have x1 := HX2.out.c1
  have x2 := HX2.out.c2
  have x2f := HX2.out.f2
  have y0 := HY2.out.c0
  have y1 := HY2.out.c1
  have y2 := HY2.out.c2
  have y0f := HY2.out.f0
  have y1f := HY2.out.f1
  have y2f := HY2.out.f2
  clear hrf hb2 HX1 HY1 HRD1 HBB1
  go_wp2
  refine bodyPost_ret (v := .agg #[.slice (some ⟨w.heap.size + 1 + 1 + 1, 0, none⟩) cn cn, .int .i64 m.globals, .slice (some ⟨w1'.heap.size, 0, none⟩) fn fn]) (by simp [results, Tryz.results6, go_sem, y0, y1, y2]) rfl ⟨_, _, rfl, ⟨?_, ?_⟩, ?_, ?_, by omega, by omega, ?_⟩
  · exact (((((HRD2.out.setLow (by simp) _).setLow (by simp) _).setLow (by simp) _).setLow (by simp) _)).dd HM.out.cs.len (by have := HF.out.hcn; unfold maxLen; omega) (HM.out.fits HF.out)
  · exact (((((HRF.out.setLow (by simp; omega) _).setLow (by simp; omega) _).setLow (by simp; omega) _).setLow (by simp; omega) _)).fu HM.out.fs.len (by have := HF.out.hfn; unfold maxLen; omega)
  · exact ((((HRD2.out.setLow (by simp) _).setLow (by simp) _).setLow (by simp) _).setLow (by simp) _)
  · exact ((((HRF.out.setLow (by simp; omega) _).setLow (by simp; omega) _).setLow (by simp; omega) _).setLow (by simp; omega) _)
  · exact (((HBB2.out.setCell (by simp; omega) _).setCell (by simp) _).setCell (by simp) _).setCell (by simp) _
end Go.Proofs.YtdjdhjciealfhaaGreatDoor
