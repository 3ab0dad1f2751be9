import Derived.Test.YtmmkpmgidoelpaaRows
import Derived.Test.YtmmkpmgidoelpaaP2
import Derived.WalkKit
import Derived.WalkSpells
import Derived.WalkLawsBesides
import Derived.Deep.QuietTactic
import Derived.BigQuiet
import Derived.Deep.OwnRows
namespace Go.Proofs.Ytmmkpmgidoelpaa
open Go.RowKit Ch2
theorem ret_bool {a b : Bool} (h : a = b) : Ending.returned (.bool a) = .returned (.bool b) := by rw [h]
theorem ret_int {k : IntKind} {a b : Int} (h : a = b) : Ending.returned (.int k a) = .returned (.int k b) := by rw [h]
theorem info3 : (Try.prog.info? 3).map (fun i => (i.zero, i.size, i.bytes)) = some (some (.int .i64 0), 1, 8) := by kernel_rfl
theorem below1 (w : World) (o : Obj) : Below w.heap.size w (w.alloc o) := (Below.refl _ w).alloc (Nat.le_refl _) _
theorem below2 (w : World) (o o2 : Obj) : Below w.heap.size w ((w.alloc o).alloc o2) := (below1 w o).alloc (by simp) _
theorem below3 (w : World) (o o2 o3 : Obj) : Below w.heap.size w (((w.alloc o).alloc o2).alloc o3) := (below2 w o o2).alloc (by simp; omega) _

/-- A slice of ints that lies in w and reads as xs. -/
structure Is (w : World) (p : Option Addr) (n c : Nat) (xs : List Int) : Prop where
  len : xs.length = n
  cap : n ≤ c
  big : c ≤ maxLen
  rng : ∀ i, -9223372036854775808 ≤ xs.getD i 0 ∧ xs.getD i 0 ≤ 9223372036854775807
  cells : 0 < n → ∃ b o, p = some ⟨b, o, none⟩ ∧ b < w.heap.size ∧ ∀ i, i < n → w.cell? ⟨b, o + i, none⟩ = some (.int .i64 (xs.getD i 0))
theorem Is.below {w w' : World} {p : Option Addr} {n c : Nat} {xs : List Int} (h : Is w p n c xs) (hb : Below w.heap.size w w') : Is w' p n c xs := by
  refine ⟨h.len, h.cap, h.big, h.rng, fun hn => ?_⟩
  obtain ⟨b, o, e, hlt, hc⟩ := h.cells hn
  exact ⟨b, o, e, Nat.lt_of_lt_of_le hlt hb.size, fun i hi => by rw [hb.cell (p := ⟨b, o + i, none⟩) hlt]; exact hc i hi⟩
theorem Is.small {w : World} {p : Option Addr} {n c : Nat} {xs : List Int} (h : Is w p n c xs) : n ≤ 9223372036854775807 ∧ c ≤ 9223372036854775807 := by
  have h1 := h.cap; have h2 := h.big; unfold maxLen at h2; omega

def szOf (left : Int) (n : Nat) : Int := if left - n < 0 then -1 else left - n
/-! ### eqIntS, at equal ints -/
/-! ### toIntS -/
/-- Ints in a block of the call's own, from B on, which may be written. -/
def Ro (w : World) (g n : Nat) (xs : List Int) : Prop := w.rowIs g 3 n (fun j => .int .i64 (xs.getD j 0))
theorem Ro.is {w : World} {g n : Nat} {xs : List Int} (h : Ro w g n xs) (hl : xs.length = n) (hn : n ≤ maxLen) (hr : ∀ i, -9223372036854775808 ≤ xs.getD i 0 ∧ xs.getD i 0 ≤ 9223372036854775807) : Is w (some ⟨g, 0, none⟩) n n xs :=
  ⟨hl, Nat.le_refl _, hn, hr, fun _ => ⟨g, 0, rfl, h.lt, fun i hi => by rw [Nat.zero_add]; exact h.cell hi⟩⟩
theorem Ro.below {w w' : World} {g n : Nat} {xs : List Int} (h : Ro w g n xs) (hb : Below w.heap.size w w') : Ro w' g n xs := h.of_block (hb.block g h.lt)
/-! ### marks -/
/-! ### rows that may be written -/
def IsR (w : World) (b : Nat) (e : TypeId) (m : Nat) : Prop := ∃ f, w.rowIs b e m f
theorem IsR.setCell {w : World} {b m : Nat} {e : TypeId} (h : IsR w b e m) (g i : Nat) (v : Value) : IsR (w.setCell ⟨g, i, none⟩ v) b e m := by
  obtain ⟨f, hf⟩ := h
  by_cases hg : b = g
  · subst hg; exact ⟨_, hf.set i v⟩
  · exact ⟨f, hf.setOther hg v⟩
theorem IsR.of_block {w w' : World} {b m : Nat} {e : TypeId} (h : IsR w b e m) (hb : w'.heap[b]? = w.heap[b]?) : IsR w' b e m := by
  obtain ⟨f, hf⟩ := h
  exact ⟨f, hf.of_block hb⟩
theorem IsR.lt {w : World} {b m : Nat} {e : TypeId} (h : IsR w b e m) : b < w.heap.size := by obtain ⟨f, hf⟩ := h; exact hf.lt
theorem IsR.at {w : World} {b m : Nat} {e : TypeId} (h : IsR w b e m) {i : Nat} (hi : i < m) : (∃ v, w.cell? ⟨b, i, none⟩ = some v) ∧ w.frozen? ⟨b, i, none⟩ = false := by
  obtain ⟨f, hf⟩ := h
  exact ⟨⟨_, hf.cell hi⟩, hf.frozen i⟩
/-- Only blocks from lo to ahead of hi have turned. -/
structure Within (lo hi : Nat) (w w' : World) : Prop where
  os : w'.os = w.os
  tape : w'.tape = w.tape
  output : w'.output = w.output
  size : w'.heap.size = w.heap.size
  block : ∀ k, k < lo ∨ hi ≤ k → w'.heap[k]? = w.heap[k]?
theorem Within.refl (lo hi : Nat) (w : World) : Within lo hi w w := ⟨rfl, rfl, rfl, rfl, fun _ _ => rfl⟩
theorem Within.trans {lo hi : Nat} {a b c : World} (h : Within lo hi a b) (k : Within lo hi b c) : Within lo hi a c :=
  ⟨k.os.trans h.os, k.tape.trans h.tape, k.output.trans h.output, k.size.trans h.size, fun i hi => (k.block i hi).trans (h.block i hi)⟩
theorem Within.wider {lo hi lo' hi' : Nat} {a b : World} (h : Within lo hi a b) (h1 : lo' ≤ lo) (h2 : hi ≤ hi') : Within lo' hi' a b :=
  ⟨h.os, h.tape, h.output, h.size, fun k hk => h.block k (by omega)⟩
theorem Within.set {lo hi : Nat} {a w : World} (h : Within lo hi a w) {p : Addr} (h1 : lo ≤ p.block) (h2 : p.block < hi) (v : Value) : Within lo hi a (w.setCell p v) :=
  h.trans ⟨rfl, rfl, rfl, by simp [World.setCell], fun k hk => Below.heap_setCell _ _ _ _ (by omega)⟩
theorem Within.below {lo hi : Nat} {a w : World} (h : Within lo hi a w) {B : Nat} (hB : B ≤ lo) : Below B a w :=
  ⟨h.os, h.tape, h.output, by rw [h.size]; exact Nat.le_refl _, fun k hk => h.block k (by omega)⟩
theorem bcell {W w1 : World} (hb : Below W.heap.size W w1) : (∀ b o, b < W.heap.size → w1.cell? ⟨b, o, none⟩ = W.cell? ⟨b, o, none⟩) ∧ (∀ b o, b < W.heap.size → w1.frozen? ⟨b, o, none⟩ = W.frozen? ⟨b, o, none⟩) :=
  ⟨fun b o h => hb.cell (p := ⟨b, o, none⟩) h, fun b o h => hb.frozen (p := ⟨b, o, none⟩) h⟩
theorem below_drewN' {B : Nat} {a w : World} (h : Below B a w) (q : Nat) : Below B a (w.drewN q) := ⟨h.os, h.tape, h.output, h.size, h.block⟩
theorem Is.within {lo hi : Nat} {w w' : World} {p : Option Addr} {n c : Nat} {xs : List Int} (h : Is w p n c xs) (hw : Within lo hi w w') (hp : ∀ a, p = some a → 0 < n → a.block < lo ∨ hi ≤ a.block) : Is w' p n c xs := by
  refine ⟨h.len, h.cap, h.big, h.rng, fun hn => ?_⟩
  obtain ⟨b, o, e, hlt, hc⟩ := h.cells hn
  have ho := hp _ e hn
  exact ⟨b, o, e, by rw [hw.size]; exact hlt, fun i hi => by rw [World.cell?_of_block (w := w) (hw.block b ho)]; exact hc i hi⟩
/-- A slice of ints from B on to ahead of E that may be written. -/
def Wr (w : World) (B E : Nat) (p : Option Addr) (n : Nat) : Prop := 0 < n → ∃ t m f, p = some ⟨t, 0, none⟩ ∧ B ≤ t ∧ t < E ∧ n ≤ m ∧ w.rowIs t 3 m f
/-- It holds the marks from k on. -/
def Held (w : World) (p : Option Addr) (n : Nat) (k : Int) : Prop := 0 < n → ∃ t, p = some ⟨t, 0, none⟩ ∧ t < w.heap.size ∧ ∀ j, j < n → w.cell? ⟨t, j, none⟩ = some (.int .i64 (k + j))
theorem Ro.wr {w : World} {g n : Nat} {xs : List Int} (h : Ro w g n xs) {B E : Nat} (h1 : B ≤ g) (h2 : g < E) : Wr w B E (some ⟨g, 0, none⟩) n := fun _ => ⟨g, n, _, rfl, h1, h2, Nat.le_refl _, h⟩
theorem Wr.below {w w' : World} {B E n : Nat} {p : Option Addr} (h : Wr w B E p n) (hb : Below w.heap.size w w') : Wr w' B E p n := by
  intro hn
  obtain ⟨t, m, f, e, h1, h2, h3, h4⟩ := h hn
  exact ⟨t, m, f, e, h1, h2, h3, h4.of_block (hb.block t h4.lt)⟩
theorem Wr.within {w w' : World} {B E n lo hi : Nat} {p : Option Addr} (h : Wr w B E p n) (hb : Within lo hi w w') (hB : hi ≤ B ∨ E ≤ lo) : Wr w' B E p n := by
  intro hn
  obtain ⟨t, m, f, e, h1, h2, h3, h4⟩ := h hn
  exact ⟨t, m, f, e, h1, h2, h3, h4.of_block (hb.block t (by omega))⟩
theorem Held.within {w w' : World} {n lo hi : Nat} {p : Option Addr} {k : Int} (h : Held w p n k) (hb : Within lo hi w w') (hp : ∀ a, p = some a → a.block < lo ∨ hi ≤ a.block) : Held w' p n k := by
  intro hn
  obtain ⟨t, e, h0, h1⟩ := h hn
  exact ⟨t, e, by rw [hb.size]; exact h0, fun j hj => by rw [World.cell?_of_block (w := w) (hb.block t (hp _ e))]; exact h1 j hj⟩
theorem Held.below {w w' : World} {n : Nat} {p : Option Addr} {k : Int} (h : Held w p n k) (hb : Below w.heap.size w w') : Held w' p n k := by
  intro hn
  obtain ⟨t, e, h0, h1⟩ := h hn
  exact ⟨t, e, Nat.lt_of_lt_of_le h0 hb.size, fun j hj => by rw [hb.cell (p := ⟨t, j, none⟩) h0]; exact h1 j hj⟩
end Go.Proofs.Ytmmkpmgidoelpaa
