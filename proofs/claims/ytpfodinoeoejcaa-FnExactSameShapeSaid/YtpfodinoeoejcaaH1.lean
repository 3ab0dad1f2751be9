import Derived.Test.YtpfodinoeoejcaaRows
import Derived.Test.YtpfodinoeoejcaaP2
import Derived.WalkKit
import Derived.WalkSpells
import Derived.WalkLawsBesides
import Derived.Deep.QuietTactic
import Derived.BigQuiet
import Derived.Deep.OwnRows
namespace Go.Proofs.Ytpfodinoeoejcaa
open Go.RowKit Ch2
theorem ret_bool {a b : Bool} (h : a = b) : Ending.returned (.bool a) = .returned (.bool b) := by rw [h]
theorem ret_int {k : IntKind} {a b : Int} (h : a = b) : Ending.returned (.int k a) = .returned (.int k b) := by rw [h]
theorem info3 : (Try.prog.info? 3).map (fun i => (i.zero, i.size, i.bytes)) = some (some (.int .i64 0), 1, 8) := by kernel_rfl
theorem below1 (w : World) (o : Obj) : Below w.heap.size w (w.alloc o) := (Below.refl _ w).alloc (Nat.le_refl _) _
theorem below2 (w : World) (o o2 : Obj) : Below w.heap.size w ((w.alloc o).alloc o2) := (below1 w o).alloc (by simp) _
theorem below3 (w : World) (o o2 o3 : Obj) : Below w.heap.size w (((w.alloc o).alloc o2).alloc o3) := (below2 w o o2).alloc (by simp; omega) _

/-- A slice of ints that lies in w and reads as xs. -/
structure Is (w : World) (p : Option Addr) (n c : Nat) (xs : List Int) : Prop where
  len : xs.length = n
  cap : n ≤ c
  big : c ≤ maxLen
  rng : ∀ i, -9223372036854775808 ≤ xs.getD i 0 ∧ xs.getD i 0 ≤ 9223372036854775807
  cells : 0 < n → ∃ b o, p = some ⟨b, o, none⟩ ∧ b < w.heap.size ∧ ∀ i, i < n → w.cell? ⟨b, o + i, none⟩ = some (.int .i64 (xs.getD i 0))
theorem Is.below {w w' : World} {p : Option Addr} {n c : Nat} {xs : List Int} (h : Is w p n c xs) (hb : Below w.heap.size w w') : Is w' p n c xs := by
  refine ⟨h.len, h.cap, h.big, h.rng, fun hn => ?_⟩
  obtain ⟨b, o, e, hlt, hc⟩ := h.cells hn
  exact ⟨b, o, e, Nat.lt_of_lt_of_le hlt hb.size, fun i hi => by rw [hb.cell (p := ⟨b, o + i, none⟩) hlt]; exact hc i hi⟩
theorem Is.small {w : World} {p : Option Addr} {n c : Nat} {xs : List Int} (h : Is w p n c xs) : n ≤ 9223372036854775807 ∧ c ≤ 9223372036854775807 := by
  have h1 := h.cap; have h2 := h.big; unfold maxLen at h2; omega

def szOf (left : Int) (n : Nat) : Int := if left - n < 0 then -1 else left - n
set_option maxHeartbeats 400000 in
theorem szIntS_c (p : Option Addr) (n c : Nat) (left : Int) (w : World) (hn : n ≤ 9223372036854775807) (h0 : 0 ≤ left) (h1 : left ≤ 1048576) :
    Calls Try.prog 43 #[.slice p n c, .int .i64 left] w fun e w' => e = .returned (.int .i64 (szOf left n)) ∧ w' = w := by
  unfold szOf
  by_cases h : left - n < 0
  · rw [if_pos h]
    go_enter Try.func43, Try.ntmps43
    go_wp2
    go_ret
    exact ⟨rfl, rfl⟩
  · rw [if_neg h]
    go_enter Try.func43, Try.ntmps43
    go_wp2
    go_ret
    exact ⟨rfl, rfl⟩
set_option maxHeartbeats 400000 in
theorem szHeap_c (p : Option Addr) (n c : Nat) (top left : Int) (w : World) (hn : n ≤ 9223372036854775807) (h0 : 0 ≤ left) (h1 : left ≤ 1048576) :
    Calls Try.prog 20 #[.agg #[.slice p n c, .int .i64 top], .int .i64 left] w fun e w' => e = .returned (.int .i64 (szOf left n)) ∧ Below w.heap.size w w' := by
  by_cases h : left - n < 0
  · have HS : Hid (szOf left n = -1) := by unfold Hid szOf; rw [if_pos h]
    go_enter Try.func20, Try.ntmps20
    go_wp2_with (go_at_call 43; refine (szIntS_c _ _ _ _ _ hn h0 h1).mono ?_; rintro e w' ⟨rfl, rfl⟩; rw [HS.out])
    go_ret
    exact ⟨ret_int HS.out.symm, (Below.refl _ _).alloc (Nat.le_refl _) _⟩
  · have HS : Hid (szOf left n = left - n) := by unfold Hid szOf; rw [if_neg h]
    go_enter Try.func20, Try.ntmps20
    go_wp2_with (go_at_call 43; refine (szIntS_c _ _ _ _ _ hn h0 h1).mono ?_; rintro e w' ⟨rfl, rfl⟩; rw [HS.out])
    go_ret
    exact ⟨ret_int HS.out.symm, (Below.refl _ _).alloc (Nat.le_refl _) _⟩

/-! ### eqIntS, at equal ints -/
set_option maxHeartbeats 400000 in
theorem eqIntS_c (p1 p2 : Option Addr) (n c1 c2 : Nat) (xs : List Int) (w : World) (h1 : Is w p1 n c1 xs) (h2 : Is w p2 n c2 xs) :
    Calls Try.prog 25 #[.slice p1 n c1, .slice p2 n c2] w fun e w' => e = .returned (.bool true) ∧ ∃ q, w' = w.drewN q := by
  have hbig : n ≤ 9223372036854775807 := h1.small.1
  have HC1 : Hid (Is w p1 n c1 xs) := h1
  have HC2 : Hid (Is w p2 n c2 xs) := h2
  clear h1 h2
  go_enter Try.func25, Try.ntmps25
  go_wp2
  go_loopw [5] (fun i wr => ∃ k q : Nat, k ≤ n ∧ i = .int .i64 k ∧ wr = w.drewN q) (fun i _ => n - (intOf i).toNat)
  case atStart => exact ⟨0, 0, Nat.zero_le _, rfl, rfl⟩
  case round =>
    obtain ⟨k, q, hk, rfl, rfl⟩ := hrel
    by_cases hlt : k < n
    · obtain ⟨b1, o1, rfl, _, g1⟩ := HC1.out.cells (by omega)
      obtain ⟨b2, o2, rfl, _, g2⟩ := HC2.out.cells (by omega)
      have g1 := g1 k hlt
      have g2 := g2 k hlt
      go_wp2
      go_quiet (fail)
      go_wp2
      exact ⟨⟨k + 1, q + nq, by omega, by go_num, rfl⟩, by simp [intOf]; omega⟩
    · go_wp2
      go_ret
      exact ⟨rfl, q, rfl⟩

/-! ### toIntS -/
/-- Ints in a block of the call's own, from B on, which may be written. -/
def Ro (w : World) (g n : Nat) (xs : List Int) : Prop := w.rowIs g 3 n (fun j => .int .i64 (xs.getD j 0))
theorem Ro.is {w : World} {g n : Nat} {xs : List Int} (h : Ro w g n xs) (hl : xs.length = n) (hn : n ≤ maxLen) (hr : ∀ i, -9223372036854775808 ≤ xs.getD i 0 ∧ xs.getD i 0 ≤ 9223372036854775807) : Is w (some ⟨g, 0, none⟩) n n xs :=
  ⟨hl, Nat.le_refl _, hn, hr, fun _ => ⟨g, 0, rfl, h.lt, fun i hi => by rw [Nat.zero_add]; exact h.cell hi⟩⟩
theorem Ro.below {w w' : World} {g n : Nat} {xs : List Int} (h : Ro w g n xs) (hb : Below w.heap.size w w') : Ro w' g n xs := h.of_block (hb.block g h.lt)
set_option maxHeartbeats 400000 in
theorem toIntS_c (p : Option Addr) (n c : Nat) (xs : List Int) (w : World) (h : Is w p n c xs) (hn : n ≤ 1048576) :
    Calls Try.prog 23 #[.slice p n c] w fun e w' => e = .returned (.slice (some ⟨w.heap.size, 0, none⟩) n n) ∧ Ro w' w.heap.size n xs ∧ Below w.heap.size w w' := by
  have HB : Hid (Is w p n c xs) := h
  clear h
  have hmk := run_make_row' (P := Try.prog) 29 3 (.int .i64 0) 8 Try.underlying29 info3 rfl .i64 .i64 n (by omega) (by omega)
  go_enter Try.func23, Try.ntmps23
  go_wp2
  clear hmk
  go_loopw [4] (fun i wr => ∃ k : Nat, k ≤ n ∧ i = .int .i64 k ∧ Hid (wr.rowIs w.heap.size 3 n (fun j => .int .i64 (if j < k then xs.getD j 0 else 0))) ∧ Hid (Below w.heap.size w wr)) (fun i _ => n - (intOf i).toNat)
  case atStart =>
    refine ⟨0, Nat.zero_le _, rfl, ?_, ?_⟩
    · exact (World.rowIs_made w (.int .i64 0) n 3).congr (fun j _ => by simp)
    · exact (Below.refl _ _).alloc (Nat.le_refl _) _
  case round =>
    obtain ⟨k, hk, rfl, hr, hb⟩ := hrel
    by_cases hlt : k < n
    · obtain ⟨b, o, rfl, hold, g⟩ := HB.out.cells (by omega)
      have g1 := g k hlt
      clear g
      rw [← hb.out.cell (p := ⟨b, o + k, none⟩) hold] at g1
      have g2 := hr.out.cell hlt
      have g3 := hr.out.frozen k
      go_wp2
      refine ⟨⟨k + 1, by omega, by go_num, (hr.out.set k _).congr (fun j hj => ?_), hb.out.setCell (Nat.le_refl _) _⟩, by simp [intOf]; omega⟩
      by_cases e : j = k
      · subst e; simp
      · by_cases e2 : j < k
        · simp [e, e2, show j < k + 1 by omega]
        · simp [e, e2, show ¬ j < k + 1 by omega]
    · have : k = n := by omega
      subst this
      go_wp2
      go_ret
      exact ⟨rfl, hr.out.congr (fun j hj => by rw [if_pos hj]), hb.out⟩

/-! ### marks -/
set_option maxHeartbeats 400000 in
theorem markIntS_nil (p : Option Addr) (c : Nat) (k : Int) (w : World) : Calls Try.prog 28 #[.slice p 0 c, .int .i64 k] w fun e w' => e = .returned (.int .i64 k) ∧ w' = w := by
  go_enter Try.func28, Try.ntmps28
  go_wp2
  go_loop [1, 5] (fun kv i => kv = .int .i64 k ∧ i = .int .i64 0) (fun _ _ => 0)
  case atStart => exact ⟨rfl, rfl⟩
  case round =>
    obtain ⟨rfl, rfl⟩ := hrel
    go_wp2
    go_ret
    exact ⟨rfl, rfl⟩
/-! ### rows that may be written -/
def IsR (w : World) (b : Nat) (e : TypeId) (m : Nat) : Prop := ∃ f, w.rowIs b e m f
theorem IsR.setCell {w : World} {b m : Nat} {e : TypeId} (h : IsR w b e m) (g i : Nat) (v : Value) : IsR (w.setCell ⟨g, i, none⟩ v) b e m := by
  obtain ⟨f, hf⟩ := h
  by_cases hg : b = g
  · subst hg; exact ⟨_, hf.set i v⟩
  · exact ⟨f, hf.setOther hg v⟩
theorem IsR.of_block {w w' : World} {b m : Nat} {e : TypeId} (h : IsR w b e m) (hb : w'.heap[b]? = w.heap[b]?) : IsR w' b e m := by
  obtain ⟨f, hf⟩ := h
  exact ⟨f, hf.of_block hb⟩
theorem IsR.lt {w : World} {b m : Nat} {e : TypeId} (h : IsR w b e m) : b < w.heap.size := by obtain ⟨f, hf⟩ := h; exact hf.lt
theorem IsR.at {w : World} {b m : Nat} {e : TypeId} (h : IsR w b e m) {i : Nat} (hi : i < m) : (∃ v, w.cell? ⟨b, i, none⟩ = some v) ∧ w.frozen? ⟨b, i, none⟩ = false := by
  obtain ⟨f, hf⟩ := h
  exact ⟨⟨_, hf.cell hi⟩, hf.frozen i⟩
/-- Only blocks from lo to ahead of hi have turned. -/
structure Within (lo hi : Nat) (w w' : World) : Prop where
  os : w'.os = w.os
  tape : w'.tape = w.tape
  output : w'.output = w.output
  size : w'.heap.size = w.heap.size
  block : ∀ k, k < lo ∨ hi ≤ k → w'.heap[k]? = w.heap[k]?
theorem Within.refl (lo hi : Nat) (w : World) : Within lo hi w w := ⟨rfl, rfl, rfl, rfl, fun _ _ => rfl⟩
theorem Within.trans {lo hi : Nat} {a b c : World} (h : Within lo hi a b) (k : Within lo hi b c) : Within lo hi a c :=
  ⟨k.os.trans h.os, k.tape.trans h.tape, k.output.trans h.output, k.size.trans h.size, fun i hi => (k.block i hi).trans (h.block i hi)⟩
theorem Within.wider {lo hi lo' hi' : Nat} {a b : World} (h : Within lo hi a b) (h1 : lo' ≤ lo) (h2 : hi ≤ hi') : Within lo' hi' a b :=
  ⟨h.os, h.tape, h.output, h.size, fun k hk => h.block k (by omega)⟩
theorem Within.set {lo hi : Nat} {a w : World} (h : Within lo hi a w) {p : Addr} (h1 : lo ≤ p.block) (h2 : p.block < hi) (v : Value) : Within lo hi a (w.setCell p v) :=
  h.trans ⟨rfl, rfl, rfl, by simp [World.setCell], fun k hk => Below.heap_setCell _ _ _ _ (by omega)⟩
theorem Within.below {lo hi : Nat} {a w : World} (h : Within lo hi a w) {B : Nat} (hB : B ≤ lo) : Below B a w :=
  ⟨h.os, h.tape, h.output, by rw [h.size]; exact Nat.le_refl _, fun k hk => h.block k (by omega)⟩
theorem bcell {W w1 : World} (hb : Below W.heap.size W w1) : (∀ b o, b < W.heap.size → w1.cell? ⟨b, o, none⟩ = W.cell? ⟨b, o, none⟩) ∧ (∀ b o, b < W.heap.size → w1.frozen? ⟨b, o, none⟩ = W.frozen? ⟨b, o, none⟩) :=
  ⟨fun b o h => hb.cell (p := ⟨b, o, none⟩) h, fun b o h => hb.frozen (p := ⟨b, o, none⟩) h⟩
theorem below_drewN' {B : Nat} {a w : World} (h : Below B a w) (q : Nat) : Below B a (w.drewN q) := ⟨h.os, h.tape, h.output, h.size, h.block⟩
theorem Is.within {lo hi : Nat} {w w' : World} {p : Option Addr} {n c : Nat} {xs : List Int} (h : Is w p n c xs) (hw : Within lo hi w w') (hp : ∀ a, p = some a → 0 < n → a.block < lo ∨ hi ≤ a.block) : Is w' p n c xs := by
  refine ⟨h.len, h.cap, h.big, h.rng, fun hn => ?_⟩
  obtain ⟨b, o, e, hlt, hc⟩ := h.cells hn
  have ho := hp _ e hn
  exact ⟨b, o, e, by rw [hw.size]; exact hlt, fun i hi => by rw [World.cell?_of_block (w := w) (hw.block b ho)]; exact hc i hi⟩
set_option maxHeartbeats 1000000 in
theorem markIntS_row (t n m c : Nat) (f : Nat → Value) (k : Int) (w : World) (hr : w.rowIs t 3 m f) (hnm : n ≤ m) (hn : n ≤ 1048576) (h0 : 0 ≤ k) (h1 : k ≤ 1000000000000000) :
    Calls Try.prog 28 #[.slice (some ⟨t, 0, none⟩) n c, .int .i64 k] w fun e w' => e = .returned (.int .i64 (k + n)) ∧ w'.rowIs t 3 m (fun j => if j < n then .int .i64 (k + j) else f j) ∧ Within t (t + 1) w w' := by
  have HR : Hid (w.rowIs t 3 m f) := hr
  clear hr
  go_enter Try.func28, Try.ntmps28
  go_wp2
  go_loopw [1, 5] (fun kv i wr => ∃ (j : Nat) (z : Int), j ≤ n ∧ i = .int .i64 j ∧ kv = .int .i64 z ∧ Hid (z = k + j) ∧ Hid (wr.rowIs t 3 m (fun x => if x < j then .int .i64 (k + x) else f x)) ∧ Hid (Within t (t + 1) w wr)) (fun _ i _ => n - (intOf i).toNat)
  case atStart => exact ⟨0, k, Nat.zero_le _, rfl, rfl, by unfold Hid; simp, HR.out.congr (fun j _ => by simp), Within.refl _ _ _⟩
  case round =>
    obtain ⟨j, z, hj, rfl, rfl, hz, hR, hW⟩ := hrel
    have hz0 : 0 ≤ z := by rw [hz.out]; omega
    have hz1 : z ≤ 2000000000000000 := by rw [hz.out]; omega
    by_cases hlt : j < n
    · have g2 := hR.out.cell (show j < m by omega)
      have g3 := hR.out.frozen j
      obtain ⟨y, hy⟩ : ∃ y, (if j < j then Value.int .i64 (k + j) else f j) = y := ⟨_, rfl⟩
      simp only [hy] at g2
      clear hy
      go_wp2
      refine ⟨⟨j + 1, z + 1, by omega, by go_num, rfl, by unfold Hid; rw [hz.out]; omega, (hR.out.set j _).congr (fun x hx => ?_), hW.out.set (Nat.le_refl _) (Nat.lt_succ_self _) _⟩, by simp [intOf]; omega⟩
      by_cases e : x = j
      · subst e
        rw [if_pos rfl, if_pos (Nat.lt_succ_self _), hz.out]
      · by_cases e2 : x < j
        · rw [if_neg e, if_pos e2, if_pos (by omega)]
        · rw [if_neg e, if_neg e2, if_neg (by omega)]
    · obtain rfl : j = n := by omega
      go_wp2
      go_ret
      exact ⟨ret_int hz.out, hR.out, hW.out⟩
set_option maxHeartbeats 400000 in
theorem heldIntS_nil (p : Option Addr) (c : Nat) (k : Int) (w : World) : Calls Try.prog 31 #[.slice p 0 c, .int .i64 k] w fun e w' => e = .returned (.int .i64 k) ∧ w' = w := by
  go_enter Try.func31, Try.ntmps31
  go_wp2
  go_loop [1, 5] (fun kv i => kv = .int .i64 k ∧ i = .int .i64 0) (fun _ _ => 0)
  case atStart => exact ⟨rfl, rfl⟩
  case round =>
    obtain ⟨rfl, rfl⟩ := hrel
    go_wp2
    go_ret
    exact ⟨rfl, rfl⟩
set_option maxHeartbeats 1000000 in
theorem heldIntS_row (t n c : Nat) (k : Int) (w : World) (hc : ∀ j, j < n → w.cell? ⟨t, j, none⟩ = some (.int .i64 (k + j))) (hn : n ≤ 1048576) (h0 : 0 ≤ k) (h1 : k ≤ 1000000000000000) :
    Calls Try.prog 31 #[.slice (some ⟨t, 0, none⟩) n c, .int .i64 k] w fun e w' => e = .returned (.int .i64 (k + n)) ∧ w' = w := by
  have HC : Hid (∀ j, j < n → w.cell? ⟨t, j, none⟩ = some (.int .i64 (k + j))) := hc
  clear hc
  go_enter Try.func31, Try.ntmps31
  go_wp2
  go_loop [1, 5] (fun kv i => ∃ (j : Nat) (z : Int), j ≤ n ∧ i = .int .i64 j ∧ kv = .int .i64 z ∧ Hid (z = k + j)) (fun _ i => n - (intOf i).toNat)
  case atStart => exact ⟨0, k, Nat.zero_le _, rfl, rfl, by unfold Hid; simp⟩
  case round =>
    obtain ⟨j, z, hj, rfl, rfl, hz⟩ := hrel
    have hz0 : 0 ≤ z := by rw [hz.out]; omega
    have hz1 : z ≤ 2000000000000000 := by rw [hz.out]; omega
    by_cases hlt : j < n
    · have g2 := HC.out j hlt
      rw [← hz.out] at g2
      go_wp2
      exact ⟨⟨j + 1, z + 1, by omega, by go_num, rfl, by unfold Hid; rw [hz.out]; omega⟩, by simp [intOf]; omega⟩
    · obtain rfl : j = n := by omega
      go_wp2
      go_ret
      exact ⟨ret_int hz.out, rfl⟩
/-- A slice of ints from B on to ahead of E that may be written. -/
def Wr (w : World) (B E : Nat) (p : Option Addr) (n : Nat) : Prop := 0 < n → ∃ t m f, p = some ⟨t, 0, none⟩ ∧ B ≤ t ∧ t < E ∧ n ≤ m ∧ w.rowIs t 3 m f
/-- It holds the marks from k on. -/
def Held (w : World) (p : Option Addr) (n : Nat) (k : Int) : Prop := 0 < n → ∃ t, p = some ⟨t, 0, none⟩ ∧ t < w.heap.size ∧ ∀ j, j < n → w.cell? ⟨t, j, none⟩ = some (.int .i64 (k + j))
theorem Ro.wr {w : World} {g n : Nat} {xs : List Int} (h : Ro w g n xs) {B E : Nat} (h1 : B ≤ g) (h2 : g < E) : Wr w B E (some ⟨g, 0, none⟩) n := fun _ => ⟨g, n, _, rfl, h1, h2, Nat.le_refl _, h⟩
theorem Wr.below {w w' : World} {B E n : Nat} {p : Option Addr} (h : Wr w B E p n) (hb : Below w.heap.size w w') : Wr w' B E p n := by
  intro hn
  obtain ⟨t, m, f, e, h1, h2, h3, h4⟩ := h hn
  exact ⟨t, m, f, e, h1, h2, h3, h4.of_block (hb.block t h4.lt)⟩
theorem Wr.within {w w' : World} {B E n lo hi : Nat} {p : Option Addr} (h : Wr w B E p n) (hb : Within lo hi w w') (hB : hi ≤ B ∨ E ≤ lo) : Wr w' B E p n := by
  intro hn
  obtain ⟨t, m, f, e, h1, h2, h3, h4⟩ := h hn
  exact ⟨t, m, f, e, h1, h2, h3, h4.of_block (hb.block t (by omega))⟩
theorem Held.within {w w' : World} {n lo hi : Nat} {p : Option Addr} {k : Int} (h : Held w p n k) (hb : Within lo hi w w') (hp : ∀ a, p = some a → a.block < lo ∨ hi ≤ a.block) : Held w' p n k := by
  intro hn
  obtain ⟨t, e, h0, h1⟩ := h hn
  exact ⟨t, e, by rw [hb.size]; exact h0, fun j hj => by rw [World.cell?_of_block (w := w) (hb.block t (hp _ e))]; exact h1 j hj⟩
theorem Held.below {w w' : World} {n : Nat} {p : Option Addr} {k : Int} (h : Held w p n k) (hb : Below w.heap.size w w') : Held w' p n k := by
  intro hn
  obtain ⟨t, e, h0, h1⟩ := h hn
  exact ⟨t, e, Nat.lt_of_lt_of_le h0 hb.size, fun j hj => by rw [hb.cell (p := ⟨t, j, none⟩) h0]; exact h1 j hj⟩
theorem markIntS_c (p : Option Addr) (n c B E : Nat) (k : Int) (w : World) (h : Wr w B E p n) (hn : n ≤ 1048576) (h0 : 0 ≤ k) (h1 : k ≤ 1000000000000000) : Calls Try.prog 28 #[.slice p n c, .int .i64 k] w fun e w' => e = .returned (.int .i64 (k + n)) ∧ Held w' p n k ∧ Within B E w w' := by
  by_cases hp : 0 < n
  · obtain ⟨t, m, f, rfl, hB, hE, hnm, hr⟩ := h hp
    refine (markIntS_row t n m c f k w hr hnm hn h0 h1).mono ?_
    rintro e w' ⟨he, hr', hw⟩
    refine ⟨he, fun _ => ⟨t, rfl, hr'.lt, fun j hj => ?_⟩, hw.wider hB hE⟩
    have := hr'.cell (show j < m by omega)
    rw [if_pos hj] at this; exact this
  · obtain rfl : n = 0 := by omega
    refine (markIntS_nil p c k w).mono ?_
    rintro e w' ⟨he, rfl⟩
    exact ⟨by rw [he]; simp, fun h => absurd h (Nat.lt_irrefl 0), Within.refl _ _ _⟩
theorem heldIntS_c (p : Option Addr) (n c : Nat) (k : Int) (w : World) (h : Held w p n k) (hn : n ≤ 1048576) (h0 : 0 ≤ k) (h1 : k ≤ 1000000000000000) : Calls Try.prog 31 #[.slice p n c, .int .i64 k] w fun e w' => e = .returned (.int .i64 (k + n)) ∧ w' = w := by
  by_cases hp : 0 < n
  · obtain ⟨t, rfl, _, hc⟩ := h hp
    exact heldIntS_row t n c k w hc hn h0 h1
  · obtain rfl : n = 0 := by omega
    refine (heldIntS_nil p c k w).mono ?_
    rintro e w' ⟨he, rfl⟩
    exact ⟨by rw [he]; simp, rfl⟩
end Go.Proofs.Ytpfodinoeoejcaa
