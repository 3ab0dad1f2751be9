import Derived.Test.YtpfodinoeoejcaaRows
import Derived.WalkKit
import Derived.WalkSpells
import Derived.WalkLawsBesides
import Derived.RowKit3
import Derived.Below
import Derived.Shelf.Bytes.SlSmallAll
import Derived.Deep.QuietTactic
import Derived.BigQuiet
import Derived.Deep.OwnRows
namespace Go.Proofs.Ytpfodinoeoejcaa
open Go.RowKit
theorem ret_bool {a b : Bool} (h : a = b) : Ending.returned (.bool a) = .returned (.bool b) := by rw [h]
theorem ret_int {k : IntKind} {a b : Int} (h : a = b) : Ending.returned (.int k a) = .returned (.int k b) := by rw [h]
theorem info5 : (Try.prog.info? 5).map (fun i => (i.zero, i.size, i.bytes)) = some (some (.int .u8 0), 1, 1) := by kernel_rfl

/-- A slice of bytes that lies in w and reads as xs. -/
structure By (w : World) (p : Option Addr) (n c : Nat) (xs : List Int) : Prop where
  len : xs.length = n
  cap : n ≤ c
  big : c ≤ maxLen
  rng : ∀ i, 0 ≤ xs.getD i 0 ∧ xs.getD i 0 < 256
  cells : Lib.BytesIn w p n xs
  old : ∀ a, p = some a → 0 < n → a.block < w.heap.size

theorem By.below {w w' : World} {p : Option Addr} {n c : Nat} {xs : List Int} (h : By w p n c xs) (hb : Below w.heap.size w w') : By w' p n c xs := by
  refine ⟨h.len, h.cap, h.big, h.rng, fun hn => ?_, fun a ha hn => Nat.lt_of_lt_of_le (h.old a ha hn) hb.size⟩
  obtain ⟨b, o, e, hc⟩ := h.cells hn
  have ho := h.old _ e hn
  exact ⟨b, o, e, fun i hi => by rw [hb.cell (p := ⟨b, o + i, none⟩) ho]; exact hc i hi⟩

set_option maxHeartbeats 400000 in
theorem eqByte32 (p1 p2 : Option Addr) (n c1 c2 : Nat) (xs : List Int) (w : World) (h1 : By w p1 n c1 xs) (h2 : By w p2 n c2 xs) :
    Calls Try.prog 37 #[.slice p1 n c1, .slice p2 n c2] w fun e w' => e = .returned (.bool true) ∧ ∃ q, w' = w.drewN q := by
  have hbig : n ≤ 9223372036854775807 := by have := h1.cap; have := h1.big; unfold maxLen at this; omega
  have hc1 := h1.cells
  have hc2 := h2.cells
  clear h1 h2
  have HC1 : Hid (Lib.BytesIn w p1 n xs) := hc1
  have HC2 : Hid (Lib.BytesIn w p2 n xs) := hc2
  clear hc1 hc2
  go_enter Try.func37, Try.ntmps37
  go_wp2
  go_loopw [5] (fun i wr => ∃ k q : Nat, k ≤ n ∧ i = .int .i64 k ∧ wr = w.drewN q) (fun i _ => n - (intOf i).toNat)
  case atStart => exact ⟨0, 0, Nat.zero_le _, rfl, rfl⟩
  case round =>
    obtain ⟨k, q, hk, rfl, rfl⟩ := hrel
    by_cases hlt : k < n
    · obtain ⟨b1, o1, rfl, g1⟩ := HC1.out (by omega)
      obtain ⟨b2, o2, rfl, g2⟩ := HC2.out (by omega)
      have g1 := g1 k hlt
      have g2 := g2 k hlt
      go_wp2
      go_quiet (fail)
      go_wp2
      exact ⟨⟨k + 1, q + nq, by omega, by go_num, rfl⟩, by simp [intOf]; omega⟩
    · go_wp2
      go_ret
      exact ⟨rfl, q, rfl⟩

theorem getD_int (xs : List Int) (k : Nat) (h : k < xs.length) : xs[k]? = some (xs.getD k 0) := by simp [List.getD, List.getElem?_eq_getElem h]
set_option maxHeartbeats 400000 in
theorem toByte30 (p : Option Addr) (n c : Nat) (xs : List Int) (w : World) (h : By w p n c xs) (hn : n ≤ 1048576) :
    Calls Try.prog 35 #[.slice p n c] w fun e w' => e = .returned (.slice (some ⟨w.heap.size, 0, none⟩) n n) ∧ By w' (some ⟨w.heap.size, 0, none⟩) n n xs ∧ Below w.heap.size w w' := by
  have HB : Hid (By w p n c xs) := h
  clear h
  have hmk := run_make_row' (P := Try.prog) 52 5 (.int .u8 0) 1 Try.underlying52 info5 rfl .i64 .i64 n (by omega) (by omega)
  go_enter Try.func35, Try.ntmps35
  go_wp2
  clear hmk
  go_loopw [4] (fun i wr => ∃ k : Nat, k ≤ n ∧ i = .int .i64 k ∧ Hid (wr.rowIs w.heap.size 5 n (fun j => .int .u8 (if j < k then xs.getD j 0 else 0))) ∧ Hid (Below w.heap.size w wr)) (fun i _ => n - (intOf i).toNat)
  case atStart =>
    refine ⟨0, Nat.zero_le _, rfl, ?_, ?_⟩
    · exact (World.rowIs_made w (.int .u8 0) n 5).congr (fun j _ => by simp)
    · exact (Below.refl _ _).alloc (Nat.le_refl _) _
  case round =>
    obtain ⟨k, hk, rfl, hr, hb⟩ := hrel
    by_cases hlt : k < n
    · obtain ⟨b, o, rfl, g⟩ := HB.out.cells (by omega)
      have hold := HB.out.old _ rfl (by omega)
      have g1 := g k hlt
      clear g
      rw [← hb.out.cell (p := ⟨b, o + k, none⟩) hold] at g1
      have g2 := hr.out.cell hlt
      have g3 := hr.out.frozen k
      go_wp2
      refine ⟨⟨k + 1, by omega, by go_num, (hr.out.set k _).congr (fun j hj => ?_), hb.out.setCell (Nat.le_refl _) _⟩, by simp [intOf]; omega⟩
      by_cases e : j = k
      · subst e; simp
      · by_cases e2 : j < k
        · simp [e, e2, show j < k + 1 by omega]
        · simp [e, e2, show ¬ j < k + 1 by omega]
    · have : k = n := by omega
      subst this
      go_wp2
      go_ret
      refine ⟨rfl, ⟨HB.out.len, Nat.le_refl _, by unfold maxLen; omega, HB.out.rng, fun hp => ⟨w.heap.size, 0, rfl, fun i hi => ?_⟩, fun a ha _ => ?_⟩, hb.out⟩
      · have := hr.out.cell hi
        rw [if_pos hi] at this
        simpa using this
      · cases ha; exact hr.out.lt

theorem below_drewN' {B : Nat} {a w : World} (h : Below B a w) (q : Nat) : Below B a (w.drewN q) := ⟨h.os, h.tape, h.output, h.size, h.block⟩
end Go.Proofs.Ytpfodinoeoejcaa
