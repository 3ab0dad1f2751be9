import Derived.Test.YtleeldjncobheaaDoorXc
namespace Go.Proofs.YtleeldjncobheaaDoor
open Go.RowKit Ch1
/-- A slice of bytes from B on that may be written. -/
def Wr (w : World) (B : Nat) (p : Option Addr) (n : Nat) : Prop := 0 < n → ∃ t m f, p = some ⟨t, 0, none⟩ ∧ B ≤ t ∧ n ≤ m ∧ w.rowIs t 5 m f
def Held (w : World) (p : Option Addr) (n : Nat) : Prop := 0 < n → ∃ t, p = some ⟨t, 0, none⟩ ∧ ∀ j, j < n → w.cell? ⟨t, j, none⟩ = some (.int .u8 (mk (1 + j)))
theorem Ow.wr {w : World} {B : Nat} {v : Value} {xs : List Int} (h : Ow w B v xs) (hr : Rg xs) : ∃ p c, v = .slice p xs.length c ∧ By w p xs.length c xs ∧ Wr w B p xs.length ∧ (∀ a, p = some a → B ≤ a.block) := by
  have h' := h
  obtain ⟨p, c, rfl, hy, hp⟩ := h.by_ (rng_of hr)
  refine ⟨p, c, rfl, hy, fun hn => ?_, fun a ha => (hp a ha).2⟩
  obtain ⟨_, ⟨e, h0⟩ | ⟨g, cap, cur, e, hg, hh, h1, h2, h3, h4⟩⟩ := h'
  · omega
  · cases e
    exact ⟨g, c, fun i => cur.getD i .nilIface, rfl, hg, h1, cur, hh, by omega, fun i hi => by simp [Array.getD, show i < cur.size by omega]⟩
theorem Wr.below {w w' : World} {B n : Nat} {p : Option Addr} (h : Wr w B p n) (hb : Below w.heap.size w w') : Wr w' B p n := by
  intro hn
  obtain ⟨t, m, f, e, h1, h2, h3⟩ := h hn
  exact ⟨t, m, f, e, h1, h2, h3.of_block (hb.block t h3.lt)⟩
theorem Wr.within {w w' : World} {B n lo hi : Nat} {p : Option Addr} (h : Wr w B p n) (hb : Within lo hi w w') (hB : hi ≤ B) : Wr w' B p n := by
  intro hn
  obtain ⟨t, m, f, e, h1, h2, h3⟩ := h hn
  exact ⟨t, m, f, e, h1, h2, h3.of_block (hb.block t (by omega))⟩
theorem markV (p : Option Addr) (n c B : Nat) (w : World) (h : Wr w B p n) (hn : n ≤ 1000000000) : Calls Tryd.prog 12 #[.slice p n c, .int .i64 1] w fun e w' => e = .returned (.int .i64 (1 + n)) ∧ Held w' p n ∧ Below B w w' := by
  by_cases h0 : 0 < n
  · obtain ⟨t, m, f, rfl, hB, hnm, hr⟩ := h h0
    refine (mark11 t n m c f 1 w hr hnm (by omega) (by omega) (by omega)).mono ?_
    rintro e w' ⟨he, hr', hw⟩
    refine ⟨he, fun _ => ⟨t, rfl, fun j hj => ?_⟩, hw.below hB⟩
    have := hr'.cell (show j < m by omega)
    rw [if_pos hj] at this; exact this
  · obtain rfl : n = 0 := by omega
    refine (mark11_nil p c 1 w).mono ?_
    rintro e w' ⟨he, rfl⟩
    exact ⟨he, fun h => absurd h (Nat.lt_irrefl 0), Below.refl _ _⟩
theorem heldV (p : Option Addr) (n c : Nat) (w : World) (h : Held w p n) (hn : n ≤ 1000000000) : Calls Tryd.prog 13 #[.slice p n c, .int .i64 1] w fun e w' => e = .returned (.int .i64 (1 + n)) ∧ w' = w := by
  by_cases h0 : 0 < n
  · obtain ⟨t, rfl, hc⟩ := h h0
    exact held12 t n c 1 w hc (by omega) (by omega) (by omega)
  · obtain rfl : n = 0 := by omega
    exact held12_nil p c 1 w
end Go.Proofs.YtleeldjncobheaaDoor
