import Derived.Test.YtleeldjncobheaaDoorH2
namespace Go.Proofs.YtleeldjncobheaaDoor.Hp
open Go.RowKit Ch2
theorem Wr.mono {w : World} {B E B' E' n : Nat} {p : Option Addr} (h : Wr w B E p n) (h1 : B' ≤ B) (h2 : E ≤ E') : Wr w B' E' p n := by
  intro hn
  obtain ⟨t, m, f, e, r1, r2, r3, r4⟩ := h hn
  exact ⟨t, m, f, e, Nat.le_trans h1 r1, Nat.lt_of_lt_of_le r2 h2, r3, r4⟩
/-- A contract behind a new block. -/
theorem below_alloc {w w' : World} {o : Obj} (h : Below (w.alloc o).heap.size (w.alloc o) w') : Below w.heap.size w w' := (below1 w o).trans (h.mono (by simp))
/-- A variable of type Heap that lies in block b. -/
structure Bx (w : World) (b : Nat) (p : Option Addr) (n c : Nat) (top : Int) : Prop where
  c0 : w.cell? ⟨b, 0, none⟩ = some (.slice p n c)
  c1 : w.cell? ⟨b, 1, none⟩ = some (.int .i64 top)
  lt : b < w.heap.size
theorem Bx.below {w w' : World} {b n c : Nat} {p : Option Addr} {top : Int} (h : Bx w b p n c top) (hb : Below w.heap.size w w') : Bx w' b p n c top :=
  ⟨by rw [hb.cell (p := ⟨b, 0, none⟩) h.lt]; exact h.c0, by rw [hb.cell (p := ⟨b, 1, none⟩) h.lt]; exact h.c1, Nat.lt_of_lt_of_le h.lt hb.size⟩
theorem Bx.within {w w' : World} {b n c lo hi : Nat} {p : Option Addr} {top : Int} (h : Bx w b p n c top) (hb : Within lo hi w w') (hr : b < lo ∨ hi ≤ b) : Bx w' b p n c top :=
  ⟨by rw [World.cell?_of_block (w := w) (hb.block b hr)]; exact h.c0, by rw [World.cell?_of_block (w := w) (hb.block b hr)]; exact h.c1, by rw [hb.size]; exact h.lt⟩
theorem Bx.new (w : World) (p : Option Addr) (n c : Nat) (top : Int) (t : TypeId) : Bx (w.alloc (.cells #[.slice p n c, .int .i64 top] t)) w.heap.size p n c top := by
  have hb : (w.alloc (.cells #[.slice p n c, .int .i64 top] t)).heap[w.heap.size]? = some (.cells #[.slice p n c, .int .i64 top] t) := Go.Deep.blk_alloc_new _ _
  exact ⟨by unfold World.cell?; rw [hb]; rfl, by unfold World.cell?; rw [hb]; rfl, by simp⟩
end Go.Proofs.YtleeldjncobheaaDoor.Hp
