import Derived.Test.YtpfodinoeoejcaaH2
namespace Go.Proofs.Ytpfodinoeoejcaa
open Go.RowKit Ch2
theorem Wr.mono {w : World} {B E B' E' n : Nat} {p : Option Addr} (h : Wr w B E p n) (h1 : B' ≤ B) (h2 : E ≤ E') : Wr w B' E' p n := by
  intro hn
  obtain ⟨t, m, f, e, r1, r2, r3, r4⟩ := h hn
  exact ⟨t, m, f, e, Nat.le_trans h1 r1, Nat.lt_of_lt_of_le r2 h2, r3, r4⟩
/-- A contract behind a new block. -/
theorem below_alloc {w w' : World} {o : Obj} (h : Below (w.alloc o).heap.size (w.alloc o) w') : Below w.heap.size w w' := (below1 w o).trans (h.mono (by simp))
/-- A variable of type Heap that lies in block b. -/
structure Bx (w : World) (b : Nat) (p : Option Addr) (n c : Nat) (top : Int) : Prop where
  c0 : w.cell? ⟨b, 0, none⟩ = some (.slice p n c)
  c1 : w.cell? ⟨b, 1, none⟩ = some (.int .i64 top)
  lt : b < w.heap.size
theorem Bx.below {w w' : World} {b n c : Nat} {p : Option Addr} {top : Int} (h : Bx w b p n c top) (hb : Below w.heap.size w w') : Bx w' b p n c top :=
  ⟨by rw [hb.cell (p := ⟨b, 0, none⟩) h.lt]; exact h.c0, by rw [hb.cell (p := ⟨b, 1, none⟩) h.lt]; exact h.c1, Nat.lt_of_lt_of_le h.lt hb.size⟩
theorem Bx.within {w w' : World} {b n c lo hi : Nat} {p : Option Addr} {top : Int} (h : Bx w b p n c top) (hb : Within lo hi w w') (hr : b < lo ∨ hi ≤ b) : Bx w' b p n c top :=
  ⟨by rw [World.cell?_of_block (w := w) (hb.block b hr)]; exact h.c0, by rw [World.cell?_of_block (w := w) (hb.block b hr)]; exact h.c1, by rw [hb.size]; exact h.lt⟩
theorem Bx.new (w : World) (p : Option Addr) (n c : Nat) (top : Int) (t : TypeId) : Bx (w.alloc (.cells #[.slice p n c, .int .i64 top] t)) w.heap.size p n c top := by
  have hb : (w.alloc (.cells #[.slice p n c, .int .i64 top] t)).heap[w.heap.size]? = some (.cells #[.slice p n c, .int .i64 top] t) := Go.Deep.blk_alloc_new _ _
  exact ⟨by unfold World.cell?; rw [hb]; rfl, by unfold World.cell?; rw [hb]; rfl, by simp⟩
set_option maxHeartbeats 4000000 in
theorem lawNewHeap (sz : Int) (w : World) : Calls Try.prog 4 #[.int .i64 sz] w fun e w' => e = .returned (.bool true) ∧ Below w.heap.size w w' := by
  go_enter Try.func4, Try.ntmps4
  go_wp2_with fail
  refine (specNewHeap_c sz _).mono ?_
  rintro e w1 ⟨sp, n, code, rfl, hcode, hn, his, _, hb1⟩
  have HCODE : Hid (code = if sz < 0 ∨ 20000 < sz then 1 else 0) := hcode
  have HN : Hid (n = if sz < 0 ∨ 20000 < sz then 0 else sz.toNat) := hn
  have hn2 : n ≤ 20000 := by rw [hn]; split <;> omega
  have HIS : Hid (Is w1 sp n n (List.replicate n 0)) := his
  have HB1 : Hid (Below w.heap.size w w1) := hb1
  clear hcode hn his hb1
  go_wp2_with fail
  refine (implNewHeap_c sz _).mono ?_
  rintro e w2 ⟨gp, n', code', rfl, hcode, hn, hig, hwg, hb2⟩
  rw [← HCODE.out] at hcode
  rw [← HN.out] at hn
  obtain rfl := hcode.symm
  obtain rfl := hn.symm
  have HIG : Hid (Is w2 gp n n (List.replicate n 0)) := hig
  have HWG : Hid (Wr w2 (w1.heap.size + 1) w2.heap.size gp n) := hwg.mono (by simp) (Nat.le_refl _)
  have HX2 : Hid (Bx w2 w1.heap.size sp n n 0) := (Bx.new w1 sp n n 0 _).below hb2
  have HB2 : Hid (Below w1.heap.size w1 w2) := below_alloc hb2
  have h12 := HB2.out.size
  have s0 := (HX2.out.below (below1 w2 (.cells #[.slice gp n n, .int .i64 0] 31))).c0
  have s1 := (HX2.out.below (below1 w2 (.cells #[.slice gp n n, .int .i64 0] 31))).c1
  clear hig hwg hb2
  go_wp2_with fail
  refine (eqHeap_c gp sp n n n 0 _ _ (HIG.out.below (below1 _ _)) ((HIS.out.below HB2.out).below (below1 _ _))).mono ?_
  rintro e w3 ⟨rfl, hb3⟩
  have HB3 : Hid (Below w2.heap.size w2 w3) := below_alloc hb3
  have HXG3 : Hid (Bx w3 w2.heap.size gp n n 0) := (Bx.new w2 gp n n 0 _).below hb3
  have HXS3 : Hid (Bx w3 w1.heap.size sp n n 0) := HX2.out.below HB3.out
  clear hb3 s0 s1 HX2
  have s0 := HXG3.out.c0
  have s1 := HXG3.out.c1
  go_wp2_with fail
  refine (markHeap_c gp n n (w1.heap.size + 1) w2.heap.size 0 1 _ (HWG.out.below HB3.out) (by omega) (by omega) (by omega)).mono ?_
  rintro e w4 ⟨rfl, hh4, wm, hbm, hw4⟩
  have HH4 : Hid (Held w4 gp n 1) := hh4
  have HXG4 : Hid (Bx w4 w2.heap.size gp n n 0) := (HXG3.out.below hbm).within hw4 (Or.inr (Nat.le_refl _))
  have HXS4 : Hid (Bx w4 w1.heap.size sp n n 0) := (HXS3.out.below hbm).within hw4 (Or.inl (Nat.lt_succ_self _))
  have HB14 : Hid (Below w1.heap.size w1 w4) := by
    have h13 := HB2.out.trans (HB3.out.mono h12)
    have h1m := h13.trans (hbm.mono h13.size)
    exact h1m.trans (hw4.below (Nat.le_succ _))
  clear hh4 hbm hw4 s0 s1 HXG3 HXS3
  have s0 := HXG4.out.c0
  have s1 := HXG4.out.c1
  go_wp2_with fail
  refine (heldHeap_c gp n n 0 1 _ HH4.out (by omega) (by omega) (by omega)).mono ?_
  rintro e w5 ⟨rfl, hb5⟩
  have HXS5 : Hid (Bx w5 w1.heap.size sp n n 0) := HXS4.out.below hb5
  have HB15 : Hid (Below w1.heap.size w1 w5) := HB14.out.trans (hb5.mono HB14.out.size)
  clear hb5 s0 s1
  have hq : decide ((1 : Int) + n < 0) = false := by simp; omega
  have hq2 : ((1 : Int) + n != 1 + n) = false := by simp
  go_wp2_with fail
  refine (implNewHeap_c sz _).mono ?_
  rintro e w6 ⟨hp, n', code', rfl, hcode, hn, hih, _, hb6⟩
  rw [← HCODE.out] at hcode
  rw [← HN.out] at hn
  obtain rfl := hcode.symm
  obtain rfl := hn.symm
  have HIH : Hid (Is w6 hp n n (List.replicate n 0)) := hih
  have HB16 : Hid (Below w1.heap.size w1 w6) := HB15.out.trans (hb6.mono HB15.out.size)
  have HXS6 : Hid (Bx w6 w1.heap.size sp n n 0) := HXS5.out.below hb6
  have s0 := (HXS6.out.below (below1 w6 (.cells #[.slice hp n n, .int .i64 0] 31))).c0
  have s1 := (HXS6.out.below (below1 w6 (.cells #[.slice hp n n, .int .i64 0] 31))).c1
  clear hih hb6
  go_wp2_with fail
  refine (eqHeap_c hp sp n n n 0 _ _ (HIH.out.below (below1 _ _)) ((HIS.out.below HB16.out).below (below1 _ _))).mono ?_
  rintro e w7 ⟨rfl, hb7⟩
  have HB17 : Hid (Below w1.heap.size w1 w7) := HB16.out.trans ((below_alloc hb7).mono HB16.out.size)
  have HB7 : Hid (Below w.heap.size w w7) := HB1.out.trans (HB17.out.mono HB1.out.size)
  clear hb7
  go_wp2
  go_ret
  exact ⟨rfl, HB7.out⟩
end Go.Proofs.Ytpfodinoeoejcaa
