import Derived.Test.YtkkmoaidbmnolaaGreatDoorDu
import Derived.Test.YtkkmoaidbmnolaaGreatDoorEj
namespace Go.Proofs.YtkkmoaidbmnolaaGreatDoor
open Go.RowKit Ch1
set_option maxRecDepth 20000 in
set_option maxHeartbeats 4000000 in
/-- A number of a source too short for its place. -/
theorem l4num_short (b : Nat) (p : Option Addr) (n c : Nat) (k j : Nat) (bad : Bool) (w : World) (h : w.heap[b]? = some (.cells #[.slice p n c, .int .i64 (k : Int), .bool bad] 37)) (hk : k ≤ 8) (hn : n ≤ 1048576) (hj : n < k + j) (hj8 : j ≤ 8) :
    Calls Tryz.prog 12 #[.pointer (some ⟨b, 0, none⟩), .int .i64 j] w fun e w' => e = .returned (.int .i64 0) ∧ w'.heap[b]? = some (.cells #[.slice p n c, .int .i64 (k : Int), .bool true] 37) ∧ Sr b w w' := by
  have HR := Hid.mkD h
  obtain ⟨y0, y1, y2, yf0, yf1, yf2⟩ := cells3 h
  have hd : decide ((n : Int) < (k : Int) + (j : Int)) = true := decide_eq_true (by omega)
  clear h
  go_enter Tryz.func12, Tryz.ntmps12
  go_wp2_with fail
  have fw : IntKind.i64.wrap ((k : Int) + (j : Int)) = (k : Int) + (j : Int) := by rw [IntKind.wrap_i64]; omega
  go_region
  all_goals go_wp2_with fail
  all_goals go_ret
  all_goals exact ⟨rfl, set_two HR.out _, (Sr.set _ _ _ _).trans (Sr.of_below (below_drewM (Below.refl _ _)))⟩
end Go.Proofs.YtkkmoaidbmnolaaGreatDoor
namespace Go.Proofs.YtkkmoaidbmnolaaGreatDoor
open Go.RowKit Ch1
theorem alloc3 (w : World) (a b c : Obj) : (((w.alloc a).alloc b).alloc c).heap[w.heap.size]? = some a ∧ (((w.alloc a).alloc b).alloc c).heap[w.heap.size + 1]? = some b ∧ (((w.alloc a).alloc b).alloc c).heap[w.heap.size + 1 + 1]? = some c := by
  have e : (((w.alloc a).alloc b).alloc c).heap = ((w.heap.push a).push b).push c := rfl
  rw [e]
  refine ⟨?_, ?_, ?_⟩
  · rw [Array.getElem?_push_lt (by simp; omega), Array.getElem_push_lt (by simp), Array.getElem_push_eq]
  · rw [Array.getElem?_push_lt (by simp)]
    congr 1
    have := Array.getElem_push_eq (xs := w.heap.push a) (x := b)
    simpa using this
  · have := Array.getElem?_push_size (xs := (w.heap.push a).push b) (x := c)
    simpa using this
set_option maxRecDepth 20000 in
set_option maxHeartbeats 8000000 in
theorem specDecode_short (p : Option Addr) (n c : Nat) (xs : List Int) (w : World) (h : By w p n c xs) (h4 : n < 4) :
    Calls Tryz.prog 4 #[.slice p n c] w fun e w' => SpP xs w w' e := by
  have HN : Hid (∀ m, ¬ RdIm xs m) := fun m hm => by
    have h1 := hm.1
    have h2 := congrArg List.length h1
    rw [List.length_take] at h2
    have := h.len
    simp at h2
    omega
  clear h
  obtain ⟨W, hW⟩ : ∃ W, W = ((w.alloc (.cells #[.slice none 0 0, .int .i64 0, .slice none 0 0] 26)).alloc (.cells #[.slice p n c, .int .i64 4, .bool false] 37)).alloc (.cells #[.slice none 0 0, .int .i64 0, .slice none 0 0] 26) := ⟨_, rfl⟩
  have hsz : W.heap.size = w.heap.size + 3 := by rw [hW]; simp
  have HBW : Hid (Below w.heap.size w W) := by unfold Hid; rw [hW]; exact below3 w _ _ _
  have HZ : Hid (W.heap[w.heap.size]? = some (.cells #[.slice none 0 0, .int .i64 0, .slice none 0 0] 26)) := by unfold Hid; rw [hW]; exact (alloc3 w _ _ _).1
  have HR : Hid (W.heap[w.heap.size + 1]? = some (.cells #[.slice p n c, .int .i64 ((4 : Nat) : Int), .bool false] 37)) := by unfold Hid; rw [hW]; exact (alloc3 w _ _ _).2.1
  have HM : Hid (W.heap[w.heap.size + 1 + 1]? = some (.cells #[.slice none 0 0, .int .i64 0, .slice none 0 0] 26)) := by unfold Hid; rw [hW]; exact (alloc3 w _ _ _).2.2
  go_enter Tryz.func4, Tryz.ntmps4
  go_wp2_with fail
  rw [← hW]
  clear hW
  refine (l4num_short (w.heap.size + 1) p n c 4 2 false _ HR.out (by omega) (by omega) (by omega) (by omega)).mono ?_
  rintro e w1 ⟨rfl, hr1, hs1⟩
  have HR1 : Hid (w1.heap[w.heap.size + 1]? = some (.cells #[.slice p n c, .int .i64 ((4 : Nat) : Int), .bool true] 37)) := hr1
  have HS1 : Hid (Sr (w.heap.size + 1) W w1) := hs1
  have HM1 : Hid (w1.heap[w.heap.size + 1 + 1]? = some (.cells #[.slice none 0 0, .int .i64 0, .slice none 0 0] 26)) := (hs1.block _ (by omega) (by omega)).trans HM.out
  obtain ⟨m0, m1, m2, mf0, mf1, mf2⟩ := cells3 HM1.out
  clear hr1 hs1
  go_wp2_with fail
  have HR2 : Hid ((w1.setCell ⟨w.heap.size + 1 + 1, 1, none⟩ (.int .i64 0)).heap[w.heap.size + 1]? = some (.cells #[.slice p n c, .int .i64 ((4 : Nat) : Int), .bool true] 37)) := (Below.heap_setCell _ _ _ _ (by simp)).trans HR1.out
  refine (l4num_short (w.heap.size + 1) p n c 4 2 true _ HR2.out (by omega) (by omega) (by omega) (by omega)).mono ?_
  rintro e w2 ⟨rfl, hr2, hs2⟩
  have HR3 : Hid (w2.heap[w.heap.size + 1]? = some (.cells #[.slice p n c, .int .i64 ((4 : Nat) : Int), .bool true] 37)) := hr2
  have HB2 : Hid (Below w.heap.size w w2) := by
    have h1 := HS1.out.below (B := w.heap.size) (by omega) (by omega)
    have h2 := hs2.below (B := w.heap.size) (by omega) (by rw [set_size]; have := HS1.out.size; omega)
    exact ((HBW.out.trans h1).setCell (by simp only; omega) _).trans h2
  have HZ2 : Hid (w2.heap[w.heap.size]? = some (.cells #[.slice none 0 0, .int .i64 0, .slice none 0 0] 26)) := by
    have h1 := HS1.out.block w.heap.size (by omega) (by omega)
    have h2 := hs2.block w.heap.size (by rw [set_size]; have := HS1.out.size; omega) (by omega)
    exact ((h2.trans (Below.heap_setCell _ _ _ _ (by simp only; omega))).trans h1).trans HZ.out
  clear hr2 hs2
  go_wp2_with fail
  go_loopw [7] (fun iv wr => iv = .int .i64 0 ∧ Hid (Below w2.heap.size w2 wr)) (fun _ _ => 0)
  case atStart => exact ⟨rfl, Below.refl _ _⟩
  case round =>
    obtain ⟨rfl, hB⟩ := hrel
    go_wp2_with fail
    refine (l4num_short (w.heap.size + 1) p n c 4 2 true _ ((hB.out.block _ (Array.getElem?_eq_some_iff.1 HR3.out).1).trans HR3.out) (by omega) (by omega) (by omega) (by omega)).mono ?_
    rintro e w3 ⟨rfl, hr3, hs3⟩
    have HR4 : Hid (w3.heap[w.heap.size + 1]? = some (.cells #[.slice p n c, .int .i64 ((4 : Nat) : Int), .bool true] 37)) := hr3
    have hlz := (Array.getElem?_eq_some_iff.1 HZ2.out).1
    have HZ3 : Hid (w3.heap[w.heap.size]? = some (.cells #[.slice none 0 0, .int .i64 0, .slice none 0 0] 26)) := ((hs3.block _ (by have := hB.out.size; omega) (by omega)).trans (hB.out.block _ hlz)).trans HZ2.out
    have HB3 : Hid (Below w.heap.size w w3) := (HB2.out.trans (hB.out.mono HB2.out.size)).trans (hs3.below (by omega) (by have := hB.out.size; have := HB2.out.size; omega))
    clear hr3 hs3
    go_wp2_with fail
    go_loopw [11] (fun iv wr => iv = .int .i64 0 ∧ Hid (Below w3.heap.size w3 wr)) (fun _ _ => 0)
    case atStart => exact ⟨rfl, Below.refl _ _⟩
    case round =>
      obtain ⟨rfl, hC⟩ := hrel
      have hR5 := (hC.out.block _ (Array.getElem?_eq_some_iff.1 HR4.out).1).trans HR4.out
      have hZ5 := (hC.out.block _ (Array.getElem?_eq_some_iff.1 HZ3.out).1).trans HZ3.out
      obtain ⟨y0, y1, y2, yf0, yf1, yf2⟩ := cells3 hR5
      obtain ⟨z0, z1, z2, zf0, zf1, zf2⟩ := cells3 hZ5
      clear hR5 hZ5
      go_wp2_with fail
      have HB4 : Hid (Below w.heap.size w _) := HB3.out.trans (hC.out.mono HB3.out.size)
      go_region
      all_goals go_wp2_with fail
      all_goals exact bodyPost_ret (v := .tuple #[.agg #[.slice none 0 0, .int .i64 0, .slice none 0 0], .int .i64 5]) (by simp [results, Tryz.results4, go_sem, z0, z1, z2]) rfl (Or.inr ⟨HN.out, rfl, below_drewM (((HB4.out.setCell (by simp) _).setCell (by simp) _).setCell (by simp) _)⟩)
end Go.Proofs.YtkkmoaidbmnolaaGreatDoor
namespace Go.Proofs.YtkkmoaidbmnolaaGreatDoor
open Go.RowKit Ch1
/-- A number of one byte or two: the reader goes on, or is bad. -/
theorem l4num_u (b j : Nat) (ys : List Int) (bad : Bool) (w : World) (h : RsE w b ys bad) (hj : j = 1 ∨ j = 2) :
    Calls Tryz.prog 12 #[.pointer (some ⟨b, 0, none⟩), .int .i64 j] w fun e w' => ∃ (z : Nat) (rest : List Int) (bad' : Bool), e = .returned (.int .i64 z) ∧ z < 65536 ∧ Sr b w w' ∧ RsE w' b rest bad' ∧ (bad' = false → bad = false ∧ rdN j ys = some ((z : Int), rest)) ∧ (bad' = true → bad = true ∨ rdN j ys = none) := by
  have hrg := h.rg
  refine (l4num_c b j ys bad w h (by omega)).mono ?_
  rintro e w' ⟨z, rfl, hs, ⟨rest, h1, h2⟩ | ⟨h1, rfl, h2⟩⟩
  · have hz : 0 ≤ z ∧ z < 65536 := by
      rcases hj with rfl | rfl
      · have := rdN_byte hrg h1; omega
      · exact rdN_two hrg h1
    obtain ⟨k, rfl⟩ := Int.eq_ofNat_of_zero_le hz.1
    exact ⟨k, rest, bad, rfl, by omega, hs, h2, fun hb => ⟨hb, h1⟩, fun hb => Or.inl hb⟩
  · exact ⟨0, ys, true, rfl, by omega, hs, h2, (fun hb => absurd hb (by decide)), fun _ => Or.inr h1⟩
/-- A datum: it has the form of one, and the reader goes on, or is bad. -/
theorem l4datum_u (b : Nat) (ys : List Int) (bad : Bool) (w : World) (h : RsE w b ys bad) :
    Calls Tryz.prog 13 #[.pointer (some ⟨b, 0, none⟩)] w fun e w' => ∃ (d : Dt) (q : Option Addr) (m c : Nat) (rest : List Int) (bad' : Bool), e = .returned (.agg #[.int .i64 d.kind, .int .i64 d.n, .slice q m c, .int .i64 d.count]) ∧ Sr b w w' ∧ RsE w' b rest bad' ∧ (bad' = false → bad = false ∧ rsD ys = some (d, rest) ∧ Ow w' w.heap.size (.slice q m c) d.text) ∧ (bad' = true → bad = true ∨ rsD ys = none) := by
  refine (l4rdDatum_c b ys bad w h).mono ?_
  rintro e w' ⟨d, q, m, c, rfl, hs, ⟨rest, h1, h2, h3⟩ | ⟨h1, rest, h2⟩⟩
  · exact ⟨d, q, m, c, rest, bad, rfl, hs, h3, fun hb => ⟨hb, h1, h2⟩, fun hb => Or.inl hb⟩
  · exact ⟨d, q, m, c, rest, true, rfl, hs, h2, (fun hb => absurd hb (by decide)), fun _ => Or.inr h1⟩
end Go.Proofs.YtkkmoaidbmnolaaGreatDoor
