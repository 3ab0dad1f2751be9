import Derived.Test.YtnnpfoilojicjaaGreatDoorW7
namespace Go.Proofs.YtnnpfoilojicjaaGreatDoor
open Go.RowKit Ch1
theorem info47 : (Tryz.prog.info? 47).map (fun i => (i.zero, i.size, i.bytes)) = some (some (.agg #[.int .i64 0, .int .i64 0, .slice none 0 0, .int .i64 0]), 4, 48) := by kernel_rfl
def Row (w : World) (g : Nat) (ds : List Dt) (n k : Nat) : Prop := ∃ (f : Nat → Value) (t : Nat → Nat), w.rowIs g 47 (n * 4) f ∧ ∀ i, i < k →
 f (i * 4) = .int .i64 (ds.getD i dt0).kind ∧ f (i * 4 + 1) = .int .i64 (ds.getD i dt0).n ∧
 f (i * 4 + 2) = .slice (some ⟨t i, 0, none⟩) (ds.getD i dt0).text.length (ds.getD i dt0).text.length ∧
 f (i * 4 + 3) = .int .i64 (ds.getD i dt0).count ∧ g < t i ∧
 By w (some ⟨t i, 0, none⟩) (ds.getD i dt0).text.length (ds.getD i dt0).text.length (ds.getD i dt0).text
theorem Row.below {w w' : World} {g n k : Nat} {ds : List Dt} (h : Row w g ds n k) (hb : Below w.heap.size w w') : Row w' g ds n k := by
 obtain ⟨f, t, hr, hc⟩ := h
 refine ⟨f, t, hr.of_block (hb.block g hr.lt), fun i hi => ?_⟩
 obtain ⟨h0, h1, h2, h3, h4, h5⟩ := hc i hi
 exact ⟨h0, h1, h2, h3, h4, h5.below hb⟩
theorem Row.cells {w : World} {g n k : Nat} {ds : List Dt} (h : Row w g ds n k) (i : Nat) (hi : i < n * 4) : ∃ v, w.cell? ⟨g, i, none⟩ = some v ∧ w.frozen? ⟨g, i, none⟩ = false := by
 obtain ⟨f, t, hr, _⟩ := h
 exact ⟨_, hr.cell hi, hr.frozen i⟩
theorem Row.lt {w : World} {g n k : Nat} {ds : List Dt} (h : Row w g ds n k) : g < w.heap.size := h.choose_spec.choose_spec.1.lt
theorem Row.da {w : World} {g n : Nat} {ds : List Dt} (h : Row w g ds n n) (hl : ds.length = n) (hbig : n ≤ maxLen) (hw : ∀ i, i < n → -9223372036854775808 ≤ (ds.getD i dt0).count ∧ (ds.getD i dt0).count ≤ 9223372036854775807) : Da w (some ⟨g, 0, none⟩) n n ds := by
 refine ⟨hl, Nat.le_refl _, hbig, fun hn => ⟨g, 0, rfl, h.lt, fun i hi => ?_⟩⟩
 obtain ⟨f, t, hr, hc⟩ := h
 obtain ⟨h0, h1, h2, h3, h4, h5⟩ := hc i hi
 refine ⟨_, _, _, ?_, ?_, ?_, ?_, h5, (hw i hi).1, (hw i hi).2⟩
 ·rw [Nat.zero_add, ← h0]; exact hr.cell (by omega)
 ·rw [Nat.zero_add, ← h1]; exact hr.cell (by omega)
 ·rw [Nat.zero_add, ← h2]; exact hr.cell (by omega)
 ·rw [Nat.zero_add, ← h3]; exact hr.cell (by omega)
end Go.Proofs.YtnnpfoilojicjaaGreatDoor
