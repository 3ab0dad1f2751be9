import Derived.Test.YtmmkpmgidoelpaaH1
namespace Go.Proofs.Ytmmkpmgidoelpaa
open Go.RowKit Ch2
theorem Ro.setCell {w : World} {g n : Nat} {xs : List Int} (h : Ro w g n xs) {a : Addr} (ha : g ≠ a.block) (v : Value) : Ro (w.setCell a v) g n xs :=
  h.of_block (Below.heap_setCell w a v g ha)
/-! ### NewHeap -/
/-- What both NewHeaps answer. -/
def NH (sz : Int) (w w' : World) (e : Ending) : Prop := ∃ p n code, e = .returned (.tuple #[.agg #[.slice p n n, .int .i64 0], .int .i64 code]) ∧ code = (if sz < 0 ∨ 20000 < sz then 1 else 0) ∧ n = (if sz < 0 ∨ 20000 < sz then 0 else sz.toNat) ∧ Is w' p n n (List.replicate n 0) ∧ Wr w' w.heap.size w'.heap.size p n ∧ Below w.heap.size w w'
theorem NH.bad {sz : Int} {w w' : World} (h : sz < 0 ∨ 20000 < sz) (hb : Below w.heap.size w w') : NH sz w w' (.returned (.tuple #[.agg #[.slice none 0 0, .int .i64 0], .int .i64 1])) :=
  ⟨none, 0, 1, rfl, by rw [if_pos h], by rw [if_pos h], ⟨rfl, Nat.le_refl _, by unfold maxLen; omega, fun i => by simp, fun h => absurd h (Nat.lt_irrefl 0)⟩, fun h => absurd h (Nat.lt_irrefl 0), hb⟩
theorem rep_getD (n i : Nat) : (List.replicate n (0 : Int)).getD i 0 = 0 := by
  simp [List.getD, List.getElem?_replicate]
  split <;> rfl
theorem Ro.zeros {w : World} {g n : Nat} (h : w.rowIs g 3 n (fun _ => .int .i64 0)) : Ro w g n (List.replicate n 0) := h.congr (fun j _ => by rw [rep_getD])
theorem NH.ok {n g : Nat} {w w' : World} (h : n ≤ 20000) (hr : w'.rowIs g 3 n (fun _ => .int .i64 0)) (hg : w.heap.size ≤ g) (hb : Below w.heap.size w w') : NH n w w' (.returned (.tuple #[.agg #[.slice (some ⟨g, 0, none⟩) n n, .int .i64 0], .int .i64 0])) :=
  ⟨some ⟨g, 0, none⟩, n, 0, rfl, by rw [if_neg (by omega)], by rw [if_neg (by omega)]; simp, (Ro.zeros hr).is (by simp) (by unfold maxLen; omega) (fun i => by rw [rep_getD]; omega), (Ro.zeros hr).wr hg hr.lt, hb⟩
set_option maxHeartbeats 1000000 in
theorem specNewHeap_c (sz : Int) (w : World) : Calls Try.prog 31 #[.int .i64 sz] w fun e w' => NH sz w w' e := by
  by_cases h1 : sz < 0
  · go_enter Try.func31, Try.ntmps31
    go_wp2
    exact bodyPost_ret (v := .tuple #[.agg #[.slice none 0 0, .int .i64 0], .int .i64 1]) (by simp [results, Try.results31, go_sem]) rfl (NH.bad (Or.inl h1) (below1 w _))
  · by_cases h2 : 20000 < sz
    · go_enter Try.func31, Try.ntmps31
      go_wp2
      exact bodyPost_ret (v := .tuple #[.agg #[.slice none 0 0, .int .i64 0], .int .i64 1]) (by simp [results, Try.results31, go_sem]) rfl (NH.bad (Or.inr h2) (below1 w _))
    · obtain ⟨n, rfl⟩ := Int.eq_ofNat_of_zero_le (show 0 ≤ sz by omega)
      have hmk := run_make_row' (P := Try.prog) 23 3 (.int .i64 0) 8 Try.underlying23 info3 rfl .i64 .i64 n (by omega) (by omega)
      have hn : n ≤ 20000 := by omega
      go_enter Try.func31, Try.ntmps31
      go_wp2
      refine bodyPost_ret (v := .tuple #[.agg #[.slice (some ⟨w.heap.size + 1, 0, none⟩) n n, .int .i64 0], .int .i64 0]) (by simp [results, Try.results31, go_sem]) rfl (NH.ok hn ?_ (by omega) (below2 w _ _))
      have := World.rowIs_made (w.alloc (.cells #[.slice (some ⟨w.heap.size + 1, 0, none⟩) n n, .int .i64 0] 25)) (.int .i64 0) n 3
      simpa using this
end Go.Proofs.Ytmmkpmgidoelpaa
