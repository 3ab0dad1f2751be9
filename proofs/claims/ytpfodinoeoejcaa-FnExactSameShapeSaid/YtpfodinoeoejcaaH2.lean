import Derived.Test.YtpfodinoeoejcaaH1
namespace Go.Proofs.Ytpfodinoeoejcaa
open Go.RowKit Ch2
theorem Ro.setCell {w : World} {g n : Nat} {xs : List Int} (h : Ro w g n xs) {a : Addr} (ha : g ≠ a.block) (v : Value) : Ro (w.setCell a v) g n xs :=
  h.of_block (Below.heap_setCell w a v g ha)
set_option maxHeartbeats 1000000 in
theorem toHeap_c (p : Option Addr) (n c : Nat) (top : Int) (xs : List Int) (w : World) (hB : Is w p n c xs) (hn : n ≤ 1048576) :
    Calls Try.prog 22 #[.agg #[.slice p n c, .int .i64 top]] w fun e w' => ∃ g, e = .returned (.agg #[.slice (some ⟨g, 0, none⟩) n n, .int .i64 top]) ∧ w.heap.size ≤ g ∧ Ro w' g n xs ∧ Below w.heap.size w w' := by
  have HB : Hid (Is w p n c xs) := hB
  clear hB
  go_enter Try.func22, Try.ntmps22
  go_wp2_with (go_at_call 23; refine (toIntS_c _ _ _ xs _ (by exact HB.out.below (below3 w _ _ _)) hn).mono ?_; rintro e w1 ⟨rfl, hby, hb1⟩; have hz := hb1.size; obtain ⟨hc1, hf1⟩ := bcell hb1)
  have hby' : Ro w1 (w.heap.size + 1 + 1 + 1) n xs := by simpa using hby
  have hbb : Below w.heap.size w w1 := (below3 w _ _ _).trans (hb1.mono (by simp; omega))
  refine bodyPost_ret (v := .agg #[.slice (some ⟨w.heap.size + 1 + 1 + 1, 0, none⟩) n n, .int .i64 top]) (by simp [results, Try.results22, go_sem, hc1]) rfl ⟨_, rfl, by omega, ?_, ?_⟩
  · exact (((hby'.setCell (by simp) _).setCell (by simp) _).setCell (by simp; omega) _).setCell (by simp; omega) _
  · exact (((hbb.setCell (by simp; omega) _).setCell (by simp; omega) _).setCell (by simp) _).setCell (by simp) _
set_option maxHeartbeats 1000000 in
theorem eqHeap_c (p1 p2 : Option Addr) (n c1 c2 : Nat) (top : Int) (xs : List Int) (w : World) (h1 : Is w p1 n c1 xs) (h2 : Is w p2 n c2 xs) :
    Calls Try.prog 17 #[.agg #[.slice p1 n c1, .int .i64 top], .agg #[.slice p2 n c2, .int .i64 top]] w fun e w' => e = .returned (.bool true) ∧ Below w.heap.size w w' := by
  have H1 : Hid (Is w p1 n c1 xs) := h1
  have H2 : Hid (Is w p2 n c2 xs) := h2
  clear h1 h2
  go_enter Try.func17, Try.ntmps17
  go_wp2_with (go_at_call 25; refine (eqIntS_c _ _ n c1 c2 xs _ (by exact H1.out.below (below2 w _ _)) (by exact H2.out.below (below2 w _ _))).mono ?_; rintro e w1 ⟨rfl, q, rfl⟩)
  go_ret
  exact ⟨rfl, below_drewN' (below2 w _ _) q⟩
set_option maxHeartbeats 1000000 in
theorem markHeap_c (p : Option Addr) (n c B E : Nat) (top k : Int) (w : World) (h : Wr w B E p n) (hn : n ≤ 1048576) (h0 : 0 ≤ k) (h1 : k ≤ 1000000000000000) :
    Calls Try.prog 18 #[.agg #[.slice p n c, .int .i64 top], .int .i64 k] w fun e w' => e = .returned (.int .i64 (k + n)) ∧ Held w' p n k ∧ ∃ wm, Below w.heap.size w wm ∧ Within B E wm w' := by
  have H : Hid (Wr w B E p n) := h
  clear h
  go_enter Try.func18, Try.ntmps18
  go_wp2_with (go_at_call 28; refine (markIntS_c p n c B E k _ (by exact H.out.below (below1 w _)) hn h0 h1).mono ?_; rintro e w1 ⟨rfl, hh, hw⟩)
  go_ret
  exact ⟨rfl, hh, _, below1 w _, hw⟩
set_option maxHeartbeats 1000000 in
theorem heldHeap_c (p : Option Addr) (n c : Nat) (top k : Int) (w : World) (h : Held w p n k) (hn : n ≤ 1048576) (h0 : 0 ≤ k) (h1 : k ≤ 1000000000000000) :
    Calls Try.prog 19 #[.agg #[.slice p n c, .int .i64 top], .int .i64 k] w fun e w' => e = .returned (.int .i64 (k + n)) ∧ Below w.heap.size w w' := by
  have H : Hid (Held w p n k) := h
  clear h
  have hq : decide (k + (n : Int) < 0) = false := by simp; omega
  go_enter Try.func19, Try.ntmps19
  go_wp2_with (go_at_call 31; refine (heldIntS_c p n c k _ (by exact H.out.below (below1 w _)) hn h0 h1).mono ?_; rintro e w1 ⟨rfl, rfl⟩)
  go_ret
  exact ⟨rfl, below1 w _⟩
/-! ### NewHeap -/
/-- What both NewHeaps answer. -/
def NH (sz : Int) (w w' : World) (e : Ending) : Prop := ∃ p n code, e = .returned (.tuple #[.agg #[.slice p n n, .int .i64 0], .int .i64 code]) ∧ code = (if sz < 0 ∨ 20000 < sz then 1 else 0) ∧ n = (if sz < 0 ∨ 20000 < sz then 0 else sz.toNat) ∧ Is w' p n n (List.replicate n 0) ∧ Wr w' w.heap.size w'.heap.size p n ∧ Below w.heap.size w w'
theorem NH.bad {sz : Int} {w w' : World} (h : sz < 0 ∨ 20000 < sz) (hb : Below w.heap.size w w') : NH sz w w' (.returned (.tuple #[.agg #[.slice none 0 0, .int .i64 0], .int .i64 1])) :=
  ⟨none, 0, 1, rfl, by rw [if_pos h], by rw [if_pos h], ⟨rfl, Nat.le_refl _, by unfold maxLen; omega, fun i => by simp, fun h => absurd h (Nat.lt_irrefl 0)⟩, fun h => absurd h (Nat.lt_irrefl 0), hb⟩
theorem rep_getD (n i : Nat) : (List.replicate n (0 : Int)).getD i 0 = 0 := by
  simp [List.getD, List.getElem?_replicate]
  split <;> rfl
theorem Ro.zeros {w : World} {g n : Nat} (h : w.rowIs g 3 n (fun _ => .int .i64 0)) : Ro w g n (List.replicate n 0) := h.congr (fun j _ => by rw [rep_getD])
theorem NH.ok {n g : Nat} {w w' : World} (h : n ≤ 20000) (hr : w'.rowIs g 3 n (fun _ => .int .i64 0)) (hg : w.heap.size ≤ g) (hb : Below w.heap.size w w') : NH n w w' (.returned (.tuple #[.agg #[.slice (some ⟨g, 0, none⟩) n n, .int .i64 0], .int .i64 0])) :=
  ⟨some ⟨g, 0, none⟩, n, 0, rfl, by rw [if_neg (by omega)], by rw [if_neg (by omega)]; simp, (Ro.zeros hr).is (by simp) (by unfold maxLen; omega) (fun i => by rw [rep_getD]; omega), (Ro.zeros hr).wr hg hr.lt, hb⟩
set_option maxHeartbeats 1000000 in
theorem specNewHeap_c (sz : Int) (w : World) : Calls Try.prog 15 #[.int .i64 sz] w fun e w' => NH sz w w' e := by
  by_cases h1 : sz < 0
  · go_enter Try.func15, Try.ntmps15
    go_wp2
    exact bodyPost_ret (v := .tuple #[.agg #[.slice none 0 0, .int .i64 0], .int .i64 1]) (by simp [results, Try.results15, go_sem]) rfl (NH.bad (Or.inl h1) (below1 w _))
  · by_cases h2 : 20000 < sz
    · go_enter Try.func15, Try.ntmps15
      go_wp2
      exact bodyPost_ret (v := .tuple #[.agg #[.slice none 0 0, .int .i64 0], .int .i64 1]) (by simp [results, Try.results15, go_sem]) rfl (NH.bad (Or.inr h2) (below1 w _))
    · obtain ⟨n, rfl⟩ := Int.eq_ofNat_of_zero_le (show 0 ≤ sz by omega)
      have hmk := run_make_row' (P := Try.prog) 29 3 (.int .i64 0) 8 Try.underlying29 info3 rfl .i64 .i64 n (by omega) (by omega)
      have hn : n ≤ 20000 := by omega
      go_enter Try.func15, Try.ntmps15
      go_wp2
      refine bodyPost_ret (v := .tuple #[.agg #[.slice (some ⟨w.heap.size + 1, 0, none⟩) n n, .int .i64 0], .int .i64 0]) (by simp [results, Try.results15, go_sem]) rfl (NH.ok hn ?_ (by omega) (below2 w _ _))
      have := World.rowIs_made (w.alloc (.cells #[.slice (some ⟨w.heap.size + 1, 0, none⟩) n n, .int .i64 0] 31)) (.int .i64 0) n 3
      simpa using this
set_option maxHeartbeats 1000000 in
theorem implNewHeap_c (sz : Int) (w : World) : Calls Try.prog 16 #[.int .i64 sz] w fun e w' => NH sz w w' e := by
  by_cases h1 : sz < 0
  · go_enter Try.func16, Try.ntmps16
    go_wp2
    exact bodyPost_ret (v := .tuple #[.agg #[.slice none 0 0, .int .i64 0], .int .i64 1]) (by simp [results, Try.results16, go_sem]) rfl (NH.bad (Or.inl h1) (below1 w _))
  · by_cases h2 : 20000 < sz
    · go_enter Try.func16, Try.ntmps16
      go_wp2
      exact bodyPost_ret (v := .tuple #[.agg #[.slice none 0 0, .int .i64 0], .int .i64 1]) (by simp [results, Try.results16, go_sem]) rfl (NH.bad (Or.inr h2) (below1 w _))
    · obtain ⟨n, rfl⟩ := Int.eq_ofNat_of_zero_le (show 0 ≤ sz by omega)
      have hmk := run_make_row' (P := Try.prog) 29 3 (.int .i64 0) 8 Try.underlying29 info3 rfl .i64 .i64 n (by omega) (by omega)
      have hn : n ≤ 20000 := by omega
      go_enter Try.func16, Try.ntmps16
      go_wp2
      refine bodyPost_ret (v := .tuple #[.agg #[.slice (some ⟨w.heap.size + 1, 0, none⟩) n n, .int .i64 0], .int .i64 0]) (by simp [results, Try.results16, go_sem]) rfl (NH.ok hn ?_ (by omega) (below2 w _ _))
      have := World.rowIs_made (w.alloc (.cells #[.slice (some ⟨w.heap.size + 1, 0, none⟩) n n, .int .i64 0] 31)) (.int .i64 0) n 3
      simpa using this
end Go.Proofs.Ytpfodinoeoejcaa
