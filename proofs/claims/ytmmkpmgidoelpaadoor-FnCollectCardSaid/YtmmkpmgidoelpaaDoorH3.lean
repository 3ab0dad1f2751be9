import Derived.Test.YtmmkpmgidoelpaaDoorN1
namespace Go.Proofs.YtmmkpmgidoelpaaDoor.Hp
open Go.RowKit Ch2
theorem tag_fact (x : Int) : (x.tmod 4 + 4).tmod 4 = x % 4 := by
  rcases Int.le_total 0 x with h | h
  · rw [Int.tmod_eq_emod_of_nonneg h, Int.tmod_eq_emod_of_nonneg (by omega)]; omega
  · obtain ⟨y, rfl⟩ : ∃ y, x = -y := ⟨-x, by omega⟩
    rw [Int.neg_tmod, Int.tmod_eq_emod_of_nonneg (show 0 ≤ y by omega), Int.tmod_eq_emod_of_nonneg (by omega)]
    omega
theorem tmod4_lo (x : Int) : -4 < x.tmod 4 ∧ x.tmod 4 < 4 := by
  rcases Int.le_total 0 x with h | h
  · rw [Int.tmod_eq_emod_of_nonneg h]; omega
  · obtain ⟨y, rfl⟩ : ∃ y, x = -y := ⟨-x, by omega⟩
    rw [Int.neg_tmod, Int.tmod_eq_emod_of_nonneg (show 0 ≤ y by omega)]
    omega
theorem and3 (x : Int) : bits .and .i64 x 3 = x % 4 := by
  show IntKind.i64.wrap ((BitVec.ofInt 64 x &&& BitVec.ofInt 64 3).toNat : Int) = _
  rw [BitVec.toNat_and]
  have h3 : (BitVec.ofInt 64 3).toNat = 2 ^ 2 - 1 := by decide
  rw [h3, Nat.and_two_pow_sub_one_eq_mod, BitVec.toNat_ofInt]
  simp [IntKind.wrap, IntKind.bits, IntKind.signed]
  omega
set_option maxHeartbeats 400000 in
theorem l2tag_c (x : Int) (w : World) : Calls Tryd.prog 35 #[.int .i64 x] w fun e w' => e = .returned (.int .i64 (x % 4)) ∧ w' = w := by
  obtain ⟨h1, h2⟩ := tmod4_lo x
  have HF : Hid ((x.tmod 4 + 4).tmod 4 = x % 4) := tag_fact x
  generalize hr : x.tmod 4 = r at h1 h2 HF
  go_enter Tryd.func35, Tryd.ntmps35
  go_wp2
  go_ret
  exact ⟨ret_int (by rw [← HF.out, Int.tmod_eq_emod_of_nonneg (by omega)]), rfl⟩
set_option maxHeartbeats 400000 in
theorem tagOf_c (x : Int) (w : World) : Calls Tryd.prog 28 #[.int .i64 x] w fun e w' => e = .returned (.int .i64 (x % 4)) ∧ w' = w := by
  have h := and3 x
  go_enter Tryd.func28, Tryd.ntmps28
  go_wp2
  go_ret
  exact ⟨rfl, rfl⟩
set_option maxHeartbeats 400000 in
theorem numberOf_c (x : Int) (w : World) : Calls Tryd.prog 29 #[.int .i64 x] w fun e w' => e = .returned (.int .i64 (x / 4)) ∧ w' = w := by
  go_enter Tryd.func29, Tryd.ntmps29
  go_wp2
  go_ret
  exact ⟨rfl, rfl⟩
/-- A slice of bools that lies in w and reads as f. -/
structure Sb (w : World) (p : Option Addr) (n c : Nat) (f : Nat → Bool) : Prop where
  cap : n ≤ c
  big : c ≤ maxLen
  cells : 0 < n → ∃ b o, p = some ⟨b, o, none⟩ ∧ b < w.heap.size ∧ ∀ i, i < n → w.cell? ⟨b, o + i, none⟩ = some (.bool (f i))
theorem Sb.below {w w' : World} {p : Option Addr} {n c : Nat} {f : Nat → Bool} (h : Sb w p n c f) (hb : Below w.heap.size w w') : Sb w' p n c f := by
  refine ⟨h.cap, h.big, fun hn => ?_⟩
  obtain ⟨b, o, e, hlt, hc⟩ := h.cells hn
  exact ⟨b, o, e, Nat.lt_of_lt_of_le hlt hb.size, fun i hi => by rw [hb.cell (p := ⟨b, o + i, none⟩) hlt]; exact hc i hi⟩
theorem Sb.small {w : World} {p : Option Addr} {n c : Nat} {f : Nat → Bool} (h : Sb w p n c f) : n ≤ 9223372036854775807 ∧ c ≤ 9223372036854775807 := by
  have h1 := h.cap; have h2 := h.big; unfold maxLen at h2; omega
theorem tdiv4 (x : Int) (h : 0 ≤ x) : x.tdiv 4 = x / 4 := Int.tdiv_eq_ediv_of_nonneg h
set_option maxHeartbeats 1000000 in
theorem l2word_c (x : Int) (p : Option Addr) (n c : Nat) (f : Nat → Bool) (w : World) (h : Sb w p n c f) (hx1 : x ≤ 9223372036854775807) :
    Calls Tryd.prog 19 #[.int .i64 x, .slice p n c] w fun e w' => e = .returned (.bool (wordOf f n x)) ∧ w' = w := by
  have HS : Hid (Sb w p n c f) := h
  have hn := h.small.1
  clear h
  by_cases k0 : x % 4 = 0
  · have HF : Hid (wordOf f n x = true) := by unfold Hid wordOf; simp [k0]
    go_enter Tryd.func19, Tryd.ntmps19
    go_wp2_with (go_at_call 35; refine (l2tag_c x _).mono ?_; rintro e w' ⟨rfl, rfl⟩; rw [k0])
    go_ret
    exact ⟨ret_bool HF.out.symm, rfl⟩
  · by_cases k2 : x % 4 = 2
    · have HF : Hid (wordOf f n x = decide (0 ≤ x)) := by unfold Hid wordOf; simp [k2]
      go_enter Tryd.func19, Tryd.ntmps19
      go_wp2_with (go_at_call 35; refine (l2tag_c x _).mono ?_; rintro e w' ⟨rfl, rfl⟩; rw [k2])
      go_ret
      exact ⟨ret_bool HF.out.symm, rfl⟩
    · by_cases k1 : x % 4 = 1
      · have HF : Hid (wordOf f n x = (decide (0 ≤ x) && decide (x / 4 < n) && f (x / 4).toNat)) := by unfold Hid wordOf; simp [k1]
        by_cases h0 : 0 ≤ x
        · obtain ⟨m, hm⟩ : ∃ m : Nat, x / 4 = m := ⟨(x / 4).toNat, by omega⟩
          have hd := tdiv4 x h0
          rw [hm] at hd
          have HM : Hid (x / 4 = m) := hm
          have hmb : m ≤ 9223372036854775807 := by omega
          clear hm
          by_cases hlt : m < n
          · obtain ⟨b, o, rfl, _, g⟩ := HS.out.cells (by omega)
            have g1 := g m hlt
            clear g
            go_enter Tryd.func19, Tryd.ntmps19
            go_wp2_with (go_at_call 35; refine (l2tag_c x _).mono ?_; rintro e w' ⟨rfl, rfl⟩; rw [k1])
            go_ret
            exact ⟨ret_bool (by rw [HF.out, HM.out]; simp [h0, hlt]), rfl⟩
          · have HL : Hid (¬ m < n) := hlt
            go_enter Tryd.func19, Tryd.ntmps19
            go_wp2_with (go_at_call 35; refine (l2tag_c x _).mono ?_; rintro e w' ⟨rfl, rfl⟩; rw [k1])
            go_ret
            exact ⟨ret_bool (by have := HL.out; rw [HF.out, HM.out, show decide ((m : Int) < n) = false by simp; omega]; simp), rfl⟩
        · go_enter Tryd.func19, Tryd.ntmps19
          go_wp2_with (go_at_call 35; refine (l2tag_c x _).mono ?_; rintro e w' ⟨rfl, rfl⟩; rw [k1])
          go_ret
          exact ⟨ret_bool (by rw [HF.out, show decide (0 ≤ x) = false by simp; omega]; rfl), rfl⟩
      · have k3 : x % 4 = 3 := by omega
        have HF : Hid (wordOf f n x = (decide (3 ≤ x) && decide (x ≤ 19))) := by unfold Hid wordOf; simp [k3]
        by_cases h0 : 3 ≤ x
        · go_enter Tryd.func19, Tryd.ntmps19
          go_wp2_with (go_at_call 35; refine (l2tag_c x _).mono ?_; rintro e w' ⟨rfl, rfl⟩; rw [k3])
          go_ret
          exact ⟨ret_bool (by rw [HF.out]; simp [h0]), rfl⟩
        · go_enter Tryd.func19, Tryd.ntmps19
          go_wp2_with (go_at_call 35; refine (l2tag_c x _).mono ?_; rintro e w' ⟨rfl, rfl⟩; rw [k3])
          go_ret
          exact ⟨ret_bool (by rw [HF.out, show decide (3 ≤ x) = false by simp; omega]; rfl), rfl⟩
end Go.Proofs.YtmmkpmgidoelpaaDoor.Hp
