import Derived.Test.YtpfodinoeoejcaaCc
import Derived.Test.YtpfodinoeoejcaaA3
namespace Go.Proofs.Ytpfodinoeoejcaa
open Go.RowKit Ch2 Go.Maps
set_option maxRecDepth 20000 in
set_option maxHeartbeats 4000000 in
theorem move_nil (cb d : Nat) (p : Option Addr) (w : World) :
    Calls Try.prog 57 #[.pointer (some ⟨cb, 0, none⟩), .slice p 0 d] w fun e w' => e = .returned (.tuple #[]) ∧ w' = w := by
  go_enter Try.func57, Try.ntmps57
  go_wp2
  go_loop [8] (fun i => i = .int .i64 0) (fun _ => 0)
  case atStart => exact rfl
  case round =>
    obtain rfl := hrel
    go_wp2
    go_end0
    exact ⟨rfl, rfl⟩
set_option maxRecDepth 20000 in
set_option maxHeartbeats 4000000 in
theorem move_c (r ro m d cb : Nat) (us : List Int) (J : Nat → World → Prop) (w : World) (hJ : MovJ r ro m cb us J) (h0 : J 0 w) (hm : m ≤ 20000) :
    Calls Try.prog 57 #[.pointer (some ⟨cb, 0, none⟩), .slice (some ⟨r, ro, none⟩) m d] w fun e w' => e = .returned (.tuple #[]) ∧ J m w' := by
  have HJ : Hid (MovJ r ro m cb us J) := hJ
  have H0 : Hid (J 0 w) := h0
  clear hJ h0
  go_enter Try.func57, Try.ntmps57
  go_wp2
  go_loopw [8] (fun i wr => ∃ j : Nat, j ≤ m ∧ i = .int .i64 j ∧ Hid (J j wr)) (fun i _ => m - (intOf i).toNat)
  case atStart => exact ⟨0, Nat.zero_le _, rfl, H0⟩
  case round =>
    obtain ⟨j, hj, rfl, hJj⟩ := hrel
    by_cases hlt : j < m
    · have g1 := HJ.out.read j wr hlt hJj.out
      by_cases k1 : us.getD j 0 % 4 = 1
      · obtain ⟨q, hq, hpl⟩ := HJ.out.place j wr hlt hJj.out k1
        obtain ⟨x, hx⟩ : ∃ x, us.getD j 0 = x := ⟨_, rfl⟩
        rw [hx] at g1 k1 hq
        have HPL : Hid (Calls Try.prog 72 #[.pointer (some ⟨cb, 0, none⟩), .int .i64 (q : Int)] wr fun e w' => ∃ v : Nat, e = .returned (.int .i64 (v : Int)) ∧ v ≤ 20000 ∧ w'.frozen? ⟨r, ro + j, none⟩ = false ∧ (∃ y, w'.cell? ⟨r, ro + j, none⟩ = some y) ∧ J (j + 1) (w'.setCell ⟨r, ro + j, none⟩ (.int .i64 (4 * (v : Int) + 1)))) := hpl
        clear hpl hx
        go_wp2_with (first | (go_at_call 61; refine (tagOf_c x _).mono ?_; rintro e w2 ⟨rfl, hwx⟩; have hwy := hwx.symm; clear hwx; subst hwy; rw [k1]) | (go_at_call 62; refine (numberOf_c x _).mono ?_; rintro e w2 ⟨rfl, hwx⟩; have hwy := hwx.symm; clear hwx; subst hwy; rw [hq]) | (go_at_call 72; refine HPL.out.mono ?_; rintro e w2 ⟨v, rfl, hv, hf, ⟨y, hy⟩, hJ2⟩; have HJ2 : Hid (J (j + 1) (w2.setCell ⟨r, ro + j, none⟩ (.int .i64 (4 * (v : Int) + 1)))) := hJ2; clear hJ2) | (go_at_call 54; refine (wordOf_c 1 v _ (by omega) (by omega) (by omega) (by omega)).mono ?_; rintro e w4 ⟨rfl, hwx⟩; have hwy := hwx.symm; clear hwx; subst hwy))
        exact ⟨⟨j + 1, by omega, by go_num, HJ2.out⟩, by simp [intOf]; omega⟩
      · have HSK : Hid (J (j + 1) wr) := HJ.out.skip j wr hlt hJj.out k1
        obtain ⟨x, hx⟩ : ∃ x, us.getD j 0 = x := ⟨_, rfl⟩
        rw [hx] at g1 k1
        obtain ⟨y, hy⟩ : ∃ y, x % 4 = y := ⟨_, rfl⟩
        have e0 : (y == 1) = false := by rw [← hy]; simpa using k1
        clear hx
        go_wp2_with (go_at_call 61; refine (tagOf_c x _).mono ?_; rintro e w2 ⟨rfl, hwx⟩; have hwy := hwx.symm; clear hwx; subst hwy; rw [hy])
        exact ⟨⟨j + 1, by omega, by go_num, HSK.out⟩, by simp [intOf]; omega⟩
    · obtain rfl : j = m := by omega
      go_wp2
      go_end0
      exact ⟨rfl, hJj.out⟩
end Go.Proofs.Ytpfodinoeoejcaa
