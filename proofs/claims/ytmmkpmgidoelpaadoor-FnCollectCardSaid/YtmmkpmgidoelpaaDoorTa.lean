import Derived.Test.YtmmkpmgidoelpaaDoorT7
namespace Go.Proofs.YtmmkpmgidoelpaaDoor.Hp
open Go.RowKit Ch2
set_option maxRecDepth 20000 in
set_option maxHeartbeats 2000000 in
theorem sameN_c (p q : Option Addr) (n c d : Nat) (xs ys : List Int) (w : World) (hx : Is w p n c xs) (hy : Is w q n d ys) (he : ∀ i, i < n → xs.getD i 0 = ys.getD i 0) :
    Calls Tryd.prog 10 #[.slice p n c, .slice q n d] w fun e w' => e = .returned (.bool true) ∧ Below w.heap.size w w' := by
  have HX : Hid (Is w p n c xs) := hx
  have HY : Hid (Is w q n d ys) := hy
  have HE : Hid (∀ i, i < n → xs.getD i 0 = ys.getD i 0) := he
  have hs := hx.small.1
  clear hx hy he
  have hb : ((n : Int) != (n : Int)) = false := by simp
  go_enter Tryd.func10, Tryd.ntmps10
  go_wp2_with fail
  go_loopw [5] (fun iv wr => ∃ i : Nat, i ≤ n ∧ iv = .int .i64 i ∧ Hid (Below w.heap.size w wr)) (fun iv _ => n - (intOf iv).toNat)
  case atStart => exact ⟨0, Nat.zero_le _, rfl, Below.refl _ _⟩
  case round =>
    obtain ⟨i, hi, rfl, hB⟩ := hrel
    by_cases hlt : i < n
    · obtain ⟨b1, o1, rfl, hb1, g1⟩ := (HX.out.below hB.out).cells (by omega)
      obtain ⟨b2, o2, rfl, hb2, g2⟩ := (HY.out.below hB.out).cells (by omega)
      have q1 := g1 i hlt
      have q2 := g2 i hlt
      rw [← HE.out i hlt] at q2
      generalize xs.getD i 0 = x at q1 q2
      have e1 : (x != x) = false := by simp
      clear g1 g2
      go_wp2_with fail
      go_region
      all_goals go_wp2_with fail
      all_goals exact ⟨⟨i + 1, by omega, by go_num, below_drew hB.out⟩, by simp [intOf]; omega⟩
    · obtain rfl : i = n := by omega
      go_wp2_with fail
      go_ret
      exact ⟨rfl, hB.out⟩
end Go.Proofs.YtmmkpmgidoelpaaDoor.Hp
