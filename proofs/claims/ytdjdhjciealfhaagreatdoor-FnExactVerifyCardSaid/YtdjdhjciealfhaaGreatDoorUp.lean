import Derived.Test.YtdjdhjciealfhaaGreatDoorU1
namespace Go.Proofs.YtdjdhjciealfhaaGreatDoor
open Go.RowKit Ch1
namespace Vf
/-- What l3prim answers. -/
def PrQ (p : Nat) (w w' : World) (e : Ending) : Prop := ∃ s g, e = .returned (.tuple #[.string s, .slice (some ⟨g, 0, none⟩) (pArgs p).length (pArgs p).length, .int .i64 (pRes p : Nat)]) ∧ OwI w' w.heap.size (.slice (some ⟨g, 0, none⟩) (pArgs p).length (pArgs p).length) (pArgs p) ∧ Below w.heap.size w w'
theorem pArgs_rng {p : Nat} (h : p < 22) : 0 < (pArgs p).length ∧ (pArgs p).length ≤ 3 := by
  have hps : p = 0 ∨ p = 1 ∨ p = 2 ∨ p = 3 ∨ p = 4 ∨ p = 5 ∨ p = 6 ∨ p = 7 ∨ p = 8 ∨ p = 9 ∨ p = 10 ∨ p = 11 ∨ p = 12 ∨ p = 13 ∨ p = 14 ∨ p = 15 ∨ p = 16 ∨ p = 17 ∨ p = 18 ∨ p = 19 ∨ p = 20 ∨ p = 21 := by omega
  rcases hps with h | h | h | h | h | h | h | h | h | h | h | h | h | h | h | h | h | h | h | h | h | h <;> subst h <;> decide
set_option maxRecDepth 20000 in
set_option maxHeartbeats 8000000 in
theorem l3prim_f (j : Nat) (hj : j < 22) (w : World) : Calls Tryz.prog 63 #[.int .i64 (j : Int)] w fun e w' => PrQ j w w' e := by
  have hops : j = 0 ∨ j = 1 ∨ j = 2 ∨ j = 3 ∨ j = 4 ∨ j = 5 ∨ j = 6 ∨ j = 7 ∨ j = 8 ∨ j = 9 ∨ j = 10 ∨ j = 11 ∨ j = 12 ∨ j = 13 ∨ j = 14 ∨ j = 15 ∨ j = 16 ∨ j = 17 ∨ j = 18 ∨ j = 19 ∨ j = 20 ∨ j = 21 := by omega
  rcases hops with h | h | h | h | h | h | h | h | h | h | h | h | h | h | h | h | h | h | h | h | h | h <;> subst h
  · go_enter Tryz.func63, Tryz.ntmps63
    go_wp2
    exact bodyPost_ret (v := .tuple #[.string _, .slice (some ⟨w.heap.size + 1, 0, none⟩) 2 2, .int .i64 1]) (by simp [results, Tryz.results63, go_sem]; rfl) rfl ⟨_, _, rfl, OwI.new2 w _ (pArgs _) (by decide) (by decide), below2 _ _ _⟩
  · go_enter Tryz.func63, Tryz.ntmps63
    go_wp2
    exact bodyPost_ret (v := .tuple #[.string _, .slice (some ⟨w.heap.size + 1, 0, none⟩) 2 2, .int .i64 1]) (by simp [results, Tryz.results63, go_sem]; rfl) rfl ⟨_, _, rfl, OwI.new2 w _ (pArgs _) (by decide) (by decide), below2 _ _ _⟩
  · go_enter Tryz.func63, Tryz.ntmps63
    go_wp2
    exact bodyPost_ret (v := .tuple #[.string _, .slice (some ⟨w.heap.size + 1, 0, none⟩) 2 2, .int .i64 1]) (by simp [results, Tryz.results63, go_sem]; rfl) rfl ⟨_, _, rfl, OwI.new2 w _ (pArgs _) (by decide) (by decide), below2 _ _ _⟩
  · go_enter Tryz.func63, Tryz.ntmps63
    go_wp2
    exact bodyPost_ret (v := .tuple #[.string _, .slice (some ⟨w.heap.size + 1, 0, none⟩) 2 2, .int .i64 1]) (by simp [results, Tryz.results63, go_sem]; rfl) rfl ⟨_, _, rfl, OwI.new2 w _ (pArgs _) (by decide) (by decide), below2 _ _ _⟩
  · go_enter Tryz.func63, Tryz.ntmps63
    go_wp2
    exact bodyPost_ret (v := .tuple #[.string _, .slice (some ⟨w.heap.size + 1, 0, none⟩) 2 2, .int .i64 1]) (by simp [results, Tryz.results63, go_sem]; rfl) rfl ⟨_, _, rfl, OwI.new2 w _ (pArgs _) (by decide) (by decide), below2 _ _ _⟩
  · go_enter Tryz.func63, Tryz.ntmps63
    go_wp2
    exact bodyPost_ret (v := .tuple #[.string _, .slice (some ⟨w.heap.size + 1, 0, none⟩) 2 2, .int .i64 2]) (by simp [results, Tryz.results63, go_sem]; rfl) rfl ⟨_, _, rfl, OwI.new2 w _ (pArgs _) (by decide) (by decide), below2 _ _ _⟩
  · go_enter Tryz.func63, Tryz.ntmps63
    go_wp2
    exact bodyPost_ret (v := .tuple #[.string _, .slice (some ⟨w.heap.size + 1, 0, none⟩) 2 2, .int .i64 2]) (by simp [results, Tryz.results63, go_sem]; rfl) rfl ⟨_, _, rfl, OwI.new2 w _ (pArgs _) (by decide) (by decide), below2 _ _ _⟩
  · go_enter Tryz.func63, Tryz.ntmps63
    go_wp2
    exact bodyPost_ret (v := .tuple #[.string _, .slice (some ⟨w.heap.size + 1, 0, none⟩) 2 2, .int .i64 16]) (by simp [results, Tryz.results63, go_sem]; rfl) rfl ⟨_, _, rfl, OwI.new2 w _ (pArgs _) (by decide) (by decide), below2 _ _ _⟩
  · go_enter Tryz.func63, Tryz.ntmps63
    go_wp2
    exact bodyPost_ret (v := .tuple #[.string _, .slice (some ⟨w.heap.size + 1, 0, none⟩) 1 1, .int .i64 255]) (by simp [results, Tryz.results63, go_sem]; rfl) rfl ⟨_, _, rfl, OwI.new2 w _ (pArgs _) (by decide) (by decide), below2 _ _ _⟩
  · go_enter Tryz.func63, Tryz.ntmps63
    go_wp2
    exact bodyPost_ret (v := .tuple #[.string _, .slice (some ⟨w.heap.size + 1, 0, none⟩) 1 1, .int .i64 255]) (by simp [results, Tryz.results63, go_sem]; rfl) rfl ⟨_, _, rfl, OwI.new2 w _ (pArgs _) (by decide) (by decide), below2 _ _ _⟩
  · go_enter Tryz.func63, Tryz.ntmps63
    go_wp2
    exact bodyPost_ret (v := .tuple #[.string _, .slice (some ⟨w.heap.size + 1, 0, none⟩) 1 1, .int .i64 2]) (by simp [results, Tryz.results63, go_sem]; rfl) rfl ⟨_, _, rfl, OwI.new2 w _ (pArgs _) (by decide) (by decide), below2 _ _ _⟩
  · go_enter Tryz.func63, Tryz.ntmps63
    go_wp2
    exact bodyPost_ret (v := .tuple #[.string _, .slice (some ⟨w.heap.size + 1, 0, none⟩) 1 1, .int .i64 2]) (by simp [results, Tryz.results63, go_sem]; rfl) rfl ⟨_, _, rfl, OwI.new2 w _ (pArgs _) (by decide) (by decide), below2 _ _ _⟩
  · go_enter Tryz.func63, Tryz.ntmps63
    go_wp2
    exact bodyPost_ret (v := .tuple #[.string _, .slice (some ⟨w.heap.size + 1, 0, none⟩) 1 1, .int .i64 2]) (by simp [results, Tryz.results63, go_sem]; rfl) rfl ⟨_, _, rfl, OwI.new2 w _ (pArgs _) (by decide) (by decide), below2 _ _ _⟩
  · go_enter Tryz.func63, Tryz.ntmps63
    go_wp2
    exact bodyPost_ret (v := .tuple #[.string _, .slice (some ⟨w.heap.size + 1, 0, none⟩) 1 1, .int .i64 2]) (by simp [results, Tryz.results63, go_sem]; rfl) rfl ⟨_, _, rfl, OwI.new2 w _ (pArgs _) (by decide) (by decide), below2 _ _ _⟩
  · go_enter Tryz.func63, Tryz.ntmps63
    go_wp2
    exact bodyPost_ret (v := .tuple #[.string _, .slice (some ⟨w.heap.size + 1, 0, none⟩) 1 1, .int .i64 2]) (by simp [results, Tryz.results63, go_sem]; rfl) rfl ⟨_, _, rfl, OwI.new2 w _ (pArgs _) (by decide) (by decide), below2 _ _ _⟩
  · go_enter Tryz.func63, Tryz.ntmps63
    go_wp2
    exact bodyPost_ret (v := .tuple #[.string _, .slice (some ⟨w.heap.size + 1, 0, none⟩) 1 1, .int .i64 2]) (by simp [results, Tryz.results63, go_sem]; rfl) rfl ⟨_, _, rfl, OwI.new2 w _ (pArgs _) (by decide) (by decide), below2 _ _ _⟩
  · go_enter Tryz.func63, Tryz.ntmps63
    go_wp2
    exact bodyPost_ret (v := .tuple #[.string _, .slice (some ⟨w.heap.size + 1, 0, none⟩) 2 2, .int .i64 2]) (by simp [results, Tryz.results63, go_sem]; rfl) rfl ⟨_, _, rfl, OwI.new2 w _ (pArgs _) (by decide) (by decide), below2 _ _ _⟩
  · go_enter Tryz.func63, Tryz.ntmps63
    go_wp2
    exact bodyPost_ret (v := .tuple #[.string _, .slice (some ⟨w.heap.size + 1, 0, none⟩) 1 1, .int .i64 2]) (by simp [results, Tryz.results63, go_sem]; rfl) rfl ⟨_, _, rfl, OwI.new2 w _ (pArgs _) (by decide) (by decide), below2 _ _ _⟩
  · go_enter Tryz.func63, Tryz.ntmps63
    go_wp2
    exact bodyPost_ret (v := .tuple #[.string _, .slice (some ⟨w.heap.size + 1, 0, none⟩) 2 2, .int .i64 32]) (by simp [results, Tryz.results63, go_sem]; rfl) rfl ⟨_, _, rfl, OwI.new2 w _ (pArgs _) (by decide) (by decide), below2 _ _ _⟩
  · go_enter Tryz.func63, Tryz.ntmps63
    go_wp2
    exact bodyPost_ret (v := .tuple #[.string _, .slice (some ⟨w.heap.size + 1, 0, none⟩) 2 2, .int .i64 255]) (by simp [results, Tryz.results63, go_sem]; rfl) rfl ⟨_, _, rfl, OwI.new2 w _ (pArgs _) (by decide) (by decide), below2 _ _ _⟩
  · go_enter Tryz.func63, Tryz.ntmps63
    go_wp2
    exact bodyPost_ret (v := .tuple #[.string _, .slice (some ⟨w.heap.size + 1, 0, none⟩) 3 3, .int .i64 128]) (by simp [results, Tryz.results63, go_sem]; rfl) rfl ⟨_, _, rfl, OwI.new2 w _ (pArgs _) (by decide) (by decide), below2 _ _ _⟩
  · go_enter Tryz.func63, Tryz.ntmps63
    go_wp2
    exact bodyPost_ret (v := .tuple #[.string _, .slice (some ⟨w.heap.size + 1, 0, none⟩) 1 1, .int .i64 1]) (by simp [results, Tryz.results63, go_sem]; rfl) rfl ⟨_, _, rfl, OwI.new2 w _ (pArgs _) (by decide) (by decide), below2 _ _ _⟩
end Vf
end Go.Proofs.YtdjdhjciealfhaaGreatDoor
