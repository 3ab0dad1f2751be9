import Derived.Test.YtadkajhejbondaaGreatDoorW7
namespace Go.Proofs.YtadkajhejbondaaGreatDoor
open Go.RowKit Ch1
/-- The words of the instructions. -/
def wordB (op : Nat) : ByteArray := ⟨(([[99, 111, 110, 115, 116], [108, 111, 99, 97, 108], [102, 114, 101, 101], [103, 108, 111, 98, 97, 108], [115, 101, 116, 103, 108, 111, 98, 97, 108], [98, 111, 120], [117, 110, 98, 111, 120], [115, 101, 116, 98, 111, 120], [99, 108, 111, 115, 117, 114, 101], [99, 97, 108, 108], [116, 97, 105, 108], [114, 101, 116, 117, 114, 110], [106, 117, 109, 112], [106, 117, 109, 112, 102, 97, 108, 115, 101], [112, 114, 105, 109], [115, 108, 105, 100, 101], [112, 111, 112], [118, 111, 105, 100]] : List (List UInt8)).getD op []).toArray⟩
/-- The names of the primitives. -/
def primB (p : Nat) : ByteArray := ⟨(([[43], [45], [42], [113, 117, 111, 116, 105, 101, 110, 116], [114, 101, 109, 97, 105, 110, 100, 101, 114], [61], [60], [99, 111, 110, 115], [99, 97, 114], [99, 100, 114], [110, 117, 108, 108, 63], [112, 97, 105, 114, 63], [102, 105, 120, 110, 117, 109, 63], [115, 121, 109, 98, 111, 108, 63], [112, 114, 111, 99, 101, 100, 117, 114, 101, 63], [118, 101, 99, 116, 111, 114, 63], [101, 113, 63], [110, 111, 116], [109, 97, 107, 101, 45, 118, 101, 99, 116, 111, 114], [118, 101, 99, 116, 111, 114, 45, 114, 101, 102], [118, 101, 99, 116, 111, 114, 45, 115, 101, 116, 33], [118, 101, 99, 116, 111, 114, 45, 108, 101, 110, 103, 116, 104]] : List (List UInt8)).getD p []).toArray⟩
/-- Whether the table names A. -/
def hasA (op : Nat) : Bool := !(op == 6 || op == 7 || op == 11 || op == 16 || op == 17)
set_option maxRecDepth 20000 in
set_option maxHeartbeats 8000000 in
theorem l3word_c (j : Nat) (hj : j < 18) (w : World) : Calls Tryz.prog 18 #[.int .i64 (j : Int)] w fun e w' => e = .returned (.tuple #[.string (wordB j), .bool (hasA j), .bool (j == 8)]) ∧ Below w.heap.size w w' := by
  have hops : j = 0 ∨ j = 1 ∨ j = 2 ∨ j = 3 ∨ j = 4 ∨ j = 5 ∨ j = 6 ∨ j = 7 ∨ j = 8 ∨ j = 9 ∨ j = 10 ∨ j = 11 ∨ j = 12 ∨ j = 13 ∨ j = 14 ∨ j = 15 ∨ j = 16 ∨ j = 17 := by omega
  rcases hops with h | h | h | h | h | h | h | h | h | h | h | h | h | h | h | h | h | h <;> subst h
  all_goals
    go_enter Tryz.func18, Tryz.ntmps18
    go_wp2
    refine bodyPost_ret (v := .tuple #[.string (wordB _), .bool (hasA _), .bool _]) (by simp [results, Tryz.results18, go_sem]; first | rfl | (constructor <;> rfl)) rfl ⟨rfl, below1 _ _⟩
/-- What l3prim answers: the name first. -/
def PrP (p : Nat) (w w' : World) (e : Ending) : Prop := ∃ v1 v2, e = .returned (.tuple #[.string (primB p), v1, v2]) ∧ Below w.heap.size w w'
set_option maxRecDepth 20000 in
set_option maxHeartbeats 8000000 in
theorem l3prim_c (j : Nat) (hj : j < 22) (w : World) : Calls Tryz.prog 19 #[.int .i64 (j : Int)] w fun e w' => PrP j w w' e := by
  have hops : j = 0 ∨ j = 1 ∨ j = 2 ∨ j = 3 ∨ j = 4 ∨ j = 5 ∨ j = 6 ∨ j = 7 ∨ j = 8 ∨ j = 9 ∨ j = 10 ∨ j = 11 ∨ j = 12 ∨ j = 13 ∨ j = 14 ∨ j = 15 ∨ j = 16 ∨ j = 17 ∨ j = 18 ∨ j = 19 ∨ j = 20 ∨ j = 21 := by omega
  rcases hops with h | h | h | h | h | h | h | h | h | h | h | h | h | h | h | h | h | h | h | h | h | h <;> subst h
  · go_enter Tryz.func19, Tryz.ntmps19
    go_wp2
    exact bodyPost_ret (v := .tuple #[.string (primB 0), .slice (some ⟨w.heap.size + 1, 0, none⟩) 2 2, .int .i64 1]) (by simp [results, Tryz.results19, go_sem]; rfl) rfl ⟨_, _, rfl, below2 _ _ _⟩
  · go_enter Tryz.func19, Tryz.ntmps19
    go_wp2
    exact bodyPost_ret (v := .tuple #[.string (primB 1), .slice (some ⟨w.heap.size + 1, 0, none⟩) 2 2, .int .i64 1]) (by simp [results, Tryz.results19, go_sem]; rfl) rfl ⟨_, _, rfl, below2 _ _ _⟩
  · go_enter Tryz.func19, Tryz.ntmps19
    go_wp2
    exact bodyPost_ret (v := .tuple #[.string (primB 2), .slice (some ⟨w.heap.size + 1, 0, none⟩) 2 2, .int .i64 1]) (by simp [results, Tryz.results19, go_sem]; rfl) rfl ⟨_, _, rfl, below2 _ _ _⟩
  · go_enter Tryz.func19, Tryz.ntmps19
    go_wp2
    exact bodyPost_ret (v := .tuple #[.string (primB 3), .slice (some ⟨w.heap.size + 1, 0, none⟩) 2 2, .int .i64 1]) (by simp [results, Tryz.results19, go_sem]; rfl) rfl ⟨_, _, rfl, below2 _ _ _⟩
  · go_enter Tryz.func19, Tryz.ntmps19
    go_wp2
    exact bodyPost_ret (v := .tuple #[.string (primB 4), .slice (some ⟨w.heap.size + 1, 0, none⟩) 2 2, .int .i64 1]) (by simp [results, Tryz.results19, go_sem]; rfl) rfl ⟨_, _, rfl, below2 _ _ _⟩
  · go_enter Tryz.func19, Tryz.ntmps19
    go_wp2
    exact bodyPost_ret (v := .tuple #[.string (primB 5), .slice (some ⟨w.heap.size + 1, 0, none⟩) 2 2, .int .i64 2]) (by simp [results, Tryz.results19, go_sem]; rfl) rfl ⟨_, _, rfl, below2 _ _ _⟩
  · go_enter Tryz.func19, Tryz.ntmps19
    go_wp2
    exact bodyPost_ret (v := .tuple #[.string (primB 6), .slice (some ⟨w.heap.size + 1, 0, none⟩) 2 2, .int .i64 2]) (by simp [results, Tryz.results19, go_sem]; rfl) rfl ⟨_, _, rfl, below2 _ _ _⟩
  · go_enter Tryz.func19, Tryz.ntmps19
    go_wp2
    exact bodyPost_ret (v := .tuple #[.string (primB 7), .slice (some ⟨w.heap.size + 1, 0, none⟩) 2 2, .int .i64 16]) (by simp [results, Tryz.results19, go_sem]; rfl) rfl ⟨_, _, rfl, below2 _ _ _⟩
  · go_enter Tryz.func19, Tryz.ntmps19
    go_wp2
    exact bodyPost_ret (v := .tuple #[.string (primB 8), .slice (some ⟨w.heap.size + 1, 0, none⟩) 1 1, .int .i64 255]) (by simp [results, Tryz.results19, go_sem]; rfl) rfl ⟨_, _, rfl, below2 _ _ _⟩
  · go_enter Tryz.func19, Tryz.ntmps19
    go_wp2
    exact bodyPost_ret (v := .tuple #[.string (primB 9), .slice (some ⟨w.heap.size + 1, 0, none⟩) 1 1, .int .i64 255]) (by simp [results, Tryz.results19, go_sem]; rfl) rfl ⟨_, _, rfl, below2 _ _ _⟩
  · go_enter Tryz.func19, Tryz.ntmps19
    go_wp2
    exact bodyPost_ret (v := .tuple #[.string (primB 10), .slice (some ⟨w.heap.size + 1, 0, none⟩) 1 1, .int .i64 2]) (by simp [results, Tryz.results19, go_sem]; rfl) rfl ⟨_, _, rfl, below2 _ _ _⟩
  · go_enter Tryz.func19, Tryz.ntmps19
    go_wp2
    exact bodyPost_ret (v := .tuple #[.string (primB 11), .slice (some ⟨w.heap.size + 1, 0, none⟩) 1 1, .int .i64 2]) (by simp [results, Tryz.results19, go_sem]; rfl) rfl ⟨_, _, rfl, below2 _ _ _⟩
  · go_enter Tryz.func19, Tryz.ntmps19
    go_wp2
    exact bodyPost_ret (v := .tuple #[.string (primB 12), .slice (some ⟨w.heap.size + 1, 0, none⟩) 1 1, .int .i64 2]) (by simp [results, Tryz.results19, go_sem]; rfl) rfl ⟨_, _, rfl, below2 _ _ _⟩
  · go_enter Tryz.func19, Tryz.ntmps19
    go_wp2
    exact bodyPost_ret (v := .tuple #[.string (primB 13), .slice (some ⟨w.heap.size + 1, 0, none⟩) 1 1, .int .i64 2]) (by simp [results, Tryz.results19, go_sem]; rfl) rfl ⟨_, _, rfl, below2 _ _ _⟩
  · go_enter Tryz.func19, Tryz.ntmps19
    go_wp2
    exact bodyPost_ret (v := .tuple #[.string (primB 14), .slice (some ⟨w.heap.size + 1, 0, none⟩) 1 1, .int .i64 2]) (by simp [results, Tryz.results19, go_sem]; rfl) rfl ⟨_, _, rfl, below2 _ _ _⟩
  · go_enter Tryz.func19, Tryz.ntmps19
    go_wp2
    exact bodyPost_ret (v := .tuple #[.string (primB 15), .slice (some ⟨w.heap.size + 1, 0, none⟩) 1 1, .int .i64 2]) (by simp [results, Tryz.results19, go_sem]; rfl) rfl ⟨_, _, rfl, below2 _ _ _⟩
  · go_enter Tryz.func19, Tryz.ntmps19
    go_wp2
    exact bodyPost_ret (v := .tuple #[.string (primB 16), .slice (some ⟨w.heap.size + 1, 0, none⟩) 2 2, .int .i64 2]) (by simp [results, Tryz.results19, go_sem]; rfl) rfl ⟨_, _, rfl, below2 _ _ _⟩
  · go_enter Tryz.func19, Tryz.ntmps19
    go_wp2
    exact bodyPost_ret (v := .tuple #[.string (primB 17), .slice (some ⟨w.heap.size + 1, 0, none⟩) 1 1, .int .i64 2]) (by simp [results, Tryz.results19, go_sem]; rfl) rfl ⟨_, _, rfl, below2 _ _ _⟩
  · go_enter Tryz.func19, Tryz.ntmps19
    go_wp2
    exact bodyPost_ret (v := .tuple #[.string (primB 18), .slice (some ⟨w.heap.size + 1, 0, none⟩) 2 2, .int .i64 32]) (by simp [results, Tryz.results19, go_sem]; rfl) rfl ⟨_, _, rfl, below2 _ _ _⟩
  · go_enter Tryz.func19, Tryz.ntmps19
    go_wp2
    exact bodyPost_ret (v := .tuple #[.string (primB 19), .slice (some ⟨w.heap.size + 1, 0, none⟩) 2 2, .int .i64 255]) (by simp [results, Tryz.results19, go_sem]; rfl) rfl ⟨_, _, rfl, below2 _ _ _⟩
  · go_enter Tryz.func19, Tryz.ntmps19
    go_wp2
    exact bodyPost_ret (v := .tuple #[.string (primB 20), .slice (some ⟨w.heap.size + 1, 0, none⟩) 3 3, .int .i64 128]) (by simp [results, Tryz.results19, go_sem]; rfl) rfl ⟨_, _, rfl, below2 _ _ _⟩
  · go_enter Tryz.func19, Tryz.ntmps19
    go_wp2
    exact bodyPost_ret (v := .tuple #[.string (primB 21), .slice (some ⟨w.heap.size + 1, 0, none⟩) 1 1, .int .i64 1]) (by simp [results, Tryz.results19, go_sem]; rfl) rfl ⟨_, _, rfl, below2 _ _ _⟩
end Go.Proofs.YtadkajhejbondaaGreatDoor
