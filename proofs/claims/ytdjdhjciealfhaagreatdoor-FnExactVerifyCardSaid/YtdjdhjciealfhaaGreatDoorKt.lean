import Derived.Test.YtdjdhjciealfhaaGreatDoorKv
import Derived.Test.YtdjdhjciealfhaaGreatDoorK6
import Derived.ChangeKeysEq
import Derived.Laws.StructEq
namespace Go.Proofs.YtdjdhjciealfhaaGreatDoor
open Go.RowKit Ch1
namespace Vf
/-- The sets of a state's slots. -/
def setV (t : Nat → Nat) : List Value := (List.range 200).map (fun i => Value.int .u16 (t i : Nat))
theorem stG_sets (r : Bool) (c : Nat) (t : Nat → Nat) : stG r c t = .bool r :: .int .i64 (c : Nat) :: setV t := rfl
theorem setV_len (t : Nat → Nat) : (setV t).length = 200 := by simp [setV]
theorem setV_get (t : Nat → Nat) {i : Nat} (hi : i < 200) : (setV t)[i]? = some (.int .u16 (t i : Nat)) := by simp [setV, hi]
theorem cellsK : Tryz.prog.cellsOf 87 = 1 := by kernel_rfl
theorem part_set (t : Nat → Nat) {i : Nat} (hi : i < 200) (w : World) : (part 87 (setV t).toArray (i * 1)).run Tryz.prog w = .ok (.int .u16 (t i : Nat)) w := by
  have h1 := setV_get t hi
  have ha := Tryz.isAgg87
  unfold part
  simp only [Sem.run_bind, ha, Result.andThen_ok]
  simp [h1]
theorem eq_set (d a b : Nat) (w : World) : (Op.equalIn (d + 1) 87 (.int .u16 (a : Nat)) (.int .u16 (b : Nat))).run Tryz.prog w = .ok (decide (a = b)) w := by
  have hu := Tryz.underlying87
  simp only [Op.equalIn, Sem.run_bind, run_underlying hu, Result.andThen_ok]
  by_cases h : a = b
  · subst h; simp
  · simp [h]
    omega
theorem eq_items (t u : Nat → Nat) (d : Nat) (w : World) : ∀ is : List Nat, (∀ i ∈ is, i < 200) → (Op.eqItems (d + 1) 87 1 (setV t).toArray (setV u).toArray is).run Tryz.prog w = .ok (decide (∀ i ∈ is, t i = u i)) w
  | [], _ => by simp [Op.eqItems]
  | i :: is, h => by
    have hi := h i (by simp)
    simp only [Op.eqItems, Sem.run_bind, part_set t hi, part_set u hi, eq_set, Result.andThen_ok]
    by_cases he : t i = u i
    · have ih := eq_items t u d w is (fun j hj => h j (by simp [hj]))
      simp only [decide_eq_true he, Bool.not_true, Bool.false_eq_true, if_false, ih]
      simp [he]
    · simp [he]
/-- Two rows of sets differ. -/
theorem neq_sets (t u : Nat → Nat) (w : World) : (binOp .neq 88 (.agg (setV t).toArray) (.agg (setV u).toArray)).run Tryz.prog w = .ok (.bool (!decide (∀ i ∈ List.range 200, t i = u i))) w := by
  obtain ⟨ii, hi1, _⟩ := Option.map_eq_some_iff.1 sizeK
  rw [run_neq_struct, show (10000 : Nat) = 9998 + 1 + 1 from rfl, run_equalIn_array w (9998 + 1) _ _ Tryz.underlying88 hi1, cellsK, eq_items t u 9998 w _ (fun i hi => List.mem_range.1 hi)]
  rfl
end Vf
end Go.Proofs.YtdjdhjciealfhaaGreatDoor
