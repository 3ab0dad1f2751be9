import Derived.Test.YtmmkpmgidoelpaaT5
import Derived.Deep.RegionHeld
namespace Go.Proofs.Ytmmkpmgidoelpaa
open Go.RowKit Ch2
theorem zero_cells (m : Nat) : Builtin.zeroCells #[Value.int .i64 0] m = (List.replicate m (Value.int .i64 0)).toArray := by
  apply Array.ext
  · simp [Builtin.zeroCells]
  · intro i h1 h2
    simp [Builtin.zeroCells, Nat.mod_one]
/-- append of so many zeros, onto a row with room. -/
theorem run_zeros_room (w : World) (ty : TypeId) (i : TypeInfo) (hi : Try.prog.info? 3 = some i) (hz : i.zero = some (.int .i64 0)) (hs : i.size = 1) (hby : i.bytes = 8) (g n cap m : Nat) (cur : Array Value) (hg : w.heap[g]? = some (.cells cur 3 (0, 0))) (hcs : cur.size = cap) (hroom : n + m ≤ cap) (hm : 0 < m) (hb : m ≤ 1000000) :
    (Builtin.append_ #[23, 3] ty #[.slice (some ⟨g, 0, none⟩) n cap, .int .i64 (m : Int)]).run Try.prog w = .ok (.slice (some ⟨g, 0, none⟩) (n + m) cap) (w.setRow g (cur.toList.take n ++ List.replicate m (Value.int .i64 0) ++ cur.toList.drop (n + m)).toArray) := by
  have hst := run_storeCells_at Try.prog g n 3 (List.replicate m (Value.int .i64 0)) 0 cur w hg (by simp; omega) (by intro v hv; rw [List.eq_of_mem_replicate hv]; rfl)
  simp only [Nat.add_zero, List.length_replicate] at hst
  have hw : IntKind.i64.wrap (m : Int) = (m : Int) := by rw [IntKind.wrap_i64]; omega
  have h0 : ¬ ((m : Int) < 0) := by omega
  have h48 : ¬ (281474976710656 < (m : Int) * 8) := by omega
  have hmz : m ≠ 0 := by omega
  simp [Builtin.append_, run_underlying Try.underlying23, run_underlying Try.underlying3, sizeOf, typeInfo, zeroValue, hi, hz, hs, hby, hw, h0, h48, hroom, hmz, Addr.add_lit, asInt, asIntOf, Value.cells, zero_cells, hst]
theorem run_zeros_grow (w : World) (ty : TypeId) (i : TypeInfo) (hi : Try.prog.info? 3 = some i) (hz : i.zero = some (.int .i64 0)) (hs : i.size = 1) (hby : i.bytes = 8) (g n cap m : Nat) (olds : List Value) (hlo : olds.length = n) (holds : ∀ j v, olds[j]? = some v → w.cell? ((⟨g, 0, none⟩ : Addr).add j) = some v) (hgr : cap < n + m) (hm : 0 < m) (hb : n + m ≤ 1000000) :
    (Builtin.append_ #[23, 3] ty #[.slice (some ⟨g, 0, none⟩) n cap, .int .i64 (m : Int)]).run Try.prog w = .ok (.slice (some ⟨w.heap.size, 0, none⟩) (n + m) (grownCap w (n + m) cap 3)) (w.drew.alloc (.cells (olds.toArray ++ (List.replicate m (Value.int .i64 0)).toArray ++ (List.replicate (grownCap w (n + m) cap 3 - (n + m)) (Value.int .i64 0)).toArray) 3)) := by
  have hfo := run_firstCells_some (P := Try.prog) w.drew 1 n ⟨g, 0, none⟩ n cap olds (by omega) (by simpa using holds)
  have hw : IntKind.i64.wrap (m : Int) = (m : Int) := by rw [IntKind.wrap_i64]; omega
  have h0 : ¬ ((m : Int) < 0) := by omega
  have h48 : ¬ (281474976710656 < (m : Int) * 8) := by omega
  have hmz : m ≠ 0 := by omega
  have hn : ¬ (n + m ≤ cap) := by omega
  have h63' : ¬ (9223372036854775807 < ((n : Int) + (m : Int))) := by omega
  have hfit := growslice_fits (bytes := 8) hgr (by omega)
  have h48' : ¬ (281474976710656 < Builtin.nextslicecap (n + m) cap * 8) := by omega
  simp [Builtin.append_, run_underlying Try.underlying23, run_underlying Try.underlying3, sizeOf, typeInfo, zeroValue, hi, hz, hs, hby, hw, h0, h48, hn, h63', h48', hmz, asInt, asIntOf, Value.cells, zero_cells, Question.forced, hfo, newRow, grownCap]
/-- append of so many zeros onto an own row. -/
theorem appZ0_law {ops : Array Oper} {rest : List Oper} {o : Oper} {a : Act} {Q : Exit → Act → World → Prop} (w : World) (hgd : o.guard = none) (s x : Operand)
    (ho : o.op = .call { callee := .builtin .append, args := #[s, x], argTypes := #[23, 3] }) (g n cap : Nat) (xs : List Int) (m : Nat) (hs : a.eval s = .slice (some ⟨g, 0, none⟩) n cap) (hx : a.eval x = .int .i64 (m : Int)) (hf : Fr w g n cap xs) (hm : 0 < m) (hb : n + m ≤ 1000000)
    (h : ∀ g' cap' w', Fr w' g' (n + m) cap' (xs ++ List.replicate m 0) → w.grownBy w' (some g) → (g' = g ∨ g' = w.heap.size) → wpList Try.prog ops Q rest (a.put o.dst (.slice (some ⟨g', 0, none⟩) (n + m) cap')) w') : wpList Try.prog ops Q (o :: rest) a w := by
  obtain ⟨i3, hi3, hz3, hs3, hb3⟩ := info3'
  have hown := hf.own (B := 0) (Nat.zero_le _)
  have hlen := hf.len
  obtain ⟨_, ⟨h1, _⟩ | ⟨g', cap', cur, e, hg, hh, h1, h2, h3, h4⟩⟩ := hown
  · cases h1
  cases e
  have hmap : xs.map (Value.int .i64) ++ List.replicate m (Value.int .i64 0) = (xs ++ List.replicate m 0).map (Value.int .i64) := by simp
  refine wpList_plain hgd fun _ hK => ?_
  unfold Oper.wp execOp
  by_cases hroom : n + m ≤ cap
  · have hr := run_zeros_room w o.type i3 hi3 hz3 hs3 hb3 g n cap m cur hh (by omega) hroom hm (by omega)
    simp only [ho, resolve, invoke, builtin, Sem.run_bind, Sem.run_pure, Result.andThen_ok, List.map_toArray, List.map_cons, List.map_nil, hs, hx, hr]
    refine hK _ _ (h g cap _ ?_ ⟨rfl, rfl, rfl, by simp, fun k _ hk => setRow_other w g k _ (fun e => hk (by rw [e]))⟩ (Or.inl rfl))
    have ho' : (w.setRow g (cur.toList.take n ++ List.replicate m (Value.int .i64 0) ++ cur.toList.drop (n + m)).toArray).ownsRow 0 3 1 (.slice (some ⟨g, 0, none⟩) (n + m) cap) (n + m) ((xs ++ List.replicate m 0).map (Value.int .i64)) := by
      refine ⟨by simp; omega, Or.inr ⟨g, cap, _, rfl, Nat.zero_le _, setRow_heap w g cur _ 3 _ hh, hroom, h2, ?_, ?_⟩⟩
      · simp only [List.size_toArray, List.length_append, List.length_take, List.length_drop, Array.length_toList, List.length_replicate]
        omega
      · rw [← hmap, ← h4]
        simp only [Nat.mul_one]
        have : (List.take n cur.toList ++ List.replicate m (Value.int .i64 0)).length = n + m := by simp; omega
        rw [← this]
        exact List.take_left
    obtain ⟨g2, c2, e2, _, hfr⟩ := Fr.of_owns ho' (by omega) (by simp; omega)
    cases e2
    exact hfr
  · have holds : ∀ j v, (xs.map (Value.int .i64))[j]? = some v → w.cell? ((⟨g, 0, none⟩ : Addr).add j) = some v := (hf.own (B := 0) (Nat.zero_le _)).cells (g := g) rfl
    have hr := run_zeros_grow w o.type i3 hi3 hz3 hs3 hb3 g n cap m (xs.map (Value.int .i64)) (by simp; omega) holds (by omega) hm hb
    simp only [ho, resolve, invoke, builtin, Sem.run_bind, Sem.run_pure, Result.andThen_ok, List.map_toArray, List.map_cons, List.map_nil, hs, hx, hr]
    have hge := grownCap_ge w (n + m) cap 3
    have hcm : grownCap w (n + m) cap 3 ≤ maxLen := grownCap_le_maxLen w (n + m) cap 3 (by unfold maxLen; omega)
    refine hK _ _ (h w.heap.size _ _ ?_ ⟨rfl, rfl, rfl, by simp, fun k hk _ => (below1 w.drew _).block k hk⟩ (Or.inr rfl))
    refine ⟨⟨fun j => .int .i64 ((xs ++ List.replicate m 0).getD j 0), ⟨_, Go.Deep.blk_alloc_new w.drew _, ?_, fun j hj => ?_⟩, fun j _ => rfl⟩, hge, hcm, by simp; omega⟩
    · simp only [Array.size_append, List.size_toArray, List.length_map, List.length_replicate]
      omega
    · have e : (xs.map (Value.int .i64)).toArray ++ (List.replicate m (Value.int .i64 0)).toArray ++ (List.replicate (grownCap w (n + m) cap 3 - (n + m)) (Value.int .i64 0)).toArray = ((xs ++ List.replicate m 0 ++ List.replicate (grownCap w (n + m) cap 3 - (n + m)) 0).map (Value.int .i64)).toArray := by simp
      rw [e]
      have hl : (xs ++ List.replicate m 0 ++ List.replicate (grownCap w (n + m) cap 3 - (n + m)) (0 : Int)).length = grownCap w (n + m) cap 3 := by simp; omega
      rw [List.getElem?_toArray, List.getElem?_map, List.getElem?_eq_getElem (by rw [hl]; exact hj)]
      refine congrArg (fun x : Int => some (Value.int .i64 x)) ?_
      by_cases hjn : j < n + m
      · rw [List.getElem_append_left (by simp; omega)]
        simp [List.getD, List.getElem?_eq_getElem (show j < (xs ++ List.replicate m (0 : Int)).length by simp; omega)]
      · have e1 : (xs ++ List.replicate m (0 : Int)).getD j 0 = 0 := by
          have : (xs ++ List.replicate m (0 : Int))[j]? = none := List.getElem?_eq_none (by simp; omega)
          unfold List.getD; rw [this]; rfl
        rw [e1, List.getElem_append_right (by simp; omega)]
        simp
end Go.Proofs.Ytmmkpmgidoelpaa
