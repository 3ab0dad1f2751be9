import Derived.Test.YtkkmoaidbmnolaaGreatDoorD5
import Derived.Deep.RegionLaw
namespace Go.Proofs.YtkkmoaidbmnolaaGreatDoor
open Go.RowKit Ch1
set_option maxRecDepth 20000 in
theorem step_calls2 (w : World) {ops : Array Oper} {o : Oper} {a : Act} {K : Act → World → Prop} {Q : Exit → Act → World → Prop} {E : Prop} (hgd : o.guard = none) (f : FuncId) (s : Array Operand) (ts : Array TypeId)
    (ho : o.op = .call { callee := .value (.func f), args := s, argTypes := ts }) (args : Array Value) (hargs : s.map a.eval = args) (hin : ∀ w, (callFunc f args).run Tryz.prog w = .ok (.enter f args) w) (R : Value → World → Prop) (S : List PanicEntry → World → Prop)
    (h : Calls Tryz.prog f args w (fun e w' => (∃ v, e = .returned v ∧ R v w') ∨ (∃ ch, e = .panicked ch ∧ S ch w'))) (hQ : ∀ ch w', S ch w' → Q (.panic ch) a w') (hK : ∀ v w', R v w' → K (a.put o.dst v) w') :
    if Region.wanted o (yielded ops a.tmps) = true then Oper.wp Tryz.prog o a w K Q else E := by
  have hw : Region.wanted o (yielded ops a.tmps) = true := by simp [Region.wanted, hgd]
  rw [if_pos hw]
  unfold Oper.wp execOp
  simp only [ho, resolve, invoke, Sem.run_bind, hargs]
  have e : (Deferred.ofValue (a.eval (.func f)) args).run Tryz.prog w = .ok { target := .fn (.func f) #[], args := args } w := by simp [Deferred.ofValue, Act.eval]
  rw [e]
  simp only [Result.andThen_ok, Array.append_empty, hin, Oper.upon_enter]
  refine h.mono ?_
  rintro e' w' (⟨v, rfl, hv⟩ | ⟨ch, rfl, hs⟩)
  · exact hK v w' hv
  · exact hQ ch w' hs
end Go.Proofs.YtkkmoaidbmnolaaGreatDoor
namespace Go.Proofs.YtkkmoaidbmnolaaGreatDoor
open Go.RowKit Ch1
theorem inTruth (args : Array Value) (w : World) : (callFunc 68 args).run Tryz.prog w = .ok (.enter 68 args) w := by kernel_rfl
theorem inNumber (args : Array Value) (w : World) : (callFunc 32 args).run Tryz.prog w = .ok (.enter 32 args) w := by kernel_rfl
/-- append(v, x) onto an own row, x in a new block, in a region that draws. -/
theorem appW_step (w : World) {ops : Array Oper} {o : Oper} {a : Act} {K : Act → World → Prop} {Q : Exit → Act → World → Prop} {E : Prop} (hgd : o.guard = none) (s x : Operand) (t e : TypeId)
    (ho : o.op = .call { callee := .builtin .append, args := #[s, x], argTypes := #[t, t] }) (z : Value) (size bytes : Nat) (ht : Tryz.prog.underlying t = some (.slice e)) (hi : (Tryz.prog.info? e).map (fun i => (i.zero, i.size, i.bytes)) = some (some z, size, bytes)) (hzs : z.cells.size = size) (hsz : 0 < size)
    (B : Nat) (v : Value) (n : Nat) (xs : List Value) (hs : a.eval s = v) (hown : w.ownsRow B e size v n xs) (arr : Array Value) (harr : arr.size = size) (h1 : ∀ u ∈ arr.toList, u.oneCell' = true) (hx : a.eval x = .slice (some ⟨w.heap.size, 0, none⟩) 1 1)
    (hlen : n + 1 ≤ maxLen) (hby : (n + 1) * bytes ≤ 140737488355328) (hB : B ≤ w.heap.size)
    (h : ∀ p' c' w', w'.ownsRow B e size (.slice p' (n + 1) c') (n + 1) (xs ++ arr.toList) → Below B w w' → But w w' v → K (a.put o.dst (.slice p' (n + 1) c')) w') : if Region.wanted o (yielded ops a.tmps) = true then Oper.wp Tryz.prog o a (w.alloc (.cells arr e)) K Q else E := by
  obtain ⟨i, hi', hpr⟩ := Option.map_eq_some_iff.1 hi
  simp only [Prod.mk.injEq] at hpr
  have hnew : (w.alloc (.cells arr e)).heap[w.heap.size]? = some (.cells arr e) := Go.Deep.blk_alloc_new _ _
  refine step_append_lies (P := Tryz.prog) _ hgd s x t ho B e i z size bytes ht hi' hpr.1 hpr.2.1 hpr.2.2 hzs hsz v n xs hs (ownsRow_below hown (below1 _ _)) ⟨w.heap.size, 0, none⟩ 1 1 arr.toList hx (by rw [Array.length_toList, harr]; omega) (fun j u hu => World.news_of_block hnew j u hu) h1 (by omega) hlen hby (Nat.le_trans hB (below1 _ _).size) _ rfl ?_
  intro g cap w' k1 k2 _ _
  exact h _ _ w' k1 (((below1 _ _).mono hB).trans ((Below.refl _ _).grown k2 (Nat.le_trans hB (below1 _ _).size) (owns_ge hown))) (fun k hk hne => (k2.block k (by simp; omega) hne).trans ((below1 w _).block k hk))
theorem infoBo : (Tryz.prog.info? 4).map (fun i => (i.zero, i.size, i.bytes)) = some (some (.bool false), 1, 1) := by kernel_rfl
/-- So many truths. -/
def rdTs : Nat → List Int → Option (List Bool × List Int)
  | 0, xs => some ([], xs)
  | k + 1, xs => (rdT xs).bind (fun r => (rdTs k r.2).map (fun q => (r.1 :: q.1, q.2)))
theorem rdTs_step {m : Nat} {rest r2 : List Int} {d : Bool} {pre : List Bool} (h : rdT rest = some (d, r2)) : (rdTs (m + 1) rest).map (fun q => (pre ++ q.1, q.2)) = (rdTs m r2).map (fun q => ((pre ++ [d]) ++ q.1, q.2)) := by
  rw [rdTs, h]
  show ((rdTs m r2).map (fun q => (d :: q.1, q.2))).map _ = _
  rw [Option.map_map]
  congr 1
  funext q
  simp
theorem rdT_len {xs rest : List Int} {d : Bool} (h : rdT xs = some (d, rest)) : rest.length ≤ xs.length := by
  unfold rdT at h
  obtain ⟨⟨z, r1⟩, h1, h2⟩ := Option.bind_eq_some_iff.1 h
  have g1 := rdN_len h1
  simp only at h2
  split at h2
  · simp only [Option.some.injEq, Prod.mk.injEq] at h2
    rw [← h2.2]
    exact g1
  · cases h2
/-- A reading function's answer in the form that a step takes. -/
theorem ReP.two {α : Type} {b : Nat} {r : Option (α × List Int)} {V : α → Value → World → World → Prop} {w w' : World} {e : Ending} (h : ReP b r V w w' e) : (∃ v, e = .returned v ∧ (∃ x rest, r = some (x, rest) ∧ V x v w w' ∧ RdE w' b rest ∧ Sr b w w')) ∨ (∃ ch, e = .panicked ch ∧ (ch = [{ v := .iface 51 (.agg #[.int .i64 5, .int .i64 0]), recovered := false }] ∧ r = none ∧ Sr b w w')) := by
  rcases h with ⟨x, rest, v, h1, h2, h3, h4, h5⟩ | ⟨h1, h2, h3⟩
  · exact Or.inl ⟨v, h2, x, rest, h1, h3, h4, h5⟩
  · exact Or.inr ⟨_, h2, rfl, h1, h3⟩
end Go.Proofs.YtkkmoaidbmnolaaGreatDoor
