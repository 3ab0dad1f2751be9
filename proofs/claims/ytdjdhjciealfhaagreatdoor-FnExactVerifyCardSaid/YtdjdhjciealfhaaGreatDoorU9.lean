import Derived.Test.YtdjdhjciealfhaaGreatDoorU6
namespace Go.Proofs.YtdjdhjciealfhaaGreatDoor
open Go.RowKit Ch1
namespace Vf
set_option maxRecDepth 20000 in
set_option maxHeartbeats 4000000 in
/-- A state that no way led to yet. -/
theorem join_none (p : Option Addr) (n c : Nat) (q : Option Addr) (k d : Nat) (o : List Nat) (w : World) (hq : Ni w q k d o) (hk : k ≤ 200) :
    Calls Tryz.prog 62 #[.agg #[.bool true, .slice p n c], .slice q k d] w fun e w' => ∃ v, e = .returned (.tuple #[.agg #[.bool false, v], .bool true, .bool true]) ∧ OwI w' w.heap.size v o ∧ Below w.heap.size w w' := by
  have HQ := mkD hq
  clear hq
  obtain ⟨W, hW⟩ : ∃ W, W = (w.alloc (.cells #[.bool true, .slice p n c] 78)).alloc (.cells #[.bool false, .slice none 0 0] 78) := ⟨_, rfl⟩
  have HBW : Hid (Below w.heap.size w W) := by unfold Hid; rw [hW]; exact below2 w _ _
  have hWs : W.heap.size = w.heap.size + 2 := by rw [hW]; simp
  have HZ : Hid (W.heap[w.heap.size + 1]? = some (.cells #[.bool false, .slice none 0 0] 78)) := by
    unfold Hid
    rw [hW]
    have := Go.Deep.blk_alloc_new (w.alloc (.cells #[.bool true, .slice p n c] 78)) (.cells #[.bool false, .slice none 0 0] 78)
    rwa [World.size_alloc] at this
  go_enter Tryz.func62, Tryz.ntmps62
  go_wp2_with (at_builtin; rw [← hW]; refine appI_law _ rfl (.tmp 12) (.tmp 13) rfl W.heap.size (.slice none 0 0) [] o (by simp [Act.eval]) ⟨rfl, Or.inl ⟨rfl, rfl⟩⟩ q k d (by simp [Act.eval]) (HQ.out.below HBW.out) (by simp; omega) (Nat.le_refl _) ?_; intro v2 w2 ho2 hb2 hbt2; rw [List.nil_append] at ho2; obtain ⟨p2, c2, hv2⟩ := ho2.form; subst hv2; have HO2 := mkD ho2; have HB2 := mkD hb2; have y0 : w2.cell? ⟨w.heap.size + 1, 0, none⟩ = some (.bool false) := (by have := (hb2.block (w.heap.size + 1) (by omega)).trans HZ.out; simp [World.cell?, this]); have y1 : w2.cell? ⟨w.heap.size + 1, 1, none⟩ = some (.slice none 0 0) := (by have := (hb2.block (w.heap.size + 1) (by omega)).trans HZ.out; simp [World.cell?, this]); have f0 : w2.frozen? ⟨w.heap.size + 1, 0, none⟩ = false := (by have := (hb2.block (w.heap.size + 1) (by omega)).trans HZ.out; simp [World.frozen?, this]); have f1 : w2.frozen? ⟨w.heap.size + 1, 1, none⟩ = false := (by have := (hb2.block (w.heap.size + 1) (by omega)).trans HZ.out; simp [World.frozen?, this]); clear ho2 hb2 hbt2 hW)
  refine bodyPost_ret (v := .tuple #[.agg #[.bool false, .slice p2 o.length c2], .bool true, .bool true]) (by simp [results, Tryz.results62, go_sem, y0, y1]) rfl ⟨_, rfl, ?_, ((HBW.out.trans (HB2.out.mono (by omega))).setCell (by simp only; omega) _).setCell (by simp only; omega) _⟩
  exact OwI.mono (ownsRow_setCell_below (ownsRow_setCell_below HO2.out (by simp only; omega) _) (by simp only; omega) _) (by omega)
set_option maxRecDepth 20000 in
set_option maxHeartbeats 4000000 in
/-- States of other sizes. -/
theorem join_bad (p : Option Addr) (n c : Nat) (q : Option Addr) (k d : Nat) (w : World) (hne : n ≠ k) :
    Calls Tryz.prog 62 #[.agg #[.bool false, .slice p n c], .slice q k d] w fun e w' => e = .returned (.tuple #[.agg #[.bool false, .slice p n c], .bool false, .bool false]) ∧ Below w.heap.size w w' := by
  have hb : ((n : Int) == (k : Int)) = false := by simp; omega
  have hb2 : ((n : Int) != (k : Int)) = true := by simp; omega
  go_enter Tryz.func62, Tryz.ntmps62
  go_wp2
  refine bodyPost_ret (v := .tuple #[.agg #[.bool false, .slice p n c], .bool false, .bool false]) (by simp [results, Tryz.results62, go_sem]) rfl ⟨rfl, ?_⟩
  first
    | exact below2 w _ _
    | exact ((below2 w _ _).setCell (by simp) _).setCell (by simp) _
/-- At the head of the loop. -/
def JnI (B : Nat) (p : Option Addr) (n c : Nat) (s o : List Nat) (W : World) (gv iv : Value) (wr : World) : Prop :=
  ∃ (i : Nat) (gr : Bool), i ≤ n ∧ gv = .bool gr ∧ iv = .int .i64 i ∧ Hid (OwI wr B (.slice p n c) (partJ s o i)) ∧ Hid (Sx (.slice p n c) W wr) ∧ Hid (gr = false ↔ partJ s o i = s)
set_option maxRecDepth 20000 in
set_option maxHeartbeats 4000000 in
/-- States of one size: the first one's row takes the second in. -/
theorem join_ok (B : Nat) (p : Option Addr) (n c : Nat) (q : Option Addr) (d : Nat) (s o : List Nat) (w : World) (hs : OwI w B (.slice p n c) s) (hq : Ni w q n d o) (hqg : ∀ b' o', q = some ⟨b', o', none⟩ → (Value.slice p n c).ownBlock ≠ some b') (hn : n ≤ 200) (hs5 : GoodS s) (ho5 : GoodS o) :
    Calls Tryz.prog 62 #[.agg #[.bool false, .slice p n c], .slice q n d] w fun e w' => ∃ gr, e = .returned (.tuple #[.agg #[.bool false, .slice p n c], .bool gr, .bool true]) ∧ OwI w' B (.slice p n c) (joinL s o) ∧ Sx (.slice p n c) w w' ∧ (gr = false ↔ joinL s o = s) := by
  have HS := mkD hs
  have HQ := mkD hq
  have HQG := mkD hqg
  have HGS := mkD hs5
  have HGO := mkD ho5
  have HSL : Hid (s.length = n) := hs.cell.1
  have HOL : Hid (o.length = n) := hq.len
  have HOB : Hid (∀ k, w.heap.size ≤ k → (Value.slice p n c).ownBlock ≠ some k) := fun k hk e => by have := (owns_lt hs _ e).1; omega
  clear hs hq hqg hs5 ho5
  obtain ⟨W, hW⟩ : ∃ W, W = (w.alloc (.cells #[.bool false, .slice p n c] 78)).alloc (.cells #[.bool false, .slice none 0 0] 78) := ⟨_, rfl⟩
  have HBW : Hid (Below w.heap.size w W) := by unfold Hid; rw [hW]; exact below2 w _ _
  have hWs : W.heap.size = w.heap.size + 2 := by rw [hW]; simp
  have HZ : Hid (W.heap[w.heap.size + 1]? = some (.cells #[.bool false, .slice none 0 0] 78)) := by
    unfold Hid
    rw [hW]
    have := Go.Deep.blk_alloc_new (w.alloc (.cells #[.bool false, .slice p n c] 78)) (.cells #[.bool false, .slice none 0 0] 78)
    rwa [World.size_alloc] at this
  have HA : Hid (W.heap[w.heap.size]? = some (.cells #[.bool false, .slice p n c] 78)) := by
    unfold Hid
    rw [hW]
    exact ((below1 _ _).block w.heap.size (by simp)).trans (Go.Deep.blk_alloc_new _ _)
  have hb2 : ((n : Int) == (n : Int)) = true := by simp
  go_enter Tryz.func62, Tryz.ntmps62
  go_wp2_with fail
  rw [← hW]
  clear hW
  go_loopw [8, 9] (fun gv iv wr => JnI B p n c s o W gv iv wr) (fun _ iv _ => n - (intOf iv).toNat)
  case atStart => exact ⟨0, false, Nat.zero_le _, rfl, rfl, by rw [partJ_zero]; exact HS.out.below HBW.out, Sx.of_below (Below.refl _ _), ⟨fun _ => partJ_zero s o, fun _ => rfl⟩⟩
  case round =>
    obtain ⟨i, gr, hi, rfl, rfl, hO, hX, hG⟩ := hrel
    by_cases hlt : i < n
    · have hA := (hX.out.block w.heap.size (by omega) (HOB.out _ (by omega))).trans HA.out
      have a0 : wr.cell? ⟨w.heap.size, 0, none⟩ = some (.bool false) := by simp [World.cell?, hA]
      have a1 : wr.cell? ⟨w.heap.size, 1, none⟩ = some (.slice p n c) := by simp [World.cell?, hA]
      clear hA
      obtain ⟨_, _, _, hc⟩ := hO.out.cell
      obtain ⟨g', rfl, hgl, _, hcell⟩ := hc (by omega)
      obtain ⟨qb, qo, rfl, hql, hqc⟩ := (HQ.out.below HBW.out).cells (by omega)
      have hqn := HQG.out _ _ rfl
      have b0 := hqc i hlt
      have x0 := hcell i hlt
      have hqk := hX.out.block qb hql hqn
      have b1 : wr.cell? ⟨qb, qo + i, none⟩ = some (.int .i64 (o.getD i 0 : Nat)) := by simp only [World.cell?] at b0 ⊢; rw [hqk]; exact b0
      have hfz : wr.frozen? ⟨g', i, none⟩ = false := by
        obtain ⟨_, cur, hh⟩ := owns_lt hO.out g' rfl
        simp [World.frozen?, hh]
      rw [partJ_get _ _ _ _ (by rw [HSL.out]; exact hlt), if_neg (Nat.lt_irrefl i)] at x0
      obtain ⟨a, ha⟩ : ∃ a, a = s.getD i 0 := ⟨_, rfl⟩
      obtain ⟨b, hb⟩ : ∃ b, b = o.getD i 0 := ⟨_, rfl⟩
      have HAE := mkD ha
      have HBE := mkD hb
      have h512a : a < 512 := by rw [ha]; exact HGS.out.lt i
      have h512b : b < 512 := by rw [hb]; exact HGO.out.lt i
      rw [← ha] at x0
      rw [← hb] at b1
      clear hc hcell hqc b0 hqk ha hb
      have hor := or64b a b h512a h512b
      have hcs := HS.out.cell.2.1
      by_cases hsame : a ||| b = a
      · have e1 : (((a ||| b : Nat) : Int) == (a : Int)) = true := by rw [hsame]; simp
        have e2 : (((a ||| b : Nat) : Int) != (a : Int)) = false := by rw [hsame]; simp
        have HPS : Hid (partJ s o (i + 1) = partJ s o i) := partJ_same s o i (by rw [HSL.out]; exact hlt) (by rw [← HAE.out, ← HBE.out]; exact hsame)
        go_wp2_with fail
        go_region
        all_goals go_wp2
        all_goals exact ⟨⟨i + 1, gr, by omega, rfl, by go_num, by rw [HPS.out]; exact hO.out, hX.out.drew, by rw [HPS.out]; exact hG.out⟩, by simp [intOf]; omega⟩
      · have e1 : (((a ||| b : Nat) : Int) == (a : Int)) = false := by simp; omega
        have e2 : (((a ||| b : Nat) : Int) != (a : Int)) = true := by simp; omega
        have HPS : Hid (partJ s o (i + 1) = (partJ s o i).set i (a ||| b)) := by unfold Hid; rw [partJ_succ, ← HAE.out, ← HBE.out]
        have HNE : Hid (partJ s o (i + 1) ≠ s) := partJ_more s o i (by rw [HSL.out]; exact hlt) (by rw [← HAE.out, ← HBE.out]; exact hsame) (i + 1) (by omega) (by rw [HSL.out]; omega)
        go_wp2_with fail
        go_region
        all_goals go_wp2_with fail
        all_goals go_region
        all_goals go_wp2
        all_goals refine ⟨⟨i + 1, true, by omega, rfl, by go_num, ?_, ?_, ⟨fun h => (by cases h), fun h => absurd h HNE.out⟩⟩, by simp [intOf]; omega⟩
        all_goals first
          | (unfold Hid; rw [HPS.out]; exact OwI.set (w := wr) hO.out i (a ||| b))
          | exact ((hX.out.trans (Sx.set rfl _ _ _)).drew).drew
    · obtain rfl : i = n := by omega
      have hA := (hX.out.block w.heap.size (by omega) (HOB.out _ (by omega))).trans HA.out
      have hZ := (hX.out.block (w.heap.size + 1) (by omega) (HOB.out _ (by omega))).trans HZ.out
      have a0 : wr.cell? ⟨w.heap.size, 0, none⟩ = some (.bool false) := by simp [World.cell?, hA]
      have a1 : wr.cell? ⟨w.heap.size, 1, none⟩ = some (.slice p i c) := by simp [World.cell?, hA]
      have z0 : wr.cell? ⟨w.heap.size + 1, 0, none⟩ = some (.bool false) := by simp [World.cell?, hZ]
      have z1 : wr.cell? ⟨w.heap.size + 1, 1, none⟩ = some (.slice none 0 0) := by simp [World.cell?, hZ]
      have f0 : wr.frozen? ⟨w.heap.size + 1, 0, none⟩ = false := by simp [World.frozen?, hZ]
      have f1 : wr.frozen? ⟨w.heap.size + 1, 1, none⟩ = false := by simp [World.frozen?, hZ]
      have HAL : Hid (partJ s o i = joinL s o) := by unfold Hid; rw [← HSL.out]; exact partJ_all s o
      clear hA hZ
      go_wp2
      refine bodyPost_ret (v := .tuple #[.agg #[.bool false, .slice p i c], .bool gr, .bool true]) (by simp [results, Tryz.results62, go_sem, z0, z1]) rfl ⟨gr, rfl, ?_, ?_, ?_⟩
      · rw [← HAL.out]
        exact ownsRow_setCell_other (ownsRow_setCell_other hO.out (HOB.out _ (by simp only; omega)) _) (HOB.out _ (by simp only; omega)) _
      · exact (((Sx.of_below HBW.out).trans hX.out).later (by omega) _ _).later (by omega) _ _
      · rw [← HAL.out]; exact hG.out
end Vf
end Go.Proofs.YtdjdhjciealfhaaGreatDoor
namespace Go.Proofs.YtdjdhjciealfhaaGreatDoor
open Go.RowKit Ch1
namespace Vf
/-! ### how much has come -/
theorem Le.tail {a b : Nat} {s t : List Nat} (h : Le (a :: s) (b :: t)) : a ||| b = b ∧ Le s t := ⟨h.2 0, by have := h.1; simpa using this, fun i => by have := h.2 (i + 1); simpa using this⟩
theorem Le.sum : ∀ {s t : List Nat}, Le s t → s.sum ≤ t.sum ∧ (s.sum = t.sum → s = t)
  | [], [], _ => ⟨Nat.le_refl _, fun _ => rfl⟩
  | [], _ :: _, h => by have := h.1; simp at this
  | _ :: _, [], h => by have := h.1; simp at this
  | a :: s, b :: t, h => by
    obtain ⟨h1, h2⟩ := h.tail
    have h3 := or_le h1
    obtain ⟨h4, h5⟩ := Le.sum h2
    simp only [List.sum_cons]
    refine ⟨by omega, fun e => ?_⟩
    have : a = b := by omega
    rw [this, h5 (by omega)]
def w1 : Option (List Nat) → Nat
  | none => 0
  | some s => 1 + s.sum
def wt : Nat → States → Nat
  | 0, _ => 0
  | n + 1, σ => wt n σ + w1 (σ n)
theorem wt_congr : ∀ (n : Nat) {σ τ : States}, (∀ i, i < n → σ i = τ i) → wt n σ = wt n τ
  | 0, _, _, _ => rfl
  | n + 1, σ, τ, h => by rw [wt, wt, wt_congr n (fun i hi => h i (by omega)), h n (by omega)]
theorem wt_upd : ∀ (n k : Nat) (σ : States) (x : Option (List Nat)), k < n → wt n (fun j => if j = k then x else σ j) + w1 (σ k) = wt n σ + w1 x
  | 0, k, _, _, h => absurd h (Nat.not_lt_zero k)
  | n + 1, k, σ, x, h => by
    rw [wt, wt]
    by_cases hk : k = n
    · subst hk
      rw [wt_congr k (τ := σ) (fun i hi => by simp; omega)]
      simp
      omega
    · have ih := wt_upd n k σ x (by omega)
      rw [if_neg (show ¬ n = k by omega)]
      omega
theorem sum_bound : ∀ (s : List Nat), GoodS s → s.sum ≤ s.length * 511
  | [], _ => Nat.le_refl _
  | a :: s, h => by
    have h1 := h a (by simp)
    have h2 := sum_bound s (fun v hv => h v (List.mem_cons_of_mem _ hv))
    simp only [List.sum_cons, List.length_cons]
    omega
theorem wt_bound : ∀ (n : Nat) (σ : States), (∀ i s, i < n → σ i = some s → GoodS s ∧ s.length ≤ 200) → wt n σ ≤ n * 102201
  | 0, _, _ => Nat.le_refl _
  | n + 1, σ, h => by
    have h1 := wt_bound n σ (fun i s hi hs => h i s (by omega) hs)
    rw [wt]
    have h2 : w1 (σ n) ≤ 102201 := by
      cases hs : σ n with
      | none => exact Nat.zero_le _
      | some s =>
        obtain ⟨h3, h4⟩ := h n s (by omega) hs
        have := sum_bound s h3
        show 1 + s.sum ≤ 102201
        omega
    omega
/-- To put in is to grow, or nothing changes. -/
theorem put_wt {n k : Nat} {σ : States} {o : List Nat} (hk : k < n) (hl : ∀ r, σ k = some r → r.length = o.length) : (wt n σ < wt n (put σ k o)) ∨ ((∀ i, put σ k o i = σ i) ∧ ∃ r, σ k = some r ∧ joinL r o = r) := by
  have h := wt_upd n k σ (some (joinO (σ k) o)) hk
  have e : wt n (put σ k o) = wt n (fun j => if j = k then some (joinO (σ k) o) else σ j) := rfl
  rw [← e] at h
  cases hs : σ k with
  | none =>
    rw [hs] at h
    refine Or.inl ?_
    have : w1 none = 0 := rfl
    have : w1 (some (joinO none o)) = 1 + o.sum := rfl
    omega
  | some r =>
    rw [hs] at h
    have h1 : w1 (some r) = 1 + r.sum := rfl
    have h2 : w1 (some (joinO (some r) o)) = 1 + (joinL r o).sum := rfl
    obtain ⟨h3, h4⟩ := (joinL_l r o (hl r hs)).sum
    by_cases he : r.sum = (joinL r o).sum
    · refine Or.inr ⟨fun i => ?_, r, rfl, (h4 he).symm⟩
      by_cases hi : i = k
      · subst hi
        rw [put_same, hs]
        show some (joinL r o) = some r
        rw [← h4 he]
      · exact put_other _ _ hi
    · exact Or.inl (by omega)
/-- The states as they lie: a row of structs, each row of sets a row of its own. -/
structure Ss (B n S : Nat) (σ : States) (vs : Nat → Value) (w : World) : Prop where
  lo : B ≤ S
  row : ∃ arr : Array Value, w.heap[S]? = some (.cells arr 78) ∧ ∀ i, i < n → arr[i * 2]? = some (.bool (σ i).isNone) ∧ arr[i * 2 + 1]? = some (vs i)
  non : ∀ i, i < n → σ i = none → vs i = .slice none 0 0
  own : ∀ i s, i < n → σ i = some s → OwI w B (vs i) s
  dist : ∀ i j k, i < n → j < n → i ≠ j → (vs i).ownBlock = some k → (vs j).ownBlock ≠ some k
theorem Ss.cells {B n S : Nat} {σ : States} {vs : Nat → Value} {w : World} (h : Ss B n S σ vs w) {i : Nat} (hi : i < n) : w.cell? ⟨S, i * 2, none⟩ = some (.bool (σ i).isNone) ∧ w.cell? ⟨S, i * 2 + 1, none⟩ = some (vs i) ∧ w.frozen? ⟨S, i * 2, none⟩ = false ∧ w.frozen? ⟨S, i * 2 + 1, none⟩ = false := by
  obtain ⟨arr, ha, hc⟩ := h.row
  obtain ⟨h1, h2⟩ := hc i hi
  refine ⟨?_, ?_, ?_, ?_⟩
  · simp [World.cell?, ha, h1]
  · simp [World.cell?, ha, h2]
  · simp [World.frozen?, ha]
  · simp [World.frozen?, ha]
theorem Ss.lt {B n S : Nat} {σ : States} {vs : Nat → Value} {w : World} (h : Ss B n S σ vs w) : S < w.heap.size := by
  obtain ⟨arr, ha, _⟩ := h.row
  exact (Array.getElem?_eq_some_iff.1 ha).1
theorem Ss.form {B n S : Nat} {σ : States} {vs : Nat → Value} {w : World} (h : Ss B n S σ vs w) {i : Nat} (hi : i < n) : ∃ p l c, vs i = .slice p l c ∧ (∀ s, σ i = some s → l = s.length) := by
  cases hs : σ i with
  | none => exact ⟨none, 0, 0, h.non i hi hs, fun s e => by cases e⟩
  | some s =>
    obtain ⟨p, c, e⟩ := (h.own i s hi hs).form
    exact ⟨p, s.length, c, e, fun s' e' => by cases e'; rfl⟩
theorem Ss.old {B n S : Nat} {σ : States} {vs : Nat → Value} {w : World} (h : Ss B n S σ vs w) {i : Nat} (hi : i < n) : ∀ k, (vs i).ownBlock = some k → k < w.heap.size ∧ B ≤ k ∧ k ≠ S := fun k hk => by
  cases hs : σ i with
  | none => rw [h.non i hi hs] at hk; cases hk
  | some s =>
    have ho := h.own i s hi hs
    obtain ⟨h1, cur, h2⟩ := owns_lt ho k hk
    refine ⟨h1, owns_ge ho k hk, fun e => ?_⟩
    obtain ⟨arr, ha, _⟩ := h.row
    rw [e, ha] at h2
    cases h2
theorem Ss.keep {B n S : Nat} {σ : States} {vs : Nat → Value} {w w' : World} (h : Ss B n S σ vs w) (hS : w'.heap[S]? = w.heap[S]?) (ho : ∀ i s, i < n → σ i = some s → OwI w' B (vs i) s) : Ss B n S σ vs w' := by
  obtain ⟨arr, ha, hc⟩ := h.row
  exact ⟨h.lo, ⟨arr, hS.trans ha, hc⟩, h.non, ho, h.dist⟩
theorem Ss.below {B n S : Nat} {σ : States} {vs : Nat → Value} {w w' : World} (h : Ss B n S σ vs w) (hb : Below w.heap.size w w') : Ss B n S σ vs w' :=
  h.keep (hb.block S h.lt) (fun i s hi hs => (h.own i s hi hs).below hb)
theorem Ss.congr {B n S : Nat} {σ τ : States} {vs : Nat → Value} {w : World} (h : Ss B n S σ vs w) (he : ∀ i, i < n → τ i = σ i) : Ss B n S τ vs w := by
  obtain ⟨arr, ha, hc⟩ := h.row
  exact ⟨h.lo, ⟨arr, ha, fun i hi => by rw [he i hi]; exact hc i hi⟩, fun i hi hs => h.non i hi ((he i hi).symm.trans hs), fun i s hi hs => h.own i s hi ((he i hi).symm.trans hs), h.dist⟩
/-- A state is stored. -/
theorem Ss.store {B n S k : Nat} {σ : States} {vs : Nat → Value} {w w1 : World} {v : Value} {r : List Nat} (h : Ss B n S σ vs w) (hk : k < n) (hS : w1.heap[S]? = w.heap[S]?) (ho : ∀ i s, i < n → i ≠ k → σ i = some s → OwI w1 B (vs i) s) (hv : OwI w1 B v r) (hd : ∀ j b, j < n → j ≠ k → v.ownBlock = some b → (vs j).ownBlock ≠ some b) :
    Ss B n S (fun j => if j = k then some r else σ j) (fun j => if j = k then v else vs j) ((w1.setCell ⟨S, k * 2, none⟩ (.bool false)).setCell ⟨S, k * 2 + 1, none⟩ v) := by
  obtain ⟨arr, ha, hc⟩ := h.row
  have ha1 := hS.trans ha
  have hsz : n * 2 ≤ arr.size := by
    have h0 := (hc (n - 1) (by omega)).2
    have := (Array.getElem?_eq_some_iff.1 h0).1
    omega
  have e1 : (w1.setCell ⟨S, k * 2, none⟩ (.bool false)).heap[S]? = some (.cells (arr.setIfInBounds (k * 2) (.bool false)) 78) := by simp [World.setCell, Array.getElem?_modify, ha1]
  have e2 : ((w1.setCell ⟨S, k * 2, none⟩ (.bool false)).setCell ⟨S, k * 2 + 1, none⟩ v).heap[S]? = some (.cells ((arr.setIfInBounds (k * 2) (.bool false)).setIfInBounds (k * 2 + 1) v) 78) := by
    have := e1
    simp only [World.setCell, Array.getElem?_modify] at this ⊢
    simp [ha1]
  have key : ∀ {u : Value} {x : List Nat}, OwI w1 B u x → OwI ((w1.setCell ⟨S, k * 2, none⟩ (.bool false)).setCell ⟨S, k * 2 + 1, none⟩ v) B u x := fun hu => owns_set (owns_set hu ha1 (by decide) _) e1 (by decide) _
  refine ⟨h.lo, ⟨_, e2, fun i hi => ?_⟩, fun i hi hs => ?_, fun i s hi hs => ?_, fun i j b hi hj hij hb => ?_⟩
  · by_cases hik : i = k
    · subst hik
      refine ⟨?_, ?_⟩
      · simp only [if_true]
        rw [Array.getElem?_setIfInBounds_ne (by omega), Array.getElem?_setIfInBounds_self_of_lt (by omega)]
        rfl
      · simp only [if_true]
        rw [Array.getElem?_setIfInBounds_self_of_lt (by simp; omega)]
    · obtain ⟨h1, h2⟩ := hc i hi
      refine ⟨?_, ?_⟩
      · rw [if_neg hik, Array.getElem?_setIfInBounds_ne (by omega), Array.getElem?_setIfInBounds_ne (by omega)]
        exact h1
      · rw [if_neg hik, Array.getElem?_setIfInBounds_ne (by omega), Array.getElem?_setIfInBounds_ne (by omega)]
        exact h2
  · by_cases hik : i = k
    · rw [if_pos hik] at hs; cases hs
    · rw [if_neg hik] at hs ⊢
      exact h.non i hi hs
  · by_cases hik : i = k
    · rw [if_pos hik] at hs ⊢
      cases hs
      exact key hv
    · rw [if_neg hik] at hs ⊢
      exact key (ho i s hi hik hs)
  · by_cases hik : i = k
    · rw [if_pos hik] at hb
      rw [if_neg (show ¬ j = k by omega)]
      exact hd j b hj (by omega) hb
    · rw [if_neg hik] at hb
      by_cases hjk : j = k
      · rw [if_pos hjk]
        intro e
        exact hd i b hi hik e hb
      · rw [if_neg hjk]
        exact h.dist i j b hi hj hij hb
end Vf
end Go.Proofs.YtdjdhjciealfhaaGreatDoor
namespace Go.Proofs.YtdjdhjciealfhaaGreatDoor
open Go.RowKit Ch1
namespace Vf
theorem put_le2 {m : Md} {f : Fn} {σ τ : States} {i n : Nat} {s t : List Nat} (hO : OkS m f τ) (hl : LeS f σ τ) (hi : i < f.code.length) (hg : GoodS s) (ht : τ i = some t) (hst : Le s t) : fits m f (f.code.getD i in0) s ∧ (n ∈ nexts (f.code.getD i in0) i → n < f.code.length ∧ (∀ r, σ n = some r → r.length = (outOf m f (f.code.getD i in0) s).length) ∧ LeS f (put σ n (outOf m f (f.code.getD i in0) s)) τ) := by
  obtain ⟨hf, hn⟩ := hO.step i hi t ht
  obtain ⟨k1, k2⟩ := fits_le hg hst hf
  refine ⟨k1, fun hm => ?_⟩
  obtain ⟨hlt, u, hu, hou⟩ := hn n hm
  have hol := k2.trans hou
  refine ⟨hlt, fun r hr => ?_, fun k v hk hv => ?_⟩
  · obtain ⟨u', hu', hru⟩ := hl n r hlt hr
    rw [hu] at hu'
    cases hu'
    exact hru.1.trans hol.1.symm
  · by_cases hkn : k = n
    · subst hkn
      rw [put_same] at hv
      cases hv
      refine ⟨u, hu, ?_⟩
      cases hr : σ k with
      | none => exact hol
      | some r =>
        obtain ⟨u', hu', hru⟩ := hl k r hk hr
        rw [hu] at hu'
        cases hu'
        exact joinL_le hru hol
    · rw [put_other _ _ hkn] at hv
      exact hl k v hk hv
theorem good_put {f : Fn} {σ : States} {n : Nat} {o : List Nat} (h : GoodA f σ) (ho : GoodS o) (hl : o.length ≤ 200) (he : ∀ r, σ n = some r → r.length = o.length) (hn : n < f.code.length) : GoodA f (put σ n o) := fun i s hi hs => by
  by_cases hin : i = n
  · subst hin
    rw [put_same] at hs
    cases hs
    cases hr : σ i with
    | none => exact ⟨ho, hl⟩
    | some r =>
      obtain ⟨h1, h2⟩ := h i r hn hr
      exact ⟨joinL_good (he r hr) h1 ho, by show (joinL r o).length ≤ 200; rw [joinL_len]; exact h2⟩
  · rw [put_other _ _ hin] at hs
    exact h i s hi hs
/-- What a state becomes, from where the row of states lies. -/
structure JoP (B n : Nat) (σ : States) (vs : Nat → Value) (k : Nat) (o : List Nat) (v : Value) (more fit : Bool) (wr w' : World) : Prop where
  sx : Sx (vs k) wr w'
  bad : fit = false → ∃ r, σ k = some r ∧ r.length ≠ o.length
  len : fit = true → ∀ r, σ k = some r → r.length = o.length
  more : fit = true → (more = false ↔ ∃ r, σ k = some r ∧ joinL r o = r)
  own : fit = true → OwI w' B v (joinO (σ k) o)
  dis : fit = true → ∀ j b, j < n → j ≠ k → v.ownBlock = some b → (vs j).ownBlock ≠ some b
  far : fit = true → ∀ b, v.ownBlock = some b → (vs k).ownBlock = some b ∨ wr.heap.size ≤ b
  form : ∃ p l c, v = .slice p l c
theorem join_c (B n S : Nat) (σ : States) (vs : Nat → Value) (k : Nat) (q : Option Addr) (d : Nat) (o : List Nat) (B' : Nat) (wr : World) (h : Ss B n S σ vs wr) (hk : k < n) (hg : ∀ r, σ k = some r → GoodS r ∧ r.length ≤ 200) (hq : OwI wr B' (.slice q o.length d) o) (hqd : ∀ b, (Value.slice q o.length d).ownBlock = some b → (vs k).ownBlock ≠ some b) (hgo : GoodS o) (hl : o.length ≤ 200) :
    Calls Tryz.prog 62 #[.agg #[.bool (σ k).isNone, vs k], .slice q o.length d] wr fun e w' => ∃ v more fit, e = .returned (.tuple #[.agg #[.bool false, v], .bool more, .bool fit]) ∧ JoP B n σ vs k o v more fit wr w' := by
  obtain ⟨p, l, c, hv, hvl⟩ := h.form hk
  have hB : B ≤ wr.heap.size := Nat.le_trans h.lo (Nat.le_of_lt h.lt)
  cases hs : σ k with
  | none =>
    rw [hv]
    refine (join_none p l c q o.length d o wr hq.ni hl).mono ?_
    rintro e w' ⟨v, rfl, ho, hb⟩
    refine ⟨v, true, true, rfl, Sx.of_below hb, fun e => (by cases e), fun _ r e => (by rw [hs] at e; cases e), fun _ => ⟨fun e => (by cases e), fun ⟨r, e, _⟩ => (by rw [hs] at e; cases e)⟩, fun _ => by rw [hs]; exact ho.mono hB, fun _ j b hj _ hvb e => ?_, fun _ b hvb => Or.inr (owns_ge ho b hvb), ?_⟩
    · have h1 := owns_ge ho b hvb
      have h2 := (h.old hj b e).1
      omega
    · obtain ⟨p', c', e⟩ := ho.form
      exact ⟨_, _, _, e⟩
  | some r =>
    have hlr := hvl r hs
    subst hlr
    have ho := h.own k r hk hs
    rw [hv] at ho ⊢
    by_cases hlen : r.length = o.length
    · obtain ⟨h1, h2⟩ := hg r hs
      rw [← hlen] at hq hqd ⊢
      refine (join_ok B p r.length c q d r o wr ho hq.ni (fun b' o' e e2 => hqd b' (by rw [e]; rfl) (by rw [hv]; exact e2)) h2 h1 hgo).mono ?_
      rintro e w' ⟨gr, rfl, ho', hx, hgr⟩
      refine ⟨_, gr, true, rfl, by rw [hv]; exact hx, fun e => (by cases e), fun _ r' e => (by rw [hs] at e; cases e; exact hlen), fun _ => ⟨fun e => ⟨r, hs, hgr.1 e⟩, fun ⟨r', e, e2⟩ => (by rw [hs] at e; cases e; exact hgr.2 e2)⟩, fun _ => by rw [hs]; exact ho', fun _ j b hj hne hvb => h.dist k j b hk hj (fun e => hne e.symm) (by rw [hv]; exact hvb), fun _ b hvb => Or.inl (by rw [hv]; exact hvb), ⟨_, _, _, rfl⟩⟩
    · refine (join_bad p r.length c q o.length d wr hlen).mono ?_
      rintro e w' ⟨rfl, hb⟩
      exact ⟨_, false, false, rfl, Sx.of_below hb, fun _ => ⟨r, hs, hlen⟩, fun e => (by cases e), fun e => (by cases e), fun e => (by cases e), fun e => (by cases e), fun e => (by cases e), ⟨_, _, _, rfl⟩⟩
/-- The joined state, stored. -/
theorem JoP.store {B n S : Nat} {σ : States} {vs : Nat → Value} {k : Nat} {o : List Nat} {v : Value} {more : Bool} {wr w' w2 : World} (h : Ss B n S σ vs wr) (hk : k < n) (hj : JoP B n σ vs k o v more true wr w') (hb : Below w'.heap.size w' w2) : Ss B n S (put σ k o) (fun j => if j = k then v else vs j) ((w2.setCell ⟨S, k * 2, none⟩ (.bool false)).setCell ⟨S, k * 2 + 1, none⟩ v) := by
  refine h.store hk ?_ (fun i s hi hne hs => ?_) ((hj.own rfl).below hb) (hj.dis rfl)
  · have h1 := hj.sx.block S h.lt (fun e => (h.old hk S e).2.2 rfl)
    exact (hb.block S (Nat.lt_of_lt_of_le h.lt hj.sx.size)).trans h1
  · exact ((h.own i s hi hs).other hj.sx (fun b hb' e => h.dist i k b hi hk hne hb' e)).below hb
end Vf
end Go.Proofs.YtdjdhjciealfhaaGreatDoor
