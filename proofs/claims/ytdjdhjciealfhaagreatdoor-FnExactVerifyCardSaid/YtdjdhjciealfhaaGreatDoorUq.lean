import Derived.Test.YtdjdhjciealfhaaGreatDoorU9
import Derived.Deep.CutBlock
import Derived.Deep.RegionHeld
namespace Go.Proofs.YtdjdhjciealfhaaGreatDoor
open Go.RowKit Ch1
namespace Vf
/-- What lies about while states are made. -/
structure Vs (m : Md) (f : Fn) (W : World) (n S : Nat) (σ : States) (vs : Nat → Value) (wr : World) : Prop where
  ss : Ss W.heap.size n S σ vs wr
  bel : Below W.heap.size W wr
  good : GoodA f σ
  le : ∀ τ, OkS m f τ → LeS f σ τ
  st : ∃ t, σ 0 = some t ∧ Le (first f) t
/-- At the heads of the loops: over the passes, over the instructions, over the places that one leads to. -/
def V3 (m : Md) (f : Fn) (W : World) (n S : Nat) (gk : Nat) (wr : World) : Prop := ∃ σ vs, gk + wt n σ = n * 102201 ∧ Hid (Vs m f W n S σ vs wr)
/-- What a pass has done so far: nothing, and then all is closed; or the states have grown. -/
structure Grw (m : Md) (f : Fn) (n : Nat) (σ0 σ : States) (i : Nat) (gr : Bool) : Prop where
  no : gr = false → (∀ j, j < n → σ j = σ0 j) ∧ ∀ j, j < i → ClosedAt m f σ j
  yes : gr = true → wt n σ0 < wt n σ
  le : wt n σ0 ≤ wt n σ
theorem Grw.skip {m : Md} {f : Fn} {n : Nat} {σ0 σ : States} {i : Nat} {gr : Bool} (h : Grw m f n σ0 σ i gr) (hn : σ i = none) : Grw m f n σ0 σ (i + 1) gr :=
  ⟨fun e => ⟨(h.no e).1, fun j hj => by
    by_cases hji : j = i
    · subst hji
      intro s hs
      rw [hn] at hs
      cases hs
    · exact (h.no e).2 j (by omega)⟩, h.yes, h.le⟩
def V4 (m : Md) (f : Fn) (W : World) (n S : Nat) (σ0 : States) (gk : Nat) (gv iv : Value) (wr : World) : Prop := ∃ i gr σ vs, i + gk = n ∧ iv = .int .i64 (i : Nat) ∧ gv = .bool gr ∧ Hid (Vs m f W n S σ vs wr) ∧ Hid (Grw m f n σ0 σ i gr)
/-- What l3after left, behind its statement. -/
def V4a (m : Md) (f : Fn) (x : In) (s : List Nat) (wr : World) (ov bv : Value) (wc : World) : Prop := ∃ b, bv = .bool b ∧ Hid (Below wr.heap.size wr wc) ∧ Hid (b = true ↔ fits m f x s) ∧ Hid (b = true → OwI wc wr.heap.size ov (outOf m f x s))
/-- What l3states answers. -/
def StP (m : Md) (f : Fn) (w w' : World) (e : Ending) : Prop :=
  (∃ S σ vs, e = .returned (.tuple #[.slice (some ⟨S, 0, none⟩) f.code.length f.code.length, .bool true]) ∧ Ss w.heap.size f.code.length S σ vs w' ∧ Least m f σ ∧ Below w.heap.size w w') ∨ ((¬ ∃ τ, OkS m f τ) ∧ e = .returned (.tuple #[.slice none 0 0, .bool false]) ∧ Below w.heap.size w w')
theorem infoS : (Tryz.prog.info? 78).map (fun i => (i.zero, i.size, i.bytes)) = some (some (.agg #[.bool false, .slice none 0 0]), 2, 32) := by kernel_rfl
/-- The row of states while it is laid: i of them are none. -/
def S1 (S n i : Nat) (w : World) : Prop := ∃ arr : Array Value, w.heap[S]? = some (.cells arr 78) ∧ arr.size = n * 2 ∧ ∀ j, j < n → arr[j * 2]? = some (.bool (decide (j < i))) ∧ arr[j * 2 + 1]? = some (.slice none 0 0)
theorem S1.cells {S n i : Nat} {w : World} (h : S1 S n i w) {j : Nat} (hj : j < n) : w.cell? ⟨S, j * 2, none⟩ = some (.bool (decide (j < i))) ∧ w.cell? ⟨S, j * 2 + 1, none⟩ = some (.slice none 0 0) ∧ w.frozen? ⟨S, j * 2, none⟩ = false ∧ w.frozen? ⟨S, j * 2 + 1, none⟩ = false := by
  obtain ⟨arr, ha, _, hc⟩ := h
  obtain ⟨h1, h2⟩ := hc j hj
  refine ⟨?_, ?_, ?_, ?_⟩
  · simp [World.cell?, ha, h1]
  · simp [World.cell?, ha, h2]
  · simp [World.frozen?, ha]
  · simp [World.frozen?, ha]
theorem S1.keep {S n i : Nat} {w w' : World} (h : S1 S n i w) (hS : w'.heap[S]? = w.heap[S]?) : S1 S n i w' := by
  obtain ⟨arr, ha, r⟩ := h
  exact ⟨arr, hS.trans ha, r⟩
theorem S1.step {S n i : Nat} {w : World} (h : S1 S n i w) (hi : i < n) : S1 S n (i + 1) (w.setCell ⟨S, i * 2, none⟩ (.bool true)) := by
  obtain ⟨arr, ha, hsz, hc⟩ := h
  refine ⟨arr.setIfInBounds (i * 2) (.bool true), by simp [World.setCell, Array.getElem?_modify, ha], by simpa using hsz, fun j hj => ?_⟩
  obtain ⟨h1, h2⟩ := hc j hj
  refine ⟨?_, ?_⟩
  · by_cases hji : j = i
    · subst hji
      rw [Array.getElem?_setIfInBounds_self_of_lt (by omega)]
      simp
    · rw [Array.getElem?_setIfInBounds_ne (by omega), h1]
      congr 2
      simp
      omega
  · rw [Array.getElem?_setIfInBounds_ne (by omega)]
    exact h2
theorem S1.ss {S n B : Nat} {w : World} (h : S1 S n n w) (hB : B ≤ S) : Ss B n S (fun _ => none) (fun _ => .slice none 0 0) w := by
  obtain ⟨arr, ha, _, hc⟩ := h
  refine ⟨hB, ⟨arr, ha, fun i hi => ?_⟩, fun _ _ _ => rfl, fun i s _ e => (by cases e), fun i j k _ _ _ e => (by cases e)⟩
  obtain ⟨h1, h2⟩ := hc i hi
  rw [decide_eq_true hi] at h1
  exact ⟨h1, h2⟩
theorem S1.made {w w' : World} {B n : Nat} (ho : w'.ownsRow B 78 2 (.slice (some ⟨w.heap.size, 0, none⟩) n n) n (madeCells (Value.agg #[.bool false, .slice none 0 0]).cells (n * 2)).toList) : S1 w.heap.size n 0 w' := by
  obtain ⟨_, h | ⟨g', cap, cur, hv, _, hh, _, _, hsz, h4⟩⟩ := ho
  · cases h.1
  · cases hv
    refine ⟨cur, hh, by omega, fun j hj => ?_⟩
    have key : ∀ k, k < n * 2 → cur[k]? = (madeCells (Value.agg #[.bool false, .slice none 0 0]).cells (n * 2))[k]? := fun k hk => by
      have e : (List.take (n * 2) cur.toList)[k]? = ((madeCells (Value.agg #[.bool false, .slice none 0 0]).cells (n * 2)).toList)[k]? := by rw [h4]
      rw [List.getElem?_take, if_pos hk] at e
      simpa using e
    have hz : (Value.agg #[.bool false, .slice none 0 0]).cells = #[.bool false, .slice none 0 0] := rfl
    refine ⟨?_, ?_⟩
    · rw [key _ (by omega), hz]
      simp [madeCells, show j * 2 < n * 2 by omega, Nat.mul_mod_left]
    · rw [key _ (by omega), hz]
      have : (j * 2 + 1) % 2 = 1 := by omega
      simp [madeCells, show j * 2 + 1 < n * 2 by omega, this]
theorem Vs.below {m : Md} {f : Fn} {W : World} {n S : Nat} {σ : States} {vs : Nat → Value} {wr w' : World} (h : Vs m f W n S σ vs wr) (hb : Below wr.heap.size wr w') : Vs m f W n S σ vs w' :=
  ⟨h.ss.below hb, h.bel.trans (hb.mono h.bel.size), h.good, h.le, h.st⟩
/-- A row of numbers beside the states. -/
structure Rws (n : Nat) (vs : Nat → Value) (v : Value) (B : Nat) (xs : List Nat) (wr : World) : Prop where
  own : OwI wr B v xs
  dis : ∀ j b, j < n → v.ownBlock = some b → (vs j).ownBlock ≠ some b
theorem Rws.below {n : Nat} {vs : Nat → Value} {v : Value} {B : Nat} {xs : List Nat} {wr w' : World} (h : Rws n vs v B xs wr) (hb : Below wr.heap.size wr w') : Rws n vs v B xs w' := ⟨h.own.below hb, h.dis⟩
theorem Rws.new {B n S : Nat} {σ : States} {vs : Nat → Value} {wr w' : World} {v : Value} {xs : List Nat} (h : Ss B n S σ vs wr) (ho : OwI w' wr.heap.size v xs) : Rws n vs v wr.heap.size xs w' :=
  ⟨ho, fun j b hj hv e => by have h1 := owns_ge ho b hv; have h2 := (h.old hj b e).1; omega⟩
theorem Rws.step {B n S : Nat} {σ : States} {vs : Nat → Value} {k : Nat} {o : List Nat} {u v : Value} {more : Bool} {wr w' w2 : World} {B' : Nat} {xs : List Nat} (h : Rws n vs v B' xs wr) (hs : Ss B n S σ vs wr) (hk : k < n) (hj : JoP B n σ vs k o u more true wr w') (hb : Below w'.heap.size w' w2) : Rws n (fun j => if j = k then u else vs j) v B' xs ((w2.setCell ⟨S, k * 2, none⟩ (.bool false)).setCell ⟨S, k * 2 + 1, none⟩ u) := by
  have h1 : OwI w2 B' v xs := (h.own.other hj.sx (fun b hb' => h.dis k b hk hb')).below hb
  obtain ⟨arr, ha, _⟩ := hs.row
  have hS : w2.heap[S]? = some (.cells arr 78) := ((hb.block S (Nat.lt_of_lt_of_le hs.lt hj.sx.size)).trans (hj.sx.block S hs.lt (fun e => (hs.old hk S e).2.2 rfl))).trans ha
  have e1 : (w2.setCell ⟨S, k * 2, none⟩ (.bool false)).heap[S]? = some (.cells (arr.setIfInBounds (k * 2) (.bool false)) 78) := by simp [World.setCell, Array.getElem?_modify, hS]
  refine ⟨owns_set (owns_set h1 hS (by decide) _) e1 (by decide) _, fun j b hjn hv e => ?_⟩
  by_cases hjk : j = k
  · rw [if_pos hjk] at e
    rcases hj.far rfl b e with h2 | h2
    · exact h.dis k b hk hv h2
    · have := (owns_lt h.own b hv).1
      omega
  · rw [if_neg hjk] at e
    exact h.dis j b hjn hv e
/-- Below the base nothing turns. -/
theorem JoP.bel {B n S : Nat} {σ : States} {vs : Nat → Value} {k : Nat} {o : List Nat} {v : Value} {more fit : Bool} {wr w' : World} (h : Ss B n S σ vs wr) (hk : k < n) (hj : JoP B n σ vs k o v more fit wr w') : Below B wr w' :=
  hj.sx.below (fun b hb => (h.old hk b hb).2.1) (Nat.le_trans h.lo (Nat.le_of_lt h.lt))
/-- The states with one more put in. -/
theorem Vs.puts {m : Md} {f : Fn} {W : World} {n S : Nat} {σ : States} {vs : Nat → Value} {k i : Nat} {s : List Nat} {v : Value} {more : Bool} {wr w' w2 : World} (h : Vs m f W n S σ vs wr) (hn : f.code.length = n) (hi : i < n) (hg : GoodS s) (hst : ∀ τ, OkS m f τ → ∃ t, τ i = some t ∧ Le s t) (hf : fits m f (f.code.getD i in0) s) (hk : k < n) (hkn : k ∈ nexts (f.code.getD i in0) i) (hj : JoP W.heap.size n σ vs k (outOf m f (f.code.getD i in0) s) v more true wr w') (hb : Below w'.heap.size w' w2) :
    Vs m f W n S (put σ k (outOf m f (f.code.getD i in0) s)) (fun j => if j = k then v else vs j) ((w2.setCell ⟨S, k * 2, none⟩ (.bool false)).setCell ⟨S, k * 2 + 1, none⟩ v) := by
  have hb1 := hj.bel h.ss hk
  have hlo := h.ss.lo
  refine ⟨hj.store h.ss hk hb, (((h.bel.trans hb1).trans (hb.mono (Nat.le_trans h.bel.size hb1.size))).setCell (by simp only; exact hlo) _).setCell (by simp only; exact hlo) _, good_put h.good (good_out hg hf) hf.2.2 (hj.len rfl) (by omega), fun τ hτ => ?_, ?_⟩
  · obtain ⟨t, ht, hle⟩ := hst τ hτ
    exact ((put_le2 hτ (h.le τ hτ) (by omega) hg ht hle).2 hkn).2.2
  · obtain ⟨t, ht, hle⟩ := h.st
    by_cases h0 : 0 = k
    · subst h0
      refine ⟨_, put_same _ _ _, ?_⟩
      rw [ht]
      exact hle.trans (joinL_l _ _ (hj.len rfl t ht))
    · exact ⟨t, by rw [put_other _ _ h0]; exact ht, hle⟩
/-- Where there is an answer, what comes next fits. -/
theorem Vs.none_ {m : Md} {f : Fn} {W : World} {n S : Nat} {σ : States} {vs : Nat → Value} {i : Nat} {s : List Nat} {wr : World} (h : Vs m f W n S σ vs wr) (hn : f.code.length = n) (hi : i < n) (hg : GoodS s) (hst : ∀ τ, OkS m f τ → ∃ t, τ i = some t ∧ Le s t) (hbad : ¬ (fits m f (f.code.getD i in0) s ∧ ∀ k, k ∈ nexts (f.code.getD i in0) i → k < n ∧ ∀ r, σ k = some r → r.length = (outOf m f (f.code.getD i in0) s).length)) : ¬ ∃ τ, OkS m f τ := by
  rintro ⟨τ, hτ⟩
  obtain ⟨t, ht, hle⟩ := hst τ hτ
  refine hbad ⟨(put_le2 (n := 0) hτ (h.le τ hτ) (by omega) hg ht hle).1, fun k hk => ?_⟩
  obtain ⟨h1, h2, _⟩ := (put_le2 hτ (h.le τ hτ) (by omega) hg ht hle).2 hk
  exact ⟨by omega, h2⟩
/-- How a place that is led to has taken what came. -/
def Tkn (n : Nat) (σ : States) (o nx : List Nat) (k : Nat) : Prop := ∀ k', k' < k → nx.getD k' 0 < n ∧ ∃ t, σ (nx.getD k' 0) = some t ∧ Le o t
theorem Grw.puts {m : Md} {f : Fn} {n : Nat} {σ0 σ : States} {i : Nat} {gr more : Bool} {k : Nat} {o : List Nat} {nx : List Nat} {kk : Nat} (h : Grw m f n σ0 σ i gr) (hk : k < n) (hl : ∀ r, σ k = some r → r.length = o.length) (hm : more = false ↔ ∃ r, σ k = some r ∧ joinL r o = r) (hx : nx.getD kk 0 = k) (ht : gr = false → Tkn n σ o nx kk) : Grw m f n σ0 (put σ k o) i (gr || more) ∧ ((gr || more) = false → Tkn n (put σ k o) o nx (kk + 1)) := by
  have hle : wt n σ ≤ wt n (put σ k o) := by
    rcases put_wt hk hl with h1 | ⟨h1, _⟩
    · omega
    · rw [wt_congr n (σ := put σ k o) (τ := σ) (fun i _ => h1 i)]
      exact Nat.le_refl _
  have same : more = false → put σ k o = σ := fun e => by
    obtain ⟨r, h1, h2⟩ := hm.1 e
    funext j
    by_cases hj : j = k
    · subst hj
      rw [put_same, h1]
      show some (joinL r o) = some r
      rw [h2]
    · exact put_other _ _ hj
  have grow : more = true → wt n σ < wt n (put σ k o) := fun e => by
    rcases put_wt hk hl with h1 | ⟨_, r, h2, h3⟩
    · exact h1
    · have := hm.2 ⟨r, h2, h3⟩
      rw [e] at this
      cases this
  refine ⟨⟨fun e => ?_, fun e => ?_, Nat.le_trans h.le hle⟩, fun e => ?_⟩
  · rw [Bool.or_eq_false_iff] at e
    rw [same e.2]
    exact h.no e.1
  · rw [Bool.or_eq_true] at e
    rcases e with e | e
    · have := h.yes e
      omega
    · have h1 := grow e
      have h2 := h.le
      omega
  · rw [Bool.or_eq_false_iff] at e
    rw [same e.2]
    intro k' hk'
    by_cases hkk : k' = kk
    · subst hkk
      obtain ⟨r, h1, h2⟩ := hm.1 e.2
      rw [hx]
      refine ⟨hk, r, h1, ?_⟩
      have := joinL_r r o (hl r h1)
      rwa [h2] at this
    · exact ht e.1 k' (by omega)
/-- All places have taken it: the instruction is closed, or the states have grown. -/
theorem Grw.next {m : Md} {f : Fn} {n : Nat} {σ0 σ : States} {i : Nat} {gr : Bool} {s : List Nat} (h : Grw m f n σ0 σ i gr) (hn : f.code.length = n) (hi : i < n) (hs0 : gr = false → σ0 i = some s) (hf : fits m f (f.code.getD i in0) s) (ht : gr = false → Tkn n σ (outOf m f (f.code.getD i in0) s) (nexts (f.code.getD i in0) i) (nexts (f.code.getD i in0) i).length) : Grw m f n σ0 σ (i + 1) gr := by
  refine ⟨fun e => ⟨(h.no e).1, fun j hj => ?_⟩, h.yes, h.le⟩
  by_cases hji : j = i
  · subst hji
    intro s' hs'
    have e1 := (h.no e).1 j hi
    rw [hs0 e, hs'] at e1
    cases e1
    refine ⟨hf, fun k hk => ?_⟩
    obtain ⟨k', hk', rfl⟩ := List.mem_iff_getElem.1 hk
    obtain ⟨h1, t, h2, h3⟩ := ht e k' hk'
    have eg : (nexts (f.code.getD j in0) j).getD k' 0 = (nexts (f.code.getD j in0) j)[k'] := by rw [List.getD_eq_getElem?_getD, List.getElem?_eq_getElem hk']; rfl
    rw [eg] at h1 h2
    exact ⟨by omega, t, h2, h3⟩
  · exact (h.no e).2 j (by omega)
/-- A pass that changed nothing: the states are the least ones. -/
theorem Vs.least {m : Md} {f : Fn} {W : World} {n S : Nat} {σ σ0 : States} {vs : Nat → Value} {wr : World} (h : Vs m f W n S σ vs wr) (hn : f.code.length = n) (hg : Grw m f n σ0 σ n false) : Least m f σ :=
  ⟨⟨h.st, fun i hi => (hg.no rfl).2 i (by omega)⟩, h.good, h.le⟩
end Vf
end Go.Proofs.YtdjdhjciealfhaaGreatDoor
namespace Go.Proofs.YtdjdhjciealfhaaGreatDoor
open Go.RowKit Ch1
namespace Vf
/-- The operations of the region in which l3states asks l3after. -/
def ops17 : Array Oper := #[{ dst := some 59, op := Op.load 33 (Operand.tmp 2), type := 33, pos := "l3_module.go:287", after := #[], guard := none }, { dst := some 60, op := Op.load 48 (Operand.tmp 3), type := 48, pos := "l3_module.go:287", after := #[], guard := none }, { dst := some 61, op := Op.fieldAddr 48 (Operand.tmp 3) 2, type := 0, pos := "l3_module.go:287", after := #[], guard := none }, { dst := some 62, op := Op.load 46 (Operand.tmp 61), type := 46, pos := "l3_module.go:287", after := #[{ on := 2, ground := Ground.data }], guard := none }, { dst := some 63, op := Op.move (Operand.tmp 11), type := 3, pos := "l3_module.go:287", after := #[], guard := none }, { dst := some 64, op := Op.indexAddr 46 (Operand.tmp 62) (Operand.tmp 63), type := 0, pos := "l3_module.go:287", after := #[{ on := 3, ground := Ground.data }, { on := 4, ground := Ground.data }], guard := none }, { dst := some 65, op := Op.load 73 (Operand.tmp 64), type := 73, pos := "l3_module.go:287", after := #[{ on := 5, ground := Ground.data }], guard := none }, { dst := some 66, op := Op.move (Operand.tmp 6), type := 74, pos := "l3_module.go:287", after := #[], guard := none }, { dst := some 67, op := Op.move (Operand.tmp 11), type := 3, pos := "l3_module.go:287", after := #[], guard := none }, { dst := some 68, op := Op.indexAddr 74 (Operand.tmp 66) (Operand.tmp 67), type := 0, pos := "l3_module.go:287", after := #[{ on := 7, ground := Ground.data }, { on := 8, ground := Ground.data }], guard := none }, { dst := some 69, op := Op.fieldAddr 78 (Operand.tmp 68) 1, type := 0, pos := "l3_module.go:287", after := #[{ on := 9, ground := Ground.data }], guard := none }, { dst := some 70, op := Op.load 69 (Operand.tmp 69), type := 69, pos := "l3_module.go:287", after := #[{ on := 10, ground := Ground.data }], guard := none }, { dst := some 71, op := Op.call { callee := Callee.value (Operand.func 60), args := #[Operand.tmp 59, Operand.tmp 60, Operand.tmp 65, Operand.tmp 70], argTypes := #[33, 48, 73, 69] }, type := 114, pos := "l3_module.go:287", after := #[{ on := 0, ground := Ground.data }, { on := 1, ground := Ground.data }, { on := 6, ground := Ground.data }, { on := 11, ground := Ground.data }], guard := none }, { dst := some 58, op := Op.move (Operand.tmp 71), type := 114, pos := "l3_module.go:287", after := #[{ on := 12, ground := Ground.data }], guard := none }, { dst := some 72, op := Op.extract (Operand.tmp 58) 0, type := 69, pos := "l3_module.go:287", after := #[{ on := 13, ground := Ground.data }], guard := none }, { dst := some 73, op := Op.extract (Operand.tmp 58) 1, type := 4, pos := "l3_module.go:287", after := #[{ on := 13, ground := Ground.data }, { on := 16, ground := Ground.gcOnly Departure.lateStores }], guard := none }, { dst := some 12, op := Op.assign (Operand.tmp 72), type := 69, pos := "l3_module.go:287", after := #[{ on := 14, ground := Ground.data }, { on := 12, ground := Ground.chain }, { on := 0, ground := Ground.phase }, { on := 1, ground := Ground.phase }, { on := 2, ground := Ground.phase }, { on := 3, ground := Ground.phase }, { on := 4, ground := Ground.phase }, { on := 5, ground := Ground.phase }, { on := 6, ground := Ground.phase }, { on := 7, ground := Ground.phase }, { on := 8, ground := Ground.phase }, { on := 9, ground := Ground.phase }, { on := 10, ground := Ground.phase }, { on := 11, ground := Ground.phase }, { on := 12, ground := Ground.phase }, { on := 13, ground := Ground.phase }, { on := 14, ground := Ground.phase }, { on := 15, ground := Ground.textOnly Departure.lateStores }], guard := none }, { dst := some 13, op := Op.assign (Operand.tmp 73), type := 4, pos := "l3_module.go:287", after := #[{ on := 15, ground := Ground.data }, { on := 16, ground := Ground.chain }, { on := 0, ground := Ground.phase }, { on := 1, ground := Ground.phase }, { on := 2, ground := Ground.phase }, { on := 3, ground := Ground.phase }, { on := 4, ground := Ground.phase }, { on := 5, ground := Ground.phase }, { on := 6, ground := Ground.phase }, { on := 7, ground := Ground.phase }, { on := 8, ground := Ground.phase }, { on := 9, ground := Ground.phase }, { on := 10, ground := Ground.phase }, { on := 11, ground := Ground.phase }, { on := 12, ground := Ground.phase }, { on := 13, ground := Ground.phase }, { on := 14, ground := Ground.phase }, { on := 15, ground := Ground.phase }, { on := 16, ground := Ground.phase }], guard := none }]
def S17 (M F cb co S i : Nat) (cp : Option Addr) (cn cc : Nat) (g : Int) (fp : Option Addr) (fn fc : Nat) (k0 : Int) (rp : Option Addr) (rl rc dl dc : Nat) (x0 x1 x2 : Int) (q : Option Addr) (l c : Nat) (wx : World) : Prop := wx.cell? ⟨M, 0, none⟩ = some (.slice cp cn cc) ∧ wx.cell? ⟨M, 1, none⟩ = some (.int .i64 g) ∧ wx.cell? ⟨M, 2, none⟩ = some (.slice fp fn fc) ∧ wx.cell? ⟨F, 0, none⟩ = some (.int .i64 k0) ∧ wx.cell? ⟨F, 1, none⟩ = some (.slice rp rl rc) ∧ wx.cell? ⟨F, 2, none⟩ = some (.slice (some ⟨cb, co, none⟩) dl dc) ∧ wx.cell? ⟨cb, co + i * 3, none⟩ = some (.int .i64 x0) ∧ wx.cell? ⟨cb, co + i * 3 + 1, none⟩ = some (.int .i64 x1) ∧ wx.cell? ⟨cb, co + i * 3 + 2, none⟩ = some (.int .i64 x2) ∧ wx.cell? ⟨S, i * 2 + 1, none⟩ = some (.slice q l c)
theorem x17_0 {a : Act} {w : World} {M : Nat} {v0 v1 v2 : Value} (h : a.tmps[2]?.getD undef = .pointer (some ⟨M, 0, none⟩)) (c0 : w.cell? ⟨M, 0, none⟩ = some v0) (c1 : w.cell? ⟨M, 1, none⟩ = some v1) (c2 : w.cell? ⟨M, 2, none⟩ = some v2) : (execOp a.eval (ops17[0]'(by decide))).run Tryz.prog w = .ok (.value (.agg #[v0, v1, v2])) w := by
  unfold ops17
  go_simp
theorem x17_1 {a : Act} {w : World} {M : Nat} {v0 v1 v2 : Value} (h : a.tmps[3]?.getD undef = .pointer (some ⟨M, 0, none⟩)) (c0 : w.cell? ⟨M, 0, none⟩ = some v0) (c1 : w.cell? ⟨M, 1, none⟩ = some v1) (c2 : w.cell? ⟨M, 2, none⟩ = some v2) : (execOp a.eval (ops17[1]'(by decide))).run Tryz.prog w = .ok (.value (.agg #[v0, v1, v2])) w := by
  unfold ops17
  go_simp
theorem x17_2 {a : Act} (w : World) {M : Nat} (h : a.tmps[3]?.getD undef = .pointer (some ⟨M, 0, none⟩)) : (execOp a.eval (ops17[2]'(by decide))).run Tryz.prog w = .ok (.value (.pointer (some ⟨M, 2, none⟩))) w := by
  unfold ops17
  go_simp
theorem x17_3 {a : Act} {w : World} {M : Nat} {v : Value} (h : a.tmps[61]?.getD undef = .pointer (some ⟨M, 2, none⟩)) (c : w.cell? ⟨M, 2, none⟩ = some v) : (execOp a.eval (ops17[3]'(by decide))).run Tryz.prog w = .ok (.value v) w := by
  unfold ops17
  go_simp
theorem x17_4 {a : Act} (w : World) {v : Value} (h : a.tmps[11]?.getD undef = v) : (execOp a.eval (ops17[4]'(by decide))).run Tryz.prog w = .ok (.value v) w := by
  unfold ops17
  go_simp
theorem x17_5 {a : Act} (w : World) {cb co dl dc i : Nat} (h : a.tmps[62]?.getD undef = .slice (some ⟨cb, co, none⟩) dl dc) (h2 : a.tmps[63]?.getD undef = .int .i64 (i : Int)) (hi : i < dl) : (execOp a.eval (ops17[5]'(by decide))).run Tryz.prog w = .ok (.value (.pointer (some ⟨cb, co + i * 3, none⟩))) w := by
  unfold ops17
  go_simp
theorem x17_6 {a : Act} {w : World} {b o : Nat} {v0 v1 v2 : Value} (h : a.tmps[64]?.getD undef = .pointer (some ⟨b, o, none⟩)) (c0 : w.cell? ⟨b, o, none⟩ = some v0) (c1 : w.cell? ⟨b, o + 1, none⟩ = some v1) (c2 : w.cell? ⟨b, o + 2, none⟩ = some v2) : (execOp a.eval (ops17[6]'(by decide))).run Tryz.prog w = .ok (.value (.agg #[v0, v1, v2])) w := by
  unfold ops17
  go_simp
theorem x17_7 {a : Act} (w : World) {v : Value} (h : a.tmps[6]?.getD undef = v) : (execOp a.eval (ops17[7]'(by decide))).run Tryz.prog w = .ok (.value v) w := by
  unfold ops17
  go_simp
theorem x17_8 {a : Act} (w : World) {v : Value} (h : a.tmps[11]?.getD undef = v) : (execOp a.eval (ops17[8]'(by decide))).run Tryz.prog w = .ok (.value v) w := by
  unfold ops17
  go_simp
theorem x17_9 {a : Act} (w : World) {S n c i : Nat} (h : a.tmps[66]?.getD undef = .slice (some ⟨S, 0, none⟩) n c) (h2 : a.tmps[67]?.getD undef = .int .i64 (i : Int)) (hi : i < n) : (execOp a.eval (ops17[9]'(by decide))).run Tryz.prog w = .ok (.value (.pointer (some ⟨S, i * 2, none⟩))) w := by
  unfold ops17
  go_simp
theorem x17_10 {a : Act} (w : World) {S o : Nat} (h : a.tmps[68]?.getD undef = .pointer (some ⟨S, o, none⟩)) : (execOp a.eval (ops17[10]'(by decide))).run Tryz.prog w = .ok (.value (.pointer (some ⟨S, o + 1, none⟩))) w := by
  unfold ops17
  go_simp
theorem x17_11 {a : Act} {w : World} {S o : Nat} {v : Value} (h : a.tmps[69]?.getD undef = .pointer (some ⟨S, o, none⟩)) (c : w.cell? ⟨S, o, none⟩ = some v) : (execOp a.eval (ops17[11]'(by decide))).run Tryz.prog w = .ok (.value v) w := by
  unfold ops17
  go_simp
theorem x17_12 {a : Act} (w : World) {v0 v1 v2 v3 : Value} (h0 : a.tmps[59]?.getD undef = v0) (h1 : a.tmps[60]?.getD undef = v1) (h2 : a.tmps[65]?.getD undef = v2) (h3 : a.tmps[70]?.getD undef = v3) : (execOp a.eval (ops17[12]'(by decide))).run Tryz.prog w = .ok (.enter 60 #[v0, v1, v2, v3]) w := by
  unfold ops17
  go_simp
theorem x17_13 {a : Act} (w : World) {v : Value} (h : a.tmps[71]?.getD undef = v) : (execOp a.eval (ops17[13]'(by decide))).run Tryz.prog w = .ok (.value v) w := by
  unfold ops17
  go_simp
theorem x17_14 {a : Act} (w : World) {u v : Value} (h : a.tmps[58]?.getD undef = .tuple #[u, v]) : (execOp a.eval (ops17[14]'(by decide))).run Tryz.prog w = .ok (.value u) w := by
  unfold ops17
  go_simp
theorem x17_15 {a : Act} (w : World) {u v : Value} (h : a.tmps[58]?.getD undef = .tuple #[u, v]) : (execOp a.eval (ops17[15]'(by decide))).run Tryz.prog w = .ok (.value v) w := by
  unfold ops17
  go_simp
theorem x17_16 {a : Act} (w : World) {v : Value} (h : a.tmps[72]?.getD undef = v) : (execOp a.eval (ops17[16]'(by decide))).run Tryz.prog w = .ok (.value v) w := by
  unfold ops17
  go_simp
theorem x17_17 {a : Act} (w : World) {v : Value} (h : a.tmps[73]?.getD undef = v) : (execOp a.eval (ops17[17]'(by decide))).run Tryz.prog w = .ok (.value v) w := by
  unfold ops17
  go_simp
def Ends (K : Act → World → Prop) (e : Exit) (a : Act) (w : World) : Prop := match e with
  | .normal => K a w
  | _ => False
def sl (a : Act) (t : Nat) : Value := a.tmps[t]?.getD undef
theorem slp {a : Act} {d t : Nat} {v : Value} (hz : d < a.tmps.size) : sl (a.put (some d) v) t = if d = t then v else sl a t := by
  show (a.tmps.setIfInBounds d v)[t]?.getD undef = _
  by_cases h : d = t
  · subst h
    rw [if_pos rfl, Array.getElem?_setIfInBounds_self_of_lt hz]
    rfl
  · rw [if_neg h, Array.getElem?_setIfInBounds_ne h]
    rfl
theorem szp {a : Act} {d : Nat} {v : Value} : (a.put (some d) v).tmps.size = a.tmps.size := by simp [Act.put]
theorem take17 {T : World → Prop} {K : Act → World → Prop} {i : Nat} {o : Oper} {v : Value} {d fuel : Nat} {l : Array Bool} {a : Act} {w : World} (hi : ops17[i]? = some o) (hd : o.dst = some d) (hf : Region.free .any ops17 l i = true) (hr : (Region.ready .any ops17 l).contains i = true) (hg : o.guard = none) (hx : ∀ wx, T wx → (execOp a.eval o).run Tryz.prog wx = .ok (.value v) wx) (hT : T w) (h : wpAnyH Tryz.prog .any ops17 (Ends K) T fuel (l.setIfInBounds i true) (a.put (some d) v) w) : wpAnyH Tryz.prog .any ops17 (Ends K) T (fuel + 1) l a w :=
  wpAnyH_take hi (by kernel_rfl) hf hr (fun _ _ _ h => h) (Or.inl ⟨by simp [Region.wanted, hg], hx⟩) hT (by rw [hd]; exact h)
/-- The frame behind the region. -/
def fr17 (a0 : Act) (F cb co S i : Nat) (cp : Option Addr) (cn cc : Nat) (g : Int) (fp : Option Addr) (fn fc : Nat) (k0 : Int) (rp : Option Addr) (rl rc dl dc : Nat) (x0 x1 x2 : Int) (q : Option Addr) (l c : Nat) (n c6 : Nat) (v : Value) (b : Bool) : Act := ((((((((((((((((((((((((((((((((((((a0 : Act).put (some 59) (.agg #[.slice cp cn cc, .int .i64 g, .slice fp fn fc])) : Act).put (some 60) (.agg #[.int .i64 k0, .slice rp rl rc, .slice (some ⟨cb, co, none⟩) dl dc])) : Act).put (some 61) (.pointer (some ⟨F, 2, none⟩))) : Act).put (some 62) (.slice (some ⟨cb, co, none⟩) dl dc)) : Act).put (some 63) (.int .i64 (i : Int))) : Act).put (some 64) (.pointer (some ⟨cb, co + i * 3, none⟩))) : Act).put (some 65) (.agg #[.int .i64 x0, .int .i64 x1, .int .i64 x2])) : Act).put (some 66) (.slice (some ⟨S, 0, none⟩) n c6)) : Act).put (some 67) (.int .i64 (i : Int))) : Act).put (some 68) (.pointer (some ⟨S, i * 2, none⟩))) : Act).put (some 69) (.pointer (some ⟨S, i * 2 + 1, none⟩))) : Act).put (some 70) (.slice q l c)) : Act).put (some 71) (.tuple #[v, .bool b])) : Act).put (some 58) (.tuple #[v, .bool b])) : Act).put (some 72) v) : Act).put (some 73) (.bool b)) : Act).put (some 12) v) : Act).put (some 13) (.bool b))
set_option maxRecDepth 20000 in
set_option maxHeartbeats 4000000 in
theorem reg17 {a0 : Act} {w0 : World} {K : Act → World → Prop} (M F cb co S i : Nat) (cp : Option Addr) (cn cc : Nat) (g : Int) (fp : Option Addr) (fn fc : Nat) (k0 : Int) (rp : Option Addr) (rl rc dl dc : Nat) (x0 x1 x2 : Int) (q : Option Addr) (l c : Nat) (n c6 : Nat) (hz : a0.tmps.size = 125) (h2 : sl a0 2 = .pointer (some ⟨M, 0, none⟩)) (h3 : sl a0 3 = .pointer (some ⟨F, 0, none⟩)) (h6 : sl a0 6 = .slice (some ⟨S, 0, none⟩) n c6) (h11 : sl a0 11 = .int .i64 (i : Int)) (hid : i < dl) (hin : i < n)
    (hS : S17 M F cb co S i cp cn cc g fp fn fc k0 rp rl rc dl dc x0 x1 x2 q l c w0.drew)
    (hC : Calls Tryz.prog 60 #[(.agg #[.slice cp cn cc, .int .i64 g, .slice fp fn fc]), (.agg #[.int .i64 k0, .slice rp rl rc, .slice (some ⟨cb, co, none⟩) dl dc]), (.agg #[.int .i64 x0, .int .i64 x1, .int .i64 x2]), .slice q l c] w0.drew fun e w' => ∃ v b, e = .returned (.tuple #[v, .bool b]) ∧ S17 M F cb co S i cp cn cc g fp fn fc k0 rp rl rc dl dc x0 x1 x2 q l c w' ∧ K (fr17 a0 F cb co S i cp cn cc g fp fn fc k0 rp rl rc dl dc x0 x1 x2 q l c n c6 v b) w') :
    (Code.region 17 ops17 true).wp Tryz.prog (Ends K) a0 w0 := by
  refine wp_region_held (S := S17 M F cb co S i cp cn cc g fp fn fc k0 rp rl rc dl dc x0 x1 x2 q l c) (by kernel_rfl) ?_
  change wpAnyH _ _ _ _ _ _ _ _ w0.drew
  refine take17 (i := 0) (o := ops17[0]'(by decide)) (d := 59) (v := (.agg #[.slice cp cn cc, .int .i64 g, .slice fp fn fc])) rfl rfl (by kernel_rfl) (by kernel_rfl) rfl (fun wx hT => x17_0 h2 hT.1 hT.2.1 hT.2.2.1) hS ?_
  refine take17 (i := 1) (o := ops17[1]'(by decide)) (d := 60) (v := (.agg #[.int .i64 k0, .slice rp rl rc, .slice (some ⟨cb, co, none⟩) dl dc])) rfl rfl (by kernel_rfl) (by kernel_rfl) rfl (fun wx hT => x17_1 (show sl _ 3 = _ from by simp [slp, hz, h3]) hT.2.2.2.1 hT.2.2.2.2.1 hT.2.2.2.2.2.1) hS ?_
  refine take17 (i := 2) (o := ops17[2]'(by decide)) (d := 61) (v := (.pointer (some ⟨F, 2, none⟩))) rfl rfl (by kernel_rfl) (by kernel_rfl) rfl (fun wx hT => x17_2 wx (show sl _ 3 = _ from by simp [slp, szp, hz, h3])) hS ?_
  refine take17 (i := 3) (o := ops17[3]'(by decide)) (d := 62) (v := (.slice (some ⟨cb, co, none⟩) dl dc)) rfl rfl (by kernel_rfl) (by kernel_rfl) rfl (fun wx hT => x17_3 (show sl _ 61 = _ from by simp [slp, szp, hz]) hT.2.2.2.2.2.1) hS ?_
  refine take17 (i := 4) (o := ops17[4]'(by decide)) (d := 63) (v := (.int .i64 (i : Int))) rfl rfl (by kernel_rfl) (by kernel_rfl) rfl (fun wx hT => x17_4 wx (show sl _ 11 = _ from by simp [slp, szp, hz, h11])) hS ?_
  refine take17 (i := 5) (o := ops17[5]'(by decide)) (d := 64) (v := (.pointer (some ⟨cb, co + i * 3, none⟩))) rfl rfl (by kernel_rfl) (by kernel_rfl) rfl (fun wx hT => x17_5 (dc := dc) wx (show sl _ 62 = _ from by simp [slp, szp, hz]) (show sl _ 63 = _ from by simp [slp, szp, hz]) hid) hS ?_
  refine take17 (i := 6) (o := ops17[6]'(by decide)) (d := 65) (v := (.agg #[.int .i64 x0, .int .i64 x1, .int .i64 x2])) rfl rfl (by kernel_rfl) (by kernel_rfl) rfl (fun wx hT => x17_6 (show sl _ 64 = _ from by simp [slp, szp, hz]) hT.2.2.2.2.2.2.1 hT.2.2.2.2.2.2.2.1 hT.2.2.2.2.2.2.2.2.1) hS ?_
  refine take17 (i := 7) (o := ops17[7]'(by decide)) (d := 66) (v := (.slice (some ⟨S, 0, none⟩) n c6)) rfl rfl (by kernel_rfl) (by kernel_rfl) rfl (fun wx hT => x17_7 wx (show sl _ 6 = _ from by simp [slp, szp, hz, h6])) hS ?_
  refine take17 (i := 8) (o := ops17[8]'(by decide)) (d := 67) (v := (.int .i64 (i : Int))) rfl rfl (by kernel_rfl) (by kernel_rfl) rfl (fun wx hT => x17_8 wx (show sl _ 11 = _ from by simp [slp, szp, hz, h11])) hS ?_
  refine take17 (i := 9) (o := ops17[9]'(by decide)) (d := 68) (v := (.pointer (some ⟨S, i * 2, none⟩))) rfl rfl (by kernel_rfl) (by kernel_rfl) rfl (fun wx hT => x17_9 (c := c6) wx (show sl _ 66 = _ from by simp [slp, szp, hz]) (show sl _ 67 = _ from by simp [slp, szp, hz]) hin) hS ?_
  refine take17 (i := 10) (o := ops17[10]'(by decide)) (d := 69) (v := (.pointer (some ⟨S, i * 2 + 1, none⟩))) rfl rfl (by kernel_rfl) (by kernel_rfl) rfl (fun wx hT => x17_10 wx (show sl _ 68 = _ from by simp [slp, szp, hz])) hS ?_
  refine take17 (i := 11) (o := ops17[11]'(by decide)) (d := 70) (v := (.slice q l c)) rfl rfl (by kernel_rfl) (by kernel_rfl) rfl (fun wx hT => x17_11 (show sl _ 69 = _ from by simp [slp, szp, hz]) hT.2.2.2.2.2.2.2.2.2) hS ?_
  refine wpAnyH_all (rs := [12]) (by kernel_rfl) (by decide) (fun j hj => ?_)
  obtain rfl : j = 12 := by simpa using hj
  refine wpOp_step (o := ops17[12]'(by decide)) rfl (fun K' hK => ?_)
  rw [if_pos (by simp [Region.wanted, ops17])]
  unfold Oper.wp
  rw [x17_12 (v0 := (.agg #[.slice cp cn cc, .int .i64 g, .slice fp fn fc])) (v1 := (.agg #[.int .i64 k0, .slice rp rl rc, .slice (some ⟨cb, co, none⟩) dl dc])) (v2 := .agg #[.int .i64 x0, .int .i64 x1, .int .i64 x2]) (v3 := .slice q l c) w0.drew (show sl _ 59 = _ from by simp [slp, szp, hz]) (show sl _ 60 = _ from by simp [slp, szp, hz]) (show sl _ 65 = _ from by simp [slp, szp, hz]) (show sl _ 70 = _ from by simp [slp, szp, hz]), Oper.upon_enter]
  refine hC.mono ?_
  rintro e w' ⟨v, b, rfl, hS1, hK1⟩
  refine hK _ _ ⟨hS1, ?_⟩
  show wpAnyH Tryz.prog .any ops17 (Ends K) _ _ _ (Act.put _ (some 71) _) w'
  refine take17 (i := 13) (o := ops17[13]'(by decide)) (d := 58) (v := (.tuple #[v, .bool b])) rfl rfl (by kernel_rfl) (by kernel_rfl) rfl (fun wx hT => x17_13 wx (show sl _ 71 = _ from by simp [slp, szp, hz])) hS1 ?_
  refine take17 (i := 14) (o := ops17[14]'(by decide)) (d := 72) (v := v) rfl rfl (by kernel_rfl) (by kernel_rfl) rfl (fun wx hT => x17_14 (v := .bool b) wx (show sl _ 58 = _ from by simp [slp, szp, hz])) hS1 ?_
  refine take17 (i := 15) (o := ops17[15]'(by decide)) (d := 73) (v := (.bool b)) rfl rfl (by kernel_rfl) (by kernel_rfl) rfl (fun wx hT => x17_15 (u := v) wx (show sl _ 58 = _ from by simp [slp, szp, hz])) hS1 ?_
  refine take17 (i := 16) (o := ops17[16]'(by decide)) (d := 12) (v := v) rfl rfl (by kernel_rfl) (by kernel_rfl) rfl (fun wx hT => x17_16 wx (show sl _ 72 = _ from by simp [slp, szp, hz])) hS1 ?_
  refine take17 (i := 17) (o := ops17[17]'(by decide)) (d := 13) (v := (.bool b)) rfl rfl (by kernel_rfl) (by kernel_rfl) rfl (fun wx hT => x17_17 wx (show sl _ 73 = _ from by simp [slp, szp, hz])) hS1 ?_
  refine wpAnyH_done (by kernel_rfl) ?_ _
  exact hK1
end Vf
end Go.Proofs.YtdjdhjciealfhaaGreatDoor
