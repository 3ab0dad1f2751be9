import Derived.Test.YtdjdhjciealfhaaGreatDoorKv
import Derived.Test.YtdjdhjciealfhaaGreatDoorKk
import Derived.Test.YtdjdhjciealfhaaGreatDoorKa
import Derived.Test.YtdjdhjciealfhaaGreatDoorKb
import Derived.Deep.RegionHeld
import Derived.Test.YtdjdhjciealfhaaGreatDoorUq
namespace Go.Proofs.YtdjdhjciealfhaaGreatDoor
open Go.RowKit Go.Shelf Ch1
namespace Vf
/-- All blocks of cells stand but the states, the work list's and rows of numbers. -/
def KT (S : Nat) (W W' : World) : Prop := ∀ (k : Nat) (a : Array Value) (t : TypeId), W.heap[k]? = some (.cells a t) → k ≠ S → t ≠ 3 → t ≠ 93 → W'.heap[k]? = some (.cells a t)
theorem KT.refl (S : Nat) (W : World) : KT S W W := fun _ _ _ h _ _ _ => h
theorem KT.trans {S : Nat} {A B C : World} (h : KT S A B) (k : KT S B C) : KT S A C := fun i a t hi h1 h2 h3 => k i a t (h i a t hi h1 h2 h3) h1 h2 h3
theorem KT.below {S : Nat} {W W' : World} (hb : Below W.heap.size W W') : KT S W W' := fun k _ _ hk _ _ _ => (hb.block k (Array.getElem?_eq_some_iff.1 hk).1).trans hk
theorem KT.wf {S B Lb : Nat} {v : Value} {xs : List Nat} {W W' : World} (hw : Wl W B Lb v xs) (hf : Wf Lb v W W') : KT S W W' := fun k a t hk _ h3 h4 => by
  refine (hf k (Array.getElem?_eq_some_iff.1 hk).1 (fun e => ?_) (owns_ne hw.own hk h3)).trans hk
  rw [e, hw.box] at hk
  cases hk
  exact h4 rfl
theorem KT.set (S : Nat) (W : World) (o : Nat) (vs : List Value) : KT S W (W.setCells S o vs) := fun _ _ _ hk h1 _ _ => (heap_setCells_ne S h1 vs o W).trans hk
/-- Whatever is no cells stands. -/
theorem KeepsOthers.below {W W' : World} (hb : Below W.heap.size W W') : KeepsOthers W W' := ⟨hb.size, fun k _ hk _ => (hb.block k (Array.getElem?_eq_some_iff.1 hk).1).trans hk⟩
theorem KeepsOthers.wf {B Lb : Nat} {v : Value} {xs : List Nat} {W W' : World} (hw : Wl W B Lb v xs) (hf : Wf Lb v W W') (hs : W.heap.size ≤ W'.heap.size) : KeepsOthers W W' := ⟨hs, fun k o hk ho => by
  refine (hf k (Array.getElem?_eq_some_iff.1 hk).1 (fun e => ?_) (fun e => ?_)).trans hk
  · rw [e, hw.box] at hk; cases hk; cases ho
  · obtain ⟨_, cur, hc⟩ := owns_lt hw.own k e.symm
    rw [hc] at hk; cases hk; cases ho⟩
theorem KeepsOthers.sets {W : World} {S o : Nat} {a : Array Value} {t : TypeId} (h : W.heap[S]? = some (.cells a t)) (vs : List Value) : KeepsOthers W (W.setCells S o vs) := ⟨by rw [size_setCells]; exact Nat.le_refl _, fun k ob hk ho => by
  by_cases e : k = S
  · rw [e, h] at hk; cases hk; cases ho
  · exact (heap_setCells_ne S e vs o W).trans hk⟩
/-- All cells stand. -/
def KA (W W' : World) : Prop := ∀ (k : Nat) (a : Array Value) (t : TypeId), W.heap[k]? = some (.cells a t) → W'.heap[k]? = some (.cells a t)
theorem KA.grown {W W' : World} {row : Option Nat} (hg : W.grownBy W' row) (hr : ∀ r, row = some r → ∃ o : Obj, W.heap[r]? = some o ∧ o.isCells = false) : KA W W' := fun k a t hk => by
  refine (hg.block k (Array.getElem?_eq_some_iff.1 hk).1 (fun e => ?_)).trans hk
  obtain ⟨o, ho, hc⟩ := hr k e.symm
  rw [hk] at ho; cases ho; cases hc
theorem Sp.ka {W W' : World} {n S : Nat} {σ : States} (h : Sp W n S σ) (hk : KA W W') : Sp W' n S σ := by
  obtain ⟨arr, ha, r⟩ := h
  exact ⟨arr, hk _ _ _ ha, r⟩
theorem Wl.ka {W W' : World} {B Lb : Nat} {v : Value} {xs : List Nat} (h : Wl W B Lb v xs) (hk : KA W W') : Wl W' B Lb v xs :=
  ⟨hk _ _ _ h.box, owns_of_heap h.own (fun k e => by obtain ⟨_, cur, hc⟩ := owns_lt h.own k e; rw [hc]; exact hk _ _ _ hc), h.srt⟩
theorem Sb.ka {W W' : World} {S : Nat} {r : Bool} {c : Nat} {t : Nat → Nat} (h : Sb W S r c t) (hk : KA W W') : Sb W' S r c t := hk _ _ _ h
/-- What lies fixed while states are made. -/
structure Fx (w W : World) (dl Lb Bp Vb : Nat) (mv fv : Array Value) : Prop where
  mb : W.heap[w.heap.size]? = some (.cells mv 33)
  fb : W.heap[w.heap.size + 1]? = some (.cells fv 48)
  r0 : W.heap[w.heap.size + 1 + 1]? = some (.cells #[.slice none 0 0] 51)
  r1 : W.heap[w.heap.size + 1 + 1 + 1]? = some (.cells #[.bool false] 4)
  sb : W.heap[Vb]? = some (.cells #[.slice (some ⟨w.heap.size + 1 + 1 + 1 + 1, 0, none⟩) dl dl] 51)
  bp : W.heap[Bp]? = some (.cells #[.pointer (some ⟨Lb, 0, none⟩)] 125)
  bel : Below w.heap.size w W
  lb : w.heap.size ≤ Lb
  ne : Bp ≠ w.heap.size + 1 + 1 + 1 + 1
  nv : Vb ≠ w.heap.size + 1 + 1 + 1 + 1
theorem Fx.turn {w W W' : World} {dl Lb Bp Vb : Nat} {mv fv : Array Value} (h : Fx w W dl Lb Bp Vb mv fv) (hk : KT (w.heap.size + 1 + 1 + 1 + 1) W W') (hb : Below w.heap.size w W') : Fx w W' dl Lb Bp Vb mv fv :=
  ⟨hk _ _ _ h.mb (by omega) (by decide) (by decide), hk _ _ _ h.fb (by omega) (by decide) (by decide), hk _ _ _ h.r0 (by omega) (by decide) (by decide), hk _ _ _ h.r1 (by omega) (by decide) (by decide), hk _ _ _ h.sb h.nv (by decide) (by decide), hk _ _ _ h.bp h.ne (by decide) (by decide), hb, h.lb, h.ne, h.nv⟩
theorem Fx.ka {w W W' : World} {dl Lb Bp Vb : Nat} {mv fv : Array Value} (h : Fx w W dl Lb Bp Vb mv fv) (hk : KA W W') (hb : Below w.heap.size w W') : Fx w W' dl Lb Bp Vb mv fv :=
  ⟨hk _ _ _ h.mb, hk _ _ _ h.fb, hk _ _ _ h.r0, hk _ _ _ h.r1, hk _ _ _ h.sb, hk _ _ _ h.bp, hb, h.lb, h.ne, h.nv⟩
theorem Fx.below {w W W' : World} {dl Lb Bp Vb : Nat} {mv fv : Array Value} (h : Fx w W dl Lb Bp Vb mv fv) (hb : Below W.heap.size W W') : Fx w W' dl Lb Bp Vb mv fv := h.turn (KT.below hb) (h.bel.trans (hb.mono h.bel.size))
/-- Between two rounds, as it lies. -/
def IH (w : World) (m : Md) (f : Fn) (dl Lb Bp Vb : Nat) (mv fv : Array Value) (M : Nat) (W : World) : Prop := ∃ σ v xs, Fx w W dl Lb Bp Vb mv fv ∧ Sp W dl (w.heap.size + 1 + 1 + 1 + 1) σ ∧ Wl W w.heap.size Lb v xs ∧ Hd m f dl M σ xs
/-- A round begins, as it lies. -/
def IPp (w : World) (m : Md) (f : Fn) (dl Lb Bp Vb : Nat) (mv fv : Array Value) (x M : Nat) (W : World) : Prop := ∃ σ v r s, Fx w W dl Lb Bp Vb mv fv ∧ Sp W dl (w.heap.size + 1 + 1 + 1 + 1) σ ∧ Wl W w.heap.size Lb v r ∧ Rd m f dl x M s [] σ r ∧ σ x = some s ∧ x < dl
/-- The function is not safe. -/
def IXx (w : World) (m : Md) (f : Fn) (c : Code) (W : World) : Prop := c = .ret ∧ ¬ Safe m f ∧ W.heap[w.heap.size + 1 + 1]? = some (.cells #[.slice none 0 0] 51) ∧ W.heap[w.heap.size + 1 + 1 + 1]? = some (.cells #[.bool false] 4) ∧ Below w.heap.size w W
/-- All is done. -/
def IEe (w : World) (m : Md) (f : Fn) (dl Lb Bp Vb : Nat) (mv fv : Array Value) (W : World) : Prop := ∃ σ, Fx w W dl Lb Bp Vb mv fv ∧ Sp W dl (w.heap.size + 1 + 1 + 1 + 1) σ ∧ Least m f σ ∧ AskS m f σ
theorem IH.al {w : World} {m : Md} {f : Fn} {dl Lb Bp Vb : Nat} {mv fv : Array Value} (hn : f.code.length = dl) (M : Nat) (W : World) (h : IH w m f dl Lb Bp Vb mv fv M W) : AlJ w.heap.size Lb Bp (IH w m f dl Lb Bp Vb mv fv) (IPp w m f dl Lb Bp Vb mv fv) (IEe w m f dl Lb Bp Vb mv fv) M W := by
  obtain ⟨σ, v, xs, hF, hS, hW, hH⟩ := h
  refine ⟨v, xs, hW, cell_at hF.bp rfl, fun e => ?_, fun e => ?_, fun x r W2 e hp => ?_⟩
  · have h1 := hF.bp
    rw [e, hW.box] at h1
    cases h1
  · subst e
    obtain ⟨h1, h2⟩ := hH.least hn
    exact ⟨σ, hF, hS, h1, h2⟩
  · subst e
    obtain ⟨v2, h1, h2, h3, h4⟩ := hp
    have hb := h4 w.heap.size (Nat.le_refl _) hF.lb
    have hx := hH.mem x (by simp)
    obtain ⟨s, hs⟩ := Option.ne_none_iff_exists'.1 hx.2
    obtain ⟨arr, ha, _⟩ : ∃ arr : Array Value, W.heap[w.heap.size + 1 + 1 + 1 + 1]? = some (.cells arr 90) ∧ True := by obtain ⟨arr, ha, _⟩ := hS; exact ⟨arr, ha, trivial⟩
    refine ⟨σ, v2, r, s, hF.turn (KT.wf hW h2) (hF.bel.trans (hb.mono (Nat.le_refl _))), hS.keep (h2 _ hS.lt (fun e => ?_) (owns_ne hW.own ha (by decide))), h1, hH.begin_ hs, hs, hx.1⟩
    rw [e, hW.box] at ha
    cases ha
theorem IH.own {w W0 : World} {m : Md} {f : Fn} {dl Lb Bp Vb : Nat} {mv fv : Array Value} (hB : w.heap.size ≤ W0.heap.size) : OwnFrom W0.heap.size (IH w m f dl Lb Bp Vb mv fv) := fun s A C row hs hg hr => by
  obtain ⟨σ, v, xs, hF, hS, hW, hH⟩ := hs
  have hk := KA.grown hg (fun r e => (hr r e).2)
  exact ⟨σ, v, xs, hF.ka hk (ownFrom_below (β := Unit) (Nat.le_refl _) hB () A C row hF.bel hg hr), hS.ka hk, hW.ka hk, hH⟩
theorem IPp.own {w W0 : World} {m : Md} {f : Fn} {dl Lb Bp Vb : Nat} {mv fv : Array Value} (hB : w.heap.size ≤ W0.heap.size) (x : Nat) : OwnFrom W0.heap.size (IPp w m f dl Lb Bp Vb mv fv x) := fun s A C row hs hg hr => by
  obtain ⟨σ, v, xs, t, hF, hS, hW, hH⟩ := hs
  have hk := KA.grown hg (fun r e => (hr r e).2)
  exact ⟨σ, v, xs, t, hF.ka hk (ownFrom_below (β := Unit) (Nat.le_refl _) hB () A C row hF.bel hg hr), hS.ka hk, hW.ka hk, hH⟩
theorem IXx.own {w W0 : World} {m : Md} {f : Fn} (hB : w.heap.size ≤ W0.heap.size) : OwnFrom W0.heap.size (IXx w m f) := fun s A C row hs hg hr => by
  obtain ⟨h1, h2, h3, h4, h5⟩ := hs
  have hk := KA.grown hg (fun r e => (hr r e).2)
  exact ⟨h1, h2, hk _ _ _ h3, hk _ _ _ h4, ownFrom_below (β := Unit) (Nat.le_refl _) hB () A C row h5 hg hr⟩
theorem IEe.own {w W0 : World} {m : Md} {f : Fn} {dl Lb Bp Vb : Nat} {mv fv : Array Value} (hB : w.heap.size ≤ W0.heap.size) : OwnFrom W0.heap.size (fun (_ : Unit) => IEe w m f dl Lb Bp Vb mv fv) := fun s A C row hs hg hr => by
  obtain ⟨σ, hF, hS, hH⟩ := hs
  have hk := KA.grown hg (fun r e => (hr r e).2)
  exact ⟨σ, hF.ka hk (ownFrom_below (β := Unit) (Nat.le_refl _) hB () A C row hF.bel hg hr), hS.ka hk, hH⟩
end Vf
end Go.Proofs.YtdjdhjciealfhaaGreatDoor
namespace Go.Proofs.YtdjdhjciealfhaaGreatDoor
open Go.RowKit Go.Shelf Ch1
namespace Vf
/-! ### a region in a round is carried out as everywhere -/
theorem op_round {P : Program} {o : Oper} {a : Act} {w : World} {K : Act → World → Prop} {Q : Exit → Act → World → Prop} (l n : Nat) (hd : ∀ c, o.op ≠ .defer c) (h : o.wp P a w K Q) : o.wpIn (Fence.wide.inRound l) n P a w K Q := by
  refine ⟨fun _ _ => trivial, ?_⟩
  rw [Oper.semAt_eq _ _ _ hd]
  unfold Oper.wp at h
  generalize (execOp a.eval o).run P w = r at h ⊢
  cases r with
  | ok x w' =>
    cases x with
    | value v => exact h
    | skip => exact h
    | defer d => exact h
    | enter f args => exact ⟨fun e => (by cases e), callsIn_wide.2 h⟩
    | row row args => exact ⟨fun e => (by cases e), fun c cs _ => let ⟨v, w'', r, s⟩ := h c cs; ⟨v, w'', r, stepsIn_wide.2 s⟩⟩
    | round => exact h.elim
    | _ => exact h.elim
  | halt x w' => cases x <;> exact h
theorem any_round {P : Program} {ops : Array Oper} {Q : Exit → Act → World → Prop} {md : Region.Mode} (l n : Nat) (hd : ∀ (i : Nat) (o : Oper), ops[i]? = some o → ∀ c, o.op ≠ .defer c) (hq : ¬ LetsOut Q) : ∀ (fuel : Nat) (listed : Array Bool) (a : Act) (w : World), wpAny P md ops Q fuel listed a w → wpAnyIn (Fence.wide.inRound l) n P md ops Q fuel listed a w
  | 0, _, _, _, h => h
  | fuel + 1, listed, a, w, h => by
    refine ⟨h.1, fun i hi => ?_⟩
    have hh := h.2 i hi
    unfold wpOp at hh
    unfold wpOpIn
    cases ho : ops[i]? with
    | none =>
      simp only [ho] at hh ⊢
      exact any_round l n hd hq fuel _ a w hh
    | some o =>
      simp only [ho] at hh ⊢
      by_cases hw : Region.wanted o (yielded ops a.tmps) = true
      · rw [if_pos hw] at hh ⊢
        rcases hh with hh | hh
        · exact Oper.wpIn_mono (fun a w h => any_round l n hd hq fuel _ a w h) (op_round l n (hd i o ho) hh)
        · exact absurd hh.2 hq
      · rw [if_neg hw] at hh ⊢
        exact ⟨fun _ _ => trivial, any_round l n hd hq fuel _ _ w hh⟩
theorem region_round {P : Program} {ops : Array Oper} {Q : Exit → Act → World → Prop} {S : World → Prop} {id : Nat} {a : Act} {w : World} (l n : Nat) (hm : P.follows .mixedOrders = true) (hd : ∀ (i : Nat) (o : Oper), ops[i]? = some o → ∀ c, o.op ≠ .defer c) (hq : ¬ LetsOut Q) (h : wpAnyH P .any ops Q S ops.size (Array.replicate ops.size false) a w.drew) : (Code.region id ops true).wpIn (Fence.wide.inRound l) n P Q a w :=
  wpIn_region_any hm (any_round l n hd hq _ _ _ _ (wpAny_of_held _ _ _ _ h))
end Vf
end Go.Proofs.YtdjdhjciealfhaaGreatDoor
namespace Go.Proofs.YtdjdhjciealfhaaGreatDoor
open Go.RowKit Go.Shelf Ch1
namespace Vf
/-- The operations of the region in which statesOf asks stateBehind. -/
def ops7 : Array Oper := #[{ dst := some 27, op := Op.load 33 (Operand.tmp 2), type := 33, pos := "l3_module.go:368", after := #[], guard := none }, { dst := some 28, op := Op.load 48 (Operand.tmp 3), type := 48, pos := "l3_module.go:368", after := #[], guard := none }, { dst := some 29, op := Op.fieldAddr 48 (Operand.tmp 3) 2, type := 0, pos := "l3_module.go:368", after := #[], guard := none }, { dst := some 30, op := Op.load 46 (Operand.tmp 29), type := 46, pos := "l3_module.go:368", after := #[{ on := 2, ground := Ground.data }], guard := none }, { dst := some 31, op := Op.move (Operand.tmp 8), type := 3, pos := "l3_module.go:368", after := #[], guard := none }, { dst := some 32, op := Op.indexAddr 46 (Operand.tmp 30) (Operand.tmp 31), type := 0, pos := "l3_module.go:368", after := #[{ on := 3, ground := Ground.data }, { on := 4, ground := Ground.data }], guard := none }, { dst := some 33, op := Op.load 73 (Operand.tmp 32), type := 73, pos := "l3_module.go:368", after := #[{ on := 5, ground := Ground.data }], guard := none }, { dst := some 34, op := Op.load 51 (Operand.tmp 6), type := 51, pos := "l3_module.go:368", after := #[], guard := none }, { dst := some 35, op := Op.move (Operand.tmp 8), type := 3, pos := "l3_module.go:368", after := #[], guard := none }, { dst := some 36, op := Op.indexAddr 51 (Operand.tmp 34) (Operand.tmp 35), type := 0, pos := "l3_module.go:368", after := #[{ on := 7, ground := Ground.data }, { on := 8, ground := Ground.data }], guard := none }, { dst := some 37, op := Op.load 90 (Operand.tmp 36), type := 90, pos := "l3_module.go:368", after := #[{ on := 9, ground := Ground.data }], guard := none }, { dst := some 38, op := Op.call { callee := Callee.value (Operand.func 46), args := #[Operand.tmp 27, Operand.tmp 28, Operand.tmp 33, Operand.tmp 37], argTypes := #[33, 48, 73, 90] }, type := 98, pos := "l3_module.go:368", after := #[{ on := 0, ground := Ground.data }, { on := 1, ground := Ground.data }, { on := 6, ground := Ground.data }, { on := 10, ground := Ground.data }], guard := none }, { dst := some 26, op := Op.move (Operand.tmp 38), type := 98, pos := "l3_module.go:368", after := #[{ on := 11, ground := Ground.data }], guard := none }, { dst := some 39, op := Op.extract (Operand.tmp 26) 0, type := 90, pos := "l3_module.go:368", after := #[{ on := 12, ground := Ground.data }], guard := none }, { dst := some 40, op := Op.extract (Operand.tmp 26) 1, type := 4, pos := "l3_module.go:368", after := #[{ on := 12, ground := Ground.data }, { on := 16, ground := Ground.gcOnly Departure.lateStores }], guard := none }, { dst := some 9, op := Op.alloc 90, type := 0, pos := "l3_module.go:368", after := #[], guard := none }, { dst := none, op := Op.store 90 (Operand.tmp 9) (Operand.tmp 39), type := 0, pos := "l3_module.go:368", after := #[{ on := 15, ground := Ground.data }, { on := 13, ground := Ground.data }, { on := 11, ground := Ground.chain }, { on := 0, ground := Ground.phase }, { on := 1, ground := Ground.phase }, { on := 2, ground := Ground.phase }, { on := 3, ground := Ground.phase }, { on := 4, ground := Ground.phase }, { on := 5, ground := Ground.phase }, { on := 6, ground := Ground.phase }, { on := 7, ground := Ground.phase }, { on := 8, ground := Ground.phase }, { on := 9, ground := Ground.phase }, { on := 10, ground := Ground.phase }, { on := 11, ground := Ground.phase }, { on := 12, ground := Ground.phase }, { on := 13, ground := Ground.phase }, { on := 14, ground := Ground.textOnly Departure.lateStores }, { on := 15, ground := Ground.phase }], guard := none }, { dst := some 10, op := Op.assign (Operand.tmp 40), type := 4, pos := "l3_module.go:368", after := #[{ on := 14, ground := Ground.data }, { on := 16, ground := Ground.chain }, { on := 0, ground := Ground.phase }, { on := 1, ground := Ground.phase }, { on := 2, ground := Ground.phase }, { on := 3, ground := Ground.phase }, { on := 4, ground := Ground.phase }, { on := 5, ground := Ground.phase }, { on := 6, ground := Ground.phase }, { on := 7, ground := Ground.phase }, { on := 8, ground := Ground.phase }, { on := 9, ground := Ground.phase }, { on := 10, ground := Ground.phase }, { on := 11, ground := Ground.phase }, { on := 12, ground := Ground.phase }, { on := 13, ground := Ground.phase }, { on := 14, ground := Ground.phase }, { on := 15, ground := Ground.phase }, { on := 16, ground := Ground.phase }], guard := none }]
theorem x7_0 {a : Act} {w : World} {M : Nat} {v0 v1 v2 : Value} (h : a.tmps[2]?.getD undef = .pointer (some ⟨M, 0, none⟩)) (c0 : w.cell? ⟨M, 0, none⟩ = some v0) (c1 : w.cell? ⟨M, 1, none⟩ = some v1) (c2 : w.cell? ⟨M, 2, none⟩ = some v2) : (execOp a.eval (ops7[0]'(by decide))).run Tryz.prog w = .ok (.value (.agg #[v0, v1, v2])) w := by
  unfold ops7
  go_simp
theorem x7_1 {a : Act} {w : World} {M : Nat} {v0 v1 v2 : Value} (h : a.tmps[3]?.getD undef = .pointer (some ⟨M, 0, none⟩)) (c0 : w.cell? ⟨M, 0, none⟩ = some v0) (c1 : w.cell? ⟨M, 1, none⟩ = some v1) (c2 : w.cell? ⟨M, 2, none⟩ = some v2) : (execOp a.eval (ops7[1]'(by decide))).run Tryz.prog w = .ok (.value (.agg #[v0, v1, v2])) w := by
  unfold ops7
  go_simp
theorem x7_2 {a : Act} (w : World) {M : Nat} (h : a.tmps[3]?.getD undef = .pointer (some ⟨M, 0, none⟩)) : (execOp a.eval (ops7[2]'(by decide))).run Tryz.prog w = .ok (.value (.pointer (some ⟨M, 2, none⟩))) w := by
  unfold ops7
  go_simp
theorem x7_3 {a : Act} {w : World} {M : Nat} {v : Value} (h : a.tmps[29]?.getD undef = .pointer (some ⟨M, 2, none⟩)) (c : w.cell? ⟨M, 2, none⟩ = some v) : (execOp a.eval (ops7[3]'(by decide))).run Tryz.prog w = .ok (.value v) w := by
  unfold ops7
  go_simp
theorem x7_4 {a : Act} (w : World) {v : Value} (h : a.tmps[8]?.getD undef = v) : (execOp a.eval (ops7[4]'(by decide))).run Tryz.prog w = .ok (.value v) w := by
  unfold ops7
  go_simp
theorem x7_5 {a : Act} (w : World) {cb co dl dc i : Nat} (h : a.tmps[30]?.getD undef = .slice (some ⟨cb, co, none⟩) dl dc) (h2 : a.tmps[31]?.getD undef = .int .i64 (i : Int)) (hi : i < dl) : (execOp a.eval (ops7[5]'(by decide))).run Tryz.prog w = .ok (.value (.pointer (some ⟨cb, co + i * 3, none⟩))) w := by
  unfold ops7
  go_simp
theorem x7_6 {a : Act} {w : World} {b o : Nat} {v0 v1 v2 : Value} (h : a.tmps[32]?.getD undef = .pointer (some ⟨b, o, none⟩)) (c0 : w.cell? ⟨b, o, none⟩ = some v0) (c1 : w.cell? ⟨b, o + 1, none⟩ = some v1) (c2 : w.cell? ⟨b, o + 2, none⟩ = some v2) : (execOp a.eval (ops7[6]'(by decide))).run Tryz.prog w = .ok (.value (.agg #[v0, v1, v2])) w := by
  unfold ops7
  go_simp
theorem x7_7 {a : Act} {w : World} {M : Nat} {v : Value} (h : a.tmps[6]?.getD undef = .pointer (some ⟨M, 0, none⟩)) (c : w.cell? ⟨M, 0, none⟩ = some v) : (execOp a.eval (ops7[7]'(by decide))).run Tryz.prog w = .ok (.value v) w := by
  unfold ops7
  go_simp
theorem x7_8 {a : Act} (w : World) {v : Value} (h : a.tmps[8]?.getD undef = v) : (execOp a.eval (ops7[8]'(by decide))).run Tryz.prog w = .ok (.value v) w := by
  unfold ops7
  go_simp
theorem x7_9 {a : Act} (w : World) {S n c i : Nat} (h : a.tmps[34]?.getD undef = .slice (some ⟨S, 0, none⟩) n c) (h2 : a.tmps[35]?.getD undef = .int .i64 (i : Int)) (hi : i < n) : (execOp a.eval (ops7[9]'(by decide))).run Tryz.prog w = .ok (.value (.pointer (some ⟨S, i * 202, none⟩))) w := by
  unfold ops7
  go_simp
theorem x7_10 {a : Act} {w : World} {S o : Nat} {A : List Value} (h : a.tmps[36]?.getD undef = .pointer (some ⟨S, o, none⟩)) (hr : w.rangeAt S o A) (hz : (Tryz.prog.info? 90).map (·.size) = some A.length) : (execOp a.eval (ops7[10]'(by decide))).run Tryz.prog w = .ok (.value (.agg A.toArray)) w := by
  have h1 := run_loadAt_mid (P := Tryz.prog) w S o 90 A _ hr Tryz.underlying90 rfl hz
  have e : a.eval (.tmp 36) = .pointer (some ⟨S, o, none⟩) := by simp [Act.eval, h]
  unfold ops7
  simp only [List.getElem_toArray, List.getElem_cons_succ, List.getElem_cons_zero, execOp, e, Sem.run_bind, h1, Result.andThen_ok, Sem.run_pure]
theorem x7_11 {a : Act} (w : World) {v0 v1 v2 v3 : Value} (h0 : a.tmps[27]?.getD undef = v0) (h1 : a.tmps[28]?.getD undef = v1) (h2 : a.tmps[33]?.getD undef = v2) (h3 : a.tmps[37]?.getD undef = v3) : (execOp a.eval (ops7[11]'(by decide))).run Tryz.prog w = .ok (.enter 46 #[v0, v1, v2, v3]) w := by
  unfold ops7
  go_simp
theorem x7_12 {a : Act} (w : World) {v : Value} (h : a.tmps[38]?.getD undef = v) : (execOp a.eval (ops7[12]'(by decide))).run Tryz.prog w = .ok (.value v) w := by
  unfold ops7
  go_simp
theorem x7_13 {a : Act} (w : World) {u v : Value} (h : a.tmps[26]?.getD undef = .tuple #[u, v]) : (execOp a.eval (ops7[13]'(by decide))).run Tryz.prog w = .ok (.value u) w := by
  unfold ops7
  go_simp
theorem x7_14 {a : Act} (w : World) {u v : Value} (h : a.tmps[26]?.getD undef = .tuple #[u, v]) : (execOp a.eval (ops7[14]'(by decide))).run Tryz.prog w = .ok (.value v) w := by
  unfold ops7
  go_simp
theorem x7_15 {a : Act} (w : World) : (execOp a.eval (ops7[15]'(by decide))).run Tryz.prog w = .ok (.value (.pointer (some ⟨w.heap.size, 0, none⟩))) (w.alloc (.cells Tryz.zeroCells90 90)) := by
  unfold ops7
  go_simp
theorem x7_16 {a : Act} {w : World} {S : Nat} {R : List Value} {arr : Array Value} (h : a.tmps[9]?.getD undef = .pointer (some ⟨S, 0, none⟩)) (h2 : a.tmps[39]?.getD undef = .agg R.toArray) (hb : w.heap[S]? = some (.cells arr 90)) (hs : arr.size = 202) (hl : R.length = 202) (h1 : ∀ v ∈ R, v.oneCell' = true) : (execOp a.eval (ops7[16]'(by decide))).run Tryz.prog w = .ok .skip (w.setCells S 0 R) := by
  have e : a.eval (.tmp 9) = .pointer (some ⟨S, 0, none⟩) := by simp [Act.eval, h]
  have e2 : a.eval (.tmp 39) = .agg R.toArray := by simp [Act.eval, h2]
  have ht : w.there S 0 R.toArray.size := fun j hj => by
    have hj2 : 0 + j < arr.size := by simp at hj; omega
    refine ⟨?_, by simp [World.frozen?, hb]⟩
    simp only [World.cell?, hb]
    rw [Array.getElem?_eq_getElem hj2]
    rfl
  have hz : (Tryz.prog.info? 90).map (·.size) = some R.toArray.size := by rw [List.size_toArray, hl]; kernel_rfl
  have h3 := run_storeAt_mid (P := Tryz.prog) w S 0 90 R.toArray ht hz (all_oneCell_toArray h1)
  unfold ops7
  simp only [List.getElem_toArray, List.getElem_cons_succ, List.getElem_cons_zero, execOp, e, e2, Sem.run_bind, h3, Result.andThen_ok, Sem.run_pure]
theorem x7_17 {a : Act} (w : World) {v : Value} (h : a.tmps[40]?.getD undef = v) : (execOp a.eval (ops7[17]'(by decide))).run Tryz.prog w = .ok (.value v) w := by
  unfold ops7
  go_simp
theorem take7 {T : World → Prop} {K : Act → World → Prop} {i : Nat} {o : Oper} {v : Value} {d fuel : Nat} {l : Array Bool} {a : Act} {w : World} (hi : ops7[i]? = some o) (hd : o.dst = some d) (hf : Region.free .any ops7 l i = true) (hr : (Region.ready .any ops7 l).contains i = true) (hg : o.guard = none) (hx : ∀ wx, T wx → (execOp a.eval o).run Tryz.prog wx = .ok (.value v) wx) (hT : T w) (h : wpAnyH Tryz.prog .any ops7 (Ends K) T fuel (l.setIfInBounds i true) (a.put (some d) v) w) : wpAnyH Tryz.prog .any ops7 (Ends K) T (fuel + 1) l a w :=
  wpAnyH_take hi (by kernel_rfl) hf hr (fun _ _ _ h => h) (Or.inl ⟨by simp [Region.wanted, hg], hx⟩) hT (by rw [hd]; exact h)
/-- The frame behind the region. -/
def fr7 (a0 : Act) (F cb co S i : Nat) (cp : Option Addr) (cn cc : Nat) (g : Int) (fp : Option Addr) (fn fc : Nat) (k0 : Int) (rp : Option Addr) (rl rc dl dc : Nat) (x0 x1 x2 : Int) (n : Nat) (A : List Value) (R : List Value) (b : Bool) (Mb : Nat) : Act := ((((((((((((((((((((((((((((((((((a0 : Act).put (some 27) (.agg #[.slice cp cn cc, .int .i64 g, .slice fp fn fc])) : Act).put (some 28) (.agg #[.int .i64 k0, .slice rp rl rc, .slice (some ⟨cb, co, none⟩) dl dc])) : Act).put (some 29) (.pointer (some ⟨F, 2, none⟩))) : Act).put (some 30) (.slice (some ⟨cb, co, none⟩) dl dc)) : Act).put (some 31) (.int .i64 (i : Int))) : Act).put (some 32) (.pointer (some ⟨cb, co + i * 3, none⟩))) : Act).put (some 33) (.agg #[.int .i64 x0, .int .i64 x1, .int .i64 x2])) : Act).put (some 34) (.slice (some ⟨S, 0, none⟩) n n)) : Act).put (some 35) (.int .i64 (i : Int))) : Act).put (some 36) (.pointer (some ⟨S, i * 202, none⟩))) : Act).put (some 37) (.agg A.toArray)) : Act).put (some 38) (.tuple #[.agg R.toArray, .bool b])) : Act).put (some 26) (.tuple #[.agg R.toArray, .bool b])) : Act).put (some 39) (.agg R.toArray)) : Act).put (some 40) (.bool b)) : Act).put (some 9) (.pointer (some ⟨Mb, 0, none⟩))) : Act).put (some 10) (.bool b))
theorem put_none (a : Act) (v : Value) : a.put none v = a := rfl
theorem put_comm (a : Act) {i j : Nat} (u v : Value) (h : i ≠ j) : (a.put (some i) u).put (some j) v = (a.put (some j) v).put (some i) u := by
  simp only [Act.put]
  rw [Array.setIfInBounds_comm _ _ h]
theorem blk_put {w : World} {S : Nat} {arr : Array Value} {R : List Value} {ty : TypeId} (h : w.heap[S]? = some (.cells arr ty)) (hs : arr.size = 202) (hl : R.length = 202) : (w.setCells S 0 R).heap[S]? = some (.cells R.toArray ty) := by
  obtain ⟨arr', h1, h2, h3⟩ := heap_setCells S _ R 0 w arr h
  have e : arr' = R.toArray := by
    apply Array.ext'
    apply List.ext_getElem?
    intro k
    have := h3 k
    rw [Array.getElem?_toList, this]
    by_cases hk : k < 202
    · rw [if_pos (by omega), Nat.sub_zero, List.toList_toArray]
    · rw [if_neg (by omega), Array.getElem?_eq_none (by omega), List.toList_toArray, List.getElem?_eq_none (by omega)]
  rw [h1, e]
theorem kc {w0 wx : World} {b o : Nat} {v : Value} (hT : Below w0.heap.size w0 wx) (hb : b < w0.heap.size) (h : w0.cell? ⟨b, o, none⟩ = some v) : wx.cell? ⟨b, o, none⟩ = some v := cell_keepD hT hb h
set_option maxRecDepth 20000 in
set_option maxHeartbeats 1600000 in
theorem reg7 {a0 : Act} {w0 : World} {K : Act → World → Prop} {Pr : List Value → Bool → Prop} (lr nr : Nat) (M F cb co S Vb i : Nat) (cp : Option Addr) (cn cc : Nat) (g : Int) (fp : Option Addr) (fn fc : Nat) (k0 : Int) (rp : Option Addr) (rl rc dl dc : Nat) (x0 x1 x2 : Int) (n : Nat) (A : List Value) (hz : a0.tmps.size = 82) (h2 : sl a0 2 = .pointer (some ⟨M, 0, none⟩)) (h3 : sl a0 3 = .pointer (some ⟨F, 0, none⟩)) (h6 : sl a0 6 = .pointer (some ⟨Vb, 0, none⟩)) (h8 : sl a0 8 = .int .i64 (i : Int)) (hid : i < dl) (hin : i < n)
    (hM0 : M < w0.heap.size) (hF0 : F < w0.heap.size) (hcb : cb < w0.heap.size) (hV0 : Vb < w0.heap.size) (hS0 : S < w0.heap.size)
    (c0 : w0.cell? ⟨M, 0, none⟩ = some (.slice cp cn cc)) (c1 : w0.cell? ⟨M, 1, none⟩ = some (.int .i64 g)) (c2 : w0.cell? ⟨M, 2, none⟩ = some (.slice fp fn fc))
    (d0 : w0.cell? ⟨F, 0, none⟩ = some (.int .i64 k0)) (d1 : w0.cell? ⟨F, 1, none⟩ = some (.slice rp rl rc)) (d2 : w0.cell? ⟨F, 2, none⟩ = some (.slice (some ⟨cb, co, none⟩) dl dc))
    (e0 : w0.cell? ⟨cb, co + i * 3, none⟩ = some (.int .i64 x0)) (e1 : w0.cell? ⟨cb, co + i * 3 + 1, none⟩ = some (.int .i64 x1)) (e2 : w0.cell? ⟨cb, co + i * 3 + 2, none⟩ = some (.int .i64 x2))
    (v0 : w0.cell? ⟨Vb, 0, none⟩ = some (.slice (some ⟨S, 0, none⟩) n n)) (hr : w0.rangeAt S (i * 202) A) (hAz : (Tryz.prog.info? 90).map (·.size) = some A.length)
    (hC : ∀ wx, Below w0.heap.size w0 wx → Calls Tryz.prog 46 #[(.agg #[.slice cp cn cc, .int .i64 g, .slice fp fn fc]), (.agg #[.int .i64 k0, .slice rp rl rc, .slice (some ⟨cb, co, none⟩) dl dc]), (.agg #[.int .i64 x0, .int .i64 x1, .int .i64 x2]), .agg A.toArray] wx fun e w' => ∃ R b, e = .returned (.tuple #[.agg R.toArray, .bool b]) ∧ R.length = 202 ∧ (∀ v ∈ R, v.oneCell' = true) ∧ Below wx.heap.size wx w' ∧ Pr R b)
    (hK : ∀ R b Mb wf, Pr R b → Below w0.heap.size w0 wf → w0.heap.size ≤ Mb → wf.heap[Mb]? = some (.cells R.toArray 90) → K (fr7 a0 F cb co S i cp cn cc g fp fn fc k0 rp rl rc dl dc x0 x1 x2 n A R b Mb) wf) :
    (Code.region 7 ops7 true).wpIn (Fence.wide.inRound lr) nr Tryz.prog (Ends K) a0 w0 := by
  refine region_round lr nr (S := fun wx => Below w0.heap.size w0 wx) (by kernel_rfl) (fun j o hj c => ?_) (fun h => by obtain ⟨a, w, h⟩ := h; exact h) ?_
  · have hall : ops7.all (fun o => match o.op with | .defer _ => false | _ => true) = true := by kernel_rfl
    have h1 := (Array.all_eq_true_iff_forall_mem.1 hall) o (Array.mem_of_getElem? hj)
    intro e
    rw [e] at h1
    cases h1
  have hS : Below w0.heap.size w0 w0.drew := below_drewM (Below.refl _ _)
  change wpAnyH _ _ _ _ _ _ _ _ w0.drew
  refine take7 (i := 0) (o := ops7[0]'(by decide)) (d := 27) (v := (.agg #[.slice cp cn cc, .int .i64 g, .slice fp fn fc])) rfl rfl (by kernel_rfl) (by kernel_rfl) rfl (fun wx hT => x7_0 h2 (kc hT hM0 c0) (kc hT hM0 c1) (kc hT hM0 c2)) hS ?_
  refine take7 (i := 1) (o := ops7[1]'(by decide)) (d := 28) (v := (.agg #[.int .i64 k0, .slice rp rl rc, .slice (some ⟨cb, co, none⟩) dl dc])) rfl rfl (by kernel_rfl) (by kernel_rfl) rfl (fun wx hT => x7_1 (show sl _ 3 = _ from by simp [slp, hz, h3]) (kc hT hF0 d0) (kc hT hF0 d1) (kc hT hF0 d2)) hS ?_
  refine take7 (i := 2) (o := ops7[2]'(by decide)) (d := 29) (v := (.pointer (some ⟨F, 2, none⟩))) rfl rfl (by kernel_rfl) (by kernel_rfl) rfl (fun wx hT => x7_2 wx (show sl _ 3 = _ from by simp [slp, szp, hz, h3])) hS ?_
  refine take7 (i := 3) (o := ops7[3]'(by decide)) (d := 30) (v := (.slice (some ⟨cb, co, none⟩) dl dc)) rfl rfl (by kernel_rfl) (by kernel_rfl) rfl (fun wx hT => x7_3 (show sl _ 29 = _ from by simp [slp, szp, hz]) (kc hT hF0 d2)) hS ?_
  refine take7 (i := 4) (o := ops7[4]'(by decide)) (d := 31) (v := (.int .i64 (i : Int))) rfl rfl (by kernel_rfl) (by kernel_rfl) rfl (fun wx hT => x7_4 wx (show sl _ 8 = _ from by simp [slp, szp, hz, h8])) hS ?_
  refine take7 (i := 5) (o := ops7[5]'(by decide)) (d := 32) (v := (.pointer (some ⟨cb, co + i * 3, none⟩))) rfl rfl (by kernel_rfl) (by kernel_rfl) rfl (fun wx hT => x7_5 (dc := dc) wx (show sl _ 30 = _ from by simp [slp, szp, hz]) (show sl _ 31 = _ from by simp [slp, szp, hz]) hid) hS ?_
  refine take7 (i := 6) (o := ops7[6]'(by decide)) (d := 33) (v := (.agg #[.int .i64 x0, .int .i64 x1, .int .i64 x2])) rfl rfl (by kernel_rfl) (by kernel_rfl) rfl (fun wx hT => x7_6 (show sl _ 32 = _ from by simp [slp, szp, hz]) (kc hT hcb e0) (kc hT hcb e1) (kc hT hcb e2)) hS ?_
  refine take7 (i := 7) (o := ops7[7]'(by decide)) (d := 34) (v := (.slice (some ⟨S, 0, none⟩) n n)) rfl rfl (by kernel_rfl) (by kernel_rfl) rfl (fun wx hT => x7_7 (show sl _ 6 = _ from by simp [slp, szp, hz, h6]) (kc hT hV0 v0)) hS ?_
  refine take7 (i := 8) (o := ops7[8]'(by decide)) (d := 35) (v := (.int .i64 (i : Int))) rfl rfl (by kernel_rfl) (by kernel_rfl) rfl (fun wx hT => x7_8 wx (show sl _ 8 = _ from by simp [slp, szp, hz, h8])) hS ?_
  refine take7 (i := 9) (o := ops7[9]'(by decide)) (d := 36) (v := (.pointer (some ⟨S, i * 202, none⟩))) rfl rfl (by kernel_rfl) (by kernel_rfl) rfl (fun wx hT => x7_9 (c := n) wx (show sl _ 34 = _ from by simp [slp, szp, hz]) (show sl _ 35 = _ from by simp [slp, szp, hz]) hin) hS ?_
  refine take7 (i := 10) (o := ops7[10]'(by decide)) (d := 37) (v := (.agg A.toArray)) rfl rfl (by kernel_rfl) (by kernel_rfl) rfl (fun wx hT => x7_10 (show sl _ 36 = _ from by simp [slp, szp, hz]) (fun j u hu => kc hT hS0 (hr j u hu)) hAz) hS ?_
  refine wpAnyH_all (rs := [11, 15]) (by kernel_rfl) (by decide) (fun j hj => ?_)
  rcases (show j = 11 ∨ j = 15 by simpa using hj) with rfl | rfl
  · refine wpOp_step (o := ops7[11]'(by decide)) rfl (fun K' hK' => ?_)
    rw [if_pos (by simp [Region.wanted, ops7])]
    unfold Oper.wp
    rw [x7_11 (v0 := (.agg #[.slice cp cn cc, .int .i64 g, .slice fp fn fc])) (v1 := (.agg #[.int .i64 k0, .slice rp rl rc, .slice (some ⟨cb, co, none⟩) dl dc])) (v2 := (.agg #[.int .i64 x0, .int .i64 x1, .int .i64 x2])) (v3 := (.agg A.toArray)) w0.drew (show sl _ 27 = _ from by simp [slp, szp, hz]) (show sl _ 28 = _ from by simp [slp, szp, hz]) (show sl _ 33 = _ from by simp [slp, szp, hz]) (show sl _ 37 = _ from by simp [slp, szp, hz])]
    refine (hC w0.drew hS).mono ?_
    rintro e w' ⟨R, b, rfl, hRl, hR1, hbw, hpr⟩
    have hS1 : Below w0.heap.size w0 w' := hS.trans (hbw.mono hS.size)
    refine hK' _ _ ⟨hS1, ?_⟩
    show wpAnyH Tryz.prog .any ops7 (Ends K) _ _ _ (Act.put _ (some 38) _) w'
    refine take7 (i := 12) (o := ops7[12]'(by decide)) (d := 26) (v := (.tuple #[.agg R.toArray, .bool b])) rfl rfl (by kernel_rfl) (by kernel_rfl) rfl (fun wx hT => x7_12 wx (show sl _ 38 = _ from by simp [slp, szp, hz])) hS1 ?_
    refine take7 (i := 13) (o := ops7[13]'(by decide)) (d := 39) (v := (.agg R.toArray)) rfl rfl (by kernel_rfl) (by kernel_rfl) rfl (fun wx hT => x7_13 (v := .bool b) wx (show sl _ 26 = _ from by simp [slp, szp, hz])) hS1 ?_
    refine take7 (i := 14) (o := ops7[14]'(by decide)) (d := 40) (v := (.bool b)) rfl rfl (by kernel_rfl) (by kernel_rfl) rfl (fun wx hT => x7_14 (u := .agg R.toArray) wx (show sl _ 26 = _ from by simp [slp, szp, hz])) hS1 ?_
    refine wpAnyH_all (rs := [15]) (by kernel_rfl) (by decide) (fun j hj => ?_)
    obtain rfl : j = 15 := by simpa using hj
    refine wpOp_step (o := ops7[15]'(by decide)) rfl (fun K'' hK'' => ?_)
    rw [if_pos (by simp [Region.wanted, ops7])]
    unfold Oper.wp
    rw [x7_15 w']
    have hS2 : Below w0.heap.size w0 (w'.alloc (.cells Tryz.zeroCells90 90)) := hS1.trans ((below1 _ _).mono hS1.size)
    refine hK'' _ _ ⟨hS2, ?_⟩
    show wpAnyH Tryz.prog .any ops7 (Ends K) _ _ _ (Act.put _ (some 9) _) _
    refine wpAnyH_all (rs := [16]) (by kernel_rfl) (by decide) (fun j hj => ?_)
    obtain rfl : j = 16 := by simpa using hj
    refine wpOp_step (o := ops7[16]'(by decide)) rfl (fun K3 hK3 => ?_)
    rw [if_pos (by simp [Region.wanted, ops7])]
    unfold Oper.wp
    rw [x7_16 (S := w'.heap.size) (R := R) (show sl _ 9 = _ from by simp [slp, szp, hz]) (show sl _ 39 = _ from by simp [slp, szp, hz]) (Go.Deep.blk_alloc_new w' _) (by rw [zeroS]; simp [stG_len]) hRl hR1]
    have hS3 : Below w0.heap.size w0 ((w'.alloc (.cells Tryz.zeroCells90 90)).setCells w'.heap.size 0 R) := Below.setCells hS1.size _ _ _ hS2
    refine hK3 _ _ ⟨hS3, ?_⟩
    show wpAnyH Tryz.prog .any ops7 (Ends K) _ _ _ (Act.put _ none _) _
    rw [put_none]
    refine take7 (i := 17) (o := ops7[17]'(by decide)) (d := 10) (v := (.bool b)) rfl rfl (by kernel_rfl) (by kernel_rfl) rfl (fun wx hT => x7_17 wx (show sl _ 40 = _ from by simp [slp, szp, hz])) hS3 ?_
    refine wpAnyH_done (by kernel_rfl) ?_ _
    exact hK R b _ _ hpr hS3 hS1.size (blk_put (Go.Deep.blk_alloc_new w' _) (by rw [zeroS]; simp [stG_len]) hRl)
  · refine wpOp_step (o := ops7[15]'(by decide)) rfl (fun K'' hK'' => ?_)
    rw [if_pos (by simp [Region.wanted, ops7])]
    unfold Oper.wp
    rw [x7_15 w0.drew]
    have hS2 : Below w0.heap.size w0 (w0.drew.alloc (.cells Tryz.zeroCells90 90)) := hS.trans ((below1 _ _).mono hS.size)
    refine hK'' _ _ ⟨hS2, ?_⟩
    show wpAnyH Tryz.prog .any ops7 (Ends K) _ _ _ (Act.put _ (some 9) _) _
    refine wpAnyH_all (rs := [11]) (by kernel_rfl) (by decide) (fun j hj => ?_)
    obtain rfl : j = 11 := by simpa using hj
    refine wpOp_step (o := ops7[11]'(by decide)) rfl (fun K' hK' => ?_)
    rw [if_pos (by simp [Region.wanted, ops7])]
    unfold Oper.wp
    rw [x7_11 (v0 := (.agg #[.slice cp cn cc, .int .i64 g, .slice fp fn fc])) (v1 := (.agg #[.int .i64 k0, .slice rp rl rc, .slice (some ⟨cb, co, none⟩) dl dc])) (v2 := (.agg #[.int .i64 x0, .int .i64 x1, .int .i64 x2])) (v3 := (.agg A.toArray)) (w0.drew.alloc (.cells Tryz.zeroCells90 90)) (show sl _ 27 = _ from by simp [slp, szp, hz]) (show sl _ 28 = _ from by simp [slp, szp, hz]) (show sl _ 33 = _ from by simp [slp, szp, hz]) (show sl _ 37 = _ from by simp [slp, szp, hz])]
    refine (hC (w0.drew.alloc (.cells Tryz.zeroCells90 90)) hS2).mono ?_
    rintro e w' ⟨R, b, rfl, hRl, hR1, hbw, hpr⟩
    have hS1 : Below w0.heap.size w0 w' := hS2.trans (hbw.mono hS2.size)
    refine hK' _ _ ⟨hS1, ?_⟩
    show wpAnyH Tryz.prog .any ops7 (Ends K) _ _ _ (Act.put _ (some 38) _) w'
    refine take7 (i := 12) (o := ops7[12]'(by decide)) (d := 26) (v := (.tuple #[.agg R.toArray, .bool b])) rfl rfl (by kernel_rfl) (by kernel_rfl) rfl (fun wx hT => x7_12 wx (show sl _ 38 = _ from by simp [slp, szp, hz])) hS1 ?_
    refine take7 (i := 13) (o := ops7[13]'(by decide)) (d := 39) (v := (.agg R.toArray)) rfl rfl (by kernel_rfl) (by kernel_rfl) rfl (fun wx hT => x7_13 (v := .bool b) wx (show sl _ 26 = _ from by simp [slp, szp, hz])) hS1 ?_
    refine take7 (i := 14) (o := ops7[14]'(by decide)) (d := 40) (v := (.bool b)) rfl rfl (by kernel_rfl) (by kernel_rfl) rfl (fun wx hT => x7_14 (u := .agg R.toArray) wx (show sl _ 26 = _ from by simp [slp, szp, hz])) hS1 ?_
    have hblk : w'.heap[w0.heap.size]? = some (.cells Tryz.zeroCells90 90) := (hbw.block w0.heap.size (by simp)).trans (Go.Deep.blk_alloc_new w0.drew _)
    refine wpAnyH_all (rs := [16]) (by kernel_rfl) (by decide) (fun j hj => ?_)
    obtain rfl : j = 16 := by simpa using hj
    refine wpOp_step (o := ops7[16]'(by decide)) rfl (fun K3 hK3 => ?_)
    rw [if_pos (by simp [Region.wanted, ops7])]
    unfold Oper.wp
    rw [x7_16 (S := w0.heap.size) (R := R) (show sl _ 9 = _ from by simp [slp, szp, hz]) (show sl _ 39 = _ from by simp [slp, szp, hz]) hblk (by rw [zeroS]; simp [stG_len]) hRl hR1]
    have hS3 : Below w0.heap.size w0 (w'.setCells w0.heap.size 0 R) := Below.setCells (Nat.le_refl _) _ _ _ hS1
    refine hK3 _ _ ⟨hS3, ?_⟩
    show wpAnyH Tryz.prog .any ops7 (Ends K) _ _ _ (Act.put _ none _) _
    rw [put_none]
    refine take7 (i := 17) (o := ops7[17]'(by decide)) (d := 10) (v := (.bool b)) rfl rfl (by kernel_rfl) (by kernel_rfl) rfl (fun wx hT => x7_17 wx (show sl _ 40 = _ from by simp [slp, szp, hz])) hS3 ?_
    refine wpAnyH_done (by kernel_rfl) ?_ _
    have hfin := hK R b _ _ hpr hS3 (Nat.le_refl _) (blk_put hblk (by rw [zeroS]; simp [stG_len]) hRl)
    unfold fr7 at hfin
    rw [put_comm _ (i := 40) (j := 9) _ _ (by decide), put_comm _ (i := 39) (j := 9) _ _ (by decide), put_comm _ (i := 26) (j := 9) _ _ (by decide), put_comm _ (i := 38) (j := 9) _ _ (by decide)] at hfin
    exact hfin
end Vf
end Go.Proofs.YtdjdhjciealfhaaGreatDoor
