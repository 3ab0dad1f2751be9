import Derived.Test.YtdjdhjciealfhaaGreatDoorKs
import Derived.Test.YtdjdhjciealfhaaGreatDoorKt
namespace Go.Proofs.YtdjdhjciealfhaaGreatDoor
open Go.RowKit Go.Shelf Ch1
namespace Vf
theorem nexts_le {m : Md} {f : Fn} {x : In} {i y : Nat} (h : InsOk m f x) (hi : i < f.code.length) (hy : y ∈ nexts x i) : y ≤ f.code.length := by
  unfold nexts at hy
  have hb := h.2.2
  by_cases h1 : x.op = 10 ∨ x.op = 11
  · rw [if_pos h1] at hy; cases hy
  rw [if_neg h1] at hy
  by_cases h2 : x.op = 12
  · rw [if_pos h2] at hy
    have e := List.mem_singleton.1 hy
    rcases hb with hb | hb
    · omega
    · have := hb.2.2.2
      simp [bnd, h2] at this
      omega
  rw [if_neg h2] at hy
  by_cases h3 : x.op = 13
  · rw [if_pos h3] at hy
    rcases List.mem_cons.1 hy with e | hy
    · omega
    · have e := List.mem_singleton.1 hy
      rcases hb with hb | hb
      · omega
      · have := hb.2.2.2
        simp [bnd, h3] at this
        omega
  · rw [if_neg h3] at hy
    have e := List.mem_singleton.1 hy
    omega
theorem run_putL {w : World} {S : Nat} {arr : Array Value} {R : List Value} (h : w.heap[S]? = some (.cells arr 90)) (hs : arr.size = 202) (hl : R.length = 202) (h1 : ∀ v ∈ R, v.oneCell' = true) : (storeCells ⟨S, 0, none⟩ R).run Tryz.prog w = .ok () (w.setCells S 0 R) := by
  have := run_storeCells_cells (P := Tryz.prog) S 0 R 0 w (fun j hj => by rw [hl] at hj; simp [World.cell?, h, hs, hj]) (fun j _ => by simp [World.frozen?, h]) h1
  exact this
theorem blk_range {w : World} {k : Nat} {L : List Value} {t : TypeId} (h : w.heap[k]? = some (.cells L.toArray t)) : w.rangeAt k 0 L := fun j v hv => by
  simp only [World.cell?, h, Nat.zero_add]
  simpa using hv
/-- Inside a round, as it lies: the ways pre have been gone. -/
def INn (w W5 : World) (m : Md) (f : Fn) (dl Lb Bp Vb : Nat) (mv fv : Array Value) (x M B0 b Mb : Nat) (s : List Nat) (R : List Value) (pre : List Nat) (W : World) : Prop := ∃ σ v xs, Fx w W dl Lb Bp Vb mv fv ∧ Sp W dl (w.heap.size + 1 + 1 + 1 + 1) σ ∧ Wl W w.heap.size Lb v xs ∧ Rd m f dl x M s pre σ xs ∧ W.heap[Mb]? = some (.cells R.toArray 90) ∧ (∀ k, v.ownBlock = some k → k < b ∨ b + 1 + 1 + 1 ≤ k) ∧ b + 1 + 1 + 1 ≤ W.heap.size ∧ KeepsFrom B0 W5 W
theorem INn.own {α : Type} {w W5 W7 : World} {m : Md} {f : Fn} {dl Lb Bp Vb : Nat} {mv fv : Array Value} {x M B0 b Mb : Nat} {s : List Nat} {R : List Value} (vl : α → Nat) (hB : w.heap.size ≤ W7.heap.size) (h5 : W5.heap.size ≤ W7.heap.size) : OwnFrom W7.heap.size (fun (pre : List α) => INn w W5 m f dl Lb Bp Vb mv fv x M B0 b Mb s R (pre.map vl)) := fun pre A C row hs hg hr => by
  obtain ⟨σ, v, xs, hF, hS, hW, hR, hM, ho, hz, hk⟩ := hs
  have ha := KA.grown hg (fun r e => (hr r e).2)
  exact ⟨σ, v, xs, hF.ka ha (ownFrom_below (β := Unit) (Nat.le_refl _) hB () A C row hF.bel hg hr), hS.ka ha, hW.ka ha, hR, ha _ _ _ hM, ho, Nat.le_trans hz hg.size, ownFrom_keepsFrom (β := Unit) h5 () A C row hk hg hr⟩
theorem IXn.own {α : Type} {w W5 W7 : World} {m : Md} {f : Fn} {B0 : Nat} (hB : w.heap.size ≤ W7.heap.size) (h5 : W5.heap.size ≤ W7.heap.size) (c : Code) : OwnFrom W7.heap.size (fun (_ : List α) W => IXx w m f c W ∧ KeepsFrom B0 W5 W) := fun _ A C row hs hg hr => ⟨IXx.own hB c A C row hs.1 hg hr, ownFrom_keepsFrom (β := Unit) h5 () A C row hs.2 hg hr⟩
def kR (r : Option (List Nat)) : Bool := r.isSome
def kC (r : Option (List Nat)) : Nat := (r.getD []).length
def kT (r : Option (List Nat)) (i : Nat) : Nat := (r.getD []).getD i 0
theorem stO_eq (r : Option (List Nat)) : stO r = stG (kR r) (kC r) (kT r) := by
  cases r with
  | none => exact stG_congr (fun i _ => by simp [kT])
  | some s => rfl
theorem sets_range {w : World} {k : Nat} {r : Bool} {c : Nat} {t : Nat → Nat} {ty : TypeId} (h : w.heap[k]? = some (.cells (stG r c t).toArray ty)) : w.rangeAt k 2 (setV t) := fun j v hv => by
  have hj : j < 200 := by rw [← setV_len t]; exact (List.getElem?_eq_some_iff.1 hv).1
  rw [setV_get t hj] at hv
  cases hv
  have := stG_slot r c t hj
  simp only [World.cell?, h]
  simpa using this
theorem size88 (t : Nat → Nat) : (Tryz.prog.info? 88).map (·.size) = some (setV t).length := by rw [setV_len]; kernel_rfl
/-- What joined makes, as the states take it. -/
theorem join_st {r : Option (List Nat)} {o : List Nat} {r3 : Bool} {c3 : Nat} {t3 : Nat → Nat} {b : Bool} (h1 : kR r = false → b = true ∧ r3 = true ∧ c3 = o.length ∧ t3 = fun i => o.getD i 0) (h2 : kR r = true → (b = true ↔ kC r = o.length) ∧ (b = true → r3 = true ∧ c3 = kC r ∧ ∀ i, i < 200 → t3 i = if i < kC r then kT r i ||| o.getD i 0 else kT r i)) : (b = true → (∀ q, r = some q → q.length = o.length) ∧ stG r3 c3 t3 = stO (some (joinO r o))) ∧ (b = false → ∃ q, r = some q ∧ q.length ≠ o.length) := by
  cases r with
  | none =>
    obtain ⟨hb, e1, e2, e3⟩ := h1 rfl
    refine ⟨fun _ => ⟨fun q e => (by cases e), ?_⟩, fun e => (by rw [hb] at e; cases e)⟩
    rw [e1, e2, e3]
    rfl
  | some q =>
    obtain ⟨k1, k2⟩ := h2 rfl
    refine ⟨fun hb => ?_, fun hb => ⟨q, rfl, fun e => ?_⟩⟩
    · have hl : q.length = o.length := k1.1 hb
      obtain ⟨e1, e2, e3⟩ := k2 hb
      refine ⟨fun q' e => (by cases e; exact hl), ?_⟩
      show _ = stG true (joinL q o).length (fun i => (joinL q o).getD i 0)
      rw [e1, e2, joinL_len]
      refine stG_congr (fun i hi => ?_)
      rw [e3 i hi, joinL_get q o hl]
      show (if i < q.length then q.getD i 0 ||| o.getD i 0 else q.getD i 0) = _
      by_cases hq : i < q.length
      · rw [if_pos hq]
      · rw [if_neg hq, getD_none (s := q) (by omega), getD_none (s := o) (by omega)]
        rfl
    · have := k1.2 e
      rw [hb] at this
      cases this
/-- The way out of a function that is not safe. -/
theorem fail_ix {w W5 W8 : World} {m : Md} {f : Fn} {dl Lb Bp Vb : Nat} {mv fv : Array Value} {B0 : Nat} (hF : Fx w W8 dl Lb Bp Vb mv fv) (hn : ¬ Safe m f) (hk : KeepsFrom B0 W5 W8) : IXx w m f .ret ((W8.setCell ⟨w.heap.size + 1 + 1, 0, none⟩ (.slice none 0 0)).setCell ⟨w.heap.size + 1 + 1 + 1, 0, none⟩ (.bool false)) ∧ KeepsFrom B0 W5 ((W8.setCell ⟨w.heap.size + 1 + 1, 0, none⟩ (.slice none 0 0)).setCell ⟨w.heap.size + 1 + 1 + 1, 0, none⟩ (.bool false)) ∧ Go.KeepsOthers W8 ((W8.setCell ⟨w.heap.size + 1 + 1, 0, none⟩ (.slice none 0 0)).setCell ⟨w.heap.size + 1 + 1 + 1, 0, none⟩ (.bool false)) := by
  have hko := (Go.KeepsOthers.setCell W8 ⟨w.heap.size + 1 + 1, 0, none⟩ (.slice none 0 0)).trans (Go.KeepsOthers.setCell _ ⟨w.heap.size + 1 + 1 + 1, 0, none⟩ (.bool false))
  refine ⟨⟨rfl, hn, ?_, ?_, ((hF.bel.setCell (by simp only; omega) _).setCell (by simp only; omega) _)⟩, hk.trans (hko.from _), hko⟩
  · rw [Below.heap_setCell _ _ _ _ (by simp only; omega)]
    simp [World.setCell, Array.getElem?_modify, hF.r0]
  · have h1 : (W8.setCell ⟨w.heap.size + 1 + 1, 0, none⟩ (.slice none 0 0)).heap[w.heap.size + 1 + 1 + 1]? = some (.cells #[.bool false] 4) := by rw [Below.heap_setCell _ _ _ _ (by simp only; omega)]; exact hF.r1
    generalize W8.setCell ⟨w.heap.size + 1 + 1, 0, none⟩ (.slice none 0 0) = V at h1 ⊢
    simp [World.setCell, Array.getElem?_modify, h1]
end Vf
end Go.Proofs.YtdjdhjciealfhaaGreatDoor
namespace Go.Proofs.YtdjdhjciealfhaaGreatDoor
open Go.RowKit Go.Shelf Ch1
namespace Vf
theorem Wl.sets {W : World} {B Lb S o : Nat} {v : Value} {xs : List Nat} {arr : Array Value} (h : Wl W B Lb v xs) (hS : W.heap[S]? = some (.cells arr 90)) (vs : List Value) : Wl (W.setCells S o vs) B Lb v xs := by
  have hne : ∀ {k : Nat} {a : Array Value} {t : TypeId}, W.heap[k]? = some (.cells a t) → t ≠ 90 → k ≠ S := fun hk ht e => by rw [e, hS] at hk; cases hk; exact ht rfl
  refine ⟨(heap_setCells_ne S (hne h.box (by decide)) vs o W).trans h.box, owns_of_heap h.own (fun k e => ?_), h.srt⟩
  obtain ⟨_, cur, hc⟩ := owns_lt h.own k e
  exact heap_setCells_ne S (hne hc (by decide)) vs o W
/-- A way is gone and its state has grown: what lies behind the store and the work list's add. -/
theorem INn.grow {w W5 W w13 : World} {m : Md} {f : Fn} {dl Lb Bp Vb : Nat} {mv fv : Array Value} {x M B0 b Mb cb y : Nat} {s o : List Nat} {Rl : List Value} {pr : List Nat} {σ : States} {v : Value} {xs : List Nat} {e : Ending}
    (hF : Fx w W dl Lb Bp Vb mv fv) (hS : Sp W dl (w.heap.size + 1 + 1 + 1 + 1) σ) (hW : Wl W w.heap.size Lb v xs) (hR : Rd m f dl x M s pr σ xs) (hM : W.heap[Mb]? = some (.cells Rl.toArray 90)) (hMb : Mb ≠ w.heap.size + 1 + 1 + 1 + 1) (ho : ∀ k, v.ownBlock = some k → k < b ∨ b + 1 + 1 + 1 ≤ k) (hz : b + 1 + 1 + 1 ≤ W.heap.size) (hk : KeepsFrom B0 W5 W) (hLb : Lb < b) (hSb : w.heap.size + 1 + 1 + 1 + 1 < b) (hcb : cb < w.heap.size)
    (hn : f.code.length = dl) (hx : x < dl) (hg : GoodS s) (hst : ∀ τ, OkS m f τ → ∃ t, τ x = some t ∧ Le s t) (hf : fits m f (f.code.getD x in0) s) (hy : y < dl) (hyn : y ∈ nexts (f.code.getD x in0) x) (hoe : o = outOf m f (f.code.getD x in0) s) (hl : ∀ r, σ y = some r → r.length = o.length) (hno : ¬ ∃ r, σ y = some r ∧ joinL r o = r)
    (ha : AdP w.heap.size Lb v xs y (W.setCells (w.heap.size + 1 + 1 + 1 + 1) (y * 202) (stO (some (joinO (σ y) o)))) w13 e) :
    INn w W5 m f dl Lb Bp Vb mv fv x M B0 b Mb s Rl (pr ++ [y]) w13 ∧ Go.KeepsOthers W w13 ∧ KpS [b, b + 1, b + 1 + 1, cb] W w13 := by
  obtain ⟨arr, harr, _⟩ : ∃ arr : Array Value, W.heap[w.heap.size + 1 + 1 + 1 + 1]? = some (.cells arr 90) ∧ True := by obtain ⟨arr, h1, _⟩ := hS; exact ⟨arr, h1, trivial⟩
  obtain ⟨W12, hW12⟩ : ∃ W12, W12 = W.setCells (w.heap.size + 1 + 1 + 1 + 1) (y * 202) (stO (some (joinO (σ y) o))) := ⟨_, rfl⟩
  rw [← hW12] at ha
  have hsz : W12.heap.size = W.heap.size := by rw [hW12, size_setCells]
  have hS12 : Sp W12 dl (w.heap.size + 1 + 1 + 1 + 1) (put σ y o) := by rw [hW12]; exact hS.store hy (some (joinO (σ y) o))
  have hW2 : Wl W12 w.heap.size Lb v xs := by rw [hW12]; exact hW.sets harr _
  have hF2 : Fx w W12 dl Lb Bp Vb mv fv := by rw [hW12]; exact hF.turn (KT.set _ _ _ _) (Below.setCells (by omega) _ _ _ hF.bel)
  have hM2 : W12.heap[Mb]? = some (.cells Rl.toArray 90) := by rw [hW12]; exact (heap_setCells_ne _ hMb _ _ _).trans hM
  have hko2 : Go.KeepsOthers W W12 := by rw [hW12]; exact KeepsOthers.sets harr _
  obtain ⟨_, v', xs', hwl, hmem, hlen, hwf, hbel, hob⟩ := ha
  have hsz13 : W12.heap.size ≤ w13.heap.size := (hbel 0 (Nat.zero_le _) (Nat.zero_le _)).size
  have hko3 := KeepsOthers.wf hW2 hwf hsz13
  have hbw : Below w.heap.size w w13 := hF2.bel.trans (hbel w.heap.size (Nat.le_refl _) hF.lb)
  obtain ⟨arr2, harr2, _⟩ : ∃ arr : Array Value, W12.heap[w.heap.size + 1 + 1 + 1 + 1]? = some (.cells arr 90) ∧ True := by obtain ⟨arr, h1, _⟩ := hS12; exact ⟨arr, h1, trivial⟩
  have kt := KT.wf (S := 0) hW2 hwf
  have kw : ∀ {k : Nat} {a : Array Value} {t : TypeId}, W12.heap[k]? = some (.cells a t) → t ≠ 3 → t ≠ 93 → w13.heap[k]? = some (.cells a t) := fun {k a t} h1 h2 h3 => by
    refine (hwf k (Array.getElem?_eq_some_iff.1 h1).1 (fun e => ?_) (owns_ne hW2.own h1 h2)).trans h1
    rw [e, hW2.box] at h1
    cases h1
    exact h3 rfl
  refine ⟨⟨put σ y o, v', xs', hF2.turn (KT.wf hW2 hwf) hbw, hS12.keep ((kw harr2 (by decide) (by decide)).trans harr2.symm), hwl, ?_, kw hM2 (by decide) (by decide), fun k hk' => ?_, by omega, (hk.trans (hko2.from _)).trans (hko3.from _)⟩, hko2.trans hko3, fun k hk' ob hob' hc => ?_⟩
  · rw [hoe] at hl hno ⊢
    exact hR.way hn hx hg hst hf hy hyn hl (Or.inr ⟨hno, hmem, hlen, hwl.srt.imp (fun h => Nat.ne_of_lt h)⟩)
  · rcases hob k hk' with h1 | h1
    · exact ho k h1
    · right
      omega
  · have hkS : k ≠ w.heap.size + 1 + 1 + 1 + 1 := by simp at hk'; omega
    have h12 : W12.heap[k]? = some ob := by rw [hW12]; exact (heap_setCells_ne _ hkS _ _ _).trans hob'
    refine (hwf k (Array.getElem?_eq_some_iff.1 h12).1 (by have := hF.lb; simp at hk'; omega) (fun e => ?_)).trans h12
    have h1 := ho k e.symm
    have h2 := owns_ge hW.own k e.symm
    simp at hk'
    omega
/-- A way is gone and nothing has turned. -/
theorem INn.same {w W5 W : World} {m : Md} {f : Fn} {dl Lb Bp Vb : Nat} {mv fv : Array Value} {x M B0 b Mb y : Nat} {s o : List Nat} {Rl : List Value} {pr : List Nat} {σ : States} {v : Value} {xs : List Nat}
    (hF : Fx w W dl Lb Bp Vb mv fv) (hS : Sp W dl (w.heap.size + 1 + 1 + 1 + 1) σ) (hW : Wl W w.heap.size Lb v xs) (hR : Rd m f dl x M s pr σ xs) (hM : W.heap[Mb]? = some (.cells Rl.toArray 90)) (ho : ∀ k, v.ownBlock = some k → k < b ∨ b + 1 + 1 + 1 ≤ k) (hz : b + 1 + 1 + 1 ≤ W.heap.size) (hk : KeepsFrom B0 W5 W)
    (hn : f.code.length = dl) (hx : x < dl) (hg : GoodS s) (hst : ∀ τ, OkS m f τ → ∃ t, τ x = some t ∧ Le s t) (hf : fits m f (f.code.getD x in0) s) (hy : y < dl) (hyn : y ∈ nexts (f.code.getD x in0) x) (hoe : o = outOf m f (f.code.getD x in0) s) (hl : ∀ r, σ y = some r → r.length = o.length) (hyes : ∃ r, σ y = some r ∧ joinL r o = r) : INn w W5 m f dl Lb Bp Vb mv fv x M B0 b Mb s Rl (pr ++ [y]) W := by
  refine ⟨put σ y o, v, xs, hF, hS.congr (fun i _ => ?_), hW, ?_, hM, ho, hz, hk⟩
  · obtain ⟨r, h1, h2⟩ := hyes
    by_cases hi : i = y
    · subst hi
      rw [put_same, h1]
      show some (joinL r o) = some r
      rw [h2]
    · exact put_other _ _ hi
  · rw [hoe] at hl hyes ⊢
    exact hR.way hn hx hg hst hf hy hyn hl (Or.inl ⟨rfl, hyes⟩)
theorem eq_sets88 (t u : Nat → Nat) (w : World) : (Op.equalIn 10000 88 (.agg (setV t).toArray) (.agg (setV u).toArray)).run Tryz.prog w = .ok (decide (∀ i ∈ List.range 200, t i = u i)) w := by
  obtain ⟨ii, hi1, _⟩ := Option.map_eq_some_iff.1 sizeK
  rw [show (10000 : Nat) = 9998 + 1 + 1 from rfl, run_equalIn_array w (9998 + 1) _ _ Tryz.underlying88 hi1, cellsK, eq_items t u 9998 w _ (fun i hi => List.mem_range.1 hi)]
theorem stG_inj {r r' : Bool} {c c' : Nat} {t t' : Nat → Nat} (h : stG r c t = stG r' c' t') {i : Nat} (hi : i < 200) : t i = t' i := by
  have h1 := stG_slot r c t hi
  rw [h, stG_slot r' c' t' hi] at h1
  simp only [Option.some.injEq, Value.int.injEq, true_and] at h1
  omega
/-- The sets are the same just where the states are. -/
theorem join_same {q o : List Nat} {r3 : Bool} {c3 : Nat} {t3 : Nat → Nat} (h : stG r3 c3 t3 = stO (some (joinO (some q) o))) (hq : q.length ≤ 200) : (∀ i ∈ List.range 200, t3 i = kT (some q) i) ↔ joinL q o = q := by
  have e : ∀ i, i < 200 → t3 i = (joinL q o).getD i 0 := fun i hi => stG_inj (show stG r3 c3 t3 = stG true (joinL q o).length (fun i => (joinL q o).getD i 0) from h) hi
  constructor
  · intro hh
    refine ext_getD (joinL_len q o) (fun i => ?_)
    by_cases hi : i < 200
    · have h1 := hh i (List.mem_range.2 hi)
      rw [e i hi] at h1
      exact h1
    · rw [getD_none (by rw [joinL_len]; omega), getD_none (by omega)]
  · intro hh i hi
    rw [e i (List.mem_range.1 hi), hh]
    rfl
end Vf
end Go.Proofs.YtdjdhjciealfhaaGreatDoor
