import Derived.Test.YtbcanodijcglpaaDoorX4
import Derived.Lib.SlBytesConst
namespace Go.Proofs.YtbcanodijcglpaaDoor
open Go.RowKit Ch1
/-! ### all bytes are bytes -/
def Rg (xs : List Int) : Prop := ∀ x ∈ xs, 0 ≤ x ∧ x < 256
theorem rng_of {xs : List Int} (h : Rg xs) (i : Nat) : 0 ≤ xs.getD i 0 ∧ xs.getD i 0 < 256 := by
  by_cases hi : i < xs.length
  · exact h _ (by simp [List.getD, List.getElem?_eq_getElem hi])
  · simp [List.getD, List.getElem?_eq_none (Nat.le_of_not_lt hi)]
theorem rg_of {xs : List Int} (h : ∀ i, 0 ≤ xs.getD i 0 ∧ xs.getD i 0 < 256) : Rg xs := by
  intro x hx
  obtain ⟨i, hi, e⟩ := List.getElem_of_mem hx
  have := h i
  simpa [List.getD, List.getElem?_eq_getElem hi, e] using this
theorem Rg.app {xs ys : List Int} (h : Rg xs) (k : Rg ys) : Rg (xs ++ ys) := by
  intro x hx
  rcases List.mem_append.1 hx with hx | hx
  · exact h x hx
  · exact k x hx
def RgD (l : List Dt) : Prop := ∀ d ∈ l, Rg d.text
theorem RgD.drop {l : List Dt} (h : RgD l) (i : Nat) : RgD (l.drop i) := fun d hd => h d (List.mem_of_mem_drop hd)
theorem rg_nums (l : List UInt8) : Rg (nums l) := rg_of (nums_rng l)
theorem rg_bool (n : Int) : Rg (boolT n) := by unfold boolT; split <;> (intro x hx; simp at hx; omega)
theorem elems_rg {f : List Dt → Option (List Dt)} {g : List Dt → List Int} (hf : Eats f) (hg : ∀ l, RgD l → Rg (g l)) (r : List Dt) (hr : RgD r) : ∀ c, Rg (elems f g c r) := by
  intro c
  induction c with
  | zero => intro x hx; cases hx
  | succ c ih =>
    refine Rg.app ih (Rg.app ?_ (hg _ ?_))
    · split
      · intro x hx; cases hx
      · intro x hx; simp at hx; omega
    · cases e : skipN f c r with
      | none => intro d hd; cases hd
      | some q =>
        obtain ⟨j, _, _, rfl⟩ := skipN_eats hf _ _ _ e
        exact hr.drop j
theorem txt_rg : ∀ (k : Nat) (l : List Dt), RgD l → Rg (txt k l) := by
  intro k
  induction k with
  | zero =>
    intro l h
    cases l with
    | nil => intro x hx; cases hx
    | cons d r =>
      simp only [txt]
      split
      · exact rg_nums _
      · split
        · exact rg_bool _
        · exact h d (by simp)
  | succ k ih =>
    intro l h
    cases l with
    | nil => intro x hx; cases hx
    | cons d r =>
      simp only [txt]
      split
      · exact rg_nums _
      · split
        · exact rg_bool _
        · split
          · exact h d (by simp)
          · have := elems_rg (skip_eats k) ih r (fun e he => h e (by simp [he])) d.count.toNat
            refine Rg.app (xs := [40]) ?_ (Rg.app this ?_)
            · intro x hx; simp at hx; omega
            · intro x hx; simp at hx; omega
theorem Da.rg {w : World} {p : Option Addr} {n c : Nat} {ds : List Dt} (h : Da w p n c ds) : RgD ds := by
  intro d hd
  obtain ⟨i, hi, rfl⟩ := List.getElem_of_mem hd
  obtain ⟨b, o, _, _, g⟩ := h.cells (by rw [← h.len]; omega)
  obtain ⟨tp, tn, tc, he⟩ := g i (by rw [← h.len]; exact hi)
  have := rg_of he.by_.rng
  simpa [List.getD, List.getElem?_eq_getElem hi] using this
/-! ### the places of a list's elements, readable -/
def Kd (w : World) (kv : Value) (ks : List Nat) : Prop := ∃ p c, kv = .slice p ks.length c ∧ (0 < ks.length → ∃ g cur, p = some ⟨g, 0, none⟩ ∧ w.heap[g]? = some (.cells cur 3) ∧ ks.length ≤ c ∧ ∀ j, j < ks.length → cur[j]? = some (.int .i64 ((ks.getD j 0 : Nat) : Int)))
theorem OwI.kd {w : World} {B : Nat} {v : Value} {ks : List Nat} (h : OwI w B v ks) : Kd w v ks := by
  obtain ⟨_, ⟨rfl, h0⟩ | ⟨g, cap, cur, rfl, hg, hh, h1, h2, h3, h4⟩⟩ := h
  · exact ⟨none, 0, by rw [h0], fun h => by omega⟩
  · refine ⟨some ⟨g, 0, none⟩, cap, rfl, fun _ => ⟨g, cur, rfl, hh, h1, fun i hi => ?_⟩⟩
    have e : (List.take (ks.length * 1) cur.toList)[i]? = (ks.map fun k : Nat => Value.int .i64 (k : Int))[i]? := by rw [h4]
    rw [List.getElem?_take, if_pos (by omega)] at e
    have : cur.toList[i]? = some (.int .i64 ((ks.getD i 0 : Nat) : Int)) := by rw [e]; simp [List.getD, List.getElem?_eq_getElem hi]
    simpa using this
theorem Kd.below {w w' : World} {kv : Value} {ks : List Nat} (h : Kd w kv ks) (hb : Below w.heap.size w w') : Kd w' kv ks := by
  obtain ⟨p, c, e, hc⟩ := h
  refine ⟨p, c, e, fun hn => ?_⟩
  obtain ⟨g, cur, e1, hh, r⟩ := hc hn
  exact ⟨g, cur, e1, by rw [hb.block g (Array.getElem?_eq_some_iff.1 hh).1]; exact hh, r⟩
theorem Kd.grown {w w' : World} {B : Nat} {v kv : Value} {xs : List Int} {ks : List Nat} (h : Kd w kv ks) (ho : Ow w B v xs) (hg : w.grownBy w' v.ownBlock) : Kd w' kv ks := by
  obtain ⟨p, c, e, hc⟩ := h
  refine ⟨p, c, e, fun hn => ?_⟩
  obtain ⟨g, cur, e1, hh, r⟩ := hc hn
  refine ⟨g, cur, e1, ?_, r⟩
  rw [hg.block g (Array.getElem?_eq_some_iff.1 hh).1 ?_]; exact hh
  obtain ⟨_, ⟨rfl, _⟩ | ⟨g', cap, cur', rfl, _, hh', _⟩⟩ := ho
  · intro e; cases e
  · intro e; cases e
    rw [hh] at hh'; cases hh'
theorem Kd.cell {w : World} {kv : Value} {ks : List Nat} (h : Kd w kv ks) (hn : 0 < ks.length) : ∃ g c, kv = .slice (some ⟨g, 0, none⟩) ks.length c ∧ ks.length ≤ c ∧ ∀ j, j < ks.length → w.cell? ⟨g, j, none⟩ = some (.int .i64 ((ks.getD j 0 : Nat) : Int)) := by
  obtain ⟨p, c, e, hc⟩ := h
  obtain ⟨g, cur, rfl, hh, hl, r⟩ := hc hn
  exact ⟨g, c, e, hl, fun j hj => by simp [World.cell?, hh, r j hj]⟩
theorem By.lit2 (w : World) (x y : Int) (hx : 0 ≤ x ∧ x < 256) (hy : 0 ≤ y ∧ y < 256) : By (w.alloc (.cells #[.int .u8 x, .int .u8 y] 5 (2, 3))) (some ⟨w.heap.size, 0, none⟩) 2 2 [x, y] := by
  refine ⟨rfl, Nat.le_refl _, by unfold maxLen; omega, rng_of ?_, fun _ => ⟨w.heap.size, 0, rfl, fun i hi => ?_⟩, fun a ha _ => by cases ha; simp⟩
  · intro z hz; simp at hz; rcases hz with rfl | rfl
    · exact hx
    · exact hy
  · rw [World.cell?_alloc_mark]
    match i, hi with
    | 0, _ => rfl
    | 1, _ => rfl
theorem Txt.up {w W w' : World} {e : Ending} {xs : List Int} (h : Txt W w' e xs) (hb : Below w.heap.size w W) : Txt w w' e xs := by
  obtain ⟨b, o, c, h1, h2, h3⟩ := h
  exact ⟨b, o, c, h1, h2, hb.trans (h3.mono hb.size)⟩
end Go.Proofs.YtbcanodijcglpaaDoor
