import Derived.Test.YtdjdhjciealfhaaGreatDoorUg
import Derived.Test.YtdjdhjciealfhaaGreatDoorMa
import Derived.Test.YtdjdhjciealfhaaGreatDoorR3
namespace Go.Proofs.YtdjdhjciealfhaaGreatDoor
open Go.RowKit Ch1
namespace Vf
theorem VyP.one {m : Md} {f : Fn} {w w' : World} {e : Ending} (h : VyP m f w w' e) : ∃ p l c b, e = .returned (.tuple #[.slice p l c, .bool b]) ∧ Below w.heap.size w w' ∧ (b = true ↔ Safe m f) ∧ (b = true → ∃ S σ, p = some ⟨S, 0, none⟩ ∧ l = (pvRow m f σ).length ∧ c = (pvRow m f σ).length ∧ w.heap.size ≤ S ∧ OwB w' S (pvRow m f σ) ∧ Least m f σ) := by
  rcases h with ⟨S, σ, he, h1, h2, h3, h4, h5⟩ | ⟨h1, he, h2⟩
  · have hl : (pvRow m f σ).length = f.code.length := by simp [pvRow]
    exact ⟨_, _, _, true, he, h5, ⟨fun _ => h4, fun _ => rfl⟩, fun _ => ⟨S, σ, rfl, hl.symm, hl.symm, h1, h2, h3⟩⟩
  · exact ⟨_, _, _, false, he, h2, ⟨fun h => (by cases h), fun h => absurd h h1⟩, fun h => (by cases h)⟩
/-- Rows of flags, each in a block of its own. -/
def Rv (L : List (Nat × List Bool)) : List Value := L.map (fun x => Value.slice (some ⟨x.1, 0, none⟩) x.2.length x.2.length)
structure RbS (w : World) (B : Nat) (v : Value) (L : List (Nat × List Bool)) : Prop where
  own : w.ownsRow B 43 1 v L.length (Rv L)
  row : ∀ x ∈ L, B ≤ x.1 ∧ OwB w x.1 x.2
  dis : (L.map Prod.fst).Nodup
theorem RbS.below {w w' : World} {B : Nat} {v : Value} {L : List (Nat × List Bool)} (h : RbS w B v L) (hb : Below w.heap.size w w') : RbS w' B v L := ⟨ownsRow_below h.own hb, fun x hx => ⟨(h.row x hx).1, (h.row x hx).2.below hb⟩, h.dis⟩
theorem RbS.mono {w : World} {B B' : Nat} {v : Value} {L : List (Nat × List Bool)} (h : RbS w B v L) (hB : B' ≤ B) : RbS w B' v L := by
  refine ⟨?_, fun x hx => ⟨Nat.le_trans hB (h.row x hx).1, (h.row x hx).2⟩, h.dis⟩
  obtain ⟨h1, h2 | ⟨g, cap, cur, h3, h4, h5⟩⟩ := h.own
  · exact ⟨h1, Or.inl h2⟩
  · exact ⟨h1, Or.inr ⟨g, cap, cur, h3, Nat.le_trans hB h4, h5⟩⟩
theorem RbS.form {w : World} {B : Nat} {v : Value} {L : List (Nat × List Bool)} (h : RbS w B v L) : ∃ p c, v = .slice p L.length c := owns_form h.own
theorem RbS.snoc {w w' : World} {B g : Nat} {v v' : Value} {L : List (Nat × List Bool)} {bs : List Bool} (h : RbS w B v L) (ho : w'.ownsRow B 43 1 v' (L.length + 1) (Rv L ++ [Value.slice (some ⟨g, 0, none⟩) bs.length bs.length])) (hb : But w w' v) (hg : OwB w g bs) (hB : B ≤ g) (hn : ∀ x ∈ L, x.1 < g) : RbS w' B v' (L ++ [(g, bs)]) := by
  have key : ∀ k b, OwB w k b → OwB w' k b := fun k b hk => (hb k hk.lt (owns_ne h.own hk (by decide))).trans hk
  refine ⟨?_, fun x hx => ?_, ?_⟩
  · rw [List.length_append]
    unfold Rv at ho ⊢
    rw [List.map_append]
    exact ho
  · rcases List.mem_append.1 hx with hx | hx
    · exact ⟨(h.row x hx).1, key _ _ (h.row x hx).2⟩
    · obtain rfl := List.mem_singleton.1 hx
      exact ⟨hB, key _ _ hg⟩
  · rw [List.map_append, List.nodup_append]
    refine ⟨h.dis, by simp, fun a ha b hb' e => ?_⟩
    obtain ⟨x, hx, rfl⟩ := List.mem_map.1 ha
    simp at hb'
    have := hn x hx
    omega
/-- The rows are the functions' flags. -/
def RowsOf (m : Md) (L : List (Nat × List Bool)) (n : Nat) : Prop := L.length = n ∧ ∀ i, i < n → ∃ σ, Least m (m.funcs.getD i fn0) σ ∧ (L.getD i (0, [])).2 = pvRow m (m.funcs.getD i fn0) σ
theorem RowsOf.snoc {m : Md} {L : List (Nat × List Bool)} {n g : Nat} {σ : States} (h : RowsOf m L n) (hl : Least m (m.funcs.getD n fn0) σ) : RowsOf m (L ++ [(g, pvRow m (m.funcs.getD n fn0) σ)]) (n + 1) := by
  refine ⟨by rw [List.length_append, h.1]; rfl, fun i hi => ?_⟩
  by_cases hin : i = n
  · subst hin
    refine ⟨σ, hl, ?_⟩
    rw [List.getD_eq_getElem?_getD, List.getElem?_append_right (by rw [h.1]; exact Nat.le_refl _), h.1, Nat.sub_self]
    rfl
  · obtain ⟨τ, h1, h2⟩ := h.2 i (by omega)
    refine ⟨τ, h1, ?_⟩
    rw [List.getD_eq_getElem?_getD, List.getElem?_append_left (by rw [h.1]; omega), ← List.getD_eq_getElem?_getD]
    exact h2
/-- What both Verifys answer. -/
def VrP (m : Md) (w w' : World) (e : Ending) : Prop :=
  (¬ GoodM m ∧ e = .returned (.tuple #[.slice none 0 0, .int .i64 1, .int .i64 0]) ∧ Below w.heap.size w w') ∨
  (GoodM m ∧ ∃ i : Nat, i < m.funcs.length ∧ ¬ Safe m (m.funcs.getD i fn0) ∧ (∀ j, j < i → Safe m (m.funcs.getD j fn0)) ∧ e = .returned (.tuple #[.slice none 0 0, .int .i64 6, .int .i64 (i : Nat)]) ∧ Below w.heap.size w w') ∨
  (GoodM m ∧ (∀ j, j < m.funcs.length → Safe m (m.funcs.getD j fn0)) ∧ ∃ v L, e = .returned (.tuple #[v, .int .i64 0, .int .i64 0]) ∧ RbS w' w.heap.size v L ∧ RowsOf m L m.funcs.length ∧ Below w.heap.size w w')
/-- At the heads of both loops over the functions. -/
def Vr (m : Md) (W : World) (n : Nat) (ov iv : Value) (wr : World) : Prop := ∃ (i : Nat) (p : Option Addr) (c : Nat) (L : List (Nat × List Bool)), i ≤ n ∧ iv = .int .i64 (i : Nat) ∧ ov = .slice p i c ∧ Hid (RbS wr W.heap.size (.slice p i c) L) ∧ Hid (RowsOf m L i) ∧ Hid (Below W.heap.size W wr) ∧ Hid (∀ j, j < i → Safe m (m.funcs.getD j fn0))
theorem RbS.nil (w : World) (B : Nat) : RbS w B (.slice none 0 0) [] := ⟨⟨rfl, Or.inl ⟨rfl, rfl⟩⟩, fun x hx => (by cases hx), List.nodup_nil⟩
theorem infoB : (Tryz.prog.info? 43).map (fun i => (i.zero, i.size, i.bytes)) = some (some (.slice none 0 0), 1, 24) := by kernel_rfl
theorem gm_code1 {m : Md} (h : GoodM m) {i : Nat} (hi : i < m.funcs.length) : (m.funcs.getD i fn0).code.length ≤ 5000 := by
  have h1 := fSum_succ m.funcs i hi
  have h2 := fSum_le m.funcs (i + 1) hi
  have h3 := h.sz.sum
  omega
theorem gm_ne {m : Md} (h : GoodM m) : ∀ i, i < m.consts.length → 0 < (m.consts.getD i []).length := fun i hi => by
  have := h.cs.one i hi
  cases hd : m.consts.getD i [] with
  | nil => rw [hd] at this; cases this
  | cons a b => simp
end Vf
end Go.Proofs.YtdjdhjciealfhaaGreatDoor
namespace Go.Proofs.YtdjdhjciealfhaaGreatDoor
open Go.RowKit Ch1
namespace Vf
/-- The row of number i. -/
def rwN (L : List (Nat × List Bool)) (i : Nat) : Nat × List Bool := L.getD i (0, [])
theorem rwN_mem {L : List (Nat × List Bool)} {i : Nat} (hi : i < L.length) : rwN L i ∈ L := by
  unfold rwN
  rw [List.getD_eq_getElem?_getD, List.getElem?_eq_getElem hi]
  exact List.getElem_mem hi
/-- Rows of flags as they are read: a row of slices in block g, each in a block of its own. -/
structure Rr (w : World) (p : Option Addr) (L : List (Nat × List Bool)) : Prop where
  cells : 0 < L.length → ∃ g, p = some ⟨g, 0, none⟩ ∧ g < w.heap.size ∧ (∀ x ∈ L, x.1 ≠ g) ∧ ∀ i, i < L.length → w.cell? ⟨g, i, none⟩ = some (.slice (some ⟨(rwN L i).1, 0, none⟩) (rwN L i).2.length (rwN L i).2.length)
  row : ∀ x ∈ L, OwB w x.1 x.2
theorem Rr.below {w w' : World} {p : Option Addr} {L : List (Nat × List Bool)} (h : Rr w p L) (hb : Below w.heap.size w w') : Rr w' p L := by
  refine ⟨fun h0 => ?_, fun x hx => (h.row x hx).below hb⟩
  obtain ⟨g, e1, e2, e3, e4⟩ := h.cells h0
  exact ⟨g, e1, Nat.lt_of_lt_of_le e2 hb.size, e3, fun i hi => cell_keepD hb e2 (e4 i hi)⟩
theorem RbS.rr {w : World} {B c : Nat} {p : Option Addr} {n : Nat} {L : List (Nat × List Bool)} (h : RbS w B (.slice p n c) L) : n = L.length ∧ Rr w p L ∧ (∀ a, p = some a → B ≤ a.block) := by
  obtain ⟨h1, ⟨hv, h0⟩ | ⟨g, cap, cur, hv, hg, hh, hx1, hx2, hsz, h4⟩⟩ := h.own
  · cases hv
    have hl : L.length = 0 := by simpa [Rv] using h0
    exact ⟨by omega, ⟨fun h => absurd h (by omega), fun x hx => (h.row x hx).2⟩, fun a ha => by cases ha⟩
  · cases hv
    refine ⟨rfl, ⟨fun _ => ⟨g, rfl, (Array.getElem?_eq_some_iff.1 hh).1, fun x hx e => ?_, fun i hi => ?_⟩, fun x hx => (h.row x hx).2⟩, fun a ha => by cases ha; exact hg⟩
    · have h5 := (h.row x hx).2
      unfold OwB at h5
      rw [e, hh] at h5
      cases h5
    · have h5 : (cur.toList.take (L.length * 1))[i]? = (Rv L)[i]? := by rw [h4]
      rw [List.getElem?_take, if_pos (by omega), Array.getElem?_toList] at h5
      simp only [World.cell?, hh]
      rw [h5]
      unfold Rv rwN
      rw [List.getElem?_map, List.getElem?_eq_getElem hi, List.getD_eq_getElem?_getD, List.getElem?_eq_getElem hi]
      rfl
theorem same_rows {L L' : List (Nat × List Bool)} (he : L.map Prod.snd = L'.map Prod.snd) : L.length = L'.length ∧ ∀ i, (rwN L i).2 = (rwN L' i).2 := by
  have hl : L.length = L'.length := by have := congrArg List.length he; simpa using this
  refine ⟨hl, fun i => ?_⟩
  have h1 : (L.map Prod.snd)[i]? = (L'.map Prod.snd)[i]? := by rw [he]
  rw [List.getElem?_map, List.getElem?_map] at h1
  unfold rwN
  rw [List.getD_eq_getElem?_getD, List.getD_eq_getElem?_getD]
  cases h2 : L[i]? <;> cases h3 : L'[i]? <;> rw [h2, h3] at h1 <;> simp at h1 ⊢
  exact h1
/-- Not too many, not too long. -/
def Few (L : List (Nat × List Bool)) : Prop := L.length ≤ 200 ∧ ∀ x ∈ L, x.2.length ≤ 5000
theorem rows_same {m : Md} {L L' : List (Nat × List Bool)} {n : Nat} (h : RowsOf m L n) (h' : RowsOf m L' n) : L.map Prod.snd = L'.map Prod.snd := by
  apply List.ext_getElem?
  intro i
  rw [List.getElem?_map, List.getElem?_map]
  by_cases hi : i < n
  · obtain ⟨σ, h1, h2⟩ := h.2 i hi
    obtain ⟨τ, h3, h4⟩ := h'.2 i hi
    have e1 : L[i]? = some (L.getD i (0, [])) := by rw [List.getD_eq_getElem?_getD, List.getElem?_eq_getElem (by rw [h.1]; exact hi)]; rfl
    have e2 : L'[i]? = some (L'.getD i (0, [])) := by rw [List.getD_eq_getElem?_getD, List.getElem?_eq_getElem (by rw [h'.1]; exact hi)]; rfl
    rw [e1, e2]
    simp only [Option.map_some]
    rw [h2, h4, pvRow_one h1 h3]
  · rw [List.getElem?_eq_none (by rw [h.1]; omega), List.getElem?_eq_none (by rw [h'.1]; omega)]
theorem few_of {m : Md} {L : List (Nat × List Bool)} (hG : GoodM m) (h : RowsOf m L m.funcs.length) : Few L := by
  refine ⟨by rw [h.1]; exact hG.f2, fun x hx => ?_⟩
  obtain ⟨i, hi, rfl⟩ := List.getElem_of_mem hx
  obtain ⟨σ, _, h2⟩ := h.2 i (by rw [← h.1]; exact hi)
  rw [List.getD_eq_getElem?_getD, List.getElem?_eq_getElem hi] at h2
  simp only [Option.getD_some] at h2
  rw [h2]
  have := gm_code1 hG (show i < m.funcs.length by rw [← h.1]; exact hi)
  simpa [pvRow] using this
set_option maxHeartbeats 2000000 in
theorem eqBoolSS_c (p q : Option Addr) (n c d : Nat) (L L' : List (Nat × List Bool)) (w : World) (h : Rr w p L) (h' : Rr w q L') (he : L.map Prod.snd = L'.map Prod.snd) (hf : Few L) (hn : n = L.length) :
    Calls Tryz.prog 8 #[.slice p n c, .slice q n d] w fun e w' => e = .returned (.bool true) ∧ Below w.heap.size w w' := by
  have H1 := mkD h
  have H2 := mkD h'
  have HE := mkD (same_rows he)
  have HF := mkD hf
  have hn2 : n ≤ 200 := by rw [hn]; exact hf.1
  have HN := mkD hn
  clear h h' he hf hn
  go_enter Tryz.func8, Tryz.ntmps8
  go_wp2
  go_loopw [5] (fun i wr => ∃ k : Nat, k ≤ n ∧ i = .int .i64 k ∧ Hid (Below w.heap.size w wr)) (fun i _ => n - (intOf i).toNat)
  case atStart => exact ⟨0, Nat.zero_le _, rfl, Below.refl _ _⟩
  case round =>
    obtain ⟨k, hk, rfl, hb⟩ := hrel
    by_cases hlt : k < n
    · have hk1 : k < L.length := by rw [← HN.out]; exact hlt
      have hk2 : k < L'.length := by rw [← HE.out.1]; exact hk1
      obtain ⟨g, rfl, _, _, hc⟩ := (H1.out.below hb.out).cells (by omega)
      obtain ⟨g', rfl, _, _, hc'⟩ := (H2.out.below hb.out).cells (by omega)
      have e0 := hc k hk1
      have f0 := hc' k hk2
      have ho := (H1.out.below hb.out).row _ (rwN_mem hk1)
      have ho' := (H2.out.below hb.out).row _ (rwN_mem hk2)
      rw [← HE.out.2 k] at f0 ho'
      have hx := HF.out.2 _ (rwN_mem hk1)
      generalize (rwN L k).2 = x at e0 f0 ho ho' hx
      generalize (rwN L k).1 = b at e0 ho
      generalize (rwN L' k).1 = b' at f0 ho'
      have HY := mkD (ho.bo (by unfold maxLen; omega))
      have HY' := mkD (ho'.bo (by unfold maxLen; omega))
      clear hc hc' ho ho'
      go_wp2
      go_region_with (go_at_call 22; refine (eqBoolS_c _ _ _ _ _ x _ ?y1 ?y2).mono ?_; (case y1 => exact HY.out.below (below_drewN' (Below.refl _ _) _)); (case y2 => exact HY'.out.below (below_drewN' (Below.refl _ _) _)); rintro e w1 ⟨rfl, q1, hw1⟩; have HB1 : Hid (Below wr.heap.size wr w1) := (by unfold Hid; rw [hw1]; exact below_drewN' (below_drewM (Below.refl _ _)) q1); clear hw1)
      all_goals
        go_wp2
        exact ⟨⟨k + 1, by omega, by go_num, hb.out.trans (HB1.out.mono hb.out.size)⟩, by simp [intOf]; omega⟩
    · go_wp2
      go_ret
      exact ⟨rfl, hb.out⟩
/-- How many flags the first k rows have. -/
def cnt (L : List (Nat × List Bool)) : Nat → Nat
  | 0 => 0
  | k + 1 => cnt L k + (rwN L k).2.length
theorem cnt_le {L : List (Nat × List Bool)} (h : Few L) : ∀ k, k ≤ L.length → cnt L k ≤ 5000 * k
  | 0, _ => Nat.le_refl _
  | k + 1, hk => by
    have h1 := cnt_le h k (by omega)
    have h2 := h.2 _ (rwN_mem (show k < L.length by omega))
    show cnt L k + _ ≤ _
    omega
/-- A mark. -/
def mb (k : Nat) : Bool := decide (((1 + k : Nat) : Int).tmod 3 = 0)
def mbs (k n : Nat) : List Bool := (List.range n).map (fun i => mb (k + i))
theorem mbs_len (k n : Nat) : (mbs k n).length = n := by simp [mbs]
/-- The rows while they are marked. -/
def mkL (L : List (Nat × List Bool)) (k : Nat) : List (Nat × List Bool) := (List.range L.length).map (fun i => if i < k then ((rwN L i).1, mbs (cnt L i) (rwN L i).2.length) else rwN L i)
theorem mkL_len (L : List (Nat × List Bool)) (k : Nat) : (mkL L k).length = L.length := by simp [mkL]
theorem mkL_at {L : List (Nat × List Bool)} {k i : Nat} (hi : i < L.length) : rwN (mkL L k) i = if i < k then ((rwN L i).1, mbs (cnt L i) (rwN L i).2.length) else rwN L i := by
  show (mkL L k).getD i (0, []) = _
  rw [List.getD_eq_getElem?_getD]
  simp [mkL, hi]
theorem mkL_sh {L : List (Nat × List Bool)} {k i : Nat} (hi : i < L.length) : (rwN (mkL L k) i).1 = (rwN L i).1 ∧ (rwN (mkL L k) i).2.length = (rwN L i).2.length := by
  rw [mkL_at hi]
  split
  · exact ⟨rfl, mbs_len _ _⟩
  · exact ⟨rfl, rfl⟩
theorem mem_rwN {L : List (Nat × List Bool)} {x : Nat × List Bool} (hx : x ∈ L) : ∃ i, i < L.length ∧ rwN L i = x := by
  obtain ⟨i, hi, rfl⟩ := List.getElem_of_mem hx
  exact ⟨i, hi, by unfold rwN; rw [List.getD_eq_getElem?_getD, List.getElem?_eq_getElem hi]; rfl⟩
theorem rw_ne {L : List (Nat × List Bool)} (hd : (L.map Prod.fst).Nodup) {i j : Nat} (hi : i < L.length) (hj : j < L.length) (hne : i ≠ j) : (rwN L i).1 ≠ (rwN L j).1 := by
  intro e
  apply hne
  have h1 : (L.map Prod.fst)[i]'(by simpa using hi) = (rwN L i).1 := by simp [rwN, List.getD_eq_getElem?_getD, List.getElem?_eq_getElem hi]
  have h2 : (L.map Prod.fst)[j]'(by simpa using hj) = (rwN L j).1 := by simp [rwN, List.getD_eq_getElem?_getD, List.getElem?_eq_getElem hj]
  exact (List.getElem_inj hd).1 (by rw [h1, h2, e])
/-- One row more is marked. -/
theorem Rr.mark {w w' : World} {p : Option Addr} {L : List (Nat × List Bool)} {k : Nat} (h : Rr w p (mkL L k)) (hd : (L.map Prod.fst).Nodup) (hk : k < L.length) (ho : OwB w' (rwN L k).1 (mbs (cnt L k) (rwN L k).2.length)) (hw : Within (rwN L k).1 ((rwN L k).1 + 1) w w') : Rr w' p (mkL L (k + 1)) := by
  refine ⟨fun h0 => ?_, fun x hx => ?_⟩
  · obtain ⟨g, e1, e2, e3, e4⟩ := h.cells (by rw [mkL_len] at h0 ⊢; exact h0)
    have hg : (rwN L k).1 ≠ g := by
      have h1 := e3 _ (rwN_mem (L := mkL L k) (i := k) (by rw [mkL_len]; exact hk))
      rw [(mkL_sh hk).1] at h1
      exact h1
    refine ⟨g, e1, by rw [hw.size]; exact e2, fun x hx => ?_, fun i hi => ?_⟩
    · obtain ⟨i, hi, rfl⟩ := mem_rwN hx
      rw [mkL_len] at hi
      rw [(mkL_sh hi).1]
      have h1 := e3 _ (rwN_mem (L := mkL L k) (i := i) (by rw [mkL_len]; exact hi))
      rw [(mkL_sh hi).1] at h1
      exact h1
    · rw [mkL_len] at hi
      have h1 := e4 i (by rw [mkL_len]; exact hi)
      rw [(mkL_sh hi).1, (mkL_sh hi).2] at h1 ⊢
      rw [World.cell?_of_block (w := w) (hw.block g (by omega))]
      exact h1
  · obtain ⟨i, hi, rfl⟩ := mem_rwN hx
    rw [mkL_len] at hi
    by_cases hik : i = k
    · subst hik
      rw [mkL_at hi, if_pos (by omega)]
      exact ho
    · have h1 := h.row _ (rwN_mem (L := mkL L k) (i := i) (by rw [mkL_len]; exact hi))
      have e : rwN (mkL L (k + 1)) i = rwN (mkL L k) i := by
        rw [mkL_at hi, mkL_at hi]
        by_cases h2 : i < k
        · rw [if_pos h2, if_pos (by omega)]
        · rw [if_neg h2, if_neg (by omega)]
      rw [e]
      have hne : (rwN (mkL L k) i).1 ≠ (rwN L k).1 := by
        rw [(mkL_sh hi).1]
        exact rw_ne hd hi hk hik
      exact (hw.block _ (by omega)).trans h1
end Vf
end Go.Proofs.YtdjdhjciealfhaaGreatDoor
namespace Go.Proofs.YtdjdhjciealfhaaGreatDoor
open Go.RowKit Ch1
namespace Vf
theorem mbs_succ (k j : Nat) : mbs k (j + 1) = mbs k j ++ [mb (k + j)] := by simp [mbs, List.range_succ]
theorem OwB.step {w : World} {t k j : Nat} {bs : List Bool} {b : Bool} (h : OwB w t (mbs k j ++ bs.drop j)) (hj : j < bs.length) (hb : b = mb (k + j)) : OwB (w.setCell ⟨t, j, none⟩ (.bool b)) t (mbs k (j + 1) ++ bs.drop (j + 1)) := by
  have h1 := h.set (i := j) b
  have e : (mbs k j ++ bs.drop j).set j b = mbs k (j + 1) ++ bs.drop (j + 1) := by
    rw [List.set_append_right _ _ (by rw [mbs_len]; exact Nat.le_refl _), mbs_len, Nat.sub_self, mbs_succ, hb, List.drop_eq_getElem_cons hj, List.set_cons_zero, List.append_assoc]
    rfl
  rw [e] at h1
  exact h1
set_option maxHeartbeats 2000000 in
theorem markBoolS_o (t n c k : Nat) (bs : List Bool) (w : World) (h : OwB w t bs) (hn : n = bs.length) (hn2 : n ≤ 5000) (hk : k ≤ 2000000) :
    Calls Tryz.prog 27 #[.slice (some ⟨t, 0, none⟩) n c, .int .i64 ((1 + k : Nat) : Int)] w fun e w' => e = .returned (.int .i64 ((1 + (k + n) : Nat) : Int)) ∧ OwB w' t (mbs k n) ∧ Within t (t + 1) w w' := by
  have HO := mkD h
  have HN := mkD hn
  clear h hn
  go_enter Tryz.func27, Tryz.ntmps27
  go_wp2
  go_loopw [1, 5] (fun kv i wr => ∃ (j z : Nat), j ≤ n ∧ i = .int .i64 (j : Nat) ∧ kv = .int .i64 (z : Nat) ∧ Hid (z = 1 + (k + j)) ∧ Hid (OwB wr t (mbs k j ++ bs.drop j)) ∧ Hid (Within t (t + 1) w wr)) (fun _ i _ => n - (intOf i).toNat)
  case atStart => exact ⟨0, 1 + k, Nat.zero_le _, rfl, rfl, by unfold Hid; omega, by unfold Hid; simp [mbs]; exact HO.out, Within.refl _ _ _⟩
  case round =>
    obtain ⟨j, z, hj, rfl, rfl, hz, hO, hW⟩ := hrel
    have hz1 : z ≤ 3000000 := by rw [hz.out]; omega
    by_cases hlt : j < n
    · have hjb : j < bs.length := by rw [← HN.out]; exact hlt
      obtain ⟨g2, g3⟩ := hO.out.cell (i := j) (by simp [mbs_len]; omega)
      obtain ⟨y, hy⟩ : ∃ y, y = (mbs k j ++ bs.drop j).getD j false := ⟨_, rfl⟩
      rw [← hy] at g2
      clear hy
      go_wp2
      exact ⟨⟨j + 1, z + 1, by omega, by go_num, by go_num, by unfold Hid; rw [hz.out]; omega, OwB.step hO.out hjb (by unfold mb; rw [← hz.out]; first | rfl | (rw [Int.tmod_eq_emod_of_nonneg (by omega)]; first | rfl | (rw [Bool.eq_iff_iff]; simp) | (rw [Bool.eq_iff_iff]; simp; omega)) | (rw [Bool.eq_iff_iff]; simp; omega)), hW.out.set (Nat.le_refl _) (Nat.lt_succ_self _) _⟩, by simp [intOf]; omega⟩
    · obtain rfl : j = n := by omega
      have HFIN : Hid (OwB wr t (mbs k j)) := by have h1 := hO.out; rw [List.drop_eq_nil_of_le (by rw [← HN.out]; exact Nat.le_refl _), List.append_nil] at h1; exact h1
      go_wp2
      go_ret
      exact ⟨ret_int (by have := hz.out; omega), HFIN.out, hW.out⟩
set_option maxHeartbeats 2000000 in
theorem heldBoolS_o (t n c k : Nat) (w : World) (h : OwB w t (mbs k n)) (hn2 : n ≤ 5000) (hk : k ≤ 2000000) :
    Calls Tryz.prog 28 #[.slice (some ⟨t, 0, none⟩) n c, .int .i64 ((1 + k : Nat) : Int)] w fun e w' => e = .returned (.int .i64 ((1 + (k + n) : Nat) : Int)) ∧ w' = w := by
  have HO := mkD h
  clear h
  go_enter Tryz.func28, Tryz.ntmps28
  go_wp2
  go_loop [1, 5] (fun kv i => ∃ (j z : Nat), j ≤ n ∧ i = .int .i64 (j : Nat) ∧ kv = .int .i64 (z : Nat) ∧ Hid (z = 1 + (k + j))) (fun _ i => n - (intOf i).toNat)
  case atStart => exact ⟨0, 1 + k, Nat.zero_le _, rfl, rfl, by unfold Hid; omega⟩
  case round =>
    obtain ⟨j, z, hj, rfl, rfl, hz⟩ := hrel
    have hz1 : z ≤ 3000000 := by rw [hz.out]; omega
    by_cases hlt : j < n
    · have g2 := (HO.out.cell (i := j) (by rw [mbs_len]; exact hlt)).1
      have hy : (mbs k n).getD j false = ((z : Int) % 3 == 0) := by
        rw [hz.out]
        unfold mbs
        rw [List.getD_eq_getElem?_getD]
        simp only [List.getElem?_map, List.getElem?_range hlt, Option.map_some, Option.getD_some, mb]
        rw [Int.tmod_eq_emod_of_nonneg (by omega), Bool.eq_iff_iff]
        simp
      rw [hy] at g2
      clear hy
      cases hq : ((z : Int) % 3 == 0)
      all_goals
        rw [hq] at g2
        go_wp2
        exact ⟨⟨j + 1, z + 1, by omega, by go_num, by go_num, by unfold Hid; rw [hz.out]; omega⟩, by simp [intOf]; omega⟩
    · obtain rfl : j = n := by omega
      go_wp2
      go_ret
      exact ⟨ret_int (by have := hz.out; omega), rfl⟩
end Vf
end Go.Proofs.YtdjdhjciealfhaaGreatDoor
