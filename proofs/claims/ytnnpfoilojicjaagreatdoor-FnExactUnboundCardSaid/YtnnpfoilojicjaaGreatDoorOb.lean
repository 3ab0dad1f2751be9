import Derived.Test.YtnnpfoilojicjaaGreatDoorBl
import Derived.Test.YtnnpfoilojicjaaGreatDoorShelfU
import Derived.Test.YtnnpfoilojicjaaGreatDoorJ5
namespace Go.Proofs.YtnnpfoilojicjaaGreatDoor
open Go.RowKit Ch1
namespace Cp
def bz (x : List Int) : List UInt8 := (strOfNums x).data.toList
theorem bl_iff (x y : List Int) : bl x y = true ↔ bz x < bz y := by
 unfold bl bz
 rw [bytesLess_eq, ByteArray.toList_eq, ByteArray.toList_eq, decide_eq_true_eq]
theorem bz_inj {x y : List Int} (hx : Rg x) (hy : Rg y) (h : bz x = bz y) : x = y := str_inj hx hy (by
 have h' : (strOfNums x).data = (strOfNums y).data := Array.toList_inj.1 h
 cases e1 : strOfNums x
 cases e2 : strOfNums y
 rw [e1, e2] at h'
 simp only at h'
 rw [h'])
theorem enc_bz (x : List Int) : encStr (bz x) = Value.string (strOfNums x) := by
 unfold bz
 simp
theorem insU_cons (y : List Int) (l : List (List Int)) (x : List Int) : insU (y :: l) x = if bl y x = true then y :: insU l x else if y = x then y :: l else x :: y :: l := by
 unfold insU
 by_cases h : bl y x = true
 ·simp only [posU, h, if_true, List.getElem?_cons_succ, List.take_succ_cons, List.drop_succ_cons, List.cons_append]
  split <;> rfl
 ·simp only [posU, h, if_false, List.getElem?_cons_zero, Option.some.injEq, List.take_zero, List.drop_zero, List.nil_append, Bool.false_eq_true]
theorem lt_ne {a b : List UInt8} (h1 : ¬ a < b) (h2 : a ≠ b) : b < a := by
 rcases Std.le_iff_lt_or_eq.1 (Std.not_lt.1 h1) with h | h
 ·exact h
 ·exact absurd h.symm h2
theorem insU_mem (x : List Int) : ∀ (l : List (List Int)) (z : List Int), z ∈ insU l x ↔ z = x ∨ z ∈ l
 | [], z => by simp [insU, posU]
 | y :: l, z => by
  rw [insU_cons]
  split
  ·rw [List.mem_cons, insU_mem x l z, List.mem_cons]
   constructor
   ·rintro (h | h | h)
    ·exact .inr (.inl h)
    ·exact .inl h
    ·exact .inr (.inr h)
   ·rintro (h | h | h)
    ·exact .inr (.inl h)
    ·exact .inl h
    ·exact .inr (.inr h)
  ·split
   ·rename_i e
    subst e
    simp
   ·simp
theorem insU_sorted {x : List Int} (hx : Rg x) : ∀ l : List (List Int), (∀ z ∈ l, Rg z) → (l.map bz).Pairwise (· < ·) → ((insU l x).map bz).Pairwise (· < ·)
 | [], _, _ => by simp [insU, posU]
 | y :: l, hl, hp => by
  rw [List.map_cons, List.pairwise_cons] at hp
  rw [insU_cons]
  split
  ·rename_i h
   rw [List.map_cons, List.pairwise_cons]
   refine ⟨fun b hb => ?_, insU_sorted hx l (fun z hz => hl z (List.mem_cons_of_mem _ hz)) hp.2⟩
   obtain ⟨z, hz, rfl⟩ := List.mem_map.1 hb
   rcases (insU_mem x l z).1 hz with rfl | hz
   ·exact (bl_iff _ _).1 h
   ·exact hp.1 _ (List.mem_map.2 ⟨z, hz, rfl⟩)
  ·rename_i h
   split
   ·rw [List.map_cons, List.pairwise_cons]
    exact hp
   ·rename_i hne
    have hlt : bz x < bz y := lt_ne (fun h' => h ((bl_iff _ _).2 h')) (fun e => hne (bz_inj (hl y (List.mem_cons_self ..)) hx e))
    rw [List.map_cons, List.pairwise_cons, List.map_cons, List.pairwise_cons]
    refine ⟨fun b hb => ?_, hp⟩
    rcases List.mem_cons.1 hb with rfl | hb
    ·exact hlt
    ·exact Std.lt_trans hlt (hp.1 _ hb)
theorem foldU (ns : List (List Int)) : ∀ l : List (List Int), (∀ z ∈ ns, Rg z) → (∀ z ∈ l, Rg z) → (l.map bz).Pairwise (· < ·) → ((ns.foldl insU l).map bz).Pairwise (· < ·) ∧ ∀ z, z ∈ ns.foldl insU l ↔ z ∈ ns ∨ z ∈ l := by
 induction ns with
 | nil => intro l _ _ h; exact ⟨h, fun z => by simp⟩
 | cons x ns ih =>
  intro l hn hl hp
  have hx := hn x (List.mem_cons_self ..)
  have := ih (insU l x) (fun z hz => hn z (List.mem_cons_of_mem _ hz)) (fun z hz => by
   rcases (insU_mem x l z).1 hz with rfl | hz
   ·exact hx
   ·exact hl z hz) (insU_sorted hx l hl hp)
  refine ⟨this.1, fun z => ?_⟩
  rw [List.foldl_cons, this.2 z, insU_mem, List.mem_cons]
  constructor
  ·rintro (h | h | h)
   ·exact .inl (.inr h)
   ·exact .inl (.inl h)
   ·exact .inr h
  ·rintro ((h | h) | h)
   ·exact .inr (.inl h)
   ·exact .inl h
   ·exact .inr (.inr h)
theorem sortU_facts {ns : List (List Int)} (hn : ∀ z ∈ ns, Rg z) : ((sortU ns).map bz).Pairwise (· < ·) ∧ ∀ z, z ∈ sortU ns ↔ z ∈ ns := by
 have := foldU ns [] hn (fun z hz => by cases hz) List.Pairwise.nil
 exact ⟨this.1, fun z => (this.2 z).trans (by simp)⟩
theorem sorted_one : ∀ l1 l2 : List (List UInt8), l1.Pairwise (· < ·) → l2.Pairwise (· < ·) → (∀ x, x ∈ l1 ↔ x ∈ l2) → l1 = l2
 | [], [], _, _, _ => rfl
 | [], b :: l2, _, _, h => by have := (h b).2 (List.mem_cons_self ..); cases this
 | a :: l1, [], _, _, h => by have := (h a).1 (List.mem_cons_self ..); cases this
 | a :: l1, b :: l2, h1, h2, h => by
  rw [List.pairwise_cons] at h1 h2
  have hab : a = b := by
   rcases List.mem_cons.1 ((h a).1 (List.mem_cons_self ..)) with e | e
   ·exact e
   ·rcases List.mem_cons.1 ((h b).2 (List.mem_cons_self ..)) with e' | e'
    ·exact e'.symm
    ·exact absurd (Std.lt_trans (h1.1 b e') (h2.1 a e)) (List.lt_irrefl a)
  subst hab
  rw [sorted_one l1 l2 h1.2 h2.2 (fun x => ⟨fun hx => ?_, fun hx => ?_⟩)]
  ·rcases List.mem_cons.1 ((h x).1 (List.mem_cons_of_mem _ hx)) with rfl | e
   ·exact absurd (h1.1 x hx) (List.lt_irrefl x)
   ·exact e
  ·rcases List.mem_cons.1 ((h x).2 (List.mem_cons_of_mem _ hx)) with rfl | e
   ·exact absurd (h2.1 x hx) (List.lt_irrefl x)
   ·exact e
theorem compact_facts (zs : List (List UInt8)) (hs : zs.Pairwise (· ≤ ·)) : ∀ m, m ≤ zs.length → (Lib.compactUpTo zs.toArray m).Pairwise (· < ·) ∧ ∀ x, x ∈ Lib.compactUpTo zs.toArray m ↔ ∃ j, j < m ∧ x = zs.toArray[j]! := by
 intro m
 induction m with
 | zero => intro _; exact ⟨by simp [Lib.compactUpTo], fun x => by simp [Lib.compactUpTo]⟩
 | succ m ih =>
  intro hm
  obtain ⟨h1, h2⟩ := ih (by omega)
  rw [Lib.compactUpTo_succ]
  have hle : ∀ i j, i ≤ j → j < zs.length → zs.toArray[i]! ≤ zs.toArray[j]! := fun i j hij hj => by
   rcases Nat.lt_or_eq_of_le hij with h | h
   ·have := List.pairwise_iff_getElem.1 hs i j (by omega) hj h
    simpa [getElem!_pos, hj, show i < zs.length by omega] using this
   ·subst h; exact Std.le_refl _
  cases hk : Lib.keeps zs.toArray m with
  | false =>
   simp only [Bool.false_eq_true, if_false, List.append_nil]
   refine ⟨h1, fun x => (h2 x).trans ⟨fun ⟨j, hj, e⟩ => ⟨j, by omega, e⟩, fun ⟨j, hj, e⟩ => ?_⟩⟩
   by_cases hjm : j < m
   ·exact ⟨j, hjm, e⟩
   ·obtain rfl : j = m := by omega
    unfold Lib.keeps at hk
    rw [decide_eq_false_iff_not] at hk
    have hk2 : j ≠ 0 ∧ zs.toArray[j]! = zs.toArray[j - 1]! := ⟨fun h => hk (.inl h), by
     by_cases h : zs.toArray[j]! = zs.toArray[j - 1]!
     ·exact h
     ·exact absurd (.inr h) hk⟩
    exact ⟨j - 1, by omega, e.trans hk2.2⟩
  | true =>
   simp only [if_true]
   unfold Lib.keeps at hk
   rw [decide_eq_true_eq] at hk
   refine ⟨List.pairwise_append.2 ⟨h1, List.pairwise_singleton .., fun a ha b hb => ?_⟩, fun x => ?_⟩
   ·rw [List.mem_singleton.1 hb]
    obtain ⟨j, hj, rfl⟩ := (h2 a).1 ha
    have hk' : zs.toArray[m]! ≠ zs.toArray[m - 1]! := by
     rcases hk with h | h
     ·omega
     ·exact h
    have q1 := hle j (m - 1) (by omega) (by omega)
    have q2 := hle (m - 1) m (by omega) (by omega)
    rcases Std.le_iff_lt_or_eq.1 q2 with h | h
    ·exact Std.lt_of_le_of_lt q1 h
    ·exact absurd h.symm hk'
   ·rw [List.mem_append, h2, List.mem_singleton]
    constructor
    ·rintro (⟨j, hj, e⟩ | e)
     ·exact ⟨j, by omega, e⟩
     ·exact ⟨m, by omega, e⟩
    ·rintro ⟨j, hj, e⟩
     by_cases hjm : j < m
     ·exact .inl ⟨j, hjm, e⟩
     ·obtain rfl : j = m := by omega
      exact .inr e
theorem sort_compact {ns : List (List Int)} (hn : ∀ z ∈ ns, Rg z) : Lib.compact ((ns.map bz).mergeSort fun x y => decide (x ≤ y)) = (sortU ns).map bz := by
 obtain ⟨zs, hzs⟩ : ∃ zs, zs = (ns.map bz).mergeSort fun x y => decide (x ≤ y) := ⟨_, rfl⟩
 have hs : zs.Pairwise (· ≤ ·) := by
  rw [hzs]
  have := List.pairwise_mergeSort (le := fun x y : List UInt8 => decide (x ≤ y)) (fun a b c h1 h2 => by simp only [decide_eq_true_eq] at h1 h2 ⊢; exact Std.le_trans h1 h2) (fun a b => by simp only [Bool.or_eq_true, decide_eq_true_eq]; exact Std.le_total) (ns.map bz)
  exact this.imp (fun h => of_decide_eq_true h)
 have hm : ∀ x, x ∈ zs ↔ x ∈ ns.map bz := fun x => by rw [hzs]; exact List.mem_mergeSort
 rw [← hzs]
 obtain ⟨c1, c2⟩ := compact_facts zs hs zs.length (Nat.le_refl _)
 obtain ⟨s1, s2⟩ := sortU_facts hn
 refine sorted_one _ _ c1 s1 (fun x => ?_)
 unfold Lib.compact
 rw [c2]
 constructor
 ·rintro ⟨j, hj, rfl⟩
  have : zs.toArray[j]! ∈ zs := by simp [getElem!_pos, hj]
  obtain ⟨z, hz, e⟩ := List.mem_map.1 ((hm _).1 this)
  exact List.mem_map.2 ⟨z, (s2 z).2 hz, e⟩
 ·intro hx
  obtain ⟨z, hz, rfl⟩ := List.mem_map.1 hx
  have := (hm (bz z)).2 (List.mem_map.2 ⟨z, (s2 z).1 hz, rfl⟩)
  obtain ⟨j, hj, e⟩ := List.getElem_of_mem this
  exact ⟨j, hj, by rw [← e]; simp [getElem!_pos, hj]⟩
end Cp
end Go.Proofs.YtnnpfoilojicjaaGreatDoor
