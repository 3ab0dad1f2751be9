import Derived.Test.YtdjdhjciealfhaaGreatDoorKd
import Derived.Test.YtdjdhjciealfhaaGreatDoorShelfV
namespace Go.Proofs.YtdjdhjciealfhaaGreatDoor
open Go.RowKit Ch1
namespace Vf
theorem below_drewN {B : Nat} {a w : World} (h : Below B a w) (q : Nat) : Below B a (w.drewN q) := ⟨h.os, h.tape, h.output, h.size, h.block⟩
def ltN (x : Nat) (xs : List Nat) : Nat := xs.countP (fun y => decide (y < x))
theorem sorted_lt {xs : List Nat} (h : xs.Pairwise (· < ·)) (x : Nat) : ∀ k, k < xs.length → (k < ltN x xs ↔ xs.getD k 0 < x) := by
  induction xs with
  | nil => intro k hk; simp at hk
  | cons a r ih =>
    intro k hk
    rw [List.pairwise_cons] at h
    unfold ltN at *
    rw [List.countP_cons]
    by_cases ha : a < x
    · simp only [decide_eq_true ha, if_true]
      cases k with
      | zero => simp [ha]
      | succ k =>
        have := ih h.2 k (by simpa using hk)
        simp only [List.getD_cons_succ]
        omega
    · have h0 : List.countP (fun y => decide (y < x)) r = 0 := by
        rw [List.countP_eq_zero]
        intro y hy
        have := h.1 y hy
        simp
        omega
      simp only [decide_eq_false ha, h0]
      cases k with
      | zero => simp; omega
      | succ k =>
        have hk' : k < r.length := by simpa using hk
        have := h.1 (r[k]) (List.getElem_mem hk')
        simp [List.getD, List.getElem?_eq_getElem hk']
        omega
theorem ltN_le (x : Nat) (xs : List Nat) : ltN x xs ≤ xs.length := List.countP_le_length
theorem ins_sorted {xs : List Nat} (h : xs.Pairwise (· < ·)) {x : Nat} (hx : x ∉ xs) : (insAt xs (ltN x xs) x).Pairwise (· < ·) := by
  have hs := sorted_lt h x
  have hle := ltN_le x xs
  unfold insAt
  rw [List.pairwise_append, List.pairwise_cons]
  have hd : ∀ y ∈ xs.drop (ltN x xs), x < y := fun y hy => by
    obtain ⟨k, hk, rfl⟩ := List.mem_iff_getElem.1 hy
    rw [List.length_drop] at hk
    have h1 := hs (ltN x xs + k) (by omega)
    rw [List.getElem_drop]
    have hlt : ltN x xs + k < xs.length := by omega
    have e : xs.getD (ltN x xs + k) 0 = xs[ltN x xs + k] := by simp [List.getD, List.getElem?_eq_getElem hlt]
    rw [e] at h1
    have hne : xs[ltN x xs + k] ≠ x := fun e2 => hx (by rw [← e2]; exact List.getElem_mem hlt)
    omega
  have ht : ∀ y ∈ xs.take (ltN x xs), y < x := fun y hy => by
    obtain ⟨k, hk, rfl⟩ := List.mem_iff_getElem.1 hy
    rw [List.length_take] at hk
    have h1 := hs k (by omega)
    rw [List.getElem_take]
    have hlt : k < xs.length := by omega
    have e : xs.getD k 0 = xs[k] := by simp [List.getD, List.getElem?_eq_getElem hlt]
    rw [e] at h1
    omega
  refine ⟨h.sublist (List.take_sublist _ _), ⟨hd, h.sublist (List.drop_sublist _ _)⟩, fun a ha b hb => ?_⟩
  have h1 := ht a ha
  rcases List.mem_cons.1 hb with rfl | hb
  · exact h1
  · have := hd b hb
    omega
theorem ins_mem {xs : List Nat} {i x y : Nat} : y ∈ insAt xs i x ↔ y = x ∨ y ∈ xs := by
  unfold insAt
  rw [List.mem_append, List.mem_cons]
  constructor
  · rintro (h | h | h)
    · exact Or.inr (List.mem_of_mem_take h)
    · exact Or.inl h
    · exact Or.inr (List.mem_of_mem_drop h)
  · rintro (h | h)
    · exact Or.inr (Or.inl h)
    · rw [← List.take_append_drop i xs, List.mem_append] at h
      rcases h with h | h
      · exact Or.inl h
      · exact Or.inr (Or.inr h)
/-- The work list in its block. -/
structure Wl (w : World) (B Lb : Nat) (v : Value) (xs : List Nat) : Prop where
  box : w.heap[Lb]? = some (.cells #[v] 93)
  own : OwI w B v xs
  srt : xs.Pairwise (· < ·)
theorem Wl.below {w w' : World} {B Lb : Nat} {v : Value} {xs : List Nat} (h : Wl w B Lb v xs) (hb : Below w.heap.size w w') : Wl w' B Lb v xs := ⟨(hb.block Lb (Array.getElem?_eq_some_iff.1 h.box).1).trans h.box, h.own.below hb, h.srt⟩
theorem Wl.lt {w : World} {B Lb : Nat} {v : Value} {xs : List Nat} (h : Wl w B Lb v xs) : Lb < w.heap.size := (Array.getElem?_eq_some_iff.1 h.box).1
/-- No block has turned but the list's two. -/
def Wf (Lb : Nat) (v : Value) (w w' : World) : Prop := ∀ k, k < w.heap.size → k ≠ Lb → some k ≠ v.ownBlock → w'.heap[k]? = w.heap[k]?
/-- What add leaves. -/
def AdP (B Lb : Nat) (v : Value) (xs : List Nat) (x : Nat) (w w' : World) (e : Ending) : Prop := (∃ u, e = .returned u) ∧ ∃ v' xs', Wl w' B Lb v' xs' ∧ (∀ y, y ∈ xs' ↔ y = x ∨ y ∈ xs) ∧ xs'.length ≤ xs.length + 1 ∧ Wf Lb v w w' ∧ (∀ B0, B0 ≤ B → B0 ≤ Lb → Below B0 w w') ∧ (∀ k, v'.ownBlock = some k → v.ownBlock = some k ∨ w.heap.size ≤ k)
end Vf
end Go.Proofs.YtdjdhjciealfhaaGreatDoor
namespace Go.Proofs.YtdjdhjciealfhaaGreatDoor
open Go.RowKit Ch1
namespace Vf
theorem intP {xs : List Nat} (h : xs.Pairwise (· < ·)) : (xs.map (fun v : Nat => (v : Int))).Pairwise (· ≤ ·) := by
  rw [List.pairwise_map]
  exact h.imp (fun h => by omega)
theorem int_count (x : Nat) (xs : List Nat) : ((xs.map (fun v : Nat => (v : Int))).countP (· < (x : Int))) = ltN x xs := by
  unfold ltN
  rw [List.countP_map]
  congr 1
  funext y
  simp
theorem int_mem (x : Nat) (xs : List Nat) : ((xs.map (fun v : Nat => (v : Int))).contains (x : Int)) = decide (x ∈ xs) := by
  rw [Bool.eq_iff_iff]
  simp only [List.contains_iff_mem, List.mem_map, decide_eq_true_iff]
  constructor
  · rintro ⟨a, ha, e⟩
    rw [← show a = x by omega]
    exact ha
  · exact fun h => ⟨x, h, rfl⟩
theorem int_getD (xs : List Nat) (j : Nat) : (xs.map (fun v : Nat => (v : Int))).getD j 0 = ((xs.getD j 0 : Nat) : Int) := by
  rw [List.getD_eq_getElem?_getD, List.getD_eq_getElem?_getD, List.getElem?_map]
  cases xs[j]? <;> rfl
/-- slices.BinarySearch on a row of numbers of the call's own. -/
theorem bs_c (B : Nat) (p : Option Addr) (n c x : Nat) (xs : List Nat) (w : World) (hown : OwI w B (.slice p n c) xs) (hs : xs.Pairwise (· < ·)) (hn : n ≤ 1000000) :
    Calls Tryz.prog 69 #[.slice p n c, .int .i64 (x : Nat)] w fun e w' => e = .returned (.tuple #[.int .i64 (ltN x xs : Nat), .bool (decide (x ∈ xs))]) ∧ ∃ q, w' = w.drewN q := by
  have hxl : xs.length = n := hown.cell.1
  by_cases h0 : n = 0
  · subst h0
    obtain rfl : xs = [] := List.length_eq_zero_iff.1 hxl
    refine (bsearch0 p c (x : Nat) w).mono ?_
    rintro e w' ⟨rfl, rfl⟩
    exact ⟨rfl, 0, rfl⟩
  · obtain ⟨_, _, _, hc⟩ := hown.cell
    obtain ⟨g, rfl, hg, _, hcl⟩ := hc (by omega)
    have hml : (xs.map (fun v : Nat => (v : Int))).length = n := by rw [List.length_map]; exact hxl
    refine (bsearch g 0 n c (xs.map (fun v : Nat => (v : Int))) (x : Nat) w (by omega) (by omega) (fun j hj => by rw [Nat.zero_add, int_getD]; exact hcl j (by omega)) (by rw [List.take_of_length_le (by omega)]; exact intP hs)).mono ?_
    rintro e w' ⟨rfl, q, rfl⟩
    refine ⟨?_, q, rfl⟩
    rw [List.take_of_length_le (by omega), int_count, int_mem]
theorem Wl.cell {w : World} {B Lb : Nat} {v : Value} {xs : List Nat} (h : Wl w B Lb v xs) : w.cell? ⟨Lb, 0, none⟩ = some v ∧ w.frozen? ⟨Lb, 0, none⟩ = false := by
  have := h.box
  exact ⟨by simp [World.cell?, this], by simp [World.frozen?, this]⟩
set_option maxRecDepth 20000 in
set_option maxHeartbeats 4000000 in
/-- workList.add. -/
theorem add_c (B Lb : Nat) (v : Value) (xs : List Nat) (x : Nat) (w : World) (h : Wl w B Lb v xs) (hn : xs.length ≤ 1000000) (hB : B ≤ w.heap.size) :
    Calls Tryz.prog 44 #[.pointer (some ⟨Lb, 0, none⟩), .int .i64 (x : Nat)] w fun e w' => AdP B Lb v xs x w w' e := by
  obtain ⟨p, c, rfl⟩ := h.own.form
  obtain ⟨n, hxn⟩ : ∃ n, n = xs.length := ⟨_, rfl⟩
  rw [← hxn] at h hn ⊢
  have HW := mkD h
  obtain ⟨c0, f0⟩ := h.cell
  have hlt := h.lt
  have HBS := mkD (bs_c B p n c x xs w h.own h.srt hn)
  have HXN := mkD hxn
  obtain ⟨pl, hpl⟩ : ∃ pl, pl = ltN x xs := ⟨_, rfl⟩
  have HPL := mkD hpl
  rw [← hpl] at HBS
  obtain ⟨fd, hfd⟩ : ∃ fd, fd = decide (x ∈ xs) := ⟨_, rfl⟩
  have HFD := mkD hfd
  rw [← hfd] at HBS
  clear h hxn hpl hfd
  go_enter Tryz.func44, Tryz.ntmps44
  go_wp2_with fail
  refine HBS.out.mono ?_
  rintro e w2 ⟨rfl, q, rfl⟩
  have HBD : Hid (Below w.heap.size w (w.drewN q)) := below_drewN (Below.refl _ _) q
  clear HBS
  cases fd
  · have HNI : Hid (x ∉ xs) := fun hm => by have := HFD.out; rw [decide_eq_true hm] at this; cases this
    have hpn : pl ≤ n := by rw [HPL.out, HXN.out]; exact ltN_le x xs
    have HWA : Hid (Wl ((w.drewN q).alloc (.cells #[.int .i64 (x : Nat)] 3)) B Lb (.slice p n c) xs) := (HW.out.below HBD.out).below (below1 _ _)
    have HIN := mkD (insert_c B p n c pl x w.heap.size xs ((w.drewN q).alloc (.cells #[.int .i64 (x : Nat)] 3)) HWA.out.own hpn hn (Nat.le_trans hB (below1 (w.drewN q) _).size) (Go.Deep.blk_alloc_new (w.drewN q) _) (fun g hg => by
      have h1 := (owns_lt HW.out.own g.block (by rw [hg]; rfl)).1
      omega))
    go_wp2_with fail
    refine HIN.out.mono ?_
    rintro e w3 ⟨v', rfl, ho, hb, hbt, hob⟩
    obtain ⟨p', c', hv'⟩ := ho.form
    rw [insAt_len xs pl x (by rw [← HXN.out]; exact hpn), ← HXN.out] at hv'
    subst hv'
    have HBX : Hid (w3.heap[Lb]? = some (.cells #[.slice p n c] 93)) := (hbt Lb HWA.out.lt (owns_ne HWA.out.own HWA.out.box (by decide))).trans HWA.out.box
    have HBX2 : Hid (∀ u, (w3.setCell ⟨Lb, 0, none⟩ u).heap[Lb]? = some (.cells #[u] 93)) := fun u => by simp [World.setCell, Array.getElem?_modify, HBX.out]
    have k0 : w3.cell? ⟨Lb, 0, none⟩ = some (.slice p n c) := by simp [World.cell?, HBX.out]
    have k1 : w3.frozen? ⟨Lb, 0, none⟩ = false := by simp [World.frozen?, HBX.out]
    have HFIN : Hid (AdP B Lb (.slice p n c) xs x w (w3.setCell ⟨Lb, 0, none⟩ (.slice p' (n + 1) c')) (.returned (.tuple #[]))) := by
      refine ⟨⟨_, rfl⟩, .slice p' (n + 1) c', insAt xs pl x, ⟨HBX2.out _, owns_set ho HBX.out (by decide) _, by rw [HPL.out]; exact ins_sorted HW.out.srt HNI.out⟩, fun y => ins_mem, by rw [insAt_len xs pl x (by rw [← HXN.out]; exact hpn)]; omega, fun k hk h1 h2 => ?_, fun B0 h1 h2 => ?_, fun k hk => by rcases hob k hk with h | h; exact Or.inl h; exact Or.inr (Nat.le_trans (below1 (w.drewN q) _).size h)⟩
      · rw [Below.heap_setCell _ _ _ k (by simp only; exact h1), hbt k (by simp; exact Nat.lt_succ_of_lt hk) h2]
        exact (below1 (w.drewN q) _).block k hk
      · refine Below.setCell ?_ (by simp only; exact h2) _
        exact ((below_drewN (Below.refl B0 w) q).trans ((below1 (w.drewN q) _).mono (Nat.le_trans h1 hB))).trans (hb.mono h1)
    clear ho hb hbt HIN c0 f0
    go_wp2_with fail
    go_end0
    exact HFIN.out
  · have HYI : Hid (x ∈ xs) := by unfold Hid; have h1 := HFD.out; exact of_decide_eq_true h1.symm
    go_wp2_with fail
    go_end0
    exact ⟨⟨_, rfl⟩, _, xs, HW.out.below HBD.out, fun y => ⟨fun h => Or.inr h, fun h => by rcases h with h | h; rw [h]; exact HYI.out; exact h⟩, Nat.le_succ _, fun k _ _ _ => rfl, fun B0 _ _ => below_drewN (Below.refl B0 w) q, fun k hk => Or.inl hk⟩
end Vf
end Go.Proofs.YtdjdhjciealfhaaGreatDoor
namespace Go.Proofs.YtdjdhjciealfhaaGreatDoor
open Go.RowKit Ch1
namespace Vf
/-- slices.Delete of the first number. -/
theorem del_c (B : Nat) (p : Option Addr) (n c x : Nat) (r : List Nat) (w : World) (hown : OwI w B (.slice p n c) (x :: r)) :
    Calls Tryz.prog 72 #[.slice p n c, .int .i64 0, .int .i64 1] w fun e w' => e = .returned (.slice p r.length c) ∧ OwI w' B (.slice p r.length c) r ∧ But w w' (.slice p n c) ∧ w'.heap.size = w.heap.size ∧ (∀ B0, B0 ≤ B → Below B0 w w') := by
  have hxl : (x :: r).length = n := hown.cell.1
  rw [List.length_cons] at hxl
  obtain ⟨_, _, _, hc⟩ := hown.cell
  obtain ⟨g, rfl, hg, hBg, hcl⟩ := hc (by omega)
  obtain ⟨_, hnc, hcm, _, cur, hh, hcs, hck⟩ := own_cur hown
  have hml : ((x :: r).map (fun v : Nat => (v : Int))).length = n := by rw [List.length_map, List.length_cons]; exact hxl
  refine (delete_int g 0 n c 0 1 ((x :: r).map (fun v : Nat => (v : Int))) w (by omega) hnc (by unfold maxLen at hcm; omega) (by omega) (by omega) (fun j hj => by rw [Nat.zero_add, int_getD]; exact hcl j (by omega)) (fun j _ => by simp [World.frozen?, hh])).mono ?_
  rintro e w' ⟨rfl, q, rfl⟩
  have hv : (List.map (Value.int .i64) (List.take 0 (List.take n ((x :: r).map (fun v : Nat => (v : Int)))) ++ List.drop 1 (List.take n ((x :: r).map (fun v : Nat => (v : Int)))) ++ List.replicate (1 - 0) 0)) = Iv r ++ [Value.int .i64 0] := by
    rw [List.take_of_length_le (show ((x :: r).map (fun v : Nat => (v : Int))).length ≤ n by omega)]
    simp [Iv]
  rw [hv]
  obtain ⟨arr, ha, hs, hk⟩ := heap_setCells g 3 (Iv r ++ [Value.int .i64 0]) 0 (w.drewN q) cur hh
  refine ⟨by rw [show n - (1 - 0) = r.length by omega], ?_, but_set _ _ (fun _ _ _ => rfl), by rw [size_setCells]; rfl, fun B0 h0 => Below.setCells (Nat.le_trans h0 hBg) _ _ _ (below_drewN (Below.refl B0 w) q)⟩
  refine ⟨by rw [Iv_len]; omega, Or.inr ⟨g, c, arr, rfl, hBg, ha, by omega, hcm, by omega, ?_⟩⟩
  apply List.ext_getElem?
  intro k
  rw [List.getElem?_take]
  by_cases hkr : k < r.length * 1
  · rw [if_pos hkr, Array.getElem?_toList, hk, if_pos (by rw [List.length_append, Iv_len]; simp; omega), Nat.sub_zero, List.getElem?_append_left (by rw [Iv_len]; omega)]
  · rw [if_neg hkr, List.getElem?_eq_none (by rw [Iv_len]; omega)]
theorem least_ex {q : Nat → Prop} (h : ∃ M, q M) : ∃ m, q m ∧ ∀ k, q k → m ≤ k := by
  obtain ⟨M, hM⟩ := h
  revert hM
  induction M using Nat.strongRecOn with
  | ind M ih =>
    intro hM
    by_cases hk : ∃ k, k < M ∧ q k
    · obtain ⟨k, h1, h2⟩ := hk
      exact ih k h1 h2
    · exact ⟨M, hM, fun k hq => Nat.le_of_not_lt (fun h1 => hk ⟨k, h1, hq⟩)⟩
/-- A measure read off the world: the least at which it holds. -/
theorem ex_msr (J : Nat → World → Prop) : ∃ mf : World → Nat, ∀ W, (∃ M, J M W) → J (mf W) W ∧ ∀ k, J k W → mf W ≤ k := by
  classical
  refine ⟨fun W => if h : ∃ M, J M W then Classical.choose (least_ex h) else 0, fun W h => ?_⟩
  simp only [dif_pos h]
  exact Classical.choose_spec (least_ex h)
end Vf
end Go.Proofs.YtdjdhjciealfhaaGreatDoor
