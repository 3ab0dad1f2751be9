import Derived.Test.YtdjdhjciealfhaaGreatDoorK3
import Derived.Test.YtdjdhjciealfhaaGreatDoorU6
import Derived.Shelf.Spec.SlicesInsert
import Derived.Shelf.Spec.SlicesInsertGrow
namespace Go.Proofs.YtdjdhjciealfhaaGreatDoor
open Go.RowKit Ch1
namespace Vf
def laysIn_ren : Go.Shelf.Ren := ⟨fun | 21 => 70 | 27 => 92 | 28 => 93 | 35 => 108 | 39 => 115 | n => n, fun | 22 => 69 | 3 => 3 | 4 => 4 | 0 => 0 | n => n, fun | n => n⟩
theorem laysIn : Go.Proofs.Lays2.n21 Tryz.prog laysIn_ren := {
  mixed := by kernel_rfl
  f21 := Tryz.func70.trans (congrArg some (by kernel_rfl))
  f27 := Tryz.func92.trans (congrArg some (by kernel_rfl))
  f28 := Tryz.func93.trans (congrArg some (by kernel_rfl))
  f35 := Tryz.func108.trans (congrArg some (by kernel_rfl))
  f39 := Tryz.func115.trans (congrArg some (by kernel_rfl))
  t0 := Tryz.underlying0
  a0 := Tryz.isAgg0
  z0 := Tryz.sizeOf0
  v0 := Tryz.zeroValue0
  t3 := Tryz.underlying3
  a3 := Tryz.isAgg3
  z3 := Tryz.sizeOf3
  v3 := Tryz.zeroValue3
  t4 := Tryz.underlying4
  a4 := Tryz.isAgg4
  z4 := Tryz.sizeOf4
  v4 := Tryz.zeroValue4
  t22 := Tryz.underlying69
  a22 := Tryz.isAgg69
  z22 := Tryz.sizeOf69
  v22 := Tryz.zeroValue69
  i3 := by kernel_rfl }
/-- A number put in at a place. -/
def insAt (xs : List Nat) (i x : Nat) : List Nat := xs.take i ++ x :: xs.drop i
theorem insAt_len (xs : List Nat) (i x : Nat) (_hi : i ≤ xs.length) : (insAt xs i x).length = xs.length + 1 := by simp [insAt]; omega
theorem insAt_get (xs : List Nat) (i x k : Nat) (hi : i ≤ xs.length) : (insAt xs i x)[k]? = if k < i then xs[k]? else if k = i then some x else xs[k - 1]? := by
  unfold insAt
  have hl : (xs.take i).length = i := by rw [List.length_take]; omega
  by_cases h1 : k < i
  · rw [if_pos h1, List.getElem?_append_left (by omega), List.getElem?_take, if_pos h1]
  · rw [if_neg h1, List.getElem?_append_right (by omega), hl]
    by_cases h2 : k = i
    · rw [if_pos h2, h2, Nat.sub_self]; rfl
    · rw [if_neg h2, show k - i = (k - i - 1) + 1 by omega, List.getElem?_cons_succ, List.getElem?_drop, show i + (k - i - 1) = k - 1 by omega]
theorem Iv_get (xs : List Nat) (k : Nat) : (Iv xs)[k]? = xs[k]?.map (fun v : Nat => Value.int .i64 (v : Int)) := by simp [Iv]
theorem Iv_len (xs : List Nat) : (Iv xs).length = xs.length := by simp [Iv]
theorem Iv_one (xs : List Nat) : ∀ v ∈ Iv xs, v.oneCell' = true := by simp [Iv, Value.oneCell']
theorem own_ins {w' : World} {g cap B i x : Nat} {arr : Array Value} {xs : List Nat} (hi : i ≤ xs.length) (hg : w'.heap[g]? = some (.cells arr 3)) (hsz : arr.size = cap) (hcap : xs.length + 1 ≤ cap) (hm : cap ≤ maxLen) (hB : B ≤ g) (h : ∀ k, k < xs.length + 1 → arr[k]? = (Iv (insAt xs i x))[k]?) : OwI w' B (.slice (some ⟨g, 0, none⟩) (xs.length + 1) cap) (insAt xs i x) := by
  unfold OwI
  rw [insAt_len xs i x hi]
  refine ⟨by rw [Iv_len, insAt_len xs i x hi]; omega, Or.inr ⟨g, cap, arr, rfl, hB, hg, hcap, hm, by omega, ?_⟩⟩
  apply List.ext_getElem?
  intro k
  rw [List.getElem?_take]
  by_cases hk : k < (xs.length + 1) * 1
  · rw [if_pos hk, Array.getElem?_toList]
    exact h k (by omega)
  · rw [if_neg hk, List.getElem?_eq_none (by rw [Iv_len, insAt_len xs i x hi]; omega)]
theorem own_cur {w : World} {B g n c : Nat} {xs : List Nat} (h : OwI w B (.slice (some ⟨g, 0, none⟩) n c) xs) : xs.length = n ∧ n ≤ c ∧ c ≤ maxLen ∧ B ≤ g ∧ ∃ cur : Array Value, w.heap[g]? = some (.cells cur 3) ∧ cur.size = c ∧ ∀ k, k < n → cur[k]? = (Iv xs)[k]? := by
  obtain ⟨p', c', e⟩ := owns_form h
  cases e
  obtain ⟨_, ⟨hv, h0⟩ | ⟨g', cap, cur, hv, hg, hh, h1, h2, h3, h4⟩⟩ := h
  · cases hv
  · cases hv
    refine ⟨rfl, h1, h2, hg, cur, hh, by omega, fun k hk => ?_⟩
    rw [← h4, List.getElem?_take, if_pos (by omega), Array.getElem?_toList]
theorem zero_size (n : Nat) : (Builtin.zeroCells (Value.int .i64 0).cells n).size = n := by
  have hz : (Value.int .i64 0).cells = #[.int .i64 0] := rfl
  rw [hz]
  simp [Builtin.zeroCells]
end Vf
end Go.Proofs.YtdjdhjciealfhaaGreatDoor
namespace Go.Proofs.YtdjdhjciealfhaaGreatDoor
open Go.RowKit Ch1
namespace Vf
/-- What Insert leaves. -/
def InP (B : Nat) (v : Value) (xs : List Nat) (i x : Nat) (w w' : World) (e : Ending) : Prop := ∃ v', e = .returned v' ∧ OwI w' B v' (insAt xs i x) ∧ Below B w w' ∧ But w w' v ∧ (∀ k, v'.ownBlock = some k → v.ownBlock = some k ∨ w.heap.size ≤ k)
theorem but_set {w w1 : World} {g n c : Nat} (vs : List Value) (o : Nat) (h : But w w1 (.slice (some ⟨g, 0, none⟩) n c)) : But w (w1.setCells g o vs) (.slice (some ⟨g, 0, none⟩) n c) := fun k hk hne => by
  rw [heap_setCells_ne g (fun e => hne (by rw [e]; rfl))]
  exact h k hk hne
theorem OwI.nil_or' {w : World} {B n c : Nat} {p : Option Addr} {xs : List Nat} (h : OwI w B (.slice p n c) xs) : (p = none ∧ n = 0 ∧ c = 0) ∨ ∃ g, p = some ⟨g, 0, none⟩ := by
  obtain ⟨_, ⟨hv, h0⟩ | ⟨g, cap, cur, hv, _⟩⟩ := h
  · cases hv
    exact Or.inl ⟨rfl, rfl, rfl⟩
  · cases hv
    exact Or.inr ⟨g, rfl⟩
/-- slices.Insert of one number into a row of the call's own. -/
theorem insert_c (B : Nat) (p : Option Addr) (n c i x vb : Nat) (xs : List Nat) (w : World) (hown : OwI w B (.slice p n c) xs) (hi : i ≤ n) (hn : n ≤ 1000000) (hB : B ≤ w.heap.size) (hv : w.heap[vb]? = some (.cells #[.int .i64 (x : Nat)] 3)) (hvb : ∀ g, p = some g → vb ≠ g.block) :
    Calls Tryz.prog 70 #[.slice p n c, .int .i64 (i : Nat), .slice (some ⟨vb, 0, none⟩) 1 1] w fun e w' => InP B (.slice p n c) xs i x w w' e := by
  have hvs : ∀ j u, ([Value.int .i64 (x : Nat)] : List Value)[j]? = some u → w.cell? ⟨vb, 0 + j, none⟩ = some u := fun j u hu => by
    cases j with
    | zero => cases hu; simp [World.cell?, hv]
    | succ j => cases hu
  have h1v : ∀ u ∈ ([Value.int .i64 (x : Nat)] : List Value), u.oneCell' = true := by simp [Value.oneCell']
  have hxl : xs.length = n := hown.cell.1
  rcases hown.nil_or' with ⟨rfl, rfl, rfl⟩ | ⟨g, rfl⟩
  · obtain rfl : xs = [] := List.length_eq_zero_iff.1 hxl
    obtain rfl : i = 0 := by omega
    refine (Any2.slices_Insert_int_end_grow laysIn none 0 0 vb 0 1 1 [] [.int .i64 (x : Nat)] w (by omega) (Nat.le_refl _) (by omega) (by omega) rfl rfl (fun _ => rfl) (fun a e => by cases e) hvs h1v).mono ?_
    rintro e w' ⟨rfl, rfl⟩
    have hcap := grownCap_ge w (0 + 1) 0 3
    have hmx := grownCap_le_maxLen w (0 + 1) 0 3 (by unfold maxLen; omega)
    show InP B _ [] 0 x w (w.drew.alloc (.cells (([] ++ [Value.int .i64 (x : Nat)]).toArray ++ Builtin.zeroCells (Value.int .i64 0).cells (grownCap w (0 + 1) 0 3 - (0 + 1))) 3)) (.returned (.slice (some ⟨w.heap.size, 0, none⟩) (0 + 1) (grownCap w (0 + 1) 0 3)))
    refine ⟨_, rfl, own_ins (xs := []) (i := 0) (x := x) (by simp) (Go.Deep.blk_alloc_new w.drew _) ?_ hcap hmx hB ?_, (below_drewM (Below.refl B w)).trans ((below1 _ _).mono hB), fun k hk _ => (below1 w.drew _).block k hk, fun k hk => by cases hk; exact Or.inr (Nat.le_refl _)⟩
    · simp only [Array.size_append, zero_size, List.size_toArray, List.length_append, List.length_nil, List.length_cons]
      omega
    · intro k hk
      obtain rfl : k = 0 := by simpa using hk
      rw [Array.getElem?_append_left (by simp)]
      rfl
  · obtain ⟨_, hnc, hcm, hBg, cur, hh, hcs, hck⟩ := own_cur hown
    have hgl : g < w.heap.size := (Array.getElem?_eq_some_iff.1 hh).1
    have hvg : vb ≠ g := hvb _ rfl
    have hcell : ∀ j u, (Iv xs)[j]? = some u → w.cell? ⟨g, 0 + j, none⟩ = some u := fun j u hu => by
      have hj : j < n := by have := (List.getElem?_eq_some_iff.1 hu).1; rw [Iv_len] at this; omega
      have := hck j hj
      simp only [World.cell?, hh, Nat.zero_add]
      rw [this]
      exact hu
    by_cases hin : i = n
    · subst hin
      by_cases hroom : i + 1 ≤ c
      · refine (Any2.slices_Insert_int_end_room laysIn g 0 i c vb 0 1 1 [.int .i64 (x : Nat)] w (by omega) hroom (by unfold maxLen at hcm; omega) rfl (fun j hj => ?_) (fun j _ => by simp [World.frozen?, hh]) hvs h1v).mono ?_
        · have : 0 + i + j < cur.size := by omega
          simp only [World.cell?, hh]
          rw [Array.getElem?_eq_getElem this]
          rfl
        rintro e w' ⟨rfl, rfl⟩
        obtain ⟨arr, ha, hs, hk⟩ := heap_setCells g 3 [.int .i64 (x : Nat)] (0 + i) w cur hh
        rw [← hxl] at *
        refine ⟨_, rfl, own_ins (Nat.le_refl _) ha (by omega) (by omega) hcm hBg (fun k hk1 => ?_), Below.setCells hBg _ _ _ (Below.refl B w), but_set _ _ (fun _ _ _ => rfl), fun k hk => Or.inl hk⟩
        rw [hk, Iv_get, insAt_get _ _ _ _ (Nat.le_refl _)]
        by_cases h1 : k < xs.length
        · rw [if_neg (by omega), if_pos h1, hck k h1, Iv_get]
        · obtain rfl : k = xs.length := by omega
          rw [if_pos (by simp; omega), if_neg (by omega), if_pos rfl, Nat.zero_add, Nat.sub_self]
          rfl
      · refine (Any2.slices_Insert_int_end_grow laysIn (some ⟨g, 0, none⟩) i c vb 0 1 1 (Iv xs) [.int .i64 (x : Nat)] w (by omega) hnc (by omega) (by omega) (by rw [Iv_len]; exact hxl) rfl (fun e => by cases e) (fun a e j u hu => by cases e; rw [Addr.add_mid]; exact hcell j u hu) hvs h1v).mono ?_
        rintro e w' ⟨rfl, rfl⟩
        have hcap := grownCap_ge w (i + 1) c 3
        have hmx := grownCap_le_maxLen w (i + 1) c 3 (by unfold maxLen; omega)
        show InP B _ xs i x w (w.drew.alloc (.cells ((Iv xs ++ [Value.int .i64 (x : Nat)]).toArray ++ Builtin.zeroCells (Value.int .i64 0).cells (grownCap w (i + 1) c 3 - (i + 1))) 3)) (.returned (.slice (some ⟨w.heap.size, 0, none⟩) (i + 1) (grownCap w (i + 1) c 3)))
        rw [← hxl] at *
        refine ⟨_, rfl, own_ins (Nat.le_refl _) (Go.Deep.blk_alloc_new w.drew _) ?_ hcap hmx hB ?_, (below_drewM (Below.refl B w)).trans ((below1 _ _).mono hB), fun k hk _ => (below1 w.drew _).block k hk, fun k hk => by cases hk; exact Or.inr (Nat.le_refl _)⟩
        · simp only [Array.size_append, zero_size, List.size_toArray, List.length_append, Iv_len, List.length_nil, List.length_cons]
          omega
        · intro k hk1
          rw [Array.getElem?_append_left (by simp [Iv_len]; omega), List.getElem?_toArray, Iv_get, insAt_get _ _ _ _ (Nat.le_refl _)]
          by_cases h1 : k < xs.length
          · rw [List.getElem?_append_left (by rw [Iv_len]; exact h1), if_pos h1, Iv_get]
          · obtain rfl : k = xs.length := by omega
            rw [List.getElem?_append_right (by rw [Iv_len]; omega), Iv_len, if_neg (by omega), if_pos rfl, Nat.sub_self]
            rfl
    · have hilt : i < n := by omega
      by_cases hroom : n + 1 ≤ c
      · refine (Any2.slices_Insert_int_shift laysIn g 0 n c i vb 0 1 1 (Iv xs) [.int .i64 (x : Nat)] w hilt (by omega) hroom (by unfold maxLen at hcm; omega) hvg (by rw [Iv_len]; exact hxl) rfl hcell (fun j hj => ?_) (fun j _ => by simp [World.frozen?, hh]) hvs (Iv_one xs) h1v 3 3 1 c (by simp [World.shape?, hv]) (by simp [World.shape?, hh, hcs]) (by omega) (by simp [World.frozen?, hv]) (by simp [World.frozen?, hv])).mono ?_
        · have : 0 + j < cur.size := by omega
          simp [World.cell?, hh, show j < cur.size by omega]
        rintro e w' ⟨rfl, rfl⟩
        obtain ⟨arr1, ha1, hs1, hk1⟩ := heap_setCells g 3 ((Iv xs).drop i) (0 + (i + 1)) w.drew cur hh
        obtain ⟨arr, ha, hs, hk⟩ := heap_setCells g 3 [.int .i64 (x : Nat)] (0 + i) _ arr1 ha1
        rw [← hxl] at *
        refine ⟨_, rfl, own_ins (i := i) (by omega) ha (by omega) (by omega) hcm hBg (fun k hk0 => ?_), Below.setCells hBg _ _ _ (Below.setCells hBg _ _ _ (below_drewM (Below.refl B w))), but_set _ _ (but_set _ _ (fun _ _ _ => rfl)), fun k hk => Or.inl hk⟩
        rw [hk, Iv_get, insAt_get _ _ _ _ (by omega)]
        have hdl : ((Iv xs).drop i).length = xs.length - i := by rw [List.length_drop, Iv_len]
        by_cases h1 : k < i
        · rw [if_neg (by omega), hk1, if_neg (by omega), if_pos h1, hck k (by omega), Iv_get]
        · rw [if_neg h1]
          by_cases h2 : k = i
          · subst h2
            rw [if_pos (by simp; omega), if_pos rfl, Nat.zero_add, Nat.sub_self]
            rfl
          · rw [if_neg (by simp; omega), if_neg h2, hk1, if_pos (by omega), List.getElem?_drop, Iv_get, show i + (k - (0 + (i + 1))) = k - 1 by omega]
      · refine (Any2.slices_Insert_int_grow laysIn g 0 n c i vb 0 1 1 (Iv xs) [.int .i64 (x : Nat)] w hilt (by omega) hnc (by omega) (by omega) (by rw [Iv_len]; exact hxl) rfl hcell hvs (Iv_one xs) h1v).mono ?_
        rintro e w' ⟨rfl, rfl⟩
        have hcap := grownCap_ge w (n + 1) c 3
        have hmx := grownCap_le_maxLen w (n + 1) c 3 (by unfold maxLen; omega)
        obtain ⟨arr0, h0⟩ : ∃ arr0 : Array Value, arr0 = ((Iv xs).take i).toArray ++ Builtin.zeroCells (Value.int .i64 0).cells (n + 1 - i) ++ Builtin.zeroCells (Value.int .i64 0).cells (grownCap w (n + 1) c 3 - (n + 1)) := ⟨_, rfl⟩
        have hs0 : arr0.size = grownCap w (n + 1) c 3 := by
          rw [h0]
          simp only [Array.size_append, zero_size, List.size_toArray, List.length_take, Iv_len]
          omega
        have hk0 : ∀ k, k < i → arr0[k]? = (Iv xs)[k]? := fun k hk => by
          rw [h0, Array.getElem?_append_left (by simp only [Array.size_append, zero_size, List.size_toArray, List.length_take, Iv_len]; omega), Array.getElem?_append_left (by simp only [List.size_toArray, List.length_take, Iv_len]; omega), List.getElem?_toArray, List.getElem?_take, if_pos hk]
        have hA0 : (w.alloc (.cells arr0 3)).drew.heap[w.heap.size]? = some (.cells arr0 3) := Go.Deep.blk_alloc_new w _
        obtain ⟨arr1, ha1, hs1, hk1⟩ := heap_setCells w.heap.size 3 [.int .i64 (x : Nat)] i (w.alloc (.cells arr0 3)).drew arr0 hA0
        have hA1 : ((w.alloc (.cells arr0 3)).drew.setCells w.heap.size i [.int .i64 (x : Nat)]).drew.heap[w.heap.size]? = some (.cells arr1 3) := ha1
        obtain ⟨arr, ha, hs, hk⟩ := heap_setCells w.heap.size 3 ((Iv xs).drop i) (i + 1) _ arr1 hA1
        show InP B _ xs i x w ((((w.alloc (.cells (((Iv xs).take i).toArray ++ Builtin.zeroCells (Value.int .i64 0).cells (n + 1 - i) ++ Builtin.zeroCells (Value.int .i64 0).cells (grownCap w (n + 1) c 3 - (n + 1))) 3)).drew.setCells w.heap.size i [.int .i64 (x : Nat)]).drew).setCells w.heap.size (i + 1) ((Iv xs).drop i)) (.returned (.slice (some ⟨w.heap.size, 0, none⟩) (n + 1) (grownCap w (n + 1) c 3)))
        rw [← h0]
        clear h0
        rw [← hxl] at *
        refine ⟨_, rfl, own_ins (i := i) (by omega) ha (by omega) hcap hmx hB (fun k hk2 => ?_), Below.setCells hB _ _ _ (below_drewM (Below.setCells hB _ _ _ (below_drewM ((Below.refl B w).trans ((below1 _ _).mono hB))))), fun k hk2 _ => ?_, fun k hk => by cases hk; exact Or.inr (Nat.le_refl _)⟩
        · rw [hk, Iv_get, insAt_get _ _ _ _ (by omega)]
          have hdl : ((Iv xs).drop i).length = xs.length - i := by rw [List.length_drop, Iv_len]
          by_cases h1 : k < i
          · rw [if_neg (by omega), hk1, if_neg (by omega), if_pos h1, hk0 k h1, Iv_get]
          · rw [if_neg h1]
            by_cases h2 : k = i
            · subst h2
              rw [if_neg (by omega), if_pos rfl, hk1, if_pos (by simp; omega), Nat.sub_self]
              rfl
            · rw [if_neg h2, if_pos (by omega), List.getElem?_drop, Iv_get, show i + (k - (i + 1)) = k - 1 by omega]
        · rw [heap_setCells_ne _ (by omega)]
          show ((w.alloc (.cells arr0 3)).drew.setCells w.heap.size i [.int .i64 (x : Nat)]).heap[k]? = _
          rw [heap_setCells_ne _ (by omega)]
          exact (below1 w _).block k hk2
end Vf
end Go.Proofs.YtdjdhjciealfhaaGreatDoor
