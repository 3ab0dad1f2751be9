import Derived.Test.YtmmkpmgidoelpaaDoorX5
import Derived.Test.YtmmkpmgidoelpaaDoorS7
namespace Go.Proofs.YtmmkpmgidoelpaaDoor
open Go.RowKit Ch1
theorem below_drewT {B : Nat} {a w : World} (h : Below B a w) : Below B a w.drew := ⟨h.os, h.tape, h.output, h.size, h.block⟩
set_option maxRecDepth 20000 in
set_option maxHeartbeats 2000000 in
/-- Two slices of the same bytes. -/
theorem sameB_c (p q : Option Addr) (n c d : Nat) (xs : List Int) (w : World) (hx : By w p n c xs) (hy : By w q n d xs) :
    Calls Tryd.prog 11 #[.slice p n c, .slice q n d] w fun e w' => e = .returned (.bool true) ∧ Below w.heap.size w w' := by
  have HX : Hid (By w p n c xs) := hx
  have HY : Hid (By w q n d xs) := hy
  have hs : n ≤ maxLen := Nat.le_trans hx.cap hx.big
  have hs2 : n ≤ 9223372036854775807 := by unfold maxLen at hs; omega
  clear hx hy hs
  have hb : ((n : Int) != (n : Int)) = false := by simp
  go_enter Tryd.func11, Tryd.ntmps11
  go_wp2_with fail
  go_loopw [5] (fun iv wr => ∃ i : Nat, i ≤ n ∧ iv = .int .i64 i ∧ Hid (Below w.heap.size w wr)) (fun iv _ => n - (intOf iv).toNat)
  case atStart => exact ⟨0, Nat.zero_le _, rfl, Below.refl _ _⟩
  case round =>
    obtain ⟨i, hi, rfl, hB⟩ := hrel
    by_cases hlt : i < n
    · obtain ⟨b1, o1, rfl, g1⟩ := (HX.out.below hB.out).cells (by omega)
      obtain ⟨b2, o2, rfl, g2⟩ := (HY.out.below hB.out).cells (by omega)
      have q1 := g1 i hlt
      have q2 := g2 i hlt
      generalize xs.getD i 0 = x at q1 q2
      have e1 : (x != x) = false := by simp
      clear g1 g2
      go_wp2_with fail
      go_region
      all_goals go_wp2_with fail
      all_goals exact ⟨⟨i + 1, by omega, by go_num, below_drewT hB.out⟩, by simp [intOf]; omega⟩
    · obtain rfl : i = n := by omega
      go_wp2_with fail
      go_ret
      exact ⟨rfl, hB.out⟩
end Go.Proofs.YtmmkpmgidoelpaaDoor
namespace Go.Proofs.YtmmkpmgidoelpaaDoor
open Go.RowKit Ch1 Ch2s
theorem rgT (l : List Int) (h : l.all (fun x => decide (0 ≤ x) && decide (x < 256)) = true) : Rg l := by
  intro x hx
  have := List.all_eq_true.1 h x hx
  simpa using this
theorem putT_rg {t o : List Int} (ht : Rg t) (ho : Rg o) : Rg (putT t o) := ho.app (fun x hx => ht x (List.mem_of_mem_take hx))
theorem vecI_rg {g : Int → List Int → List Int} (ws : List Int) (p : Nat) (hg : ∀ x o, Rg o → Rg (g x o)) : ∀ r i o, Rg o → Rg (vecI g ws p r i o)
  | 0, _, _, h => h
  | r + 1, i, o, h => by
    rw [vecI]
    refine vecI_rg ws p hg r (i + 1) _ (hg _ _ ?_)
    split
    · exact putT_rg (rgT [32] (by decide)) h
    · exact h
theorem prI_rg {g : Int → List Int → List Int} (ws : List Int) (hg : ∀ x o, Rg o → Rg (g x o)) : ∀ f rest o, Rg o → Rg (prI g ws f rest o).2
  | 0, _, _, h => h
  | f + 1, rest, o, h => by
    rw [prI]
    split
    · exact prI_rg ws hg f _ _ (hg _ _ (putT_rg (rgT [32] (by decide)) h))
    · exact h
theorem shI_rg (num sym rare : Int → List Int) (ws : List Int) (hl : ∀ w, Rg (leafT num sym rare w)) : ∀ f x o, Rg o → Rg (shI num sym rare ws f x o)
  | 0, _, _, h => h
  | f + 1, x, o, h => by
    have ih := shI_rg num sym rare ws hl f
    rw [shI]
    split
    · exact h
    · split
      · exact putT_rg (hl _) h
      · split
        · exact putT_rg (rgT _ (by decide)) h
        · split
          · exact putT_rg (rgT _ (by decide)) h
          · split
            · exact putT_rg (rgT _ (by decide)) (vecI_rg ws _ ih _ _ _ (putT_rg (rgT _ (by decide)) h))
            · have h2 := prI_rg ws ih 1001 (ws.getD ((x / 4).toNat + 2) 0) _ (ih (ws.getD ((x / 4).toNat + 1) 0) _ (putT_rg (rgT [40] (by decide)) h))
              generalize prI (shI num sym rare ws f) ws 1001 (ws.getD ((x / 4).toNat + 2) 0) (shI num sym rare ws f (ws.getD ((x / 4).toNat + 1) 0) (putT [40] o)) = q at h2 ⊢
              refine putT_rg (rgT _ (by decide)) ?_
              split
              · exact ih _ _ (putT_rg (rgT _ (by decide)) h2)
              · exact h2
theorem numsT_rg (l : List UInt8) : Rg (nums l) := fun x hx => by
  unfold nums at hx
  obtain ⟨b, _, rfl⟩ := List.mem_map.1 hx
  have := b.toNat_lt
  omega
/-- All that is shown are bytes. -/
theorem swZ_rg (ns : List (List Int)) (hn : ∀ i, Rg (ns.getD i [])) (ws : List Int) (x : Int) : Rg (swZ ns ws x) := by
  refine shI_rg _ _ _ _ (fun y => ?_) _ _ _ (fun y hy => by cases hy)
  unfold leafT
  split
  · exact numsT_rg _
  · split
    · unfold symZ
      split
      · exact hn _
      · exact (rgT _ (by decide)).app (numsT_rg _)
    · exact numsT_rg _
theorem Tab.low {w w' : World} (h : Tab w) (hb : Below w.heap.size w w') : Tab w' := fun x hx => h x (hb.trans (hx.mono hb.size))
/-- The two names of the law. -/
def nmZ : List (List Int) := [[97], [98, 99]]
theorem nmZ_rg (i : Nat) : Rg (nmZ.getD i []) := by
  match i with
  | 0 => exact rgT [97] (by decide)
  | 1 => exact rgT [98, 99] (by decide)
  | i + 2 => exact fun x hx => by simp [nmZ] at hx
theorem nmZ_len (i : Nat) : (nmZ.getD i []).length ≤ 1048576 := by
  match i with
  | 0 => simp [nmZ]
  | 1 => simp [nmZ]
  | i + 2 => simp [nmZ]
theorem names_nm (w : World) : Nm (((w.alloc (.cells #[.int .u8 97] 5 (1, 2))).alloc (.cells #[.int .u8 98, .int .u8 99] 5 (2, 3))).alloc (.cells #[.slice (some ⟨w.heap.size, 0, none⟩) 1 1, .slice (some ⟨w.heap.size + 1, 0, none⟩) 2 2] 22)) (some ⟨w.heap.size + 1 + 1, 0, none⟩) 2 2 nmZ := by
  obtain ⟨A, hA⟩ : ∃ A, A = w.alloc (.cells #[.int .u8 97] 5 (1, 2)) := ⟨_, rfl⟩
  rw [← hA]
  obtain ⟨B, hB⟩ : ∃ B, B = A.alloc (.cells #[.int .u8 98, .int .u8 99] 5 (2, 3)) := ⟨_, rfl⟩
  rw [← hB]
  obtain ⟨C, hC⟩ : ∃ C, C = B.alloc (.cells #[.slice (some ⟨w.heap.size, 0, none⟩) 1 1, .slice (some ⟨w.heap.size + 1, 0, none⟩) 2 2] 22) := ⟨_, rfl⟩
  rw [← hC]
  have hAs : A.heap.size = w.heap.size + 1 := by rw [hA]; simp
  have hBs : B.heap.size = w.heap.size + 1 + 1 := by rw [hB]; simp [hAs]
  have bA : By A (some ⟨w.heap.size, 0, none⟩) 1 1 [97] := by rw [hA]; exact By.litm w [97] (1, 2) (rgT _ (by decide)) (by simp)
  have bB : By B (some ⟨w.heap.size + 1, 0, none⟩) 2 2 [98, 99] := by rw [hB, ← hAs]; exact By.litm A [98, 99] (2, 3) (rgT _ (by decide)) (by simp)
  have hAB : Below A.heap.size A B := by rw [hB]; exact below1 _ _
  have hBC : Below B.heap.size B C := by rw [hC]; exact below1 _ _
  have hblk : C.heap[w.heap.size + 1 + 1]? = some (.cells #[.slice (some ⟨w.heap.size, 0, none⟩) 1 1, .slice (some ⟨w.heap.size + 1, 0, none⟩) 2 2] 22) := by rw [hC, ← hBs]; exact Go.Deep.blk_alloc_new _ _
  refine ⟨rfl, Nat.le_refl _, by unfold maxLen; omega, fun _ => ⟨_, 0, rfl, (Array.getElem?_eq_some_iff.1 hblk).1, fun i hi => ?_⟩⟩
  have hi2 : i = 0 ∨ i = 1 := by omega
  rcases hi2 with rfl | rfl
  · exact ⟨_, _, _, by simp [World.cell?, hblk], (bA.below hAB).below hBC⟩
  · exact ⟨_, _, _, by simp [World.cell?, hblk], bB.below hBC⟩
/-- What a shown word is as a value. -/
theorem SwP.some {ns : List (List Int)} {ws : List Int} {top x : Int} {w w' : World} {e : Ending} (h : SwP ns ws top x w w' e) (hg : Hp.Ch2.GoodR ws top [x]) (hn : ∀ i, Rg (ns.getD i [])) {zs : List Int} {L : Nat} (hz : swZ ns ws x = zs) (hL : zs.length = L) : ∃ p c, e = .returned (.slice p L c) ∧ By w' p L c zs ∧ Below w.heap.size w w' := by
  obtain ⟨v, rfl, ⟨_, ho⟩ | ⟨hno, _⟩, hb⟩ := h
  · have hr := swZ_rg ns hn ws x
    rw [hz] at ho hr
    obtain ⟨p, c, rfl, hby, _⟩ := ho.by_ (fun i => by
      by_cases hi : i < zs.length
      · exact hr _ (by simp [List.getD, List.getElem?_eq_getElem hi])
      · simp [List.getD, List.getElem?_eq_none (Nat.le_of_not_lt hi)])
    subst hL
    exact ⟨p, c, rfl, hby, hb⟩
  · exact absurd hg hno
end Go.Proofs.YtmmkpmgidoelpaaDoor
