import Derived.Test.YtdjdhjciealfhaaGreatDoorK3
namespace Go.Proofs.YtdjdhjciealfhaaGreatDoor
open Go.RowKit Ch1
namespace Vf
theorem or16 (a b : Nat) (ha : a < 512) (hb : b < 512) : bits BinOp.or IntKind.u16 (a : Int) (b : Int) = ((a ||| b : Nat) : Int) := by
  have h1 : (BitVec.ofInt 16 (a : Int)).toNat = a := by simp; omega
  have h2 : (BitVec.ofInt 16 (b : Int)).toNat = b := by simp; omega
  have e : bits BinOp.or IntKind.u16 (a : Int) (b : Int) = IntKind.u16.wrap (((BitVec.ofInt 16 (a : Int)) ||| (BitVec.ofInt 16 (b : Int))).toNat : Int) := rfl
  have hw : ∀ n : Nat, n < 65536 → IntKind.u16.wrap (n : Int) = (n : Int) := fun n hn => by simp [IntKind.wrap, IntKind.bits, IntKind.signed]; omega
  have h3 := Nat.or_lt_two_pow (n := 9) (x := a) (y := b) (by simpa using ha) (by simpa using hb)
  rw [e, hw _ (BitVec.isLt _), BitVec.toNat_or, h1, h2]
/-- What joined answers. -/
def JnP (r : Bool) (c : Nat) (t : Nat → Nat) (r2 : Bool) (c2 : Nat) (t2 : Nat → Nat) (w w' : World) (e : Ending) : Prop :=
  Below w.heap.size w w' ∧ ∃ r3 c3 t3 b, e = .returned (.tuple #[.agg (stG r3 c3 t3).toArray, .bool b]) ∧ (r = false → b = true ∧ r3 = r2 ∧ c3 = c2 ∧ t3 = t2) ∧ (r = true → (b = true ↔ c = c2) ∧ (b = true → r3 = true ∧ c3 = c ∧ ∀ i, i < 200 → t3 i = if i < c then t i ||| t2 i else t i))
def Jh (S1 S2 S3 c : Nat) (t t2 : Nat → Nat) (r2 : Bool) (w : World) (iv : Value) (wr : World) : Prop := ∃ i : Nat, i ≤ c ∧ iv = .int .i64 (i : Nat) ∧ Hid (Below w.heap.size w wr) ∧ Hid (Sb wr S1 true c (fun k => if k < i then t k ||| t2 k else t k)) ∧ Hid (Sb wr S2 r2 c t2) ∧ Hid (Sb wr S3 false 0 (fun _ => 0))
theorem Sb.other {w : World} {S k j : Nat} {r : Bool} {c : Nat} {t : Nat → Nat} (h : Sb w S r c t) (hk : k ≠ S) (v : Value) : Sb (w.setCell ⟨k, j, none⟩ v) S r c t := by
  unfold Sb at h ⊢
  rw [Below.heap_setCell _ _ _ _ (by simp only; exact fun e => hk e.symm)]
  exact h
theorem Sb.others {w : World} {S k : Nat} {r : Bool} {c : Nat} {t : Nat → Nat} (h : Sb w S r c t) (hk : S ≠ k) (o : Nat) (vs : List Value) : Sb (w.setCells k o vs) S r c t := by
  unfold Sb at h ⊢
  rw [heap_setCells_ne _ hk]
  exact h
theorem Sb.put' {w : World} {S : Nat} {r0 : Bool} {c0 : Nat} {t0 : Nat → Nat} (h : Sb w S r0 c0 t0) (r : Bool) (c : Nat) (t : Nat → Nat) : Sb (w.setCells S 0 (stG r c t)) S r c t ∧ (storeCells ⟨S, 0, none⟩ (stG r c t)).run Tryz.prog w = .ok () (w.setCells S 0 (stG r c t)) :=
  ⟨Sb.put h (by simp [stG_len]) r c t, run_put h (by simp [stG_len]) r c t⟩
theorem Sb.ret {w : World} {S : Nat} {r : Bool} {c : Nat} {t : Nat → Nat} (h : Sb w S r c t) : (loadVar 90 ⟨S, 0, none⟩).run Tryz.prog w = .ok (.agg (stG r c t).toArray) w :=
  run_loadVar_mid (P := Tryz.prog) w S 0 90 _ _ h.range Tryz.underlying90 rfl (sizeS _ _ _)
theorem Sb.new (w : World) (r : Bool) (c : Nat) (t : Nat → Nat) : Sb (w.alloc (.cells (stG r c t).toArray 90)) w.heap.size r c t := Go.Deep.blk_alloc_new _ _
theorem buildS : Tryz.zeroCells90.toList = stG false 0 (fun _ => 0) := by rw [zeroS]
set_option maxRecDepth 20000 in
set_option maxHeartbeats 4000000 in
theorem joined_c (r : Bool) (c : Nat) (t : Nat → Nat) (r2 : Bool) (c2 : Nat) (t2 : Nat → Nat) (w : World) (hc : c ≤ 200) (hc2 : c2 ≤ 200) (ht : ∀ i, t i < 512) (ht2 : ∀ i, t2 i < 512) :
    Calls Tryz.prog 48 #[.agg (stG r c t).toArray, .agg (stG r2 c2 t2).toArray] w fun e w' => JnP r c t r2 c2 t2 w w' e := by
  obtain ⟨W, hW⟩ : ∃ W, W = ((w.alloc (.cells (stG r c t).toArray 90)).alloc (.cells (stG r2 c2 t2).toArray 90)).alloc (.cells Tryz.zeroCells90 90) := ⟨_, rfl⟩
  have HT := mkD ht
  have HT2 := mkD ht2
  have HBW : Hid (Below w.heap.size w W) := by unfold Hid; rw [hW]; exact (below2 w _ _).trans ((below1 _ _).mono (below2 w _ _).size)
  have H1 : Hid (Sb W w.heap.size r c t) := by
    unfold Hid
    rw [hW]
    exact ((Sb.new w r c t).below (below1 _ _)).below (below1 _ _)
  have H2 : Hid (Sb W (w.heap.size + 1) r2 c2 t2) := by
    unfold Hid
    rw [hW]
    have := Sb.new (w.alloc (.cells (stG r c t).toArray 90)) r2 c2 t2
    rw [World.size_alloc] at this
    exact this.below (below1 _ _)
  have H3 : Hid (Sb W (w.heap.size + 1 + 1) false 0 (fun _ => 0)) := by
    unfold Hid
    rw [hW, zeroS]
    have := Sb.new ((w.alloc (.cells (stG r c t).toArray 90)).alloc (.cells (stG r2 c2 t2).toArray 90)) false 0 (fun _ => 0)
    rw [World.size_alloc, World.size_alloc] at this
    exact this
  have hl1 := stG_len r c t
  have hl2 := stG_len r2 c2 t2
  have a0 := H1.out.c0
  have a1 := H1.out.c1
  have b1 := H2.out.c1
  rw [hW] at a0 a1 b1
  clear ht ht2
  cases r
  · go_enter Tryz.func48, Tryz.ntmps48
    go_wp2_with fail
    rw [← hW]
    clear a0 a1 b1 hW
    refine wp_load_mid 90 (.tmp 3) rfl _ 0 rfl _ _ H2.out.range Tryz.underlying90 rfl (sizeS _ _ _) ?_
    go_wp2_with fail
    rw [(Sb.put' H3.out r2 c2 t2).2]
    obtain ⟨W3, hW3⟩ : ∃ W3, W3 = W.setCells (w.heap.size + 1 + 1) 0 (stG r2 c2 t2) := ⟨_, rfl⟩
    rw [← hW3]
    have HS3 : Hid (Sb W3 (w.heap.size + 1 + 1) r2 c2 t2) := by unfold Hid; rw [hW3]; exact (Sb.put' H3.out r2 c2 t2).1
    have HB3 : Hid (Below w.heap.size w W3) := by unfold Hid; rw [hW3]; exact Below.setCells (by omega) _ _ _ HBW.out
    clear hW3
    go_wp2_with fail
    have HLV := HS3.out.ret
    exact bodyPost_ret (v := .tuple #[.agg (stG r2 c2 t2).toArray, .bool true]) (by simp [results, Tryz.results48, asAddr, HLV]) rfl ⟨HB3.out, r2, c2, t2, true, rfl, fun _ => ⟨rfl, rfl, rfl, rfl⟩, fun e => (by cases e)⟩
  · by_cases hcc : c = c2
    · subst hcc
      go_enter Tryz.func48, Tryz.ntmps48
      go_wp2_with fail
      rw [← hW]
      clear a0 a1 b1 hW
      go_loopw [19] (fun iv wr => Jh w.heap.size (w.heap.size + 1) (w.heap.size + 1 + 1) c t t2 r2 w iv wr) (fun iv _ => c - (intOf iv).toNat)
      case atStart => exact ⟨0, Nat.zero_le _, rfl, HBW, by unfold Hid; have h := H1.out; unfold Sb at h ⊢; rw [h, stG_congr (fun i _ => (if_neg (Nat.not_lt_zero i)).symm)], H2, H3⟩
      case round =>
        clear H1 H2 H3 HBW W
        obtain ⟨i, hi, rfl, hB, h1, h2, h3⟩ := hrel
        have hz := h3.out.lt
        by_cases hlt : i < c
        · have hi2 : i < 200 := by omega
          have s0 := h1.out.slot hi2
          rw [if_neg (Nat.lt_irrefl i)] at s0
          have s1 := h2.out.slot hi2
          have f2 := h1.out.fr (2 + i)
          obtain ⟨u, hu⟩ : ∃ u, u = t i := ⟨_, rfl⟩
          obtain ⟨v, hv⟩ : ∃ v, v = t2 i := ⟨_, rfl⟩
          rw [← hu] at s0
          rw [← hv] at s1
          have hor := or16 u v (by rw [hu]; exact HT.out i) (by rw [hv]; exact HT2.out i)
          have HS3 : Hid (Sb (wr.setCell ⟨w.heap.size, 2 + i, none⟩ (.int .u16 ((u ||| v : Nat) : Int))) w.heap.size true c (fun k => if k < i + 1 then t k ||| t2 k else t k)) := by
            have h := h1.out.setS hi2 (u ||| v)
            unfold Hid Sb at *
            rw [h, stG_congr (u := fun k => if k < i + 1 then t k ||| t2 k else t k) (fun k _ => by
              by_cases h1 : k = i
              · rw [if_pos h1, if_pos (by omega), h1, hu, hv]
              · rw [if_neg h1]
                by_cases h2 : k < i
                · rw [if_pos h2, if_pos (by omega)]
                · rw [if_neg h2, if_neg (by omega)])]
          have HN2 : Hid (Sb (wr.setCell ⟨w.heap.size, 2 + i, none⟩ (.int .u16 ((u ||| v : Nat) : Int))) (w.heap.size + 1) r2 c t2) := h2.out.other (by omega) _
          have HN3 : Hid (Sb (wr.setCell ⟨w.heap.size, 2 + i, none⟩ (.int .u16 ((u ||| v : Nat) : Int))) (w.heap.size + 1 + 1) false 0 (fun _ => 0)) := h3.out.other (by omega) _
          have HNB : Hid (Below w.heap.size w (wr.setCell ⟨w.heap.size, 2 + i, none⟩ (.int .u16 ((u ||| v : Nat) : Int)))) := Below.setCell hB.out (by simp only; exact Nat.le_refl _) _
          clear hu hv h1 h2 h3 hB
          go_wp2_with fail
          go_region
          all_goals go_wp2
          all_goals exact ⟨⟨i + 1, by omega, by go_num, below_drewM HNB.out, HS3.out, HN2.out, HN3.out⟩, by simp [intOf]; omega⟩
        · obtain rfl : i = c := by omega
          have hl3 := stG_len true i (fun k => if k < i then t k ||| t2 k else t k)
          go_wp2_with fail
          refine wp_load_mid 90 (.tmp 2) rfl _ 0 rfl _ _ h1.out.range Tryz.underlying90 rfl (sizeS _ _ _) ?_
          go_wp2_with fail
          rw [(Sb.put' h3.out _ _ _).2]
          obtain ⟨W3, hW3⟩ : ∃ W3, W3 = wr.setCells (w.heap.size + 1 + 1) 0 (stG true i (fun k => if k < i then t k ||| t2 k else t k)) := ⟨_, rfl⟩
          rw [← hW3]
          have HS3 : Hid (Sb W3 (w.heap.size + 1 + 1) true i (fun k => if k < i then t k ||| t2 k else t k)) := by unfold Hid; rw [hW3]; exact (Sb.put' h3.out _ _ _).1
          have HB3 : Hid (Below w.heap.size w W3) := by unfold Hid; rw [hW3]; exact Below.setCells (by omega) _ _ _ hB.out
          clear hW3
          go_wp2_with fail
          have HLV := HS3.out.ret
          exact bodyPost_ret (v := .tuple #[.agg (stG true i (fun k => if k < i then t k ||| t2 k else t k)).toArray, .bool true]) (by simp [results, Tryz.results48, asAddr, HLV]) rfl ⟨HB3.out, true, i, _, true, rfl, fun e => (by cases e), fun _ => ⟨⟨fun _ => rfl, fun _ => rfl⟩, fun _ => ⟨rfl, rfl, fun _ _ => rfl⟩⟩⟩
    · have dd : ((c : Int) != (c2 : Int)) = true := by simp; omega
      have hl0 := stG_len false 0 (fun _ => 0)
      go_enter Tryz.func48, Tryz.ntmps48
      go_wp2_with fail
      rw [← hW]
      clear a0 a1 b1 hW
      rw [buildS, (Sb.put' H3.out _ _ _).2]
      obtain ⟨W3, hW3⟩ : ∃ W3, W3 = W.setCells (w.heap.size + 1 + 1) 0 (stG false 0 (fun _ => 0)) := ⟨_, rfl⟩
      rw [← hW3]
      have HS3 : Hid (Sb W3 (w.heap.size + 1 + 1) false 0 (fun _ => 0)) := by unfold Hid; rw [hW3]; exact (Sb.put' H3.out _ _ _).1
      have HB3 : Hid (Below w.heap.size w W3) := by unfold Hid; rw [hW3]; exact Below.setCells (by omega) _ _ _ HBW.out
      clear hW3
      go_wp2_with fail
      have HLV := HS3.out.ret
      exact bodyPost_ret (v := .tuple #[.agg (stG false 0 (fun _ => 0)).toArray, .bool false]) (by simp [results, Tryz.results48, asAddr, HLV]) rfl ⟨HB3.out, false, 0, _, false, rfl, fun e => (by cases e), fun _ => ⟨⟨fun e => (by cases e), fun e => absurd e hcc⟩, fun e => (by cases e)⟩⟩
end Vf
end Go.Proofs.YtdjdhjciealfhaaGreatDoor
