import Derived.Test.YtpfodinoeoejcaaH7
import Derived.Test.YtpfodinoeoejcaaH4
namespace Go.Proofs.Ytpfodinoeoejcaa
open Go.RowKit Ch2
theorem rowIs_alloc {w : World} {g n : Nat} {e : TypeId} {f : Nat → Value} (h : w.rowIs g e n f) (o : Obj) : (w.alloc o).rowIs g e n f := h.of_block ((below1 w o).block g h.lt)
theorem rowIs_drew {w : World} {g n : Nat} {e : TypeId} {f : Nat → Value} (h : w.rowIs g e n f) : w.drew.rowIs g e n f := h.of_block rfl
theorem Bx.drew {w : World} {b n c : Nat} {p : Option Addr} {top : Int} (h : Bx w b p n c top) : Bx w.drew b p n c top := h.below (below_drew (Below.refl _ _))
def Heads (ws : List Int) (T : Nat) : Prop := ∀ q, St ws T q → HeadOk ws T q
set_option maxRecDepth 20000 in
set_option maxHeartbeats 4000000 in
theorem beginsOf_c (p : Option Addr) (n c T : Nat) (ws : List Int) (w : World) (h : Is w p n c ws) (hn2 : n ≤ 20000) (hT : T ≤ n) :
    Calls Try.prog 69 #[.agg #[.slice p n c, .int .i64 T]] w fun e w' => StP ws T (Heads ws T) w w' e := by
  have HI : Hid (Is w p n c ws) := h
  have hlen : Hid (ws.length = n) := h.len
  clear h
  have HTN : Hid (((T : Nat) : Int).toNat = T) := by unfold Hid; simp
  have HST : Hid (∀ q, St ws T q → ¬ HeadOk ws T q → ¬ Heads ws T) := fun q hq hn hh => hn (hh q hq)
  have hmk := run_make_row' (P := Try.prog) 67 4 (.bool false) 1 Try.underlying67 info4 rfl .i64 .i64 T (by omega) (by omega)
  go_enter Try.func69, Try.ntmps69
  go_wp2
  clear hmk
  go_loopw [5] (fun i wr => StR ws T w p n c (fun q => HeadOk ws T q) i wr) (fun i _ => T - (intOf i).toNat)
  case atStart =>
    refine ⟨0, 0, rfl, Nat.zero_le _, rfl, fun q _ hq => absurd hq (Nat.not_lt_zero q), ?_, (Bx.new w p n c T _).below (below1 _ _), below2 w _ _⟩
    have := World.rowIs_made (w.alloc (.cells #[.slice p n c, .int .i64 T] 31)) (.bool false) T 4
    exact (by simpa using this : World.rowIs _ (w.heap.size + 1) 4 T (fun _ => .bool false)).congr (fun j _ => by rw [mrk_zero])
  case round =>
    obtain ⟨k, a, hsq, haT, rfl, hOK, hR, hX, hB⟩ := hrel
    have c0 := hX.out.c0
    have c1 := hX.out.c1
    by_cases hlt : a < T
    · obtain ⟨b, o, rfl, hbl, g⟩ := HI.out.cells (by omega)
      have g1 := g a (by omega)
      rw [← hB.out.cell (p := ⟨b, o + a, none⟩) hbl] at g1
      have hSt : Hid (St ws T a) := ⟨hlt, k, hsq.out⟩
      have HIr : Hid (Is wr (some ⟨b, o, none⟩) n c ws) := HI.out.below hB.out
      obtain ⟨x, hx⟩ : ∃ x, ws.getD a 0 = x := ⟨_, rfl⟩
      have HX : Hid (ws.getD a 0 = x) := hx
      rw [hx] at g1
      clear hx g
      obtain ⟨bh, hbh⟩ : ∃ bh, vcB (x % 4) (x / 4) = bh := ⟨_, rfl⟩
      have HVC : Hid (headB (ws.getD a 0) = bh) := by unfold Hid; rw [HX.out, ← vcB_head]; exact hbh
      obtain ⟨x4, hx4⟩ : ∃ y, x % 4 = y := ⟨_, rfl⟩
      obtain ⟨xd, hxd⟩ : ∃ y, x / 4 = y := ⟨_, rfl⟩
      rw [hx4, hxd] at hbh
      cases bh
      · have HN : Hid (¬ Heads ws T) := HST.out a hSt.out (fun hh => by have := hh.1; rw [HVC.out] at this; cases this)
        go_wp2_with fail
        go_quiet (first | (go_at_call 61; refine Calls.quiet_of_same ((tagOf_c x _).mono (fun e w' h => by rw [hx4] at h; exact h))) | (go_at_call 62; refine Calls.quiet_of_same ((numberOf_c x _).mono (fun e w' h => by rw [hxd] at h; exact h))) | (go_at_call 49; refine Calls.quiet_of_same ((validCount_c x4 xd _).mono (fun e w' h => by rw [hbh] at h; exact h))))
        go_wp2
        exact bodyPost_ret (v := .tuple #[.slice none 0 0, .bool false]) (by simp [results, Try.results69, go_sem]) rfl (Or.inl ⟨rfl, HN.out, below_drewN' hB.out _⟩)
      · have hhd := head_cnt HVC.out
        rw [HX.out] at hhd
        obtain ⟨m, hm⟩ : ∃ m : Nat, x / 4 = m := ⟨(x / 4).toNat, by omega⟩
        have hm1 : m ≤ 1000 := by omega
        have HM : Hid (ws.getD a 0 / 4 = m) := by unfold Hid; rw [HX.out]; exact hm
        have hcnt : Hid (cnt (ws.getD a 0) = m) := by unfold Hid; rw [HX.out]; exact cnt_of hm
        obtain ⟨z, hz⟩ : ∃ z : Nat, z = a + 1 + m := ⟨_, rfl⟩
        have HZ : Hid (z = a + 1 + m) := hz
        have hza : a < z := by omega
        have hzb : z ≤ 100000 := by omega
        clear hhd hz
        obtain ⟨X, hXo⟩ : ∃ X : Obj, X = .cells #[.slice (some ⟨b, o, none⟩) n c, .int .i64 T] 31 := ⟨_, rfl⟩
        have c1' := (hX.out.below (below1 wr X)).c1
        have c0' := (hX.out.below (below1 wr X)).c0
        have hR1 := rowIs_alloc hR.out X
        have HR1 : Hid ((wr.alloc X).rowIs (w.heap.size + 1) 4 T (fun j => .bool (mrk ws T a j))) := hR1
        have r2 := hR1.cell hlt
        have r3 := hR1.frozen a
        have HX1 : Hid (Bx (wr.alloc X) w.heap.size (some ⟨b, o, none⟩) n c T) := hX.out.below (below1 wr X)
        have HB1 : Hid (Below w.heap.size w (wr.alloc X)) := hB.out.alloc hB.out.size X
        have hs1 : w.heap.size ≤ ((wr.alloc X).setCell ⟨w.heap.size + 1, a, none⟩ (.bool true)).heap.size := by have := HB1.out.size; simpa [World.setCell] using this
        subst hXo
        clear hR1
        by_cases hzT : z ≤ T
        · have hd : decide (T < z) = false := decide_eq_false (by omega)
          go_wp2_with fail
          go_region_with (first | (go_at_call 61; refine (tagOf_c x _).mono ?_; rintro e w1 ⟨rfl, rfl⟩; rw [hx4]) | (go_at_call 62; refine (numberOf_c x _).mono ?_; rintro e w1 ⟨rfl, rfl⟩; rw [hxd]) | (go_at_call 49; refine (validCount_c x4 xd _).mono ?_; rintro e w1 ⟨rfl, rfl⟩; rw [hbh]) | (go_at_call 58; refine (behindObject_c _ n c a m z HZ.out T ws _ ?y1 (by omega) (by omega) HM.out hm1).mono ?_; (case y1 => exact HIr.out.below (below_drew (Below.refl _ _))); rintro e w1 ⟨rfl, rfl⟩))
          all_goals go_wp2_with (go_at_call 58; refine (behindObject_c _ n c a m z HZ.out T ws _ ?y1 (by omega) (by omega) HM.out hm1).mono ?_; (case y1 => exact HI.out.below (below_drew (HB1.out.setCell (by simp) _))); rintro e w1 ⟨rfl, rfl⟩)
          all_goals first | go_roundw | refine ⟨?rel, ?measure⟩
          case measure => simp [intOf]; omega
          case measure => simp [intOf]; omega
          case measure => simp [intOf]; omega
          all_goals refine ⟨k + 1, z, ?_, hzT, rfl, ?_, rowIs_drew (rowIs_alloc ((HR1.out.set a _).congr (fun j hj => ?_)) _), ((HX1.out.setCell (by simp) _).below (below1 _ _)).drew, below_drew ((HB1.out.setCell (by simp) _).alloc hs1 _)⟩
          all_goals first | (unfold Hid; rw [HZ.out, sq_step (by rw [hsq.out]; exact hlt), hsq.out, hcnt.out]; done) | skip
          all_goals first | (exact (by have := step_known hSt.out hOK.out (show HeadOk ws T a from ⟨HVC.out, by rw [hcnt.out, ← HZ.out]; exact hzT⟩); rw [hcnt.out, ← HZ.out] at this; exact this)) | skip
          all_goals exact (by
            have := mrk_step hSt.out j
            rw [hcnt.out, ← HZ.out] at this
            rw [← this]
            by_cases e : j = a
            · rw [if_pos e, if_pos e]
            · rw [if_neg e, if_neg e])
        · have hd : decide (T < z) = true := decide_eq_true (by omega)
          have HN : Hid (¬ Heads ws T) := HST.out a hSt.out (fun hh => by have := hh.2; have := HZ.out; rw [hcnt.out] at *; omega)
          go_wp2_with fail
          go_region_with (first | (go_at_call 61; refine (tagOf_c x _).mono ?_; rintro e w1 ⟨rfl, rfl⟩; rw [hx4]) | (go_at_call 62; refine (numberOf_c x _).mono ?_; rintro e w1 ⟨rfl, rfl⟩; rw [hxd]) | (go_at_call 49; refine (validCount_c x4 xd _).mono ?_; rintro e w1 ⟨rfl, rfl⟩; rw [hbh]) | (go_at_call 58; refine (behindObject_c _ n c a m z HZ.out T ws _ ?y1 (by omega) (by omega) HM.out hm1).mono ?_; (case y1 => exact HIr.out.below (below_drew (Below.refl _ _))); rintro e w1 ⟨rfl, rfl⟩))
          all_goals go_wp2
          all_goals exact bodyPost_ret (v := .tuple #[.slice none 0 0, .bool false]) (by simp [results, Try.results69, go_sem]) rfl (Or.inl ⟨rfl, HN.out, below_drew HB1.out⟩)
    · obtain rfl : a = T := by omega
      go_wp2
      refine bodyPost_ret (v := .tuple #[.slice (some ⟨w.heap.size + 1, 0, none⟩) a a, .bool true]) (by simp [results, Try.results69, go_sem]) rfl (Or.inr ⟨some ⟨w.heap.size + 1, 0, none⟩, by rw [HTN.out], fun q hq => hOK.out q hq hq.1, ?_, hB.out⟩)
      rw [HTN.out]
      exact Sb.of_row (hR.out.congr (fun j hj => by rw [mrk_all hj])) (by unfold maxLen; omega)
end Go.Proofs.Ytpfodinoeoejcaa
