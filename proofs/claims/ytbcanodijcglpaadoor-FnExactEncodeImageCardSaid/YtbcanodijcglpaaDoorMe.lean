import Derived.Test.YtbcanodijcglpaaDoorMc
namespace Go.Proofs.YtbcanodijcglpaaDoor
open Go.RowKit Ch1
/-- A Bool answer that tells P. -/
def SaysB (P : Prop) (w w' : World) (e : Ending) : Prop := ∃ b, e = .returned (.bool b) ∧ (b = true ↔ P) ∧ Below w.heap.size w w'
theorem SaysB.no {P : Prop} {w w' : World} (h : ¬ P) (hb : Below w.heap.size w w') : SaysB P w w' (.returned (.bool false)) := ⟨false, rfl, ⟨fun h => (by cases h), fun hg => absurd hg h⟩, hb⟩
theorem SaysB.yes {P : Prop} {w w' : World} (h : P) (hb : Below w.heap.size w w') : SaysB P w w' (.returned (.bool true)) := ⟨true, rfl, ⟨fun _ => h, fun _ => rfl⟩, hb⟩
set_option maxRecDepth 20000 in
set_option maxHeartbeats 4000000 in
theorem validConsts_c (p : Option Addr) (n c : Nat) (ls : List (List Dt)) (w : World) (hD : Dd w p n c ls) (hn : n ≤ 1048576) (hfit : ∀ i, i < n → DsFit (ls.getD i []) 1048576) :
    Calls Tryd.prog 38 #[.slice p n c] w fun e w' => SaysB (CsOk ls) w w' e := by
  have HD : Hid (Dd w p n c ls) := hD
  have HL : Hid (ls.length = n) := hD.len
  have HT : Hid (∀ i, i < n → DsFit (ls.getD i []) 1048576) := hfit
  clear hD hfit
  by_cases hfew : 500 < n
  · have d1 : decide ((500 : Int) < (n : Int)) = true := decide_eq_true (by omega)
    go_enter Tryd.func38, Tryd.ntmps38
    go_wp2
    go_ret
    exact SaysB.no (fun h => by have := h.few; rw [HL.out] at this; omega) (Below.refl _ _)
  · have d1 : decide ((500 : Int) < (n : Int)) = false := decide_eq_false (by omega)
    go_enter Tryd.func38, Tryd.ntmps38
    go_wp2
    clear d1
    go_loopw [3, 11] (fun dv iv wr => ∃ i s : Nat, i ≤ n ∧ s ≤ 3000 ∧ iv = .int .i64 i ∧ dv = .int .i64 s ∧ Hid (s = cSum ls i) ∧ Hid (∀ j, j < i → oneB (ls.getD j []) = true) ∧ Hid (Below w.heap.size w wr)) (fun _ iv _ => n - (intOf iv).toNat)
    case atStart => exact ⟨0, 0, Nat.zero_le _, Nat.zero_le _, rfl, rfl, rfl, fun j hj => absurd hj (Nat.not_lt_zero j), Below.refl _ _⟩
    case round =>
      obtain ⟨i, s, hi, hs, rfl, rfl, hsum, hone, hB⟩ := hrel
      by_cases hlt : i < n
      · obtain ⟨b, o, rfl, hbl, gg⟩ := (HD.out.below hB.out).cells (by omega)
        obtain ⟨q, k, d, e0, he⟩ := gg i hlt
        have hk : k ≤ 1048576 := by have := (HT.out i hlt).1; rw [he.len] at this; omega
        have HDA : Hid (Da wr q k d (ls.getD i [])) := he
        have HKL : Hid ((ls.getD i []).length = k) := he.len
        have HSUC : Hid (cSum ls (i + 1) = s + k) := by unfold Hid; rw [cSum_succ _ _ (by rw [HL.out]; exact hlt), ← hsum.out, HKL.out]
        clear gg he
        by_cases hbig : 3000 < s + k
        · have d1 : decide ((3000 : Int) < (s : Int) + (k : Int)) = true := decide_eq_true (by omega)
          go_wp2
          go_ret
          exact SaysB.no (fun h => by
            have h1 := h.sum
            have h2 := cSum_le ls (i + 1) (by rw [HL.out]; omega)
            rw [HSUC.out] at h2; omega) hB.out
        · have d1 : decide ((3000 : Int) < (s : Int) + (k : Int)) = false := decide_eq_false (by omega)
          obtain ⟨ob, hob⟩ : ∃ ob, oneB (ls.getD i []) = ob := ⟨_, rfl⟩
          go_wp2_with fail
          refine (oneDatum_c q k d _ _ HDA.out).mono ?_
          rintro e w1 ⟨rfl, hb1⟩
          rw [hob]
          have HB1 : Hid (Below w.heap.size w w1) := hB.out.trans (hb1.mono hB.out.size)
          clear hb1
          cases ob
          · go_wp2
            go_ret
            exact SaysB.no (fun h => by have := h.one i (by rw [HL.out]; exact hlt); rw [hob] at this; cases this) HB1.out
          · go_wp2
            refine ⟨⟨i + 1, s + k, by omega, by omega, by go_num, by go_num, HSUC.out.symm, fun j hj => ?_, HB1⟩, by simp [intOf]; omega⟩
            by_cases e : j < i
            · exact hone.out j e
            · rw [show j = i by omega]; exact hob
      · obtain rfl : i = n := by omega
        go_wp2
        go_ret
        exact SaysB.yes ⟨by rw [HL.out]; omega, fun j hj => hone.out j (by rw [← HL.out]; exact hj), by rw [HL.out, ← hsum.out]; exact hs⟩ hB.out
set_option maxRecDepth 20000 in
set_option maxHeartbeats 4000000 in
theorem validSizes_c (p : Option Addr) (n c : Nat) (fs : List Fn) (w : World) (hD : Fu w p n c fs) (hn : n ≤ 1048576) (hfit : FnsFit fs n 1048576) :
    Calls Tryd.prog 39 #[.slice p n c] w fun e w' => SaysB (SzOk fs) w w' e := by
  have HD : Hid (Fu w p n c fs) := hD
  have HFL : Hid (fs.length = n) := hD.len
  have HT : Hid (FnsFit fs n 1048576) := hfit
  clear hD hfit
  go_enter Tryd.func39, Tryd.ntmps39
  go_wp2
  go_loopw [3, 8] (fun dv iv wr => ∃ i s : Nat, i ≤ n ∧ s ≤ 5000 ∧ iv = .int .i64 i ∧ dv = .int .i64 s ∧ Hid (s = fSum fs i) ∧ Hid (∀ j, j < i → FnOk (fs.getD j fn0)) ∧ Hid (Below w.heap.size w wr)) (fun _ iv _ => n - (intOf iv).toNat)
  case atStart => exact ⟨0, 0, Nat.zero_le _, Nat.zero_le _, rfl, rfl, rfl, fun j hj => absurd hj (Nat.not_lt_zero j), Below.refl _ _⟩
  case round =>
    obtain ⟨j, t, hj, ht, rfl, rfl, hsum, hfns, hB⟩ := hrel
    by_cases hlt2 : j < n
    · obtain ⟨b, o, rfl, hbl, gg⟩ := (HD.out.below hB.out).cells (by omega)
      obtain ⟨rp, rl, rc, dp, dl, dc, he⟩ := gg j hlt2
      have e0 := he.c0
      have e1 := he.c1
      have e2 := he.c2
      have HRL : Hid ((fs.getD j fn0).free.length = rl) := he.free.len
      have HDL : Hid ((fs.getD j fn0).code.length = dl) := he.code.len
      have hrl : rl ≤ 1048576 := by have := (HT.out j hlt2).1; rw [HRL.out] at this; omega
      have hdl : dl ≤ 1048576 := by have := (HT.out j hlt2).2; rw [HDL.out] at this; omega
      have HSUC : Hid (fSum fs (j + 1) = t + dl) := by unfold Hid; rw [fSum_succ _ _ (by rw [HFL.out]; exact hlt2), ← hsum.out, HDL.out]
      have HFNB : Hid (SzOk fs → FnOk (fs.getD j fn0) ∧ t + dl ≤ 5000) := fun h => ⟨h.fn j (by rw [HFL.out]; exact hlt2), by
        have h1 := h.sum
        have h2 := fSum_le fs (j + 1) (by rw [HFL.out]; omega)
        rw [HSUC.out] at h2; omega⟩
      have HB1 : Hid (Below w.heap.size w (wr.alloc (.cells #[.int .i64 (fs.getD j fn0).params, .slice rp rl rc, .slice dp dl dc] 52))) := hB.out.trans ((below1 _ _).mono hB.out.size)
      clear gg he
      obtain ⟨pr, hpr⟩ : ∃ pr, (fs.getD j fn0).params = pr := ⟨_, rfl⟩
      have HPR : Hid ((fs.getD j fn0).params = pr) := hpr
      rw [hpr] at e0 HB1
      clear hpr
      by_cases c1 : pr < 0
      · have d1 : decide (pr < 0) = true := decide_eq_true c1
        go_wp2
        go_ret
        exact SaysB.no (fun h => by have := (HFNB.out h).1.p0; rw [HPR.out] at this; omega) HB1.out
      have d1 : decide (pr < 0) = false := decide_eq_false c1
      by_cases c2 : 20 < pr
      · have d2 : decide (20 < pr) = true := decide_eq_true c2
        go_wp2
        go_ret
        exact SaysB.no (fun h => by have := (HFNB.out h).1.p1; rw [HPR.out] at this; omega) HB1.out
      have d2 : decide (20 < pr) = false := decide_eq_false c2
      by_cases c3 : 50 < rl
      · have d3 : decide ((50 : Int) < (rl : Int)) = true := decide_eq_true (by omega)
        go_wp2
        go_ret
        exact SaysB.no (fun h => by have := (HFNB.out h).1.fr; rw [HRL.out] at this; omega) HB1.out
      have d3 : decide ((50 : Int) < (rl : Int)) = false := decide_eq_false (by omega)
      by_cases c4 : dl = 0
      · subst c4
        go_wp2
        go_ret
        exact SaysB.no (fun h => by have := (HFNB.out h).1.co; rw [HDL.out] at this; omega) HB1.out
      have d4 : ((dl : Int) == 0) = false := by simp; omega
      by_cases c5 : 5000 < t + dl
      · have d5 : decide ((5000 : Int) < (t : Int) + (dl : Int)) = true := decide_eq_true (by omega)
        go_wp2
        go_ret
        exact SaysB.no (fun h => by have := (HFNB.out h).2; omega) HB1.out
      have d5 : decide ((5000 : Int) < (t : Int) + (dl : Int)) = false := decide_eq_false (by omega)
      go_wp2
      refine ⟨⟨j + 1, t + dl, by omega, by omega, by go_num, by go_num, HSUC.out.symm, fun y hy => ?_, HB1⟩, by simp [intOf]; omega⟩
      by_cases e : y < j
      · exact hfns.out y e
      · rw [show y = j by omega]
        exact ⟨by rw [HPR.out]; omega, by rw [HPR.out]; omega, by rw [HRL.out]; omega, by rw [HDL.out]; omega⟩
    · obtain rfl : j = n := by omega
      go_wp2
      go_ret
      exact SaysB.yes ⟨fun y hy => hfns.out y (by rw [← HFL.out]; exact hy), by rw [HFL.out, ← hsum.out]; exact ht⟩ hB.out
end Go.Proofs.YtbcanodijcglpaaDoor
