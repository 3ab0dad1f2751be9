import Derived.Test.YtdjdhjciealfhaaGreatDoorKg
import Derived.RangeFuncNested
import Derived.RangeFuncBound
import Derived.RangeFuncCalls
import Derived.RangeFuncLeaves
import Derived.Shelf.Abstract
import Derived.Shelf.RegionOpen
import Derived.WalkKit
import Derived.OwnWalkIn
import Derived.TacticsInMore
import Derived.LoopNIn
import Derived.LoopIn
namespace Go.Proofs.YtdjdhjciealfhaaGreatDoor
open Go.RowKit Go.Shelf Ch1
attribute [local go_sem] Oper.semAt_some
namespace Vf
/-- How a thing is taken off the work list. -/
def Pop (B Lb : Nat) (v : Value) (r : List Nat) (W W2 : World) : Prop := ∃ v2, Wl W2 B Lb v2 r ∧ Wf Lb v W W2 ∧ W2.heap.size = W.heap.size ∧ (∀ B0, B0 ≤ B → B0 ≤ Lb → Below B0 W W2)
/-- What the loop's head knows. -/
structure AlJ (B Lb Bp : Nat) (J : Nat → World → Prop) (Jp : Nat → Nat → World → Prop) (JE : World → Prop) (M : Nat) (W : World) : Prop where
  ex : ∃ v xs, Wl W B Lb v xs ∧ W.cell? ⟨Bp, 0, none⟩ = some (.pointer (some ⟨Lb, 0, none⟩)) ∧ Bp ≠ Lb ∧ (xs = [] → JE W) ∧ ∀ x r W2, xs = x :: r → Pop B Lb v r W W2 → Jp x M W2
set_option maxRecDepth 20000 in
set_option maxHeartbeats 4000000 in
/-- workList.all's function: whatever the rounds do, as long as the measure falls. -/
theorem all1_c (n B Lb Bp l : Nat) (J : Nat → World → Prop) (Jp : Nat → Nat → World → Prop) (Jx JE : World → Prop)
    (hJ : ∀ M W, J M W → AlJ B Lb Bp J Jp JE M W)
    (hY : ∀ x M W, Jp x M W → YieldAt Fence.wide (n - 1) Tryz.prog l #[.int .i64 (x : Nat)] W fun e W' => (e = .returned (.bool true) ∧ ∃ M', M' < M ∧ J M' W') ∨ (e = .returned (.bool false) ∧ Jx W'))
    (W : World) (M : Nat) (h0 : J M W) :
    CallsIn Fence.wide n Tryz.prog 71 #[.func (.yield l) #[] #[], .pointer (some ⟨Bp, 0, none⟩)] W fun e W' => (∃ v, e = .returned v) ∧ (JE W' ∨ Jx W') := by
  obtain ⟨mf, hmf⟩ := ex_msr J
  have HMF := mkD hmf
  have HJ := mkD hJ
  have HY := mkD hY
  clear hmf hJ hY
  refine callsIn_of_wp Tryz.func71 rfl trivial ?_ rfl
  simp only [Tryz.ntmps71, List.size_toArray, List.length_cons, List.length_nil, Nat.reduceAdd, Nat.reduceSub, Array.replicate_succ, Array.replicate_zero, List.push_toArray, List.append_toArray, List.nil_append, List.cons_append]
  gi_wp2
  gi_loopw [] (fun wr => ∃ M, J M wr) (fun wr => mf wr)
  case atStart => exact ⟨M, h0⟩
  case round =>
    clear h0 M
    have hM := (HMF.out wr hrel).1
    have HLE := mkD (HMF.out wr hrel).2
    obtain ⟨M, hMe⟩ : ∃ M, M = mf wr := ⟨_, rfl⟩
    rw [← hMe] at hM HLE
    have HME := mkD hMe
    obtain ⟨v, xs, hwl, hbp, hne, hend, hpop⟩ := (HJ.out M wr hM).ex
    have HWL := mkD hwl
    have HEND := mkD hend
    have HPOP := mkD hpop
    obtain ⟨p, c, rfl⟩ := hwl.own.form
    obtain ⟨c0, f0⟩ := hwl.cell
    have hlt := hwl.lt
    have hcap := small_of hwl.own.cell.2.1 hwl.own.cell.2.2.1
    clear hrel hM hMe hwl hend hpop
    cases xs with
    | nil =>
      have HJE : Hid (JE wr) := HEND.out rfl
      gi_wp2
      go_end0
      exact ⟨⟨_, rfl⟩, Or.inl HJE.out⟩
    | cons x r =>
      obtain ⟨_, _, _, hcc⟩ := HWL.out.own.cell
      obtain ⟨g, rfl, hg, hBg, hcl⟩ := hcc (by simp)
      have x0 := hcl 0 (by simp)
      simp only [List.getD_cons_zero] at x0
      obtain ⟨k, hk⟩ : ∃ k, k = (x :: r).length := ⟨_, rfl⟩
      have hk1 : 1 ≤ k := by rw [hk]; simp
      have dk : decide ((0 : Int) < (k : Int)) = true := decide_eq_true (by omega)
      rw [← hk] at c0 HWL HPOP hcap
      have HDE := mkD (del_c B (some ⟨g, 0, none⟩) k c x r wr.drew (HWL.out.own.below (below_drewM (Below.refl _ _))))
      have HGB : Hid (Bp ≠ g) := fun e => by rw [e, x0] at hbp; cases hbp
      have HGL : Hid (some Lb ≠ (Value.slice (some ⟨g, 0, none⟩) k c).ownBlock) := owns_ne HWL.out.own HWL.out.box (by decide)
      have hbl : Bp < wr.heap.size := by
        by_cases h : Bp < wr.heap.size
        · exact h
        · have : wr.cell? ⟨Bp, 0, none⟩ = none := by simp [World.cell?, Array.getElem?_eq_none (Nat.le_of_not_lt h)]
          rw [this] at hbp
          cases hbp
      clear hcl hcc hk HEND
      gi_wp2
      have hmix := laysIn.mixed
      gi_region_with_o (refine ⟨trivial, fun h => (by cases h), ?_⟩; refine (callsIn_wide.2 HDE.out).mono ?_; rintro e w2 ⟨rfl, ho, hbt, hsz, hbw⟩; have HO2 := mkD ho; have HBT := mkD hbt; have HSZ := mkD hsz; have HBW := mkD hbw; have p0 : w2.cell? ⟨Bp, 0, none⟩ = some (.pointer (some ⟨Lb, 0, none⟩)) := (by have e := HBT.out Bp hbl (fun e => HGB.out (by cases e; rfl)); simp only [World.cell?, e] at hbp ⊢; exact hbp); have HBX : Hid (w2.heap[Lb]? = some (.cells #[.slice (some ⟨g, 0, none⟩) k c] 93)) := (HBT.out Lb hlt HGL.out).trans HWL.out.box; have k0 : w2.cell? ⟨Lb, 0, none⟩ = some (.slice (some ⟨g, 0, none⟩) k c) := (by simp [World.cell?, HBX.out]); have k1 : w2.frozen? ⟨Lb, 0, none⟩ = false := (by simp [World.frozen?, HBX.out]); clear ho hbt hsz hbw)
      all_goals
        have hpp : Pop B Lb (.slice (some ⟨g, 0, none⟩) k c) r wr (w2.setCell ⟨Lb, 0, none⟩ (.slice (some ⟨g, 0, none⟩) r.length c)) := by
          refine ⟨.slice (some ⟨g, 0, none⟩) r.length c, ⟨by simp [World.setCell, Array.getElem?_modify, HBX.out], owns_set HO2.out HBX.out (by decide) _, (List.pairwise_cons.1 HWL.out.srt).2⟩, fun i hi h1 h2 => ?_, by rw [set_size]; exact HSZ.out, fun B0 h1 h2 => Below.setCell ((below_drewM (Below.refl B0 wr)).trans (HBW.out B0 h1)) (by simp only; exact h2) _⟩
          rw [Below.heap_setCell _ _ _ i (by simp only; exact h1)]
          exact HBT.out i hi h2
        have hJp := HPOP.out x r _ rfl hpp
        obtain ⟨fn, tmps, assign, body, hy, hR⟩ := HY.out x M _ hJp
        clear hpp hJp p0 k0 k1 c0 f0 x0 hbp
        gi_wp2
        refine ⟨fun h => (by cases h), hR.mono ?_⟩
        rintro e W4 (⟨rfl, M', hlt', hJ'⟩ | ⟨rfl, hx⟩)
        · have hle : mf W4 ≤ M' := (HMF.out W4 ⟨M', hJ'⟩).2 M' hJ'
          have hme := HME.out
          gi_wp2
          go_roundw
          case rel => exact ⟨M', hJ'⟩
          case measure => omega
        · gi_wp2
          refine bodyPost_ret (results_none rfl _ _ _) rfl ?_
          exact ⟨⟨_, rfl⟩, Or.inr hx⟩
end Vf
end Go.Proofs.YtdjdhjciealfhaaGreatDoor
namespace Go.Proofs.YtdjdhjciealfhaaGreatDoor
open Go.RowKit Go.Shelf Ch1
namespace Vf
/-- How a round over the work list may be left. -/
def stPost (B : Nat) (I : Nat → World → Prop) (Ix : Code → World → Prop) (M : Nat) (W : World) : Exit → Act → World → Prop
  | .normal, _, W' => KeepsFrom B W W' ∧ ∃ M', M' < M ∧ I M' W'
  | .ret, _, W' => KeepsFrom B W W' ∧ Ix .ret W'
  | .exit id, _, W' => KeepsFrom B W W' ∧ Ix (.exit id) W'
  | .goto t, _, W' => KeepsFrom B W W' ∧ Ix (.goto t) W'
  | .panic _, _, _ => False
  | .outgrown, _, _ => False
/-- What is no cells stands when a thing is taken off. -/
theorem Pop.keep {B Lb : Nat} {v : Value} {xs r : List Nat} {W W2 : World} (hw : Wl W B Lb v xs) (h : Pop B Lb v r W W2) {k : Nat} {o : Obj} (hk : W.heap[k]? = some o) (ho : o.isCells = false) : W2.heap[k]? = some o := by
  obtain ⟨v2, _, hf, _, _⟩ := h
  refine (hf k (Array.getElem?_eq_some_iff.1 hk).1 (fun e => ?_) (fun e => ?_)).trans hk
  · rw [e, hw.box] at hk
    cases hk
    cases ho
  · obtain ⟨_, cur, hc⟩ := owns_lt hw.own k e.symm
    rw [hc] at hk
    cases hk
    cases ho
/-- The loop's variable is laid. -/
def actOf (a : Act) (p d : Tmp) (x : Nat) : Act := { tmps := (a.tmps.setIfInBounds p (.int .i64 (x : Nat))).setIfInBounds d (.int .i64 (x : Nat)), defers := [] }
set_option maxHeartbeats 1000000 in
/-- A range over the work list: the statement, from its parts. -/
theorem wpIn_rangeAll {g : Operand} {ps : Array Tmp} {assign body : Code} {Q : Exit → Act → World → Prop} {a : Act} {w : World} {n B Lb Bp M : Nat}
    (hg : a.eval g = .func (.func 71) #[] #[.pointer (some ⟨Bp, 0, none⟩)]) (hps : ps.size = 1)
    (I : Nat → World → Prop) (Ip : Nat → Nat → World → Prop) (Ix : Code → World → Prop) (IE : World → Prop)
    (hI : OwnFrom w.heap.size I) (hIp : ∀ x, OwnFrom w.heap.size (Ip x)) (hIx : OwnFrom w.heap.size Ix) (hIE : OwnFrom w.heap.size (fun (_ : Unit) => IE))
    (hJ : ∀ M W, I M W → AlJ B Lb Bp I Ip IE M W) (h0 : I M w) (pt d : Tmp)
    (hassign : ∀ (l x : Nat) (W : World) (K : Act → World → Prop), K (actOf a pt d x) W → assign.wpIn (Fence.wide.inRound l) (n - 1 - 1) Tryz.prog (Exit.then K (fun _ _ _ => False)) { tmps := (ps.zip #[Value.int .i64 (x : Nat)]).foldl (fun t (p, v) => t.setIfInBounds p v) a.tmps, defers := [] } W)
    (hbody : ∀ (l M x : Nat) (W : World), w.heap.size ≤ l → (∃ r, W.heap[l]? = some (.loop r)) → Ip x M W → body.wpIn (Fence.wide.inRound l) (n - 1 - 1) Tryz.prog (stPost w.heap.size I Ix M W) (actOf a pt d x) W)
    (hdone : ∀ (D : Nat) (W : World), w.heap.size ≤ D → IE W → W.heap[D]? = some (.deferred (some [])) → Q .normal { a with defers := { target := .collected D, args := #[] } :: a.defers } W)
    (hstop : ∀ (D : Nat) (c : Code) (W : World), w.heap.size ≤ D → Ix c W → W.heap[D]? = some (.deferred (some [])) → c.wpIn Fence.wide n Tryz.prog Q { a with defers := { target := .collected D, args := #[] } :: a.defers } W) :
    (Code.rangeFunc g ps assign body).wpIn Fence.wide n Tryz.prog Q a w := by
  refine wpIn_rangeFunc (fun fn hfn => ?_)
  obtain ⟨D, hD⟩ : ∃ D, D = w.heap.size := ⟨_, rfl⟩
  obtain ⟨l, hl⟩ : ∃ l, l = w.heap.size + 1 := ⟨_, rfl⟩
  obtain ⟨rc, hrc⟩ : ∃ rc : LoopState → Option Code → Loop, rc = fun st pe => { state := st, pending := pe, fn, tmps := a.tmps, params := ps, assign, body, defers := w.heap.size } := ⟨_, rfl⟩
  obtain ⟨W1, hW1⟩ : ∃ W1, W1 = (w.alloc (.deferred (some []))).alloc (.loop (rc .ready none)) := ⟨_, rfl⟩
  have hL1 : W1.heap[l]? = some (.loop (rc .ready none)) := by
    rw [hW1, hl]
    have := World.alloc_heap_new (w.alloc (.deferred (some []))) (.loop (rc .ready none))
    rwa [World.size_alloc] at this
  have hK1 : W1.heap[D]? = some (.deferred (some [])) := by
    rw [hW1, hD]
    exact (Below.heap_alloc _ _ _ (by simp)).trans (World.alloc_heap_new w _)
  have hI1 : I M W1 := by rw [hW1]; exact hI.alloc _ (hI.alloc _ h0)
  have hDl : w.heap.size ≤ D ∧ w.heap.size ≤ l ∧ D ≠ l := by omega
  refine ⟨l, [{ target := .collected D, args := #[] }], W1, { target := .fn (.func 71) #[.pointer (some ⟨Bp, 0, none⟩)], args := #[.func (.yield l) #[] #[]] }, W1, 71, #[.func (.yield l) #[] #[], .pointer (some ⟨Bp, 0, none⟩)], W1, ?_, ?_, fun _ _ => trivial, ?_, fun h => (by cases h), ?_⟩
  · rw [hW1, hrc, hl, hD]
    exact run_enterLoop_outer _ _ _ _ _
  · simp only [resolve, hg]
    simp [go_sem]
  · skip
    simp [invoke, go_sem]
  · refine (all1_c (n - 1) B Lb Bp l (fun M W => I M W ∧ W.heap[l]? = some (.loop (rc .ready none)) ∧ W.heap[D]? = some (.deferred (some []))) (fun x M W => Ip x M W ∧ W.heap[l]? = some (.loop (rc .ready none)) ∧ W.heap[D]? = some (.deferred (some []))) (fun W => ∃ c, Ix c W ∧ W.heap[l]? = some (.loop (rc .done (some c))) ∧ W.heap[D]? = some (.deferred (some []))) (fun W => IE W ∧ W.heap[l]? = some (.loop (rc .ready none)) ∧ W.heap[D]? = some (.deferred (some []))) (fun M W h => ?_) (fun x M W h => ?_) W1 M ⟨hI1, hL1, hK1⟩).mono ?_
    · obtain ⟨v, xs, k1, k2, k3, k4, k5⟩ := (hJ M W h.1).ex
      exact ⟨v, xs, k1, k2, k3, fun e => ⟨k4 e, h.2⟩, fun x r W2 e hp => ⟨k5 x r W2 e hp, hp.keep k1 h.2.1 rfl, hp.keep k1 h.2.2 rfl⟩⟩
    · obtain ⟨hi, hl2, hk2⟩ := h
      have hy := run_yield (P := Tryz.prog) (args := #[Value.int .i64 (x : Nat)]) hl2 (by rw [hrc]; exact hps.symm)
      rw [hrc] at hy
      refine ⟨fn, _, assign, body, hy, roundIn_of_wpIn hfn (hassign l x W _ ?_)⟩
      clear hy
      have hlt : l < W.heap.size := (Array.getElem?_eq_some_iff.1 hl2).1
      refine ⟨_, run_beginRound hl2 (by rw [hrc]), ?_⟩
      obtain ⟨Wb, hWb⟩ : ∃ Wb, Wb = W.putObj l (.loop { rc .ready none with state := .busy }) := ⟨_, rfl⟩
      rw [← hWb]
      have hl3 : Wb.heap[l]? = some (.loop { rc .ready none with state := .busy }) := by rw [hWb]; exact World.putObj_heap_same hlt
      have hk3 : Wb.heap[D]? = some (.deferred (some [])) := by rw [hWb]; exact (World.putObj_heap_other hDl.2.2).trans hk2
      have hi3 : Ip x M Wb := by rw [hWb]; exact (hIp x).putObj _ hi hDl.2.1 hl2 rfl
      refine wpIn_mono (hbody l M x Wb hDl.2.1 ⟨_, hl3⟩ hi3) ?_
      have fin : ∀ (jump : Option Code) (W3 : World), KeepsFrom w.heap.size Wb W3 → (Instr.endRound l jump).run Tryz.prog W3 = .ok (.bool jump.isNone) (W3.putObj l (.loop (rc (if jump.isNone then .ready else .done) jump))) ∧ W3.heap[l]? = some (.loop { rc .ready none with state := .busy }) ∧ (W3.putObj l (.loop (rc (if jump.isNone then .ready else .done) jump))).heap[l]? = some (.loop (rc (if jump.isNone then .ready else .done) jump)) ∧ (W3.putObj l (.loop (rc (if jump.isNone then .ready else .done) jump))).heap[D]? = some (.deferred (some [])) := fun jump W3 hk => by
        have h4 := hk.same _ _ hDl.2.1 hl3 rfl
        have h5 := run_endRound (P := Tryz.prog) jump h4
        rw [hrc] at h5 ⊢
        exact ⟨h5, by rw [hrc] at h4; exact h4, World.putObj_heap_same (Array.getElem?_eq_some_iff.1 h4).1, (World.putObj_heap_other hDl.2.2).trans (hk.same _ _ hDl.1 hk3 rfl)⟩
      rintro e a3 W3 hp
      cases e with
      | normal =>
        obtain ⟨h4, M', hM, h5⟩ := hp
        obtain ⟨h6, h7, h8, h9⟩ := fin none W3 h4
        exact ⟨_, _, h6, .inl ⟨rfl, M', hM, hI.putObj _ h5 hDl.2.1 h7 rfl, h8, h9⟩⟩
      | ret =>
        obtain ⟨h4, h5⟩ := hp
        obtain ⟨h6, h7, h8, h9⟩ := fin (some .ret) W3 h4
        exact ⟨_, _, h6, .inr ⟨rfl, .ret, hIx.putObj _ h5 hDl.2.1 h7 rfl, h8, h9⟩⟩
      | exit id =>
        obtain ⟨h4, h5⟩ := hp
        obtain ⟨h6, h7, h8, h9⟩ := fin (some (.exit id)) W3 h4
        exact ⟨_, _, h6, .inr ⟨rfl, .exit id, hIx.putObj _ h5 hDl.2.1 h7 rfl, h8, h9⟩⟩
      | goto t =>
        obtain ⟨h4, h5⟩ := hp
        obtain ⟨h6, h7, h8, h9⟩ := fin (some (.goto t)) W3 h4
        exact ⟨_, _, h6, .inr ⟨rfl, .goto t, hIx.putObj _ h5 hDl.2.1 h7 rfl, h8, h9⟩⟩
      | panic ch => exact hp.elim
      | outgrown => exact hp.elim
    · rintro e W2 ⟨⟨v, rfl⟩, (⟨h1, h2, h3⟩ | ⟨c, h1, h2, h3⟩)⟩
      · have h4 := run_endLoop (P := Tryz.prog) h2 (by rw [hrc]; simp)
        rw [hrc] at h4
        exact ⟨none, _, h4, hdone D _ hDl.1 (hIE.putObj (s := ()) _ h1 hDl.2.1 h2 rfl) ((World.putObj_heap_other hDl.2.2).trans h3)⟩
      · have h4 := run_endLoop (P := Tryz.prog) h2 (by rw [hrc]; simp)
        rw [hrc] at h4
        exact ⟨some c, _, h4, hstop D c _ hDl.1 (hIx.putObj _ h1 hDl.2.1 h2 rfl) ((World.putObj_heap_other hDl.2.2).trans h3)⟩
end Vf
end Go.Proofs.YtdjdhjciealfhaaGreatDoor
