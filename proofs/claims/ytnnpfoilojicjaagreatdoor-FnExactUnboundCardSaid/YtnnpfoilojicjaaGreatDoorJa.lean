import Derived.Test.YtnnpfoilojicjaaGreatDoorJ5
import Derived.RangeFuncNested
import Derived.RangeFuncBound
import Derived.RangeFuncCalls
import Derived.RangeFuncLeaves
import Derived.RangeFuncBox
import Derived.Shelf.Abstract
import Derived.Shelf.RegionOpen
import Derived.WalkKit
import Derived.OwnWalkIn
import Derived.TacticsInMore
import Derived.LoopNIn
import Derived.LoopIn
namespace Go.Proofs.YtnnpfoilojicjaaGreatDoor
open Go.RowKit Go.Shelf Ch1
attribute [local go_sem] Oper.semAt_some
namespace Cp
abbrev Bk (sc : List Pv) := { p : Nat × Pv // sc[p.1]? = some p.2 }
def bkE {sc : List Pv} (x : Bk sc) : Array Value := #[Value.int .i64 (x.1.1 : Int), Value.pointer (some ⟨x.1.2.b, 0, none⟩)]
theorem take_rev {sc : List Pv} {k : Nat} (hk : k < sc.length) : sc.reverse.take (k + 1) = sc.reverse.take k ++ [sc[sc.length - 1 - k]'(by omega)] := by
 have h1 : k < sc.reverse.length := by simpa using hk
 rw [List.take_succ_eq_append_getElem h1, List.getElem_reverse]
theorem bk_snoc {sc : List Pv} {len j : Nat} {pre : List (Bk sc)} {x : Bk sc} (hlen : sc.length = len) (hjl : j < sc.length) (hx : x.1 = (j, sc[j]'hjl)) (hpre : pre.map (·.1.2) = sc.reverse.take (len - (j + 1))) (hprl : pre.length = len - (j + 1)) : (pre ++ [x]).map (·.1.2) = sc.reverse.take (len - j) ∧ (pre ++ [x]).length = len - j := by
 have e1 : (sc[j]'hjl) = sc[sc.length - 1 - (len - (j + 1))]'(by omega) := by congr 1; omega
 refine ⟨?_, by rw [List.length_append, hprl]; simp; omega⟩
 rw [List.map_append, hpre, show len - j = len - (j + 1) + 1 by omega, take_rev (by omega), ← e1]
 simp [hx]
set_option maxRecDepth 100000 in
set_option maxHeartbeats 2000000 in
theorem back1_in (n : Nat) (hn : 1 ≤ n) (l Bs n₀ len cap : Nat) (p : Option Addr) (sc : List Pv) (hlen : sc.length = len) (hl3 : len ≤ 1000000000) (hBn : Bs < n₀) (J Jx : List (Bk sc) → World → Prop)
  (hY : ∀ pre x W, J pre W → pre.length < len → YieldAt Fence.wide (n - 1) Tryz.prog l (bkE x) W fun e W' =>
   (e = .returned (.bool true) ∧ J (pre ++ [x]) W' ∧ Below n₀ W W') ∨ (e = .returned (.bool false) ∧ Jx (pre ++ [x]) W'))
  (W : World) (hBs : W.cell? ⟨Bs, 0, none⟩ = some (.slice p len cap)) (hp : 0 < len → ∃ b, p = some ⟨b, 0, none⟩ ∧ b < n₀ ∧ ∀ j (hj : j < sc.length), W.cell? ⟨b, j, none⟩ = some (.pointer (some ⟨(sc[j]'hj).b, 0, none⟩))) (h0 : J [] W) :
  CallsIn Fence.wide n Tryz.prog 194 #[.func (.yield l) #[] #[], .pointer (some ⟨Bs, 0, none⟩)] W fun e W' => (∃ v, e = .returned v) ∧
   ((∃ ys, ys.map (·.1.2) = sc.reverse ∧ J ys W') ∨ (∃ pre, (∃ k, k ≤ len ∧ pre.map (·.1.2) = sc.reverse.take k) ∧ Jx pre W')) := by
 refine callsIn_of_wp Tryz.func194 rfl trivial ?_ rfl
 simp only [Tryz.ntmps194, List.size_toArray, List.length_cons, List.length_nil, Nat.reduceAdd, Nat.reduceSub, Array.replicate_succ, Array.replicate_zero, List.push_toArray, List.append_toArray, List.nil_append, List.cons_append]
 gi_wp2
 gi_loopw [3] (fun i wr => ∃ j : Nat, j ≤ len ∧ i = .int .i64 ((j : Int) - 1) ∧ Hid (∃ pre : List (Bk sc), pre.map (·.1.2) = sc.reverse.take (len - j) ∧ pre.length = len - j ∧ J pre wr ∧ Below n₀ W wr))
  (fun i _ => (intOf i + 1).toNat)
 case atStart => exact ⟨len, Nat.le_refl _, by simp, [], by simp, by simp, h0, Below.refl _ _⟩
 case round =>
  obtain ⟨j, hj, rfl, hH⟩ := hrel
  obtain ⟨pre, hpre, hprl, hJs, hnx⟩ := hH.out
  have hBx := (hnx.cell (p := ⟨Bs, 0, none⟩) hBn).trans hBs
  cases j with
  | zero =>
   have HF : Hid (∃ ys : List (Bk sc), ys.map (·.1.2) = sc.reverse ∧ J ys wr) := ⟨pre, by rw [hpre, List.take_of_length_le (by simp; omega)], hJs⟩
   clear hH hpre hprl hJs hnx
   gi_wp2
   go_end0
   exact ⟨⟨_, rfl⟩, .inl HF.out⟩
  | succ j =>
   obtain ⟨b, rfl, hb, hc⟩ := hp (by omega)
   have hjl : j < sc.length := by omega
   have hcx := (hnx.cell (p := ⟨b, j, none⟩) hb).trans (hc j hjl)
   have hint : ((j + 1 : Nat) : Int) - 1 = (j : Int) := by omega
   rw [hint]
   obtain ⟨x, hx⟩ : ∃ x : Bk sc, x.1 = (j, sc[j]'hjl) := ⟨⟨(j, sc[j]'hjl), List.getElem?_eq_getElem hjl⟩, rfl⟩
   obtain ⟨fn, tmps, assign, body, hy, hR⟩ := hY pre x wr hJs (by omega)
   have hbe : bkE x = #[Value.int .i64 (j : Int), Value.pointer (some ⟨(sc[j]'hjl).b, 0, none⟩)] := by
    unfold bkE
    rw [hx]
   rw [hbe] at hy
   have HP2 := mkC (bk_snoc hlen hjl hx hpre hprl)
   have HNX := mkC hnx
   have HR := mkC hR
   generalize (sc[j]'hjl).b = vb at hcx hy
   clear hH hpre hprl hJs hnx hx hbe hR hint hc
   gi_wp2
   refine HR.out.mono ?_
   rintro e W3 (⟨rfl, hJ3, hk3⟩ | ⟨rfl, hJx3⟩)
   ·have HG : Hid (∃ pre : List (Bk sc), pre.map (·.1.2) = sc.reverse.take (len - j) ∧ pre.length = len - j ∧ J pre W3 ∧ Below n₀ W W3) := ⟨_, HP2.out.1, HP2.out.2, hJ3, HNX.out.trans hk3⟩
    clear hJ3 hk3
    gi_wp2
    go_roundw
    case rel => exact ⟨j, by omega, by simp, HG.out⟩
    case measure => simp [intOf]
   ·have HG : Hid (∃ pre : List (Bk sc), (∃ k, k ≤ len ∧ pre.map (·.1.2) = sc.reverse.take k) ∧ Jx pre W3) := ⟨_, ⟨len - j, by omega, HP2.out.1⟩, hJx3⟩
    clear hJx3
    gi_wp2
    refine bodyPost_ret (results_none rfl _ _ _) rfl ?_
    exact ⟨⟨_, rfl⟩, .inr HG.out⟩
theorem back_in (n : Nat) (p : Option Addr) (len cap : Nat) (w : World) :
  CallsIn Fence.wide n Tryz.prog 183 #[.slice p len cap] w fun e w' => e = .returned (.func (.func 194) #[] #[.pointer (some ⟨w.heap.size, 0, none⟩)]) ∧ w' = w.alloc (.cells #[.slice p len cap] 56) := by
 refine callsIn_of_wp Tryz.func183 rfl trivial ?_ rfl
 simp only [Tryz.ntmps183, List.size_toArray, List.length_cons, List.length_nil, Nat.reduceAdd, Nat.reduceSub, Array.replicate_succ, Array.replicate_zero, List.push_toArray, List.append_toArray, List.nil_append, List.cons_append]
 gi_wp2
 go_ret
 exact ⟨rfl, rfl⟩
theorem back_stops (n : Nat) (hn : 1 ≤ n) (Bs n₀ len cap : Nat) (p : Option Addr) (sc : List Pv) (hlen : sc.length = len) (hl3 : len ≤ 1000000000) (w : World) (hBn : Bs < n₀) (hn₀ : n₀ ≤ w.heap.size)
  (hBs : w.cell? ⟨Bs, 0, none⟩ = some (.slice p len cap)) (hp : 0 < len → ∃ b, p = some ⟨b, 0, none⟩ ∧ b < n₀ ∧ ∀ j (hj : j < sc.length), w.cell? ⟨b, j, none⟩ = some (.pointer (some ⟨(sc[j]'hj).b, 0, none⟩))) :
  SeqStopsK Fence.wide n Tryz.prog 194 #[.pointer (some ⟨Bs, 0, none⟩)] (fun x : Bk sc => bkE x) (Below n₀) (fun ys => ys.map (·.1.2) = sc.reverse)
   (fun pre => ∃ k, k ≤ len ∧ pre.map (·.1.2) = sc.reverse.take k) len w := fun l J Jx W hW _ _ hY h0 => by
 refine back1_in n hn l Bs n₀ len cap p sc hlen hl3 hBn J Jx hY W ((hW.cell (p := ⟨Bs, 0, none⟩) (show Bs < w.heap.size by omega)).trans hBs) (fun h => ?_) h0
 obtain ⟨b, h1, h2, h3⟩ := hp h
 exact ⟨b, h1, h2, fun j hj => (hW.cell (p := ⟨b, j, none⟩) (show b < w.heap.size by omega)).trans (h3 j hj)⟩
end Cp
end Go.Proofs.YtnnpfoilojicjaaGreatDoor
namespace Go.Proofs.YtnnpfoilojicjaaGreatDoor
open Go.RowKit Go.Shelf Ch1
attribute [local go_sem] Oper.semAt_some
namespace Cp
def ptV (v : Pv) : Value := .pointer (some ⟨v.b, 0, none⟩)
def meanV (s : Sg) (x : List Int) : Value := match s.sc.reverse.find? (fun v => v.x == x) with
 | some v => ptV v
 | none => (findS (glM s.gls) x).getD (.pointer none)
theorem PgI.scAt {c : Cx} {N : Nat} {w : World} {s : Sg} (h : PgI c N w s) : ∃ p cap, s.scv = .slice p s.sc.length cap ∧ (0 < s.sc.length → ∃ b, p = some ⟨b, 0, none⟩ ∧ b < w.heap.size ∧ ∀ j (hj : j < s.sc.length), w.cell? ⟨b, j, none⟩ = some (.pointer (some ⟨(s.sc[j]'hj).b, 0, none⟩))) := by
 obtain ⟨p, cap, e⟩ := owns_form h.sco
 have hr := h.sco
 rw [e] at hr
 obtain ⟨_, _, h3⟩ := owns_cells hr
 refine ⟨p, cap, e, fun h0 => ?_⟩
 obtain ⟨b, e2, h4, _, _, h5⟩ := h3 h0
 refine ⟨b, e2, h4, fun j hj => ?_⟩
 rw [h5 j (by omega)]
 unfold pvC
 rw [List.getElem?_map, List.getElem?_eq_getElem hj]
 rfl
theorem VrI.cell {w : World} {v : Pv} (h : VrI w v) : v.b < w.heap.size ∧ w.cell? ⟨v.b, 0, none⟩ = some (.string (strOfNums v.x)) := by
 obtain ⟨n, g, bx, h1⟩ := h
 exact ⟨(Array.getElem?_eq_some_iff.1 h1).1, by simp [World.cell?, h1]⟩
theorem find_take {l a : List Pv} {v : Pv} {k : Nat} {x : List Int} (h : l.take k = a ++ [v]) (ha : ∀ u ∈ a, u.x ≠ x) (hv : v.x = x) : l.find? (fun u => u.x == x) = some v := by
 rw [← List.take_append_drop k l, h, List.append_assoc, List.find?_append, List.find?_eq_none.2 (fun u hu => by simpa using ha u hu)]
 simp [hv]
theorem mean_sc {s : Sg} {x : List Int} {v : Pv} (h : s.sc.reverse.find? (fun u => u.x == x) = some v) : meanV s x = ptV v := by
 unfold meanV
 rw [h]
theorem mean_gl {s : Sg} {x : List Int} (h : ∀ u ∈ s.sc.reverse, u.x ≠ x) : meanV s x = (findS (glM s.gls) x).getD (.pointer none) := by
 unfold meanV
 rw [List.find?_eq_none.2 (fun u hu => by simpa using h u hu)]
theorem mean_ptr (s : Sg) (x : List Int) : ∃ q, meanV s x = .pointer q := by
 unfold meanV
 split
 ·exact ⟨_, rfl⟩
 ·unfold findS
  cases e : (glM s.gls).find? (fun p => p.1 == x) with
  | none => exact ⟨none, rfl⟩
  | some p =>
   obtain ⟨v, _, rfl⟩ := List.mem_map.1 (List.mem_of_find?_eq_some e)
   exact ⟨_, rfl⟩
set_option maxRecDepth 100000 in
set_option maxHeartbeats 4000000 in
theorem meaning_c {c : Cx} {N : Nat} {s : Sg} (x : List Int) (w : World) (h : PgI c N w s) (hx : Rg x) (hN : N ≤ 1000000000) :
  Calls Tryz.prog 159 #[.pointer (some ⟨s.pb, 0, none⟩), .string (strOfNums x)] w fun e w' => e = .returned (meanV s x) ∧ Below w.heap.size w w' := by
 refine (callsIn_wide (n := 5)).1 ?_
 obtain ⟨p, cap, hsv, hsc⟩ := h.scAt
 have e2 := (cells6 h.blk).2.2.1
 have e1 := (cells6 h.blk).2.1
 rw [hsv] at e2
 have hpb := (Array.getElem?_eq_some_iff.1 h.blk).1
 have hsl : s.sc.length ≤ 1000000000 := Nat.le_trans h.len.2.1 hN
 obtain ⟨len, hlen⟩ : ∃ len, len = s.sc.length := ⟨_, rfl⟩
 rw [← hlen] at e2 hsl
 obtain ⟨st, hst⟩ : ∃ st, st = strOfNums x := ⟨_, rfl⟩
 rw [← hst]
 have HI := mkC h
 have HX := mkC hx
 have HSC := mkC hsc
 have HLEN := mkC hlen
 have HST := mkC hst
 clear h hx hsc hsv hlen hst
 refine callsIn_of_wp_marks Tryz.func159 rfl trivial ?_ rfl
 simp only [Tryz.ntmps159, List.size_toArray, List.length_cons, List.length_nil, Nat.reduceAdd, Nat.reduceSub, Array.replicate_succ, Array.replicate_zero, List.push_toArray, List.append_toArray, List.nil_append, List.cons_append]
 gi_wp2_with (refine ⟨trivial, ?_⟩; gi_at_call 183; refine (back_in _ _ _ _ _).mono ?_; rintro e w' ⟨rfl, rfl⟩)
 have bA := Boxed.new w 9 (.string st)
 have bR := Boxed.new (w.alloc (.cells #[.string st] 9)) 107 (.pointer none)
 rw [World.size_alloc] at bR
 have bN := Boxed.new ((w.alloc (.cells #[.string st] 9)).alloc (.cells #[.pointer none] 107)) 56 (.slice p len cap)
 rw [World.size_alloc, World.size_alloc] at bN
 have hB0 : Below w.heap.size w (((w.alloc (.cells #[.string st] 9)).alloc (.cells #[.pointer none] 107)).alloc (.cells #[.slice p len cap] 56)) := (((Below.refl _ w).alloc (Nat.le_refl _) _).alloc (by simp) _).alloc (by simp; omega) _
 have HSX : Hid (∀ (y : Bk s.sc) (W : World), Below w.heap.size w W → W.cell? ⟨y.1.2.b, 0, none⟩ = some (.string (strOfNums y.1.2.x)) ∧ Rg y.1.2.x) := fun y W hB => by
  have hm : y.1.2 ∈ s.gls ++ s.sc := List.mem_append_right _ (List.mem_of_getElem? y.2)
  obtain ⟨h1, _, h3⟩ := HI.out.vrs _ hm
  exact ⟨(hB.cell (p := ⟨y.1.2.b, 0, none⟩) h1.cell.1).trans h1.cell.2, h3⟩
 refine wpIn_rangeFunc_ownG rfl (by omega) (gf := 194) (lb := #[.pointer (some ⟨w.heap.size + 1 + 1, 0, none⟩)]) rfl trivial (enters_of Tryz.func194 (by kernel_rfl) rfl)
  (back_stops 4 (by omega) (w.heap.size + 1 + 1) (w.heap.size + 1 + 1 + 1) len cap p s.sc HLEN.out.symm hsl _ (by omega) (by simp) bN.cell (fun h0 => by
   obtain ⟨b, h1, h2, h3⟩ := HSC.out (by rw [← HLEN.out]; exact h0)
   exact ⟨b, h1, by omega, fun j hj => (hB0.cell (p := ⟨b, j, none⟩) h2).trans (h3 j hj)⟩)) belowK_t (belowK_b (by simp)) (Below.refl _ _) (fun _ => rfl)
  (fun pre W => ((∀ q ∈ pre, q.1.2.x ≠ x) ∧ W.cell? ⟨w.heap.size, 0, none⟩ = some (.string st) ∧ W.cell? ⟨w.heap.size + 1, 0, none⟩ = some (.pointer none) ∧ W.frozen? ⟨w.heap.size + 1, 0, none⟩ = false) ∧ Below w.heap.size w W)
  (fun cd pre W => (cd = .ret ∧ ∃ ini last, pre = ini ++ [last] ∧ (∀ q ∈ ini, q.1.2.x ≠ x) ∧ last.1.2.x = x ∧ W.cell? ⟨w.heap.size + 1, 0, none⟩ = some (ptV last.1.2)) ∧ Below w.heap.size w W)
  (OwnFrom.and (Own.from (fun s A B row hs hg hr => ⟨hs.1, cell_kept hs.2.1 hg hr, cell_kept hs.2.2.1 hg hr, (frozen_kept hs.2.2.1 hg hr).trans hs.2.2.2⟩) _) (ownFrom_below (Nat.le_refl _) (by simp; omega)))
  (fun cd => OwnFrom.and (Own.from (fun s A B row hs hg hr => by obtain ⟨hc, ini, last, e1, e2, e3, e4⟩ := hs; exact ⟨hc, ini, last, e1, e2, e3, cell_kept e4 hg hr⟩) _) (ownFrom_below (Nat.le_refl _) (by simp; omega)))
  ⟨⟨by simp, ((bA.alloc _).alloc _).cell, (bR.alloc _).cell, (bR.alloc _).frozen⟩, hB0⟩
  (fun y => { tmps := #[.pointer (some ⟨s.pb, 0, none⟩), .string st, undef, .pointer (some ⟨w.heap.size, 0, none⟩), .pointer (some ⟨w.heap.size + 1, 0, none⟩), undef, .pointer (some ⟨y.1.2.b, 0, none⟩), .pointer (some ⟨s.pb, 0, none⟩), .pointer (some ⟨s.pb, 0, none⟩), .pointer (some ⟨s.pb, 2, none⟩), .slice p len cap, .func (.func 194) #[] #[.pointer (some ⟨w.heap.size + 1 + 1, 0, none⟩)], .int .i64 (y.1.1 : Int), .pointer (some ⟨y.1.2.b, 0, none⟩), undef, undef, undef, undef, undef, undef, undef, undef, undef, undef, undef, undef, undef], defers := [] }) ?assign ?body ?done ?stop
 case assign =>
  intro l y W K hK
  unfold bkE
  gi_wp2
  exact hK
 case body =>
  rintro l pre y W ⟨⟨hp, hcn, hcr, hfr⟩, hB⟩ _
  obtain ⟨kv, hry⟩ := HSX.out y W hB
  have HEQ := mkC (str_eqb HX.out hry)
  rw [← HST.out] at HEQ
  obtain ⟨yb, hyb⟩ : ∃ yb, yb = y.1.2.b := ⟨_, rfl⟩
  obtain ⟨sy, hsy⟩ : ∃ sy, sy = strOfNums y.1.2.x := ⟨_, rfl⟩
  rw [← hsy] at kv HEQ
  rw [← hyb] at kv ⊢
  have HYB := mkC hyb
  have HP := mkC hp
  have HB := mkC hB
  clear hp hry hyb hsy hB
  by_cases hxe : y.1.2.x = x
  ·have heq : (sy.toList == st.toList) = true := by rw [HEQ.out]; exact decide_eq_true hxe
   have HXE := mkC hxe
   clear HEQ hxe
   gi_wp2
   gi_region
   all_goals gi_wp2
   all_goals exact ⟨((KeepsOthers.drew W).trans (KeepsOthers.setCell _ _ _)).from _, ⟨rfl, pre, y, rfl, HP.out, HXE.out, by unfold ptV; rw [← HYB.out]; exact World.cell?_setCell_same' _ _ _ (by rw [hcr]; rfl)⟩, (below_drewC HB.out).setCell (p := ⟨w.heap.size + 1, 0, none⟩) (Nat.le_succ _) _⟩
  ·have heq : (sy.toList == st.toList) = false := by rw [HEQ.out]; exact decide_eq_false hxe
   have HXE := mkC hxe
   clear HEQ hxe
   gi_wp2
   gi_region
   all_goals gi_wp2
   all_goals exact ⟨(KeepsOthers.drew W).from _, below_drewC (Below.refl _ _), ⟨fun q hq => (List.mem_append.1 hq).elim (HP.out q) (fun e => by simp at e; subst e; exact HXE.out), hcn, hcr, hfr⟩, below_drewC HB.out⟩
 case done =>
  rintro D ys W hD hys ⟨⟨hne, hcn, hcr, hfr⟩, hB⟩ hK
  have HMV : Hid (meanV s x = (findS (glM s.gls) x).getD (.pointer none)) := mean_gl (fun u hu => by
   rw [← hys] at hu
   obtain ⟨q, hq, rfl⟩ := List.mem_map.1 hu
   exact hne q hq)
  have e1W := (hB.cell (p := ⟨s.pb, 1, none⟩) hpb).trans e1
  have hlk : (Instr.lookup 55 (.map (some s.gm)) (.string st) false).run Tryz.prog W.drew = .ok (meanV s x) W.drew := by
   rw [HMV.out, HST.out]
   refine run_lookG ?_ (fun q hq => ?_) HX.out
   ·obtain ⟨es, clk, h1, h2⟩ := HI.out.glo
    exact ⟨es, clk, (hB.block _ (Array.getElem?_eq_some_iff.1 h1).1).trans h1, h2⟩
   ·obtain ⟨v, hv, rfl⟩ := List.mem_map.1 hq
    exact (HI.out.vrs v (List.mem_append_left _ hv)).2.2
  obtain ⟨mq, hmq⟩ := mean_ptr s x
  rw [hmq] at hlk
  have HMQ := mkC hmq
  clear hmq
  have HB := mkC hB
  have HK := mkC hK
  have HD := mkC hD
  clear hne hB hK hD hys HMV
  gi_wp2
  gi_region
  all_goals gi_wp2
  all_goals
   have hK' := ((KeepsOthers.drew W).trans (KeepsOthers.setCell _ ⟨w.heap.size + 1, 0, none⟩ (.pointer mq))).same D _ HK.out rfl
   refine ⟨by simp, .inl ⟨_, _, rfl, run_takeDeferred hK', ?_⟩⟩
   have hc5 : (((W.setCell ⟨w.heap.size + 1, 0, none⟩ (.pointer mq)).drew).putObj D (.deferred none)).cell? ⟨w.heap.size + 1, 0, none⟩ = some (.pointer mq) := cell_kept (World.cell?_setCell_same' W.drew ⟨w.heap.size + 1, 0, none⟩ (.pointer mq) (by rw [cell_drew_own, hcr]; rfl)) (grownBy_putObj' _ D (.deferred none)) (fun r e => by cases e; exact ⟨_, hK', rfl⟩)
   refine ⟨.pointer mq, ?_, by rw [HMQ.out], ((below_drewC HB.out).setCell (p := ⟨w.heap.size + 1, 0, none⟩) (Nat.le_succ _) _).trans (belowK_b (w := w) (Nat.le_refl _) _ D _ _ (by have := HD.out; simp at this; omega) hK' rfl rfl)⟩
   simp [results, Tryz.f159, go_sem, hc5]
 case stop =>
  rintro D cd pre W hD ⟨k, hk, hpre⟩ ⟨⟨rfl, ini, last, e1', e2', e3', hcr⟩, hB⟩ hK
  have HMV : Hid (meanV s x = ptV last.1.2) := mean_sc (find_take (k := k) (a := ini.map (·.1.2)) (by rw [← hpre, e1']; simp) (fun u hu => by
   obtain ⟨q, hq, rfl⟩ := List.mem_map.1 hu
   exact e2' q hq) e3')
  gi_wp2
  refine ⟨by simp, .inl ⟨_, _, rfl, run_takeDeferred hK, ?_⟩⟩
  have hc5 := cell_kept hcr (grownBy_putObj' _ D (.deferred none)) (fun r e => by cases e; exact ⟨_, hK, rfl⟩)
  refine ⟨ptV last.1.2, ?_, by rw [HMV.out], hB.trans (belowK_b (w := w) (Nat.le_refl _) W D _ _ (by simp at hD; omega) hK rfl rfl)⟩
  simp [results, Tryz.f159, go_sem, hc5]
theorem infoSt : (Tryz.prog.info? 9).map (fun i => (i.zero, i.size, i.bytes)) = some (some (.string ⟨#[]⟩), 1, 16) := by kernel_rfl
structure SmP (s s' : Sg) : Prop where
 pb : s'.pb = s.pb
 wm : s'.wm = s.wm
 gm : s'.gm = s.gm
 gls : s'.gls = s.gls
 scv : s'.scv = s.scv
 sc : s'.sc = s.sc
 fmv : s'.fmv = s.fmv
 fmn : s'.fmn = s.fmn
 fm : s'.fm = s.fm
theorem SmP.refl (s : Sg) : SmP s s := ⟨rfl, rfl, rfl, rfl, rfl, rfl, rfl, rfl, rfl⟩
theorem SmP.trans {a b d : Sg} (h : SmP a b) (k : SmP b d) : SmP a d := ⟨k.pb.trans h.pb, k.wm.trans h.wm, k.gm.trans h.gm, k.gls.trans h.gls, k.scv.trans h.scv, k.sc.trans h.sc, k.fmv.trans h.fmv, k.fmn.trans h.fmn, k.fm.trans h.fm⟩
def Sg.bnd (s : Sg) (x : List Int) : Bool := Cp.bnd (s.gls.map (·.x)) (s.sc.map (·.x)) x
theorem mean_yes {s : Sg} {x : List Int} (h : s.bnd x = true) : ∃ v ∈ s.gls ++ s.sc, meanV s x = ptV v := by
 unfold meanV
 split
 ·rename_i v hv
  exact ⟨v, List.mem_append_right _ (by simpa using List.mem_of_find?_eq_some hv), rfl⟩
 ·rename_i hn
  have hsc : (s.sc.map (·.x)).contains x = false := by
   cases e : (s.sc.map (·.x)).contains x with
   | false => rfl
   | true =>
    rw [List.contains_iff_mem] at e
    obtain ⟨v, hv, hvx⟩ := List.mem_map.1 e
    have := List.find?_eq_none.1 hn v (by simpa using hv)
    simp [hvx] at this
  unfold Sg.bnd Cp.bnd at h
  rw [hsc, Bool.false_or, List.contains_iff_mem] at h
  obtain ⟨v, hv, hvx⟩ := List.mem_map.1 h
  unfold findS
  cases e : (glM s.gls).find? (fun p => p.1 == x) with
  | none =>
   have := List.find?_eq_none.1 e (v.x, Value.pointer (some ⟨v.b, 0, none⟩)) (List.mem_map.2 ⟨v, hv, rfl⟩)
   simp [hvx] at this
  | some p =>
   obtain ⟨u, hu, rfl⟩ := List.mem_map.1 (List.mem_of_find?_eq_some e)
   exact ⟨u, List.mem_append_left _ hu, rfl⟩
theorem mean_no {s : Sg} {x : List Int} (h : s.bnd x = false) : meanV s x = .pointer none := by
 unfold Sg.bnd Cp.bnd at h
 rw [Bool.or_eq_false_iff] at h
 rw [mean_gl (fun u hu e => by
  have h1 := h.1
  rw [← Bool.not_eq_true, List.contains_iff_mem] at h1
  exact h1 (List.mem_map.2 ⟨u, by simpa using hu, e⟩))]
 unfold findS
 cases e : (glM s.gls).find? (fun p => p.1 == x) with
 | none => rfl
 | some p =>
  have h2 := List.find?_some e
  obtain ⟨u, hu, rfl⟩ := List.mem_map.1 (List.mem_of_find?_eq_some e)
  have h1 := h.2
  rw [← Bool.not_eq_true, List.contains_iff_mem] at h1
  exact absurd (List.mem_map.2 ⟨u, hu, by simpa using h2⟩) h1
def VaQ (c : Cx) (N : Nat) (s : Sg) (x : List Int) (w w' : World) (e : Ending) : Prop := ∃ (s' : Sg) (vb : Nat), e = .returned (.pointer (some ⟨vb, 0, none⟩)) ∧ PgI c (N + 1) w' s' ∧ FrP s s' w w' ∧ SmP s s' ∧ s'.lo = s.lo ∧ s'.ub = s.ub ++ lack (s.gls.map (·.x)) (s.sc.map (·.x)) x ∧ ((∃ v ∈ s.gls ++ s.sc, vb = v.b) ∨ (w.heap.size ≤ vb ∧ ¬ Fq s' vb ∧ ∃ (st : ByteArray) (n : Int) (g bx : Bool), w'.heap[vb]? = some (.cells #[.string st, .int .i64 n, .bool g, .bool bx] 175)))
set_option maxRecDepth 20000 in
set_option maxHeartbeats 4000000 in
theorem variable_c {c : Cx} {N : Nat} {s : Sg} (x : List Int) (w : World) (h : PgI c N w s) (hx : Rg x) (hN : N + 1 ≤ 1000000000) :
  Calls Tryz.prog 114 #[.pointer (some ⟨s.pb, 0, none⟩), .string (strOfNums x)] w fun e w' => VaQ c N s x w w' e := by
 have HM := mkC (meaning_c x w h hx (by omega))
 have HI := mkC h
 have HX := mkC hx
 obtain ⟨st, hst⟩ : ∃ st, st = strOfNums x := ⟨_, rfl⟩
 have HST := mkC hst
 rw [← hst] at HM ⊢
 clear h hx hst
 cases hb : s.bnd x with
 | true =>
  obtain ⟨v, hv, hmv⟩ := mean_yes hb
  rw [hmv] at HM
  have HF : Hid (∀ w1, Below w.heap.size w w1 → VaQ c N s x w w1 (.returned (.pointer (some ⟨v.b, 0, none⟩)))) := fun w1 hb1 => by
   have h1 := HI.out.below hb1
   refine ⟨s, v.b, rfl, h1.1.mono (Nat.le_succ N), h1.2, SmP.refl s, rfl, ?_, Or.inl ⟨v, hv, rfl⟩⟩
   have h2 : lack (s.gls.map (·.x)) (s.sc.map (·.x)) x = [] := by
    unfold lack
    rw [show Cp.bnd (s.gls.map (·.x)) (s.sc.map (·.x)) x = true from hb]
    rfl
   rw [h2, List.append_nil]
  unfold ptV at HM
  generalize v.b = vb at HM HF
  clear hb hmv hv
  go_enter Tryz.func114, Tryz.ntmps114
  go_wp2_with fail
  refine HM.out.mono ?_
  rintro e w1 ⟨rfl, hb1⟩
  have HF1 := mkC (HF.out w1 hb1)
  clear hb1
  go_wp2_with fail
  go_ret
  exact HF1.out
 | false =>
  rw [mean_no hb] at HM
  have HLK : Hid (lack (s.gls.map (·.x)) (s.sc.map (·.x)) x = [x]) := by
   unfold Hid lack
   rw [show Cp.bnd (s.gls.map (·.x)) (s.sc.map (·.x)) x = false from hb]
   rfl
  clear hb
  go_enter Tryz.func114, Tryz.ntmps114
  go_wp2_with fail
  refine HM.out.mono ?_
  rintro e w1 ⟨rfl, hb1⟩
  have HI1 := mkC (HI.out.below hb1)
  obtain ⟨up, uc, huv⟩ := owns_form HI1.out.1.ubo
  have e4 := (cells6 HI1.out.1.blk).2.2.2.2.1
  rw [huv] at e4
  obtain ⟨n, hn⟩ : ∃ n, n = s.ub.length := ⟨_, rfl⟩
  have HNN := mkC hn
  have HUV := mkC huv
  rw [← hn] at e4
  have hub : n ≤ N := by rw [hn]; exact HI1.out.1.len.2.2.1
  have HOW : Hid (w1.ownsRow c.w0.heap.size 9 1 (.slice up n uc) n (stC s.ub)) := by unfold Hid; have h1 := HI1.out.1.ubo; rw [huv, ← hn] at h1; exact h1
  have HBK := mkC HI1.out.1.blk
  have hB1 : c.w0.heap.size ≤ w1.heap.size := HI1.out.1.bel.size
  have HADD : Hid (∀ v' w3, w3.ownsRow c.w0.heap.size 9 1 v' (n + 1) (stC s.ub ++ [.string st]) → Below c.w0.heap.size w1 w3 → But w1 w3 (.slice up n uc) → (∀ k, v'.ownBlock = some k → (Value.slice up n uc).ownBlock = some k ∨ w1.heap.size ≤ k) → VaQ c N s x w ((w3.setCell ⟨s.pb, 4, none⟩ v').alloc (.cells #[.string ⟨#[]⟩, .int .i64 0, .bool false, .bool false] 175)) (.returned (.pointer (some ⟨(w3.setCell ⟨s.pb, 4, none⟩ v').heap.size, 0, none⟩)))) := fun v' w3 h1 h2 h3 h4 => by
   have h5 := HI1.out.1.addUb HX.out (by rw [← HNN.out, ← HST.out]; exact h1) h2 (by rw [HUV.out, ← HNN.out]; exact h3) (by rw [HUV.out, ← HNN.out]; exact h4)
   have h6 := h5.1.below (below1 (w3.setCell ⟨s.pb, 4, none⟩ v') (.cells #[.string ⟨#[]⟩, .int .i64 0, .bool false, .bool false] 175))
   refine ⟨_, _, rfl, h6.1, (HI1.out.2.trans h5.2).trans h6.2, ⟨rfl, rfl, rfl, rfl, rfl, rfl, rfl, rfl, rfl⟩, rfl, by rw [HLK.out], Or.inr ⟨(HI1.out.2.trans h5.2).size, fun hq => ?_, ⟨_, _, _, _, Go.Deep.blk_alloc_new _ _⟩⟩⟩
   have := (h5.1.fq_lt hq).1
   omega
  clear hb1 huv hn
  go_upto_region 4 with (at_builtin; refine appW_at w1 rfl (.tmp 15) (.tmp 17) 53 9 rfl _ 1 16 Tryz.underlying53 infoSt rfl (by decide) c.w0.heap.size (.slice up n uc) n (stC s.ub) (by simp [Act.eval]) HOW.out #[.string st] rfl (by simp [Value.oneCell']) (by simp [Act.eval]) (by unfold maxLen; omega) (by omega) hB1 ?_; intro v' w3 ho hb3 hbt hloc hsz; obtain ⟨p2, c2, hv2⟩ := owns_form ho; subst hv2; have HAD := mkC (HADD.out _ w3 ho hb3 hbt hloc); have q4 := (cells6 ((hbt _ (Array.getElem?_eq_some_iff.1 HBK.out).1 (owns_ne HOW.out HBK.out (by decide))).trans HBK.out)).2.2.2.2.1; have qf := (cells6 ((hbt _ (Array.getElem?_eq_some_iff.1 HBK.out).1 (owns_ne HOW.out HBK.out (by decide))).trans HBK.out)).2.2.2.2.2.2; clear ho hb3 hbt hloc hsz e4)
  obtain ⟨W4, hW4⟩ : ∃ W4, W4 = w3.setCell ⟨s.pb, 4, none⟩ (.slice p2 (n + 1) c2) := ⟨_, rfl⟩
  rw [← hW4] at HAD ⊢
  clear hW4 q4 qf
  go_wp2_with fail
  go_ret
  exact HAD.out
theorem sy_of_nm {k : Nat} {l : List Dt} (h : Ok k l) (hn : nm l ≠ []) : isSy l = true := by
 obtain ⟨d, q, rfl, hg⟩ := h.ne
 have hne : d.text.length ≠ 0 := fun e => hn (by unfold nm hd; exact List.eq_nil_of_length_eq_zero e)
 unfold isSy hd
 unfold goodB at hg
 split at hg
 ·simp at hg; exact absurd (by rw [hg.1.2]; rfl) hne
 ·split at hg
  ·simp at hg; exact absurd (by rw [hg.1.2]; rfl) hne
  ·split at hg
   ·rename_i h2
    simp [h2]
   ·split at hg
    ·simp at hg; exact absurd (by rw [hg.1.2]; rfl) hne
    ·cases hg
theorem nm_of_sy {k : Nat} {l : List Dt} (h : Ok k l) (hs : isSy l = true) : nm l ≠ [] := by
 obtain ⟨d, q, rfl, hg⟩ := h.ne
 have h2 : d.kind = 2 := by unfold isSy hd at hs; simpa using hs
 unfold goodB symTextB at hg
 rw [if_neg (by omega), if_neg (by omega), if_pos h2] at hg
 simp only [Bool.and_eq_true, decide_eq_true_eq] at hg
 intro e
 have : d.text = [] := e
 rw [this] at hg
 simp at hg
theorem nm_rg {c : Cx} {db dof k : Nat} {S : Nat → Prop} {w : World} {e : Pe} (hx : PgX c db dof) (h : Pt c db dof S w k e) : Rg (nm (c.ds.drop e.1)) := by
 obtain ⟨_, _, h3⟩ := h.ok
 obtain ⟨b', o', _, _, hcl⟩ := hx.da.cells (by omega)
 obtain ⟨tp, tn, tc, he⟩ := hcl e.1 h3
 have := By.rgC he.by_
 unfold nm
 rw [hd_drop]
 exact this
theorem el_at {w : World} {b n cc : Nat} {p : Option Addr} {es : List Pe} (h : w.ownsRow b 102 2 (.slice p n cc) n (peC es)) (hn : es.length = n) {j : Nat} (hj : j < es.length) : ∃ g, p = some ⟨g, 0, none⟩ ∧ g < w.heap.size ∧ w.cell? ⟨g, j * 2, none⟩ = some (es[j]'hj).2.1 ∧ w.cell? ⟨g, j * 2 + 1, none⟩ = some (es[j]'hj).2.2 := by
 obtain ⟨_, _, h3⟩ := owns_cells h
 obtain ⟨g, e, h4, _, _, h5⟩ := h3 (by omega)
 have h6 := peC_at es j hj
 exact ⟨g, e, h4, by rw [h5 (j * 2) (by omega)]; exact h6.1, by rw [h5 (j * 2 + 1) (by omega)]; exact h6.2⟩
set_option maxRecDepth 20000 in
set_option maxHeartbeats 2000000 in
theorem isDefinition_c {c : Cx} {db dof : Nat} {S : Nat → Prop} {e : Pe} (hx : PgX c db dof) (w : World) (hb : Below c.w0.heap.size c.w0 w) (h : Pt c db dof S w 100 e) : Calls Tryz.prog 59 #[.agg #[e.2.1, e.2.2]] w fun r w' => r = .returned (.bool (isDf (c.ds.drop e.1))) ∧ Below w.heap.size w w' := by
 obtain ⟨so, sn, sc, tp, tn, tc, hdv, h1, h2, h3, hlt, _⟩ := h.head hx
 obtain ⟨es, hrow, hat, hels⟩ := h.els
 obtain ⟨ep, eC, hev⟩ := owns_form hrow
 rw [hdv, hev]
 rw [hev] at hrow
 cases es with
 | nil =>
  have hd0 : isDf (c.ds.drop e.1) = false := by
   unfold isDf
   rw [← hat]
   rfl
  rw [hd0]
  have HB : Hid (Below w.heap.size w (w.alloc (.cells #[.slice (some ⟨db, so, none⟩) sn sc, .slice ep 0 eC] 102))) := below1 _ _
  show Calls _ _ #[.agg #[.slice (some ⟨db, so, none⟩) sn sc, .slice ep 0 eC]] _ _
  clear h hrow hat hels hev hdv hd0 hb
  go_enter Tryz.func59, Tryz.ntmps59
  go_wp2_with fail
  go_ret
  exact ⟨rfl, HB.out⟩
 | cons e0 es =>
  have hp0 := hels e0 (List.mem_cons_self ..)
  obtain ⟨g, rfl, hg, y0, y1⟩ := el_at hrow rfl (j := 0) (by simp)
  simp only [List.getElem_cons_zero, Nat.zero_mul, Nat.zero_add] at y0 y1
  obtain ⟨so0, sn0, sc0, _, _, _, hdv0, _⟩ := hp0.head hx
  obtain ⟨ep0, eN0, eC0, hev0⟩ := hp0.row
  obtain ⟨W, hW⟩ : ∃ W, W = w.alloc (.cells #[.slice (some ⟨db, so, none⟩) sn sc, .slice (some ⟨g, 0, none⟩) (e0 :: es).length eC] 102) := ⟨_, rfl⟩
  have hbW : Below w.heap.size w W := by rw [hW]; exact below1 _ _
  have HNM := mkC (name_c hx W (hb.trans (hbW.mono hb.size)) (hp0.below hbW))
  rw [hdv0] at y0 HNM
  rw [hev0] at y1 HNM
  have HRG := mkC (nm_rg hx hp0)
  have HDF : Hid (isDf (c.ds.drop e.1) = decide (nm (c.ds.drop e0.1) = wDefine)) := by
   unfold Hid isDf
   rw [← hat]
   simp only [Cp.at_, List.map_cons]
   by_cases hq : nm (c.ds.drop e0.1) = wDefine
   ·rw [sy_of_nm hp0.ok.2.1 (by rw [hq]; decide)]
    simp
   ·rw [decide_eq_false hq, Bool.and_false]
  have HEQ := mkC (str_lit HRG.out (W := wDefine) (by unfold Rg; decide) (L := [100, 101, 102, 105, 110, 101]) (by decide))
  rw [HDF.out]
  obtain ⟨n, hn⟩ : ∃ n, n = (e0 :: es).length := ⟨_, rfl⟩
  have hn0 : 0 < n := by rw [hn]; simp
  rw [← hn] at hW ⊢
  have HBW := mkC hbW
  obtain ⟨st, hst⟩ : ∃ st, st = strOfNums (nm (c.ds.drop e0.1)) := ⟨_, rfl⟩
  rw [← hst] at HNM HEQ
  rw [← HEQ.out]
  clear h hrow hat hels hev hdv hp0 hdv0 hev0 hst hn HDF HEQ HRG hbW hb
  go_enter Tryz.func59, Tryz.ntmps59
  go_wp2_with fail
  rw [← hW]
  refine HNM.out.mono ?_
  rintro r w1 ⟨rfl, hb1⟩
  have HB1 := mkC (HBW.out.trans (hb1.mono HBW.out.size))
  clear hb1 hW
  go_wp2_with fail
  go_ret
  exact ⟨rfl, HB1.out⟩
theorem glM_app (a b : List Pv) : glM (a ++ b) = glM a ++ glM b := by simp [glM]
theorem findS_none {l : List Pv} {x : List Int} (h : (l.map (·.x)).contains x = false) : findS (glM l) x = none := by
 unfold findS
 cases e : (glM l).find? (fun p => p.1 == x) with
 | none => rfl
 | some p =>
  have h2 := List.find?_some e
  obtain ⟨u, hu, rfl⟩ := List.mem_map.1 (List.mem_of_find?_eq_some e)
  rw [← Bool.not_eq_true, List.contains_iff_mem] at h
  exact absurd (List.mem_map.2 ⟨u, hu, by simpa using h2⟩) h
theorem PgI.addGl {c : Cx} {N b : Nat} {w w' : World} {s : Sg} {x : List Int} (h : PgI c N w s) (hx : Rg x) (hn : (s.gls.map (·.x)).contains x = false) (hl : s.gls.length + 1 ≤ 3000) (hm : MpS w' s.gm (glM (s.gls ++ [⟨b, x⟩]))) (hv : VrI w' ⟨b, x⟩) (hb0 : w.heap.size ≤ b) (hsz : w.heap.size ≤ w'.heap.size) (hos : w'.os = w.os ∧ w'.tape = w.tape ∧ w'.output = w.output) (hk : ∀ k, k < w.heap.size → k ≠ s.gm → w'.heap[k]? = w.heap[k]?) :
  PgI c N w' { s with gls := s.gls ++ [⟨b, x⟩] } ∧ FrP s { s with gls := s.gls ++ [⟨b, x⟩] } w w' := by
 obtain ⟨es, clk, g1, g2⟩ := h.glo
 have hob : ∀ {k : Nat} {a : Array Value} {t : TypeId}, w.heap[k]? = some (.cells a t) → w'.heap[k]? = some (.cells a t) := fun {k a t} hc => (hk k (Array.getElem?_eq_some_iff.1 hc).1 (fun e => by rw [e, g1] at hc; cases hc)).trans hc
 have row : ∀ {n size : Nat} {e : TypeId} {v : Value} {xs : List Value}, w.ownsRow c.w0.heap.size e size v n xs → w'.ownsRow c.w0.heap.size e size v n xs := fun hr => owns_of_heap hr (fun j hj => by
  obtain ⟨_, cur, hc⟩ := owns_lt hr j hj
  rw [hc]
  exact hob hc)
 have hbel : Below c.w0.heap.size w w' := ⟨hos.1, hos.2.1, hos.2.2, hsz, fun k hk' => hk k (Nat.lt_of_lt_of_le hk' h.bel.size) (fun e => by have := h.gm0; omega)⟩
 have hwg : s.wm ≠ s.gm := fun e => by
  obtain ⟨es2, clk2, q1, q2⟩ := h.wor
  rw [e, g1] at q1
  cases q1
  rw [g2] at q2
  have := congrArg (fun l => l.map (·.2)) q2
  simp [glM, wordsM, mtV] at this
  cases hg : s.gls with
  | nil => rw [hg] at this; simp at this
  | cons v r => rw [hg] at this; simp at this
 refine ⟨⟨h.bel.trans hbel, h.pb0, hob h.blk, ?_, hm, h.gm0, ?_, fun v hv' => ?_, row h.sco, row h.ubo, h.ubr, row h.fmo, ?_⟩, ⟨hsz, fun k hk' hq => hk k hk' (fun e => hq (Or.inr (Or.inl e))), fun k hq => ?_⟩⟩
 ·obtain ⟨es2, clk2, q1, q2⟩ := h.wor
  exact ⟨es2, clk2, (hk _ (Array.getElem?_eq_some_iff.1 q1).1 hwg).trans q1, q2⟩
 ·show ((s.gls ++ [(⟨b, x⟩ : Pv)]).map (·.x)).Nodup
  rw [List.map_append, List.nodup_append]
  refine ⟨h.nd, by simp, fun a ha d hd => ?_⟩
  simp at hd
  subst hd
  intro e
  subst e
  rw [← Bool.not_eq_true, List.contains_iff_mem] at hn
  exact hn ha
 ·have hcase : v ∈ s.gls ++ s.sc ∨ v = ⟨b, x⟩ := by
   have : v ∈ (s.gls ++ [(⟨b, x⟩ : Pv)]) ++ s.sc := hv'
   simp at this
   rcases this with h1 | h1 | h1
   ·exact Or.inl (List.mem_append_left _ h1)
   ·exact Or.inr h1
   ·exact Or.inl (List.mem_append_right _ h1)
  rcases hcase with h1 | rfl
  ·obtain ⟨⟨n, g, bx, q⟩, q2⟩ := h.vrs v h1
   exact ⟨⟨n, g, bx, hob q⟩, q2⟩
  ·exact ⟨hv, Nat.le_trans h.bel.size hb0, hx⟩
 ·exact ⟨by show (s.gls ++ [_]).length ≤ 3000; rw [List.length_append]; exact hl, h.len.2⟩
 ·rcases hq with hq | hq | hq | hq | hq | ⟨v, hv', hq⟩
  ·exact Or.inl (Or.inl hq)
  ·exact Or.inl (Or.inr (Or.inl hq))
  ·exact Or.inl (Or.inr (Or.inr (Or.inl hq)))
  ·exact Or.inl (Or.inr (Or.inr (Or.inr (Or.inl hq))))
  ·exact Or.inl (Or.inr (Or.inr (Or.inr (Or.inr (Or.inl hq)))))
  ·have : v ∈ (s.gls ++ [(⟨b, x⟩ : Pv)]) ++ s.sc := hv'
   simp at this
   rcases this with h1 | h1 | h1
   ·exact Or.inl (Or.inr (Or.inr (Or.inr (Or.inr (Or.inr ⟨v, List.mem_append_left _ h1, hq⟩)))))
   ·exact Or.inr (by rw [hq, h1]; exact hb0)
   ·exact Or.inl (Or.inr (Or.inr (Or.inr (Or.inr (Or.inr ⟨v, List.mem_append_right _ h1, hq⟩)))))
set_option maxRecDepth 20000 in
set_option maxHeartbeats 2000000 in
theorem define_c {c : Cx} {N : Nat} {s : Sg} (x : List Int) (w : World) (h : PgI c N w s) (hx : Rg x) (hl : s.gls.length + 1 ≤ 3000) :
  Calls Tryz.prog 62 #[.pointer (some ⟨s.pb, 0, none⟩), .string (strOfNums x)] w fun e w' => (∃ u, e = .returned u) ∧ ∃ gls', PgI c N w' { s with gls := gls' } ∧ FrP s { s with gls := gls' } w w' ∧ gls'.map (·.x) = addN (s.gls.map (·.x)) x := by
 have hrl : ∀ p ∈ glM s.gls, Rg p.1 := fun p hp => by
  obtain ⟨v, hv, rfl⟩ := List.mem_map.1 hp
  exact (h.vrs v (List.mem_append_left _ hv)).2.2
 have e1 := (cells6 h.blk).2.1
 have hpb := (Array.getElem?_eq_some_iff.1 h.blk).1
 have hlk := run_lookG h.glo hrl hx
 cases hc : (s.gls.map (·.x)).contains x with
 | true =>
  obtain ⟨v, hv⟩ : ∃ v : Pv, (findS (glM s.gls) x).getD (.pointer none) = .pointer (some ⟨v.b, 0, none⟩) := by
   rw [List.contains_iff_mem] at hc
   obtain ⟨v, hv, hvx⟩ := List.mem_map.1 hc
   unfold findS
   cases e : (glM s.gls).find? (fun p => p.1 == x) with
   | none =>
    have := List.find?_eq_none.1 e (v.x, Value.pointer (some ⟨v.b, 0, none⟩)) (List.mem_map.2 ⟨v, hv, rfl⟩)
    simp [hvx] at this
   | some p =>
    obtain ⟨u, hu, rfl⟩ := List.mem_map.1 (List.mem_of_find?_eq_some e)
    exact ⟨u, rfl⟩
  rw [hv] at hlk
  have HF : Hid (∃ gls', PgI c N w { s with gls := gls' } ∧ FrP s { s with gls := gls' } w w ∧ gls'.map (·.x) = addN (s.gls.map (·.x)) x) := ⟨s.gls, h, FrP.refl s w, by unfold addN; rw [hc]; rfl⟩
  generalize strOfNums x = st at hlk
  clear h hx hrl hc hv hl
  go_enter Tryz.func62, Tryz.ntmps62
  go_wp2_with fail
  go_end0
  exact ⟨⟨_, rfl⟩, HF.out⟩
 | false =>
  rw [findS_none hc] at hlk
  have hlk' : (Instr.lookup 55 (.map (some s.gm)) (.string (strOfNums x)) false).run Tryz.prog w = .ok (.pointer none) w := hlk
  obtain ⟨es, clk, g1, g2⟩ := h.glo
  obtain ⟨W1, hW1⟩ : ∃ W1, W1 = (w.alloc (.cells #[.string (strOfNums x), .int .i64 (es.size : Nat), .bool true, .bool false] 175)).drew := ⟨_, rfl⟩
  have hb1 : Below w.heap.size w W1 := by rw [hW1]; exact below_drewC (below1 _ _)
  have hI1 := (h.below hb1).1
  obtain ⟨w', hup, hmp, hkp, hsz, hos1, hos2, hos3⟩ := run_putG hI1.glo hrl hx (findS_none hc) (.pointer (some ⟨w.heap.size, 0, none⟩))
  have hgml : s.gm < w.heap.size := (Array.getElem?_eq_some_iff.1 g1).1
  have hvb : w'.heap[w.heap.size]? = some (.cells #[.string (strOfNums x), .int .i64 (es.size : Nat), .bool true, .bool false] 175) := by
   rw [hkp _ (by omega), hW1]
   exact Go.Deep.blk_alloc_new _ _
  have HF : Hid (∃ gls', PgI c N w' { s with gls := gls' } ∧ FrP s { s with gls := gls' } w w' ∧ gls'.map (·.x) = addN (s.gls.map (·.x)) x) := by
   have h5 := h.addGl (b := w.heap.size) (w' := w') hx hc hl (by rw [glM_app]; exact hmp) ⟨_, _, _, hvb⟩ (Nat.le_refl _) (by rw [hsz]; exact hb1.size) ⟨hos1.trans hb1.os, hos2.trans hb1.tape, hos3.trans hb1.output⟩ (fun k hk hne => (hkp k hne).trans (hb1.block k hk))
   exact ⟨_, h5.1, h5.2, by unfold addN; rw [hc]; simp⟩
  rw [hW1] at hup
  have hesl : es.size ≤ 3000 := by
   have := congrArg List.length g2
   simp [glM] at this
   omega
  have g1d : w.drew.heap[s.gm]? = some (.map es clk) := g1
  have hln : (Builtin.len_ #[55] 3 #[.map (some s.gm)]).run Tryz.prog w.drew = .ok (.int .i64 (es.size : Nat)) w.drew := by
   simp [Builtin.len_, run_underlying Tryz.underlying55, MapKept.run_getObj_map g1d, Result.andThen]
   rfl
  generalize strOfNums x = st at hlk' hup
  generalize es.size = esn at hup hesl hln
  clear h hx hrl hc hl hlk hI1 hmp hkp hsz hos1 hos2 hos3 hvb hb1 hW1 g2 g1 g1d
  go_enter Tryz.func62, Tryz.ntmps62
  go_wp2_with fail
  go_region
  all_goals go_wp2_with fail
  all_goals go_end0
  all_goals exact ⟨⟨_, rfl⟩, HF.out⟩
end Cp
end Go.Proofs.YtnnpfoilojicjaaGreatDoor
