import Derived.Test.YtmmkpmgidoelpaaDoorS4
import Derived.Deep.CutRange
import Derived.Deep.LoopGhost
namespace Go.Proofs.YtmmkpmgidoelpaaDoor
open Go.RowKit Ch1 Ch2s
/-- The object that a word points to. -/
theorem obj_of {ws : List Int} {top : Int} {n : Nat} {x : Int} (hG : Hp.Ch2.GoodH ws top) (hl : ws.length = n) (hx : x % 4 = 1) (hw : Hp.Ch2.WordOk ws top.toNat x) : ∃ a : Nat, x / 4 = a ∧ (x / 4).toNat = a ∧ Hp.Ch2.St ws top.toNat a ∧ Hp.Ch2.headB (ws.getD a 0) = true ∧ Ob n a (Hp.Ch2.cnt (ws.getD a 0)) (ws.getD a 0) ∧ ∀ i, i < Hp.Ch2.cnt (ws.getD a 0) → Hp.Ch2.WordOk ws top.toNat (ws.getD (a + 1 + i) 0) := by
  rcases hw with h | h | ⟨_, h0, hs⟩ | h
  · omega
  · omega
  · have hh := hG.heads _ hs
    have hc := Hp.Ch2.head_cnt hh.1
    have h1 := hG.hi
    have h2 := hG.lo
    have h3 := hG.size
    have h4 := hh.2
    exact ⟨(x / 4).toNat, by omega, rfl, hs, hh.1, ⟨hc.2.2.2.symm, hc.2.2.1, by omega, by omega⟩, fun i hi => hG.fields hs (by omega) (by omega)⟩
  · omega
theorem isPr_iff {ws : List Int} {x : Int} {a : Nat} (hx : x % 4 = 1) (ha : (x / 4).toNat = a) : isPr ws x = decide (ws.getD a 0 % 4 = 0) := by
  unfold isPr; rw [ha, decide_eq_true hx, Bool.true_and]
/-- The end of a pair's text. -/
def prT (g : Int → List Int → List Int) (r : Int × List Int) : List Int := putT [41] (if r.1 ≠ 3 then g r.1 (putT [32, 46, 32] r.2) else r.2)
theorem prT_nil {g : Int → List Int → List Int} {o : List Int} : prT g (3, o) = putT [41] o := by unfold prT; rw [if_neg (fun h => h rfl)]
theorem prT_more {g : Int → List Int → List Int} {x : Int} {o : List Int} (h : x ≠ 3) : prT g (x, o) = putT [41] (g x (putT [32, 46, 32] o)) := by unfold prT; rw [if_pos h]
/-- A word that leads to no pair. -/
theorem mean_other (p : Option Addr) (n c : Nat) (top x : Int) (ws : List Int) (w : World) (hI : Hp.Is w p n c ws) (hG : Hp.Ch2.GoodH ws top) (hw : Hp.Ch2.WordOk ws top.toNat x) (hn : isPr ws x = false) :
    Calls Tryd.prog 41 #[.agg #[.slice p n c, .int .i64 top], .int .i64 x] w fun e w' => ∃ t v, e = .returned (.iface t v) ∧ (t = 77 ∨ t = 80 ∨ t = 81 ∨ t = 82) ∧ Below w.heap.size w w' := by
  rcases (show x % 4 = 0 ∨ x % 4 = 2 ∨ x % 4 = 3 ∨ x % 4 = 1 by omega) with h | h | h | h
  · exact (mean_num p n c top x w h).mono (fun e w' ⟨h1, h2⟩ => ⟨_, _, h1, Or.inl rfl, h2⟩)
  · exact (mean_sym p n c top x w h).mono (fun e w' ⟨h1, h2⟩ => ⟨_, _, h1, Or.inr (Or.inl rfl), h2⟩)
  · have h3 : 3 ≤ x ∧ x ≤ 19 := by rcases hw with h | h | h | h <;> omega
    exact (mean_rare p n c top x w h h3.1 h3.2).mono (fun e w' ⟨h1, h2⟩ => ⟨_, _, h1, Or.inr (Or.inr (Or.inl rfl)), h2⟩)
  · obtain ⟨a, ha, ha', _, _, hO, _⟩ := obj_of hG hI.len h hw
    rw [isPr_iff h ha'] at hn
    have hn := of_decide_eq_false hn
    rcases (show ws.getD a 0 % 4 = 1 ∨ ws.getD a 0 % 4 = 2 ∨ ws.getD a 0 % 4 = 3 by omega) with k | k | k
    · exact (mean_vec p n c top x ws w a _ hI h ha hO k).mono (fun e w' ⟨q, c', h1, _, _, _, h2⟩ => ⟨_, _, h1, Or.inr (Or.inr (Or.inr rfl)), h2⟩)
    · exact (mean_text p n c top x ws w a _ hI h ha hO 2 k _ (Or.inl ⟨rfl, rfl⟩)).mono (fun e w' ⟨h1, h2⟩ => ⟨_, _, h1, Or.inr (Or.inr (Or.inl rfl)), h2⟩)
    · exact (mean_text p n c top x ws w a _ hI h ha hO 3 k _ (Or.inr ⟨rfl, rfl⟩)).mono (fun e w' ⟨h1, h2⟩ => ⟨_, _, h1, Or.inr (Or.inr (Or.inl rfl)), h2⟩)
theorem ta_pair (v : Value) (w : World) : (Instr.typeAssert (.iface 84 v) 20 84 true).run Tryd.prog w = .ok (.tuple #[v, .bool true]) w := by kernel_rfl
theorem ta_nopair (t : TypeId) (ht : t = 77 ∨ t = 80 ∨ t = 81 ∨ t = 82) (v : Value) (w : World) : (Instr.typeAssert (.iface t v) 20 84 true).run Tryd.prog w = .ok (.tuple #[.agg #[.int .i64 0, .int .i64 0], .bool false]) w := by
  rcases ht with rfl | rfl | rfl | rfl <;> kernel_rfl
/-- A box of two that is written while the shower stands. -/
theorem Sh.box2 {w w' : World} {b B : Nat} {hp : Value} {top : Int} {nm v : Value} {zs : List Int} {bx : Nat} {z0 z1 x0 x1 : Value} {t : TypeId} (h : Sh w' b B hp top nm v zs) (hs : Sk b B w w') (hB : B ≤ bx) (hx : w'.heap[bx]? = some (.cells #[z0, z1] t)) (hne : bx ≠ b) (hl : w.heap.size ≤ bx) (ht : t ≠ 5) : ShP b B hp top nm zs w ((w'.setCell ⟨bx, 0, none⟩ x0).setCell ⟨bx, 1, none⟩ x1) := by
  have hk : ∀ k, k ≠ bx → ((w'.setCell ⟨bx, 0, none⟩ x0).setCell ⟨bx, 1, none⟩ x1).heap[k]? = w'.heap[k]? := fun k hk => (Below.heap_setCell _ _ _ k hk).trans (Below.heap_setCell _ _ _ k hk)
  refine ⟨v, ⟨(hk b (Ne.symm hne)).trans h.blk, h.ge, h.ow.of_heap fun k e => hk k ?_⟩, ⟨(hs.below.setCell (by simpa using hB) _).setCell (by simpa using hB) _, fun k arr t' e h1 h2 => ?_⟩⟩
  · intro e2
    subst e2
    exact own_ne h.ow hx ht e.symm
  · have hlt := (Array.getElem?_eq_some_iff.1 e).1
    exact (hk k (by omega)).trans (hs.kept k arr t' e h1 h2)
section
variable {w0 : World} {p : Option Addr} {n c : Nat} {top : Int} {ws : List Int} {np : Option Addr} {nn nc : Nat} {ns : List (List Int)} (b : Nat)
/-- At the head of the loop over the pairs. -/
def PrI (w0 : World) (b : Nat) (p : Option Addr) (n c : Nat) (top : Int) (ws : List Int) (np : Option Addr) (nn nc : Nat) (g : Int → List Int → List Int) (bx : Nat) (res : Int × List Int) (lo : Nat) (w : World) (gk : Nat) (wr : World) : Prop :=
  ∃ (j : Nat) (rest fst : Int) (out : List Int), gk = 1001 - j ∧ Hid (ShowP w0 b p n c top np nn nc out w wr) ∧ Hid (wr.heap[bx]? = some (.cells #[.int .i64 fst, .int .i64 rest] 84)) ∧ Hid (Hp.Ch2.WordOk ws top.toNat rest) ∧ Hid (-9223372036854775808 ≤ rest ∧ rest ≤ 9223372036854775807) ∧ Hid (prI g ws (1001 - j) rest out = res) ∧ Hid (j ≤ out.length ∧ lo ≤ out.length ∧ out.length ≤ 1000)
/-- Behind 'next, ok := meaning(..).(shownPair)'. -/
def NxP (n1 n2 : Int) (r : Bool) (wr : World) (gv kv : Value) (wc : World) : Prop := ∃ gb, gv = .pointer (some ⟨gb, 0, none⟩) ∧ kv = .bool r ∧ wr.heap.size ≤ gb ∧ wc.heap[gb]? = some (.cells #[.int .i64 n1, .int .i64 n2] 84) ∧ Below wr.heap.size wr wc
theorem NxP.late {n1 n2 : Int} {r : Bool} {wr w5 : World} (hb : Below wr.heap.size wr w5) : NxP n1 n2 r wr (.pointer (some ⟨w5.heap.size, 0, none⟩)) (.bool r) (w5.alloc (.cells #[.int .i64 n1, .int .i64 n2] 84)) :=
  ⟨_, rfl, rfl, hb.size, Go.Deep.blk_alloc_new _ _, hb.trans ((below1 _ _).mono hb.size)⟩
theorem NxP.soon {n1 n2 : Int} {r : Bool} {z0 z1 : Value} {wr w5 : World} (hb : Below wr.heap.size wr w5) (hz : w5.heap[wr.heap.size]? = some (.cells #[z0, z1] 84)) : NxP n1 n2 r wr (.pointer (some ⟨wr.heap.size, 0, none⟩)) (.bool r) ((w5.setCell ⟨wr.heap.size, 0, none⟩ (.int .i64 n1)).setCell ⟨wr.heap.size, 1, none⟩ (.int .i64 n2)) := by
  refine ⟨_, rfl, rfl, Nat.le_refl _, ?_, (hb.setCell (by simp) _).setCell (by simp) _⟩
  obtain ⟨hlt, e2⟩ := Array.getElem?_eq_some_iff.1 hz
  simp [World.setCell, Array.getElem_modify, e2, hlt]
set_option maxRecDepth 20000 in
set_option maxHeartbeats 4000000 in
theorem pair_c (f : Nat) (ih : ShowC w0 b p n c top ws np nn nc ns f) (hC : Cx w0 p n c top ws np nn nc ns) (f1 f2 : Int) (k1 : Hp.Ch2.WordOk ws top.toNat f1) (k2 : Hp.Ch2.WordOk ws top.toNat f2) (r1 : -9223372036854775808 ≤ f1 ∧ f1 ≤ 9223372036854775807) (r2 : -9223372036854775808 ≤ f2 ∧ f2 ≤ 9223372036854775807) (v : Value) (xs : List Int) (w : World) (hW : Sh w b w0.heap.size (.slice p n c) top (.slice np nn nc) v xs) (hb : Below w0.heap.size w0 w) (hf : 1001 - xs.length ≤ f + 1) (hx : xs.length < 1000) :
    Calls Tryd.prog 46 #[.pointer (some ⟨b, 0, none⟩), .agg #[.int .i64 f1, .int .i64 f2]] w fun e w' => e = .returned (.tuple #[]) ∧ ShowP w0 b p n c top np nn nc (prT (shI itoaZ (symZ ns) rareZ ws f) (prI (shI itoaZ (symZ ns) rareZ ws f) ws 1001 f2 (shI itoaZ (symZ ns) rareZ ws f f1 (putT [40] xs)))) w w' := by
  have IH : Hid (ShowC w0 b p n c top ws np nn nc ns f) := ih
  have HG : Hid (Bnd (shI itoaZ (symZ ns) rareZ ws f)) := shI_bnd _ _ _ _ _
  obtain ⟨g, hg⟩ : ∃ g, g = shI itoaZ (symZ ns) rareZ ws f := ⟨_, rfl⟩
  have HGE : Hid (g = shI itoaZ (symZ ns) rareZ ws f) := hg
  rw [← hg] at HG ⊢
  have HC : Hid (Cx w0 p n c top ws np nn nc ns) := hC
  have HRG : Hid (∀ i, -9223372036854775808 ≤ ws.getD i 0 ∧ ws.getD i 0 ≤ 9223372036854775807) := hC.is.rng
  have HB : Hid (Below w0.heap.size w0 w) := hb
  have HBS : Hid (w0.heap.size ≤ w.heap.size) := hb.size
  have HW : Hid (Sh w b w0.heap.size (.slice p n c) top (.slice np nn nc) v xs) := hW
  have HK1 : Hid (Hp.Ch2.WordOk ws top.toNat f1) := k1
  have HK2 : Hid (Hp.Ch2.WordOk ws top.toNat f2) := k2
  have HR2 : Hid (-9223372036854775808 ≤ f2 ∧ f2 ≤ 9223372036854775807) := r2
  have h1 := putT_more [40] xs hx (by simp)
  have h2 := putT_len [40] xs (by omega)
  have kc := fun (w : World) (C : Array Value) (n c : Nat) => Lib.run_convert_bytes_const (P := Tryd.prog) w 22 5 C n c Tryd.underlying22 Tryd.underlying5
  have kc2 := fun (C : Array Value) (n c : Nat) => Lib.run_convert_bytes_const (P := Tryd.prog) (w.alloc (.cells #[.int .i64 f1, .int .i64 f2] 84)) 22 5 C n c Tryd.underlying22 Tryd.underlying5
  simp only [World.size_alloc] at kc2
  obtain ⟨W, hWW⟩ : ∃ W, W = w.alloc (.cells #[.int .i64 f1, .int .i64 f2] 84) := ⟨_, rfl⟩
  have HX0 : Hid (W.heap[w.heap.size]? = some (.cells #[.int .i64 f1, .int .i64 f2] 84)) := by unfold Hid; rw [hWW]; exact Go.Deep.blk_alloc_new _ _
  have HWB : Hid (Below w.heap.size w W) := by unfold Hid; rw [hWW]; exact below1 _ _
  have hWs : W.heap.size = w.heap.size + 1 := by rw [hWW]; simp
  have hbx : w.heap.size ≠ b := by have := hW.lt; omega
  clear hW hb ih hg hC k1 k2 r2
  obtain ⟨out0, ho0⟩ : ∃ o, o = putT [40] xs := ⟨_, rfl⟩
  rw [← ho0] at h1 h2 ⊢
  have HO0 : Hid (out0 = putT [40] xs) := ho0
  clear ho0
  go_enter Tryd.func46, Tryd.ntmps46
  go_wp2_with fail
  rw [← hWW]
  clear hWW kc2
  refine (putk_c b _ _ _ _ v xs [40] _ _ 1 _ W hWs.symm rfl rfl (rg1 40 (by omega)) (by simp) (HW.out.below HWB.out) (by omega) (Nat.le_trans HBS.out HWB.out.size)).mono ?_
  rintro e w1 ⟨rfl, v1, hw1, hs1⟩
  rw [← HO0.out] at hw1
  have HW1 : Hid (Sh w1 b w0.heap.size (.slice p n c) top (.slice np nn nc) v1 out0) := hw1
  have HS1 : Hid (Sk b w0.heap.size w w1) := (Sk.of_below HWB.out HBS.out).trans hs1
  have HX1 : Hid (w1.heap[w.heap.size]? = some (.cells #[.int .i64 f1, .int .i64 f2] 84)) := hs1.kept _ _ _ HX0.out (by decide) hbx
  have x0 : w1.cell? ⟨w.heap.size, 0, none⟩ = some (.int .i64 f1) := by simp [World.cell?, HX1.out]
  have HBW : Hid (∀ w', Sk b w0.heap.size w w' → Below w0.heap.size w0 w') := fun w' hs => HB.out.trans hs.below
  clear hw1 hs1 HX0 HWB hWs
  go_wp2_with fail
  refine (IH.out f1 v1 out0 _ HW1.out (HBW.out _ HS1.out) HK1.out r1 (by omega) h2.1).mono ?_
  rintro e w2 ⟨rfl, v2, hw2, hs2⟩
  rw [← HGE.out] at hw2
  have hb2 := HG.out f1 out0 h2.1
  obtain ⟨out1, ho1⟩ : ∃ o, o = g f1 out0 := ⟨_, rfl⟩
  rw [← ho1] at hw2 hb2
  have HS2 : Hid (Sk b w0.heap.size w w2) := HS1.out.trans hs2
  have HP2 : Hid (ShowP w0 b p n c top np nn nc out1 w w2) := ⟨v2, hw2, HS2.out⟩
  have HX2 : Hid (w2.heap[w.heap.size]? = some (.cells #[.int .i64 f1, .int .i64 f2] 84)) := hs2.kept _ _ _ HX1.out (by decide) hbx
  obtain ⟨res, hres⟩ : ∃ r, r = prI g ws 1001 f2 out1 := ⟨_, rfl⟩
  have HRES : Hid (prI g ws 1001 f2 out1 = res) := hres.symm
  have HFIN : Hid (prI g ws 1001 f2 (g f1 out0) = res) := by unfold Hid; rw [← ho1]; exact hres.symm
  have hlo : out0.length ≤ out1.length := hb2.1
  clear hw2 hs2 hres ho1 x0 HX1 HW1 HS1
  go_wp2
  go_loopg [] 1001 (fun gk wr => PrI w0 b p n c top ws np nn nc g w.heap.size res out0.length w gk wr)
  case atStart => exact ⟨0, f2, f1, out1, rfl, HP2.out, HX2.out, HK2.out, HR2.out, HRES.out, ⟨Nat.zero_le _, hlo, hb2.2⟩⟩
  case round =>
    clear HP2 HX2 HRES HK2 HR2 HS2
    obtain ⟨j, rest, fst, out, hgk, hP, hX, hK, hR, hE, hL⟩ := hrel
    obtain ⟨v1, hw1, hs1⟩ := hP.out
    have HW1 : Hid (Sh wr b w0.heap.size (.slice p n c) top (.slice np nn nc) v1 out) := hw1
    have HS1 : Hid (Sk b w0.heap.size w wr) := hs1
    have hl1 := hL.out.1
    have hl2 := hL.out.2.1
    have hl3 := hL.out.2.2
    have hbr := HBW.out _ hs1
    have HBR : Hid (Below w0.heap.size w0 wr) := hbr
    have HIS : Hid (∀ w', Below wr.heap.size wr w' → Hp.Is w' p n c ws) := fun w' h => HC.out.is.below (hbr.trans (h.mono hbr.size))
    have hBr := hbr.size
    have hwl := hs1.below.size
    have bx0 : wr.cell? ⟨w.heap.size, 0, none⟩ = some (.int .i64 fst) := by simp [World.cell?, hX.out]
    have bx1 : wr.cell? ⟨w.heap.size, 1, none⟩ = some (.int .i64 rest) := by simp [World.cell?, hX.out]
    have HGK : Hid (gk = 1001 - j) := hgk
    clear hw1 hs1 hbr hgk hP hL
    by_cases hgo : out.length ≠ 1000 ∧ isPr ws rest = true
    · obtain ⟨hnf, hpr⟩ := hgo
      have hx1 : rest % 4 = 1 := by unfold isPr at hpr; simp at hpr; omega
      obtain ⟨a, ha, ha', hSt, hhd, hOb, hfw⟩ := obj_of HC.out.good HC.out.is.len hx1 hK.out
      have hk0 : ws.getD a 0 % 4 = 0 := by rw [isPr_iff hx1 ha'] at hpr; exact of_decide_eq_true hpr
      have hc2 := Hp.Ch2.head_pair hhd hk0
      rw [hc2] at hOb hfw
      have HM : Hid (∀ w', Below wr.heap.size wr w' → Calls Tryd.prog 41 #[.agg #[.slice p n c, .int .i64 top], .int .i64 rest] w' fun e w'' => e = .returned (.iface 84 (.agg #[.int .i64 (ws.getD (a + 1) 0), .int .i64 (ws.getD (a + 2) 0)])) ∧ Below w'.heap.size w' w'') := fun w' h => mean_pair p n c top rest ws w' a (HIS.out _ h) hx1 ha hOb hk0
      have HN1 : Hid (Hp.Ch2.WordOk ws top.toNat (ws.getD (a + 1) 0)) := hfw 0 (by omega)
      have HN2 : Hid (Hp.Ch2.WordOk ws top.toNat (ws.getD (a + 2) 0)) := hfw 1 (by omega)
      have HQ1 : Hid (-9223372036854775808 ≤ ws.getD (a + 1) 0 ∧ ws.getD (a + 1) 0 ≤ 9223372036854775807) := HRG.out _
      have HQ2 : Hid (-9223372036854775808 ≤ ws.getD (a + 2) 0 ∧ ws.getD (a + 2) 0 ≤ 9223372036854775807) := HRG.out _
      have HES : Hid (prI g ws (1001 - (j + 1)) (ws.getD (a + 2) 0) (g (ws.getD (a + 1) 0) (putT [32] out)) = res) := by
        unfold Hid
        rw [← hE.out, show 1001 - j = (1001 - (j + 1)) + 1 by omega, prI, if_pos ⟨hnf, hpr⟩, ha']
      have hdf : decide (out.length = 1000) = false := decide_eq_false hnf
      have hmo := putT_more [32] out (by omega) (by simp)
      have hpl := putT_len [32] out hl3
      generalize ws.getD (a + 1) 0 = n1 at HM HN1 HQ1 HES
      generalize ws.getD (a + 2) 0 = n2 at HM HN2 HQ2 HES
      clear hhd hOb hfw hSt hx1 ha ha' hk0 hc2 hpr hE hK
      obtain ⟨s0, s1, s2, s3, sf⟩ := HW1.out.cells
      have hblt := HW1.out.lt
      have hxlt : w.heap.size < wr.heap.size := (Array.getElem?_eq_some_iff.1 hX.out).1
      have y0 := fun o1 => cell_keep (below1 wr o1) hblt s0
      have y1 := fun o1 => cell_keep (below1 wr o1) hblt s1
      have y2 := fun o1 => cell_keep (below1 wr o1) hxlt bx1
      go_wp2_with (go_at_call 40; refine (full_c b _ _ _ _ v1 out _ HW1.out).mono ?_; rintro e w3 ⟨rfl, hw3⟩; have hw3' := hw3.symm; clear hw3; subst hw3'; rw [hdf])
      have ta := ta_pair
      go_cut [4, 5] from 14 to 38 (fun gv kv wc => NxP n1 n2 true wr gv kv wc)
      case first =>
        go_region_with (go_at_call 41; refine (HM.out _ ?y1).mono ?_; (case y1 => first | exact below_drewM (Below.refl _ _) | exact below_drewM (below1 _ _)); rintro e w5 ⟨rfl, hb5⟩; have HB5 : Hid (Below wr.heap.size wr w5) := (by first | exact (below_drewM (Below.refl _ _)).trans hb5 | exact (below_drewM (below1 _ _)).trans (hb5.mono (by simp))); (first | (have HZB : Hid (w5.heap[wr.heap.size]? = some (.cells #[.int .i64 0, .int .i64 0] 84)) := (by exact (hb5.block wr.heap.size (by simp)).trans (Go.Deep.blk_alloc_new wr _)); have bz0 : w5.cell? ⟨wr.heap.size, 0, none⟩ = some (.int .i64 0) := (by simp [World.cell?, HZB.out]); have bz1 : w5.cell? ⟨wr.heap.size, 1, none⟩ = some (.int .i64 0) := (by simp [World.cell?, HZB.out]); have bz2 : w5.frozen? ⟨wr.heap.size, 0, none⟩ = false := (by simp [World.frozen?, HZB.out]); have bz3 : w5.frozen? ⟨wr.heap.size, 1, none⟩ = false := (by simp [World.frozen?, HZB.out])) | skip); clear hb5)
        all_goals go_wp2_with fail
        all_goals go_meet
        all_goals first | exact NxP.late HB5.out | exact NxP.soon HB5.out HZB.out
      case rest =>
        obtain ⟨gb, rfl, rfl, hgb, hgc, hbc⟩ := hcut
        have HWc : Hid (Sh wc b w0.heap.size (.slice p n c) top (.slice np nn nc) v1 out) := HW1.out.below hbc
        have HSc : Hid (Sk b w0.heap.size w wc) := HS1.out.trans (Sk.of_below hbc hBr)
        have HGC : Hid (wc.heap[gb]? = some (.cells #[.int .i64 n1, .int .i64 n2] 84)) := hgc
        have HXC : Hid (wc.heap[w.heap.size]? = some (.cells #[.int .i64 fst, .int .i64 rest] 84)) := (hbc.block _ hxlt).trans hX.out
        have hBc := Nat.le_trans hBr hbc.size
        have hgb2 : gb ≠ b := by omega
        have hgb3 : gb ≠ w.heap.size := by omega
        clear hgc hbc y0 y1 y2 s0 s1 s2 s3 sf bx0 bx1 hX HM HIS ta
        go_wp2_with fail
        refine (putk_c b _ _ _ _ v1 out [32] _ _ 1 _ wc rfl rfl rfl (rg1 32 (by omega)) (by simp) HWc.out hl3 hBc).mono ?_
        rintro e w4 ⟨rfl, v4, hw4, hs4⟩
        have HW4 : Hid (Sh w4 b w0.heap.size (.slice p n c) top (.slice np nn nc) v4 (putT [32] out)) := hw4
        have HS4 : Hid (Sk b w0.heap.size w w4) := HSc.out.trans hs4
        have HG4 : Hid (w4.heap[gb]? = some (.cells #[.int .i64 n1, .int .i64 n2] 84)) := hs4.kept _ _ _ HGC.out (by decide) hgb2
        have HX4 : Hid (w4.heap[w.heap.size]? = some (.cells #[.int .i64 fst, .int .i64 rest] 84)) := hs4.kept _ _ _ HXC.out (by decide) hbx
        have q0 : w4.cell? ⟨gb, 0, none⟩ = some (.int .i64 n1) := by simp [World.cell?, HG4.out]
        clear hw4 hs4 HGC HXC HWc
        obtain ⟨o2, ho2⟩ : ∃ o, o = putT [32] out := ⟨_, rfl⟩
        rw [← ho2] at hmo hpl HES HW4
        clear ho2
        go_wp2_with fail
        refine (IH.out n1 v4 o2 _ HW4.out (HBW.out _ HS4.out) HN1.out HQ1.out (by omega) hpl.1).mono ?_
        rintro e w6 ⟨rfl, v6, hw6, hs6⟩
        rw [← HGE.out] at hw6
        have HW6 : Hid (Sh w6 b w0.heap.size (.slice p n c) top (.slice np nn nc) v6 (g n1 o2)) := hw6
        have HS6 : Hid (Sk b w0.heap.size w w6) := HS4.out.trans hs6
        have HG6 : Hid (w6.heap[gb]? = some (.cells #[.int .i64 n1, .int .i64 n2] 84)) := hs6.kept _ _ _ HG4.out (by decide) hgb2
        have HX6 : Hid (w6.heap[w.heap.size]? = some (.cells #[.int .i64 fst, .int .i64 rest] 84)) := hs6.kept _ _ _ HX4.out (by decide) hbx
        have hbn := HG.out n1 o2 hpl.1
        have q1 : w6.cell? ⟨gb, 0, none⟩ = some (.int .i64 n1) := by simp [World.cell?, HG6.out]
        have q2 : w6.cell? ⟨gb, 1, none⟩ = some (.int .i64 n2) := by simp [World.cell?, HG6.out]
        have q3 : w6.cell? ⟨w.heap.size, 0, none⟩ = some (.int .i64 fst) := by simp [World.cell?, HX6.out]
        have q4 : w6.cell? ⟨w.heap.size, 1, none⟩ = some (.int .i64 rest) := by simp [World.cell?, HX6.out]
        have q5 : w6.frozen? ⟨w.heap.size, 0, none⟩ = false := by simp [World.frozen?, HX6.out]
        have q6 : w6.frozen? ⟨w.heap.size, 1, none⟩ = false := by simp [World.frozen?, HX6.out]
        have HXF : Hid (((w6.setCell ⟨w.heap.size, 0, none⟩ (.int .i64 n1)).setCell ⟨w.heap.size, 1, none⟩ (.int .i64 n2)).heap[w.heap.size]? = some (.cells #[.int .i64 n1, .int .i64 n2] 84)) := by
          obtain ⟨hlt, e2⟩ := Array.getElem?_eq_some_iff.1 HX6.out
          unfold Hid
          simp [World.setCell, Array.getElem_modify, e2, hlt]
        have HPF : Hid (ShowP w0 b p n c top np nn nc (g n1 o2) w ((w6.setCell ⟨w.heap.size, 0, none⟩ (.int .i64 n1)).setCell ⟨w.heap.size, 1, none⟩ (.int .i64 n2))) := Sh.box2 HW6.out HS6.out HBS.out HX6.out hbx (Nat.le_refl _) (by decide)
        clear hw6 hs6 q0
        go_wp2
        go_roundg (1001 - (j + 1))
        case measure => have := HGK.out; omega
        case rel => exact ⟨j + 1, n2, n1, _, rfl, HPF.out, HXF.out, HN2.out, HQ2.out, HES.out, ⟨by omega, by omega, hbn.2⟩⟩
    · have HR : Hid (res = (rest, out)) := by
        unfold Hid
        rw [← hE.out, show 1001 - j = (1001 - (j + 1)) + 1 by omega, prI, if_neg hgo]
      by_cases hfull : out.length = 1000
      · have HWt : Hid (Sh wr b w0.heap.size (.slice p n c) top (.slice np nn nc) v1 out) := HW1.out
        have HSt : Hid (Sk b w0.heap.size w wr) := HS1.out
        have HXt : Hid (wr.heap[w.heap.size]? = some (.cells #[.int .i64 fst, .int .i64 rest] 84)) := hX.out
        have hBt := hBr
        have hdf : decide (out.length = 1000) = true := decide_eq_true hfull
        clear hX hgo hE
        by_cases h3 : rest = 3
        · subst h3
          go_wp2_with (go_at_call 40; refine (full_c b _ _ _ _ v1 out _ HW1.out).mono ?_; rintro e w3 ⟨rfl, hw3⟩; have hw3' := hw3.symm; clear hw3; subst hw3'; rw [hdf])
          refine (putk_c b _ _ _ _ v1 out [41] _ _ 1 _ _ rfl rfl rfl (rg1 41 (by omega)) (by simp) HWt.out hl3 hBt).mono ?_
          rintro e w7 ⟨rfl, hp7⟩
          have HP7 : Hid (ShowP w0 b p n c top np nn nc (putT [41] out) w w7) := ShP.trans HSt.out hp7
          clear hp7
          go_wp2
          go_end0
          refine ⟨rfl, ?_⟩
          rw [HFIN.out, HR.out, prT_nil]
          exact HP7.out
        · have h3b : (rest != 3) = true := by simpa using h3
          have H3 : Hid (rest ≠ 3) := h3
          clear h3
          go_wp2_with (go_at_call 40; refine (full_c b _ _ _ _ v1 out _ HW1.out).mono ?_; rintro e w3 ⟨rfl, hw3⟩; have hw3' := hw3.symm; clear hw3; subst hw3'; rw [hdf])
          refine (putk_c b _ _ _ _ v1 out [32, 46, 32] _ _ 3 _ _ rfl rfl rfl (fun x hx => by simp at hx; omega) (by simp) HWt.out hl3 hBt).mono ?_
          rintro e w7 ⟨rfl, v7, hw7, hs7⟩
          have HW7 : Hid (Sh w7 b w0.heap.size (.slice p n c) top (.slice np nn nc) v7 (putT [32, 46, 32] out)) := hw7
          have HS7 : Hid (Sk b w0.heap.size w w7) := HSt.out.trans hs7
          have HX7 : Hid (w7.heap[w.heap.size]? = some (.cells #[.int .i64 fst, .int .i64 rest] 84)) := hs7.kept _ _ _ HXt.out (by decide) hbx
          have bt1 : w7.cell? ⟨w.heap.size, 1, none⟩ = some (.int .i64 rest) := by simp [World.cell?, HX7.out]
          have hp7 := putT_len [32, 46, 32] out hl3
          clear hw7 hs7
          obtain ⟨o7, ho7⟩ : ∃ o, o = putT [32, 46, 32] out := ⟨_, rfl⟩
          have HO7 : Hid (o7 = putT [32, 46, 32] out) := ho7
          rw [← ho7] at hp7 HW7
          clear ho7
          go_wp2_with fail
          refine (IH.out rest v7 o7 _ HW7.out (HBW.out _ HS7.out) hK.out hR.out (by omega) hp7.1).mono ?_
          rintro e w8 ⟨rfl, v8, hw8, hs8⟩
          rw [← HGE.out] at hw8
          have HW8 : Hid (Sh w8 b w0.heap.size (.slice p n c) top (.slice np nn nc) v8 (g rest o7)) := hw8
          have HS8 : Hid (Sk b w0.heap.size w w8) := HS7.out.trans hs8
          have hb8 := HG.out rest o7 hp7.1
          have hB8 := (HBW.out _ HS8.out).size
          clear hw8 hs8 bt1
          go_wp2_with fail
          refine (putk_c b _ _ _ _ v8 (g rest o7) [41] _ _ 1 _ _ rfl rfl rfl (rg1 41 (by omega)) (by simp) HW8.out hb8.2 hB8).mono ?_
          rintro e w9 ⟨rfl, hp9⟩
          have HP9 : Hid (ShowP w0 b p n c top np nn nc (putT [41] (g rest o7)) w w9) := ShP.trans HS8.out hp9
          clear hp9
          go_wp2
          go_end0
          refine ⟨rfl, ?_⟩
          rw [HFIN.out, HR.out, prT_more H3.out, ← HO7.out]
          exact HP9.out
      · have hpr : isPr ws rest = false := by
          rw [Bool.eq_false_iff]; exact fun h => hgo ⟨hfull, h⟩
        have HM : Hid (∀ w', Below wr.heap.size wr w' → Calls Tryd.prog 41 #[.agg #[.slice p n c, .int .i64 top], .int .i64 rest] w' fun e w'' => ∃ t v, e = .returned (.iface t v) ∧ (t = 77 ∨ t = 80 ∨ t = 81 ∨ t = 82) ∧ Below w'.heap.size w' w'') := fun w' h => mean_other p n c top rest ws w' (HIS.out _ h) HC.out.good hK.out hpr
        have hdf : decide (out.length = 1000) = false := decide_eq_false hfull
        obtain ⟨s0, s1, s2, s3, sf⟩ := HW1.out.cells
        have hblt := HW1.out.lt
        have hxlt : w.heap.size < wr.heap.size := (Array.getElem?_eq_some_iff.1 hX.out).1
        have y0 := fun o1 => cell_keep (below1 wr o1) hblt s0
        have y1 := fun o1 => cell_keep (below1 wr o1) hblt s1
        have y2 := fun o1 => cell_keep (below1 wr o1) hxlt bx1
        clear hgo hE hpr hfull
        go_wp2_with (go_at_call 40; refine (full_c b _ _ _ _ v1 out _ HW1.out).mono ?_; rintro e w3 ⟨rfl, hw3⟩; have hw3' := hw3.symm; clear hw3; subst hw3'; rw [hdf])
        go_cut [4, 5] from 14 to 38 (fun gv kv wc => NxP 0 0 false wr gv kv wc)
        case first =>
          go_region_with (go_at_call 41; refine (HM.out _ ?y1).mono ?_; (case y1 => first | exact below_drewM (Below.refl _ _) | exact below_drewM (below1 _ _)); rintro e w5 ⟨t, tv, rfl, htt, hb5⟩; have ta := ta_nopair t htt; clear htt; have HB5 : Hid (Below wr.heap.size wr w5) := (by first | exact (below_drewM (Below.refl _ _)).trans hb5 | exact (below_drewM (below1 _ _)).trans (hb5.mono (by simp))); (first | (have HZB : Hid (w5.heap[wr.heap.size]? = some (.cells #[.int .i64 0, .int .i64 0] 84)) := (by exact (hb5.block wr.heap.size (by simp)).trans (Go.Deep.blk_alloc_new wr _)); have bz0 : w5.cell? ⟨wr.heap.size, 0, none⟩ = some (.int .i64 0) := (by simp [World.cell?, HZB.out]); have bz1 : w5.cell? ⟨wr.heap.size, 1, none⟩ = some (.int .i64 0) := (by simp [World.cell?, HZB.out]); have bz2 : w5.frozen? ⟨wr.heap.size, 0, none⟩ = false := (by simp [World.frozen?, HZB.out]); have bz3 : w5.frozen? ⟨wr.heap.size, 1, none⟩ = false := (by simp [World.frozen?, HZB.out])) | skip); clear hb5)
          all_goals go_wp2_with fail
          all_goals go_meet
          all_goals first | exact NxP.late HB5.out | exact NxP.soon HB5.out HZB.out
        case rest =>
          obtain ⟨gb, rfl, rfl, hgb, hgc, hbc⟩ := hcut
          have HWt : Hid (Sh wc b w0.heap.size (.slice p n c) top (.slice np nn nc) v1 out) := HW1.out.below hbc
          have HSt : Hid (Sk b w0.heap.size w wc) := HS1.out.trans (Sk.of_below hbc hBr)
          have HXt : Hid (wc.heap[w.heap.size]? = some (.cells #[.int .i64 fst, .int .i64 rest] 84)) := (hbc.block _ hxlt).trans hX.out
          have hBt := Nat.le_trans hBr hbc.size
          have bt : wc.cell? ⟨w.heap.size, 1, none⟩ = some (.int .i64 rest) := by simp [World.cell?, HXt.out]
          clear hgc hbc y0 y1 y2 s0 s1 s2 s3 sf bx0 bx1 hX HM HIS hgb
          by_cases h3 : rest = 3
          · subst h3
            go_wp2_with fail
            refine (putk_c b _ _ _ _ v1 out [41] _ _ 1 _ _ rfl rfl rfl (rg1 41 (by omega)) (by simp) HWt.out hl3 hBt).mono ?_
            rintro e w7 ⟨rfl, hp7⟩
            have HP7 : Hid (ShowP w0 b p n c top np nn nc (putT [41] out) w w7) := ShP.trans HSt.out hp7
            clear hp7
            go_wp2
            go_end0
            refine ⟨rfl, ?_⟩
            rw [HFIN.out, HR.out, prT_nil]
            exact HP7.out
          · have h3b : (rest != 3) = true := by simpa using h3
            have H3 : Hid (rest ≠ 3) := h3
            clear h3
            go_wp2_with fail
            refine (putk_c b _ _ _ _ v1 out [32, 46, 32] _ _ 3 _ _ rfl rfl rfl (fun x hx => by simp at hx; omega) (by simp) HWt.out hl3 hBt).mono ?_
            rintro e w7 ⟨rfl, v7, hw7, hs7⟩
            have HW7 : Hid (Sh w7 b w0.heap.size (.slice p n c) top (.slice np nn nc) v7 (putT [32, 46, 32] out)) := hw7
            have HS7 : Hid (Sk b w0.heap.size w w7) := HSt.out.trans hs7
            have HX7 : Hid (w7.heap[w.heap.size]? = some (.cells #[.int .i64 fst, .int .i64 rest] 84)) := hs7.kept _ _ _ HXt.out (by decide) hbx
            have bt1 : w7.cell? ⟨w.heap.size, 1, none⟩ = some (.int .i64 rest) := by simp [World.cell?, HX7.out]
            have hp7 := putT_len [32, 46, 32] out hl3
            clear hw7 hs7
            obtain ⟨o7, ho7⟩ : ∃ o, o = putT [32, 46, 32] out := ⟨_, rfl⟩
            have HO7 : Hid (o7 = putT [32, 46, 32] out) := ho7
            rw [← ho7] at hp7 HW7
            clear ho7
            go_wp2_with fail
            refine (IH.out rest v7 o7 _ HW7.out (HBW.out _ HS7.out) hK.out hR.out (by omega) hp7.1).mono ?_
            rintro e w8 ⟨rfl, v8, hw8, hs8⟩
            rw [← HGE.out] at hw8
            have HW8 : Hid (Sh w8 b w0.heap.size (.slice p n c) top (.slice np nn nc) v8 (g rest o7)) := hw8
            have HS8 : Hid (Sk b w0.heap.size w w8) := HS7.out.trans hs8
            have hb8 := HG.out rest o7 hp7.1
            have hB8 := (HBW.out _ HS8.out).size
            clear hw8 hs8 bt1
            go_wp2_with fail
            refine (putk_c b _ _ _ _ v8 (g rest o7) [41] _ _ 1 _ _ rfl rfl rfl (rg1 41 (by omega)) (by simp) HW8.out hb8.2 hB8).mono ?_
            rintro e w9 ⟨rfl, hp9⟩
            have HP9 : Hid (ShowP w0 b p n c top np nn nc (putT [41] (g rest o7)) w w9) := ShP.trans HS8.out hp9
            clear hp9
            go_wp2
            go_end0
            refine ⟨rfl, ?_⟩
            rw [HFIN.out, HR.out, prT_more H3.out, ← HO7.out]
            exact HP9.out
end
end Go.Proofs.YtmmkpmgidoelpaaDoor
