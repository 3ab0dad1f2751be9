import Derived.Test.YtmmkpmgidoelpaaDoorT3
import Derived.Test.YtmmkpmgidoelpaaDoorAq
namespace Go.Proofs.YtmmkpmgidoelpaaDoor.Hp
open Go.RowKit Ch2
/-- The place of things while a heap is drawn. -/
structure Lz where
  w0 : World
  rb : Nat
  bp : Option Addr
  nb : Nat
  cb : Nat
  B : Nat
  bs : List Int
  rv : Nat
  hb : Nat
  n : Nat
/-- The world while a heap is drawn. -/
structure Hw (z : Lz) (s : Hs) (gw cw gh hc : Nat) (wr : World) : Prop where
  rd : Rz wr z.rb z.bp z.nb z.cb z.B z.bs s.pos
  rv : wr.heap[z.rv]? = some (.cells #[.slice none 0 0, .int .i64 0] 25)
  hv : wr.heap[z.hb]? = some (.cells #[.slice (some ⟨gh, 0, none⟩) z.n hc, .int .i64 s.top] 25)
  fr : Fr wr gh z.n hc s.ws
  wd : Fr wr gw s.wds.length cw s.wds
  ne : gh ≠ gw
  ge : z.w0.heap.size ≤ gh ∧ z.w0.heap.size ≤ z.rv ∧ z.w0.heap.size ≤ z.hb ∧ z.w0.heap.size ≤ gw ∧ z.rv ≠ z.hb
  kp : KpZ z.rb z.rb z.w0 wr
  rl : z.rb < z.w0.heap.size
theorem Fr.not {w : World} {g n cap k : Nat} {xs : List Int} {a : Array Value} {t : TypeId} (h : Fr w g n cap xs) (hk : w.heap[k]? = some (.cells a t)) (ht : t ≠ 3) : g ≠ k := by
  rintro rfl
  obtain ⟨f, ⟨cur, hh, _⟩, _⟩ := h.row
  rw [hk] at hh
  injection hh with hh
  injection hh with _ hh
  exact ht hh
theorem Hw.move {z : Lz} {s : Hs} {gw cw gh hc x : Nat} {wr w' : World} {pos : Nat} (h : Hw z s gw cw gh hc wr) (hk : KpZ x x wr w') (h1 : x ≠ z.rv) (h2 : x ≠ z.hb) (h3 : x ≠ gh) (h4 : x ≠ gw) (h5 : x = z.rb ∨ z.w0.heap.size ≤ x) (rd : Rz w' z.rb z.bp z.nb z.cb z.B z.bs pos) : Hw z ⟨pos, s.ws, s.top, s.wds⟩ gw cw gh hc w' := by
  have b : ∀ k, k < wr.heap.size → k ≠ x → w'.heap[k]? = wr.heap[k]? := fun k hk' hne => hk.block k hk' hne hne
  refine ⟨rd, ?_, ?_, h.fr.of_block (b _ h.fr.lt (Ne.symm h3)), h.wd.of_block (b _ h.wd.lt (Ne.symm h4)), h.ne, h.ge, ?_, h.rl⟩
  · rw [b _ (Array.getElem?_eq_some_iff.1 h.rv).1 (Ne.symm h1)]; exact h.rv
  · rw [b _ (Array.getElem?_eq_some_iff.1 h.hv).1 (Ne.symm h2)]; exact h.hv
  · have hs := h.kp.size
    refine ⟨hk.os.trans h.kp.os, hk.tape.trans h.kp.tape, hk.output.trans h.kp.output, Nat.le_trans hs hk.size, fun k hk' e _ => ?_⟩
    rw [b k (by omega) (by rcases h5 with rfl | h5 <;> omega)]
    exact h.kp.block k hk' e e
/-- The reader has gone on. -/
theorem Hw.next {z : Lz} {s : Hs} {gw cw gh hc : Nat} {wr w' : World} {i : Nat} (h : Hw z s gw cw gh hc wr) (hk : KpZ z.rb z.rb wr w') (rd : Rz w' z.rb z.bp z.nb z.cb z.B z.bs i) : Hw z ⟨i, s.ws, s.top, s.wds⟩ gw cw gh hc w' := by
  have := h.rl
  obtain ⟨g1, g2, g3, g4, _⟩ := h.ge
  exact h.move hk (by omega) (by omega) (by omega) (by omega) (Or.inl rfl) rd
/-- Memory was made. -/
theorem Hw.below {z : Lz} {s : Hs} {gw cw gh hc : Nat} {wr w' : World} (h : Hw z s gw cw gh hc wr) (hb : Below wr.heap.size wr w') : Hw z s gw cw gh hc w' := by
  have h1 := (Array.getElem?_eq_some_iff.1 h.rv).1
  have h2 := (Array.getElem?_eq_some_iff.1 h.hv).1
  exact h.move (x := wr.heap.size) (KpZ.of_below hb) (by omega) (by omega) (Nat.ne_of_gt h.fr.lt) (Nat.ne_of_gt h.wd.lt) (Or.inr h.kp.size) (h.rd.below hb)
/-- A row of the call's own has grown. -/
theorem Hw.grown {z : Lz} {s : Hs} {gw cw gh hc : Nat} {wr w' : World} {v : Value} {xs : List Int} (h : Hw z s gw cw gh hc wr) (hf : Fz wr z.w0.heap.size v xs) (hg : wr.grownBy w' v.ownBlock) (h3 : v.ownBlock ≠ some gh) (h4 : v.ownBlock ≠ some gw) : Hw z s gw cw gh hc w' := by
  rcases hf with ⟨rfl, _⟩ | ⟨g, cap, rfl, hge, hfr⟩
  · exact h.below ⟨hg.os, hg.tape, hg.output, hg.size, fun k hk => hg.block k hk (by simp [Value.ownBlock])⟩
  · have hk : KpZ g g wr w' := grown_kp hg (Or.inl rfl)
    have e1 := hfr.not h.rv (by decide)
    have e2 := hfr.not h.hv (by decide)
    have hrl := h.rl
    refine h.move hk e1 e2 (fun e => h3 (by rw [← e]; rfl)) (fun e => h4 (by rw [← e]; rfl)) (Or.inr hge) (h.rd.keep hk.size (fun k hk' => hk.block k ?_ ?_ ?_) (hk.block _ h.rd.lt (by omega) (by omega)))
    · have := h.rd.past; have := h.rd.lt; omega
    · have := h.rd.past; omega
    · have := h.rd.past; omega
/-- The heap's variable is set. -/
theorem Hw.put {z : Lz} {s : Hs} {gw cw gh hc g c : Nat} {w : World} {ys : List Int} {top' : Int} (h : Hw z s gw cw gh hc w) (hfr : Fr w g z.n c ys) (hge : z.w0.heap.size ≤ g) (hne : g ≠ gw) : Hw z ⟨s.pos, ys, top', s.wds⟩ gw cw g c ((w.setCell ⟨z.hb, 0, none⟩ (.slice (some ⟨g, 0, none⟩) z.n c)).setCell ⟨z.hb, 1, none⟩ (.int .i64 top')) := by
  have e1 := hfr.not h.hv (by decide)
  have e2 := h.wd.not h.hv (by decide)
  have hk : ∀ k, k ≠ z.hb → ((w.setCell ⟨z.hb, 0, none⟩ (.slice (some ⟨g, 0, none⟩) z.n c)).setCell ⟨z.hb, 1, none⟩ (.int .i64 top')).heap[k]? = w.heap[k]? := fun k hk => (Below.heap_setCell _ _ _ k hk).trans (Below.heap_setCell _ _ _ k hk)
  obtain ⟨g1, g2, g3, g4, g5⟩ := h.ge
  have hrl := h.rl
  have hpast := h.rd.past
  have hh : ((w.setCell ⟨z.hb, 0, none⟩ (.slice (some ⟨g, 0, none⟩) z.n c)).setCell ⟨z.hb, 1, none⟩ (.int .i64 top')).heap[z.hb]? = some (.cells #[.slice (some ⟨g, 0, none⟩) z.n c, .int .i64 top'] 25) := by
    have a1 := heap_setCell_same w z.hb 0 _ _ (.slice (some ⟨g, 0, none⟩) z.n c) h.hv
    have a2 := heap_setCell_same (w.setCell ⟨z.hb, 0, none⟩ (.slice (some ⟨g, 0, none⟩) z.n c)) z.hb 1 _ _ (.int .i64 top') a1
    rw [a2]; rfl
  have hsz : w.heap.size ≤ ((w.setCell ⟨z.hb, 0, none⟩ (.slice (some ⟨g, 0, none⟩) z.n c)).setCell ⟨z.hb, 1, none⟩ (.int .i64 top')).heap.size := by simp
  refine ⟨h.rd.keep hsz (fun k hk' => hk k (by omega)) (hk _ (by omega)), by rw [hk _ g5]; exact h.rv, hh, hfr.of_block (hk _ e1), h.wd.of_block (hk _ e2), hne, ⟨hge, g2, g3, g4, g5⟩, ?_, hrl⟩
  exact ⟨h.kp.os, h.kp.tape, h.kp.output, Nat.le_trans h.kp.size hsz, fun k hk' e _ => (hk k (by omega)).trans (h.kp.block k hk' e e)⟩
/-- A word has come. -/
theorem Hw.word {z : Lz} {s : Hs} {gw cw gh hc g cap : Nat} {w w' : World} {x : Int} (h : Hw z s gw cw gh hc w) (hfr : Fr w' g (s.wds.length + 1) cap (s.wds ++ [x])) (hge : z.w0.heap.size ≤ g) (hgr : w.grownBy w' (some gw)) (hor : some gw = some g ∨ g = w.heap.size + 1) : Hw z ⟨s.pos, s.ws, s.top, s.wds ++ [x]⟩ g cap gh hc w' := by
  have hk : KpZ gw gw w w' := grown_kp hgr (Or.inl rfl)
  have b : ∀ k, k < w.heap.size → k ≠ gw → w'.heap[k]? = w.heap[k]? := fun k hk' hne => hk.block k hk' hne hne
  have e1 := h.wd.not h.rv (by decide)
  have e2 := h.wd.not h.hv (by decide)
  have hrl := h.rl
  have hpast := h.rd.past
  have hrlt := h.rd.lt
  obtain ⟨g1, g2, g3, g4, g5⟩ := h.ge
  have hs := h.kp.size
  refine ⟨h.rd.keep hk.size (fun k hk' => b k (by omega) (by omega)) (b _ hrlt (by omega)), ?_, ?_, h.fr.of_block (b _ h.fr.lt h.ne), by rw [List.length_append, List.length_singleton]; exact hfr, ?_, ⟨g1, g2, g3, hge, g5⟩, ?_, hrl⟩
  · rw [b _ (Array.getElem?_eq_some_iff.1 h.rv).1 (Ne.symm e1)]; exact h.rv
  · rw [b _ (Array.getElem?_eq_some_iff.1 h.hv).1 (Ne.symm e2)]; exact h.hv
  · have := h.fr.lt
    rcases hor with h' | h'
    · rw [← Option.some.inj h']; exact h.ne
    · omega
  · exact ⟨hk.os.trans h.kp.os, hk.tape.trans h.kp.tape, hk.output.trans h.kp.output, Nat.le_trans hs hk.size, fun k hk' e _ => (b k (by omega) (by omega)).trans (h.kp.block k hk' e e)⟩
/-- A field is turned. -/
theorem Hw.store {z : Lz} {s : Hs} {gw cw gh hc a : Nat} {w : World} {x : Int} (h : Hw z s gw cw gh hc w) (ha : a < z.n) : Hw z ⟨s.pos, s.ws.set a x, s.top, s.wds⟩ gw cw gh hc (w.setCell ⟨gh, a, none⟩ (.int .i64 x)).drew := by
  have hk : KpZ gh gh w (w.setCell ⟨gh, a, none⟩ (.int .i64 x)).drew := ⟨rfl, rfl, rfl, by show w.heap.size ≤ (w.setCell ⟨gh, a, none⟩ (.int .i64 x)).heap.size; simp, fun k _ e _ => Below.heap_setCell w _ _ k e⟩
  have b : ∀ k, k < w.heap.size → k ≠ gh → (w.setCell ⟨gh, a, none⟩ (.int .i64 x)).drew.heap[k]? = w.heap[k]? := fun k hk' hne => hk.block k hk' hne hne
  have e1 := h.fr.not h.rv (by decide)
  have e2 := h.fr.not h.hv (by decide)
  have hrl := h.rl
  have hpast := h.rd.past
  have hrlt := h.rd.lt
  obtain ⟨g1, g2, g3, g4, g5⟩ := h.ge
  have hs := h.kp.size
  have hl := h.fr.len
  refine ⟨h.rd.keep hk.size (fun k hk' => b k (by omega) (by omega)) (b _ hrlt (by omega)), ?_, ?_, ?_, h.wd.of_block (b _ h.wd.lt (Ne.symm h.ne)), h.ne, h.ge, ?_, hrl⟩
  · rw [b _ (Array.getElem?_eq_some_iff.1 h.rv).1 (Ne.symm e1)]; exact h.rv
  · rw [b _ (Array.getElem?_eq_some_iff.1 h.hv).1 (Ne.symm e2)]; exact h.hv
  · refine (h.fr.set a x (by rw [List.length_set]; exact hl) (fun i hi => ?_)).of_block rfl
    by_cases e : i = a
    · subst e; rw [if_pos rfl]; simp [List.getD, show i < s.ws.length by omega]
    · rw [if_neg e]; simp [List.getD, show ¬ a = i by omega]
  · exact ⟨hk.os.trans h.kp.os, hk.tape.trans h.kp.tape, hk.output.trans h.kp.output, Nat.le_trans hs hk.size, fun k hk' e _ => (b k (by omega) (by omega)).trans (h.kp.block k hk' e e)⟩
/-- At the head of the loop over objects. -/
def HlI (z : Lz) (s0 : Hs) (cnt : Nat) (wv iv : Value) (wr : World) : Prop := ∃ (k : Nat) (s : Hs) (gw cw gh hc : Nat), k ≤ cnt ∧ iv = .int .i64 k ∧ wv = .slice (some ⟨gw, 0, none⟩) s.wds.length cw ∧ s.wds.length ≤ 8 + k ∧ Hid (RunR z.bs s0 k s) ∧ Hid (Hj z.n s) ∧ Hid (Hw z s gw cw gh hc wr)
/-- At the head of the loop over fields. -/
def FlI (z : Lz) (s : Hs) (i0 cnt gw cw gh hc : Nat) (fv jv : Value) (wr : World) : Prop := ∃ j : Nat, j ≤ cnt ∧ jv = .int .i64 j ∧ Hid (Fz wr z.w0.heap.size fv (flN z.bs s.wds j i0).1) ∧ Hid (fv.ownBlock ≠ some gh ∧ fv.ownBlock ≠ some gw) ∧ Hid (Hw z ⟨(flN z.bs s.wds j i0).2, s.ws, s.top, s.wds⟩ gw cw gh hc wr)
theorem FlI.step {z : Lz} {s : Hs} {i0 m gw cw gh hc j : Nat} {fv : Value} {w5 w6 : World} {g cap : Nat} {y : Int} (hj : j < m) (hl : (flN z.bs s.wds j i0).1.length = j) (HF5 : Fz w5 z.w0.heap.size fv (flN z.bs s.wds j i0).1) (HO : fv.ownBlock ≠ some gh ∧ fv.ownBlock ≠ some gw) (HH5 : Hw z ⟨(flN z.bs s.wds (j + 1) i0).2, s.ws, s.top, s.wds⟩ gw cw gh hc w5)
    (hfr : Fr w6 g (j + 1) cap ((flN z.bs s.wds j i0).1 ++ [y])) (hge : z.w0.heap.size ≤ g) (hgr : w5.grownBy w6 fv.ownBlock) (hor : fv.ownBlock = some g ∨ g = w5.heap.size + 1) (hpk : (flN z.bs s.wds (j + 1) i0).1 = (flN z.bs s.wds j i0).1 ++ [y]) :
    FlI z s i0 m gw cw gh hc (.slice (some ⟨g, 0, none⟩) (j + 1) cap) (.int .i64 ((j : Int) + 1)) w6 := by
  refine ⟨j + 1, by omega, by simp, ?_, ?_, HH5.grown HF5 hgr HO.1 HO.2⟩
  · unfold Hid
    rw [hpk]
    exact Or.inr ⟨g, cap, by simp [hl], hge, by rw [List.length_append, List.length_singleton, hl]; exact hfr⟩
  · have h1 := HH5.fr.lt
    have h2 := HH5.wd.lt
    refine ⟨fun e => ?_, fun e => ?_⟩
    · have e' : g = gh := by simpa [Value.ownBlock] using e
      rcases hor with h | h
      · exact HO.1 (by rw [h, e'])
      · omega
    · have e' : g = gw := by simpa [Value.ownBlock] using e
      rcases hor with h | h
      · exact HO.2 (by rw [h, e'])
      · omega
theorem FlI.put {z : Lz} {s : Hs} {i0 m gw cw gh hc j : Nat} {w6 : World} {g cap : Nat} {y y2 : Int} (hl : (flN z.bs s.wds j i0).1.length = j) (hfr : Fr w6 g (j + 1) cap ((flN z.bs s.wds j i0).1 ++ [y])) (hge : z.w0.heap.size ≤ g) (hj : j < m) (HH6 : Hw z ⟨(flN z.bs s.wds (j + 1) i0).2, s.ws, s.top, s.wds⟩ gw cw gh hc w6) (h1 : g ≠ gh) (h2 : g ≠ gw)
    (hpk : (flN z.bs s.wds (j + 1) i0).1 = (flN z.bs s.wds j i0).1 ++ [y2]) :
    FlI z s i0 m gw cw gh hc (.slice (some ⟨g, 0, none⟩) (j + 1) cap) (.int .i64 ((j : Int) + 1)) (w6.setCell ⟨g, j, none⟩ (.int .i64 y2)) := by
  have hk : KpZ g g w6 (w6.setCell ⟨g, j, none⟩ (.int .i64 y2)) := ⟨rfl, rfl, rfl, by simp, fun k _ e _ => Below.heap_setCell w6 _ _ k e⟩
  have e1 := hfr.not HH6.rv (by decide)
  have e2 := hfr.not HH6.hv (by decide)
  have hrl := HH6.rl
  have hpast := HH6.rd.past
  have hrlt := HH6.rd.lt
  refine ⟨j + 1, by omega, by simp, ?_, ⟨fun e => h1 (by simpa [Value.ownBlock] using e), fun e => h2 (by simpa [Value.ownBlock] using e)⟩, HH6.move hk e1 e2 h1 h2 (Or.inr hge) (HH6.rd.keep hk.size (fun k hk' => hk.block k (by omega) (by omega) (by omega)) (hk.block _ hrlt (by omega) (by omega)))⟩
  unfold Hid
  rw [hpk]
  refine Or.inr ⟨g, cap, by simp [hl], hge, ?_⟩
  rw [List.length_append, List.length_singleton, hl]
  refine hfr.set j y2 (by simp [hl]) (fun i hi => ?_)
  by_cases e : i = j
  · rw [if_pos e, e]
    have : ((flN z.bs s.wds j i0).1 ++ [y2]).getD (flN z.bs s.wds j i0).1.length 0 = y2 := by simp [List.getD]
    rw [hl] at this; exact this
  · rw [if_neg e]
    have hi' : i < (flN z.bs s.wds j i0).1.length := by omega
    simp [List.getD, List.getElem?_append_left hi']
/-- At the head of the loop that turns fields. -/
def TlI (z : Lz) (s1 : Hs) (cnt : Nat) (gw cw gh hc : Nat) (iv : Value) (wr : World) : Prop := ∃ (k : Nat) (s : Hs), k ≤ cnt ∧ iv = .int .i64 k ∧ s.wds = s1.wds ∧ Hid (TurnsR z.bs s1 k s) ∧ Hid (Hj z.n s) ∧ Hid (Hw z s gw cw gh hc wr)
/-- What l7heap leaves. -/
def L7P (rb : Nat) (bp : Option Addr) (nb cb B : Nat) (bs : List Int) (i : Nat) (w w' : World) (e : Ending) : Prop := ∃ (s : Hs) (n gw cw gh hc : Nat), e = .returned (.tuple #[.agg #[.slice (some ⟨gh, 0, none⟩) n hc, .int .i64 s.top], .slice (some ⟨gw, 0, none⟩) s.wds.length cw]) ∧ HeapR bs i s ∧ Hj n s ∧ 10 ≤ n ∧ n ≤ 265 ∧ s.wds.length ≤ 23 ∧ Fr w' gh n hc s.ws ∧ Fr w' gw s.wds.length cw s.wds ∧ gh ≠ gw ∧ w.heap.size ≤ gh ∧ w.heap.size ≤ gw ∧ Rz w' rb bp nb cb B bs s.pos ∧ KpZ rb rb w w'
set_option maxRecDepth 20000 in
set_option maxHeartbeats 8000000 in
theorem l7heap_c (rb : Nat) (bp : Option Addr) (nb cb B : Nat) (bs : List Int) (i : Nat) (w : World) (h : Rz w rb bp nb cb B bs i) :
    Calls Tryd.prog 15 #[.pointer (some ⟨rb, 0, none⟩)] w fun e w' => L7P rb bp nb cb B bs i w w' e := by
  have HRB : Hid (∀ i, 0 ≤ bs.getD i 0 ∧ bs.getD i 0 < 256) := h.by_.rng
  obtain ⟨W, hW⟩ : ∃ W, W = w.alloc (.cells #[.slice none 0 0, .int .i64 0] 25) := ⟨_, rfl⟩
  have HBW : Hid (Below w.heap.size w W) := by unfold Hid; rw [hW]; exact below1 _ _
  have HRV : Hid (W.heap[w.heap.size]? = some (.cells #[.slice none 0 0, .int .i64 0] 25)) := by unfold Hid; rw [hW]; exact Go.Deep.blk_alloc_new _ _
  have HRD : Hid (Rz W rb bp nb cb B bs i) := h.below HBW.out
  have hrl : rb < w.heap.size := h.lt
  have hn0 := nxV_rng h.by_.rng i
  have hn1 := nxV_rng h.by_.rng (nxI bs i)
  obtain ⟨v0, hv0⟩ : ∃ v0 : Nat, nxV bs i = v0 := ⟨(nxV bs i).toNat, by omega⟩
  obtain ⟨v1, hv1⟩ : ∃ v1 : Nat, nxV bs (nxI bs i) = v1 := ⟨(nxV bs (nxI bs i)).toNat, by omega⟩
  rw [hv0] at hn0
  rw [hv1] at hn1
  have HV0 : Hid (nxV bs i = (v0 : Int)) := hv0
  have HV1 : Hid (nxV bs (nxI bs i) = (v1 : Int)) := hv1
  clear h hv0 hv1
  go_enter Tryd.func15, Tryd.ntmps15
  go_wp2_with fail
  rw [← hW]
  clear hW
  refine (next_c rb bp nb cb B bs i W HRD.out).mono ?_
  rintro e w1 ⟨rfl, hr1, hk1, hs1⟩
  rw [HV0.out]
  have HR1 : Hid (Rz w1 rb bp nb cb B bs (nxI bs i)) := hr1
  have HK1 : Hid (KpZ rb rb W w1) := hk1
  clear hr1 hk1 hs1
  obtain ⟨n, hn⟩ : ∃ n : Nat, n = 10 + v0 := ⟨_, rfl⟩
  have HN : Hid (n = 10 + v0) := hn
  have hni : (10 : Int) + (v0 : Int) = (n : Int) := by omega
  clear hn
  go_wp2_with fail
  have hnl : n ≤ 265 := by have := HN.out; omega
  clear hni
  refine (specNewHeap_q n (by omega) w1).mono ?_
  rintro e w2 ⟨gh, rfl, hg2, hf2, hb2⟩
  have HF2 : Hid (Fr w2 gh n n (List.replicate n 0)) := hf2
  have HR2 : Hid (Rz w2 rb bp nb cb B bs (nxI bs i)) := HR1.out.below hb2
  have HRV2 : Hid (w2.heap[w.heap.size]? = some (.cells #[.slice none 0 0, .int .i64 0] 25)) := by
    have h1 := (Array.getElem?_eq_some_iff.1 HRV.out).1
    have h2 := HK1.out.size
    unfold Hid
    rw [hb2.block _ (by omega), HK1.out.block _ h1 (by omega) (by omega)]; exact HRV.out
  have hgh : w.heap.size < gh := by
    have h1 := (Array.getElem?_eq_some_iff.1 HRV.out).1
    have h2 := HK1.out.size
    omega
  have HK2 : Hid (KpZ rb rb w w2) := (KpZ.of_below HBW.out).trans (HK1.out.trans (KpZ.of_below hb2))
  clear hf2 hb2 hg2
  go_wp2_with fail
  obtain ⟨W2, hW2⟩ : ∃ W2, W2 = (w2.alloc (.cells #[.slice (some ⟨gh, 0, none⟩) n n, .int .i64 0] 25)).alloc (.cells #[.int .i64 4, .int .i64 (-8), .int .i64 3, .int .i64 11, .int .i64 2, .int .i64 10, .int .i64 15, .int .i64 19] 3) := ⟨_, rfl⟩
  obtain ⟨hbB, hsB⟩ : Below w2.heap.size w2 W2 ∧ W2.heap.size = w2.heap.size + 2 := by rw [hW2]; exact ⟨below2 _ _ _, by simp⟩
  have hHB : W2.heap[w2.heap.size]? = some (.cells #[.slice (some ⟨gh, 0, none⟩) n n, .int .i64 0] 25) := by rw [hW2, old_blk _ _ (by simp), new_blk _ _ rfl]
  have hWB : W2.heap[w2.heap.size + 1]? = some (.cells #[.int .i64 4, .int .i64 (-8), .int .i64 3, .int .i64 11, .int .i64 2, .int .i64 10, .int .i64 15, .int .i64 19] 3) := by rw [hW2, new_blk _ _ (by simp)]
  have HWD : Hid (Fr W2 (w2.heap.size + 1) 8 8 words0) := by
    refine ⟨⟨fun j => .int .i64 (words0.getD j 0), ⟨_, hWB, rfl, fun j hj => ?_⟩, fun j _ => rfl⟩, Nat.le_refl _, by unfold maxLen; omega, rfl⟩
    · match j, hj with
      | 0, _ => rfl
      | 1, _ => rfl
      | 2, _ => rfl
      | 3, _ => rfl
      | 4, _ => rfl
      | 5, _ => rfl
      | 6, _ => rfl
      | 7, _ => rfl
  rw [← hW2]
  refine (next_c rb bp nb cb B bs (nxI bs i) W2 (HR2.out.below hbB)).mono ?_
  rintro e w3 ⟨rfl, hr3, hk3, hs3⟩
  rw [HV1.out]
  obtain ⟨z, hz⟩ : ∃ z : Lz, z = ⟨w, rb, bp, nb, cb, B, bs, w.heap.size, w2.heap.size, n⟩ := ⟨_, rfl⟩
  have hrvl := (Array.getElem?_eq_some_iff.1 HRV2.out).1
  have HHW : Hid (Hw z ⟨nxI bs (nxI bs i), List.replicate n 0, 0, words0⟩ (w2.heap.size + 1) 8 gh n w3) := by
    unfold Hid
    rw [hz]
    have hghl := HF2.out.lt
    refine ⟨hr3, ?_, ?_, (HF2.out.below hbB).of_block (hk3.block _ (by omega) (by omega) (by omega)), HWD.out.of_block (hk3.block _ (by omega) (by omega) (by omega)), by omega, ⟨Nat.le_of_lt hgh, Nat.le_refl _, by show w.heap.size ≤ w2.heap.size; omega, by show w.heap.size ≤ w2.heap.size + 1; omega, by show w.heap.size ≠ w2.heap.size; omega⟩, HK2.out.trans ((KpZ.of_below hbB).trans hk3), hrl⟩
    · show w3.heap[w.heap.size]? = _
      rw [hk3.block _ (by omega) (by omega) (by omega), hbB.block _ hrvl]; exact HRV2.out
    · show w3.heap[w2.heap.size]? = _
      rw [hk3.block _ (by omega) (by omega) (by omega)]; exact hHB
  obtain ⟨cnt, hcnt⟩ : ∃ cnt : Nat, cnt = v1 % 16 := ⟨_, rfl⟩
  have hc16 : cnt ≤ 15 := by omega
  have hrem : (v1 : Int).tmod 16 = (cnt : Int) := by rw [Int.tmod_eq_emod_of_nonneg (by omega)]; omega
  have HCN : Hid ((nxV bs (nxI bs i) % 16).toNat = cnt ∧ (nxV bs (nxI bs i) % 16 / 3).toNat = cnt / 3) := by unfold Hid; rw [HV1.out]; omega
  obtain ⟨e0, e1, e2, e3, e4, e5, e6, e7, e8, e9⟩ : z.w0 = w ∧ z.rb = rb ∧ z.bp = bp ∧ z.nb = nb ∧ z.cb = cb ∧ z.B = B ∧ z.bs = bs ∧ z.rv = w.heap.size ∧ z.hb = w2.heap.size ∧ z.n = n := by rw [hz]; exact ⟨rfl, rfl, rfl, rfl, rfl, rfl, rfl, rfl, rfl, rfl⟩
  obtain ⟨s0, hs0⟩ : ∃ s0 : Hs, s0 = ⟨nxI bs (nxI bs i), List.replicate n 0, 0, words0⟩ := ⟨_, rfl⟩
  have HS0 : Hid (s0 = ⟨nxI bs (nxI bs i), List.replicate n 0, 0, words0⟩) := hs0
  rw [← hs0] at HHW
  have HJ0 : Hid (Hj n s0) := by unfold Hid; rw [hs0]; exact Hj.start _ _
  have HWL : Hid (s0.wds.length = 8) := by unfold Hid; rw [hs0]; rfl
  have HBE : Hid (10 ≤ n ∧ n ≤ 265 ∧ (10 + nxV bs i).toNat = n) := by unfold Hid; rw [HV0.out]; have := HN.out; omega
  clear hr3 hk3 hs3 hbB hsB hHB hWB HWD hW2 hz hcnt hs0 HF2 HR2 HRV2 HR1 HK1 HRV HRD HBW HK2 hrvl
  have HE8 : Hid (z.hb = w2.heap.size) := e8
  have HE7 : Hid (z.rv = z.w0.heap.size) := by unfold Hid; rw [e0]; exact e7
  clear e7 e8
  subst e0 e1 e2 e3 e4 e5 e6 e9
  go_wp2_with fail
  rw [← HE8.out, ← HE7.out]
  clear hrem
  go_loopw [6, 8] (fun wv iv wr => HlI z s0 cnt wv iv wr) (fun _ iv _ => cnt - (intOf iv).toNat)
  case atStart => exact ⟨0, s0, _, _, _, _, Nat.zero_le _, rfl, by rw [HWL.out, HE8.out], by rw [HWL.out]; omega, rfl, HJ0.out, HHW.out⟩
  case round =>
    obtain ⟨k, s, gw, cw, gh', hc, hk, rfl, rfl, hwl, hRun, hJ, hH⟩ := hrel
    clear HHW HJ0 HWL
    have hw8 := hJ.out.wl
    obtain ⟨L, hL⟩ : ∃ L, s.wds.length = L := ⟨_, rfl⟩
    rw [hL] at hwl hw8
    have HL : Hid (s.wds.length = L) := hL
    rw [hL]
    clear hL
    by_cases hlt : k < cnt
    · go_wp2_with fail
      refine (next_c z.rb z.bp z.nb z.cb z.B z.bs s.pos wr hH.out.rd).mono ?_
      rintro e w4 ⟨rfl, hr4, hk4, hs4⟩
      have hvr := nxV_rng HRB.out s.pos
      obtain ⟨v, hv⟩ : ∃ v : Nat, nxV z.bs s.pos = v := ⟨(nxV z.bs s.pos).toNat, by omega⟩
      have HV : Hid (nxV z.bs s.pos = (v : Int)) := hv
      rw [hv] at hvr ⊢
      have HH4 : Hid (Hw z ⟨nxI z.bs s.pos, s.ws, s.top, s.wds⟩ gw cw gh' hc w4) := hH.out.next hk4 hr4
      have hvl : v < 256 := by omega
      clear hr4 hk4 hs4 hv hvr hH
      obtain ⟨kd, hkd⟩ : ∃ kd : Nat, kd = v % 4 := ⟨_, rfl⟩
      obtain ⟨q4, hq4⟩ : ∃ q4 : Nat, q4 = v / 4 := ⟨_, rfl⟩
      obtain ⟨c5, hc5⟩ : ∃ c5 : Nat, c5 = q4 % 5 := ⟨_, rfl⟩
      have t1 : (v : Int).tmod 4 = (kd : Int) := by rw [Int.tmod_eq_emod_of_nonneg (by omega)]; omega
      have t2 : (v : Int).tdiv 4 = (q4 : Int) := by rw [Int.tdiv_eq_ediv_of_nonneg (by omega)]; omega
      have t3 : (q4 : Int).tmod 5 = (c5 : Int) := by rw [Int.tmod_eq_emod_of_nonneg (by omega)]; omega
      have HKD : Hid (kd = v % 4 ∧ c5 = v / 4 % 5) := by unfold Hid; omega
      have hkd4 : kd < 4 := by omega
      have hc55 : c5 < 5 := by omega
      have hq4b : q4 < 64 := by omega
      clear hkd hq4 hc5
      obtain ⟨m1, hm1⟩ : ∃ m1 : Nat, m1 = if kd = 0 then 2 else c5 := ⟨_, rfl⟩
      obtain ⟨m, hm⟩ : ∃ m : Nat, m = if kd = 3 then 1 else m1 := ⟨_, rfl⟩
      have HM1 : Hid (m1 = if kd = 0 then 2 else c5) := hm1
      have HM : Hid (m = if kd = 3 then 1 else m1) := hm
      have HCF : Hid (cntF (nxV z.bs s.pos) = m) := by
        unfold Hid cntF
        rw [HV.out]
        have := HKD.out
        by_cases h0 : kd = 0
        · rw [if_pos (by omega), hm, if_neg (by omega), hm1, if_pos h0]
        · by_cases h3 : kd = 3
          · rw [if_neg (by omega), if_pos (by omega), hm, if_pos h3]
          · rw [if_neg (by omega), if_neg (by omega), hm, if_neg h3, hm1, if_neg h0]; omega
      have hm4 : m ≤ 4 := by have := cntF_le (nxV z.bs s.pos); rw [HCF.out] at this; exact this
      clear hm hm1
      go_upto_if 45 with fail
      go_cut [11] from 32 to 111 (fun x wc => x = .int .i64 (m1 : Int) ∧ wc = w4)
      case first =>
        by_cases h0 : kd = 0
        · have hb : ((kd : Int) == 0) = true := by simp [h0]
          have HMM : Hid (m1 = 2) := by unfold Hid; rw [HM1.out, if_pos h0]
          go_wp2_with fail
          go_meet
          exact ⟨by rw [HMM.out]; rfl, rfl⟩
        · have hb : ((kd : Int) == 0) = false := by simp; omega
          have HMM : Hid (m1 = c5) := by unfold Hid; rw [HM1.out, if_neg h0]
          go_wp2_with fail
          go_meet
          exact ⟨by rw [HMM.out], rfl⟩
      case rest =>
        obtain ⟨rfl, hwc⟩ := hcut
        have hwd := hwc.symm
        clear hwc
        subst hwd
        clear t1 t2 t3
        go_upto_if 47 with fail
        go_cut [11] from 32 to 111 (fun x wc => x = .int .i64 (m : Int) ∧ wc = w4)
        case first =>
          by_cases h3 : kd = 3
          · have hb : ((kd : Int) == 3) = true := by simp [h3]
            have HMM : Hid (m = 1) := by unfold Hid; rw [HM.out, if_pos h3]
            go_wp2_with fail
            go_meet
            exact ⟨by rw [HMM.out]; rfl, rfl⟩
          · have hb : ((kd : Int) == 3) = false := by simp; omega
            have HMM : Hid (m = m1) := by unfold Hid; rw [HM.out, if_neg h3]
            go_wp2_with fail
            go_meet
            exact ⟨by rw [HMM.out], rfl⟩
        case rest =>
          obtain ⟨rfl, hwc⟩ := hcut
          have hwd := hwc.symm
          clear hwc
          subst hwd
          go_wp2_with fail
          go_loopw [12, 13] (fun fv jv wx => FlI z s (nxI z.bs s.pos) m gw cw gh' hc fv jv wx) (fun _ jv _ => m - (intOf jv).toNat)
          case atStart => exact ⟨0, Nat.zero_le _, rfl, Or.inl ⟨rfl, rfl⟩, ⟨by simp [Value.ownBlock], by simp [Value.ownBlock]⟩, HH4.out⟩
          case round =>
            obtain ⟨j, hj, rfl, hF, hO, hHx⟩ := hrel
            by_cases hjl : j < m
            · go_wp2_with fail
              refine (next_c z.rb z.bp z.nb z.cb z.B z.bs _ wr hHx.out.rd).mono ?_
              rintro e w5 ⟨rfl, hr5, hk5, hs5⟩
              have hvr := nxV_rng HRB.out (flN z.bs s.wds j (nxI z.bs s.pos)).2
              obtain ⟨x, hx⟩ : ∃ x : Nat, nxV z.bs (flN z.bs s.wds j (nxI z.bs s.pos)).2 = x := ⟨_, (Int.toNat_of_nonneg hvr.1).symm⟩
              have HX : Hid (nxV z.bs (flN z.bs s.wds j (nxI z.bs s.pos)).2 = (x : Int)) := hx
              rw [hx] at hvr
              have hxl : x < 256 := by omega
              have HH5 : Hid (Hw z ⟨(flN z.bs s.wds (j + 1) (nxI z.bs s.pos)).2, s.ws, s.top, s.wds⟩ gw cw gh' hc w5) := hHx.out.next hk5 hr5
              have HF5 : Hid (Fz w5 z.w0.heap.size u12 (flN z.bs s.wds j (nxI z.bs s.pos)).1) := hF.out.keep (fun g e => hk5.block g (hF.out.lt g e).2 (by have := (hF.out.lt g e).1; omega) (by have := (hF.out.lt g e).1; omega))
              have HFL : Hid ((flN z.bs s.wds j (nxI z.bs s.pos)).1.length = j) := flN_len _ _ _ _
              show (_ : Prop)
              rw [hx]
              clear hr5 hk5 hs5 hx hvr hF hHx
              obtain ⟨a, ha⟩ : ∃ a : Nat, a = x % L := ⟨_, rfl⟩
              have haL : a < L := by rw [ha]; exact Nat.mod_lt _ (by omega)
              have t1 : (x : Int).tmod (L : Int) = (a : Int) := by rw [Int.tmod_eq_emod_of_nonneg (by omega), ha]; simp
              have g1 := (HH5.out.wd.cell (j := a) (by show a < s.wds.length; rw [HL.out]; exact haL)).1
              have hbw := hJ.out.bw a
              obtain ⟨y, hy⟩ : ∃ y, s.wds.getD a 0 = y := ⟨_, rfl⟩
              have g1' : w5.cell? ⟨gw, a, none⟩ = some (.int .i64 y) := by rw [← hy]; exact g1
              have HY : Hid (s.wds.getD a 0 = y) := hy
              have HA : Hid (a = x % L) := ha
              have HW0 : Hid (z.w0.heap.size ≤ w5.heap.size) := HH5.out.kp.size
              clear g1 hy ha hbw
              by_cases hit : x % 3 = 0 ∧ 8 < L
              · obtain ⟨hx3, hL8⟩ := hit
                obtain ⟨d3, hd3⟩ : ∃ d3 : Nat, d3 = x / 3 := ⟨_, rfl⟩
                obtain ⟨l8, hl8⟩ : ∃ l8 : Nat, l8 = L - 8 := ⟨_, rfl⟩
                obtain ⟨l1, hl1⟩ : ∃ l1 : Nat, l1 = L - 1 := ⟨_, rfl⟩
                obtain ⟨r, hr⟩ : ∃ r : Nat, r = d3 % l8 := ⟨_, rfl⟩
                have hrl8 : r < l8 := by rw [hr]; exact Nat.mod_lt _ (by omega)
                obtain ⟨ix, hix⟩ : ∃ ix : Nat, ix = l1 - r := ⟨_, rfl⟩
                have hixL : ix < L := by omega
                have t2 : (x : Int).tmod 3 = 0 := by rw [Int.tmod_eq_emod_of_nonneg (by omega)]; omega
                have t3 : (x : Int).tdiv 3 = (d3 : Int) := by rw [Int.tdiv_eq_ediv_of_nonneg (by omega)]; omega
                have t4 : (L : Int) - 8 = (l8 : Int) := by omega
                have t5 : (L : Int) - 1 = (l1 : Int) := by omega
                have t6 : (d3 : Int).tmod (l8 : Int) = (r : Int) := by rw [Int.tmod_eq_emod_of_nonneg (by omega), hr]; simp
                have t7 : (l1 : Int) - (r : Int) = (ix : Int) := by omega
                have hb2 : decide ((8 : Int) < (L : Int)) = true := decide_eq_true (by omega)
                have b1 : d3 < 256 := by omega
                have b2 : l8 ≤ 300 := by omega
                have b3 : l1 ≤ 300 := by omega
                have b5 : 0 < l8 := by omega
                obtain ⟨y2, hy2⟩ : ∃ y2, s.wds.getD ix 0 = y2 := ⟨_, rfl⟩
                have HPK : Hid ((flN z.bs s.wds (j + 1) (nxI z.bs s.pos)).1 = (flN z.bs s.wds j (nxI z.bs s.pos)).1 ++ [y2]) := by
                  unfold Hid
                  rw [flN]
                  show (flN z.bs s.wds j (nxI z.bs s.pos)).1 ++ [pickF s.wds (nxV z.bs (flN z.bs s.wds j (nxI z.bs s.pos)).2)] = _
                  rw [HX.out, ← hy2]
                  unfold pickF
                  have e : ((x : Int) / 3 % ((L : Int) - 8)).toNat = x / 3 % (L - 8) := by
                    rw [show (L : Int) - 8 = ((L - 8 : Nat) : Int) by omega, show (x : Int) / 3 = ((x / 3 : Nat) : Int) by omega, ← Int.natCast_emod]
                    exact Int.toNat_natCast _
                  rw [HL.out, if_pos ⟨by omega, hL8⟩, hix, hl1, hr, hd3, hl8, e]
                have HY2 : Hid (∀ w6, Hw z ⟨(flN z.bs s.wds (j + 1) (nxI z.bs s.pos)).2, s.ws, s.top, s.wds⟩ gw cw gh' hc w6 → w6.cell? ⟨gw, ix, none⟩ = some (.int .i64 y2)) := fun w6 h6 => by
                  have := (h6.wd.cell (j := ix) (by show ix < s.wds.length; rw [HL.out]; exact hixL)).1
                  rw [← hy2]; exact this
                clear hd3 hl8 hl1 hr hix hy2 hx3
                go_wp2_with (at_builtin; refine appF_law w5 rfl (.tmp 55) (.tmp 63) rfl z.w0.heap.size _ (flN z.bs s.wds j (nxI z.bs s.pos)).1 y (by simp [Act.eval]) HF5.out (by simp [Act.eval]) (by rw [HFL.out]; omega) HW0.out ?_; intro g cap w6 hf6 hg6 hgr6 hor6; rw [HFL.out] at hf6 ⊢; have HF6 : Hid (Fr w6 g (j + 1) cap ((flN z.bs s.wds j (nxI z.bs s.pos)).1 ++ [y])) := hf6; have HGE6 : Hid (z.w0.heap.size ≤ g) := hg6; have HG6 : Hid (w5.grownBy w6 (Value.ownBlock u12)) := hgr6; have HOR6 : Hid (Value.ownBlock u12 = some g ∨ g = w5.heap.size + 1) := hor6; clear hf6 hg6 hgr6 hor6; have HH6 : Hid (Hw z ⟨(flN z.bs s.wds (j + 1) (nxI z.bs s.pos)).2, s.ws, s.top, s.wds⟩ gw cw gh' hc w6) := HH5.out.grown HF5.out HG6.out hO.out.1 hO.out.2; have e1 := HY2.out w6 HH6.out; have e2 := (HF6.out.cell (j := j) (by omega)).2; obtain ⟨e3v, e3⟩ : ∃ e3v, w6.cell? ⟨g, j, none⟩ = some e3v := ⟨_, (HF6.out.cell (j := j) (by omega)).1⟩)
                have hne : g ≠ gh' ∧ g ≠ gw := by
                  have h1 := HH5.out.fr.lt
                  have h2 := HH5.out.wd.lt
                  rcases HOR6.out with h | h
                  · exact ⟨fun e => hO.out.1 (by rw [h, e]), fun e => hO.out.2 (by rw [h, e])⟩
                  · exact ⟨by omega, by omega⟩
                exact ⟨FlI.put HFL.out HF6.out HGE6.out hjl HH6.out hne.1 hne.2 HPK.out, by simp [intOf]; omega⟩
              · have HPK : Hid ((flN z.bs s.wds (j + 1) (nxI z.bs s.pos)).1 = (flN z.bs s.wds j (nxI z.bs s.pos)).1 ++ [y]) := by
                  unfold Hid
                  rw [flN]
                  show (flN z.bs s.wds j (nxI z.bs s.pos)).1 ++ [pickF s.wds (nxV z.bs (flN z.bs s.wds j (nxI z.bs s.pos)).2)] = _
                  rw [HX.out, ← HY.out]
                  unfold pickF
                  rw [HL.out, if_neg (by omega), HA.out]
                  congr 3
                obtain ⟨d, hd⟩ : ∃ d : Nat, d = x % 3 := ⟨_, rfl⟩
                have t2 : (x : Int).tmod 3 = (d : Int) := by rw [Int.tmod_eq_emod_of_nonneg (by omega), hd]; simp
                have hbb : (decide (d = 0) && decide (8 < L)) = false := by rw [hd]; simp; omega
                have hdd : d < 3 := by omega
                have hit2 : d = 0 → ¬ 8 < L := by omega
                clear hd
                by_cases h0 : d = 0
                · have hb1 : ((d : Int) == 0) = true := by simp [h0]
                  have hb2 : decide ((8 : Int) < (L : Int)) = false := decide_eq_false (by have := hit2 h0; omega)
                  go_wp2_with (at_builtin; refine appF_law w5 rfl (.tmp 55) (.tmp 63) rfl z.w0.heap.size _ (flN z.bs s.wds j (nxI z.bs s.pos)).1 y (by simp [Act.eval]) HF5.out (by simp [Act.eval]) (by rw [HFL.out]; omega) HW0.out ?_; intro g cap w6 hf6 hg6 hgr6 hor6; rw [HFL.out] at hf6 ⊢; have HF6 : Hid (Fr w6 g (j + 1) cap ((flN z.bs s.wds j (nxI z.bs s.pos)).1 ++ [y])) := hf6; have HGE6 : Hid (z.w0.heap.size ≤ g) := hg6; have HG6 : Hid (w5.grownBy w6 (Value.ownBlock u12)) := hgr6; have HOR6 : Hid (Value.ownBlock u12 = some g ∨ g = w5.heap.size + 1) := hor6; clear hf6 hg6 hgr6 hor6)
                  exact ⟨FlI.step hjl HFL.out HF5.out hO.out HH5.out HF6.out HGE6.out HG6.out HOR6.out HPK.out, by simp [intOf]; omega⟩
                · have hb1 : ((d : Int) == 0) = false := by simp; omega
                  go_wp2_with (at_builtin; refine appF_law w5 rfl (.tmp 55) (.tmp 63) rfl z.w0.heap.size _ (flN z.bs s.wds j (nxI z.bs s.pos)).1 y (by simp [Act.eval]) HF5.out (by simp [Act.eval]) (by rw [HFL.out]; omega) HW0.out ?_; intro g cap w6 hf6 hg6 hgr6 hor6; rw [HFL.out] at hf6 ⊢; have HF6 : Hid (Fr w6 g (j + 1) cap ((flN z.bs s.wds j (nxI z.bs s.pos)).1 ++ [y])) := hf6; have HGE6 : Hid (z.w0.heap.size ≤ g) := hg6; have HG6 : Hid (w5.grownBy w6 (Value.ownBlock u12)) := hgr6; have HOR6 : Hid (Value.ownBlock u12 = some g ∨ g = w5.heap.size + 1) := hor6; clear hf6 hg6 hgr6 hor6)
                  exact ⟨FlI.step hjl HFL.out HF5.out hO.out HH5.out HF6.out HGE6.out HG6.out HOR6.out HPK.out, by simp [intOf]; omega⟩
            · obtain rfl : j = m := by omega
              have HRAW : Hid (flN z.bs s.wds j (nxI z.bs s.pos) = rawF z.bs s) := by unfold Hid rawF; rw [HCF.out]
              rw [HRAW.out] at hF hHx
              rename World => wB
              have HFB := hF
              have HOB := hO
              have HHB := hHx
              have HFR : Hid (∀ i, -9223372036854775808 ≤ (rawF z.bs s).1.getD i 0 ∧ (rawF z.bs s).1.getD i 0 ≤ 9223372036854775807) := fun i => by
                have := getD_rng (fun x hx => flN_rng hJ.out.bw _ _ x hx) i (xs := (rawF z.bs s).1)
                omega
              have HFLB : Hid ((rawF z.bs s).1.length ≤ 4) := by unfold Hid; rw [← HRAW.out, flN_len]; exact hm4
              clear hF hHx hO
              go_upto_if 90 with fail
              go_cut [12] from 32 to 111 (fun fv wc => Fz wc z.w0.heap.size fv (fsF z.bs s) ∧ (fv.ownBlock ≠ some gh' ∧ fv.ownBlock ≠ some gw) ∧ Hw z ⟨(rawF z.bs s).2, s.ws, s.top, s.wds⟩ gw cw gh' hc wc)
              case first =>
                by_cases h2 : kd = 2
                · have hb : ((kd : Int) == 2) = true := by simp [h2]
                  obtain ⟨q20, hq20⟩ : ∃ q20 : Nat, q20 = v / 20 := ⟨_, rfl⟩
                  have t1 : (v : Int).tdiv 20 = (q20 : Int) := by rw [Int.tdiv_eq_ediv_of_nonneg (by omega)]; omega
                  have hq : q20 ≤ 12 := by omega
                  have HFS : Hid (fsF z.bs s = [4 * (q20 : Int)] ++ (rawF z.bs s).1) := by
                    unfold Hid fsF
                    rw [HV.out, if_pos (by have := HKD.out; omega)]
                    simp only [List.singleton_append, List.cons.injEq, and_true]
                    omega
                  clear hq20 h2
                  have HB1 : Hid (Below wB.heap.size wB (wB.alloc (.cells #[.int .i64 (4 * (q20 : Int))] 3))) := below1 _ _
                  have HFZ : Hid (Fz (wB.alloc (.cells #[.int .i64 (4 * (q20 : Int))] 3)) z.w0.heap.size (.slice (some ⟨wB.heap.size, 0, none⟩) 1 1) [4 * (q20 : Int)]) := by
                    have hbk : (wB.alloc (.cells #[.int .i64 (4 * (q20 : Int))] 3)).heap[wB.heap.size]? = some (.cells #[.int .i64 (4 * (q20 : Int))] 3) := new_blk _ _ rfl
                    refine Or.inr ⟨_, 1, rfl, HHB.out.kp.size, ⟨⟨fun _ => .int .i64 (4 * (q20 : Int)), ⟨_, hbk, rfl, fun j hj => ?_⟩, fun j hj => ?_⟩, Nat.le_refl _, by unfold maxLen; omega, rfl⟩⟩
                    · obtain rfl : j = 0 := by omega
                      rfl
                    · obtain rfl : j = 0 := by have : j < 1 := hj; omega
                      rfl
                  have HF1 : Hid (Fz (wB.alloc (.cells #[.int .i64 (4 * (q20 : Int))] 3)) z.w0.heap.size u12 (rawF z.bs s).1) := HFB.out.keep (fun g e => HB1.out.block g (HFB.out.lt g e).2)
                  obtain ⟨fq, fc, hfe, hfi⟩ := HF1.out.is HFR.out
                  have HFE : Hid (u12 = .slice fq (rawF z.bs s).1.length fc) := hfe
                  have HFI : Hid (Is (wB.alloc (.cells #[.int .i64 (4 * (q20 : Int))] 3)) fq (rawF z.bs s).1.length fc (rawF z.bs s).1) := hfi
                  have HSZ : Hid (z.w0.heap.size ≤ (wB.alloc (.cells #[.int .i64 (4 * (q20 : Int))] 3)).heap.size) := Nat.le_trans HHB.out.kp.size HB1.out.size
                  clear hfe hfi
                  go_wp2_with (at_builtin; refine appS_law (wB.alloc (.cells #[.int .i64 (4 * (q20 : Int))] 3)) rfl (.tmp 94) (.tmp 95) rfl z.w0.heap.size (.slice (some ⟨wB.heap.size, 0, none⟩) 1 1) [4 * (q20 : Int)] (rawF z.bs s).1 (by simp [Act.eval]) HFZ.out fq fc (by simp [Act.eval]; exact HFE.out) HFI.out (Or.inl (by simp)) (by have := HFLB.out; simp; omega) HSZ.out ?_; intro g cap w6 hf6 hg6 hgr6 hor6; have HF6 : Hid (Fr w6 g ([4 * (q20 : Int)].length + (rawF z.bs s).1.length) cap ([4 * (q20 : Int)] ++ (rawF z.bs s).1)) := hf6; have HGE6 : Hid (z.w0.heap.size ≤ g) := hg6; have HG6 : Hid ((wB.alloc (.cells #[.int .i64 (4 * (q20 : Int))] 3)).grownBy w6 (some wB.heap.size)) := hgr6; have HOR6 : Hid (some wB.heap.size = some g ∨ g = (wB.alloc (.cells #[.int .i64 (4 * (q20 : Int))] 3)).heap.size) := hor6; clear hf6 hg6 hgr6 hor6)
                  go_meet
                  have hgg : wB.heap.size ≤ g := by
                    rcases HOR6.out with h | h
                    · exact Nat.le_of_eq (Option.some.inj h)
                    · rw [h]; simp
                  have h1 := HHB.out.fr.lt
                  have h2' := HHB.out.wd.lt
                  refine ⟨?_, ⟨fun e => ?_, fun e => ?_⟩, ?_⟩
                  · rw [HFS.out]
                    exact Or.inr ⟨g, cap, by simp [Nat.add_comm], HGE6.out, by simpa [Nat.add_comm] using HF6.out⟩
                  · have e' : g = gh' := by simpa [Value.ownBlock] using e
                    omega
                  · have e' : g = gw := by simpa [Value.ownBlock] using e
                    omega
                  · exact (HHB.out.below HB1.out).grown (v := .slice (some ⟨wB.heap.size, 0, none⟩) 1 1) HFZ.out HG6.out (by simp [Value.ownBlock]; omega) (by simp [Value.ownBlock]; omega)
                · have hb : ((kd : Int) == 2) = false := by simp; omega
                  have HFS : Hid (fsF z.bs s = (rawF z.bs s).1) := by
                    unfold Hid fsF
                    rw [HV.out, if_neg (by have := HKD.out; omega)]
                  go_wp2_with fail
                  go_meet
                  exact ⟨by rw [HFS.out]; exact HFB.out, HOB.out, HHB.out⟩
              case rest =>
                obtain ⟨hfz, hfo, hfh⟩ := hcut
                rename World => wD
                have HFZ : Hid (Fz wD z.w0.heap.size u12 (fsF z.bs s)) := hfz
                have HFO : Hid (Value.ownBlock u12 ≠ some gh' ∧ Value.ownBlock u12 ≠ some gw) := hfo
                have HHD : Hid (Hw z ⟨(rawF z.bs s).2, s.ws, s.top, s.wds⟩ gw cw gh' hc wD) := hfh
                have HWR : Hid (∀ i, -9223372036854775808 ≤ s.ws.getD i 0 ∧ s.ws.getD i 0 ≤ 9223372036854775807) := fun i => by have := hJ.out.bh i; omega
                have HFSR : Hid (∀ i, -9223372036854775808 ≤ (fsF z.bs s).getD i 0 ∧ (fsF z.bs s).getD i 0 ≤ 9223372036854775807) := fun i => by have := fsF_rng HRB.out hJ.out.bw (s := s) i; omega
                obtain ⟨fq, fc, hfe, hfi⟩ := hfz.is HFSR.out
                have HFI : Hid (Is wD fq (fsF z.bs s).length fc (fsF z.bs s)) := hfi
                have HHI : Hid (Is wD (some ⟨gh', 0, none⟩) z.n hc s.ws) := hfh.fr.is HWR.out
                obtain ⟨c0, c1, f0, f1⟩ := two_cells hfh.hv
                have hkd : (nxV z.bs s.pos % 4) = (kd : Int) := by rw [HV.out]; have := HKD.out; omega
                have HKK : Hid (nxV z.bs s.pos % 4 = (kd : Int)) := hkd
                obtain ⟨T, hT⟩ : ∃ T : Nat, s.top = T := ⟨s.top.toNat, by have := hJ.out.lo; omega⟩
                have HT : Hid (s.top = (T : Int)) := hT
                have hTn : T ≤ 300 := by have := hJ.out.hi; omega
                subst hfe
                clear hfz hfo hfh hfi hkd
                simp only [hT] at c1
                clear hT
                go_wp2_with fail
                refine (specAlloc_q (some ⟨gh', 0, none⟩) z.n hc (T : Int) (kd : Int) s.ws fq (fsF z.bs s).length fc (fsF z.bs s) wD HHI.out (by omega) (by omega) HFI.out).mono ?_
                rintro e w7 ⟨yp, yn, yc, ys, top', word, code, rfl, hres, hys, hfrw, hb7⟩
                have HH7 : Hid (Hw z ⟨(rawF z.bs s).2, s.ws, s.top, s.wds⟩ gw cw gh' hc w7) := HHD.out.below hb7
                have hres' : AlRes s.ws s.top (nxV z.bs s.pos % 4) (fsF z.bs s) ys top' word code := by rw [HT.out, HKK.out]; exact hres
                by_cases hc0 : code = 0
                · subst hc0
                  obtain ⟨g, rfl, hgge, hgfr⟩ := hfrw rfl
                  obtain ⟨hok, hfit, hyse, htop, hword⟩ : AlOk s.ws s.top (nxV z.bs s.pos % 4) (fsF z.bs s) ∧ s.top + 1 + (fsF z.bs s).length ≤ s.ws.length ∧ ys = putO s.ws s.top.toNat (4 * (fsF z.bs s).length + nxV z.bs s.pos % 4) (fsF z.bs s) ∧ top' = s.top + 1 + (fsF z.bs s).length ∧ word = 4 * s.top + 1 := by
                    rcases hres' with ⟨_, _, _, _, h1⟩ | ⟨_, _, _, _, _, h1⟩ | ⟨h1, h2, h3, h4, h5, _⟩
                    · cases h1
                    · cases h1
                    · exact ⟨h1, h2, h3, h4, h5⟩
                  have hynl : yn = z.n := by
                    rw [← hys.len, hyse, putO_len (by have := hJ.out.lo; omega)]; exact hJ.out.len
                  subst hynl
                  have HST : Hid (StepR z.bs s (laidF z.bs s)) := Or.inl ⟨⟨hok, hfit⟩, rfl⟩
                  have HLD : Hid (laidF z.bs s = ⟨(rawF z.bs s).2, ys, top', s.wds ++ [word]⟩) := by unfold Hid laidF; rw [hyse, htop, hword]
                  have hgw7 := HHD.out.wd.lt
                  have HH8 := Hid.mk' (((HH7.out.below (below1 w7 (.cells #[.slice (some ⟨g, 0, none⟩) z.n yc, .int .i64 top'] 25))).put (top' := top') (hgfr.below (below1 _ _)) (by have := HHD.out.kp.size; omega) (by omega)))
                  obtain ⟨c0, c1, f0, f1⟩ := two_cells (HH7.out.below (below1 w7 (.cells #[.slice (some ⟨g, 0, none⟩) z.n yc, .int .i64 top'] 25))).hv
                  have HFW := Hid.mk' (show Fz _ z.w0.heap.size (.slice (some ⟨gw, 0, none⟩) L cw) s.wds from Or.inr ⟨gw, cw, by rw [HL.out], HH8.out.ge.2.2.2.1, HH8.out.wd⟩)
                  have HSZ := Hid.mk' HH8.out.kp.size
                  have htopb : top' ≤ 1000 := by have := fsF_len z.bs s; have := hJ.out.hi; omega
                  have htop0 : 0 ≤ top' := by have := hJ.out.lo; omega
                  clear hres hres' hys hfrw hb7 hok hfit hyse htop hword hgge hgfr
                  go_wp2_with (at_builtin; refine appF_law _ rfl (.tmp 108) (.tmp 110) rfl z.w0.heap.size _ s.wds word (by simp [Act.eval]) HFW.out (by simp [Act.eval]) (by rw [HL.out]; omega) HSZ.out ?_; intro g2 cap w9 hf9 hg9 hgr9 hor9; have HF9 := Hid.mk' hf9; have HGE9 := Hid.mk' hg9; have HG9 := Hid.mk' hgr9; have HOR9 := Hid.mk' hor9; clear hf9 hg9 hgr9 hor9)
                  refine ⟨⟨k + 1, laidF z.bs s, g2, cap, g, yc, by omega, by go_num, by rw [HLD.out]; simp, by rw [HLD.out]; simp [HL.out]; omega, ⟨s, hRun.out, HST.out⟩, hJ.out.step HRB.out (by omega) HST.out, ?_⟩, by simp [intOf]; omega⟩
                  unfold Hid
                  rw [HLD.out]
                  exact HH8.out.word HF9.out HGE9.out HG9.out HOR9.out
                · have hbc : (code == 0) = false := by simpa using hc0
                  have HST : Hid (StepR z.bs s ⟨(rawF z.bs s).2, s.ws, s.top, s.wds⟩) := by
                    refine Or.inr ⟨fun hok => ?_, rfl⟩
                    rcases hres' with ⟨h1, _⟩ | ⟨_, h1, _⟩ | ⟨_, _, _, _, _, h1⟩
                    · exact h1 hok.1
                    · have := hok.2; omega
                    · exact hc0 h1
                  clear hres hres' hys hfrw hb7
                  go_wp2_with fail
                  refine ⟨⟨k + 1, ⟨(rawF z.bs s).2, s.ws, s.top, s.wds⟩, gw, cw, gh', hc, by omega, by go_num, by rw [← HL.out], by show s.wds.length ≤ _; rw [HL.out]; omega, ⟨s, hRun.out, HST.out⟩, hJ.out.step HRB.out (by omega) HST.out, HH7.out.below (below1 _ _)⟩, by simp [intOf]; omega⟩
    · obtain rfl : k = cnt := by omega
      rename World => wA
      obtain ⟨c3, hc3⟩ : ∃ c3 : Nat, c3 = k / 3 := ⟨_, rfl⟩
      have t0 : (k : Int).tdiv 3 = (c3 : Int) := by rw [Int.tdiv_eq_ediv_of_nonneg (by omega)]; omega
      have HC3 : Hid (c3 = k / 3) := hc3
      have hc3b : c3 ≤ 15 := by omega
      clear hc3
      go_wp2_with fail
      go_loopw [18] (fun iv wr => TlI z s c3 gw cw gh' hc iv wr) (fun iv _ => c3 - (intOf iv).toNat)
      case atStart => exact ⟨0, s, Nat.zero_le _, rfl, rfl, rfl, hJ.out, hH.out⟩
      case round =>
        obtain ⟨q, s2, hq, rfl, hwe, hTu, hJ2, hH2⟩ := hrel
        rename World => wC
        have HL2 : Hid (s2.wds.length = L) := by unfold Hid; rw [hwe]; exact HL.out
        have HWE : Hid (s2.wds = s.wds) := hwe
        clear hwe
        by_cases hql : q < c3
        · by_cases hL8 : 8 < L
          · have hb8 : decide ((8 : Int) < (L : Int)) = true := decide_eq_true (by omega)
            go_wp2_with fail
            refine (next_c z.rb z.bp z.nb z.cb z.B z.bs s2.pos wC hH2.out.rd).mono ?_
            rintro e w5 ⟨rfl, hr5, hk5, hs5⟩
            have hvr := nxV_rng HRB.out s2.pos
            obtain ⟨x, hx⟩ : ∃ x : Nat, nxV z.bs s2.pos = x := ⟨_, (Int.toNat_of_nonneg hvr.1).symm⟩
            rw [hx] at hvr
            have hxl : x < 256 := by omega
            have HH5 : Hid (Hw z ⟨nxI z.bs s2.pos, s2.ws, s2.top, s2.wds⟩ gw cw gh' hc w5) := hH2.out.next hk5 hr5
            obtain ⟨i1, i2, i3, i4, i5⟩ := at_in HRB.out hJ2.out (by rw [HL2.out]; exact hL8)
            rw [HL2.out, hx] at i1 i2 i3
            obtain ⟨l8, hl8⟩ : ∃ l8 : Nat, l8 = L - 8 := ⟨_, rfl⟩
            have t4 : (L : Int) - 8 = (l8 : Int) := by omega
            rw [t4] at i1 i2 i3
            obtain ⟨r, hr⟩ : ∃ r : Nat, r = x % l8 := ⟨_, rfl⟩
            have er : ((x : Int) % (l8 : Int)).toNat = r := by rw [← Int.natCast_emod, hr]; exact Int.toNat_natCast _
            rw [er] at i1 i2 i3
            have t6 : (x : Int).tmod (l8 : Int) = (r : Int) := by rw [Int.tmod_eq_emod_of_nonneg (by omega), hr]; simp
            obtain ⟨ix, hix⟩ : ∃ ix : Nat, ix = 8 + r := ⟨_, rfl⟩
            have t7 : (8 : Int) + (r : Int) = (ix : Int) := by omega
            rw [← hix] at i1 i2 i3
            have b5 : 0 < l8 := by omega
            have b6 : l8 ≤ 300 := by omega
            have b7 : r ≤ 300 := by omega
            have g1 := (HH5.out.wd.cell (j := ix) (by show ix < s2.wds.length; rw [HL2.out]; exact i1)).1
            have hbw := hJ2.out.bw ix
            obtain ⟨y, hy⟩ : ∃ y, s2.wds.getD ix 0 = y := ⟨_, rfl⟩
            have g1' : w5.cell? ⟨gw, ix, none⟩ = some (.int .i64 y) := by rw [← hy]; exact g1
            rw [hy] at i2 i3 hbw
            obtain ⟨a, ha⟩ : ∃ a, atF z.bs s2 = a := ⟨_, rfl⟩
            rw [ha] at i2 i4 i5
            have t8 : y.tdiv 4 = (a : Int) := by rw [Int.tdiv_eq_ediv_of_nonneg i3]; exact i2
            have HAT : Hid (atF z.bs s2 = a) := ha
            have g2 := (HH5.out.fr.cell (j := a) i4).1
            have hbh := hJ2.out.bh a
            obtain ⟨hd, hhd⟩ : ∃ hd, s2.ws.getD a 0 = hd := ⟨_, rfl⟩
            have g2' : w5.cell? ⟨gh', a, none⟩ = some (.int .i64 hd) := by rw [← hhd]; exact g2
            have HHD : Hid (s2.ws.getD a 0 = hd) := hhd
            rw [hhd] at hbh
            obtain ⟨c0, c1, f0, f1⟩ := two_cells HH5.out.hv
            have fa : (a : Int) < (z.n : Int) := by omega
            obtain ⟨hbh0, hbh1⟩ := hbh
            obtain ⟨hbw0, hbw1⟩ := hbw
            have HHIT : Hid (hitF z.bs s2 ↔ (hd = 8 ∨ hd.tmod 4 = 3)) := by unfold Hid hitF; rw [HAT.out, HHD.out]
            have HI5 : Hid (hitF z.bs s2 → a + 1 < z.n) := i5
            have hL8' : 8 < s2.wds.length := by rw [HL2.out]; exact hL8
            have HL8 : Hid (8 < s2.wds.length) := hL8'
            obtain ⟨lt, hlt'⟩ : ∃ lt : Nat, lt = L - 1 := ⟨_, rfl⟩
            have t9 : (L : Int) - 1 = (lt : Int) := by omega
            have g3 := (HH5.out.wd.cell (j := lt) (by show lt < s2.wds.length; rw [HL2.out]; omega)).1
            obtain ⟨y2, hy2⟩ : ∃ y2, s2.wds.getD lt 0 = y2 := ⟨_, rfl⟩
            have g3' : w5.cell? ⟨gw, lt, none⟩ = some (.int .i64 y2) := by rw [← hy2]; exact g3
            have HY2 : Hid (s2.wds.getD (s2.wds.length - 1) 0 = y2) := by unfold Hid; rw [HL2.out, ← hlt']; exact hy2
            have b8 : lt < L := by omega
            have b9 : ix < L := i1
            rw [hx]
            clear hr5 hk5 hs5 hx hvr i1 i2 i3 i5 hl8 hr er hix g1 hy ha g2 hhd hlt' g3 hy2 hL8' hH2 hJ
            by_cases hit : hd = 8 ∨ hd.tmod 4 = 3
            · have h1n : a + 1 < z.n := HI5.out (HHIT.out.2 hit)
              have HTR : Hid (turnR z.bs s2 ⟨nxI z.bs s2.pos, s2.ws.set (a + 1) y2, s2.top, s2.wds⟩) := by
                refine Or.inl ⟨HL8.out, HHIT.out.2 hit, ?_⟩
                rw [HAT.out, HY2.out]
              have FIN : Hid (TlI z s c3 gw cw gh' hc (.int .i64 ((q : Int) + 1)) (w5.setCell ⟨gh', a + 1, none⟩ (.int .i64 y2)).drew ∧ c3 - (intOf (.int .i64 ((q : Int) + 1))).toNat < c3 - (intOf (.int .i64 (q : Int))).toNat) :=
                ⟨⟨q + 1, ⟨nxI z.bs s2.pos, s2.ws.set (a + 1) y2, s2.top, s2.wds⟩, by omega, by go_num, HWE.out, ⟨s2, hTu.out, HTR.out⟩, hJ2.out.turn HTR.out, HH5.out.store h1n⟩, by simp [intOf]; omega⟩
              obtain ⟨e3v, e3⟩ : ∃ e3v, w5.cell? ⟨gh', a + 1, none⟩ = some e3v := ⟨_, (HH5.out.fr.cell (j := a + 1) h1n).1⟩
              have e4 := (HH5.out.fr.cell (j := a + 1) h1n).2
              have f2 : (a : Int) + 1 < (z.n : Int) := by omega
              by_cases h8 : hd = 8
              · have hb1 : (hd == 8) = true := by simp [h8]
                clear hit h8
                go_wp2_with fail
                go_region
                all_goals go_wp2_with fail
                all_goals exact FIN.out
              · have hb1 : (hd == 8) = false := by simpa using h8
                have hb2 : hd.tmod 4 = 3 := hit.resolve_left h8
                clear hit h8
                go_wp2_with fail
                go_region
                all_goals go_wp2_with fail
                all_goals exact FIN.out
            · have HTR : Hid (turnR z.bs s2 ⟨nxI z.bs s2.pos, s2.ws, s2.top, s2.wds⟩) := Or.inr (Or.inl ⟨HL8.out, fun h => hit (HHIT.out.1 h), rfl⟩)
              have h8 : ¬ hd = 8 := fun h => hit (Or.inl h)
              have h3 : ¬ hd.tmod 4 = 3 := fun h => hit (Or.inr h)
              have hb1 : (hd == 8) = false := by simpa using h8
              obtain ⟨tm, htm⟩ : ∃ tm, hd.tmod 4 = tm := ⟨_, rfl⟩
              rw [htm] at h3
              have hb2 : (tm == 3) = false := by simpa using h3
              clear hit h8 h3
              go_wp2_with fail
              exact ⟨⟨q + 1, ⟨nxI z.bs s2.pos, s2.ws, s2.top, s2.wds⟩, by omega, by go_num, HWE.out, ⟨s2, hTu.out, HTR.out⟩, hJ2.out.turn HTR.out, HH5.out⟩, by simp [intOf]; omega⟩
          · have hb8 : decide ((8 : Int) < (L : Int)) = false := decide_eq_false (by omega)
            have HTR : Hid (turnR z.bs s2 s2) := Or.inr (Or.inr ⟨by rw [HL2.out]; exact hL8, rfl⟩)
            go_wp2_with fail
            exact ⟨⟨q + 1, s2, by omega, by go_num, HWE.out, ⟨s2, hTu.out, HTR.out⟩, hJ2.out, hH2.out⟩, by simp [intOf]; omega⟩
        · obtain rfl : q = c3 := by omega
          obtain ⟨c0, c1, f0, f1⟩ := two_cells hH2.out.hv
          obtain ⟨r0, r1, rf0, rf1⟩ := two_cells hH2.out.rv
          have hne := hH2.out.ge.2.2.2.2
          have HHR : Hid (HeapR z.bs i s2) := by
            refine ⟨s, ?_, ?_⟩
            · rw [HCN.out.1, HBE.out.2.2, ← HS0.out]; exact hRun.out
            · rw [HCN.out.2, ← HC3.out]; exact hTu.out
          go_wp2_with fail
          refine bodyPost_ret (v := .tuple #[.agg #[.slice (some ⟨gh', 0, none⟩) z.n hc, .int .i64 s2.top], .slice (some ⟨gw, 0, none⟩) L cw]) (by simp [results, Tryd.results15, go_sem, r0, r1]) rfl ?_
          have hk : ∀ k, k ≠ z.rv → ((wC.setCell ⟨z.rv, 0, none⟩ (.slice (some ⟨gh', 0, none⟩) z.n hc)).setCell ⟨z.rv, 1, none⟩ (.int .i64 s2.top)).heap[k]? = wC.heap[k]? := fun k hk => (Below.heap_setCell _ _ _ k hk).trans (Below.heap_setCell _ _ _ k hk)
          have hsz : wC.heap.size ≤ ((wC.setCell ⟨z.rv, 0, none⟩ (.slice (some ⟨gh', 0, none⟩) z.n hc)).setCell ⟨z.rv, 1, none⟩ (.int .i64 s2.top)).heap.size := by simp
          have hh := hH2.out
          obtain ⟨g1, g2, g3, g4, g5⟩ := hh.ge
          have hp := hh.rd.past
          have e1 := hh.fr.not hh.rv (by decide)
          have e2 := hh.wd.not hh.rv (by decide)
          refine ⟨s2, z.n, gw, cw, gh', hc, by rw [HL2.out], HHR.out, hJ2.out, HBE.out.1, HBE.out.2.1, by rw [HL2.out]; omega, hh.fr.of_block (hk _ e1), hh.wd.of_block (hk _ e2), hh.ne, g1, g4, hh.rd.keep hsz (fun k hk' => hk k (by omega)) (hk _ (by omega)), ?_⟩
          exact ⟨hh.kp.os, hh.kp.tape, hh.kp.output, Nat.le_trans hh.kp.size hsz, fun k hk' e _ => (hk k (by omega)).trans (hh.kp.block k hk' e e)⟩
end Go.Proofs.YtmmkpmgidoelpaaDoor.Hp
