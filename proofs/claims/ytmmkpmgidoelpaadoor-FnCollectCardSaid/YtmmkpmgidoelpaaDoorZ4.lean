import Derived.Test.YtmmkpmgidoelpaaDoorZ1
import Derived.Test.YtmmkpmgidoelpaaDoorH9
import Derived.Maps.OwnSet
import Derived.Maps.OwnOps
import Derived.Maps.Views
import Derived.Deep.RegionLaw
import Derived.RegionTactic
import Derived.BigRegion
import Derived.Deep.Cut
import Derived.Deep.CutRange
namespace Go.Proofs.YtmmkpmgidoelpaaDoor.Hp
open Go.RowKit Ch2 Go.Maps
theorem keyZ : Keyed Tryd.prog 3 := int_keyed Tryd.underlying3
theorem zeroZ (w : World) : (zeroValue 3).run Tryd.prog w = .ok (.int .i64 0) w := by kernel_rfl
theorem wfZ {x : Int} (h0 : -9223372036854775808 ≤ x) (h1 : x ≤ 9223372036854775807) : (Lit.int .i64 x).wf = true := by
  simp [Lit.wf, IntKind.min, IntKind.max, IntKind.signed, IntKind.bits]; omega
/-- Of the blocks that were there only x and y have turned. -/
structure KpZ (x y : Nat) (w w' : World) : Prop where
  os : w'.os = w.os
  tape : w'.tape = w.tape
  output : w'.output = w.output
  size : w.heap.size ≤ w'.heap.size
  block : ∀ k, k < w.heap.size → k ≠ x → k ≠ y → w'.heap[k]? = w.heap[k]?
theorem KpZ.refl (x y : Nat) (w : World) : KpZ x y w w := ⟨rfl, rfl, rfl, Nat.le_refl _, fun _ _ _ _ => rfl⟩
theorem KpZ.trans {x y : Nat} {a b c : World} (h : KpZ x y a b) (k : KpZ x y b c) : KpZ x y a c :=
  ⟨k.os.trans h.os, k.tape.trans h.tape, k.output.trans h.output, Nat.le_trans h.size k.size, fun i hi h1 h2 => (k.block i (Nat.lt_of_lt_of_le hi h.size) h1 h2).trans (h.block i hi h1 h2)⟩
theorem KpZ.of_below {x y : Nat} {a b : World} (h : Below a.heap.size a b) : KpZ x y a b := ⟨h.os, h.tape, h.output, h.size, fun i hi _ _ => h.block i hi⟩
theorem KpZ.below {x y B : Nat} {a b : World} (h : KpZ x y a b) (hB : B ≤ a.heap.size) (hx : B ≤ x) (hy : B ≤ y) : Below B a b :=
  ⟨h.os, h.tape, h.output, h.size, fun i hi => h.block i (by omega) (by omega) (by omega)⟩
/-- A map of places, as read. -/
structure MpL (D : DataW Unit) (L : List (Nat × Nat)) : Prop where
  isMap : IsMap D
  no : ∀ p : Nat, (∀ q, (p, q) ∉ L) → Maps.has D (.int .i64 (p : Int)) = false
  yes : ∀ p q : Nat, (p, q) ∈ L → Maps.has D (.int .i64 (p : Int)) = true ∧ D.atKey (.int .i64 (p : Int)) (.lit (.int .i64 0)) = .lit (.int .i64 (q : Int))
theorem MpL.put {D : DataW Unit} {L : List (Nat × Nat)} (h : MpL D L) (m t : Nat) (hm : ∀ q, (m, q) ∉ L) : MpL (D.put (.int .i64 (m : Int)) (.lit (.int .i64 (t : Int)))) (L ++ [(m, t)]) := by
  have hkl : WideAt.IsKeyLit (.int .i64 (m : Int)) := by first | exact trivial | decide | simp [WideAt.IsKeyLit]
  refine ⟨h.isMap.put _ _, fun p hp => ?_, fun p q hpq => ?_⟩
  · have e : p ≠ m := fun e => hp t (by subst e; simp)
    rw [has_put_other (by intro he; injection he with _ he; omega)]
    exact h.no p (fun q hq => hp q (List.mem_append_left _ hq))
  · by_cases e : p = m
    · subst e
      have e2 : q = t := by
        rcases List.mem_append.1 hpq with h1 | h1
        · exact absurd h1 (hm q)
        · have := List.mem_singleton.1 h1; injection this
      subst e2
      exact ⟨has_put_same h.isMap hkl _, atKey_put_same h.isMap hkl _ _⟩
    · have h1 : (p, q) ∈ L := by
        rcases List.mem_append.1 hpq with h1 | h1
        · exact h1
        · have := List.mem_singleton.1 h1; injection this with e1 _; exact absurd e1 e
      rw [has_put_other (by intro he; injection he with _ he; omega), atKey_put_other (by intro he; injection he with _ he; omega)]
      exact h.yes p q h1
/-- The two maps and the variables that the comparing function has captured. -/
structure Vz where
  rb : Nat
  bb : Nat
  hb : Nat
  gb : Nat
  sb : Nat
  mb : Nat
  nb : Nat
  p : Option Addr
  n : Nat
  c : Nat
  T : Nat
  ws : List Int
  p' : Option Addr
  n' : Nat
  c' : Nat
  T' : Nat
  vs : List Int
/-- What it captured. -/
def Vz.caps (z : Vz) : Array Value := #[.pointer (some ⟨z.rb, 0, none⟩), .pointer (some ⟨z.bb, 0, none⟩), .pointer (some ⟨z.hb, 0, none⟩), .pointer (some ⟨z.gb, 0, none⟩), .pointer (some ⟨z.sb, 0, none⟩)]
/-- They lie apart. -/
structure Vz.Ok (z : Vz) : Prop where
  mn : z.mb ≠ z.nb
  r : z.rb ≠ z.mb ∧ z.rb ≠ z.nb
  b : z.bb ≠ z.mb ∧ z.bb ≠ z.nb
  h : z.hb ≠ z.mb ∧ z.hb ≠ z.nb
  g : z.gb ≠ z.mb ∧ z.gb ≠ z.nb
  s : z.sb ≠ z.mb ∧ z.sb ≠ z.nb
  p : ∀ a, 0 < z.n → z.p = some a → a.block ≠ z.mb ∧ a.block ≠ z.nb
  p' : ∀ a, 0 < z.n' → z.p' = some a → a.block ≠ z.mb ∧ a.block ≠ z.nb
  gw : GoodH z.ws z.T
  gv : GoodH z.vs z.T'
/-- The world between two comparisons, the pairs L known. -/
structure Sm (z : Vz) (L : List (Nat × Nat)) (w : World) : Prop where
  cr : w.cell? ⟨z.rb, 0, none⟩ = some (.map (some z.mb))
  cb : w.cell? ⟨z.bb, 0, none⟩ = some (.map (some z.nb))
  bh : Bx w z.hb z.p z.n z.c z.T
  bg : Bx w z.gb z.p' z.n' z.c' z.T'
  cs : w.cell? ⟨z.sb, 0, none⟩ = some (.func (.func 27) #[] z.caps)
  lr : z.rb < w.heap.size ∧ z.bb < w.heap.size ∧ z.sb < w.heap.size ∧ z.mb < w.heap.size ∧ z.nb < w.heap.size
  ih : Is w z.p z.n z.c z.ws
  ig : Is w z.p' z.n' z.c' z.vs
  m1 : ∃ D : DataW Unit, w.ownsMap Tryd.prog 3 (plainElem Tryd.prog 3) z.mb L.length D ∧ MpL D L
  m2 : ∃ D : DataW Unit, w.ownsMap Tryd.prog 3 (plainElem Tryd.prog 3) z.nb L.length D ∧ MpL D (L.map Prod.swap)
  pb : Pb z.T L
theorem Is.kpz {x y : Nat} {w w' : World} {p : Option Addr} {n c : Nat} {xs : List Int} (h : Is w p n c xs) (hk : KpZ x y w w') (hp : ∀ a, 0 < n → p = some a → a.block ≠ x ∧ a.block ≠ y) : Is w' p n c xs := by
  refine ⟨h.len, h.cap, h.big, h.rng, fun hn => ?_⟩
  obtain ⟨b, o, e, hlt, hc⟩ := h.cells hn
  obtain ⟨h1, h2⟩ := hp _ hn e
  exact ⟨b, o, e, Nat.lt_of_lt_of_le hlt hk.size, fun i hi => by rw [World.cell?_of_block (w := w) (hk.block b hlt h1 h2)]; exact hc i hi⟩
theorem Bx.kpz {x y k : Nat} {w w' : World} {p : Option Addr} {n c : Nat} {top : Int} (h : Bx w k p n c top) (hk : KpZ x y w w') (h1 : k ≠ x) (h2 : k ≠ y) : Bx w' k p n c top := by
  have hq := hk.block k h.lt h1 h2
  exact ⟨by rw [World.cell?_of_block (w := w) hq]; exact h.c0, by rw [World.cell?_of_block (w := w) hq]; exact h.c1, Nat.lt_of_lt_of_le h.lt hk.size⟩
/-- The maps are said anew, all else is kept. -/
theorem Sm.keep {z : Vz} {L L' : List (Nat × Nat)} {w w' : World} (hz : z.Ok) (h : Sm z L w) (hk : KpZ z.mb z.nb w w') (m1 : ∃ D : DataW Unit, w'.ownsMap Tryd.prog 3 (plainElem Tryd.prog 3) z.mb L'.length D ∧ MpL D L') (m2 : ∃ D : DataW Unit, w'.ownsMap Tryd.prog 3 (plainElem Tryd.prog 3) z.nb L'.length D ∧ MpL D (L'.map Prod.swap)) (hp : Pb z.T L') : Sm z L' w' := by
  obtain ⟨l1, l2, l3, l4, l5⟩ := h.lr
  have hs := hk.size
  exact ⟨by rw [World.cell?_of_block (w := w) (hk.block _ l1 hz.r.1 hz.r.2)]; exact h.cr, by rw [World.cell?_of_block (w := w) (hk.block _ l2 hz.b.1 hz.b.2)]; exact h.cb, h.bh.kpz hk hz.h.1 hz.h.2, h.bg.kpz hk hz.g.1 hz.g.2, by rw [World.cell?_of_block (w := w) (hk.block _ l3 hz.s.1 hz.s.2)]; exact h.cs, ⟨by omega, by omega, by omega, by omega, by omega⟩, h.ih.kpz hk hz.p, h.ig.kpz hk hz.p', m1, m2, hp⟩
theorem ownsMap_blk {w w' : World} {b N : Nat} {D : DataW Unit} (h : w.ownsMap Tryd.prog 3 (plainElem Tryd.prog 3) b N D) (hb : w'.heap[b]? = w.heap[b]?) : w'.ownsMap Tryd.prog 3 (plainElem Tryd.prog 3) b N D := by
  obtain ⟨es, st, hh, r⟩ := h
  exact ⟨es, st, by rw [hb]; exact hh, r⟩
theorem Sm.below {z : Vz} {L : List (Nat × Nat)} {w w' : World} (hz : z.Ok) (h : Sm z L w) (hb : Below w.heap.size w w') : Sm z L w' := by
  obtain ⟨l1, l2, l3, l4, l5⟩ := h.lr
  obtain ⟨D, d1, d2⟩ := h.m1
  obtain ⟨E, e1, e2⟩ := h.m2
  exact h.keep hz (KpZ.of_below hb) ⟨D, ownsMap_blk d1 (hb.block _ l4), d2⟩ ⟨E, ownsMap_blk e1 (hb.block _ l5), e2⟩ h.pb
/-- What a comparison answers. -/
def SmP (z : Vz) (L : List (Nat × Nat)) (G : (Nat → Nat → Prop) → Prop) (w w' : World) (e : Ending) : Prop := ∃ (b : Bool) (L' : List (Nat × Nat)), e = .returned (.bool b) ∧ Sm z L' w' ∧ Cmp z.ws z.vs L L' b G ∧ KpZ z.mb z.nb w w' ∧ L.length ≤ L'.length
/-- The comparing function with less than d objects to meet. -/
def SameAt (z : Vz) (d : Nat) : Prop := ∀ (x y : Int) (L : List (Nat × Nat)) (w : World), Sm z L w → WordOk z.ws z.T x → WordOk z.vs z.T' y → -9223372036854775808 ≤ x → x ≤ 9223372036854775807 → -9223372036854775808 ≤ y → y ≤ 9223372036854775807 → z.T - L.length < d →
  Calls Tryd.prog 27 (#[.int .i64 x, .int .i64 y] ++ z.caps) w (fun e w' => SmP z L (fun R => Rl R x y) w w' e)
/-- At the head of the loop of slices.EqualFunc. -/
def EqI (z : Vz) (L : List (Nat × Nat)) (xs ys : List Int) (w : World) (iv : Value) (wr : World) : Prop := ∃ (i : Nat) (M : List (Nat × Nat)), i ≤ xs.length ∧ iv = .int .i64 i ∧ Hid (Sm z M wr) ∧ Hid (Cmp z.ws z.vs L M true (RlsN i xs ys)) ∧ Hid (KpZ z.mb z.nb w wr) ∧ Hid (L.length ≤ M.length)
set_option maxRecDepth 20000 in
set_option maxHeartbeats 4000000 in
theorem equalFunc_c (z : Vz) (d : Nat) (H : SameAt z d) (xp : Option Addr) (xn xc : Nat) (xs : List Int) (yp : Option Addr) (yn yc : Nat) (ys : List Int) (L : List (Nat × Nat)) (w : World) (hS : Sm z L w) (hX : Is w xp xn xc xs) (hY : Is w yp yn yc ys)
    (kx : ∀ a, 0 < xn → xp = some a → a.block ≠ z.mb ∧ a.block ≠ z.nb) (ky : ∀ a, 0 < yn → yp = some a → a.block ≠ z.mb ∧ a.block ≠ z.nb) (ox : ∀ i, i < xs.length → WordOk z.ws z.T (xs.getD i 0)) (oy : ∀ i, i < ys.length → WordOk z.vs z.T' (ys.getD i 0)) (hd : z.T - L.length < d) :
    Calls Tryd.prog 30 #[.slice xp xn xc, .slice yp yn yc, .func (.func 27) #[] z.caps] w fun e w' => SmP z L (Rls xs ys) w w' e := by
  have HX : Hid (Is w xp xn xc xs) := hX
  have HY : Hid (Is w yp yn yc ys) := hY
  have HS : Hid (Sm z L w) := hS
  have HSA : Hid (SameAt z d) := H
  have KX : Hid (∀ a, 0 < xn → xp = some a → a.block ≠ z.mb ∧ a.block ≠ z.nb) := kx
  have KY : Hid (∀ a, 0 < yn → yp = some a → a.block ≠ z.mb ∧ a.block ≠ z.nb) := ky
  have OX : Hid (∀ i, i < xs.length → WordOk z.ws z.T (xs.getD i 0)) := ox
  have OY : Hid (∀ i, i < ys.length → WordOk z.vs z.T' (ys.getD i 0)) := oy
  have HD : Hid (z.T - L.length < d) := hd
  have hxl : Hid (xs.length = xn) := hX.len
  have hyl : Hid (ys.length = yn) := hY.len
  have hxs := hX.small.1
  have hys := hY.small.1
  clear hX hY hS H kx ky ox oy hd
  by_cases hne : xn = yn
  · subst hne
    go_enter Tryd.func30, Tryd.ntmps30
    go_wp2_with fail
    go_loopw [17] (fun iv wr => EqI z L xs ys w iv wr) (fun iv _ => xn - (intOf iv).toNat)
    case atStart => exact ⟨0, L, Nat.zero_le _, rfl, HS, Cmp.zero, KpZ.refl _ _ _, Nat.le_refl _⟩
    case round =>
      obtain ⟨i, M, hi, rfl, hM, hC, hK, hLM⟩ := hrel
      rw [hxl.out] at hi
      by_cases hlt : i < xn
      · obtain ⟨b1, o1, rfl, hb1, g1⟩ := HX.out.cells (by omega)
        obtain ⟨b2, o2, rfl, hb2, g2⟩ := HY.out.cells (by omega)
        have q1 := g1 i hlt
        have q2 := g2 i hlt
        rw [← World.cell?_of_block (w := w) (hK.out.block b1 hb1 (KX.out _ (by omega) rfl).1 (KX.out _ (by omega) rfl).2)] at q1
        rw [← World.cell?_of_block (w := w) (hK.out.block b2 hb2 (KY.out _ (by omega) rfl).1 (KY.out _ (by omega) rfl).2)] at q2
        have r1 := HX.out.rng i
        have r2 := HY.out.rng i
        have ok1 := OX.out i (by rw [hxl.out]; exact hlt)
        have ok2 := OY.out i (by rw [hyl.out]; exact hlt)
        obtain ⟨x, hx⟩ : ∃ x, xs.getD i 0 = x := ⟨_, rfl⟩
        obtain ⟨y, hy⟩ : ∃ y, ys.getD i 0 = y := ⟨_, rfl⟩
        rw [hx] at q1 r1 ok1
        rw [hy] at q2 r2 ok2
        have HXX : Hid (xs.getD i 0 = x) := hx
        have HYY : Hid (ys.getD i 0 = y) := hy
        have HOK : Hid (WordOk z.ws z.T x ∧ WordOk z.vs z.T' y) := ⟨ok1, ok2⟩
        obtain ⟨r10, r11⟩ := r1
        obtain ⟨r20, r21⟩ := r2
        have HDM : Hid (z.T - M.length < d) := by have := HD.out; have := hLM.out; unfold Hid; omega
        clear g1 g2 hx hy ok1 ok2
        go_wp2_with (go_at_call 27; refine (HSA.out x y M _ hM.out HOK.out.1 HOK.out.2 r10 r11 r20 r21 HDM.out).mono ?_; rintro e w2 ⟨b, L', rfl, hm2, hc2, hk2, hl2⟩; have HM2 : Hid (Sm z L' w2) := hm2; have HC2 : Hid (Cmp z.ws z.vs M L' b (fun R => Rl R x y)) := hc2; have HK2 : Hid (KpZ z.mb z.nb wr w2) := hk2; have HL2 : Hid (M.length ≤ L'.length) := hl2; clear hm2 hc2 hk2 hl2; cases b)
        · go_ret
          exact ⟨false, L', rfl, HM2.out, Cmp.stop hC.out (by rw [hxl.out]; exact hlt) (by rw [HXX.out, HYY.out]; exact HC2.out), hK.out.trans HK2.out, Nat.le_trans hLM.out HL2.out⟩
        · exact ⟨⟨i + 1, L', by rw [hxl.out]; omega, by go_num, HM2.out, hC.out.step (by rw [HXX.out, HYY.out]; exact HC2.out), hK.out.trans HK2.out, Nat.le_trans hLM.out HL2.out⟩, by simp [intOf]; omega⟩
      · obtain rfl : i = xn := by omega
        go_wp2_with fail
        go_ret
        exact ⟨true, M, rfl, hM.out, Cmp.all (by rw [hxl.out]; exact hC.out) (by rw [hxl.out, hyl.out]), hK.out, hLM.out⟩
  · have hb : ((xn : Int) != (yn : Int)) = true := by simp; omega
    go_enter Tryd.func30, Tryd.ntmps30
    go_wp2_with fail
    go_ret
    exact ⟨false, L, rfl, HS.out, Cmp.lens (by rw [hxl.out, hyl.out]; exact hne), KpZ.refl _ _ _, Nat.le_refl _⟩
end Go.Proofs.YtmmkpmgidoelpaaDoor.Hp
namespace Go.Proofs.YtmmkpmgidoelpaaDoor.Hp
open Go.RowKit Ch2 Go.Maps
/-- Words of which one is no pointer. -/
theorem same_plain (z : Vz) (x y : Int) (L : List (Nat × Nat)) (w : World) (hS : Sm z L w) (h : ¬ (x % 4 = 1 ∧ y % 4 = 1)) :
    Calls Tryd.prog 27 (#[.int .i64 x, .int .i64 y] ++ z.caps) w (fun e w' => SmP z L (fun R => Rl R x y) w w' e) := by
  have HS : Hid (Sm z L w) := hS
  have HC : Hid (Cmp z.ws z.vs L L (x == y) (fun R => Rl R x y)) := Cmp.plain h
  have ha : (#[.int .i64 x, .int .i64 y] : Array Value) ++ z.caps = #[.int .i64 x, .int .i64 y, .pointer (some ⟨z.rb, 0, none⟩), .pointer (some ⟨z.bb, 0, none⟩), .pointer (some ⟨z.hb, 0, none⟩), .pointer (some ⟨z.gb, 0, none⟩), .pointer (some ⟨z.sb, 0, none⟩)] := rfl
  rw [ha]
  clear ha
  by_cases hx : x % 4 = 1
  · have hy : ¬ y % 4 = 1 := fun hy => h ⟨hx, hy⟩
    obtain ⟨k, hk⟩ : ∃ k, y % 4 = k := ⟨_, rfl⟩
    have e1 : (k != 1) = true := by rw [← hk]; simpa using hy
    clear h hy
    go_enter Tryd.func27, Tryd.ntmps27
    go_wp2_with (first | (go_at_call 28; refine (tagOf_c x _).mono ?_; rintro e w' ⟨rfl, hwx⟩; have hwy := hwx.symm; clear hwx; subst hwy; rw [hx]) | (go_at_call 28; refine (tagOf_c y _).mono ?_; rintro e w' ⟨rfl, hwx⟩; have hwy := hwx.symm; clear hwx; subst hwy; rw [hk]))
    go_ret
    exact ⟨_, L, rfl, HS.out, HC.out, KpZ.refl _ _ _, Nat.le_refl _⟩
  · obtain ⟨k, hk⟩ : ∃ k, x % 4 = k := ⟨_, rfl⟩
    have e1 : (k != 1) = true := by rw [← hk]; simpa using hx
    clear h hx
    go_enter Tryd.func27, Tryd.ntmps27
    go_wp2_with (go_at_call 28; refine (tagOf_c x _).mono ?_; rintro e w' ⟨rfl, hwx⟩; have hwy := hwx.symm; clear hwx; subst hwy; rw [hk])
    go_ret
    exact ⟨_, L, rfl, HS.out, HC.out, KpZ.refl _ _ _, Nat.le_refl _⟩
set_option maxRecDepth 20000 in
set_option maxHeartbeats 4000000 in
/-- The object was met before. -/
theorem same_known (z : Vz) (x y : Int) (p q k : Nat) (L : List (Nat × Nat)) (w : World) (hS : Sm z L w) (hx : x % 4 = 1) (hy : y % 4 = 1) (hp : x / 4 = p) (hq : y / 4 = q) (hp1 : p ≤ 20000) (hk : (p, k) ∈ L) :
    Calls Tryd.prog 27 (#[.int .i64 x, .int .i64 y] ++ z.caps) w (fun e w' => SmP z L (fun R => Rl R x y) w w' e) := by
  have HS : Hid (Sm z L w) := hS
  have HC : Hid (Cmp z.ws z.vs L L ((k : Int) == (q : Int)) (fun R => Rl R x y)) := Cmp.known hx hy (by omega) (by omega) hk
  have ha : (#[.int .i64 x, .int .i64 y] : Array Value) ++ z.caps = #[.int .i64 x, .int .i64 y, .pointer (some ⟨z.rb, 0, none⟩), .pointer (some ⟨z.bb, 0, none⟩), .pointer (some ⟨z.hb, 0, none⟩), .pointer (some ⟨z.gb, 0, none⟩), .pointer (some ⟨z.sb, 0, none⟩)] := rfl
  rw [ha]
  clear ha
  obtain ⟨D, hD, hM⟩ := hS.m1
  have HD : Hid (w.ownsMap Tryd.prog 3 (plainElem Tryd.prog 3) z.mb L.length D) := hD
  have HH : Hid (Maps.has D (.int .i64 (p : Int)) = true) := (hM.yes p k hk).1
  have HAT : Hid (D.atKey (.int .i64 (p : Int)) (.lit (.int .i64 0)) = .lit (.int .i64 (k : Int))) := (hM.yes p k hk).2
  have HKEY : Hid (keyOf Tryd.prog 3 (.int .i64 (p : Int)) = some (.int .i64 (p : Int))) := keyOf_int_mk Tryd.underlying3 (wfZ (by omega) (by omega))
  have cr := hS.cr
  clear hS hD hM hk
  go_enter Tryd.func27, Tryd.ntmps27
  go_wp2_with (first
    | (go_at_call 28; refine (tagOf_c x _).mono ?_; rintro e w' ⟨rfl, hwx⟩; have hwy := hwx.symm; clear hwx; subst hwy; rw [hx])
    | (go_at_call 28; refine (tagOf_c y _).mono ?_; rintro e w' ⟨rfl, hwx⟩; have hwy := hwx.symm; clear hwx; subst hwy; rw [hy])
    | (go_at_call 29; refine (numberOf_c x _).mono ?_; rintro e w' ⟨rfl, hwx⟩; have hwy := hwx.symm; clear hwx; subst hwy; rw [hp])
    | (go_at_call 29; refine (numberOf_c y _).mono ?_; rintro e w' ⟨rfl, hwx⟩; have hwy := hwx.symm; clear hwx; subst hwy; rw [hq])
    | (at_lookup; refine wpList_lookup_own_ok_int _ rfl _ _ 50 rfl 3 3 .i64 keyZ Tryd.underlying50 Tryd.underlying3 (zeroZ _) z.mb L.length D rfl HD.out _ _ rfl HKEY.out ?_; intro c hat hwc; rw [HAT.out] at hat; rw [HH.out]; obtain rfl : (k : Int) = c := by injection hat with h1; injection h1))
  go_ret
  exact ⟨_, L, rfl, HS.out, HC.out, KpZ.refl _ _ _, Nat.le_refl _⟩
set_option maxRecDepth 20000 in
set_option maxHeartbeats 4000000 in
/-- The other one was met before. -/
theorem same_taken (z : Vz) (x y : Int) (p q k : Nat) (L : List (Nat × Nat)) (w : World) (hS : Sm z L w) (hx : x % 4 = 1) (hy : y % 4 = 1) (hp : x / 4 = p) (hq : y / 4 = q) (hp1 : p ≤ 20000) (hq1 : q ≤ 20000) (hn : ∀ q, (p, q) ∉ L) (hk : (k, q) ∈ L) :
    Calls Tryd.prog 27 (#[.int .i64 x, .int .i64 y] ++ z.caps) w (fun e w' => SmP z L (fun R => Rl R x y) w w' e) := by
  have HS : Hid (Sm z L w) := hS
  have HC : Hid (Cmp z.ws z.vs L L false (fun R => Rl R x y)) := Cmp.taken hx (show (x / 4).toNat = p by omega) (show (y / 4).toNat = q by omega) hn hk
  have ha : (#[.int .i64 x, .int .i64 y] : Array Value) ++ z.caps = #[.int .i64 x, .int .i64 y, .pointer (some ⟨z.rb, 0, none⟩), .pointer (some ⟨z.bb, 0, none⟩), .pointer (some ⟨z.hb, 0, none⟩), .pointer (some ⟨z.gb, 0, none⟩), .pointer (some ⟨z.sb, 0, none⟩)] := rfl
  rw [ha]
  clear ha
  obtain ⟨D, hD, hM⟩ := hS.m1
  obtain ⟨E, hE, hN⟩ := hS.m2
  have HD : Hid (w.ownsMap Tryd.prog 3 (plainElem Tryd.prog 3) z.mb L.length D) := hD
  have HE : Hid (w.ownsMap Tryd.prog 3 (plainElem Tryd.prog 3) z.nb L.length E) := hE
  have HH : Hid (Maps.has D (.int .i64 (p : Int)) = false) := hM.no p hn
  have HJ : Hid (Maps.has E (.int .i64 (q : Int)) = true) := (hN.yes q k (by rw [List.mem_map]; exact ⟨(k, q), hk, rfl⟩)).1
  have HKEY : Hid (keyOf Tryd.prog 3 (.int .i64 (p : Int)) = some (.int .i64 (p : Int))) := keyOf_int_mk Tryd.underlying3 (wfZ (by omega) (by omega))
  have HKEQ : Hid (keyOf Tryd.prog 3 (.int .i64 (q : Int)) = some (.int .i64 (q : Int))) := keyOf_int_mk Tryd.underlying3 (wfZ (by omega) (by omega))
  have cr := hS.cr
  have cb := hS.cb
  clear hS hD hM hk hN hE hn
  go_enter Tryd.func27, Tryd.ntmps27
  go_wp2_with (first
    | (go_at_call 28; refine (tagOf_c x _).mono ?_; rintro e w' ⟨rfl, hwx⟩; have hwy := hwx.symm; clear hwx; subst hwy; rw [hx])
    | (go_at_call 28; refine (tagOf_c y _).mono ?_; rintro e w' ⟨rfl, hwx⟩; have hwy := hwx.symm; clear hwx; subst hwy; rw [hy])
    | (go_at_call 29; refine (numberOf_c x _).mono ?_; rintro e w' ⟨rfl, hwx⟩; have hwy := hwx.symm; clear hwx; subst hwy; rw [hp])
    | (go_at_call 29; refine (numberOf_c y _).mono ?_; rintro e w' ⟨rfl, hwx⟩; have hwy := hwx.symm; clear hwx; subst hwy; rw [hq])
    | (at_lookup; refine wpList_lookup_own_ok_int _ rfl _ _ 50 rfl 3 3 .i64 keyZ Tryd.underlying50 Tryd.underlying3 (zeroZ _) z.mb L.length D rfl HD.out _ _ rfl HKEY.out ?_; intro c hat hwc; rw [HH.out]; clear hat hwc)
    | (at_lookup; refine wpList_lookup_own_ok_int _ rfl _ _ 50 rfl 3 3 .i64 keyZ Tryd.underlying50 Tryd.underlying3 (zeroZ _) z.nb L.length E rfl HE.out _ _ rfl HKEQ.out ?_; intro c2 hat hwc; rw [HJ.out]; clear hat hwc))
  go_ret
  exact ⟨_, L, rfl, HS.out, HC.out, KpZ.refl _ _ _, Nat.le_refl _⟩
end Go.Proofs.YtmmkpmgidoelpaaDoor.Hp
