import Derived.Test.YtkkmoaidbmnolaaGreatDoorD7
namespace Go.Proofs.YtkkmoaidbmnolaaGreatDoor
open Go.RowKit Ch1
theorem Hid.mkD {p : Prop} (h : p) : Hid p := h
theorem cells3 {w : World} {k : Nat} {a b c : Value} {t : TypeId} (e : w.heap[k]? = some (.cells #[a, b, c] t)) : w.cell? ⟨k, 0, none⟩ = some a ∧ w.cell? ⟨k, 1, none⟩ = some b ∧ w.cell? ⟨k, 2, none⟩ = some c ∧ w.frozen? ⟨k, 0, none⟩ = false ∧ w.frozen? ⟨k, 1, none⟩ = false ∧ w.frozen? ⟨k, 2, none⟩ = false := by
  refine ⟨?_, ?_, ?_, ?_, ?_, ?_⟩ <;> simp [World.cell?, World.frozen?, e]
theorem cell_keepD {w w1 : World} {b o : Nat} {v : Value} (hb : Below w.heap.size w w1) (hlt : b < w.heap.size) (h : w.cell? ⟨b, o, none⟩ = some v) : w1.cell? ⟨b, o, none⟩ = some v := by rw [hb.cell (p := ⟨b, o, none⟩) hlt]; exact h
theorem set_one {w : World} {k : Nat} {a b c : Value} {t : TypeId} (e : w.heap[k]? = some (.cells #[a, b, c] t)) (v : Value) : (w.setCell ⟨k, 1, none⟩ v).heap[k]? = some (.cells #[a, v, c] t) := by simp [World.setCell, Array.getElem?_modify, e]
theorem set_two {w : World} {k : Nat} {a b c : Value} {t : TypeId} (e : w.heap[k]? = some (.cells #[a, b, c] t)) (v : Value) : (w.setCell ⟨k, 2, none⟩ v).heap[k]? = some (.cells #[a, b, v] t) := by simp [World.setCell, Array.getElem?_modify, e]
/-- At the head of the loop over a function's captured values. -/
def FrI (b fn : Nat) (par : Int) (fx : Nat) (xs : List Int) (w : World) (iv : Value) (wr : World) : Prop :=
  ∃ (i : Nat) (p : Option Addr) (c : Nat) (bs : List Bool) (rest : List Int), i ≤ fn ∧ iv = .int .i64 i ∧ Hid (wr.heap[fx]? = some (.cells #[.int .i64 par, .slice p i c, .slice none 0 0] 46)) ∧ Hid (wr.ownsRow w.heap.size 4 1 (.slice p i c) i (bs.map Value.bool)) ∧ Hid (bs.length = i) ∧ Hid (RdE wr b rest) ∧ Hid (Sr b w wr) ∧ Hid (wr.heap[w.heap.size]? = some (.cells #[.int .i64 0, .slice none 0 0, .slice none 0 0] 46)) ∧ Hid (rdTs fn xs = (rdTs (fn - i) rest).map (fun q => (bs ++ q.1, q.2))) ∧ rest.length ≤ 1048576
theorem owns_sr {w w' : World} {B n size b : Nat} {e : TypeId} {v : Value} {xs : List Value} (h : w.ownsRow B e size v n xs) (hs : Sr b w w') (hb : b < B) : w'.ownsRow B e size v n xs :=
  owns_of_heap h (fun k hk => hs.block k (owns_lt h k hk).1 (by have := owns_ge h k hk; omega))
/-- The pure reader of instructions and functions. -/
def rdI (xs : List Int) : Option (In × List Int) := (rdN 1 xs).bind (fun a => (rdN 2 a.2).bind (fun b => (rdN 1 b.2).map (fun c => (⟨a.1, b.1, c.1⟩, c.2))))
def rdIs : Nat → List Int → Option (List In × List Int)
  | 0, xs => some ([], xs)
  | m + 1, xs => (rdI xs).bind (fun a => (rdIs m a.2).map (fun q => (a.1 :: q.1, q.2)))
theorem rdIs_step {m : Nat} {rest r2 : List Int} {d : In} {pre : List In} (h : rdI rest = some (d, r2)) : (rdIs (m + 1) rest).map (fun q => (pre ++ q.1, q.2)) = (rdIs m r2).map (fun q => ((pre ++ [d]) ++ q.1, q.2)) := by
  rw [rdIs, h]
  show ((rdIs m r2).map _).map _ = _
  rw [Option.map_map]
  congr 1
  funext q
  simp
def rdFree (xs : List Int) : Option ((Int × List Bool) × List Int) := (rdN 1 xs).bind (fun a => (rdN 1 a.2).bind (fun k => (rdTs k.1.toNat k.2).map (fun f => ((a.1, f.1), f.2))))
def rdFn (xs : List Int) : Option (Fn × List Int) := (rdFree xs).bind (fun f => (rdN 2 f.2).bind (fun k => (rdIs k.1.toNat k.2).map (fun c => (⟨f.1.1, f.1.2, c.1⟩, c.2))))
def iCells (l : List In) : List Value := l.flatMap (fun i => [.int .i64 i.op, .int .i64 i.a, .int .i64 i.b])
/-- A function's value, with rows of its own. -/
def FnV (f : Fn) (v : Value) (w w' : World) : Prop := ∃ fp fc cp cc, v = .agg #[.int .i64 f.params, .slice fp f.free.length fc, .slice cp f.code.length cc] ∧ w'.ownsRow w.heap.size 4 1 (.slice fp f.free.length fc) f.free.length (f.free.map Value.bool) ∧ w'.ownsRow w.heap.size 48 3 (.slice cp f.code.length cc) f.code.length (iCells f.code)
theorem infoIn : (Tryz.prog.info? 48).map (fun i => (i.zero, i.size, i.bytes)) = some (some (.agg #[.int .i64 0, .int .i64 0, .int .i64 0]), 3, 24) := by kernel_rfl
theorem iCells_snoc (l : List In) (d : In) : iCells (l ++ [d]) = iCells l ++ [.int .i64 d.op, .int .i64 d.a, .int .i64 d.b] := by unfold iCells; simp
theorem number1_c (b : Nat) (xs : List Int) (w : World) (hR : RdE w b xs) (hn : xs.length ≤ 1048576) :
    Calls Tryz.prog 32 #[.pointer (some ⟨b, 0, none⟩), .int .i64 1] w fun e w' => ReP b (rdN 1 xs) (fun x v _ _ => v = .int .i64 x) w w' e := number_c b 1 xs w hR hn (by omega)
theorem number2_c (b : Nat) (xs : List Int) (w : World) (hR : RdE w b xs) (hn : xs.length ≤ 1048576) :
    Calls Tryz.prog 32 #[.pointer (some ⟨b, 0, none⟩), .int .i64 2] w fun e w' => ReP b (rdN 2 xs) (fun x v _ _ => v = .int .i64 x) w w' e := number_c b 2 xs w hR hn (by omega)
/-- What stands while one instruction is read. -/
structure CoW (b : Nat) (par : Int) (fx : Nat) (fp : Option Addr) (fn fc : Nat) (bs : List Bool) (p : Option Addr) (i c : Nat) (is : List In) (w wr : World) : Prop where
  y : wr.heap[fx]? = some (.cells #[.int .i64 par, .slice fp fn fc, .slice p i c] 46)
  f : wr.ownsRow w.heap.size 4 1 (.slice fp fn fc) fn (bs.map Value.bool)
  o : wr.ownsRow w.heap.size 48 3 (.slice p i c) i (iCells is)
  s : Sr b w wr
  x : wr.heap[w.heap.size]? = some (.cells #[.int .i64 0, .slice none 0 0, .slice none 0 0] 46)
theorem CoW.sr {b : Nat} {par : Int} {fx : Nat} {fp : Option Addr} {fn fc : Nat} {bs : List Bool} {p : Option Addr} {i c : Nat} {is : List In} {w wr w' : World} (h : CoW b par fx fp fn fc bs p i c is w wr) (hs : Sr b wr w') (hb : b < w.heap.size) (hf : w.heap.size ≤ fx) : CoW b par fx fp fn fc bs p i c is w w' :=
  ⟨(hs.block _ (Array.getElem?_eq_some_iff.1 h.y).1 (by omega)).trans h.y, owns_sr h.f hs hb, owns_sr h.o hs hb, h.s.trans hs, (hs.block _ (Array.getElem?_eq_some_iff.1 h.x).1 (by omega)).trans h.x⟩
theorem owns_but {w w' : World} {B B2 n m size size2 : Nat} {e e2 : TypeId} {v u : Value} {xs ys : List Value} (h : w.ownsRow B e size v n xs) (g : w.ownsRow B2 e2 size2 u m ys) (hne : e ≠ e2) (hb : But w w' u) : w'.ownsRow B e size v n xs :=
  owns_of_heap h (fun k hk => by obtain ⟨hlt, cur, hc⟩ := owns_lt h k hk; exact hb k hlt (owns_ne g hc hne))
theorem owns_set {w : World} {B n size fb j : Nat} {e t : TypeId} {v : Value} {xs : List Value} {a : Array Value} (h : w.ownsRow B e size v n xs) (hf : w.heap[fb]? = some (.cells a t)) (ht : t ≠ e) (x : Value) : (w.setCell ⟨fb, j, none⟩ x).ownsRow B e size v n xs :=
  owns_of_heap h (fun k hk => Below.heap_setCell _ _ _ k (fun e => owns_ne h hf ht (by rw [hk]; exact congrArg some e.symm)))
theorem owns_set3 {w : World} {B n size fb : Nat} {e t : TypeId} {v : Value} {xs : List Value} {a : Array Value} (h : w.ownsRow B e size v n xs) (hf : w.heap[fb]? = some (.cells a t)) (ht : t ≠ e) (x y z : Value) : (((w.setCell ⟨fb, 0, none⟩ x).setCell ⟨fb, 1, none⟩ y).setCell ⟨fb, 2, none⟩ z).ownsRow B e size v n xs :=
  owns_of_heap h (fun k hk => by
    have hne : k ≠ fb := fun e => owns_ne h hf ht (by rw [hk]; exact congrArg some e.symm)
    exact (Below.heap_setCell _ _ _ k hne).trans ((Below.heap_setCell _ _ _ k hne).trans (Below.heap_setCell _ _ _ k hne)))
theorem rdI_some {rq r6 r7 r8 : List Int} {z6 z7 z8 : Int} (h6 : rdN 1 rq = some (z6, r6)) (h7 : rdN 2 r6 = some (z7, r7)) (h8 : rdN 1 r7 = some (z8, r8)) : rdI rq = some (⟨z6, z7, z8⟩, r8) := by
  unfold rdI
  rw [h6]
  show (rdN 2 r6).bind _ = _
  rw [h7]
  show (rdN 1 r7).map _ = _
  rw [h8]
  rfl
/-- At the head of the loop over a function's code. -/
def CoI (b cn : Nat) (par : Int) (fx : Nat) (fp : Option Addr) (fn fc : Nat) (bs : List Bool) (xs : List Int) (w : World) (iv : Value) (wr : World) : Prop :=
  ∃ (i : Nat) (p : Option Addr) (c : Nat) (is : List In) (rest : List Int), i ≤ cn ∧ iv = .int .i64 i ∧ Hid (wr.heap[fx]? = some (.cells #[.int .i64 par, .slice fp fn fc, .slice p i c] 46)) ∧ Hid (wr.ownsRow w.heap.size 4 1 (.slice fp fn fc) fn (bs.map Value.bool)) ∧ Hid (wr.ownsRow w.heap.size 48 3 (.slice p i c) i (iCells is)) ∧ Hid (is.length = i) ∧ Hid (RdE wr b rest) ∧ Hid (Sr b w wr) ∧ Hid (wr.heap[w.heap.size]? = some (.cells #[.int .i64 0, .slice none 0 0, .slice none 0 0] 46)) ∧ Hid (rdIs cn xs = (rdIs (cn - i) rest).map (fun q => (is ++ q.1, q.2))) ∧ rest.length ≤ 1048576
set_option maxRecDepth 20000 in
set_option maxHeartbeats 8000000 in
theorem functionR_c (b : Nat) (xs : List Int) (w : World) (hR : RdE w b xs) (hn : xs.length ≤ 1048576) :
    Calls Tryz.prog 53 #[.pointer (some ⟨b, 0, none⟩)] w fun e w' => ReP b (rdFn xs) FnV w w' e := by
  have HR : Hid (RdE w b xs) := hR
  have hbl := hR.lt
  obtain ⟨W, hWW⟩ : ∃ W, W = w.alloc (.cells #[.int .i64 0, .slice none 0 0, .slice none 0 0] 46) := ⟨_, rfl⟩
  have HWX : Hid (W.heap[w.heap.size]? = some (.cells #[.int .i64 0, .slice none 0 0, .slice none 0 0] 46)) := by unfold Hid; rw [hWW]; exact Go.Deep.blk_alloc_new _ _
  have HWB : Hid (Below w.heap.size w W) := by unfold Hid; rw [hWW]; exact below1 _ _
  have HWs : Hid (W.heap.size = w.heap.size + 1) := by unfold Hid; rw [hWW]; simp
  clear hR
  go_enter Tryz.func53, Tryz.ntmps53
  go_wp2_with fail
  rw [← hWW]
  clear hWW
  refine (number_c b 1 xs _ (HR.out.below HWB.out) hn (by omega)).mono ?_
  rintro e w1 (⟨par, r1, v, hr, rfl, rfl, hR1, hs1⟩ | ⟨hr, rfl, hs1⟩)
  rotate_left
  · exact ⟨rfl, Or.inr ⟨by unfold rdFn rdFree; rw [hr]; rfl, rfl, (Sr.of_below HWB.out).trans hs1⟩⟩
  have HE1 : Hid (rdN 1 xs = some (par, r1)) := hr
  have hr1 := Nat.le_trans (rdN_len hr) hn
  have HS1 : Hid (Sr b w w1) := (Sr.of_below HWB.out).trans hs1
  have HX1 : Hid (w1.heap[w.heap.size]? = some (.cells #[.int .i64 0, .slice none 0 0, .slice none 0 0] 46)) := (hs1.block _ (by have := HWs.out; omega) (by omega)).trans HWX.out
  have HR1 : Hid (RdE w1 b r1) := hR1
  have hsz : w.heap.size < w1.heap.size := (Array.getElem?_eq_some_iff.1 HX1.out).1
  clear hr hR1 hs1 HWX HWB HWs
  obtain ⟨W1, hW1⟩ : ∃ W1, W1 = w1.alloc (.cells #[.int .i64 par, .slice none 0 0, .slice none 0 0] 46) := ⟨_, rfl⟩
  have HB1 : Hid (Below w1.heap.size w1 W1) := by unfold Hid; rw [hW1]; exact below1 _ _
  have HY1 : Hid (W1.heap[w1.heap.size]? = some (.cells #[.int .i64 par, .slice none 0 0, .slice none 0 0] 46)) := by unfold Hid; rw [hW1]; exact Go.Deep.blk_alloc_new _ _
  have HWs1 : Hid (W1.heap.size = w1.heap.size + 1) := by unfold Hid; rw [hW1]; simp
  have HSW : Hid (Sr b w W1) := HS1.out.trans (Sr.of_below HB1.out)
  have HXW : Hid (W1.heap[w.heap.size]? = some (.cells #[.int .i64 0, .slice none 0 0, .slice none 0 0] 46)) := (HB1.out.block _ hsz).trans HX1.out
  have HRW : Hid (RdE W1 b r1) := HR1.out.below HB1.out
  go_wp2_with fail
  rw [← hW1]
  clear hW1
  refine (number_c b 1 r1 _ HRW.out hr1 (by omega)).mono ?_
  rintro e w2 (⟨z, r2, v, hr, rfl, rfl, hR2, hs2⟩ | ⟨hr, rfl, hs2⟩)
  rotate_left
  · exact ⟨rfl, Or.inr ⟨by unfold rdFn rdFree; rw [HE1.out]; show ((rdN 1 r1).bind _).bind _ = none; rw [hr]; rfl, rfl, HSW.out.trans hs2⟩⟩
  have hzr := rdN_byte HR1.out.rg hr
  have hr2 := Nat.le_trans (rdN_len hr) hr1
  obtain ⟨fn, rfl⟩ := Int.eq_ofNat_of_zero_le hzr.1
  have HE2 : Hid (rdFree xs = (rdTs fn r2).map (fun f => ((par, f.1), f.2))) := by unfold Hid rdFree; rw [HE1.out]; show (rdN 1 r1).bind _ = _; rw [hr]; rfl
  have HS2 : Hid (Sr b w w2) := HSW.out.trans hs2
  have HR2 : Hid (RdE w2 b r2) := hR2
  have HX2 : Hid (w2.heap[w.heap.size]? = some (.cells #[.int .i64 0, .slice none 0 0, .slice none 0 0] 46)) := (hs2.block _ (by have := HWs1.out; omega) (by omega)).trans HXW.out
  have HY2 : Hid (w2.heap[w1.heap.size]? = some (.cells #[.int .i64 par, .slice none 0 0, .slice none 0 0] 46)) := (hs2.block _ (by have := HWs1.out; omega) (by omega)).trans HY1.out
  have hfn : fn < 256 := by omega
  clear hr hR2 hs2 hzr
  go_wp2
  go_loopw [9] (fun iv wr => FrI b fn par w1.heap.size r2 w iv wr) (fun iv _ => fn - (intOf iv).toNat)
  case atStart => exact ⟨0, none, 0, [], r2, Nat.zero_le _, rfl, HY2.out, ⟨rfl, Or.inl ⟨rfl, rfl⟩⟩, rfl, HR2.out, HS2.out, HX2.out, by unfold Hid; simp, hr2⟩
  case round =>
    clear HR2 HS2 HX2 HY2 HSW HXW HRW HY1 HB1 HWs1
    obtain ⟨i, p, c, bs, rest, hi, rfl, hY, hO, hl, hRr, hSr, hX, hE, hrl⟩ := hrel
    by_cases hlt : i < fn
    · obtain ⟨y0, y1, y2, yf0, yf1, yf2⟩ := cells3 hY.out
      go_wp2_with fail
      go_region_law (first
        | (refine appW_step _ rfl (.tmp 12) (.tmp 15) 43 4 rfl _ 1 1 Tryz.underlying43 infoBo rfl (by decide) w.heap.size (.slice p i c) i (bs.map Value.bool) ?h1 HO3.out #[.bool x] rfl ?h2 ?h3 ?h4 ?h5 hwl ?_; (case h1 => first | (simp [Act.eval]; done) | (simp [Act.eval, Act.put]; done)); (case h2 => simp [Value.oneCell']); (case h3 => first | (simp [Act.eval]; done) | (simp [Act.eval, Act.put]; done)); (case h4 => (unfold maxLen; omega)); (case h5 => omega); intro p4 c4 w4 ho4 hb4 hbt4; have HY4 : Hid (w4.heap[w1.heap.size]? = some (.cells #[.int .i64 par, .slice p i c, .slice none 0 0] 46)) := (hbt4 _ (Array.getElem?_eq_some_iff.1 HY3.out).1 (owns_ne HO3.out HY3.out (by decide))).trans HY3.out; have HX4 : Hid (w4.heap[w.heap.size]? = some (.cells #[.int .i64 0, .slice none 0 0, .slice none 0 0] 46)) := (hbt4 _ (Array.getElem?_eq_some_iff.1 HX3.out).1 (owns_ne HO3.out HX3.out (by decide))).trans HX3.out; have HO4 : Hid (w4.ownsRow w.heap.size 4 1 (.slice p4 (i + 1) c4) (i + 1) (bs.map Value.bool ++ [.bool x])) := ho4; have HB4 : Hid (Below w.heap.size w3 w4) := hb4; obtain ⟨u0, u1, u2, uf0, uf1, uf2⟩ := cells3 HY4.out; clear ho4 hb4 hbt4)
        | (refine step_calls2 _ rfl 68 _ _ rfl #[.pointer (some ⟨b, 0, none⟩)] ?ha (inTruth _) _ _ ((truthR_c b rest _ (hRr.out.below (below_drewM (Below.refl _ _))) hrl).mono (fun e w' h => h.two)) ?hq ?_; (case ha => first | (simp [Act.eval]; done) | (simp [Act.eval, Act.put]; done)); (case hq => (rintro ch w3 ⟨rfl, hr, hs3⟩; refine ⟨rfl, Or.inr ⟨?_, rfl, hSr.out.trans ((Sr.of_below (below_drewM (Below.refl _ _))).trans hs3)⟩⟩; unfold rdFn; rw [HE2.out, hE.out, show fn - i = (fn - (i + 1)) + 1 by omega, rdTs, hr]; rfl)); rintro v w3 ⟨x, r3, hr, rfl, hR3, hs3'⟩; have hs3 : Sr b wr w3 := (Sr.of_below (below_drewM (Below.refl _ _))).trans hs3'; have HR3 : Hid (RdE w3 b r3) := hR3; have HS3 : Hid (Sr b wr w3) := hs3; have HE3 : Hid (rdTs fn r2 = (rdTs (fn - (i + 1)) r3).map (fun q => ((bs ++ [x]) ++ q.1, q.2))) := (by unfold Hid; rw [hE.out, show fn - i = (fn - (i + 1)) + 1 by omega, rdTs_step hr]); have hl3 : r3.length ≤ 1048576 := Nat.le_trans (rdT_len hr) hrl; have HO3 : Hid (w3.ownsRow w.heap.size 4 1 (.slice p i c) i (bs.map Value.bool)) := owns_sr hO.out hs3 hbl; have HY3 : Hid (w3.heap[w1.heap.size]? = some (.cells #[.int .i64 par, .slice p i c, .slice none 0 0] 46)) := (hs3.block _ (Array.getElem?_eq_some_iff.1 hY.out).1 (by omega)).trans hY.out; have HX3 : Hid (w3.heap[w.heap.size]? = some (.cells #[.int .i64 0, .slice none 0 0, .slice none 0 0] 46)) := (hs3.block _ (Array.getElem?_eq_some_iff.1 hX.out).1 (by omega)).trans hX.out; have hwl := Nat.le_trans hSr.out.size hs3.size; obtain ⟨z0, z1, z2, zf0, zf1, zf2⟩ := cells3 HY3.out; have zz1 := fun o1 => cell_keepD (below1 w3 o1) (Array.getElem?_eq_some_iff.1 HY3.out).1 z1; clear hr hR3 hs3 hs3'))
      all_goals go_wp2
      all_goals refine ⟨⟨i + 1, p4, c4, bs ++ [x], r3, by omega, by go_num, set_one HY4.out _, ?_, ?_, (HR3.out.keep (fun k hk => HB4.out.block k (by omega))).later (by omega) _ _, ((hSr.out.trans HS3.out).grow HB4.out).later (by omega) _ _, (Below.heap_setCell _ _ _ _ (by show w.heap.size ≠ w1.heap.size; omega)).trans HX4.out, HE3.out, hl3⟩, by simp [intOf]; omega⟩
      all_goals first
        | (show _ = _; rw [List.length_append]; have := hl.out; simp; omega)
        | (unfold Hid; rw [List.map_append]; exact owns_of_heap HO4.out (fun k hk => Below.heap_setCell _ _ _ k (fun e => owns_ne HO4.out HY4.out (by decide) (by rw [hk]; exact congrArg some e.symm))))
    · obtain rfl : i = fn := by omega
      have hE' : rdTs i r2 = some (bs, rest) := by rw [hE.out, Nat.sub_self, rdTs]; simp
      have HE4 : Hid (rdFree xs = some ((par, bs), rest)) := by unfold Hid; rw [HE2.out, hE']; rfl
      clear hE' hE HE2 HE1 HS1 HX1 HR1
      go_wp2_with fail
      refine (number_c b 2 rest wr hRr.out hrl (by omega)).mono ?_
      rintro e w5 (⟨z, r5, v, hr, rfl, rfl, hR5, hs5⟩ | ⟨hr, rfl, hs5⟩)
      rotate_left
      · exact ⟨rfl, Or.inr ⟨by unfold rdFn; rw [HE4.out]; show (rdN 2 rest).bind _ = none; rw [hr]; rfl, rfl, hSr.out.trans hs5⟩⟩
      have hzr := rdN_two hRr.out.rg hr
      have hr5 := Nat.le_trans (rdN_len hr) hrl
      obtain ⟨cn, rfl⟩ := Int.eq_ofNat_of_zero_le hzr.1
      have HE5 : Hid (rdFn xs = (rdIs cn r5).map (fun c => (⟨par, bs, c.1⟩, c.2))) := by unfold Hid rdFn; rw [HE4.out]; show (rdN 2 rest).bind _ = _; rw [hr]; rfl
      have hcn : cn < 65536 := by omega
      have HS5 : Hid (Sr b w w5) := hSr.out.trans hs5
      have HR5 : Hid (RdE w5 b r5) := hR5
      have HX5 : Hid (w5.heap[w.heap.size]? = some (.cells #[.int .i64 0, .slice none 0 0, .slice none 0 0] 46)) := (hs5.block _ (Array.getElem?_eq_some_iff.1 hX.out).1 (by omega)).trans hX.out
      have HY5 : Hid (w5.heap[w1.heap.size]? = some (.cells #[.int .i64 par, .slice p i c, .slice none 0 0] 46)) := (hs5.block _ (Array.getElem?_eq_some_iff.1 hY.out).1 (by omega)).trans hY.out
      have HO5 : Hid (w5.ownsRow w.heap.size 4 1 (.slice p i c) i (bs.map Value.bool)) := owns_sr hO.out hs5 hbl
      have HBL : Hid (bs.length = i) := hl.out
      clear hr hR5 hs5 hzr hY hO hl hRr hSr hX HE4
      go_wp2
      go_loopw [21] (fun iv wr => CoI b cn par w1.heap.size p i c bs r5 w iv wr) (fun iv _ => cn - (intOf iv).toNat)
      case atStart => exact ⟨0, none, 0, [], r5, Nat.zero_le _, rfl, HY5.out, HO5.out, ⟨rfl, Or.inl ⟨rfl, rfl⟩⟩, rfl, HR5.out, HS5.out, HX5.out, by unfold Hid; simp, hr5⟩
      case round =>
        clear HR5 HS5 HX5 HY5 HO5
        rename World => wq
        obtain ⟨j, p2, c2, is, rq, hj, rfl, hY, hF, hO, hl, hRr, hSr, hX, hE, hrl⟩ := hrel
        have HW : Hid (CoW b par w1.heap.size p i c bs p2 j c2 is w wq) := ⟨hY.out, hF.out, hO.out, hSr.out, hX.out⟩
        by_cases hlt : j < cn
        · have hfx : w.heap.size ≤ w1.heap.size := by omega
          obtain ⟨y0, y1, y2, yf0, yf1, yf2⟩ := cells3 hY.out
          clear hY hF hO hSr hX
          go_wp2_with fail
          go_region_law (first
            | (refine appW_step _ rfl (.tmp 24) (.tmp 32) 44 48 rfl _ 3 24 Tryz.underlying44 infoIn rfl (by decide) w.heap.size (.slice p2 j c2) j (iCells is) ?h1 HW8.out.o #[.int .i64 z6, .int .i64 z7, .int .i64 z8] rfl ?h2 ?h3 ?h4 ?h5 HW8.out.s.size ?_; (case h1 => first | (simp [Act.eval]; done) | (simp [Act.eval, Act.put]; done)); (case h2 => simp [Value.oneCell']); (case h3 => first | (simp [Act.eval]; done) | (simp [Act.eval, Act.put]; done)); (case h4 => (unfold maxLen; omega)); (case h5 => omega); intro p9 c9 w9 ho9 hb9 hbt9; have HO9 := Hid.mkD ho9; have HB9 := Hid.mkD hb9; have HBT := Hid.mkD hbt9; have HY9 := Hid.mkD ((hbt9 _ (Array.getElem?_eq_some_iff.1 HW8.out.y).1 (owns_ne HW8.out.o HW8.out.y (by decide))).trans HW8.out.y); obtain ⟨t0, t1, t2, tf0, tf1, tf2⟩ := cells3 HY9.out; clear ho9 hb9 hbt9)
            | (refine step_calls2 _ rfl 32 _ _ rfl #[.pointer (some ⟨b, 0, none⟩), .int .i64 1] ?ha (inNumber _) _ _ ((number1_c b r7 _ HR7.out hl7).mono (fun e w' h => h.two)) ?hq ?_; (case ha => first | (simp [Act.eval]; done) | (simp [Act.eval, Act.put]; done)); (case hq => (rintro ch w8 ⟨rfl, hr, hs8⟩; refine ⟨rfl, Or.inr ⟨?_, rfl, HW7.out.s.trans hs8⟩⟩; rw [HE5.out, hE.out, show cn - j = (cn - (j + 1)) + 1 by omega, rdIs]; unfold rdI; rw [HE6.out]; show Option.map _ (Option.map _ (Option.bind (Option.bind (rdN 2 r6) _) _)) = none; rw [HE7.out]; show Option.map _ (Option.map _ (Option.bind (Option.map _ (rdN 1 r7)) _)) = none; rw [hr]; rfl)); rintro v w8 ⟨z8, r8, hr, rfl, hR8, hs8⟩; have HR8 := Hid.mkD hR8; have HW8 := Hid.mkD (HW7.out.sr hs8 hbl hfx); have HE8 := Hid.mkD hr; have hl8 := Nat.le_trans (rdN_len hr) hl7; obtain ⟨s0, s1, s2, sf0, sf1, sf2⟩ := cells3 HW8.out.y; have ss2 := fun o1 => cell_keepD (below1 w8 o1) (Array.getElem?_eq_some_iff.1 HW8.out.y).1 s2; clear hr hR8 hs8)
            | (refine step_calls2 _ rfl 32 _ _ rfl #[.pointer (some ⟨b, 0, none⟩), .int .i64 2] ?ha (inNumber _) _ _ ((number2_c b r6 _ HR6.out hl6).mono (fun e w' h => h.two)) ?hq ?_; (case ha => first | (simp [Act.eval]; done) | (simp [Act.eval, Act.put]; done)); (case hq => (rintro ch w7 ⟨rfl, hr, hs7⟩; refine ⟨rfl, Or.inr ⟨?_, rfl, HW6.out.s.trans hs7⟩⟩; rw [HE5.out, hE.out, show cn - j = (cn - (j + 1)) + 1 by omega, rdIs]; unfold rdI; rw [HE6.out]; show Option.map _ (Option.map _ (Option.bind (Option.bind (rdN 2 r6) _) _)) = none; rw [hr]; rfl)); rintro v w7 ⟨z7, r7, hr, rfl, hR7, hs7⟩; have HR7 := Hid.mkD hR7; have HW7 := Hid.mkD (HW6.out.sr hs7 hbl hfx); have HE7 := Hid.mkD hr; have hl7 := Nat.le_trans (rdN_len hr) hl6; obtain ⟨v0, v1, v2, vf0, vf1, vf2⟩ := cells3 HW7.out.y; clear hr hR7 hs7)
            | (refine step_calls2 _ rfl 32 _ _ rfl #[.pointer (some ⟨b, 0, none⟩), .int .i64 1] ?ha (inNumber _) _ _ ((number1_c b rq _ (hRr.out.below (below_drewM (Below.refl _ _))) hrl).mono (fun e w' h => h.two)) ?hq ?_; (case ha => first | (simp [Act.eval]; done) | (simp [Act.eval, Act.put]; done)); (case hq => (rintro ch w6 ⟨rfl, hr, hs6⟩; refine ⟨rfl, Or.inr ⟨?_, rfl, HW.out.s.trans ((Sr.of_below (below_drewM (Below.refl _ _))).trans hs6)⟩⟩; rw [HE5.out, hE.out, show cn - j = (cn - (j + 1)) + 1 by omega, rdIs]; unfold rdI; rw [hr]; rfl)); rintro v w6 ⟨z6, r6, hr, rfl, hR6, hs6⟩; have HR6 := Hid.mkD hR6; have HW6 := Hid.mkD (HW.out.sr ((Sr.of_below (below_drewM (Below.refl _ _))).trans hs6) hbl hfx); have HE6 := Hid.mkD hr; have hl6 := Nat.le_trans (rdN_len hr) hrl; obtain ⟨x0, x1, x2, xf0, xf1, xf2⟩ := cells3 HW6.out.y; clear hr hR6 hs6))
          all_goals go_wp2
          all_goals refine ⟨⟨j + 1, p9, c9, is ++ [⟨z6, z7, z8⟩], r8, by omega, by go_num, set_two HY9.out _, owns_set (owns_but HW8.out.f HW8.out.o (by decide) HBT.out) HY9.out (by decide) _, ?_, ?_, (HR8.out.keep (fun k hk => HB9.out.block k (by omega))).later (by omega) _ _, (HW8.out.s.grow HB9.out).later hfx _ _, (Below.heap_setCell _ _ _ _ (by show w.heap.size ≠ w1.heap.size; omega)).trans ((HBT.out _ (Array.getElem?_eq_some_iff.1 HW8.out.x).1 (owns_ne HW8.out.o HW8.out.x (by decide))).trans HW8.out.x), ?_, hl8⟩, by simp [intOf]; omega⟩
          all_goals first
            | (unfold Hid; rw [iCells_snoc]; exact owns_set HO9.out HY9.out (by decide) _)
            | (unfold Hid; rw [hE.out, show cn - j = (cn - (j + 1)) + 1 by omega]; exact rdIs_step (rdI_some HE6.out HE7.out HE8.out))
            | (unfold Hid; rw [List.length_append, hl.out]; rfl)
        · obtain rfl : j = cn := by omega
          have hE' : rdIs j r5 = some (is, rq) := by rw [hE.out, Nat.sub_self, rdIs]; simp
          have HE9 : Hid (rdFn xs = some (⟨par, bs, is⟩, rq)) := by unfold Hid; rw [HE5.out, hE']; rfl
          obtain ⟨y0, y1, y2, yf0, yf1, yf2⟩ := cells3 hY.out
          obtain ⟨x0, x1, x2, xf0, xf1, xf2⟩ := cells3 hX.out
          obtain rfl : bs.length = i := HBL.out
          obtain rfl : is.length = j := hl.out
          have hRl := ((hRr.out.later hbl 0 (.int .i64 par)).later hbl 1 (.slice p bs.length c)).later hbl 2 (.slice p2 is.length c2)
          have hSl := ((hSr.out.later (Nat.le_refl _) 0 (.int .i64 par)).later (Nat.le_refl _) 1 (.slice p bs.length c)).later (Nat.le_refl _) 2 (.slice p2 is.length c2)
          have HRl := Hid.mkD hRl
          have HSl := Hid.mkD hSl
          have HFl := Hid.mkD (owns_set3 hF.out hX.out (by decide) (.int .i64 par) (.slice p bs.length c) (.slice p2 is.length c2))
          have HOl := Hid.mkD (owns_set3 hO.out hX.out (by decide) (.int .i64 par) (.slice p bs.length c) (.slice p2 is.length c2))
          clear hRl hSl
          go_wp2_with fail
          exact bodyPost_ret (v := .agg #[.int .i64 par, .slice p bs.length c, .slice p2 is.length c2]) (by simp [results, Tryz.results53, go_sem, x0, x1, x2]) rfl (Or.inl ⟨⟨par, bs, is⟩, rq, _, HE9.out, rfl, ⟨_, _, _, _, rfl, HFl.out, HOl.out⟩, HRl.out, HSl.out⟩)
end Go.Proofs.YtkkmoaidbmnolaaGreatDoor
namespace Go.Proofs.YtkkmoaidbmnolaaGreatDoor
open Go.RowKit Ch1
/-- The element types of the rows that lie within a constant or a function. -/
def Inner (e : TypeId) : Prop := e = 5 ∨ e = 41 ∨ e = 4 ∨ e = 48
/-- Worlds that agree on such blocks from lo to ahead of hi. -/
def Agr (lo hi : Nat) (w w' : World) : Prop := ∀ k cur e, lo ≤ k → k < hi → Inner e → w.heap[k]? = some (.cells cur e) → w'.heap[k]? = some (.cells cur e)
theorem Agr.of_sr {b lo hi : Nat} {w w' : World} (h : Sr b w w') (hb : b < lo) : Agr lo hi w w' := fun k _ _ h1 _ _ hc =>
  (h.block k (Array.getElem?_eq_some_iff.1 hc).1 (by omega)).trans hc
theorem Agr.trans {lo hi : Nat} {u v w : World} (h : Agr lo hi u v) (k : Agr lo hi v w) : Agr lo hi u w := fun i cur e h1 h2 he hc => k i cur e h1 h2 he (h i cur e h1 h2 he hc)
theorem Agr.mono {lo hi lo' hi' : Nat} {w w' : World} (h : Agr lo hi w w') (h1 : lo ≤ lo') (h2 : hi' ≤ hi) : Agr lo' hi' w w' := fun k cur e a b he hc => h k cur e (by omega) (by omega) he hc
/-- An append onto a row of another type. -/
theorem Agr.of_but {lo hi B n size : Nat} {w w' : World} {e : TypeId} {v : Value} {xs : List Value} (h : w.ownsRow B e size v n xs) (hb : But w w' v) (hne : ¬ Inner e) : Agr lo hi w w' := fun k _ _ _ _ he hc =>
  (hb k (Array.getElem?_eq_some_iff.1 hc).1 (owns_ne h hc (fun heq => hne (heq ▸ he)))).trans hc
/-- A store into a block of another type. -/
theorem Agr.of_set {lo hi fb j : Nat} {w : World} {t : TypeId} {a : Array Value} (hf : w.heap[fb]? = some (.cells a t)) (hne : ¬ Inner t) (x : Value) : Agr lo hi w (w.setCell ⟨fb, j, none⟩ x) := fun k _ _ _ _ he hc =>
  (Below.heap_setCell _ _ _ k (fun heq => by
    have heq : k = fb := heq
    subst heq
    rw [hf] at hc
    cases hc
    exact hne he)).trans hc
theorem owns_agr {w w' : World} {B n size lo hi : Nat} {e : TypeId} {v : Value} {xs : List Value} (h : w.ownsRow B e size v n xs) (he : Inner e) (hlo : lo ≤ B) (hhi : ∀ k, v.ownBlock = some k → k < hi) (ha : Agr lo hi w w') : w'.ownsRow B e size v n xs :=
  owns_of_heap h (fun k hk => by
    obtain ⟨_, cur, hc⟩ := owns_lt h k hk
    rw [ha k cur e (Nat.le_trans hlo (owns_ge h k hk)) (hhi k hk) he hc, hc])
/-- A constant's value and its data lie from lo to ahead of hi. -/
def DaP (a : List (Dt × Value) × Value) (w : World) (lo hi : Nat) : Prop := ∃ s, OwD w lo a.2 a.1 s ∧ s a.1.length ≤ hi ∧ (∀ k, a.2.ownBlock = some k → k < hi) ∧ hi ≤ w.heap.size
/-- A function's value and its rows lie from lo to ahead of hi. -/
def FnP (a : Fn × Value) (w : World) (lo hi : Nat) : Prop := ∃ fp fc cp cc, a.2 = .agg #[.int .i64 a.1.params, .slice fp a.1.free.length fc, .slice cp a.1.code.length cc] ∧ w.ownsRow lo 4 1 (.slice fp a.1.free.length fc) a.1.free.length (a.1.free.map Value.bool) ∧ w.ownsRow lo 48 3 (.slice cp a.1.code.length cc) a.1.code.length (iCells a.1.code) ∧ (∀ k, (Value.slice fp a.1.free.length fc).ownBlock = some k → k < hi) ∧ (∀ k, (Value.slice cp a.1.code.length cc).ownBlock = some k → k < hi)
/-- Pieces that stand while worlds agree on their places. -/
structure Pcs {α : Type} (Pc : α → World → Nat → Nat → Prop) : Prop where
  keep : ∀ a w w' lo hi, Pc a w lo hi → Agr lo hi w w' → w.heap.size ≤ w'.heap.size → Pc a w' lo hi
  mono : ∀ a w lo hi hi', Pc a w lo hi → hi ≤ hi' → hi' ≤ w.heap.size → Pc a w lo hi'
theorem daP_pcs : Pcs DaP := by
  refine ⟨fun a w w' lo hi ⟨s, h, h1, h2, h3⟩ ha hs => ⟨s, ⟨?_, h.lo, h.up, Nat.le_trans h.hi hs, fun i d t e => ?_⟩, h1, h2, Nat.le_trans h3 hs⟩, fun a w lo hi hi' ⟨s, h, h1, h2, _⟩ hh h3 => ⟨s, h, by omega, fun k hk => by have := h2 k hk; omega, h3⟩⟩
  · exact owns_agr h.row (Or.inr (Or.inl rfl)) (Nat.le_refl _) h2 ha
  · obtain ⟨g1, g2, g3⟩ := h.txt i d t e
    have hi' : i < a.1.length := (List.getElem?_eq_some_iff.1 e).1
    have h5 := s_mono h.up 0 i
    have h8 := s_mono h.up (i + 1) (a.1.length - (i + 1))
    rw [Nat.zero_add] at h5
    rw [show i + 1 + (a.1.length - (i + 1)) = a.1.length by omega] at h8
    have h6 := h.lo
    exact ⟨g1, owns_agr g2 (Or.inl rfl) (Nat.le_trans h6 h5) (fun k hk => by have := g3 k hk; omega) ha, g3⟩
theorem fnP_pcs : Pcs FnP := by
  refine ⟨fun a w w' lo hi ⟨fp, fc, cp, cc, e, h1, h2, h3, h4⟩ ha _ => ⟨fp, fc, cp, cc, e, owns_agr h1 (Or.inr (Or.inr (Or.inl rfl))) (Nat.le_refl _) h3 ha, owns_agr h2 (Or.inr (Or.inr (Or.inr rfl))) (Nat.le_refl _) h4 ha, h3, h4⟩, fun a w lo hi hi' ⟨fp, fc, cp, cc, e, h1, h2, h3, h4⟩ hh _ => ⟨fp, fc, cp, cc, e, h1, h2, fun k hk => by have := h3 k hk; omega, fun k hk => by have := h4 k hk; omega⟩⟩
/-- Pieces one behind the other. -/
structure OwL {α : Type} (Pc : α → World → Nat → Nat → Prop) (w : World) (B : Nat) (L : List α) (s : Nat → Nat) : Prop where
  lo : B ≤ s 0
  up : ∀ i, s i ≤ s (i + 1)
  hi : s L.length ≤ w.heap.size
  each : ∀ i a, L[i]? = some a → Pc a w (s i) (s (i + 1))
theorem OwL.nil {α : Type} (Pc : α → World → Nat → Nat → Prop) (w : World) (B : Nat) (hB : B ≤ w.heap.size) : OwL Pc w B [] (fun _ => B) :=
  ⟨Nat.le_refl _, fun _ => Nat.le_refl _, hB, fun i a h => by simp at h⟩
theorem OwL.keep {α : Type} {Pc : α → World → Nat → Nat → Prop} (hp : Pcs Pc) {w w' : World} {B : Nat} {L : List α} {s : Nat → Nat} (h : OwL Pc w B L s) (ha : Agr B (s L.length) w w') (hs : w.heap.size ≤ w'.heap.size) : OwL Pc w' B L s := by
  refine ⟨h.lo, h.up, Nat.le_trans h.hi hs, fun i a e => ?_⟩
  have hi' : i < L.length := (List.getElem?_eq_some_iff.1 e).1
  have h5 := s_mono h.up 0 i
  have h8 := s_mono h.up (i + 1) (L.length - (i + 1))
  rw [Nat.zero_add] at h5
  rw [show i + 1 + (L.length - (i + 1)) = L.length by omega] at h8
  exact hp.keep a w w' _ _ (h.each i a e) (ha.mono (Nat.le_trans h.lo h5) h8) hs
/-- One piece more, all of which is new. -/
theorem OwL.snoc {α : Type} {Pc : α → World → Nat → Nat → Prop} (hp : Pcs Pc) {w w2 : World} {B E : Nat} {L : List α} {s : Nat → Nat} {a : α} (h : OwL Pc w B L s) (ha : Agr B (s L.length) w w2) (hs : w.heap.size ≤ E) (hE : E ≤ w2.heap.size) (hpc : Pc a w2 w.heap.size E) : ∃ s', OwL Pc w2 B (L ++ [a]) s' := by
  have h1 := h.keep hp ha (Nat.le_trans hs hE)
  have hsl : ∀ i, i ≤ L.length → s i ≤ w.heap.size := fun i hi => by
    have := s_mono h.up i (L.length - i)
    rw [show i + (L.length - i) = L.length by omega] at this
    have := h.hi
    omega
  refine ⟨fun i => if i < L.length then s i else if i = L.length then w.heap.size else E, ?_, fun i => ?_, ?_, fun i a' e => ?_⟩
  · show B ≤ if 0 < L.length then s 0 else if 0 = L.length then w.heap.size else E
    have := hsl 0 (Nat.zero_le _)
    have := h.lo
    split
    · exact h.lo
    · split <;> omega
  · show (if i < L.length then s i else if i = L.length then w.heap.size else E) ≤ (if i + 1 < L.length then s (i + 1) else if i + 1 = L.length then w.heap.size else E)
    by_cases c1 : i < L.length
    · rw [if_pos c1]
      by_cases c2 : i + 1 < L.length
      · rw [if_pos c2]; exact h.up i
      · rw [if_neg c2, if_pos (by omega)]; exact hsl i (by omega)
    · rw [if_neg c1, if_neg (show ¬ i + 1 < L.length by omega), if_neg (show ¬ i + 1 = L.length by omega)]
      split <;> omega
  · show (if (L ++ [a]).length < L.length then s (L ++ [a]).length else if (L ++ [a]).length = L.length then w.heap.size else E) ≤ w2.heap.size
    rw [List.length_append, if_neg (by simp), if_neg (by simp)]
    exact hE
  · by_cases c1 : i < L.length
    · rw [List.getElem?_append_left c1] at e
      have g := h1.each i a' e
      simp only [if_pos c1]
      by_cases c2 : i + 1 < L.length
      · simp only [if_pos c2]; exact g
      · simp only [if_neg c2]
        rw [if_pos (by omega)]
        have := hsl (i + 1) (by omega)
        exact hp.mono a' w2 _ _ _ g this (by omega)
    · have hi : i = L.length := by
        have := (List.getElem?_eq_some_iff.1 e).1
        rw [List.length_append] at this
        simp at this
        omega
      subst hi
      rw [List.getElem?_append_right (Nat.le_refl _)] at e
      simp at e
      subst e
      simp only [if_neg (Nat.lt_irrefl _), if_true, if_neg (show ¬ L.length + 1 < L.length by omega), if_neg (show ¬ L.length + 1 = L.length by omega)]
      exact hpc
/-- What constant answers is a piece. -/
theorem DsV.pc {ds : List Dt} {v : Value} {w w' : World} (h : DsV ds v w w') : ∃ l, l.map (·.1) = ds ∧ DaP (l, v) w' w.heap.size w'.heap.size := by
  obtain ⟨l, s, h1, h2⟩ := h
  exact ⟨l, h1, s, h2, h2.hi, fun k hk => (owns_lt h2.row k hk).1, Nat.le_refl _⟩
theorem FnV.pc {f : Fn} {v : Value} {w w' : World} (h : FnV f v w w') : FnP (f, v) w' w.heap.size w'.heap.size := by
  obtain ⟨fp, fc, cp, cc, e, h1, h2⟩ := h
  exact ⟨fp, fc, cp, cc, e, h1, h2, fun k hk => (owns_lt h1 k hk).1, fun k hk => (owns_lt h2 k hk).1⟩
end Go.Proofs.YtkkmoaidbmnolaaGreatDoor
