import Derived.Test.YtkkmoaidbmnolaaGreatDoorD9
namespace Go.Proofs.YtkkmoaidbmnolaaGreatDoor
open Go.RowKit Ch1
/-- So many of a kind. -/
def rdL {α : Type} (r : List Int → Option (α × List Int)) : Nat → List Int → Option (List α × List Int)
  | 0, xs => some ([], xs)
  | m + 1, xs => (r xs).bind (fun a => (rdL r m a.2).map (fun q => (a.1 :: q.1, q.2)))
theorem rdL_step {α : Type} {r : List Int → Option (α × List Int)} {m : Nat} {rest r2 : List Int} {d : α} {pre : List α} (h : r rest = some (d, r2)) : (rdL r (m + 1) rest).map (fun q => (pre ++ q.1, q.2)) = (rdL r m r2).map (fun q => ((pre ++ [d]) ++ q.1, q.2)) := by
  rw [rdL, h]
  show ((rdL r m r2).map _).map _ = _
  rw [Option.map_map]
  congr 1
  funext q
  simp
theorem rdL_none {α : Type} {r : List Int → Option (α × List Int)} {m : Nat} {rest : List Int} (h : r rest = none) : rdL r (m + 1) rest = none := by rw [rdL, h]; rfl
/-- The pure reader of modules. -/
def rdMc (xs : List Int) : Option ((Int × List (List Dt)) × List Int) := (rdN 2 xs).bind (fun g => (rdN 2 g.2).bind (fun k => (rdL rdCst k.1.toNat k.2).map (fun c => ((g.1, c.1), c.2))))
def rdMd (xs : List Int) : Option (Md × List Int) := (rdMc xs).bind (fun c => (rdN 2 c.2).bind (fun n => (rdL rdFn n.1.toNat n.2).map (fun f => (⟨c.1.2, c.1.1, f.1⟩, f.2))))
def fCells (F : List (Fn × Value)) : List Value := F.flatMap (fun a => a.2.cells.toList)
/-- A module's value, all of it in rows of the call's own. -/
def MdV (m : Md) (v : Value) (w w' : World) : Prop := ∃ p c q d L F s t M, v = .agg #[.slice p L.length c, .int .i64 m.globals, .slice q F.length d] ∧ L.map (fun a : List (Dt × Value) × Value => a.1.map (·.1)) = m.consts ∧ F.map (·.1) = m.funcs ∧ w'.ownsRow w.heap.size 39 1 (.slice p L.length c) L.length (L.map (·.2)) ∧ w'.ownsRow w.heap.size 46 3 (.slice q F.length d) F.length (fCells F) ∧ OwL DaP w' w.heap.size L s ∧ OwL FnP w' M F t ∧ s L.length ≤ M
theorem infoC : (Tryz.prog.info? 39).map (fun i => (i.zero, i.size, i.bytes)) = some (some (.slice none 0 0), 1, 24) := by kernel_rfl
theorem infoF : (Tryz.prog.info? 46).map (fun i => (i.zero, i.size, i.bytes)) = some (some (.agg #[.int .i64 0, .slice none 0 0, .slice none 0 0]), 3, 56) := by kernel_rfl
theorem inConstant (args : Array Value) (w : World) : (callFunc 52 args).run Tryz.prog w = .ok (.enter 52 args) w := by kernel_rfl
theorem inFunction (args : Array Value) (w : World) : (callFunc 53 args).run Tryz.prog w = .ok (.enter 53 args) w := by kernel_rfl
theorem set_zero {w : World} {k : Nat} {a b c : Value} {t : TypeId} (e : w.heap[k]? = some (.cells #[a, b, c] t)) (v : Value) : (w.setCell ⟨k, 0, none⟩ v).heap[k]? = some (.cells #[v, b, c] t) := by simp [World.setCell, Array.getElem?_modify, e]
theorem innerM : ¬ Inner 26 := by unfold Inner; decide
theorem innerC : ¬ Inner 39 := by unfold Inner; decide
theorem innerF : ¬ Inner 46 := by unfold Inner; decide
/-- What is read is no longer than what was there. -/
theorem rdDs_len : ∀ (k : Nat) {xs rest : List Int} {ds : List Dt}, rdDs k xs = some (ds, rest) → rest.length ≤ xs.length
  | 0, xs, rest, ds, h => by rw [rdDs] at h; cases h; exact Nat.le_refl _
  | k + 1, xs, rest, ds, h => by
    rw [rdDs] at h
    obtain ⟨⟨d, r⟩, h1, h2⟩ := Option.bind_eq_some_iff.1 h
    obtain ⟨⟨q, r'⟩, h3, h4⟩ := Option.map_eq_some_iff.1 h2
    cases h4
    exact Nat.le_trans (rdDs_len k h3) (rdD_len h1)
theorem rdCst_len {xs rest : List Int} {ds : List Dt} (h : rdCst xs = some (ds, rest)) : rest.length ≤ xs.length := by
  unfold rdCst at h
  obtain ⟨⟨z, r⟩, h1, h2⟩ := Option.bind_eq_some_iff.1 h
  exact Nat.le_trans (rdDs_len _ h2) (rdN_len h1)
theorem rdTs_len : ∀ (k : Nat) {xs rest : List Int} {ds : List Bool}, rdTs k xs = some (ds, rest) → rest.length ≤ xs.length
  | 0, xs, rest, ds, h => by rw [rdTs] at h; cases h; exact Nat.le_refl _
  | k + 1, xs, rest, ds, h => by
    rw [rdTs] at h
    obtain ⟨⟨d, r⟩, h1, h2⟩ := Option.bind_eq_some_iff.1 h
    obtain ⟨⟨q, r'⟩, h3, h4⟩ := Option.map_eq_some_iff.1 h2
    cases h4
    exact Nat.le_trans (rdTs_len k h3) (rdT_len h1)
theorem rdI_len {xs rest : List Int} {d : In} (h : rdI xs = some (d, rest)) : rest.length ≤ xs.length := by
  unfold rdI at h
  obtain ⟨⟨a, r⟩, h1, h2⟩ := Option.bind_eq_some_iff.1 h
  obtain ⟨⟨b, r2⟩, h3, h4⟩ := Option.bind_eq_some_iff.1 h2
  obtain ⟨⟨c, r3⟩, h5, h6⟩ := Option.map_eq_some_iff.1 h4
  cases h6
  exact Nat.le_trans (rdN_len h5) (Nat.le_trans (rdN_len h3) (rdN_len h1))
theorem rdIs_len : ∀ (k : Nat) {xs rest : List Int} {ds : List In}, rdIs k xs = some (ds, rest) → rest.length ≤ xs.length
  | 0, xs, rest, ds, h => by rw [rdIs] at h; cases h; exact Nat.le_refl _
  | k + 1, xs, rest, ds, h => by
    rw [rdIs] at h
    obtain ⟨⟨d, r⟩, h1, h2⟩ := Option.bind_eq_some_iff.1 h
    obtain ⟨⟨q, r'⟩, h3, h4⟩ := Option.map_eq_some_iff.1 h2
    cases h4
    exact Nat.le_trans (rdIs_len k h3) (rdI_len h1)
theorem rdFn_len {xs rest : List Int} {f : Fn} (h : rdFn xs = some (f, rest)) : rest.length ≤ xs.length := by
  unfold rdFn at h
  obtain ⟨⟨a, r⟩, h1, h2⟩ := Option.bind_eq_some_iff.1 h
  obtain ⟨⟨k, r2⟩, h3, h4⟩ := Option.bind_eq_some_iff.1 h2
  obtain ⟨⟨c, r3⟩, h5, h6⟩ := Option.map_eq_some_iff.1 h4
  cases h6
  unfold rdFree at h1
  obtain ⟨⟨p, q1⟩, g1, g2⟩ := Option.bind_eq_some_iff.1 h1
  obtain ⟨⟨n, q2⟩, g3, g4⟩ := Option.bind_eq_some_iff.1 g2
  obtain ⟨⟨t, q3⟩, g5, g6⟩ := Option.map_eq_some_iff.1 g4
  cases g6
  exact Nat.le_trans (rdIs_len _ h5) (Nat.le_trans (rdN_len h3) (Nat.le_trans (rdTs_len _ g5) (Nat.le_trans (rdN_len g3) (rdN_len g1))))
theorem DaP.form {a : List (Dt × Value) × Value} {w : World} {lo hi : Nat} (h : DaP a w lo hi) : ∃ q c, a.2 = .slice q a.1.length c := by
  obtain ⟨s, h, _⟩ := h
  exact owns_form h.row
theorem set_size (w : World) (a : Addr) (x : Value) : (w.setCell a x).heap.size = w.heap.size := by simp [World.setCell]
/-- One piece more: read in w3, its value appended in w4, the row stored in the module's variable. -/
theorem OwL.more {α : Type} {Pc : α → World → Nat → Nat → Prop} (hp : Pcs Pc) {b B B2 n size fb j : Nat} {w w3 w4 : World} {L : List α} {s : Nat → Nat} {a : α} {e t : TypeId} {v x : Value} {xs : List Value} {cs : Array Value} (h : OwL Pc w B L s) (h3 : Sr b w w3) (hb : b < B) (ho : w3.ownsRow B2 e size v n xs) (he : ¬ Inner e) (hbt : But w3 w4 v) (h4 : w3.heap.size ≤ w4.heap.size) (hf : w4.heap[fb]? = some (.cells cs t)) (ht : ¬ Inner t) (hpc : Pc a w3 w.heap.size w3.heap.size) : ∃ s', OwL Pc (w4.setCell ⟨fb, j, none⟩ x) B (L ++ [a]) s' := by
  have h5 : w3.heap.size ≤ (w4.setCell ⟨fb, j, none⟩ x).heap.size := by rw [set_size]; exact h4
  refine h.snoc hp ((Agr.of_sr h3 hb).trans ((Agr.of_but ho hbt he).trans (Agr.of_set hf ht x))) h3.size h5 ?_
  exact hp.keep _ _ _ _ _ hpc ((Agr.of_but ho hbt he).trans (Agr.of_set hf ht x)) h5
/-- At the head of the loop over the constants. -/
def McI (b cn : Nat) (g : Int) (mx : Nat) (xs : List Int) (w : World) (iv : Value) (wr : World) : Prop :=
  ∃ (i : Nat) (p : Option Addr) (c : Nat) (L : List (List (Dt × Value) × Value)) (s : Nat → Nat) (rest : List Int), i ≤ cn ∧ iv = .int .i64 i ∧ Hid (wr.heap[mx]? = some (.cells #[.slice p i c, .int .i64 g, .slice none 0 0] 26)) ∧ Hid (wr.ownsRow w.heap.size 39 1 (.slice p i c) i (L.map (·.2))) ∧ Hid (L.length = i) ∧ Hid (OwL DaP wr w.heap.size L s) ∧ Hid (RdE wr b rest) ∧ Hid (Sr b w wr) ∧ Hid (wr.heap[w.heap.size]? = some (.cells #[.slice none 0 0, .int .i64 0, .slice none 0 0] 26)) ∧ Hid (rdL rdCst cn xs = (rdL rdCst (cn - i) rest).map (fun q => (L.map (fun a => a.1.map (·.1)) ++ q.1, q.2))) ∧ rest.length ≤ 1048576
/-- At the head of the loop over the functions. -/
def MfI (b fn : Nat) (g : Int) (mx M : Nat) (p : Option Addr) (i c : Nat) (L : List (List (Dt × Value) × Value)) (s : Nat → Nat) (xs : List Int) (w : World) (iv : Value) (wr : World) : Prop :=
  ∃ (j : Nat) (q : Option Addr) (d : Nat) (F : List (Fn × Value)) (t : Nat → Nat) (rest : List Int), j ≤ fn ∧ iv = .int .i64 j ∧ Hid (wr.heap[mx]? = some (.cells #[.slice p i c, .int .i64 g, .slice q j d] 26)) ∧ Hid (wr.ownsRow w.heap.size 39 1 (.slice p i c) i (L.map (·.2))) ∧ Hid (OwL DaP wr w.heap.size L s) ∧ Hid (wr.ownsRow w.heap.size 46 3 (.slice q j d) j (fCells F)) ∧ Hid (F.length = j) ∧ Hid (OwL FnP wr M F t) ∧ Hid (RdE wr b rest) ∧ Hid (Sr b w wr) ∧ Hid (wr.heap[w.heap.size]? = some (.cells #[.slice none 0 0, .int .i64 0, .slice none 0 0] 26)) ∧ Hid (rdL rdFn fn xs = (rdL rdFn (fn - j) rest).map (fun q => (F.map (·.1) ++ q.1, q.2))) ∧ rest.length ≤ 1048576
theorem FnP.form {a : Fn × Value} {w : World} {lo hi : Nat} (h : FnP a w lo hi) : ∃ fp fc cp cc, a.2 = .agg #[.int .i64 a.1.params, .slice fp a.1.free.length fc, .slice cp a.1.code.length cc] := by
  obtain ⟨fp, fc, cp, cc, e, _⟩ := h
  exact ⟨fp, fc, cp, cc, e⟩
set_option maxRecDepth 20000 in
set_option maxHeartbeats 8000000 in
theorem moduleR_c (b : Nat) (xs : List Int) (w : World) (hR : RdE w b xs) (hn : xs.length ≤ 1048576) :
    Calls Tryz.prog 30 #[.pointer (some ⟨b, 0, none⟩)] w fun e w' => ReP b (rdMd xs) MdV w w' e := by
  have HR : Hid (RdE w b xs) := hR
  have hbl := hR.lt
  obtain ⟨W, hWW⟩ : ∃ W, W = w.alloc (.cells #[.slice none 0 0, .int .i64 0, .slice none 0 0] 26) := ⟨_, rfl⟩
  have HWX : Hid (W.heap[w.heap.size]? = some (.cells #[.slice none 0 0, .int .i64 0, .slice none 0 0] 26)) := by unfold Hid; rw [hWW]; exact Go.Deep.blk_alloc_new _ _
  have HWB : Hid (Below w.heap.size w W) := by unfold Hid; rw [hWW]; exact below1 _ _
  have HWs : Hid (W.heap.size = w.heap.size + 1) := by unfold Hid; rw [hWW]; simp
  clear hR
  go_enter Tryz.func30, Tryz.ntmps30
  go_wp2_with fail
  rw [← hWW]
  clear hWW
  refine (number_c b 2 xs _ (HR.out.below HWB.out) hn (by omega)).mono ?_
  rintro e w1 (⟨g, r1, v, hr, rfl, rfl, hR1, hs1⟩ | ⟨hr, rfl, hs1⟩)
  rotate_left
  · exact ⟨rfl, Or.inr ⟨by unfold rdMd rdMc; rw [hr]; rfl, rfl, (Sr.of_below HWB.out).trans hs1⟩⟩
  have HE1 : Hid (rdN 2 xs = some (g, r1)) := hr
  have hr1 := Nat.le_trans (rdN_len hr) hn
  have HS1 : Hid (Sr b w w1) := (Sr.of_below HWB.out).trans hs1
  have HX1 : Hid (w1.heap[w.heap.size]? = some (.cells #[.slice none 0 0, .int .i64 0, .slice none 0 0] 26)) := (hs1.block _ (by have := HWs.out; omega) (by omega)).trans HWX.out
  have HR1 : Hid (RdE w1 b r1) := hR1
  have hsz : w.heap.size < w1.heap.size := (Array.getElem?_eq_some_iff.1 HX1.out).1
  clear hr hR1 hs1 HWX HWB HWs
  obtain ⟨W1, hW1⟩ : ∃ W1, W1 = w1.alloc (.cells #[.slice none 0 0, .int .i64 g, .slice none 0 0] 26) := ⟨_, rfl⟩
  have HB1 : Hid (Below w1.heap.size w1 W1) := by unfold Hid; rw [hW1]; exact below1 _ _
  have HY1 : Hid (W1.heap[w1.heap.size]? = some (.cells #[.slice none 0 0, .int .i64 g, .slice none 0 0] 26)) := by unfold Hid; rw [hW1]; exact Go.Deep.blk_alloc_new _ _
  have HWs1 : Hid (W1.heap.size = w1.heap.size + 1) := by unfold Hid; rw [hW1]; simp
  have HSW : Hid (Sr b w W1) := HS1.out.trans (Sr.of_below HB1.out)
  have HXW : Hid (W1.heap[w.heap.size]? = some (.cells #[.slice none 0 0, .int .i64 0, .slice none 0 0] 26)) := (HB1.out.block _ hsz).trans HX1.out
  have HRW : Hid (RdE W1 b r1) := HR1.out.below HB1.out
  go_wp2_with fail
  rw [← hW1]
  clear hW1
  refine (number_c b 2 r1 _ HRW.out hr1 (by omega)).mono ?_
  rintro e w2 (⟨z, r2, v, hr, rfl, rfl, hR2, hs2⟩ | ⟨hr, rfl, hs2⟩)
  rotate_left
  · exact ⟨rfl, Or.inr ⟨by unfold rdMd rdMc; rw [HE1.out]; show ((rdN 2 r1).bind _).bind _ = none; rw [hr]; rfl, rfl, HSW.out.trans hs2⟩⟩
  have hzr := rdN_two HR1.out.rg hr
  have hr2 := Nat.le_trans (rdN_len hr) hr1
  obtain ⟨cn, rfl⟩ := Int.eq_ofNat_of_zero_le hzr.1
  have HE2 : Hid (rdMc xs = (rdL rdCst cn r2).map (fun c => ((g, c.1), c.2))) := by unfold Hid rdMc; rw [HE1.out]; show (rdN 2 r1).bind _ = _; rw [hr]; rfl
  have HS2 : Hid (Sr b w w2) := HSW.out.trans hs2
  have HR2 : Hid (RdE w2 b r2) := hR2
  have HX2 : Hid (w2.heap[w.heap.size]? = some (.cells #[.slice none 0 0, .int .i64 0, .slice none 0 0] 26)) := (hs2.block _ (by have := HWs1.out; omega) (by omega)).trans HXW.out
  have HY2 : Hid (w2.heap[w1.heap.size]? = some (.cells #[.slice none 0 0, .int .i64 g, .slice none 0 0] 26)) := (hs2.block _ (by have := HWs1.out; omega) (by omega)).trans HY1.out
  have hcn : cn < 65536 := by omega
  clear hr hR2 hs2 hzr
  go_wp2
  go_loopw [9] (fun iv wr => McI b cn g w1.heap.size r2 w iv wr) (fun iv _ => cn - (intOf iv).toNat)
  case atStart => exact ⟨0, none, 0, [], fun _ => w.heap.size, r2, Nat.zero_le _, rfl, HY2.out, ⟨rfl, Or.inl ⟨rfl, rfl⟩⟩, rfl, OwL.nil _ _ _ HS2.out.size, HR2.out, HS2.out, HX2.out, by unfold Hid; simp, hr2⟩
  case round =>
    clear HR2 HS2 HX2 HY2 HSW HXW HRW HY1 HB1 HWs1
    obtain ⟨i, p, c, L, s, rest, hi, rfl, hY, hO, hl, hP, hRr, hSr, hX, hE, hrl⟩ := hrel
    by_cases hlt : i < cn
    · obtain ⟨y0, y1, y2, yf0, yf1, yf2⟩ := cells3 hY.out
      go_wp2_with fail
      go_region_law (first
        | (refine appW_step _ rfl (.tmp 12) (.tmp 15) 23 39 rfl _ 1 24 Tryz.underlying23 infoC rfl (by decide) w.heap.size (.slice p i c) i (L.map (·.2)) ?h1 HO3.out #[.slice q l.length d] rfl ?h2 ?h3 ?h4 ?h5 hwl ?_; (case h1 => first | (simp [Act.eval]; done) | (simp [Act.eval, Act.put]; done)); (case h2 => simp [Value.oneCell']); (case h3 => first | (simp [Act.eval]; done) | (simp [Act.eval, Act.put]; done)); (case h4 => (unfold maxLen; omega)); (case h5 => omega); intro p4 c4 w4 ho4 hb4 hbt4; have HY4 : Hid (w4.heap[w1.heap.size]? = some (.cells #[.slice p i c, .int .i64 g, .slice none 0 0] 26)) := (hbt4 _ (Array.getElem?_eq_some_iff.1 HY3.out).1 (owns_ne HO3.out HY3.out (by decide))).trans HY3.out; have HX4 : Hid (w4.heap[w.heap.size]? = some (.cells #[.slice none 0 0, .int .i64 0, .slice none 0 0] 26)) := (hbt4 _ (Array.getElem?_eq_some_iff.1 HX3.out).1 (owns_ne HO3.out HX3.out (by decide))).trans HX3.out; have HO4 := Hid.mkD ho4; have HB4 : Hid (Below w.heap.size w3 w4) := hb4; have HBT := Hid.mkD hbt4; obtain ⟨u0, u1, u2, uf0, uf1, uf2⟩ := cells3 HY4.out; clear ho4 hb4 hbt4)
        | (refine step_calls2 _ rfl 52 _ _ rfl #[.pointer (some ⟨b, 0, none⟩)] ?ha (inConstant _) _ _ ((constantR_c b rest _ (hRr.out.below (below_drewM (Below.refl _ _))) hrl).mono (fun e w' h => h.two)) ?hq ?_; (case ha => first | (simp [Act.eval]; done) | (simp [Act.eval, Act.put]; done)); (case hq => (rintro ch w3 ⟨rfl, hr, hs3⟩; refine ⟨rfl, Or.inr ⟨?_, rfl, hSr.out.trans ((Sr.of_below (below_drewM (Below.refl _ _))).trans hs3)⟩⟩; unfold rdMd; rw [HE2.out, hE.out, show cn - i = (cn - (i + 1)) + 1 by omega, rdL_none hr]; rfl)); rintro v w3 ⟨ds, r3, hr, hv, hR3, hs3'⟩; obtain ⟨l, hld, hpc⟩ := hv.pc; obtain ⟨q, d, hvq⟩ := hpc.form; have hvq : v = .slice q l.length d := hvq; subst hvq; have hs3 : Sr b wr w3 := (Sr.of_below (below_drewM (Below.refl _ _))).trans hs3'; have HPC : Hid (DaP (l, .slice q l.length d) w3 wr.heap.size w3.heap.size) := hpc; have HR3 : Hid (RdE w3 b r3) := hR3; have HS3 : Hid (Sr b wr w3) := hs3; have HE3 : Hid (rdL rdCst cn r2 = (rdL rdCst (cn - (i + 1)) r3).map (fun q => ((L.map (fun a => a.1.map (·.1)) ++ [l.map (·.1)]) ++ q.1, q.2))) := (by unfold Hid; rw [hE.out, show cn - i = (cn - (i + 1)) + 1 by omega, rdL_step hr, hld]); have hl3 : r3.length ≤ 1048576 := Nat.le_trans (rdCst_len hr) hrl; have HO3 : Hid (w3.ownsRow w.heap.size 39 1 (.slice p i c) i (L.map (·.2))) := owns_sr hO.out hs3 hbl; have HY3 : Hid (w3.heap[w1.heap.size]? = some (.cells #[.slice p i c, .int .i64 g, .slice none 0 0] 26)) := (hs3.block _ (Array.getElem?_eq_some_iff.1 hY.out).1 (by omega)).trans hY.out; have HX3 : Hid (w3.heap[w.heap.size]? = some (.cells #[.slice none 0 0, .int .i64 0, .slice none 0 0] 26)) := (hs3.block _ (Array.getElem?_eq_some_iff.1 hX.out).1 (by omega)).trans hX.out; have hwl := Nat.le_trans hSr.out.size hs3.size; obtain ⟨z0, z1, z2, zf0, zf1, zf2⟩ := cells3 HY3.out; have zz0 := fun o1 => cell_keepD (below1 w3 o1) (Array.getElem?_eq_some_iff.1 HY3.out).1 z0; clear hr hR3 hs3 hs3' hv hpc hld))
      all_goals go_wp2
      all_goals obtain ⟨s', hP'⟩ := hP.out.more daP_pcs (j := 0) (x := .slice p4 (i + 1) c4) HS3.out hbl HO3.out innerC HBT.out HB4.out.size HY4.out innerM HPC.out
      all_goals refine ⟨⟨i + 1, p4, c4, L ++ [(l, .slice q l.length d)], s', r3, by omega, by go_num, set_zero HY4.out _, ?_, ?_, Hid.mkD hP', (HR3.out.keep (fun k hk => HB4.out.block k (by omega))).later (by omega) _ _, ((hSr.out.trans HS3.out).grow HB4.out).later (by omega) _ _, (Below.heap_setCell _ _ _ _ (by show w.heap.size ≠ w1.heap.size; omega)).trans HX4.out, ?_, hl3⟩, by simp [intOf]; omega⟩
      all_goals first
        | (unfold Hid; rw [List.map_append]; exact owns_set HO4.out HY4.out (by decide) _)
        | (unfold Hid; rw [HE3.out, List.map_append]; rfl)
        | (unfold Hid; rw [List.length_append, hl.out]; rfl)
    · obtain rfl : i = cn := by omega
      have hE' : rdL rdCst i r2 = some (L.map (fun a => a.1.map (·.1)), rest) := by rw [hE.out, Nat.sub_self, rdL]; simp
      have HE4 : Hid (rdMc xs = some ((g, L.map (fun a => a.1.map (·.1))), rest)) := by unfold Hid; rw [HE2.out, hE']; rfl
      clear hE' hE HE2 HE1 HS1 HX1 HR1
      go_wp2_with fail
      refine (number_c b 2 rest wr hRr.out hrl (by omega)).mono ?_
      rintro e w5 (⟨z, r5, v, hr, rfl, rfl, hR5, hs5⟩ | ⟨hr, rfl, hs5⟩)
      rotate_left
      · exact ⟨rfl, Or.inr ⟨by unfold rdMd; rw [HE4.out]; show (rdN 2 rest).bind _ = none; rw [hr]; rfl, rfl, hSr.out.trans hs5⟩⟩
      have hzr := rdN_two hRr.out.rg hr
      have hr5 := Nat.le_trans (rdN_len hr) hrl
      obtain ⟨fn, rfl⟩ := Int.eq_ofNat_of_zero_le hzr.1
      have HE5 : Hid (rdMd xs = (rdL rdFn fn r5).map (fun f => (⟨L.map (fun a => a.1.map (·.1)), g, f.1⟩, f.2))) := by unfold Hid rdMd; rw [HE4.out]; show (rdN 2 rest).bind _ = _; rw [hr]; rfl
      have hfn : fn < 65536 := by omega
      have HS5 : Hid (Sr b w w5) := hSr.out.trans hs5
      have HR5 : Hid (RdE w5 b r5) := hR5
      have HX5 : Hid (w5.heap[w.heap.size]? = some (.cells #[.slice none 0 0, .int .i64 0, .slice none 0 0] 26)) := (hs5.block _ (Array.getElem?_eq_some_iff.1 hX.out).1 (by omega)).trans hX.out
      have HY5 : Hid (w5.heap[w1.heap.size]? = some (.cells #[.slice p i c, .int .i64 g, .slice none 0 0] 26)) := (hs5.block _ (Array.getElem?_eq_some_iff.1 hY.out).1 (by omega)).trans hY.out
      have HO5 : Hid (w5.ownsRow w.heap.size 39 1 (.slice p i c) i (L.map (·.2))) := owns_sr hO.out hs5 hbl
      have HP5 : Hid (OwL DaP w5 w.heap.size L s) := hP.out.keep daP_pcs (Agr.of_sr hs5 hbl) hs5.size
      have HLL : Hid (L.length = i) := hl.out
      clear hr hR5 hs5 hzr hY hO hl hRr hSr hX hP HE4
      go_wp2
      obtain ⟨M, hM⟩ : ∃ M, M = w5.heap.size := ⟨_, rfl⟩
      have HM : Hid (s L.length ≤ M) := by unfold Hid; rw [hM]; exact HP5.out.hi
      have hbM : b < M := by rw [hM]; exact HR5.out.lt
      go_loopw [21] (fun iv wr => MfI b fn g w1.heap.size M p i c L s r5 w iv wr) (fun iv _ => fn - (intOf iv).toNat)
      case atStart => exact ⟨0, none, 0, [], fun _ => M, r5, Nat.zero_le _, rfl, HY5.out, HO5.out, HP5.out, ⟨rfl, Or.inl ⟨rfl, rfl⟩⟩, rfl, OwL.nil _ _ _ (Nat.le_of_eq hM), HR5.out, HS5.out, HX5.out, by unfold Hid; simp, hr5⟩
      case round =>
        clear HR5 HS5 HX5 HY5 HO5 HP5 hM
        rename World => wq
        obtain ⟨j, q, d, F, t, rq, hj, rfl, hY, hO, hP, hU, hl, hQ, hRr, hSr, hX, hE, hrl⟩ := hrel
        by_cases hlt : j < fn
        · obtain ⟨y0, y1, y2, yf0, yf1, yf2⟩ := cells3 hY.out
          go_wp2_with fail
          go_region_law (first
            | (refine appW_step _ rfl (.tmp 24) (.tmp 27) 24 46 rfl _ 3 56 Tryz.underlying24 infoF rfl (by decide) w.heap.size (.slice q j d) j (fCells F) ?h1 HU3.out #[.int .i64 f.params, .slice fp f.free.length fc, .slice cp f.code.length cc] rfl ?h2 ?h3 ?h4 ?h5 hwl ?_; (case h1 => first | (simp [Act.eval]; done) | (simp [Act.eval, Act.put]; done)); (case h2 => simp [Value.oneCell']); (case h3 => first | (simp [Act.eval]; done) | (simp [Act.eval, Act.put]; done)); (case h4 => (unfold maxLen; omega)); (case h5 => omega); intro p4 c4 w4 ho4 hb4 hbt4; have HY4 : Hid (w4.heap[w1.heap.size]? = some (.cells #[.slice p i c, .int .i64 g, .slice q j d] 26)) := (hbt4 _ (Array.getElem?_eq_some_iff.1 HY3.out).1 (owns_ne HU3.out HY3.out (by decide))).trans HY3.out; have HX4 : Hid (w4.heap[w.heap.size]? = some (.cells #[.slice none 0 0, .int .i64 0, .slice none 0 0] 26)) := (hbt4 _ (Array.getElem?_eq_some_iff.1 HX3.out).1 (owns_ne HU3.out HX3.out (by decide))).trans HX3.out; have HU4 := Hid.mkD ho4; have HB4 : Hid (Below w.heap.size w3 w4) := hb4; have HBT := Hid.mkD hbt4; obtain ⟨u0, u1, u2, uf0, uf1, uf2⟩ := cells3 HY4.out; clear ho4 hb4 hbt4)
            | (refine step_calls2 _ rfl 53 _ _ rfl #[.pointer (some ⟨b, 0, none⟩)] ?ha (inFunction _) _ _ ((functionR_c b rq _ (hRr.out.below (below_drewM (Below.refl _ _))) hrl).mono (fun e w' h => h.two)) ?hq ?_; (case ha => first | (simp [Act.eval]; done) | (simp [Act.eval, Act.put]; done)); (case hq => (rintro ch w3 ⟨rfl, hr, hs3⟩; refine ⟨rfl, Or.inr ⟨?_, rfl, hSr.out.trans ((Sr.of_below (below_drewM (Below.refl _ _))).trans hs3)⟩⟩; rw [HE5.out, hE.out, show fn - j = (fn - (j + 1)) + 1 by omega, rdL_none hr]; rfl)); rintro v w3 ⟨f, r3, hr, hv, hR3, hs3'⟩; have hpc := hv.pc; obtain ⟨fp, fc, cp, cc, hvq⟩ := hpc.form; have hvq : v = .agg #[.int .i64 f.params, .slice fp f.free.length fc, .slice cp f.code.length cc] := hvq; subst hvq; have hs3 : Sr b wq w3 := (Sr.of_below (below_drewM (Below.refl _ _))).trans hs3'; have HPC : Hid (FnP (f, .agg #[.int .i64 f.params, .slice fp f.free.length fc, .slice cp f.code.length cc]) w3 wq.heap.size w3.heap.size) := hpc; have HR3 : Hid (RdE w3 b r3) := hR3; have HS3 : Hid (Sr b wq w3) := hs3; have HE3 : Hid (rdL rdFn fn r5 = (rdL rdFn (fn - (j + 1)) r3).map (fun q => ((F.map (·.1) ++ [f]) ++ q.1, q.2))) := (by unfold Hid; rw [hE.out, show fn - j = (fn - (j + 1)) + 1 by omega, rdL_step hr]); have hl3 : r3.length ≤ 1048576 := Nat.le_trans (rdFn_len hr) hrl; have HO3 : Hid (w3.ownsRow w.heap.size 39 1 (.slice p i c) i (L.map (·.2))) := owns_sr hO.out hs3 hbl; have HU3 : Hid (w3.ownsRow w.heap.size 46 3 (.slice q j d) j (fCells F)) := owns_sr hU.out hs3 hbl; have HY3 : Hid (w3.heap[w1.heap.size]? = some (.cells #[.slice p i c, .int .i64 g, .slice q j d] 26)) := (hs3.block _ (Array.getElem?_eq_some_iff.1 hY.out).1 (by omega)).trans hY.out; have HX3 : Hid (w3.heap[w.heap.size]? = some (.cells #[.slice none 0 0, .int .i64 0, .slice none 0 0] 26)) := (hs3.block _ (Array.getElem?_eq_some_iff.1 hX.out).1 (by omega)).trans hX.out; have hwl := Nat.le_trans hSr.out.size hs3.size; obtain ⟨z0, z1, z2, zf0, zf1, zf2⟩ := cells3 HY3.out; have zz2 := fun o1 => cell_keepD (below1 w3 o1) (Array.getElem?_eq_some_iff.1 HY3.out).1 z2; clear hr hR3 hs3 hs3' hv hpc))
          all_goals go_wp2
          all_goals obtain ⟨t', hQ'⟩ := hQ.out.more fnP_pcs (j := 2) (x := .slice p4 (j + 1) c4) HS3.out hbM HU3.out innerF HBT.out HB4.out.size HY4.out innerM HPC.out
          all_goals refine ⟨⟨j + 1, p4, c4, F ++ [(f, .agg #[.int .i64 f.params, .slice fp f.free.length fc, .slice cp f.code.length cc])], t', r3, by omega, by go_num, set_two HY4.out _, owns_set (owns_but HO3.out HU3.out (by decide) HBT.out) HY4.out (by decide) _, hP.out.keep daP_pcs ((Agr.of_sr HS3.out hbl).trans ((Agr.of_but HU3.out HBT.out innerF).trans (Agr.of_set HY4.out innerM _))) (by rw [set_size]; exact Nat.le_trans HS3.out.size HB4.out.size), ?_, ?_, Hid.mkD hQ', (HR3.out.keep (fun k hk => HB4.out.block k (by omega))).later (by omega) _ _, ((hSr.out.trans HS3.out).grow HB4.out).later (by omega) _ _, (Below.heap_setCell _ _ _ _ (by show w.heap.size ≠ w1.heap.size; omega)).trans HX4.out, ?_, hl3⟩, by simp [intOf]; omega⟩
          all_goals first
            | (unfold Hid; rw [HE3.out, List.map_append]; rfl)
            | (unfold Hid; rw [List.length_append, hl.out]; rfl)
            | (unfold Hid; have e : fCells (F ++ [(f, .agg #[.int .i64 f.params, .slice fp f.free.length fc, .slice cp f.code.length cc])]) = fCells F ++ [.int .i64 f.params, .slice fp f.free.length fc, .slice cp f.code.length cc] := (by unfold fCells; rw [List.flatMap_append]; rfl); rw [e]; exact owns_set HU4.out HY4.out (by decide) _)
        · obtain rfl : j = fn := by omega
          have hE' : rdL rdFn j r5 = some (F.map (·.1), rq) := by rw [hE.out, Nat.sub_self, rdL]; simp
          have HE9 : Hid (rdMd xs = some (⟨L.map (fun a => a.1.map (·.1)), g, F.map (·.1)⟩, rq)) := by unfold Hid; rw [HE5.out, hE']; rfl
          obtain ⟨y0, y1, y2, yf0, yf1, yf2⟩ := cells3 hY.out
          obtain ⟨x0, x1, x2, xf0, xf1, xf2⟩ := cells3 hX.out
          obtain rfl : L.length = i := HLL.out
          obtain rfl : F.length = j := hl.out
          have HRl := Hid.mkD (((hRr.out.later hbl 0 (.slice p L.length c)).later hbl 1 (.int .i64 g)).later hbl 2 (.slice q F.length d))
          have HSl := Hid.mkD (((hSr.out.later (Nat.le_refl _) 0 (.slice p L.length c)).later (Nat.le_refl _) 1 (.int .i64 g)).later (Nat.le_refl _) 2 (.slice q F.length d))
          have HOl := Hid.mkD (owns_set3 hO.out hX.out (by decide) (.slice p L.length c) (.int .i64 g) (.slice q F.length d))
          have HUl := Hid.mkD (owns_set3 hU.out hX.out (by decide) (.slice p L.length c) (.int .i64 g) (.slice q F.length d))
          have ha : ∀ lo hi, Agr lo hi wq (((wq.setCell ⟨w.heap.size, 0, none⟩ (.slice p L.length c)).setCell ⟨w.heap.size, 1, none⟩ (.int .i64 g)).setCell ⟨w.heap.size, 2, none⟩ (.slice q F.length d)) := fun lo hi => (Agr.of_set hX.out innerM _).trans ((Agr.of_set (set_zero hX.out _) innerM _).trans (Agr.of_set (set_one (set_zero hX.out _) _) innerM _))
          have hsz3 : wq.heap.size ≤ (((wq.setCell ⟨w.heap.size, 0, none⟩ (.slice p L.length c)).setCell ⟨w.heap.size, 1, none⟩ (.int .i64 g)).setCell ⟨w.heap.size, 2, none⟩ (.slice q F.length d)).heap.size := by rw [set_size, set_size, set_size]; exact Nat.le_refl _
          have HPl := Hid.mkD (hP.out.keep daP_pcs (ha _ _) hsz3)
          have HQl := Hid.mkD (hQ.out.keep fnP_pcs (ha _ _) hsz3)
          clear ha hsz3
          go_wp2_with fail
          exact bodyPost_ret (v := .agg #[.slice p L.length c, .int .i64 g, .slice q F.length d]) (by simp [results, Tryz.results30, go_sem, x0, x1, x2]) rfl (Or.inl ⟨_, rq, _, HE9.out, rfl, ⟨p, c, q, d, L, F, s, t, M, rfl, rfl, rfl, HOl.out, HUl.out, HPl.out, HQl.out, HM.out⟩, HRl.out, HSl.out⟩)
end Go.Proofs.YtkkmoaidbmnolaaGreatDoor
namespace Go.Proofs.YtkkmoaidbmnolaaGreatDoor
open Go.RowKit Ch1
theorem owns_cells {w : World} {B n size c : Nat} {e : TypeId} {p : Option Addr} {xs : List Value} (h : w.ownsRow B e size (.slice p n c) n xs) : n ≤ c ∧ c ≤ maxLen ∧ (0 < n → ∃ g, p = some ⟨g, 0, none⟩ ∧ g < w.heap.size ∧ B ≤ g ∧ ∀ k, k < n * size → w.cell? ⟨g, k, none⟩ = xs[k]?) := by
  obtain ⟨_, ⟨hv, h0⟩ | ⟨g, cap, cur, hv, hg, hh, h1, h2, h3, h4⟩⟩ := h
  · cases hv
    exact ⟨Nat.le_refl _, by unfold maxLen; omega, fun h => absurd h (Nat.lt_irrefl 0)⟩
  · cases hv
    refine ⟨h1, h2, fun _ => ⟨g, rfl, (Array.getElem?_eq_some_iff.1 hh).1, hg, fun k hk => ?_⟩⟩
    have e : (List.take (n * size) cur.toList)[k]? = xs[k]? := by rw [h4]
    rw [List.getElem?_take, if_pos hk] at e
    rw [← e]
    simp [World.cell?, hh]
theorem flat_get {α : Type} (f : α → List Value) (k : Nat) : ∀ (l : List α) (_ : ∀ a ∈ l, (f a).length = k) (i : Nat) (a : α), l[i]? = some a → ∀ r, r < k → (l.flatMap f)[i * k + r]? = (f a)[r]?
  | [], _, i, a, h, _, _ => by simp at h
  | x :: xs, hk, 0, a, h, r, hr => by
    simp at h
    subst h
    rw [List.flatMap_cons, Nat.zero_mul, Nat.zero_add, List.getElem?_append_left (by rw [hk x (by simp)]; exact hr)]
  | x :: xs, hk, i + 1, a, h, r, hr => by
    have hx := hk x (by simp)
    rw [List.getElem?_cons_succ] at h
    rw [List.flatMap_cons, List.getElem?_append_right (by rw [hx, Nat.succ_mul]; omega), hx, show (i + 1) * k + r - k = i * k + r by rw [Nat.succ_mul]; omega]
    exact flat_get f k xs (fun a ha => hk a (List.mem_cons_of_mem _ ha)) i a h r hr
/-- What is known of a datum that was read. -/
structure DtOk (d : Dt) : Prop where
  rg : Rg d.text
  lo : 0 ≤ d.count
  hi : d.count < 65536
  len : d.text.length < 256
structure FnRd (f : Fn) : Prop where
  fr : f.free.length < 256
  co : f.code.length < 65536
structure MdOk (m : Md) : Prop where
  cn : m.consts.length < 65536
  cs : ∀ ds ∈ m.consts, ds.length < 65536 ∧ ∀ d ∈ ds, DtOk d
  fn : m.funcs.length < 65536
  fs : ∀ f ∈ m.funcs, FnRd f
theorem rg_getD {xs : List Int} (h : Rg xs) (i : Nat) : 0 ≤ xs.getD i 0 ∧ xs.getD i 0 < 256 := by
  by_cases hi : i < xs.length
  · exact h _ (by simp [List.getD, List.getElem?_eq_getElem hi])
  · simp [List.getD, List.getElem?_eq_none (Nat.le_of_not_lt hi)]
theorem getD_of {α : Type} {l : List α} {i : Nat} {a z : α} (h : l[i]? = some a) : l.getD i z = a := by simp [List.getD, h]
theorem OwD.da {w : World} {B c : Nat} {p : Option Addr} {l : List (Dt × Value)} {s : Nat → Nat} (h : OwD w B (.slice p l.length c) l s) (hok : ∀ d ∈ l.map (·.1), DtOk d) : Da w p l.length c (l.map (·.1)) := by
  obtain ⟨h1, h2, h3⟩ := owns_cells h.row
  refine ⟨by simp, h1, h2, fun hn => ?_⟩
  obtain ⟨g, rfl, hg, _, hc⟩ := h3 hn
  refine ⟨g, 0, rfl, hg, fun i hi => ?_⟩
  obtain ⟨a, ha⟩ : ∃ a, l[i]? = some a := ⟨_, List.getElem?_eq_getElem hi⟩
  obtain ⟨d, t⟩ := a
  have hd : (l.map (·.1)).getD i dt0 = d := getD_of (by simp [ha])
  rw [hd]
  have hdm : d ∈ l.map (·.1) := List.mem_map.2 ⟨(d, t), List.mem_of_getElem? ha, rfl⟩
  obtain ⟨_, ho, _⟩ := h.txt i d t ha
  obtain ⟨tp, tcc, e, hby, _⟩ := ho.by_ (rg_getD (hok d hdm).rg)
  subst e
  have hcell : ∀ r, r < 4 → w.cell? ⟨g, i * 4 + r, none⟩ = ([.int .i64 d.kind, .int .i64 d.n, .slice tp d.text.length tcc, .int .i64 d.count] : List Value)[r]? := fun r hr => by
    rw [hc _ (by omega)]
    exact flat_get (fun p : Dt × Value => [.int .i64 p.1.kind, .int .i64 p.1.n, p.2, .int .i64 p.1.count]) 4 l (fun _ _ => rfl) i _ ha r hr
  have hlo := (hok d hdm).lo
  have hhi := (hok d hdm).hi
  refine ⟨tp, d.text.length, tcc, ?_, ?_, ?_, ?_, hby, by omega, by omega⟩
  · rw [Nat.zero_add]; exact hcell 0 (by omega)
  · rw [Nat.zero_add]; exact hcell 1 (by omega)
  · rw [Nat.zero_add]; exact hcell 2 (by omega)
  · rw [Nat.zero_add]; exact hcell 3 (by omega)
theorem owns_bo {w : World} {B c : Nat} {p : Option Addr} {bs : List Bool} (h : w.ownsRow B 4 1 (.slice p bs.length c) bs.length (bs.map Value.bool)) : Bo w p bs.length c bs := by
  obtain ⟨h1, h2, h3⟩ := owns_cells h
  refine ⟨rfl, h1, h2, fun hn => ?_⟩
  obtain ⟨g, rfl, hg, _, hc⟩ := h3 hn
  refine ⟨g, 0, rfl, hg, fun i hi => ?_⟩
  rw [Nat.zero_add, hc i (by omega)]
  simp [List.getD, List.getElem?_eq_getElem hi]
theorem owns_ii {w : World} {B c : Nat} {p : Option Addr} {is : List In} (h : w.ownsRow B 48 3 (.slice p is.length c) is.length (iCells is)) : Ii w p is.length c is := by
  obtain ⟨h1, h2, h3⟩ := owns_cells h
  refine ⟨rfl, h1, h2, fun hn => ?_⟩
  obtain ⟨g, rfl, hg, _, hc⟩ := h3 hn
  refine ⟨g, 0, rfl, hg, fun i hi => ?_⟩
  obtain ⟨a, ha⟩ : ∃ a, is[i]? = some a := ⟨_, List.getElem?_eq_getElem hi⟩
  rw [getD_of ha]
  have hcell : ∀ r, r < 3 → w.cell? ⟨g, i * 3 + r, none⟩ = ([.int .i64 a.op, .int .i64 a.a, .int .i64 a.b] : List Value)[r]? := fun r hr => by
    rw [hc _ (by omega)]
    exact flat_get (fun i : In => [.int .i64 i.op, .int .i64 i.a, .int .i64 i.b]) 3 is (fun _ _ => rfl) i _ ha r hr
  refine ⟨?_, ?_, ?_⟩
  · rw [Nat.zero_add]; exact hcell 0 (by omega)
  · rw [Nat.zero_add]; exact hcell 1 (by omega)
  · rw [Nat.zero_add]; exact hcell 2 (by omega)
theorem mem_of_at {α : Type} {l : List α} {i : Nat} {a : α} (h : l[i]? = some a) : a ∈ l := List.mem_of_getElem? h
/-- A module's own value reads as the module. -/
theorem MdV.mo {m : Md} {v : Value} {w w' : World} (h : MdV m v w w') (hok : MdOk m) : ∃ cp cn cc fp fn fc, v = .agg #[.slice cp cn cc, .int .i64 m.globals, .slice fp fn fc] ∧ Mo w' cp cn cc fp fn fc m ∧ Fits cn fn m := by
  obtain ⟨p, c, q, d, L, F, s, t, M, rfl, hLm, hFm, hO, hU, hP, hQ, _⟩ := h
  refine ⟨p, L.length, c, q, F.length, d, rfl, ⟨?_, ?_⟩, ?_⟩
  · obtain ⟨h1, h2, h3⟩ := owns_cells hO
    refine ⟨by rw [← hLm]; simp, h1, h2, fun hn => ?_⟩
    obtain ⟨g, rfl, hg, _, hc⟩ := h3 hn
    refine ⟨g, 0, rfl, hg, fun i hi => ?_⟩
    obtain ⟨a, ha⟩ : ∃ a, L[i]? = some a := ⟨_, List.getElem?_eq_getElem hi⟩
    have hd : m.consts.getD i [] = a.1.map (·.1) := getD_of (by rw [← hLm]; simp [ha])
    have hmem : a.1.map (·.1) ∈ m.consts := by rw [← hLm]; exact List.mem_map.2 ⟨a, mem_of_at ha, rfl⟩
    have hpc := hP.each i a ha
    obtain ⟨q', c', e⟩ := hpc.form
    obtain ⟨s', hD, _⟩ := hpc
    rw [e] at hD
    rw [hd]
    refine ⟨q', a.1.length, c', ?_, hD.da (hok.cs _ hmem).2⟩
    rw [Nat.zero_add, hc i (by omega)]
    simp [ha, e]
  · obtain ⟨h1, h2, h3⟩ := owns_cells hU
    refine ⟨by rw [← hFm]; simp, h1, h2, fun hn => ?_⟩
    obtain ⟨g, rfl, hg, _, hc⟩ := h3 hn
    refine ⟨g, 0, rfl, hg, fun i hi => ?_⟩
    obtain ⟨a, ha⟩ : ∃ a, F[i]? = some a := ⟨_, List.getElem?_eq_getElem hi⟩
    have hd : m.funcs.getD i fn0 = a.1 := getD_of (by rw [← hFm]; simp [ha])
    obtain ⟨fp, fc, cp, cc, e, k1, k2, _⟩ := hQ.each i a ha
    have hall : ∀ b ∈ F, (b.2.cells.toList).length = 3 := fun b hb => by
      obtain ⟨j, hj⟩ := List.getElem?_of_mem hb
      obtain ⟨_, _, _, _, e', _⟩ := hQ.each j b hj
      rw [e']; rfl
    have hcell : ∀ r, r < 3 → w'.cell? ⟨g, i * 3 + r, none⟩ = ([.int .i64 a.1.params, .slice fp a.1.free.length fc, .slice cp a.1.code.length cc] : List Value)[r]? := fun r hr => by
      rw [hc _ (by omega)]
      have := flat_get (fun b : Fn × Value => b.2.cells.toList) 3 F hall i a ha r hr
      rw [e] at this
      exact this
    rw [hd]
    refine ⟨fp, _, fc, cp, _, cc, ⟨?_, ?_, ?_, owns_bo k1, owns_ii k2⟩⟩
    · rw [Nat.zero_add]; exact hcell 0 (by omega)
    · rw [Nat.zero_add]; exact hcell 1 (by omega)
    · rw [Nat.zero_add]; exact hcell 2 (by omega)
  · have hcl : L.length = m.consts.length := by rw [← hLm]; simp
    have hfl : F.length = m.funcs.length := by rw [← hFm]; simp
    refine ⟨by have := hok.cn; omega, by have := hok.fn; omega, fun i hi => ?_, fun i hi => ?_⟩
    · have hi' : i < m.consts.length := by omega
      have hmem : m.consts.getD i [] ∈ m.consts := by rw [getD_of (List.getElem?_eq_getElem hi')]; exact List.getElem_mem hi'
      obtain ⟨g1, g2⟩ := hok.cs _ hmem
      refine ⟨by omega, fun j hj => ?_⟩
      have := (g2 _ (by rw [getD_of (List.getElem?_eq_getElem hj)]; exact List.getElem_mem hj : (m.consts.getD i []).getD j dt0 ∈ m.consts.getD i [])).len
      omega
    · have hi' : i < m.funcs.length := by omega
      have hmem : m.funcs.getD i fn0 ∈ m.funcs := by rw [getD_of (List.getElem?_eq_getElem hi')]; exact List.getElem_mem hi'
      have := hok.fs _ hmem
      exact ⟨by have := this.fr; omega, by have := this.co; omega⟩
end Go.Proofs.YtkkmoaidbmnolaaGreatDoor
