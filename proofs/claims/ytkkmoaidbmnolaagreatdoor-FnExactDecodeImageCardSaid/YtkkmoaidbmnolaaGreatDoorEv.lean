import Derived.Test.YtkkmoaidbmnolaaGreatDoorEl
namespace Go.Proofs.YtkkmoaidbmnolaaGreatDoor
open Go.RowKit Ch1
/-! ### what the specification's reader has read is of a size -/
theorem rsD_ok (xs : List Int) (d : Dt) (rest : List Int) (hr : Rg xs) (h : rsD xs = some (d, rest)) : Rg rest ∧ DtOk d ∧ (False → xs = [] ++ rest) := by
  unfold rsD at h
  obtain ⟨⟨z, r1⟩, h1, h2⟩ := Option.bind_eq_some_iff.1 h
  obtain ⟨e1, g1⟩ := rdN_inv (by omega) hr h1
  change rsR z r1 = some (d, rest) at h2
  unfold rsR at h2
  split at h2
  · obtain ⟨⟨y, r2⟩, k1, k2⟩ := Option.map_eq_some_iff.1 h2
    cases k2
    obtain ⟨e2, g2⟩ := rdN_inv (by omega) g1 k1
    exact ⟨g2, DtOk.plain _ _ _ (by omega) (by omega), False.elim⟩
  · split at h2
    · obtain ⟨⟨y, r2⟩, k1, k2⟩ := Option.map_eq_some_iff.1 h2
      cases k2
      obtain ⟨e2, g2⟩ := rdN_inv (by omega) g1 k1
      exact ⟨g2, DtOk.plain _ _ _ (by omega) (by omega), False.elim⟩
    · split at h2
      · obtain ⟨⟨y, r2⟩, k1, k2⟩ := Option.bind_eq_some_iff.1 h2
        have hy := rdN_byte g1 k1
        obtain ⟨e2, g2⟩ := rdN_inv (by omega) g1 k1
        simp only at k2
        split at k2
        · rename_i hle
          cases k2
          have hl : (r2.take y.toNat).length = y.toNat := by rw [List.length_take]; omega
          exact ⟨fun x hx => g2 x (List.mem_of_mem_drop hx), ⟨fun x hx => g2 x (List.mem_of_mem_take hx), by show (0 : Int) ≤ 0; omega, by show (0 : Int) < 65536; omega, by show (r2.take y.toNat).length < 256; omega⟩, False.elim⟩
        · cases k2
      · obtain ⟨⟨y, r2⟩, k1, k2⟩ := Option.map_eq_some_iff.1 h2
        cases k2
        have hy := rdN_two g1 k1
        obtain ⟨e2, g2⟩ := rdN_inv (by omega) g1 k1
        exact ⟨g2, DtOk.plain _ _ _ hy.1 hy.2, False.elim⟩
theorem rsT_ok (xs : List Int) (b : Bool) (rest : List Int) (hr : Rg xs) (h : rsT xs = some (b, rest)) : Rg rest ∧ True ∧ (False → xs = [] ++ rest) := by
  unfold rsT at h
  obtain ⟨⟨z, r1⟩, h1, h2⟩ := Option.map_eq_some_iff.1 h
  cases h2
  exact ⟨(rdN_inv (by omega) hr h1).2, trivial, False.elim⟩
theorem rsFn_ok (xs : List Int) (f : Fn) (rest : List Int) (hr : Rg xs) (h : rsFn xs = some (f, rest)) : Rg rest ∧ FnRd f ∧ (False → xs = [] ++ rest) := by
  unfold rsFn rsFree at h
  obtain ⟨⟨a, r⟩, h1, h2⟩ := Option.bind_eq_some_iff.1 h
  obtain ⟨⟨k, r2⟩, h3, h4⟩ := Option.bind_eq_some_iff.1 h2
  obtain ⟨⟨c, r3⟩, h5, h6⟩ := Option.map_eq_some_iff.1 h4
  cases h6
  obtain ⟨⟨p, q1⟩, k1, k2⟩ := Option.bind_eq_some_iff.1 h1
  obtain ⟨⟨n, q2⟩, k3, k4⟩ := Option.bind_eq_some_iff.1 k2
  obtain ⟨⟨t, q3⟩, k5, k6⟩ := Option.map_eq_some_iff.1 k4
  cases k6
  obtain ⟨e1, g1⟩ := rdN_inv (by omega) hr k1
  obtain ⟨e2, g2⟩ := rdN_inv (by omega) g1 k3
  have hnr := rdN_byte g1 k3
  obtain ⟨l1, g3, _, _⟩ := rdL_inv (P := fun _ => False) (Q := fun _ => True) (wr := fun _ => []) rsT_ok _ _ _ _ g2 k5
  obtain ⟨e4, g4⟩ := rdN_inv (by omega) g3 h3
  have hkr := rdN_two g3 h3
  obtain ⟨l2, g5, _, _⟩ := rdL_inv (P := fun _ => True) (Q := fun _ => True) (wr := isZ) rdI_inv _ _ _ _ g4 h5
  simp only at l1 l2
  exact ⟨g5, ⟨by show t.length < 256; omega, by show c.length < 65536; omega⟩, False.elim⟩
theorem rsCst_ok (xs : List Int) (ds : List Dt) (rest : List Int) (hr : Rg xs) (h : rsCst xs = some (ds, rest)) : Rg rest ∧ (ds.length < 65536 ∧ ∀ d ∈ ds, DtOk d) ∧ (False → xs = [] ++ rest) := by
  unfold rsCst at h
  obtain ⟨⟨z, r1⟩, h1, h2⟩ := Option.bind_eq_some_iff.1 h
  have hz := rdN_two hr h1
  obtain ⟨e1, g1⟩ := rdN_inv (by omega) hr h1
  obtain ⟨l1, g2, q2, _⟩ := rdL_inv (P := fun _ => False) (Q := DtOk) (wr := fun _ => []) rsD_ok _ _ _ _ g1 h2
  exact ⟨g2, ⟨by simp only at l1; omega, q2⟩, False.elim⟩
theorem rsMd_ok (xs : List Int) (m : Md) (rest : List Int) (hr : Rg xs) (h : rsMd xs = some (m, rest)) : MdOk m := by
  unfold rsMd rsMc at h
  obtain ⟨⟨a, r⟩, h1, h2⟩ := Option.bind_eq_some_iff.1 h
  obtain ⟨⟨n, r2⟩, h3, h4⟩ := Option.bind_eq_some_iff.1 h2
  obtain ⟨⟨f, r3⟩, h5, h6⟩ := Option.map_eq_some_iff.1 h4
  cases h6
  obtain ⟨⟨g, q1⟩, k1, k2⟩ := Option.bind_eq_some_iff.1 h1
  obtain ⟨⟨k, q2⟩, k3, k4⟩ := Option.bind_eq_some_iff.1 k2
  obtain ⟨⟨c, q3⟩, k5, k6⟩ := Option.map_eq_some_iff.1 k4
  cases k6
  obtain ⟨e1, g1⟩ := rdN_inv (by omega) hr k1
  obtain ⟨e2, g2⟩ := rdN_inv (by omega) g1 k3
  have hkr := rdN_two g1 k3
  obtain ⟨l1, g3, qs, _⟩ := rdL_inv (P := fun _ => False) (Q := fun ds : List Dt => ds.length < 65536 ∧ ∀ d ∈ ds, DtOk d) (wr := fun _ => []) rsCst_ok _ _ _ _ g2 k5
  obtain ⟨e4, g4⟩ := rdN_inv (by omega) g3 h3
  have hnr := rdN_two g3 h3
  obtain ⟨l2, g5, fq, _⟩ := rdL_inv (P := fun _ => False) (Q := FnRd) (wr := fun _ => []) rsFn_ok _ _ _ _ g4 h5
  simp only at l1 l2
  exact ⟨by show c.length < 65536; omega, qs, by show f.length < 65536; omega, fq⟩
end Go.Proofs.YtkkmoaidbmnolaaGreatDoor
namespace Go.Proofs.YtkkmoaidbmnolaaGreatDoor
open Go.RowKit Ch1
/-- What lies about while the specification reads: the result's block is empty. -/
structure Ab (w wr : World) : Prop where
  bel : Below w.heap.size w wr
  zero : wr.heap[w.heap.size]? = some (.cells #[.slice none 0 0, .int .i64 0, .slice none 0 0] 26)
  siz : w.heap.size + 3 ≤ wr.heap.size
theorem Ab.sr {w wr w' : World} (h : Ab w wr) (hs : Sr (w.heap.size + 1) wr w') : Ab w w' :=
  ⟨h.bel.trans (hs.below (by omega) (by have := h.siz; omega)), (hs.block _ (by have := h.siz; omega) (by omega)).trans h.zero, Nat.le_trans h.siz hs.size⟩
theorem Ab.grow {w wr w' : World} {B : Nat} (h : Ab w wr) (hb : Below B wr w') (hB : w.heap.size + 3 ≤ B) : Ab w w' :=
  ⟨h.bel.trans (hb.mono (by omega)), (hb.block _ (by omega)).trans h.zero, Nat.le_trans h.siz hb.size⟩
theorem Ab.set {w wr : World} {g : Nat} (h : Ab w wr) (hg : w.heap.size < g) (j : Nat) (x : Value) : Ab w (wr.setCell ⟨g, j, none⟩ x) :=
  ⟨h.bel.setCell (by simp only; omega) _, (Below.heap_setCell _ _ _ _ (by simp only; omega)).trans h.zero, by rw [set_size]; exact h.siz⟩
/-- While constants are read. -/
structure Sc (w : World) (B cn : Nat) (g : Int) (r2 : List Int) (bad2 : Bool) (i : Nat) (q : Option Addr) (cc : Nat) (vals : List Value) (rest : List Int) (bad : Bool) (wr : World) : Prop where
  mx : wr.heap[w.heap.size + 1 + 1]? = some (.cells #[.slice q i cc, .int .i64 g, .slice none 0 0] 26)
  own : wr.ownsRow B 39 1 (.slice q i cc) i vals
  rd : RsE wr (w.heap.size + 1) rest bad
  ab : Ab w wr
  siz : B ≤ wr.heap.size
  lo : w.heap.size + 3 ≤ B
  good : bad = false → bad2 = false ∧ ∃ L s, L.map (·.2) = vals ∧ L.length = i ∧ OwL DaP wr B L s ∧ rdL rsCst cn r2 = (rdL rsCst (cn - i) rest).map (fun q => (L.map (fun a => a.1.map (·.1)) ++ q.1, q.2))
  badp : bad = true → bad2 = true ∨ rdL rsCst cn r2 = none
/-- While a constant's data are read. -/
structure Sd (b k : Nat) (r3 : List Int) (bad3 : Bool) (wO : World) (j : Nat) (pd : Option Addr) (cd : Nat) (dv : List Value) (rest : List Int) (bad : Bool) (wq : World) : Prop where
  own : wq.ownsRow wO.heap.size 41 4 (.slice pd j cd) j dv
  rd : RsE wq b rest bad
  sr : Sr b wO wq
  good : bad = false → bad3 = false ∧ ∃ l s, dCells l = dv ∧ l.length = j ∧ OwD wq wO.heap.size (.slice pd j cd) l s ∧ rdL rsD k r3 = (rdL rsD (k - j) rest).map (fun q => (l.map (·.1) ++ q.1, q.2))
  badp : bad = true → bad3 = true ∨ rdL rsD k r3 = none
theorem Sd.step {b k : Nat} {r3 : List Int} {bad3 : Bool} {wO : World} {j : Nat} {pd : Option Addr} {cd : Nat} {dv : List Value} {rest : List Int} {wr w4 w5 : World} (h : Sd b k r3 bad3 wO j pd cd dv rest false wr) (hb : b < wO.heap.size) (hj : j < k)
    {d : Dt} {q : Option Addr} {m c : Nat} {r4 : List Int} {bad4 : Bool} (hs : Sr b wr w4) (hR : RsE w4 b r4 bad4) (hg : bad4 = false → false = false ∧ rsD rest = some (d, r4) ∧ Ow w4 wr.heap.size (.slice q m c) d.text) (hbd : bad4 = true → false = true ∨ rsD rest = none)
    {v' : Value} (ho : w5.ownsRow wO.heap.size 41 4 v' (j + 1) (dv ++ [.int .i64 d.kind, .int .i64 d.n, .slice q m c, .int .i64 d.count])) (hbl : Below wO.heap.size w4 w5) (hbt : But w4 w5 (.slice pd j cd)) :
    ∃ p3 c3, v' = .slice p3 (j + 1) c3 ∧ Sd b k r3 bad3 wO (j + 1) p3 c3 (dv ++ [.int .i64 d.kind, .int .i64 d.n, .slice q m c, .int .i64 d.count]) r4 bad4 w5 := by
  obtain ⟨p3, c3, rfl⟩ := owns_form ho
  refine ⟨p3, c3, rfl, ho, hR.keep (fun k hk => hbl.block k (by omega)) hbl.size, (h.sr.trans hs).grow hbl, fun hb4 => ?_, fun hb4 => ?_⟩
  · obtain ⟨_, h2, h3⟩ := hg hb4
    obtain ⟨h4, l, s, rfl, h6, h7, h8⟩ := h.good rfl
    obtain ⟨s', h9⟩ := h7.snoc hs hb ⟨q, m, c, rfl⟩ h3 (by rw [h6]; exact ho) hbt hbl
    refine ⟨h4, l ++ [(d, .slice q m c)], s', by unfold dCells; simp, by simp [h6], h9, ?_⟩
    rw [h8, show k - j = (k - (j + 1)) + 1 by omega, rdL_step h2]
    simp
  · obtain ⟨h4, l, s, _, _, _, h8⟩ := h.good rfl
    rcases hbd hb4 with h9 | h9
    · cases h9
    · refine Or.inr ?_
      rw [h8, show k - j = (k - (j + 1)) + 1 by omega, rdL_none h9]
      rfl
/-- One constant more. -/
theorem Sc.step {w : World} {B cn : Nat} {g : Int} {r2 : List Int} {bad2 : Bool} {i : Nat} {q : Option Addr} {cc : Nat} {vals : List Value} {rest : List Int} {wO wq w4 : World} (h : Sc w B cn g r2 bad2 i q cc vals rest false wO) (hi : i < cn)
    {k : Nat} {r3 : List Int} {bad3 : Bool} (hg3 : bad3 = false → false = false ∧ rdN 2 rest = some ((k : Int), r3)) (hb3 : bad3 = true → false = true ∨ rdN 2 rest = none)
    {j : Nat} {pd : Option Addr} {cd : Nat} {dv : List Value} {r4 : List Int} {bad4 : Bool} (hd : Sd (w.heap.size + 1) k r3 bad3 wO j pd cd dv r4 bad4 wq) (hjk : bad4 = false → j = k)
    {v' : Value} (ho : w4.ownsRow B 39 1 v' (i + 1) (vals ++ [.slice pd j cd])) (hbl : Below B wq w4) (hbt : But wq w4 (.slice q i cc)) :
    ∃ p4 c4, v' = .slice p4 (i + 1) c4 ∧ Sc w B cn g r2 bad2 (i + 1) p4 c4 (vals ++ [.slice pd j cd]) r4 bad4 (w4.setCell ⟨w.heap.size + 1 + 1, 0, none⟩ (.slice p4 (i + 1) c4)) := by
  obtain ⟨p4, c4, rfl⟩ := owns_form ho
  have hlo := h.lo
  have hsz := h.siz
  have hO3 : wq.ownsRow B 39 1 (.slice q i cc) i vals := owns_sr h.own hd.sr (by omega)
  have hmq : wq.heap[w.heap.size + 1 + 1]? = some (.cells #[.slice q i cc, .int .i64 g, .slice none 0 0] 26) := (hd.sr.block _ (by omega) (by omega)).trans h.mx
  have hm4 : w4.heap[w.heap.size + 1 + 1]? = some (.cells #[.slice q i cc, .int .i64 g, .slice none 0 0] 26) := (hbl.block _ (by omega)).trans hmq
  refine ⟨p4, c4, rfl, set_zero hm4 _, owns_set ho hm4 (by decide) _, (hd.rd.keep (fun k hk => hbl.block k (by omega)) hbl.size).later (by omega) _ _, ((h.ab.sr hd.sr).grow hbl (by omega)).set (by omega) _ _, by rw [set_size]; exact Nat.le_trans hsz (Nat.le_trans hd.sr.size hbl.size), hlo, fun hb4 => ?_, fun hb4 => ?_⟩
  · obtain ⟨g1, l, s, h5, h6, h7, h8⟩ := hd.good hb4
    obtain ⟨_, g3⟩ := hg3 g1
    obtain ⟨g4, L, s1, e1, e2, e3, e4⟩ := h.good rfl
    obtain rfl := hjk hb4
    have hcs : rsCst rest = some (l.map (·.1), r4) := by
      unfold rsCst
      rw [g3]
      show rdL rsD (j : Int).toNat r3 = _
      rw [Int.toNat_natCast, h8, Nat.sub_self, rdL]
      simp
    obtain ⟨s', h9⟩ := e3.more daP_pcs (j := 0) (x := .slice p4 (i + 1) c4) hd.sr (by omega) hO3 innerC hbt hbl.size hm4 innerM (a := (l, .slice pd j cd)) ⟨s, h7, h7.hi, fun k hk => (owns_lt h7.row k hk).1, Nat.le_refl _⟩
    refine ⟨g4, L ++ [(l, .slice pd j cd)], s', by simp [e1], by simp [e2], h9, ?_⟩
    rw [e4, show cn - i = (cn - (i + 1)) + 1 by omega, rdL_step hcs]
    simp
  · obtain ⟨g4, L, s1, e1, e2, e3, e4⟩ := h.good rfl
    refine Or.inr ?_
    have hn : rsCst rest = none := by
      unfold rsCst
      by_cases hb : bad3 = true
      · rcases hb3 hb with h9 | h9
        · cases h9
        · rw [h9]; rfl
      · have hbf : bad3 = false := by simpa using hb
        obtain ⟨_, g3⟩ := hg3 hbf
        rw [g3]
        show rdL rsD (k : Int).toNat r3 = none
        rw [Int.toNat_natCast]
        rcases hd.badp hb4 with h9 | h9
        · exact absurd h9 hb
        · exact h9
    rw [e4, show cn - i = (cn - (i + 1)) + 1 by omega, rdL_none hn]
    rfl
end Go.Proofs.YtkkmoaidbmnolaaGreatDoor
namespace Go.Proofs.YtkkmoaidbmnolaaGreatDoor
open Go.RowKit Ch1
/-- While a function's captured values are read; the function's variable is the block behind the world wO. -/
structure Sg (b k : Nat) (par : Int) (r3 : List Int) (bad3 : Bool) (wO : World) (j : Nat) (fp : Option Addr) (fc : Nat) (bs : List Bool) (rest : List Int) (bad : Bool) (wq : World) : Prop where
  fx : wq.heap[wO.heap.size]? = some (.cells #[.int .i64 par, .slice fp j fc, .slice none 0 0] 46)
  own : wq.ownsRow wO.heap.size 4 1 (.slice fp j fc) j (bs.map Value.bool)
  len : bs.length = j
  rd : RsE wq b rest bad
  sr : Sr b wO wq
  good : bad = false → bad3 = false ∧ rdL rsT k r3 = (rdL rsT (k - j) rest).map (fun q => (bs ++ q.1, q.2))
  badp : bad = true → bad3 = true ∨ rdL rsT k r3 = none
theorem Sg.step {b k : Nat} {par : Int} {r3 : List Int} {bad3 : Bool} {wO : World} {j : Nat} {fp : Option Addr} {fc : Nat} {bs : List Bool} {rest : List Int} {wr w4 w5 : World} (h : Sg b k par r3 bad3 wO j fp fc bs rest false wr) (hb : b < wO.heap.size) (hj : j < k)
    {z : Nat} {r4 : List Int} {bad4 : Bool} (hs : Sr b wr w4) (hR : RsE w4 b r4 bad4) (hg : bad4 = false → false = false ∧ rdN 1 rest = some ((z : Int), r4)) (hbd : bad4 = true → false = true ∨ rdN 1 rest = none)
    {v' : Value} {x : Bool} (hx : x = decide ((z : Int) = 1)) (ho : w5.ownsRow wO.heap.size 4 1 v' (j + 1) (bs.map Value.bool ++ [.bool x])) (hbl : Below wO.heap.size w4 w5) (hbt : But w4 w5 (.slice fp j fc)) :
    ∃ p3 c3, v' = .slice p3 (j + 1) c3 ∧ w5.heap[wO.heap.size]? = some (.cells #[.int .i64 par, .slice fp j fc, .slice none 0 0] 46) ∧ Sg b k par r3 bad3 wO (j + 1) p3 c3 (bs ++ [x]) r4 bad4 (w5.setCell ⟨wO.heap.size, 1, none⟩ (.slice p3 (j + 1) c3)) := by
  obtain ⟨p3, c3, rfl⟩ := owns_form ho
  have hlt : wO.heap.size < wr.heap.size := (Array.getElem?_eq_some_iff.1 h.fx).1
  have hf4 : w4.heap[wO.heap.size]? = some (.cells #[.int .i64 par, .slice fp j fc, .slice none 0 0] 46) := (hs.block _ hlt (by omega)).trans h.fx
  have hf5 : w5.heap[wO.heap.size]? = some (.cells #[.int .i64 par, .slice fp j fc, .slice none 0 0] 46) := (hbt _ (Array.getElem?_eq_some_iff.1 hf4).1 (owns_ne (owns_sr h.own hs hb) hf4 (by decide))).trans hf4
  refine ⟨p3, c3, rfl, hf5, set_one hf5 _, ?_, by simp [h.len], (hR.keep (fun k hk => hbl.block k (by omega)) hbl.size).later hb _ _, ((h.sr.trans hs).grow hbl).later (Nat.le_refl _) _ _, fun hb4 => ?_, fun hb4 => ?_⟩
  · rw [List.map_append]
    exact owns_set ho hf5 (by decide) _
  · obtain ⟨_, h2⟩ := hg hb4
    obtain ⟨h4, h8⟩ := h.good rfl
    have ht : rsT rest = some (x, r4) := by unfold rsT; rw [h2, hx]; rfl
    refine ⟨h4, ?_⟩
    rw [h8, show k - j = (k - (j + 1)) + 1 by omega, rdL_step ht]
  · obtain ⟨h4, h8⟩ := h.good rfl
    rcases hbd hb4 with h9 | h9
    · cases h9
    · refine Or.inr ?_
      have ht : rsT rest = none := by unfold rsT; rw [h9]; rfl
      rw [h8, show k - j = (k - (j + 1)) + 1 by omega, rdL_none ht]
      rfl
/-- While a function's code is read. -/
structure Si (b k : Nat) (par : Int) (fp : Option Addr) (fn fc : Nat) (bs : List Bool) (r3 : List Int) (bad3 : Bool) (wO : World) (j : Nat) (cp : Option Addr) (cc : Nat) (is : List In) (rest : List Int) (bad : Bool) (wq : World) : Prop where
  fx : wq.heap[wO.heap.size]? = some (.cells #[.int .i64 par, .slice fp fn fc, .slice cp j cc] 46)
  ownF : wq.ownsRow wO.heap.size 4 1 (.slice fp fn fc) fn (bs.map Value.bool)
  lenF : bs.length = fn
  own : wq.ownsRow wO.heap.size 48 3 (.slice cp j cc) j (iCells is)
  len : is.length = j
  rd : RsE wq b rest bad
  sr : Sr b wO wq
  good : bad = false → bad3 = false ∧ rdL rdI k r3 = (rdL rdI (k - j) rest).map (fun q => (is ++ q.1, q.2))
  badp : bad = true → bad3 = true ∨ rdL rdI k r3 = none
/-- Three numbers are an instruction, or one of them was missing. -/
theorem three {rest r4 r5 r6 : List Int} {z4 z5 z6 : Nat} {bad4 bad5 bad6 : Bool} (g4 : bad4 = false → false = false ∧ rdN 1 rest = some ((z4 : Int), r4)) (b4 : bad4 = true → false = true ∨ rdN 1 rest = none) (g5 : bad5 = false → bad4 = false ∧ rdN 2 r4 = some ((z5 : Int), r5)) (b5 : bad5 = true → bad4 = true ∨ rdN 2 r4 = none) (g6 : bad6 = false → bad5 = false ∧ rdN 1 r5 = some ((z6 : Int), r6)) (b6 : bad6 = true → bad5 = true ∨ rdN 1 r5 = none) :
    (bad6 = false → rdI rest = some (⟨z4, z5, z6⟩, r6)) ∧ (bad6 = true → rdI rest = none) := by
  refine ⟨fun h => ?_, fun h => ?_⟩
  · obtain ⟨h5, e6⟩ := g6 h
    obtain ⟨h4, e5⟩ := g5 h5
    obtain ⟨_, e4⟩ := g4 h4
    exact rdI_some e4 e5 e6
  · unfold rdI
    cases h4 : bad4
    · rw [(g4 h4).2]
      show (rdN 2 r4).bind _ = none
      cases h5 : bad5
      · rw [(g5 h5).2]
        show (rdN 1 r5).map _ = none
        rcases b6 h with h9 | h9
        · rw [h5] at h9; cases h9
        · rw [h9]; rfl
      · rcases b5 h5 with h9 | h9
        · rw [h4] at h9; cases h9
        · rw [h9]; rfl
    · rcases b4 h4 with h9 | h9
      · cases h9
      · rw [h9]; rfl
theorem Si.step {b k : Nat} {par : Int} {fp : Option Addr} {fn fc : Nat} {bs : List Bool} {r3 : List Int} {bad3 : Bool} {wO : World} {j : Nat} {cp : Option Addr} {cc : Nat} {is : List In} {rest : List Int} {wr w4 w5 : World} (h : Si b k par fp fn fc bs r3 bad3 wO j cp cc is rest false wr) (hb : b < wO.heap.size) (hj : j < k)
    {d : In} {r4 : List Int} {bad4 : Bool} (hs : Sr b wr w4) (hR : RsE w4 b r4 bad4) (hg : bad4 = false → rdI rest = some (d, r4)) (hbd : bad4 = true → rdI rest = none)
    {v' : Value} (ho : w5.ownsRow wO.heap.size 48 3 v' (j + 1) (iCells is ++ [.int .i64 d.op, .int .i64 d.a, .int .i64 d.b])) (hbl : Below wO.heap.size w4 w5) (hbt : But w4 w5 (.slice cp j cc)) :
    ∃ p3 c3, v' = .slice p3 (j + 1) c3 ∧ w5.heap[wO.heap.size]? = some (.cells #[.int .i64 par, .slice fp fn fc, .slice cp j cc] 46) ∧ Si b k par fp fn fc bs r3 bad3 wO (j + 1) p3 c3 (is ++ [d]) r4 bad4 (w5.setCell ⟨wO.heap.size, 2, none⟩ (.slice p3 (j + 1) c3)) := by
  obtain ⟨p3, c3, rfl⟩ := owns_form ho
  have hlt : wO.heap.size < wr.heap.size := (Array.getElem?_eq_some_iff.1 h.fx).1
  have hO4 := owns_sr h.own hs hb
  have hF4 := owns_sr h.ownF hs hb
  have hf4 : w4.heap[wO.heap.size]? = some (.cells #[.int .i64 par, .slice fp fn fc, .slice cp j cc] 46) := (hs.block _ hlt (by omega)).trans h.fx
  have hf5 : w5.heap[wO.heap.size]? = some (.cells #[.int .i64 par, .slice fp fn fc, .slice cp j cc] 46) := (hbt _ (Array.getElem?_eq_some_iff.1 hf4).1 (owns_ne hO4 hf4 (by decide))).trans hf4
  refine ⟨p3, c3, rfl, hf5, set_two hf5 _, owns_set (owns_but hF4 hO4 (by decide) hbt) hf5 (by decide) _, h.lenF, ?_, by simp [h.len], (hR.keep (fun k hk => hbl.block k (by omega)) hbl.size).later hb _ _, ((h.sr.trans hs).grow hbl).later (Nat.le_refl _) _ _, fun hb4 => ?_, fun hb4 => ?_⟩
  · rw [iCells_snoc]
    exact owns_set ho hf5 (by decide) _
  · obtain ⟨h4, h8⟩ := h.good rfl
    refine ⟨h4, ?_⟩
    rw [h8, show k - j = (k - (j + 1)) + 1 by omega, rdL_step (hg hb4)]
  · obtain ⟨h4, h8⟩ := h.good rfl
    refine Or.inr ?_
    rw [h8, show k - j = (k - (j + 1)) + 1 by omega, rdL_none (hbd hb4)]
    rfl
/-- While functions are read. -/
structure Sf (w : World) (B M fn : Nat) (g : Int) (r5 : List Int) (bad5 : Bool) (i : Nat) (q : Option Addr) (cc : Nat) (vals : List Value) (K : List (List Dt) → Prop) (j : Nat) (q2 : Option Addr) (d2 : Nat) (fv : List Value) (rest : List Int) (bad : Bool) (wr : World) : Prop where
  mx : wr.heap[w.heap.size + 1 + 1]? = some (.cells #[.slice q i cc, .int .i64 g, .slice q2 j d2] 26)
  ownC : wr.ownsRow B 39 1 (.slice q i cc) i vals
  own : wr.ownsRow B 46 3 (.slice q2 j d2) j fv
  rd : RsE wr (w.heap.size + 1) rest bad
  ab : Ab w wr
  siz : M ≤ wr.heap.size
  lo : w.heap.size + 3 ≤ B
  lm : B ≤ M
  con : bad5 = false → ∃ L s, L.map (·.2) = vals ∧ L.length = i ∧ OwL DaP wr B L s ∧ s L.length ≤ M ∧ K (L.map (fun a => a.1.map (·.1)))
  good : bad = false → bad5 = false ∧ ∃ F t, fCells F = fv ∧ F.length = j ∧ OwL FnP wr M F t ∧ rdL rsFn fn r5 = (rdL rsFn (fn - j) rest).map (fun q => (F.map (·.1) ++ q.1, q.2))
  badp : bad = true → bad5 = true ∨ rdL rsFn fn r5 = none
theorem fCells_snoc (F : List (Fn × Value)) (f : Fn) (a b c : Value) : fCells (F ++ [(f, .agg #[a, b, c])]) = fCells F ++ (Value.agg #[a, b, c]).cells.toList := by unfold fCells; rw [List.flatMap_append]; simp
theorem Sf.step {w : World} {B M fn : Nat} {g : Int} {r5 : List Int} {bad5 : Bool} {i : Nat} {q : Option Addr} {cc : Nat} {vals : List Value} {K : List (List Dt) → Prop} {j : Nat} {q2 : Option Addr} {d2 : Nat} {fv : List Value} {rest : List Int} {wO wq w4 : World} (h : Sf w B M fn g r5 bad5 i q cc vals K j q2 d2 fv rest false wO) (hj : j < fn)
    {par k1 k2 : Nat} {r6 r7 r8 r9 : List Int} {bad6 bad7 bad8 bad9 : Bool} (g6 : bad6 = false → false = false ∧ rdN 1 rest = some ((par : Int), r6)) (b6 : bad6 = true → false = true ∨ rdN 1 rest = none)
    (g7 : bad7 = false → bad6 = false ∧ rdN 1 r6 = some ((k1 : Int), r7)) (b7 : bad7 = true → bad6 = true ∨ rdN 1 r6 = none)
    {wx : World} {m1 : Nat} {fp : Option Addr} {fc : Nat} {bs : List Bool} (hF : Sg (w.heap.size + 1) k1 par r7 bad7 wO m1 fp fc bs r8 bad8 wx) (hm1 : bad8 = false → m1 = k1)
    (g9 : bad9 = false → bad8 = false ∧ rdN 2 r8 = some ((k2 : Int), r9)) (b9 : bad9 = true → bad8 = true ∨ rdN 2 r8 = none)
    {m2 : Nat} {cp : Option Addr} {c2 : Nat} {is : List In} {rA : List Int} {badA : Bool} (hI : Si (w.heap.size + 1) k2 par fp m1 fc bs r9 bad9 wO m2 cp c2 is rA badA wq) (hm2 : badA = false → m2 = k2)
    {v' : Value} (ho : w4.ownsRow B 46 3 v' (j + 1) (fv ++ [.int .i64 par, .slice fp m1 fc, .slice cp m2 c2])) (hbl : Below B wq w4) (hbt : But wq w4 (.slice q2 j d2)) :
    ∃ p4 c4, v' = .slice p4 (j + 1) c4 ∧ w4.heap[w.heap.size + 1 + 1]? = some (.cells #[.slice q i cc, .int .i64 g, .slice q2 j d2] 26) ∧ Sf w B M fn g r5 bad5 i q cc vals K (j + 1) p4 c4 (fv ++ [.int .i64 par, .slice fp m1 fc, .slice cp m2 c2]) rA badA (w4.setCell ⟨w.heap.size + 1 + 1, 2, none⟩ (.slice p4 (j + 1) c4)) := by
  obtain ⟨p4, c4, rfl⟩ := owns_form ho
  have hlo := h.lo
  have hlm := h.lm
  have hsz := h.siz
  have hO3 : wq.ownsRow B 46 3 (.slice q2 j d2) j fv := owns_sr h.own hI.sr (by omega)
  have hC3 : wq.ownsRow B 39 1 (.slice q i cc) i vals := owns_sr h.ownC hI.sr (by omega)
  have hmq : wq.heap[w.heap.size + 1 + 1]? = some (.cells #[.slice q i cc, .int .i64 g, .slice q2 j d2] 26) := (hI.sr.block _ (by omega) (by omega)).trans h.mx
  have hm4 : w4.heap[w.heap.size + 1 + 1]? = some (.cells #[.slice q i cc, .int .i64 g, .slice q2 j d2] 26) := (hbl.block _ (by omega)).trans hmq
  have hag : ∀ lo hi, w.heap.size + 1 < lo → Agr lo hi wO (w4.setCell ⟨w.heap.size + 1 + 1, 2, none⟩ (.slice p4 (j + 1) c4)) := fun lo hi hl => (Agr.of_sr hI.sr hl).trans ((Agr.of_but hO3 hbt innerF).trans (Agr.of_set hm4 innerM _))
  have h4s : wO.heap.size ≤ (w4.setCell ⟨w.heap.size + 1 + 1, 2, none⟩ (.slice p4 (j + 1) c4)).heap.size := by rw [set_size]; exact Nat.le_trans hI.sr.size hbl.size
  refine ⟨p4, c4, rfl, hm4, set_two hm4 _, owns_set (owns_but hC3 hO3 (by decide) hbt) hm4 (by decide) _, owns_set ho hm4 (by decide) _, (hI.rd.keep (fun k hk => hbl.block k (by omega)) hbl.size).later (by omega) _ _, ((h.ab.sr hI.sr).grow hbl (by omega)).set (by omega) _ _, Nat.le_trans hsz h4s, hlo, hlm, fun h5 => ?_, fun hA => ?_, fun hA => ?_⟩
  · obtain ⟨L, s, e1, e2, e3, e4, e5⟩ := h.con h5
    exact ⟨L, s, e1, e2, e3.keep daP_pcs (hag _ _ (by omega)) h4s, e4, e5⟩
  · obtain ⟨f5, F, t, e1, e2, e3, e4⟩ := h.good rfl
    obtain ⟨h9, eI⟩ := hI.good hA
    obtain ⟨h8, eN⟩ := g9 h9
    obtain ⟨h7, eT⟩ := hF.good h8
    obtain ⟨h6, eK⟩ := g7 h7
    obtain ⟨_, eP⟩ := g6 h6
    obtain rfl := hm1 h8
    obtain rfl := hm2 hA
    have hfn : rsFn rest = some (⟨par, bs, is⟩, rA) := by
      unfold rsFn rsFree
      rw [eP]
      show ((rdN 1 r6).bind _).bind _ = _
      rw [eK]
      show ((rdL rsT (m1 : Int).toNat r7).map _).bind _ = _
      rw [Int.toNat_natCast, eT, Nat.sub_self, rdL]
      show (rdN 2 r8).bind _ = _
      rw [eN]
      show (rdL rdI (m2 : Int).toNat r9).map _ = _
      rw [Int.toNat_natCast, eI, Nat.sub_self, rdL]
      simp
    have hpc : FnP (⟨par, bs, is⟩, .agg #[.int .i64 par, .slice fp m1 fc, .slice cp m2 c2]) wq wO.heap.size wq.heap.size := by
      have hl1 := hF.len
      have hl2 := hI.len
      subst hl1 hl2
      exact ⟨fp, fc, cp, c2, rfl, hI.ownF, hI.own, fun k hk => (owns_lt hI.ownF k hk).1, fun k hk => (owns_lt hI.own k hk).1⟩
    obtain ⟨t', hQ⟩ := e3.more fnP_pcs (j := 2) (x := .slice p4 (j + 1) c4) hI.sr (by omega) hO3 innerF hbt hbl.size hm4 innerM hpc
    refine ⟨f5, F ++ [(⟨par, bs, is⟩, .agg #[.int .i64 par, .slice fp m1 fc, .slice cp m2 c2])], t', by rw [fCells_snoc, e1]; rfl, by simp [e2], hQ, ?_⟩
    rw [e4, show fn - j = (fn - (j + 1)) + 1 by omega, rdL_step hfn]
    simp
  · obtain ⟨f5, F, t, e1, e2, e3, e4⟩ := h.good rfl
    refine Or.inr ?_
    have hn : rsFn rest = none := by
      unfold rsFn rsFree
      cases h6 : bad6
      · rw [(g6 h6).2]
        show ((rdN 1 r6).bind _).bind _ = none
        cases h7 : bad7
        · rw [(g7 h7).2]
          show ((rdL rsT (k1 : Int).toNat r7).map _).bind _ = none
          rw [Int.toNat_natCast]
          cases h8 : bad8
          · obtain ⟨_, eT⟩ := hF.good h8
            obtain rfl := hm1 h8
            rw [eT, Nat.sub_self, rdL]
            show (rdN 2 r8).bind _ = none
            cases h9 : bad9
            · rw [(g9 h9).2]
              show (rdL rdI (k2 : Int).toNat r9).map _ = none
              rw [Int.toNat_natCast]
              rcases hI.badp hA with hh | hh
              · rw [h9] at hh; cases hh
              · rw [hh]; rfl
            · rcases b9 h9 with hh | hh
              · rw [h8] at hh; cases hh
              · rw [hh]; rfl
          · rcases hF.badp h8 with hh | hh
            · rw [h7] at hh; cases hh
            · rw [hh]; rfl
        · rcases b7 h7 with hh | hh
          · rw [h6] at hh; cases hh
          · rw [hh]; rfl
      · rcases b6 h6 with hh | hh
        · cases hh
        · rw [hh]; rfl
    rw [e4, show fn - j = (fn - (j + 1)) + 1 by omega, rdL_none hn]
    rfl
end Go.Proofs.YtkkmoaidbmnolaaGreatDoor
namespace Go.Proofs.YtkkmoaidbmnolaaGreatDoor
open Go.RowKit Ch1
theorem Sc.out {w : World} {B cn : Nat} {g : Int} {zs r1 r2 : List Int} {bad1 bad2 : Bool} {i : Nat} {q : Option Addr} {cc : Nat} {vals : List Value} {rest : List Int} {bad : Bool} {wr : World} (h : Sc w B cn g r2 bad2 i q cc vals rest bad wr) (hx : bad = false → i = cn) (g1 : bad1 = false → false = false ∧ rdN 2 zs = some (g, r1)) (b1 : bad1 = true → false = true ∨ rdN 2 zs = none) (g2 : bad2 = false → bad1 = false ∧ rdN 2 r1 = some ((cn : Int), r2)) (b2 : bad2 = true → bad1 = true ∨ rdN 2 r1 = none) :
    (bad = false → ∃ L s, L.map (·.2) = vals ∧ L.length = i ∧ OwL DaP wr B L s ∧ rsMc zs = some ((g, L.map (fun a => a.1.map (·.1))), rest)) ∧ (bad = true → rsMc zs = none) := by
  refine ⟨fun hb => ?_, fun hb => ?_⟩
  · obtain ⟨h2, L, s, e1, e2, e3, e4⟩ := h.good hb
    obtain ⟨h1, k2⟩ := g2 h2
    obtain ⟨_, k1⟩ := g1 h1
    obtain rfl := hx hb
    refine ⟨L, s, e1, e2, e3, ?_⟩
    unfold rsMc
    rw [k1]
    show (rdN 2 r1).bind _ = _
    rw [k2]
    show (rdL rsCst (i : Int).toNat r2).map _ = _
    rw [Int.toNat_natCast, e4, Nat.sub_self, rdL]
    simp
  · unfold rsMc
    cases h1 : bad1
    · rw [(g1 h1).2]
      show (rdN 2 r1).bind _ = none
      cases h2 : bad2
      · rw [(g2 h2).2]
        show (rdL rsCst (cn : Int).toNat r2).map _ = none
        rw [Int.toNat_natCast]
        rcases h.badp hb with hh | hh
        · rw [h2] at hh; cases hh
        · rw [hh]; rfl
      · rcases b2 h2 with hh | hh
        · rw [h1] at hh; cases hh
        · rw [hh]; rfl
    · rcases b1 h1 with hh | hh
      · cases hh
      · rw [hh]; rfl
/-- The functions begin where the constants end. -/
theorem Sc.funcs {w : World} {B cn : Nat} {g : Int} {zs r2 : List Int} {bad2 : Bool} {i : Nat} {q : Option Addr} {cc : Nat} {vals : List Value} {r4 : List Int} {bad4 : Bool} {wr w5 : World} (h : Sc w B cn g r2 bad2 i q cc vals r4 bad4 wr) (hs : Sr (w.heap.size + 1) wr w5) (hc : bad4 = false → ∃ L s, L.map (·.2) = vals ∧ L.length = i ∧ OwL DaP wr B L s ∧ rsMc zs = some ((g, L.map (fun a => a.1.map (·.1))), r4))
    {fn : Nat} {r5 : List Int} {bad5 : Bool} (hR : RsE w5 (w.heap.size + 1) r5 bad5) (g5 : bad5 = false → bad4 = false ∧ rdN 2 r4 = some ((fn : Int), r5)) :
    Sf w B w5.heap.size fn g r5 bad5 i q cc vals (fun cs => rsMc zs = some ((g, cs), r4)) 0 none 0 [] r5 bad5 w5 := by
  have hlo := h.lo
  have hsz := h.siz
  refine ⟨(hs.block _ (by omega) (by omega)).trans h.mx, owns_sr h.own hs (by omega), ⟨rfl, Or.inl ⟨rfl, rfl⟩⟩, hR, h.ab.sr hs, Nat.le_refl _, hlo, Nat.le_trans hsz hs.size, fun hb => ?_, fun hb => ⟨hb, [], fun _ => w5.heap.size, rfl, rfl, OwL.nil _ _ _ (Nat.le_refl _), by simp⟩, fun hb => Or.inl hb⟩
  obtain ⟨L, s, e1, e2, e3, e4⟩ := hc (g5 hb).1
  exact ⟨L, s, e1, e2, e3.keep daP_pcs (Agr.of_sr hs (by omega)) hs.size, Nat.le_trans e3.hi hs.size, e4⟩
/-- All was read. -/
theorem Sf.fin {w wB : World} {M fn : Nat} {g : Int} {zs r4 r5 : List Int} {bad4 bad5 : Bool} {i : Nat} {q : Option Addr} {cc : Nat} {vals : List Value} {q2 : Option Addr} {d2 : Nat} {fv : List Value} {rest : List Int} {wr : World} (h : Sf w wB.heap.size M fn g r5 bad5 i q cc vals (fun cs => rsMc zs = some ((g, cs), r4)) fn q2 d2 fv rest false wr) (g5 : bad5 = false → bad4 = false ∧ rdN 2 r4 = some ((fn : Int), r5)) :
    ∃ cs fs, rsMd zs = some (⟨cs, g, fs⟩, rest) ∧ MdV ⟨cs, g, fs⟩ (.agg #[.slice q i cc, .int .i64 g, .slice q2 fn d2]) wB wr := by
  obtain ⟨h5, F, t, e1, e2, e3, e4⟩ := h.good rfl
  obtain ⟨L, s, k1, k2, k3, k4, k5⟩ := h.con h5
  have hO := h.ownC
  have hU := h.own
  subst k1 k2 e1
  refine ⟨_, _, ?_, q, cc, q2, d2, L, F, s, t, M, by rw [e2], rfl, rfl, hO, ?_, k3, e3, k4⟩
  · unfold rsMd
    rw [k5]
    show (rdN 2 r4).bind _ = _
    rw [(g5 h5).2]
    show (rdL rsFn (fn : Int).toNat r5).map _ = _
    rw [Int.toNat_natCast, e4, Nat.sub_self, rdL]
    simp
  · rw [e2]; exact hU
/-- Something was missing. -/
theorem Sf.non {w : World} {B M fn : Nat} {g : Int} {zs r4 r5 : List Int} {bad4 bad5 : Bool} {i : Nat} {q : Option Addr} {cc : Nat} {vals : List Value} {j : Nat} {q2 : Option Addr} {d2 : Nat} {fv : List Value} {rest : List Int} {wr : World} (h : Sf w B M fn g r5 bad5 i q cc vals (fun cs => rsMc zs = some ((g, cs), r4)) j q2 d2 fv rest true wr) (g5 : bad5 = false → bad4 = false ∧ rdN 2 r4 = some ((fn : Int), r5)) (b5 : bad5 = true → bad4 = true ∨ rdN 2 r4 = none) (hc : bad4 = false → ∃ cs, rsMc zs = some ((g, cs), r4)) (hn : bad4 = true → rsMc zs = none) : rsMd zs = none := by
  unfold rsMd
  cases h4 : bad4
  · obtain ⟨cs, e⟩ := hc h4
    rw [e]
    show (rdN 2 r4).bind _ = none
    cases h5 : bad5
    · rw [(g5 h5).2]
      show (rdL rsFn (fn : Int).toNat r5).map _ = none
      rw [Int.toNat_natCast]
      rcases h.badp rfl with hh | hh
      · rw [h5] at hh; cases hh
      · rw [hh]; rfl
    · rcases b5 h5 with hh | hh
      · rw [h4] at hh; cases hh
      · rw [hh]; rfl
  · rw [hn h4]; rfl
end Go.Proofs.YtkkmoaidbmnolaaGreatDoor
