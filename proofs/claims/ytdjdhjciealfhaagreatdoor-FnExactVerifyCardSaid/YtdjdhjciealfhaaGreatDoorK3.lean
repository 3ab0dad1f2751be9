import Derived.Test.YtdjdhjciealfhaaGreatDoorU1
import Derived.Deep.MidRow
import Derived.BigRegion
namespace Go.Proofs.YtdjdhjciealfhaaGreatDoor
open Go.RowKit Ch1
namespace Vf
theorem bits16 {a b : Nat} (ha : a < 512) (hb : b < 512) : bits BinOp.andNot IntKind.u16 (a : Int) (b : Int) = 0 ↔ a ||| b = b := by
  have h1 : (BitVec.ofInt 16 (a : Int)).toNat = a := by simp; omega
  have h2 : (BitVec.ofInt 16 (b : Int)).toNat = b := by simp; omega
  have e : bits BinOp.andNot IntKind.u16 (a : Int) (b : Int) = IntKind.u16.wrap (((BitVec.ofInt 16 (a : Int)) &&& ~~~(BitVec.ofInt 16 (b : Int))).toNat : Int) := rfl
  have hw : ∀ n : Nat, n < 65536 → IntKind.u16.wrap (n : Int) = (n : Int) := fun n hn => by simp [IntKind.wrap, IntKind.bits, IntKind.signed]; omega
  rw [e, hw _ (BitVec.isLt _)]
  constructor
  · intro h
    have h0 : ((BitVec.ofInt 16 (a : Int)) &&& ~~~(BitVec.ofInt 16 (b : Int))) = 0#16 := BitVec.eq_of_toNat_eq (by simpa using h)
    have h3 : (BitVec.ofInt 16 (a : Int)) ||| (BitVec.ofInt 16 (b : Int)) = BitVec.ofInt 16 (b : Int) := by
      apply BitVec.eq_of_getLsbD_eq
      intro i hi
      have := congrArg (fun x => BitVec.getLsbD x i) h0
      simp only [BitVec.getLsbD_and, BitVec.getLsbD_not, BitVec.getLsbD_or, BitVec.getLsbD_zero, hi, decide_true, Bool.true_and] at this ⊢
      revert this
      cases (BitVec.ofInt 16 (a : Int)).getLsbD i <;> cases (BitVec.ofInt 16 (b : Int)).getLsbD i <;> simp
    have := congrArg BitVec.toNat h3
    rwa [BitVec.toNat_or, h1, h2] at this
  · intro h
    have h3 : (BitVec.ofInt 16 (a : Int)) ||| (BitVec.ofInt 16 (b : Int)) = BitVec.ofInt 16 (b : Int) := BitVec.eq_of_toNat_eq (by rw [BitVec.toNat_or, h1, h2]; exact h)
    have h0 : ((BitVec.ofInt 16 (a : Int)) &&& ~~~(BitVec.ofInt 16 (b : Int))) = 0#16 := by
      apply BitVec.eq_of_getLsbD_eq
      intro i hi
      have := congrArg (fun x => BitVec.getLsbD x i) h3
      simp only [BitVec.getLsbD_and, BitVec.getLsbD_not, BitVec.getLsbD_or, BitVec.getLsbD_zero, hi, decide_true, Bool.true_and] at this ⊢
      revert this
      cases (BitVec.ofInt 16 (a : Int)).getLsbD i <;> cases (BitVec.ofInt 16 (b : Int)).getLsbD i <;> simp
    rw [h0]
    rfl
set_option maxHeartbeats 1000000 in
/-- within: no kinds but the other's. -/
theorem within_c (a b : Nat) (ha : a < 512) (hb : b < 512) (w : World) : Calls Tryz.prog 99 #[.int .u16 (a : Int), .int .u16 (b : Int)] w fun e w' => e = .returned (.bool (decide (a ||| b = b))) ∧ w' = w := by
  have HB := mkD (bits16 ha hb)
  obtain ⟨z, hz⟩ : ∃ z, z = bits BinOp.andNot IntKind.u16 (a : Int) (b : Int) := ⟨_, rfl⟩
  rw [← hz] at HB
  have HE : Hid ((z == 0) = decide (a ||| b = b)) := by
    unfold Hid
    by_cases h : a ||| b = b
    · rw [decide_eq_true h, HB.out.2 h]; rfl
    · rw [decide_eq_false h, beq_eq_false_iff_ne]
      exact fun e => h (HB.out.1 e)
  clear HB ha hb
  go_enter Tryz.func99, Tryz.ntmps99
  go_wp2
  rw [← hz, HE.out]
  go_ret
  exact ⟨rfl, rfl⟩
set_option maxHeartbeats 1000000 in
theorem kindOf_c (d : Dt) (q : Option Addr) (n c : Nat) (hd : 0 ≤ d.count) (w : World) : Calls Tryz.prog 94 #[.agg #[.int .i64 d.kind, .int .i64 d.n, .slice q n c, .int .i64 d.count]] w fun e w' => e = .returned (.int .u16 (dtKind d : Nat)) ∧ Below w.heap.size w w' := by
  obtain ⟨kd, n1, t1, ct⟩ := d
  unfold dtKind
  by_cases h0 : kd = 0
  · subst h0
    clear hd
    go_enter Tryz.func94, Tryz.ntmps94
    go_wp2
    go_ret
    exact ⟨rfl, below1 _ _⟩
  by_cases h1 : kd = 1
  · subst h1
    clear hd
    go_enter Tryz.func94, Tryz.ntmps94
    go_wp2
    go_ret
    exact ⟨rfl, below1 _ _⟩
  by_cases h2 : kd = 2
  · subst h2
    clear hd
    go_enter Tryz.func94, Tryz.ntmps94
    go_wp2
    go_ret
    exact ⟨rfl, below1 _ _⟩
  have b0 : (kd == 0) = false := by simp [h0]
  have b1 : (kd == 1) = false := by simp [h1]
  have b2 : (kd == 2) = false := by simp [h2]
  by_cases h3 : ct = 0
  · subst h3
    simp only [if_neg h0, if_neg h1, if_neg h2, if_true]
    clear hd
    go_enter Tryz.func94, Tryz.ntmps94
    go_wp2
    go_ret
    exact ⟨rfl, below1 _ _⟩
  · have b3 : decide (0 < ct) = true := decide_eq_true (by simp only at hd; omega)
    simp only [if_neg h0, if_neg h1, if_neg h2, if_neg h3]
    clear hd
    go_enter Tryz.func94, Tryz.ntmps94
    go_wp2
    go_ret
    exact ⟨rfl, below1 _ _⟩
set_option maxHeartbeats 1000000 in
theorem capturedKind_c (b : Bool) (w : World) : Calls Tryz.prog 95 #[.bool b] w fun e w' => e = .returned (.int .u16 (capK b : Nat)) ∧ w' = w := by
  cases b
  · go_enter Tryz.func95, Tryz.ntmps95
    go_wp2
    go_ret
    exact ⟨rfl, rfl⟩
  · go_enter Tryz.func95, Tryz.ntmps95
    go_wp2
    go_ret
    exact ⟨rfl, rfl⟩
/-! ### a state as it lies: 202 cells -/
def stG (r : Bool) (c : Nat) (t : Nat → Nat) : List Value := .bool r :: .int .i64 (c : Nat) :: (List.range 200).map (fun i => Value.int .u16 (t i : Nat))
theorem stG_len (r : Bool) (c : Nat) (t : Nat → Nat) : (stG r c t).length = 202 := by simp [stG]
theorem stG_slot (r : Bool) (c : Nat) (t : Nat → Nat) {i : Nat} (hi : i < 200) : (stG r c t)[2 + i]? = some (.int .u16 (t i : Nat)) := by
  rw [show 2 + i = i + 1 + 1 by omega]
  simp [stG, hi]
theorem stG_one (r : Bool) (c : Nat) (t : Nat → Nat) : ∀ v ∈ stG r c t, v.oneCell' = true := by
  intro v hv
  simp only [stG, List.mem_cons, List.mem_map] at hv
  rcases hv with rfl | rfl | ⟨i, _, rfl⟩ <;> rfl
theorem stG_congr {r : Bool} {c : Nat} {t u : Nat → Nat} (h : ∀ i, i < 200 → t i = u i) : stG r c t = stG r c u := by
  unfold stG
  rw [List.map_congr_left (fun i hi => by rw [h i (List.mem_range.1 hi)])]
/-- A state in a block of its own. -/
def Sb (w : World) (S : Nat) (r : Bool) (c : Nat) (t : Nat → Nat) : Prop := w.heap[S]? = some (.cells (stG r c t).toArray 90)
theorem Sb.lt {w : World} {S : Nat} {r : Bool} {c : Nat} {t : Nat → Nat} (h : Sb w S r c t) : S < w.heap.size := (Array.getElem?_eq_some_iff.1 h).1
theorem Sb.below {w w' : World} {S : Nat} {r : Bool} {c : Nat} {t : Nat → Nat} (h : Sb w S r c t) (hb : Below w.heap.size w w') : Sb w' S r c t := (hb.block S h.lt).trans h
theorem Sb.c0 {w : World} {S : Nat} {r : Bool} {c : Nat} {t : Nat → Nat} (h : Sb w S r c t) : w.cell? ⟨S, 0, none⟩ = some (.bool r) := by unfold Sb at h; simp [World.cell?, h, stG]
theorem Sb.c1 {w : World} {S : Nat} {r : Bool} {c : Nat} {t : Nat → Nat} (h : Sb w S r c t) : w.cell? ⟨S, 1, none⟩ = some (.int .i64 (c : Nat)) := by unfold Sb at h; simp [World.cell?, h, stG]
theorem Sb.slot {w : World} {S : Nat} {r : Bool} {c : Nat} {t : Nat → Nat} (h : Sb w S r c t) {i : Nat} (hi : i < 200) : w.cell? ⟨S, 2 + i, none⟩ = some (.int .u16 (t i : Nat)) := by
  unfold Sb at h
  have := stG_slot r c t hi
  simp only [World.cell?, h]
  simpa using this
theorem Sb.fr {w : World} {S : Nat} {r : Bool} {c : Nat} {t : Nat → Nat} (h : Sb w S r c t) (j : Nat) : w.frozen? ⟨S, j, none⟩ = false := by unfold Sb at h; simp [World.frozen?, h]
theorem Sb.setC {w : World} {S : Nat} {r : Bool} {c : Nat} {t : Nat → Nat} (h : Sb w S r c t) (c' : Nat) : Sb (w.setCell ⟨S, 1, none⟩ (.int .i64 (c' : Nat))) S r c' t := by
  unfold Sb at h ⊢
  simp [World.setCell, Array.getElem?_modify, h, stG]
theorem Sb.setS {w : World} {S : Nat} {r : Bool} {c : Nat} {t : Nat → Nat} (h : Sb w S r c t) {i : Nat} (hi : i < 200) (v : Nat) : Sb (w.setCell ⟨S, 2 + i, none⟩ (.int .u16 (v : Nat))) S r c (fun k => if k = i then v else t k) := by
  unfold Sb at h ⊢
  have e : (stG r c t).toArray.setIfInBounds (2 + i) (.int .u16 (v : Nat)) = (stG r c (fun k => if k = i then v else t k)).toArray := by
    apply Array.ext'
    rw [Array.toList_setIfInBounds]
    apply List.ext_getElem?
    intro k
    rw [List.getElem?_set]
    by_cases hk : 2 + i = k
    · subst hk
      rw [if_pos rfl, if_pos (by simp [stG_len]; omega)]
      have := stG_slot r c (fun k => if k = i then v else t k) hi
      rw [if_pos rfl] at this
      exact this.symm
    · rw [if_neg hk]
      simp only [stG]
      match k, hk with
      | 0, _ => rfl
      | 1, _ => rfl
      | k + 2, hk =>
        by_cases hk2 : k < 200
        · have hne : ¬ k = i := by omega
          simp [hk2, hne]
        · simp [hk2]
  simp only [World.setCell, Array.getElem?_modify, h]
  simpa using e
end Vf
end Go.Proofs.YtdjdhjciealfhaaGreatDoor
namespace Go.Proofs.YtdjdhjciealfhaaGreatDoor
open Go.RowKit Ch1
namespace Vf
/-- A row of sets. -/
structure Nk (w : World) (p : Option Addr) (n c : Nat) (xs : List Nat) : Prop where
  len : xs.length = n
  cap : n ≤ c
  big : c ≤ maxLen
  cells : 0 < n → ∃ b o, p = some ⟨b, o, none⟩ ∧ b < w.heap.size ∧ ∀ i, i < n → w.cell? ⟨b, o + i, none⟩ = some (.int .u16 (xs.getD i 0 : Nat))
theorem Nk.below {w w' : World} {p : Option Addr} {n c : Nat} {xs : List Nat} (h : Nk w p n c xs) (hb : Below w.heap.size w w') : Nk w' p n c xs := by
  refine ⟨h.len, h.cap, h.big, fun hn => ?_⟩
  obtain ⟨b, o, e, hlt, hc⟩ := h.cells hn
  exact ⟨b, o, e, Nat.lt_of_lt_of_le hlt hb.size, fun i hi => by rw [hb.cell (p := ⟨b, o + i, none⟩) hlt]; exact hc i hi⟩
/-- The last slots are within. -/
def lastIn (c : Nat) (t : Nat → Nat) (n : Nat) (xs : List Nat) : Prop := ∀ i, i < n → t (c - n + i) ||| xs.getD i 0 = xs.getD i 0
def Lw (c : Nat) (t : Nat → Nat) (n : Nat) (xs : List Nat) (W : World) (iv : Value) (wr : World) : Prop := ∃ i : Nat, i ≤ n ∧ iv = .int .i64 (i : Nat) ∧ wr = W ∧ Hid (∀ j, j < i → t (c - n + j) ||| xs.getD j 0 = xs.getD j 0)
set_option maxRecDepth 20000 in
set_option maxHeartbeats 4000000 in
theorem lastWithin_c (S : Nat) (r : Bool) (c : Nat) (t : Nat → Nat) (p : Option Addr) (n cc : Nat) (xs : List Nat) (w : World) (hs : Sb w S r c t) (ht : ∀ i, t i < 512) (hx : Nk w p n cc xs) (hxs : ∀ i, xs.getD i 0 < 512) (hc : c ≤ 200) (hn : n ≤ c) :
    Calls Tryz.prog 78 #[.pointer (some ⟨S, 0, none⟩), .slice p n cc] w fun e w' => ∃ b, e = .returned (.bool b) ∧ (b = true ↔ lastIn c t n xs) ∧ w' = w := by
  have HS := mkD hs
  have HT := mkD ht
  have HX := mkD hx
  have HXS := mkD hxs
  have c1 := hs.c1
  have hnb := small_of hx.cap hx.big
  obtain ⟨d, hd⟩ : ∃ d, d = c - n := ⟨_, rfl⟩
  have hsub : (c : Int) - (n : Int) = (d : Int) := by omega
  have HD := mkD hd
  clear hs ht hx hxs hd
  go_enter Tryz.func78, Tryz.ntmps78
  go_wp2
  go_loopw [17] (fun iv wr => Lw c t n xs w iv wr) (fun iv _ => n - (intOf iv).toNat)
  case atStart => exact ⟨0, Nat.zero_le _, rfl, rfl, fun j hj => absurd hj (Nat.not_lt_zero j)⟩
  case round =>
    obtain ⟨i, hi, rfl, rfl, hA⟩ := hrel
    by_cases hlt : i < n
    · obtain ⟨b, o, rfl, hbl, hcl⟩ := HX.out.cells (by omega)
      have x0 := hcl i hlt
      have s0 := HS.out.slot (i := d + i) (by omega)
      obtain ⟨v, hv⟩ : ∃ v, v = t (d + i) := ⟨_, rfl⟩
      obtain ⟨u, hu⟩ : ∃ u, u = xs.getD i 0 := ⟨_, rfl⟩
      rw [← hv] at s0
      rw [← hu] at x0
      have hv5 : v < 512 := by rw [hv]; exact HT.out _
      have hu5 : u < 512 := by rw [hu]; exact HXS.out _
      have HV := mkD hv
      have HU := mkD hu
      have HWI := mkD (within_c v u hv5 hu5 wr)
      clear hv hu hcl hv5 hu5
      go_wp2_with fail
      refine HWI.out.mono ?_
      rintro e w2 ⟨rfl, hw2⟩
      have hw3 := hw2.symm
      clear hw2
      subst hw3
      clear HWI
      by_cases hq : v ||| u = u
      · have HQ := mkD hq
        rw [decide_eq_true hq]
        clear hq
        go_wp2_with fail
        exact ⟨⟨i + 1, by omega, by go_num, rfl, fun j hj => by rcases (show j < i ∨ j = i by omega) with h | h; exact hA.out j h; rw [h, ← HD.out, ← HV.out, ← HU.out]; exact HQ.out⟩, by simp [intOf]; omega⟩
      · have HQ := mkD hq
        rw [decide_eq_false hq]
        clear hq
        go_wp2_with fail
        go_ret
        exact ⟨false, rfl, ⟨fun e => (by cases e), fun h => absurd (h i hlt) (by rw [← HD.out, ← HV.out, ← HU.out]; exact HQ.out)⟩, rfl⟩
    · have dd : decide ((i : Int) < (n : Int)) = false := decide_eq_false (by omega)
      go_wp2_with fail
      go_ret
      exact ⟨true, rfl, ⟨fun _ j hj => hA.out j (by omega), fun _ => rfl⟩, rfl⟩
set_option maxRecDepth 20000 in
set_option maxHeartbeats 4000000 in
theorem last_c (S : Nat) (r : Bool) (c : Nat) (t : Nat → Nat) (w : World) (hs : Sb w S r c t) (hc : c ≤ 200) :
    Calls Tryz.prog 96 #[.pointer (some ⟨S, 0, none⟩)] w fun e w' => e = .returned (.int .u16 ((if c = 0 then 0 else t (c - 1) : Nat) : Int)) ∧ Below w.heap.size w w' := by
  have c1 := hs.c1
  by_cases h0 : c = 0
  · subst h0
    clear hs
    go_enter Tryz.func96, Tryz.ntmps96
    go_wp2
    go_ret
    exact ⟨rfl, Below.refl _ _⟩
  · rw [if_neg h0]
    have b0 : ((c : Int) == 0) = false := by simp; omega
    obtain ⟨d, hd⟩ : ∃ d, c = d + 1 := ⟨c - 1, by omega⟩
    subst hd
    have hsub : ((d + 1 : Nat) : Int) - 1 = (d : Int) := by omega
    have s0 := hs.slot (i := d) (by omega)
    rw [Nat.add_sub_cancel]
    obtain ⟨v, hv⟩ : ∃ v, v = t d := ⟨_, rfl⟩
    rw [← hv] at s0 ⊢
    clear hs hv h0
    go_enter Tryz.func96, Tryz.ntmps96
    go_wp2_with fail
    go_region
    all_goals go_wp2
    all_goals go_ret
    all_goals exact ⟨rfl, below_drewM (Below.refl _ _)⟩
/-- No other block has turned. -/
def Oth (S : Nat) (w w' : World) : Prop := ∀ k, k ≠ S → w'.heap[k]? = w.heap[k]?
theorem Oth.refl (S : Nat) (w : World) : Oth S w w := fun _ _ => rfl
theorem Oth.set {S j : Nat} {w w' : World} (h : Oth S w w') (v : Value) : Oth S w (w'.setCell ⟨S, j, none⟩ v) := fun k hk => (Below.heap_setCell _ _ _ k hk).trans (h k hk)
set_option maxRecDepth 20000 in
set_option maxHeartbeats 4000000 in
theorem leave_c (S : Nat) (r : Bool) (c : Nat) (t : Nat → Nat) (v : Nat) (w : World) (hs : Sb w S r c t) (hc : c ≤ 200) :
    Calls Tryz.prog 76 #[.pointer (some ⟨S, 0, none⟩), .int .u16 (v : Nat)] w fun e w' => ∃ b, e = .returned (.bool b) ∧ (b = true ↔ c < 200) ∧ Below S w w' ∧ Oth S w w' ∧ (b = true → Sb w' S r (c + 1) (fun k => if k = c then v else t k)) := by
  have c1 := hs.c1
  have f1 := hs.fr 1
  by_cases h0 : c = 200
  · subst h0
    clear hs f1
    go_enter Tryz.func76, Tryz.ntmps76
    go_wp2
    go_ret
    exact ⟨false, rfl, by simp, Below.refl _ _, Oth.refl _ _, fun e => by cases e⟩
  · have b0 : ((c : Int) == 200) = false := by simp; omega
    have hc2 : c < 200 := by omega
    have s0 := hs.slot hc2
    have f2 := hs.fr (2 + c)
    have HS2 := mkD ((hs.setS hc2 v).setC (c + 1))
    have HOT : Hid (Oth S w ((w.setCell ⟨S, 2 + c, none⟩ (.int .u16 (v : Nat))).setCell ⟨S, 1, none⟩ (.int .i64 ((c + 1 : Nat) : Int)))) := ((Oth.refl S w).set _).set _
    have HB : Hid (Below S w ((w.setCell ⟨S, 2 + c, none⟩ (.int .u16 (v : Nat))).setCell ⟨S, 1, none⟩ (.int .i64 ((c + 1 : Nat) : Int)))) := Below.setCell (Below.setCell (Below.refl S w) (by simp only; exact Nat.le_refl _) _) (by simp only; exact Nat.le_refl _) _
    clear hs h0
    go_enter Tryz.func76, Tryz.ntmps76
    go_wp2_with fail
    go_region
    all_goals go_wp2
    all_goals go_ret
    all_goals exact ⟨true, rfl, ⟨fun _ => hc2, fun _ => rfl⟩, below_drewM HB.out, HOT.out, fun _ => HS2.out⟩
/-- At the head of take's loop. -/
def Tk (S : Nat) (r : Bool) (c : Nat) (t : Nat → Nat) (n : Nat) (w : World) (iv : Value) (wr : World) : Prop := ∃ i : Nat, i ≤ n ∧ iv = .int .i64 (i : Nat) ∧ Hid (Below S w wr) ∧ Hid (Oth S w wr) ∧ Hid (Sb wr S r (c - i) (fun k => if k < c - i then t k else 0))
set_option maxRecDepth 20000 in
set_option maxHeartbeats 4000000 in
/-- take: the last slots go, if they are there and within. -/
theorem take_c (S : Nat) (r : Bool) (c : Nat) (t : Nat → Nat) (p : Option Addr) (n cc : Nat) (xs : List Nat) (w : World) (hs : Sb w S r c t) (ht : ∀ i, t i < 512) (ht0 : ∀ i, c ≤ i → t i = 0) (hx : Nk w p n cc xs) (hxs : ∀ i, xs.getD i 0 < 512) (hc : c ≤ 200) :
    Calls Tryz.prog 74 #[.pointer (some ⟨S, 0, none⟩), .slice p n cc] w fun e w' => ∃ b, e = .returned (.bool b) ∧ (b = true ↔ n ≤ c ∧ lastIn c t n xs) ∧ Below S w w' ∧ Oth S w w' ∧ (b = true → Sb w' S r (c - n) (fun k => if k < c - n then t k else 0)) := by
  have HS := mkD hs
  have c1 := hs.c1
  have hnb := small_of hx.cap hx.big
  by_cases hn : n ≤ c
  · have HLW := mkD (lastWithin_c S r c t p n cc xs w hs ht hx hxs hc hn)
    have dd : decide ((c : Int) < (n : Int)) = false := decide_eq_false (by omega)
    have HS0 : Hid (Sb w S r (c - 0) (fun k => if k < c - 0 then t k else 0)) := by
      unfold Hid Sb
      have h := hs
      unfold Sb at h
      rw [h, Nat.sub_zero, stG_congr (t := fun k => if k < c then t k else 0) (u := t) (fun i _ => by
        by_cases hi : i < c
        · rw [if_pos hi]
        · rw [if_neg hi, ht0 i (by omega)])]
    clear hs ht ht0 hx hxs HS
    go_enter Tryz.func74, Tryz.ntmps74
    go_wp2_with fail
    refine HLW.out.mono ?_
    rintro e w2 ⟨b, rfl, hiff, hw2⟩
    have hw3 := hw2.symm
    clear hw2
    subst hw3
    have HIF := mkD hiff
    clear hiff HLW
    cases b
    · go_wp2_with fail
      go_ret
      exact ⟨false, rfl, ⟨fun e => (by cases e), fun h => (by have := HIF.out.2 h.2; cases this)⟩, Below.refl _ _, Oth.refl _ _, fun e => (by cases e)⟩
    · have HYES : Hid (lastIn c t n xs) := HIF.out.1 rfl
      go_wp2_with fail
      go_loopw [20] (fun iv wr => Tk S r c t n w iv wr) (fun iv _ => n - (intOf iv).toNat)
      case atStart => exact ⟨0, Nat.zero_le _, rfl, Below.refl _ _, Oth.refl _ _, HS0⟩
      case round =>
        clear HS0 c1
        obtain ⟨i, hi, rfl, hB, hOt, hS⟩ := hrel
        by_cases hlt : i < n
        · obtain ⟨d, hd⟩ : ∃ d, c - i = d + 1 := ⟨c - i - 1, by omega⟩
          rw [hd] at hS
          have c1 := hS.out.c1
          have f1 := hS.out.fr 1
          have hd2 : d < 200 := by omega
          have s0 := hS.out.slot hd2
          rw [if_pos (by omega)] at s0
          obtain ⟨v, hv⟩ : ∃ v, v = t d := ⟨_, rfl⟩
          rw [← hv] at s0
          have f2 := hS.out.fr (2 + d)
          have hsub : ((d + 1 : Nat) : Int) - 1 = (d : Int) := by omega
          have HS2 : Hid (Sb ((wr.setCell ⟨S, 1, none⟩ (.int .i64 (d : Nat))).setCell ⟨S, 2 + d, none⟩ (.int .u16 ((0 : Nat) : Int))) S r (c - (i + 1)) (fun k => if k < c - (i + 1) then t k else 0)) := by
            have h := (hS.out.setC d).setS hd2 0
            have e : c - (i + 1) = d := by omega
            rw [e]
            unfold Hid Sb at *
            rw [h, stG_congr (u := fun k => if k < d then t k else 0) (fun k _ => by
              by_cases h1 : k = d
              · rw [if_pos h1, if_neg (by omega)]
              · rw [if_neg h1]
                by_cases h2 : k < d
                · rw [if_pos (by omega), if_pos h2]
                · rw [if_neg (by omega), if_neg h2])]
          have HO2 : Hid (Oth S w ((wr.setCell ⟨S, 1, none⟩ (.int .i64 (d : Nat))).setCell ⟨S, 2 + d, none⟩ (.int .u16 ((0 : Nat) : Int)))) := (hOt.out.set _).set _
          have HB2 : Hid (Below S w ((wr.setCell ⟨S, 1, none⟩ (.int .i64 (d : Nat))).setCell ⟨S, 2 + d, none⟩ (.int .u16 ((0 : Nat) : Int)))) := Below.setCell (Below.setCell hB.out (by simp only; exact Nat.le_refl _) _) (by simp only; exact Nat.le_refl _) _
          clear hv hd hS hB
          go_wp2_with fail
          go_region
          all_goals go_wp2
          all_goals exact ⟨⟨i + 1, by omega, by go_num, below_drewM HB2.out, HO2.out, HS2.out⟩, by simp [intOf]; omega⟩
        · obtain rfl : i = n := by omega
          go_wp2_with fail
          go_ret
          exact ⟨true, rfl, ⟨fun _ => ⟨hn, HYES.out⟩, fun _ => rfl⟩, hB.out, hOt.out, fun _ => hS.out⟩
  · have dd : decide ((c : Int) < (n : Int)) = true := decide_eq_true (by omega)
    clear hs ht ht0 hx hxs HS
    go_enter Tryz.func74, Tryz.ntmps74
    go_wp2_with fail
    go_ret
    exact ⟨false, rfl, ⟨fun e => (by cases e), fun h => absurd h.1 hn⟩, Below.refl _ _, Oth.refl _ _, fun e => (by cases e)⟩
end Vf
end Go.Proofs.YtdjdhjciealfhaaGreatDoor
namespace Go.Proofs.YtdjdhjciealfhaaGreatDoor
open Go.RowKit Ch1
namespace Vf
/-- What a store of many cells does to the block. -/
theorem heap_setCells (b : Nat) (t : TypeId) : ∀ (vs : List Value) (o : Nat) (w : World) (arr : Array Value), w.heap[b]? = some (.cells arr t) → ∃ arr', (w.setCells b o vs).heap[b]? = some (.cells arr' t) ∧ arr'.size = arr.size ∧ ∀ k, arr'[k]? = if o ≤ k ∧ k < o + vs.length ∧ k < arr.size then vs[k - o]? else arr[k]?
  | [], o, w, arr, h => ⟨arr, h, rfl, fun k => by rw [if_neg (by simp; omega)]⟩
  | v :: r, o, w, arr, h => by
    have h1 : (w.setCell ⟨b, o, none⟩ v).heap[b]? = some (.cells (arr.setIfInBounds o v) t) := by simp [World.setCell, Array.getElem?_modify, h]
    obtain ⟨arr', h2, h3, h4⟩ := heap_setCells b t r (o + 1) _ _ h1
    refine ⟨arr', h2, by simpa using h3, fun k => ?_⟩
    rw [h4]
    simp only [Array.size_setIfInBounds, List.length_cons]
    by_cases hk : k = o
    · subst hk
      rw [if_neg (by omega)]
      by_cases hs : k < arr.size
      · rw [if_pos (by omega), Array.getElem?_setIfInBounds_self_of_lt hs]; simp
      · rw [if_neg (by omega), Array.getElem?_eq_none (by simp; omega), Array.getElem?_eq_none (by omega)]
    · rw [Array.getElem?_setIfInBounds_ne (by omega)]
      by_cases hc : o + 1 ≤ k ∧ k < o + 1 + r.length ∧ k < arr.size
      · rw [if_pos hc, if_pos (by omega), show k - o = (k - (o + 1)) + 1 by omega]; simp
      · rw [if_neg hc, if_neg (by omega)]
theorem heap_setCells_ne (b : Nat) {k : Nat} (hk : k ≠ b) : ∀ (vs : List Value) (o : Nat) (w : World), (w.setCells b o vs).heap[k]? = w.heap[k]?
  | [], _, _ => rfl
  | v :: r, o, w => by
    show ((w.setCell ⟨b, o, none⟩ v).setCells b (o + 1) r).heap[k]? = _
    rw [heap_setCells_ne b hk r]
    exact Below.heap_setCell _ _ _ k hk
theorem Below.setCells {B b : Nat} {a : World} (hb : B ≤ b) : ∀ (vs : List Value) (o : Nat) (w : World), Below B a w → Below B a (w.setCells b o vs)
  | [], _, _, h => h
  | v :: r, o, w, h => Below.setCells hb r (o + 1) _ (h.setCell (by simp only; exact hb) v)
theorem size_setCells (b : Nat) : ∀ (vs : List Value) (o : Nat) (w : World), (w.setCells b o vs).heap.size = w.heap.size
  | [], _, _ => rfl
  | v :: r, o, w => by
    show ((w.setCell ⟨b, o, none⟩ v).setCells b (o + 1) r).heap.size = _
    rw [size_setCells b r, set_size]
theorem zeroS : Tryz.zeroCells90 = (stG false 0 (fun _ => 0)).toArray := by kernel_rfl
/-- A whole state is stored into a block of its own. -/
theorem Sb.put {w : World} {S : Nat} {arr : Array Value} (h : w.heap[S]? = some (.cells arr 90)) (hs : arr.size = 202) (r : Bool) (c : Nat) (t : Nat → Nat) : Sb (w.setCells S 0 (stG r c t)) S r c t := by
  obtain ⟨arr', h1, h2, h3⟩ := heap_setCells S _ (stG r c t) 0 w arr h
  have e : arr' = (stG r c t).toArray := by
    apply Array.ext'
    apply List.ext_getElem?
    intro k
    have := h3 k
    rw [Array.getElem?_toList, this]
    have hl := stG_len r c t
    by_cases hk : k < 202
    · rw [if_pos (by omega), Nat.sub_zero, List.toList_toArray]
    · rw [if_neg (by omega), Array.getElem?_eq_none (by omega), List.toList_toArray, List.getElem?_eq_none (by omega)]
  unfold Sb
  rw [h1, e]
theorem run_put {w : World} {S : Nat} {arr : Array Value} (h : w.heap[S]? = some (.cells arr 90)) (hs : arr.size = 202) (r : Bool) (c : Nat) (t : Nat → Nat) : (storeCells ⟨S, 0, none⟩ (stG r c t)).run Tryz.prog w = .ok () (w.setCells S 0 (stG r c t)) := by
  have := run_storeCells_cells (P := Tryz.prog) S 0 (stG r c t) 0 w (fun j hj => by rw [stG_len] at hj; simp [World.cell?, h, hs, hj]) (fun j _ => by simp [World.frozen?, h]) (stG_one r c t)
  exact this
theorem Sb.load {w : World} {S : Nat} {r : Bool} {c : Nat} {t : Nat → Nat} (h : Sb w S r c t) : (loadCells ⟨S, 0, none⟩ 202).run Tryz.prog w = .ok (stG r c t).toArray w := by
  have := run_loadCells_list (P := Tryz.prog) (w := w) ⟨S, 0, none⟩ (stG r c t) (fun j v hv => by
    rw [Addr.add_mid]
    unfold Sb at h
    simp only [World.cell?, h, Nat.zero_add]
    simpa using hv)
  rwa [stG_len] at this
theorem sizeS (r : Bool) (c : Nat) (t : Nat → Nat) : (Tryz.prog.info? 90).map (·.size) = some (stG r c t).length := by rw [stG_len]; kernel_rfl
theorem Sb.range {w : World} {S : Nat} {r : Bool} {c : Nat} {t : Nat → Nat} (h : Sb w S r c t) : w.rangeAt S 0 (stG r c t) := fun j v hv => by
  unfold Sb at h
  simp only [World.cell?, h, Nat.zero_add]
  simpa using hv
theorem set01 (n : Nat) : ((Tryz.zeroCells90.toList.set 0 (Value.bool true)).set 1 (Value.int IntKind.i64 (n : Int))) = stG true n (fun _ => 0) := by
  rw [zeroS]
  simp [stG]
def Fs (S : Nat) (n : Nat) (w : World) (iv : Value) (wr : World) : Prop := ∃ i : Nat, i ≤ n ∧ iv = .int .i64 (i : Nat) ∧ Hid (Below w.heap.size w wr) ∧ Hid (Sb wr S true n (fun k => if k < i then 255 else 0))
set_option maxRecDepth 20000 in
set_option maxHeartbeats 4000000 in
theorem firstState_c (n : Nat) (rp : Option Addr) (rl rc : Nat) (dp : Option Addr) (dl dc : Nat) (w : World) (hn : n ≤ 20) :
    Calls Tryz.prog 43 #[.agg #[.int .i64 (n : Nat), .slice rp rl rc, .slice dp dl dc]] w fun e w' => e = .returned (.agg (stG true n (fun i => if i < n then 255 else 0)).toArray) ∧ Below w.heap.size w w' := by
  go_enter Tryz.func43, Tryz.ntmps43
  go_wp2_with fail
  rw [set01]
  obtain ⟨W, hW⟩ : ∃ W, W = ((w.alloc (.cells #[.int .i64 (n : Nat), .slice rp rl rc, .slice dp dl dc] 48)).alloc (.cells Tryz.zeroCells90 90)) := ⟨_, rfl⟩
  rw [← hW]
  have hWs : W.heap.size = w.heap.size + 1 + 1 := by rw [hW]; simp
  have HBW : Hid (Below w.heap.size w W) := by unfold Hid; rw [hW]; exact below2 _ _ _
  have HN := mkD (Go.Deep.blk_alloc_new W (.cells Tryz.zeroCells90 90))
  rw [hWs] at HN
  rw [run_put HN.out (by rw [zeroS]; simp [stG_len])]
  obtain ⟨W2, hW2⟩ : ∃ W2, W2 = (W.alloc (.cells Tryz.zeroCells90 90)).setCells (w.heap.size + 1 + 1) 0 (stG true n (fun _ => 0)) := ⟨_, rfl⟩
  rw [← hW2]
  have HS2 : Hid (Sb W2 (w.heap.size + 1 + 1) true n (fun k => if k < 0 then 255 else 0)) := by
    have h := Sb.put HN.out (by rw [zeroS]; simp [stG_len]) true n (fun _ => 0)
    rw [← hW2] at h
    unfold Hid Sb
    rw [h, stG_congr (fun i _ => (if_neg (Nat.not_lt_zero i)).symm)]
  have HB2 : Hid (Below w.heap.size w W2) := by unfold Hid; rw [hW2]; exact Below.setCells (by omega) _ _ _ (HBW.out.trans ((below1 _ _).mono HBW.out.size))
  have HF : Hid (W2.heap[w.heap.size]? = some (.cells #[.int .i64 (n : Nat), .slice rp rl rc, .slice dp dl dc] 48)) := by
    unfold Hid
    rw [hW2, heap_setCells_ne _ (by omega), (below1 W _).block _ (by omega), hW, (below1 _ _).block _ (by simp), Go.Deep.blk_alloc_new]
  have HR : Hid (W2.heap[w.heap.size + 1]? = some (.cells Tryz.zeroCells90 90)) := by
    unfold Hid
    rw [hW2, heap_setCells_ne _ (by omega), (below1 W _).block _ (by omega), hW]
    have := Go.Deep.blk_alloc_new (w.alloc (.cells #[.int .i64 (n : Nat), .slice rp rl rc, .slice dp dl dc] 48)) (.cells Tryz.zeroCells90 90)
    rwa [World.size_alloc] at this
  have hs2 : W2.heap.size = w.heap.size + 1 + 1 + 1 := by rw [hW2, size_setCells]; simp [hWs]
  obtain ⟨f0, f1, f2, _, _, _⟩ := cells3 HF.out
  clear hW2 HN hW hWs HBW W
  go_wp2_with fail
  go_loopw [10] (fun iv wr => ∃ i : Nat, i ≤ n ∧ iv = .int .i64 (i : Nat) ∧ Hid (Below w.heap.size w wr) ∧ Hid (Sb wr (w.heap.size + 1 + 1) true n (fun k => if k < i then 255 else 0)) ∧ Hid (wr.heap[w.heap.size + 1]? = some (.cells Tryz.zeroCells90 90))) (fun iv _ => n - (intOf iv).toNat)
  case atStart => exact ⟨0, Nat.zero_le _, rfl, HB2, HS2, HR⟩
  case round =>
    clear HS2 HB2 f0 f1 f2 HF hs2 HR
    obtain ⟨i, hi, rfl, hB, hS, hR⟩ := hrel
    have hsl := hS.out.lt
    by_cases hlt : i < n
    · have hi2 : i < 200 := by omega
      have s0 := hS.out.slot hi2
      rw [if_neg (Nat.lt_irrefl i)] at s0
      have f2 := hS.out.fr (2 + i)
      have HS3 : Hid (Sb (wr.setCell ⟨w.heap.size + 1 + 1, 2 + i, none⟩ (.int .u16 ((255 : Nat) : Int))) (w.heap.size + 1 + 1) true n (fun k => if k < i + 1 then 255 else 0)) := by
        have h := hS.out.setS hi2 255
        unfold Hid Sb at *
        rw [h, stG_congr (u := fun k => if k < i + 1 then 255 else 0) (fun k _ => by
          by_cases h1 : k = i
          · rw [if_pos h1, if_pos (by omega)]
          · rw [if_neg h1]
            by_cases h2 : k < i
            · rw [if_pos h2, if_pos (by omega)]
            · rw [if_neg h2, if_neg (by omega)])]
      go_wp2_with fail
      exact ⟨⟨i + 1, by omega, by go_num, hB.out.setCell (by simp only; omega) _, HS3, by unfold Hid; rw [Below.heap_setCell _ _ _ _ (by simp only; omega)]; exact hR.out⟩, by simp [intOf]; omega⟩
    · obtain rfl : i = n := by omega
      go_wp2_with fail
      refine wp_load_mid 90 (.tmp 3) rfl _ 0 rfl _ _ hS.out.range Tryz.underlying90 rfl (sizeS _ _ _) ?_
      go_wp2_with fail
      rw [run_put hR.out (by rw [zeroS]; simp [stG_len])]
      obtain ⟨W3, hW3⟩ : ∃ W3, W3 = wr.setCells (w.heap.size + 1) 0 (stG true i fun k => if k < i then 255 else 0) := ⟨_, rfl⟩
      rw [← hW3]
      have HS3 : Hid (Sb W3 (w.heap.size + 1) true i (fun k => if k < i then 255 else 0)) := by unfold Hid; rw [hW3]; exact Sb.put hR.out (by rw [zeroS]; simp [stG_len]) _ _ _
      have HB3 : Hid (Below w.heap.size w W3) := by unfold Hid; rw [hW3]; exact Below.setCells (by omega) _ _ _ hB.out
      clear hW3 hS hB hR
      go_wp2_with fail
      have HLV := run_loadVar_mid (P := Tryz.prog) W3 (w.heap.size + 1) 0 90 _ _ HS3.out.range Tryz.underlying90 rfl (sizeS _ _ _)
      exact bodyPost_ret (v := .agg (stG true i fun k => if k < i then 255 else 0).toArray) (by simp [results, Tryz.results43, asAddr, HLV]) rfl ⟨rfl, HB3.out⟩
end Vf
end Go.Proofs.YtdjdhjciealfhaaGreatDoor
