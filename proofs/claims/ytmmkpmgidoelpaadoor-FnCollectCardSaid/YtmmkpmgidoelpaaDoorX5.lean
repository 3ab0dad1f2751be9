import Derived.RowKit3
import Derived.Below
import Derived.Shelf.Small.Strs
import Derived.Shelf.LaysM
import Derived.Shelf.Strconv.Itoa3
import Derived.Shelf.Strings.Search1
import Derived.Shelf.Strconv.AppendIntPublic10
import Derived.Shelf.Bytes.SlSmallAll
import Derived.Shelf.Bytes.Small
import Derived.Test.YtmmkpmgidoelpaaDoorProg
import Derived.Test.YtmmkpmgidoelpaaDoorRows
import Derived.WalkKit
import Derived.WalkSpells
import Derived.WalkLawsBesides
import Derived.Deep.QuietTactic
import Derived.BigQuiet
import Derived.Deep.OwnRows
import Derived.Lib.SlBytesConst
import Derived.Deep.RegionWith
import Derived.Lib.ItoaLen
import Derived.Lib.AppendStr
/- Plain mathematics of chapter 1's data: no Go here. -/
namespace Go.Proofs.YtmmkpmgidoelpaaDoor
namespace Ch1

structure Dt where
  kind : Int
  n : Int
  text : List Int
  count : Int
/-- An empty datum. -/
def dt0 : Dt := ⟨0, 0, [], 0⟩

def digB (c : Int) : Bool := decide (48 ≤ c) && decide (c ≤ 57)
def letB (c : Int) : Bool := (decide (97 ≤ c) && decide (c ≤ 122)) || (decide (65 ≤ c) && decide (c ≤ 90))
def marks : List Int := [33, 36, 37, 38, 42, 47, 58, 60, 61, 62, 63, 94, 95, 126, 43, 45]
def symB (c : Int) : Bool := letB c || digB c || marks.contains c
/-- What is left of a number's text behind its sign. -/
def unsigned (xs : List Int) : List Int := if xs.head? = some 45 then xs.tail else xs
def numB (xs : List Int) : Bool := (unsigned xs).all digB && decide (0 < (unsigned xs).length)
def symTextB (xs : List Int) : Bool := decide (1 ≤ xs.length) && decide (xs.length ≤ 100) && !digB (xs.getD 0 0) && !numB xs && xs.all symB
def smallB (v : Int) : Bool := decide (-2305843009213693952 ≤ v) && decide (v ≤ 2305843009213693951)
def goodB (d : Dt) : Bool :=
  if d.kind = 0 then smallB d.n && decide (d.text.length = 0) && decide (d.count = 0)
  else if d.kind = 1 then (decide (d.n = 0) || decide (d.n = 1)) && decide (d.text.length = 0) && decide (d.count = 0)
  else if d.kind = 2 then decide (d.n = 0) && symTextB d.text && decide (d.count = 0)
  else if d.kind = 3 then decide (d.n = 0) && decide (d.text.length = 0) && decide (0 ≤ d.count)
  else false

/-- k data skipped one behind another. -/
def skipN (f : List Dt → Option (List Dt)) : Nat → List Dt → Option (List Dt)
  | 0, r => some r
  | k + 1, r => match f r with
    | none => none
    | some r' => skipN f k r'
/-- What stands behind the first whole datum. -/
def skip : Nat → List Dt → Option (List Dt)
  | _, [] => none
  | 0, d :: r => if goodB d = true then (if d.kind = 3 then none else some r) else none
  | deep + 1, d :: r => if goodB d = true then (if d.kind = 3 then skipN (skip deep) d.count.toNat r else some r) else none

theorem skip_nil (k : Nat) : skip k [] = none := by cases k <;> rfl
theorem skip_bad (k : Nat) (d : Dt) (r : List Dt) (h : goodB d = false) : skip k (d :: r) = none := by cases k <;> simp [skip, h]
theorem skip_atom (k : Nat) (d : Dt) (r : List Dt) (h : goodB d = true) (h3 : d.kind ≠ 3) : skip k (d :: r) = some r := by cases k <;> simp [skip, h, h3]
theorem skip_deep (d : Dt) (r : List Dt) (h3 : d.kind = 3) : skip 0 (d :: r) = none := by simp [skip, h3]
theorem skip_list (k : Nat) (d : Dt) (r : List Dt) (h : goodB d = true) (h3 : d.kind = 3) : skip (k + 1) (d :: r) = skipN (skip k) d.count.toNat r := by simp [skip, h, h3]

/-- k rounds from the left: the form of a loop. -/
theorem skipN_succ_right (f : List Dt → Option (List Dt)) (k : Nat) : ∀ r, skipN f (k + 1) r = (skipN f k r).bind f := by
  induction k with
  | zero => intro r; simp [skipN]; cases f r <;> rfl
  | succ k ih =>
    intro r
    rw [skipN]
    cases h : f r with
    | none => simp [skipN, h]
    | some r' => simp only [ih r']; simp [skipN, h]
theorem skipN_none_mono (f : List Dt → Option (List Dt)) (k j : Nat) (r : List Dt) (h : skipN f k r = none) : skipN f (k + j) r = none := by
  induction j with
  | zero => exact h
  | succ j ih => rw [show k + (j + 1) = (k + j) + 1 from rfl, skipN_succ_right, ih]; rfl

/-- Whatever is skipped is one element at least. -/
def Eats (f : List Dt → Option (List Dt)) : Prop := ∀ r r', f r = some r' → ∃ k, 1 ≤ k ∧ k ≤ r.length ∧ r' = r.drop k
theorem skipN_eats {f : List Dt → Option (List Dt)} (hf : Eats f) : ∀ (k : Nat) (r r' : List Dt), skipN f k r = some r' → ∃ j, k ≤ j ∧ j ≤ r.length ∧ r' = r.drop j := by
  intro k
  induction k with
  | zero => intro r r' h; simp [skipN] at h; exact ⟨0, Nat.le_refl _, Nat.zero_le _, by simp [h]⟩
  | succ k ih =>
    intro r r' h
    rw [skipN] at h
    cases h1 : f r with
    | none => simp [h1] at h
    | some r1 =>
      simp [h1] at h
      obtain ⟨a, ha1, ha2, rfl⟩ := hf _ _ h1
      obtain ⟨j, hj1, hj2, rfl⟩ := ih _ _ h
      refine ⟨a + j, by omega, ?_, by rw [List.drop_drop]⟩
      rw [List.length_drop] at hj2; omega
theorem skip_eats : ∀ k, Eats (skip k) := by
  intro k
  induction k with
  | zero =>
    intro r r' h
    cases r with
    | nil => simp [skip] at h
    | cons d r =>
      simp only [skip] at h
      split at h
      · split at h
        · cases h
        · cases h; exact ⟨1, Nat.le_refl _, by simp, rfl⟩
      · cases h
  | succ k ih =>
    intro r r' h
    cases r with
    | nil => simp [skip] at h
    | cons d r =>
      simp only [skip] at h
      split at h
      · split at h
        · obtain ⟨j, _, hj2, rfl⟩ := skipN_eats ih _ _ _ h
          exact ⟨j + 1, by omega, by simpa using hj2, by simp⟩
        · cases h; exact ⟨1, Nat.le_refl _, by simp, rfl⟩
      · cases h
/-- More elements than there are: none. -/
theorem skipN_many {f : List Dt → Option (List Dt)} (hf : Eats f) (k : Nat) (r : List Dt) (h : r.length < k) : skipN f k r = none := by
  cases e : skipN f k r with
  | none => rfl
  | some r' => obtain ⟨j, h1, h2, _⟩ := skipN_eats hf _ _ _ e; omega

/-- The row of data, datum by datum. -/
def rowB : Nat → List Dt → Bool
  | _, [] => true
  | 0, _ :: _ => false
  | k + 1, d :: r => match skip 100 (d :: r) with
    | none => false
    | some r' => rowB k r'
theorem rowB_fuel : ∀ (a b : Nat) (r : List Dt), r.length ≤ a → r.length ≤ b → rowB a r = rowB b r := by
  intro a
  induction a with
  | zero => intro b r h _; cases r with | nil => cases b <;> rfl | cons d r => simp at h
  | succ a ih =>
    intro b r h1 h2
    cases r with
    | nil => cases b <;> rfl
    | cons d r =>
      cases b with
      | zero => simp at h2
      | succ b =>
        simp only [rowB]
        cases e : skip 100 (d :: r) with
        | none => rfl
        | some r' =>
          obtain ⟨k, hk1, hk2, rfl⟩ := skip_eats 100 _ _ e
          have hl : ((d :: r).drop k).length = (d :: r).length - k := List.length_drop ..
          exact ih b _ (by omega) (by omega)
def rowOf (r : List Dt) : Bool := rowB r.length r
theorem rowOf_nil : rowOf [] = true := rfl
theorem rowOf_none (r : List Dt) (h0 : r ≠ []) (h : skip 100 r = none) : rowOf r = false := by
  cases r with
  | nil => exact absurd rfl h0
  | cons d r => simp [rowOf, rowB, h]
theorem rowOf_some (r r' : List Dt) (h : skip 100 r = some r') : rowOf r = rowOf r' := by
  cases r with
  | nil => simp [skip_nil] at h
  | cons d r =>
    obtain ⟨k, hk1, hk2, e⟩ := skip_eats 100 _ _ h
    have hl : r'.length = (d :: r).length - k := by rw [e]; exact List.length_drop ..
    show rowB (r.length + 1) (d :: r) = rowOf r'
    simp only [rowB, h]
    exact rowB_fuel _ _ _ (by simp at hl hk2; omega) (Nat.le_refl _)
def validB (ds : List Dt) : Bool := decide (ds.length ≤ 3000) && rowOf ds

/-- The place behind a datum, or -1. -/
def endZ (ds : List Dt) (k i : Nat) : Int := match skip k (ds.drop i) with
  | none => -1
  | some r => ds.length - r.length

end Ch1
end Go.Proofs.YtmmkpmgidoelpaaDoor
namespace Go.Proofs.YtmmkpmgidoelpaaDoor
end Go.Proofs.YtmmkpmgidoelpaaDoor
namespace Go.Proofs.YtmmkpmgidoelpaaDoor
open Go.RowKit Ch1
theorem ret_bool {a b : Bool} (h : a = b) : Ending.returned (.bool a) = .returned (.bool b) := by rw [h]
theorem ret_int {k : IntKind} {a b : Int} (h : a = b) : Ending.returned (.int k a) = .returned (.int k b) := by rw [h]
theorem marks_len : marks.length = 16 := rfl
theorem symB_of_mark {c : Int} (k : Nat) (hk : k < 16) (h : marks.getD k 0 = c) : symB c = true := by
  unfold symB
  have : marks.contains c = true := by
    rw [List.contains_iff_mem, ← h]
    simp [List.getD, List.getElem?_eq_getElem (show k < marks.length by rw [marks_len]; exact hk)]
  rw [this]; simp
theorem symB_of_none {c : Int} (h : ∀ k, k < 16 → marks.getD k 0 ≠ c) : symB c = (letB c || digB c) := by
  unfold symB
  have : marks.contains c = false := by
    rw [Bool.eq_false_iff]
    intro hc
    rw [List.contains_iff_mem] at hc
    obtain ⟨k, hk, e⟩ := List.getElem_of_mem hc
    refine h k (by simpa [marks_len] using hk) ?_
    simp [List.getD, List.getElem?_eq_getElem hk, e]
  rw [this]; simp
theorem mark_at (k : Nat) (h : k < (⟨#[33, 36, 37, 38, 42, 47, 58, 60, 61, 62, 63, 94, 95, 126, 43, 45]⟩ : ByteArray).size) :
    (((⟨#[33, 36, 37, 38, 42, 47, 58, 60, 61, 62, 63, 94, 95, 126, 43, 45]⟩ : ByteArray)[k]).toNat : Int) = marks.getD k 0 := by
  have key : ∀ j : Fin 16, (((⟨#[33, 36, 37, 38, 42, 47, 58, 60, 61, 62, 63, 94, 95, 126, 43, 45]⟩ : ByteArray)[j.val]'(by exact j.2)).toNat : Int) = marks.getD j.val 0 := by decide
  exact key ⟨k, h⟩
/-- What strings.IndexByte says of the marks. -/
theorem index_marks (c : Int) (h0 : 0 ≤ c) (h1 : c < 256) :
    decide (0 ≤ Lib.indexByte (⟨#[33, 36, 37, 38, 42, 47, 58, 60, 61, 62, 63, 94, 95, 126, 43, 45]⟩ : ByteArray).data.toList c.toNat.toUInt8) = marks.contains c := by
  obtain ⟨n, rfl⟩ := Int.eq_ofNat_of_zero_le h0
  have hn : n < 256 := by omega
  have key : ∀ j : Fin 256, decide (0 ≤ Lib.indexByte (⟨#[33, 36, 37, 38, 42, 47, 58, 60, 61, 62, 63, 94, 95, 126, 43, 45]⟩ : ByteArray).data.toList (j.val : Int).toNat.toUInt8) = marks.contains (j.val : Int) := by decide +kernel
  exact key ⟨n, hn⟩
end Go.Proofs.YtmmkpmgidoelpaaDoor
namespace Go.Proofs.YtmmkpmgidoelpaaDoor
open Go.RowKit Ch1
theorem info5 : (Tryd.prog.info? 5).map (fun i => (i.zero, i.size, i.bytes)) = some (some (.int .u8 0), 1, 1) := by kernel_rfl

/-- A slice of bytes that lies in w and reads as xs. -/
structure By (w : World) (p : Option Addr) (n c : Nat) (xs : List Int) : Prop where
  len : xs.length = n
  cap : n ≤ c
  big : c ≤ maxLen
  rng : ∀ i, 0 ≤ xs.getD i 0 ∧ xs.getD i 0 < 256
  cells : Lib.BytesIn w p n xs
  old : ∀ a, p = some a → 0 < n → a.block < w.heap.size

theorem By.below {w w' : World} {p : Option Addr} {n c : Nat} {xs : List Int} (h : By w p n c xs) (hb : Below w.heap.size w w') : By w' p n c xs := by
  refine ⟨h.len, h.cap, h.big, h.rng, fun hn => ?_, fun a ha hn => Nat.lt_of_lt_of_le (h.old a ha hn) hb.size⟩
  obtain ⟨b, o, e, hc⟩ := h.cells hn
  have ho := h.old _ e hn
  exact ⟨b, o, e, fun i hi => by rw [hb.cell (p := ⟨b, o + i, none⟩) ho]; exact hc i hi⟩

/-! ### szByteS -/
/-! ### eqByteS, at equal bytes -/
/-! ### toByteS -/
theorem getD_int (xs : List Int) (k : Nat) (h : k < xs.length) : xs[k]? = some (xs.getD k 0) := by simp [List.getD, List.getElem?_eq_getElem h]
/-! ### numbers -/
theorem all_getD {f : Int → Bool} {xs : List Int} (h : ∀ j, j < xs.length → f (xs.getD j 0) = true) : xs.all f = true := by
  rw [List.all_eq_true]
  intro x hx
  obtain ⟨j, hj, e⟩ := List.getElem_of_mem hx
  have := h j hj
  simpa [List.getD, List.getElem?_eq_getElem hj, e] using this
theorem not_all_getD {f : Int → Bool} {xs : List Int} {j : Nat} (hj : j < xs.length) (h : f (xs.getD j 0) = false) : xs.all f = false := by
  rw [Bool.eq_false_iff]
  intro ha
  rw [List.all_eq_true] at ha
  have := ha (xs.getD j 0) (by simp [List.getD, List.getElem?_eq_getElem hj])
  rw [h] at this; cases this
theorem head_getD {xs : List Int} (h : 0 < xs.length) : xs.head? = some (xs.getD 0 0) := by
  cases xs with
  | nil => simp at h
  | cons a r => rfl
theorem tail_getD (xs : List Int) (i : Nat) : xs.tail.getD i 0 = xs.getD (i + 1) 0 := by
  cases xs with
  | nil => rfl
  | cons a r => simp [List.getD]
theorem unsigned_minus {xs : List Int} (h : 0 < xs.length) (h45 : xs.getD 0 0 = 45) : unsigned xs = xs.tail := by
  unfold unsigned; rw [head_getD h, h45]; rfl
theorem unsigned_plain {xs : List Int} (h45 : ¬ (0 < xs.length ∧ xs.getD 0 0 = 45)) : unsigned xs = xs := by
  unfold unsigned
  cases xs with
  | nil => rfl
  | cons a r =>
    have : a ≠ 45 := fun e => h45 ⟨by simp, by simpa using e⟩
    simp [this]
theorem numB_true {xs ys : List Int} (hy : unsigned xs = ys) (h : ∀ j, j < ys.length → digB (ys.getD j 0) = true) : numB xs = decide (0 < ys.length) := by
  unfold numB; rw [hy, all_getD h]; simp
theorem numB_false {xs ys : List Int} (hy : unsigned xs = ys) {j : Nat} (hj : j < ys.length) (h : digB (ys.getD j 0) = false) : numB xs = false := by
  unfold numB; rw [hy, not_all_getD hj h]; simp
theorem numB_plain_true {xs : List Int} (h : ∀ j, j < xs.length → digB (xs.getD j 0) = true) : numB xs = decide (0 < xs.length) := by
  refine numB_true (unsigned_plain fun ⟨h0, h45⟩ => ?_) h
  have := h 0 h0
  rw [h45] at this; revert this; decide
theorem numB_plain_false {xs : List Int} (hp : ¬ (1 < xs.length ∧ xs.getD 0 0 = 45)) {j : Nat} (hj : j < xs.length) (h : digB (xs.getD j 0) = false) : numB xs = false := by
  by_cases h45 : xs.getD 0 0 = 45
  · have h1 : xs.length = 1 := by have : ¬ 1 < xs.length := fun h => hp ⟨h, h45⟩; omega
    unfold numB
    rw [unsigned_minus (by omega) h45]
    simp [h1]
  · exact numB_false (unsigned_plain fun h => h45 h.2) hj h

/-! ### numberText -/
theorem prefix45_yes {xs : List Int} (h : 0 < xs.length) (h45 : xs.getD 0 0 = 45) : Lib.hasPrefix (Lib.bytesOf xs) (Lib.bytesOf [45]) = true := by
  cases xs with
  | nil => simp at h
  | cons a r => simp at h45; subst h45; simp [Lib.hasPrefix, Lib.bytesOf]
theorem prefix45_no {xs : List Int} (hr : ∀ i, 0 ≤ xs.getD i 0 ∧ xs.getD i 0 < 256) (h45 : ¬ (0 < xs.length ∧ xs.getD 0 0 = 45)) : Lib.hasPrefix (Lib.bytesOf xs) (Lib.bytesOf [45]) = false := by
  cases xs with
  | nil => simp [Lib.hasPrefix, Lib.bytesOf]
  | cons a r =>
    have h0 := hr 0
    simp at h0
    have hne : a ≠ 45 := fun e => h45 ⟨by simp, by simpa using e⟩
    obtain ⟨m, rfl⟩ := Int.eq_ofNat_of_zero_le h0.1
    have hm : m < 256 := by omega
    have hm' : m ≠ 45 := by omega
    have hu : (45 : UInt8) ≠ UInt8.ofNat m := by
      intro e
      have := congrArg UInt8.toNat e
      simp at this
      omega
    simp [Lib.hasPrefix, Lib.bytesOf, List.isPrefixOf, hu]
theorem trim_no {p : Option Addr} {n c : Nat} {xs : List Int} (hr : ∀ i, 0 ≤ xs.getD i 0 ∧ xs.getD i 0 < 256) (h45 : ¬ (0 < xs.length ∧ xs.getD 0 0 = 45)) : Lib.trimPrefixV p n c xs [45] = .slice p n c := by
  unfold Lib.trimPrefixV
  split
  · rename_i b o _ _ e
    cases e
    simp [Lib.bytesTrimPrefix, prefix45_no hr h45]
  · rfl
theorem trim_yes {b o n c : Nat} {xs : List Int} (h : 0 < xs.length) (h45 : xs.getD 0 0 = 45) : Lib.trimPrefixV (some ⟨b, o, none⟩) n c xs [45] = Lib.sliceFrom b o n c 1 := by
  simp [Lib.trimPrefixV, Lib.bytesTrimPrefix, prefix45_yes h h45]

/-- What numberText's loop goes through: the bytes ys at p, behind the sign. -/
structure Behind (w : World) (xs : List Int) (p : Option Addr) (n c : Nat) (ys : List Int) : Prop where
  un : unsigned xs = ys
  by_ : By w p n c ys

theorem trimmed (p : Option Addr) (n c : Nat) (xs : List Int) (w : World) (h : By w p n c xs) : ∃ p' n' c' ys, Lib.trimPrefixV p n c xs [45] = .slice p' n' c' ∧ Behind w xs p' n' c' ys := by
  by_cases h45 : 0 < xs.length ∧ xs.getD 0 0 = 45
  · obtain ⟨h0, h45⟩ := h45
    have hn : 0 < n := by rw [← h.len]; exact h0
    obtain ⟨b, o, rfl, g⟩ := h.cells hn
    have hold := h.old _ rfl hn
    refine ⟨_, _, _, xs.tail, by rw [trim_yes h0 h45, Lib.sliceFrom], unsigned_minus h0 h45, ?_⟩
    have hc := h.cap; have hb := h.big
    refine ⟨by rw [List.length_tail, h.len], by omega, by omega, fun i => by rw [tail_getD]; exact h.rng (i + 1), fun h1 => ?_, fun a ha h1 => ?_⟩
    · have : ¬ c = 1 := by omega
      rw [if_neg this]
      exact ⟨b, o + 1, rfl, fun i hi => by rw [tail_getD, show o + 1 + i = o + (i + 1) by omega]; exact g (i + 1) (by omega)⟩
    · have : ¬ c = 1 := by omega
      rw [if_neg this] at ha
      cases ha; exact hold
  · exact ⟨p, n, c, xs, trim_no h.rng h45, unsigned_plain h45, h⟩

end Go.Proofs.YtmmkpmgidoelpaaDoor
namespace Go.Proofs.YtmmkpmgidoelpaaDoor
open Go.RowKit Ch1
end Go.Proofs.YtmmkpmgidoelpaaDoor
namespace Go.Proofs.YtmmkpmgidoelpaaDoor
open Go.RowKit Ch1
theorem symText_short {xs : List Int} (h : xs.length < 1) : symTextB xs = false := by unfold symTextB; rw [decide_eq_false (show ¬ 1 ≤ xs.length by omega)]; simp
theorem symText_long {xs : List Int} (h : 100 < xs.length) : symTextB xs = false := by unfold symTextB; rw [decide_eq_false (show ¬ xs.length ≤ 100 by omega)]; simp
theorem symText_dig {xs : List Int} (h : digB (xs.getD 0 0) = true) : symTextB xs = false := by unfold symTextB; rw [h]; simp
theorem symText_num {xs : List Int} (h : numB xs = true) : symTextB xs = false := by unfold symTextB; rw [h]; simp
theorem symText_bad {xs : List Int} {j : Nat} (hj : j < xs.length) (h : symB (xs.getD j 0) = false) : symTextB xs = false := by unfold symTextB; rw [not_all_getD hj h]; simp
theorem symText_good {xs : List Int} (h1 : 1 ≤ xs.length) (h2 : xs.length ≤ 100) (h3 : digB (xs.getD 0 0) = false) (h4 : numB xs = false) (h : ∀ j, j < xs.length → symB (xs.getD j 0) = true) : symTextB xs = true := by
  unfold symTextB; rw [all_getD h, h3, h4]; simp [h1, h2]

/-! ### symbolText -/
theorem symText_rest {xs : List Int} (h1 : 1 ≤ xs.length) (h2 : xs.length ≤ 100) (h : ∀ j, j < xs.length → symB (xs.getD j 0) = true) : symTextB xs = (!digB (xs.getD 0 0) && !numB xs) := by
  unfold symTextB; rw [all_getD h, decide_eq_true h1, decide_eq_true h2]; simp
end Go.Proofs.YtmmkpmgidoelpaaDoor
namespace Go.Proofs.YtmmkpmgidoelpaaDoor
open Go.RowKit Ch1
theorem nat_beq0 (n : Nat) : ((n : Int) == 0) = decide (n = 0) := by rw [Bool.eq_iff_iff]; simp
theorem good_int (n count : Int) (t : List Int) (tn : Nat) (hl : t.length = tn) : goodB ⟨0, n, t, count⟩ = (smallB n && ((tn : Int) == 0) && (count == 0)) := by
  simp [goodB, hl, nat_beq0]; rfl
theorem good_bool (n count : Int) (t : List Int) (tn : Nat) (hl : t.length = tn) : goodB ⟨1, n, t, count⟩ = (((n == 0) || (n == 1)) && ((tn : Int) == 0) && (count == 0)) := by
  simp [goodB, hl, nat_beq0]; rfl
theorem good_sym (n count : Int) (t : List Int) : goodB ⟨2, n, t, count⟩ = ((n == 0) && symTextB t && (count == 0)) := by
  simp [goodB]; rfl
theorem good_list (n count : Int) (t : List Int) (tn : Nat) (hl : t.length = tn) : goodB ⟨3, n, t, count⟩ = ((n == 0) && ((tn : Int) == 0) && decide (0 ≤ count)) := by
  simp [goodB, hl, nat_beq0]; rfl
theorem good_other (kind n count : Int) (t : List Int) (h0 : (kind == 0) = false) (h1 : (kind == 1) = false) (h2 : (kind == 2) = false) (h3 : (kind == 3) = false) : goodB ⟨kind, n, t, count⟩ = false := by
  rw [beq_eq_false_iff_ne] at h0 h1 h2 h3
  simp [goodB, h0, h1, h2, h3]

theorem bcell {W w1 : World} (hb : Below W.heap.size W w1) : (∀ b o, b < W.heap.size → w1.cell? ⟨b, o, none⟩ = W.cell? ⟨b, o, none⟩) ∧ (∀ b o, b < W.heap.size → w1.frozen? ⟨b, o, none⟩ = W.frozen? ⟨b, o, none⟩) :=
  ⟨fun b o h => hb.cell (p := ⟨b, o, none⟩) h, fun b o h => hb.frozen (p := ⟨b, o, none⟩) h⟩
end Go.Proofs.YtmmkpmgidoelpaaDoor
namespace Go.Proofs.YtmmkpmgidoelpaaDoor
open Go.RowKit Ch1
theorem bne_of_beq {a b : Int} {x : Bool} (h : (a == b) = x) : (a != b) = !x := by rw [← h]; rfl
end Go.Proofs.YtmmkpmgidoelpaaDoor
namespace Go.Proofs.YtmmkpmgidoelpaaDoor
open Go.RowKit Ch1
/-- Element i of the data at ⟨b, o⟩. -/
structure El (w : World) (b o : Nat) (d : Dt) (tp : Option Addr) (tn tc : Nat) : Prop where
  c0 : w.cell? ⟨b, o, none⟩ = some (.int .i64 d.kind)
  c1 : w.cell? ⟨b, o + 1, none⟩ = some (.int .i64 d.n)
  c2 : w.cell? ⟨b, o + 2, none⟩ = some (.slice tp tn tc)
  c3 : w.cell? ⟨b, o + 3, none⟩ = some (.int .i64 d.count)
  by_ : By w tp tn tc d.text
  lo : -9223372036854775808 ≤ d.count
  hi : d.count ≤ 9223372036854775807
/-- A slice of data that lies in w and reads as ds. -/
structure Da (w : World) (p : Option Addr) (n c : Nat) (ds : List Dt) : Prop where
  len : ds.length = n
  cap : n ≤ c
  big : c ≤ maxLen
  cells : 0 < n → ∃ b o, p = some ⟨b, o, none⟩ ∧ b < w.heap.size ∧ ∀ i, i < n → ∃ tp tn tc, El w b (o + i * 4) (ds.getD i dt0) tp tn tc
theorem El.below {w w' : World} {b o : Nat} {d : Dt} {tp : Option Addr} {tn tc : Nat} (h : El w b o d tp tn tc) (hlt : b < w.heap.size) (hb : Below w.heap.size w w') : El w' b o d tp tn tc :=
  ⟨by rw [hb.cell (p := ⟨b, o, none⟩) hlt]; exact h.c0, by rw [hb.cell (p := ⟨b, o + 1, none⟩) hlt]; exact h.c1, by rw [hb.cell (p := ⟨b, o + 2, none⟩) hlt]; exact h.c2, by rw [hb.cell (p := ⟨b, o + 3, none⟩) hlt]; exact h.c3, h.by_.below hb, h.lo, h.hi⟩
theorem Da.below {w w' : World} {p : Option Addr} {n c : Nat} {ds : List Dt} (h : Da w p n c ds) (hb : Below w.heap.size w w') : Da w' p n c ds := by
  refine ⟨h.len, h.cap, h.big, fun hn => ?_⟩
  obtain ⟨b, o, e, hlt, hc⟩ := h.cells hn
  refine ⟨b, o, e, Nat.lt_of_lt_of_le hlt hb.size, fun i hi => ?_⟩
  obtain ⟨tp, tn, tc, he⟩ := hc i hi
  exact ⟨tp, tn, tc, he.below hlt hb⟩

def szOf (left : Int) (n : Nat) : Int := if left - n < 0 then -1 else left - n
theorem By.setCell {w : World} {g n c : Nat} {xs : List Int} (h : By w (some ⟨g, 0, none⟩) n c xs) {a : Addr} (ha : g ≠ a.block) (v : Value) : By (w.setCell a v) (some ⟨g, 0, none⟩) n c xs := by
  refine ⟨h.len, h.cap, h.big, h.rng, fun hn => ?_, fun x hx hn => by have := h.old x hx hn; simpa [World.setCell] using this⟩
  obtain ⟨b, o, e, hc⟩ := h.cells hn
  cases e
  refine ⟨g, 0, rfl, fun i hi => ?_⟩
  rw [World.cell?_of_block (w := w) (Below.heap_setCell w a v g ha)]
  exact hc i hi
theorem below1 (w : World) (o : Obj) : Below w.heap.size w (w.alloc o) := (Below.refl _ w).alloc (Nat.le_refl _) _
theorem below2 (w : World) (o o2 : Obj) : Below w.heap.size w ((w.alloc o).alloc o2) := (below1 w o).alloc (by simp) _
theorem below3 (w : World) (o o2 o3 : Obj) : Below w.heap.size w (((w.alloc o).alloc o2).alloc o3) := (below2 w o o2).alloc (by simp; omega) _
end Go.Proofs.YtmmkpmgidoelpaaDoor
namespace Go.Proofs.YtmmkpmgidoelpaaDoor
open Go.RowKit Ch1
end Go.Proofs.YtmmkpmgidoelpaaDoor
namespace Go.Proofs.YtmmkpmgidoelpaaDoor
open Go.RowKit Ch1
theorem below_drewN' {B : Nat} {a w : World} (h : Below B a w) (q : Nat) : Below B a (w.drewN q) := ⟨h.os, h.tape, h.output, h.size, h.block⟩
end Go.Proofs.YtmmkpmgidoelpaaDoor
namespace Go.Proofs.YtmmkpmgidoelpaaDoor
open Go.RowKit Ch1
theorem Da.nil {w : World} {p : Option Addr} {c : Nat} {ds : List Dt} (h : Da w p 0 c ds) : ds = [] := List.length_eq_zero_iff.1 h.len
/-- The first element. -/
theorem Da.head {w : World} {p : Option Addr} {m c : Nat} {d : Dt} {r : List Dt} (h : Da w p (m + 1) c (d :: r)) : ∃ b o tp tn tc, p = some ⟨b, o, none⟩ ∧ b < w.heap.size ∧ El w b o d tp tn tc := by
  obtain ⟨b, o, e, hb, g⟩ := h.cells (by omega)
  obtain ⟨tp, tn, tc, he⟩ := g 0 (by omega)
  exact ⟨b, o, tp, tn, tc, e, hb, by simpa using he⟩
/-- All but the first. -/
theorem Da.tail {w : World} {b o m c : Nat} {d : Dt} {r : List Dt} (h : Da w (some ⟨b, o, none⟩) (m + 1) (c + 1) (d :: r)) : Da w (some ⟨b, o + 4, none⟩) m c r := by
  have h1 := h.len; have h2 := h.cap; have h3 := h.big
  refine ⟨by simpa using h1, by omega, by omega, fun hm => ?_⟩
  obtain ⟨b', o', e, hb, g⟩ := h.cells (by omega)
  cases e
  refine ⟨b, o + 4, rfl, hb, fun i hi => ?_⟩
  obtain ⟨tp, tn, tc, he⟩ := g (i + 1) (by omega)
  refine ⟨tp, tn, tc, ?_⟩
  rw [show o + 4 + i * 4 = o + (i + 1) * 4 by omega]
  simpa using he
theorem Da.last {w : World} {p p' : Option Addr} {m : Nat} {d : Dt} {r : List Dt} (h : Da w p (m + 1) 1 (d :: r)) : m = 0 ∧ Da w p' 0 0 r := by
  have h1 := h.len; have h2 := h.cap
  obtain rfl : m = 0 := by omega
  exact ⟨rfl, by simpa using h1, Nat.le_refl _, by unfold maxLen; omega, fun h => absurd h (Nat.lt_irrefl 0)⟩
/-- What behindDatum answers. -/
def Out (o : Option (List Dt)) (e : Ending) (w' : World) : Prop := match o with
  | none => e = .returned (.tuple #[.slice none 0 0, .bool false])
  | some r => ∃ p n c, e = .returned (.tuple #[.slice p n c, .bool true]) ∧ Da w' p n c r
/-- What stands behind the first element, at whatever address. -/
theorem Da.rest {w : World} {b o m c : Nat} {d : Dt} {r : List Dt} (h : Da w (some ⟨b, o, none⟩) (m + 1) (c + 1) (d :: r)) : ∃ p1, (if c = 0 then (some ⟨b, o, none⟩ : Option Addr) else some ⟨b, o + 4, none⟩) = p1 ∧ Da w p1 m c r := by
  by_cases hc : c = 0
  · subst hc
    obtain ⟨rfl, h'⟩ := h.last (p' := some ⟨b, o, none⟩)
    exact ⟨_, if_pos rfl, h'⟩
  · exact ⟨_, if_neg hc, h.tail⟩
end Go.Proofs.YtmmkpmgidoelpaaDoor
namespace Go.Proofs.YtmmkpmgidoelpaaDoor
open Go.RowKit Ch1
theorem good_count {d : Dt} (hg : goodB d = true) (hk : d.kind = 3) : 0 ≤ d.count := by
  obtain ⟨kind, n, t, count⟩ := d
  simp only at hk
  subst hk
  rw [good_list n count t t.length rfl] at hg
  simp at hg
  exact hg.2
end Go.Proofs.YtmmkpmgidoelpaaDoor
namespace Go.Proofs.YtmmkpmgidoelpaaDoor
open Go.RowKit Ch1
theorem drop_cons (ds : List Dt) (i : Nat) (h : i < ds.length) : ds.drop i = ds.getD i dt0 :: ds.drop (i + 1) := by
  rw [List.drop_eq_getElem_cons h]; simp [List.getD, List.getElem?_eq_getElem h]
theorem endZ_past (ds : List Dt) (k i : Nat) (h : ds.length ≤ i) : endZ ds k i = -1 := by
  unfold endZ; rw [List.drop_eq_nil_of_le h, skip_nil]
theorem endZ_bad (ds : List Dt) (k i : Nat) (h : i < ds.length) (hg : goodB (ds.getD i dt0) = false) : endZ ds k i = -1 := by
  unfold endZ; rw [drop_cons ds i h, skip_bad _ _ _ hg]
theorem good_atom {d : Dt} (hg : goodB d = true) (hk : d.kind ≠ 3) : d.count = 0 := by
  obtain ⟨kind, n, t, count⟩ := d
  simp only at hk
  by_cases h0 : kind = 0
  · subst h0; rw [good_int n count t t.length rfl] at hg; simp at hg; exact hg.2
  by_cases h1 : kind = 1
  · subst h1; rw [good_bool n count t t.length rfl] at hg; simp at hg; exact hg.2
  by_cases h2 : kind = 2
  · subst h2; rw [good_sym n count t] at hg; simp at hg; exact hg.2
  rw [good_other kind n count t (beq_eq_false_iff_ne.2 h0) (beq_eq_false_iff_ne.2 h1) (beq_eq_false_iff_ne.2 h2) (beq_eq_false_iff_ne.2 hk)] at hg
  cases hg
theorem endZ_many (ds : List Dt) (k i : Nat) (h : i < ds.length) (hg : goodB (ds.getD i dt0) = true) (hc : (ds.length : Int) < (ds.getD i dt0).count) : endZ ds k i = -1 := by
  have hk : (ds.getD i dt0).kind = 3 := by
    by_cases hk : (ds.getD i dt0).kind = 3
    · exact hk
    · have := good_atom hg hk; omega
  unfold endZ
  rw [drop_cons ds i h]
  cases k with
  | zero => rw [skip_deep _ _ hk]
  | succ k =>
    rw [skip_list k _ _ hg hk, skipN_many (skip_eats k)]
    rw [List.length_drop]; omega
theorem endZ_atom (ds : List Dt) (k i : Nat) (h : i < ds.length) (hg : goodB (ds.getD i dt0) = true) (hk : (ds.getD i dt0).kind ≠ 3) : endZ ds k i = i + 1 := by
  unfold endZ; rw [drop_cons ds i h, skip_atom _ _ _ hg hk]
  simp only [List.length_drop]; omega
theorem endZ_deep (ds : List Dt) (i : Nat) (h : i < ds.length) (hk : (ds.getD i dt0).kind = 3) : endZ ds 0 i = -1 := by
  unfold endZ; rw [drop_cons ds i h, skip_deep _ _ hk]
theorem endZ_list_none (ds : List Dt) (k i : Nat) (h : i < ds.length) (hg : goodB (ds.getD i dt0) = true) (hk : (ds.getD i dt0).kind = 3)
    (hs : skipN (skip k) (ds.getD i dt0).count.toNat (ds.drop (i + 1)) = none) : endZ ds (k + 1) i = -1 := by
  unfold endZ; rw [drop_cons ds i h, skip_list k _ _ hg hk, hs]
theorem endZ_list_some (ds : List Dt) (k i j : Nat) (h : i < ds.length) (hg : goodB (ds.getD i dt0) = true) (hk : (ds.getD i dt0).kind = 3) (hj : j ≤ ds.length)
    (hs : skipN (skip k) (ds.getD i dt0).count.toNat (ds.drop (i + 1)) = some (ds.drop j)) : endZ ds (k + 1) i = j := by
  unfold endZ; rw [drop_cons ds i h, skip_list k _ _ hg hk, hs]
  simp only [List.length_drop]; omega
theorem endZ_some (ds : List Dt) (k i : Nat) (r : List Dt) (h : skip k (ds.drop i) = some r) : ∃ j, i < j ∧ j ≤ ds.length ∧ r = ds.drop j ∧ endZ ds k i = j := by
  obtain ⟨a, h1, h2, rfl⟩ := skip_eats k _ _ h
  rw [List.length_drop] at h2
  refine ⟨i + a, by omega, by omega, by rw [List.drop_drop], ?_⟩
  unfold endZ; rw [h]
  simp only [List.length_drop]; omega
theorem endZ_none (ds : List Dt) (k i : Nat) (h : skip k (ds.drop i) = none) : endZ ds k i = -1 := by
  unfold endZ; rw [h]
theorem Da.at {w : World} {p : Option Addr} {n c : Nat} {ds : List Dt} (h : Da w p n c ds) {i : Nat} (hi : i < n) : ∃ b o tp tn tc, p = some ⟨b, o, none⟩ ∧ b < w.heap.size ∧ El w b (o + i * 4) (ds.getD i dt0) tp tn tc := by
  obtain ⟨b, o, e, hb, g⟩ := h.cells (by omega)
  obtain ⟨tp, tn, tc, he⟩ := g i hi
  exact ⟨b, o, tp, tn, tc, e, hb, he⟩
end Go.Proofs.YtmmkpmgidoelpaaDoor
namespace Go.Proofs.YtmmkpmgidoelpaaDoor
open Go.RowKit Ch1
end Go.Proofs.YtmmkpmgidoelpaaDoor
/- Plain mathematics of chapter 1's texts: no Go here. -/
namespace Go.Proofs.YtmmkpmgidoelpaaDoor
namespace Ch1
def nums (l : List UInt8) : List Int := l.map fun b => (b.toNat : Int)
def itoaZ (n : Int) : List Int := nums (Lib.itoa n)
def boolT (n : Int) : List Int := if n = 1 then [35, 116] else [35, 102]
/-- The texts of k data one behind another, a space between. -/
def elems (f : List Dt → Option (List Dt)) (g : List Dt → List Int) : Nat → List Dt → List Int
  | 0, _ => []
  | k + 1, r => elems f g k r ++ ((if k = 0 then [] else [32]) ++ g ((skipN f k r).getD []))
def txt : Nat → List Dt → List Int
  | _, [] => []
  | 0, d :: _ => if d.kind = 0 then itoaZ d.n else if d.kind = 1 then boolT d.n else d.text
  | k + 1, d :: r => if d.kind = 0 then itoaZ d.n else if d.kind = 1 then boolT d.n else if d.kind = 2 then d.text else 40 :: (elems (skip k) (txt k) d.count.toNat r ++ [41])
theorem txt_int (k : Nat) (d : Dt) (r : List Dt) (h : d.kind = 0) : txt k (d :: r) = itoaZ d.n := by cases k <;> simp [txt, h]
theorem txt_bool (k : Nat) (d : Dt) (r : List Dt) (h : d.kind = 1) : txt k (d :: r) = boolT d.n := by cases k <;> simp [txt, h]
theorem txt_sym (k : Nat) (d : Dt) (r : List Dt) (h : d.kind = 2) : txt k (d :: r) = d.text := by cases k <;> simp [txt, h]
theorem txt_list (k : Nat) (d : Dt) (r : List Dt) (h : d.kind = 3) : txt (k + 1) (d :: r) = 40 :: (elems (skip k) (txt k) d.count.toNat r ++ [41]) := by simp [txt, h]
theorem elems_succ (f : List Dt → Option (List Dt)) (g : List Dt → List Int) (k : Nat) (r q : List Dt) (h : skipN f k r = some q) : elems f g (k + 1) r = elems f g k r ++ ((if k = 0 then [] else [32]) ++ g q) := by
  simp [elems, h]
/-- A datum that is good is of one of the four kinds. -/
theorem good_kinds {d : Dt} (h : goodB d = true) : d.kind = 0 ∨ d.kind = 1 ∨ d.kind = 2 ∨ d.kind = 3 := by
  unfold goodB at h
  by_cases h0 : d.kind = 0
  · exact Or.inl h0
  by_cases h1 : d.kind = 1
  · exact Or.inr (Or.inl h1)
  by_cases h2 : d.kind = 2
  · exact Or.inr (Or.inr (Or.inl h2))
  by_cases h3 : d.kind = 3
  · exact Or.inr (Or.inr (Or.inr h3))
  simp [h0, h1, h2, h3] at h
theorem good_small {d : Dt} (h : goodB d = true) (hk : d.kind = 0) : -2305843009213693952 ≤ d.n ∧ d.n ≤ 2305843009213693951 := by
  simp [goodB, hk, smallB] at h; exact h.1.1
theorem good_bit {d : Dt} (h : goodB d = true) (hk : d.kind = 1) : d.n = 0 ∨ d.n = 1 := by
  simp [goodB, hk] at h; exact h.1.1
theorem good_text {d : Dt} (h : goodB d = true) (hk : d.kind = 2) : 1 ≤ d.text.length ∧ d.text.length ≤ 100 := by
  simp [goodB, hk, symTextB] at h; exact ⟨by omega, by omega⟩
theorem good_nonneg {d : Dt} (h : goodB d = true) : 0 ≤ d.count := by
  rcases good_kinds h with hk | hk | hk | hk <;> simp [goodB, hk] at h <;> omega
/-- What a skip says of the first datum. -/
theorem skip_some {k : Nat} {l r : List Dt} (h : skip k l = some r) : ∃ d q, l = d :: q ∧ goodB d = true ∧ ((d.kind ≠ 3 ∧ r = q) ∨ ∃ k', k = k' + 1 ∧ d.kind = 3 ∧ skipN (skip k') d.count.toNat q = some r) := by
  cases l with
  | nil => simp [skip_nil] at h
  | cons d q =>
    cases hg : goodB d with
    | false => simp [skip_bad k d q hg] at h
    | true =>
      refine ⟨d, q, rfl, hg, ?_⟩
      by_cases hk : d.kind = 3
      · cases k with
        | zero => simp [skip_deep d q hk] at h
        | succ k' => rw [skip_list k' d q hg hk] at h; exact Or.inr ⟨k', rfl, hk, h⟩
      · rw [skip_atom k d q hg hk] at h; exact Or.inl ⟨hk, by simpa using h.symm⟩
theorem skipN_succ_some {f : List Dt → Option (List Dt)} {c : Nat} {l r : List Dt} (h : skipN f (c + 1) l = some r) : ∃ q, skipN f c l = some q ∧ f q = some r := by
  rw [skipN_succ_right] at h
  cases e : skipN f c l with
  | none => simp [e] at h
  | some q => rw [e] at h; exact ⟨q, rfl, h⟩
theorem nums_length (l : List UInt8) : (nums l).length = l.length := by simp [nums]
theorem boolT_length (n : Int) : (boolT n).length = 2 := by unfold boolT; split <;> rfl
theorem elems_bound {f : List Dt → Option (List Dt)} {g : List Dt → List Int} (hg : ∀ l r, f l = some r → (g l).length + 1 + 130 * r.length ≤ 130 * l.length) :
    ∀ (c : Nat) (l r : List Dt), skipN f c l = some r → (elems f g c l).length + 130 * r.length ≤ 130 * l.length := by
  intro c
  induction c with
  | zero => intro l r h; simp [skipN] at h; subst h; simp [elems]
  | succ c ih =>
    intro l r h
    obtain ⟨q, h1, h2⟩ := skipN_succ_some h
    have i1 := ih l q h1
    have i2 := hg q r h2
    rw [elems_succ f g c l q h1, List.length_append, List.length_append]
    have : (if c = 0 then ([] : List Int) else [32]).length ≤ 1 := by split <;> simp
    omega
theorem txt_bound : ∀ (k : Nat) (l r : List Dt), skip k l = some r → (txt k l).length + 1 + 130 * r.length ≤ 130 * l.length := by
  intro k
  induction k with
  | zero =>
    intro l r h
    obtain ⟨d, q, rfl, hg, ⟨hk, rfl⟩ | ⟨k', e, _⟩⟩ := skip_some h
    · rcases good_kinds hg with h0 | h0 | h0 | h0
      · have hs := good_small hg h0
        rw [txt_int _ _ _ h0, itoaZ, nums_length]
        have := Lib.itoa_length_le d.n (by omega) (by omega)
        simp; omega
      · rw [txt_bool _ _ _ h0, boolT_length]; simp; omega
      · have := good_text hg h0
        rw [txt_sym _ _ _ h0]; simp; omega
      · exact absurd h0 hk
    · omega
  | succ k ih =>
    intro l r h
    obtain ⟨d, q, rfl, hg, ⟨hk, rfl⟩ | ⟨k', e, hk, hs⟩⟩ := skip_some h
    · rcases good_kinds hg with h0 | h0 | h0 | h0
      · have hs := good_small hg h0
        rw [txt_int _ _ _ h0, itoaZ, nums_length]
        have := Lib.itoa_length_le d.n (by omega) (by omega)
        simp; omega
      · rw [txt_bool _ _ _ h0, boolT_length]; simp; omega
      · have := good_text hg h0
        rw [txt_sym _ _ _ h0]; simp; omega
      · exact absurd h0 hk
    · obtain rfl : k = k' := by omega
      have := elems_bound ih _ _ _ hs
      rw [txt_list _ _ _ hk]
      simp; omega

/-! ### the row -/
def rowX : Nat → List Dt → List Int
  | _, [] => []
  | 0, _ :: _ => []
  | n + 1, d :: r => match skip 100 (d :: r) with
    | none => []
    | some r' => txt 100 (d :: r) ++ 10 :: rowX n r'
theorem rowX_fuel : ∀ (a b : Nat) (r : List Dt), r.length ≤ a → r.length ≤ b → rowX a r = rowX b r := by
  intro a
  induction a with
  | zero => intro b r h _; cases r with | nil => cases b <;> rfl | cons d r => simp at h
  | succ a ih =>
    intro b r h1 h2
    cases r with
    | nil => cases b <;> rfl
    | cons d r =>
      cases b with
      | zero => simp at h2
      | succ b =>
        simp only [rowX]
        cases e : skip 100 (d :: r) with
        | none => rfl
        | some r' =>
          obtain ⟨k, hk1, hk2, rfl⟩ := skip_eats 100 _ _ e
          have hl : ((d :: r).drop k).length = (d :: r).length - k := List.length_drop ..
          simp only
          rw [ih b _ (by omega) (by omega)]
def rowT (r : List Dt) : List Int := rowX r.length r
theorem rowT_nil : rowT [] = [] := rfl
theorem rowT_some (r r' : List Dt) (h : skip 100 r = some r') : rowT r = txt 100 r ++ 10 :: rowT r' := by
  cases r with
  | nil => simp [skip_nil] at h
  | cons d r =>
    obtain ⟨k, hk1, hk2, e⟩ := skip_eats 100 _ _ h
    have hl : r'.length = (d :: r).length - k := by rw [e]; exact List.length_drop ..
    show rowX (r.length + 1) (d :: r) = _
    simp only [rowX, h]
    rw [rowX_fuel r.length r'.length r' (by simp at hl hk2; omega) (Nat.le_refl _)]
    rfl
theorem rowOf_next (l : List Dt) (h : rowOf l = true) (h0 : l ≠ []) : ∃ r, skip 100 l = some r ∧ rowOf r = true := by
  cases e : skip 100 l with
  | none => rw [rowOf_none l h0 e] at h; cases h
  | some r => exact ⟨r, rfl, by rw [← rowOf_some l r e]; exact h⟩

/-! ### counting what is open -/
def opn : Nat → List Dt → Int
  | 0, _ => 0
  | m + 1, l => opn m l + ((l.getD m dt0).count - 1)
theorem drop_getD (l : List Dt) (a m : Nat) : (l.drop a).getD m dt0 = l.getD (a + m) dt0 := by simp [List.getD]
theorem opn_add (a : Nat) : ∀ (b : Nat) (l : List Dt), opn (a + b) l = opn a l + opn b (l.drop a) := by
  intro b
  induction b with
  | zero => intro l; simp [opn]
  | succ b ih => intro l; rw [← Nat.add_assoc, opn, ih l, opn, drop_getD]; omega
theorem dyckN {f : List Dt → Option (List Dt)} (hf : ∀ l r, f l = some r → ∃ m, 1 ≤ m ∧ m ≤ l.length ∧ r = l.drop m ∧ opn m l = -1 ∧ (∀ j, j < m → 0 ≤ opn j l ∧ 0 ≤ (l.getD j dt0).count)) :
    ∀ (c : Nat) (l r : List Dt), skipN f c l = some r → ∃ m, m ≤ l.length ∧ r = l.drop m ∧ opn m l = -c ∧ (∀ j, j < m → -(c : Int) < opn j l ∧ 0 ≤ (l.getD j dt0).count) := by
  intro c
  induction c with
  | zero => intro l r h; simp [skipN] at h; exact ⟨0, Nat.zero_le _, by simp [h], rfl, fun j hj => absurd hj (Nat.not_lt_zero j)⟩
  | succ c ih =>
    intro l r h
    obtain ⟨q, h1, h2⟩ := skipN_succ_some h
    obtain ⟨a, ha, rfl, hoa, hja⟩ := ih l q h1
    obtain ⟨b, hb1, hb2, rfl, hob, hjb⟩ := hf _ _ h2
    rw [List.length_drop] at hb2
    refine ⟨a + b, by omega, by rw [List.drop_drop], by rw [opn_add, hoa, hob]; omega, fun j hj => ?_⟩
    by_cases e : j < a
    · have := hja j e; exact ⟨by omega, this.2⟩
    · obtain ⟨t, rfl⟩ : ∃ t, j = a + t := ⟨j - a, by omega⟩
      have := hjb t (by omega)
      rw [drop_getD] at this
      rw [opn_add, hoa]
      exact ⟨by omega, this.2⟩
theorem opn_cons (d : Dt) (q : List Dt) (m : Nat) : opn (m + 1) (d :: q) = d.count - 1 + opn m q := by
  rw [Nat.add_comm, opn_add]; simp [opn]
theorem dyck : ∀ (k : Nat) (l r : List Dt), skip k l = some r → ∃ m, 1 ≤ m ∧ m ≤ l.length ∧ r = l.drop m ∧ opn m l = -1 ∧ (∀ j, j < m → 0 ≤ opn j l ∧ 0 ≤ (l.getD j dt0).count) := by
  intro k
  induction k with
  | zero =>
    intro l r h
    obtain ⟨d, q, rfl, hg, ⟨hk, rfl⟩ | ⟨k', e, _⟩⟩ := skip_some h
    · have hc : d.count = 0 := by
        rcases good_kinds hg with h0 | h0 | h0 | h0 <;> simp [goodB, h0] at hg <;> first | omega | exact absurd h0 hk
      refine ⟨1, Nat.le_refl _, by simp, rfl, by simp [opn, hc], fun j hj => ?_⟩
      obtain rfl : j = 0 := by omega
      simp [opn, hc]
    · omega
  | succ k ih =>
    intro l r h
    obtain ⟨d, q, rfl, hg, ⟨hk, rfl⟩ | ⟨k', e, hk, hs⟩⟩ := skip_some h
    · have hc : d.count = 0 := by
        rcases good_kinds hg with h0 | h0 | h0 | h0 <;> simp [goodB, h0] at hg <;> first | omega | exact absurd h0 hk
      refine ⟨1, Nat.le_refl _, by simp, rfl, by simp [opn, hc], fun j hj => ?_⟩
      obtain rfl : j = 0 := by omega
      simp [opn, hc]
    · obtain rfl : k = k' := by omega
      have hn := good_nonneg hg
      obtain ⟨m, hm, rfl, ho, hj⟩ := dyckN ih _ _ _ hs
      refine ⟨m + 1, by omega, by simpa using hm, by simp, by rw [opn_cons, ho]; omega, fun j hjm => ?_⟩
      cases j with
      | zero => simp [opn]; exact hn
      | succ j =>
        have := hj j (by omega)
        rw [opn_cons]
        exact ⟨by omega, by simpa [List.getD] using this.2⟩
/-- What is open is never more than what is still to come. -/
theorem opn_le (l : List Dt) (m : Nat) (h : ∀ j, j < m → 0 ≤ (l.getD j dt0).count) : ∀ t, t ≤ m → opn (m - t) l ≤ opn m l + t := by
  intro t
  induction t with
  | zero => intro _; simp
  | succ t ih =>
    intro ht
    have i := ih (by omega)
    have := h (m - (t + 1)) (by omega)
    rw [show m - t = m - (t + 1) + 1 by omega, opn] at i
    omega
end Ch1
end Go.Proofs.YtmmkpmgidoelpaaDoor
namespace Go.Proofs.YtmmkpmgidoelpaaDoor
open Go.RowKit Ch1
/-- v is a slice of the call's own that holds the bytes xs. -/
def Ow (w : World) (B : Nat) (v : Value) (xs : List Int) : Prop := w.ownsRow B 5 1 v xs.length (xs.map (Value.int .u8))
theorem ownsRow_below {w w' : World} {B : Nat} {e : TypeId} {s n : Nat} {v : Value} {xs : List Value} (h : w.ownsRow B e s v n xs) (hb : Below w.heap.size w w') : w'.ownsRow B e s v n xs := by
  obtain ⟨h1, h2 | ⟨g, cap, cur, hv, hg, hh, r⟩⟩ := h
  · exact ⟨h1, Or.inl h2⟩
  · refine ⟨h1, Or.inr ⟨g, cap, cur, hv, hg, ?_, r⟩⟩
    rw [hb.block g (Array.getElem?_eq_some_iff.1 hh).1]; exact hh
theorem Ow.below {w w' : World} {B : Nat} {v : Value} {xs : List Int} (h : Ow w B v xs) (hb : Below w.heap.size w w') : Ow w' B v xs := ownsRow_below h hb
theorem Ow.nil (w : World) (B : Nat) : Ow w B (.slice none 0 0) [] := ⟨rfl, Or.inl ⟨rfl, rfl⟩⟩
theorem Ow.lit (w : World) (B : Nat) (xs : List Int) (hB : B ≤ w.heap.size) (hl : xs.length ≤ maxLen) : Ow (w.alloc (.cells (xs.map (Value.int .u8)).toArray 5)) B (.slice (some ⟨w.heap.size, 0, none⟩) xs.length xs.length) xs := by
  refine ⟨by simp, Or.inr ⟨w.heap.size, xs.length, (xs.map (Value.int .u8)).toArray, rfl, hB, ?_, Nat.le_refl _, hl, by simp, by rw [Nat.mul_one, List.take_of_length_le (by simp)]⟩⟩
  exact Go.Deep.blk_alloc_new _ _
theorem Ow.by_ {w : World} {B : Nat} {v : Value} {xs : List Int} (h : Ow w B v xs) (hr : ∀ i, 0 ≤ xs.getD i 0 ∧ xs.getD i 0 < 256) : ∃ p c, v = .slice p xs.length c ∧ By w p xs.length c xs ∧ (∀ a, p = some a → a.block < w.heap.size ∧ B ≤ a.block) := by
  obtain ⟨_, ⟨rfl, h0⟩ | ⟨g, cap, cur, rfl, hg, hh, h1, h2, h3, h4⟩⟩ := h
  · obtain rfl : xs = [] := List.length_eq_zero_iff.1 h0
    exact ⟨none, 0, rfl, ⟨rfl, Nat.le_refl _, by unfold maxLen; omega, hr, fun h => absurd h (Nat.lt_irrefl 0), fun a ha => by cases ha⟩, fun a ha => by cases ha⟩
  · have hlt := (Array.getElem?_eq_some_iff.1 hh).1
    refine ⟨some ⟨g, 0, none⟩, cap, rfl, ⟨rfl, h1, h2, hr, fun _ => ⟨g, 0, rfl, fun i hi => ?_⟩, fun a ha _ => by cases ha; exact hlt⟩, fun a ha => by cases ha; exact ⟨hlt, hg⟩⟩
    have : cur.toList[i]? = some (.int .u8 (xs.getD i 0)) := by
      have e : (List.take (xs.length * 1) cur.toList)[i]? = (xs.map (Value.int .u8))[i]? := by rw [h4]
      rw [List.getElem?_take, if_pos (by omega)] at e
      rw [e]; simp [List.getD, List.getElem?_eq_getElem hi]
    simpa [World.cell?, hh] using this
theorem info5' : ∃ i, Tryd.prog.info? 5 = some i ∧ i.zero = some (.int .u8 0) ∧ i.size = 1 ∧ i.bytes = 1 := by
  obtain ⟨i, hi, hpr⟩ := Option.map_eq_some_iff.1 info5
  simp only [Prod.mk.injEq] at hpr
  exact ⟨i, hi, hpr.1, hpr.2.1, hpr.2.2⟩
theorem byte_conv (c : Int) (h0 : 0 ≤ c) (h1 : c < 256) : c % 256 = c := by omega
theorem nums_rng (l : List UInt8) (i : Nat) : 0 ≤ (nums l).getD i 0 ∧ (nums l).getD i 0 < 256 := by
  by_cases hi : i < l.length
  · have : (nums l).getD i 0 = (l[i].toNat : Int) := by simp [nums, List.getD, List.getElem?_eq_getElem hi]
    rw [this]; have := l[i].toNat_lt; omega
  · have : (nums l).getD i 0 = 0 := by simp [nums, List.getD, List.getElem?_eq_none (Nat.le_of_not_lt hi)]
    rw [this]; omega
theorem dec_small (u : Nat) (h : u < 10) : nums (Lib.decDigits u) = [48 + (u : Int)] := by
  unfold Lib.decDigits; rw [dif_pos h]
  simp [nums]; omega
theorem dec_step (u : Nat) (h : ¬ u < 10) : nums (Lib.decDigits u) = nums (Lib.decDigits (u / 10)) ++ [48 + ((u % 10 : Nat) : Int)] := by
  rw [Lib.decDigits, dif_neg h]
  simp [nums]; omega
theorem dec_len (u : Nat) (h : u < 18446744073709551616) : (nums (Lib.decDigits u)).length ≤ 20 := by
  rw [nums_length, Lib.decDigits_length]
  exact Lib.nDigits_le20 u h

/-- What an append onto an own row of bytes leaves. -/
theorem Ow.app {w' : World} {B : Nat} {v' : Value} {xs ys : List Int} {n m : Nat} {cs ds : List Value} (h : w'.ownsRow B 5 1 v' (n + m) (cs ++ ds)) (hn : xs.length = n) (hm : ys.length = m) (hc : cs = xs.map (Value.int .u8)) (hd : ds = ys.map (Value.int .u8)) : Ow w' B v' (xs ++ ys) := by
  subst hn hm hc hd
  unfold Ow
  rw [List.length_append, List.map_append]
  exact h
theorem one_new (w : World) (x : Value) : ∀ j u, ([x] : List Value)[j]? = some u → (w.alloc (.cells #[x] 5)).cell? ((⟨w.heap.size, 0, none⟩ : Addr).add j) = some u := by
  intro j u h
  have hj : j = 0 := by
    cases j with
    | zero => rfl
    | succ j => simp at h
  subst hj
  simp at h
  subst h
  have hb : (w.alloc (.cells #[x] 5)).heap[w.heap.size]? = some (.cells #[x] 5) := Go.Deep.blk_alloc_new _ _
  simp only [Addr.add, if_true, World.cell?]
  rw [hb]
  rfl
theorem own_block_ge {w : World} {B : Nat} {v : Value} {xs : List Int} (h : Ow w B v xs) : ∀ k, v.ownBlock = some k → B ≤ k := by
  obtain ⟨_, ⟨rfl, _⟩ | ⟨g, cap, cur, rfl, hg, _⟩⟩ := h
  · intro k hk; cases hk
  · intro k hk; cases hk; exact hg
theorem wrap_u64 (x : Int) (h0 : 0 ≤ x) (h1 : x < 18446744073709551616) : IntKind.u64.wrap x = x := by
  simp [IntKind.wrap, IntKind.bits, IntKind.signed]
  omega
theorem tdiv10 (x : Int) (h0 : 0 ≤ x) (h1 : x < 18446744073709551616) : IntKind.u64.wrap (x.tdiv 10) = x / 10 := by
  rw [Int.tdiv_eq_ediv_of_nonneg h0]; exact wrap_u64 _ (by omega) (by omega)
theorem tmod10 (x : Int) (h0 : 0 ≤ x) : IntKind.u64.wrap (x.tmod 10) = x % 10 := by
  rw [Int.tmod_eq_emod_of_nonneg h0]; exact wrap_u64 _ (by omega) (by omega)
end Go.Proofs.YtmmkpmgidoelpaaDoor
namespace Go.Proofs.YtmmkpmgidoelpaaDoor
open Go.RowKit Ch1
/-- The call answers a slice that reads as xs; nothing that was there has turned. -/
def Txt (w w' : World) (e : Ending) (xs : List Int) : Prop := ∃ b o c, e = .returned (.slice (some ⟨b, o, none⟩) xs.length c) ∧ By w' (some ⟨b, o, none⟩) xs.length c xs ∧ Below w.heap.size w w'
theorem Ow.txt {w w' : World} {B : Nat} {v : Value} {xs : List Int} (h : Ow w' B v xs) (hr : ∀ i, 0 ≤ xs.getD i 0 ∧ xs.getD i 0 < 256) (h0 : 0 < xs.length) (hb : Below w.heap.size w w') : Txt w w' (.returned v) xs := by
  obtain ⟨p, c, rfl, hy, _⟩ := h.by_ hr
  obtain ⟨b, o, rfl, _⟩ := hy.cells h0
  exact ⟨b, o, c, rfl, hy, hb⟩
theorem itoa_neg (n : Int) (h : n < 0) : itoaZ n = 45 :: nums (Lib.decDigits n.natAbs) := by
  unfold itoaZ Lib.itoa; rw [if_pos h]; rfl
theorem itoa_pos (n : Int) (h : ¬ n < 0) : itoaZ n = nums (Lib.decDigits n.toNat) := by
  unfold itoaZ Lib.itoa; rw [if_neg h]
theorem dec_pos (u : Nat) : 0 < (nums (Lib.decDigits u)).length := by
  rw [nums_length, Lib.decDigits_length]; exact Lib.nDigits_pos u
/-- append(v, x...) onto an own row of bytes. -/
theorem app_law (w : World) {ops : Array Oper} {rest : List Oper} {o : Oper} {a : Act} {Q : Exit → Act → World → Prop} (hgd : o.guard = none) (s x : Operand)
    (ho : o.op = .call { callee := .builtin .append, args := #[s, x], argTypes := #[22, 22] }) (B : Nat) (v : Value) (xs ys : List Int) (hs : a.eval s = v) (hown : Ow w B v xs) (b' o' m c : Nat) (hx : a.eval x = .slice (some ⟨b', o', none⟩) m c)
    (hy : By w (some ⟨b', o', none⟩) m c ys) (hlen : xs.length + m ≤ 1000000000) (hB : B ≤ w.heap.size)
    (h : ∀ v' w', Ow w' B v' (xs ++ ys) → Below B w w' → w.grownBy w' v.ownBlock → wpList Tryd.prog ops Q rest (a.put o.dst v') w') : wpList Tryd.prog ops Q (o :: rest) a w := by
  obtain ⟨i5, hi5, hz5, hs5, hb5⟩ := info5'
  have hl := hy.len
  refine wpList_append_own w hgd s x 22 ho B 5 i5 (.int .u8 0) 1 1 Tryd.underlying22 hi5 hz5 hs5 hb5 rfl (by decide) v xs.length (xs.map (.int .u8)) hs hown ⟨b', o', none⟩ m c (ys.map (.int .u8)) hx (by simp [hl]) ?_ ?_ (by unfold maxLen; omega) (by omega) hB ?_
  · intro j u hu
    by_cases hj : j < ys.length
    · obtain ⟨b, o, e, g⟩ := hy.cells (by omega)
      cases e
      have := g j (by omega)
      rw [Go.WideShapes.add_plain, this, ← hu]
      simp [List.getD, List.getElem?_eq_getElem hj]
    · rw [List.getElem?_eq_none (by simpa using Nat.le_of_not_lt hj)] at hu; cases hu
  · intro u hu
    obtain ⟨n, _, rfl⟩ := List.mem_map.1 hu
    rfl
  · intro v' w' h1 h2 _
    exact h v' w' (Ow.app h1 rfl hl rfl rfl) ((Below.refl _ w).grown h2 hB (own_block_ge hown)) h2
theorem By.lit (w : World) (y : Int) (h0 : 0 ≤ y) (h1 : y < 256) : By (w.alloc (.cells #[.int .u8 y] 5)) (some ⟨w.heap.size, 0, none⟩) 1 1 [y] := by
  refine ⟨rfl, Nat.le_refl _, by unfold maxLen; omega, fun i => ?_, fun _ => ⟨w.heap.size, 0, rfl, fun i hi => ?_⟩, fun a ha _ => by cases ha; simp⟩
  · cases i with
    | zero => exact ⟨h0, h1⟩
    | succ i => simp
  · obtain rfl : i = 0 := by omega
    simp
theorem wrap_neg (n : Int) (h0 : n < 0) (h1 : -9223372036854775808 ≤ n) : IntKind.u64.wrap (-IntKind.u64.wrap n) = -n := by
  simp [IntKind.wrap, IntKind.bits, IntKind.signed]
  omega
end Go.Proofs.YtmmkpmgidoelpaaDoor
namespace Go.Proofs.YtmmkpmgidoelpaaDoor
open Go.RowKit Ch1
/-- v is a slice of the call's own that holds the places ks. -/
def OwI (w : World) (B : Nat) (v : Value) (ks : List Nat) : Prop := w.ownsRow B 3 1 v ks.length (ks.map fun k : Nat => Value.int .i64 (k : Int))
theorem OwI.below {w w' : World} {B : Nat} {v : Value} {xs : List Nat} (h : OwI w B v xs) (hb : Below w.heap.size w w') : OwI w' B v xs := ownsRow_below h hb
theorem OwI.nil (w : World) (B : Nat) : OwI w B (.slice none 0 0) [] := ⟨rfl, Or.inl ⟨rfl, rfl⟩⟩
theorem info3' : ∃ i, Tryd.prog.info? 3 = some i ∧ i.zero = some (.int .i64 0) ∧ i.size = 1 ∧ i.bytes = 8 := by
  obtain ⟨i, hi, hpr⟩ := Option.map_eq_some_iff.1 (show (Tryd.prog.info? 3).map (fun i => (i.zero, i.size, i.bytes)) = some (some (.int .i64 0), 1, 8) by kernel_rfl)
  simp only [Prod.mk.injEq] at hpr
  exact ⟨i, hi, hpr.1, hpr.2.1, hpr.2.2⟩
theorem one_new3 (w : World) (x : Value) : ∀ j u, ([x] : List Value)[j]? = some u → (w.alloc (.cells #[x] 3)).cell? ((⟨w.heap.size, 0, none⟩ : Addr).add j) = some u := by
  intro j u h
  have hj : j = 0 := by
    cases j with
    | zero => rfl
    | succ j => simp at h
  subst hj
  simp at h
  subst h
  have hb : (w.alloc (.cells #[x] 3)).heap[w.heap.size]? = some (.cells #[x] 3) := Go.Deep.blk_alloc_new _ _
  simp only [Addr.add, if_true, World.cell?]
  rw [hb]
  rfl
theorem ownI_block_ge {w : World} {B : Nat} {v : Value} {xs : List Nat} (h : OwI w B v xs) : ∀ k, v.ownBlock = some k → B ≤ k := by
  obtain ⟨_, ⟨rfl, _⟩ | ⟨g, cap, cur, rfl, hg, _⟩⟩ := h
  · intro k hk; cases hk
  · intro k hk; cases hk; exact hg
/-- append(v, k) onto an own row of ints. -/
theorem appI_law (w : World) {ops : Array Oper} {rest : List Oper} {o : Oper} {a : Act} {Q : Exit → Act → World → Prop} (hgd : o.guard = none) (s x : Operand)
    (ho : o.op = .call { callee := .builtin .append, args := #[s, x], argTypes := #[23, 23] }) (B : Nat) (v : Value) (ks : List Nat) (k : Nat) (hs : a.eval s = v) (hown : OwI w B v ks) (hx : a.eval x = .slice (some ⟨w.heap.size, 0, none⟩) 1 1)
    (hlen : ks.length ≤ 1000000000) (hB : B ≤ w.heap.size)
    (h : ∀ v' w', OwI w' B v' (ks ++ [k]) → Below B w w' → wpList Tryd.prog ops Q rest (a.put o.dst v') w') : wpList Tryd.prog ops Q (o :: rest) a (w.alloc (.cells #[.int .i64 (k : Int)] 3)) := by
  obtain ⟨i3, hi, hz, hs3, hb⟩ := info3'
  refine wpList_append_own _ hgd s x 23 ho B 3 i3 (.int .i64 0) 1 8 Tryd.underlying23 hi hz hs3 hb rfl (by decide) v ks.length (ks.map fun k : Nat => Value.int .i64 (k : Int)) hs (ownsRow_below hown (below1 _ _)) ⟨w.heap.size, 0, none⟩ 1 1 [.int .i64 (k : Int)] hx rfl (one_new3 _ _) (by simp [Value.oneCell']) (by unfold maxLen; omega) (by omega) (by simp; omega) ?_
  intro v' w' h1 h2 _
  refine h v' w' ?_ (((Below.refl _ w).alloc hB _).grown h2 (by simp; omega) (ownI_block_ge hown))
  unfold OwI
  rw [List.length_append, List.map_append]
  exact h1
theorem OwI.form {w : World} {B : Nat} {v : Value} {ks : List Nat} (h : OwI w B v ks) : ∃ p c, v = .slice p ks.length c ∧ ks.length ≤ c ∧ c ≤ maxLen ∧ (0 < ks.length → ∃ g, p = some ⟨g, 0, none⟩ ∧ B ≤ g ∧ g < w.heap.size ∧ ∀ j, j < ks.length → w.cell? ⟨g, j, none⟩ = some (.int .i64 ((ks.getD j 0 : Nat) : Int))) := by
  obtain ⟨_, ⟨rfl, h0⟩ | ⟨g, cap, cur, rfl, hg, hh, h1, h2, h3, h4⟩⟩ := h
  · obtain rfl : ks = [] := List.length_eq_zero_iff.1 h0
    exact ⟨none, 0, rfl, Nat.le_refl _, by unfold maxLen; omega, fun h => absurd h (Nat.lt_irrefl 0)⟩
  · have hlt := (Array.getElem?_eq_some_iff.1 hh).1
    refine ⟨some ⟨g, 0, none⟩, cap, rfl, h1, h2, fun _ => ⟨g, rfl, hg, hlt, fun i hi => ?_⟩⟩
    have : cur.toList[i]? = some (.int .i64 ((ks.getD i 0 : Nat) : Int)) := by
      have e : (List.take (ks.length * 1) cur.toList)[i]? = (ks.map fun k : Nat => Value.int .i64 (k : Int))[i]? := by rw [h4]
      rw [List.getElem?_take, if_pos (by omega)] at e
      rw [e]; simp [List.getD, List.getElem?_eq_getElem hi]
    simpa [World.cell?, hh] using this
end Go.Proofs.YtmmkpmgidoelpaaDoor
namespace Go.Proofs.YtmmkpmgidoelpaaDoor
open Go.RowKit Ch1
theorem skip_place {k i : Nat} {ds r : List Dt} (h : skip k (ds.drop i) = some r) (hi : i ≤ ds.length) : ∃ m, 1 ≤ m ∧ i + m ≤ ds.length ∧ r = ds.drop (i + m) ∧ opn m (ds.drop i) = -1 ∧ (∀ t, t < m → 0 ≤ opn t (ds.drop i) ∧ 0 ≤ ((ds.drop i).getD t dt0).count) := by
  obtain ⟨m, h1, h2, h3, h4, h5⟩ := dyck k _ _ h
  rw [List.length_drop] at h2
  exact ⟨m, h1, by omega, by rw [h3, List.drop_drop], h4, h5⟩
theorem skipN_le {f : List Dt → Option (List Dt)} {c j : Nat} {l r : List Dt} (h : skipN f c l = some r) (hj : j ≤ c) : ∃ q, skipN f j l = some q := by
  cases e : skipN f j l with
  | some q => exact ⟨q, rfl⟩
  | none =>
    have := skipN_none_mono f j (c - j) l e
    rw [show j + (c - j) = c by omega, h] at this; cases this
theorem getD_app_lt (ks : List Nat) (k j : Nat) (h : j < ks.length) : (ks ++ [k]).getD j 0 = ks.getD j 0 := by simp [List.getD, List.getElem?_append_left h]
theorem getD_app_eq (ks : List Nat) (k j : Nat) (h : j = ks.length) : (ks ++ [k]).getD j 0 = k := by subst h; simp [List.getD]
/-- What l1kids answers. -/
def Kids (k n i cnt : Nat) (ds : List Dt) (w w' : World) (e : Ending) : Prop := ∃ v ks, e = .returned v ∧ OwI w' w.heap.size v ks ∧ ks.length = cnt ∧ (∀ j, j < ks.length → ks.getD j 0 ≤ n ∧ skipN (skip k) j (ds.drop (i + 1)) = some (ds.drop (ks.getD j 0))) ∧ Below w.heap.size w w'
/-- What l1forms answers. -/
def Forms (n : Nat) (ds : List Dt) (w w' : World) (e : Ending) : Prop := ∃ v fs, e = .returned v ∧ OwI w' w.heap.size v fs ∧ rowT ds = fs.flatMap (fun p => txt 100 (ds.drop p) ++ [10]) ∧ (∀ j, j < fs.length → fs.getD j 0 ≤ n ∧ ∃ r, skip 100 (ds.drop (fs.getD j 0)) = some r) ∧ fs.length ≤ n ∧ Below w.heap.size w w'
end Go.Proofs.YtmmkpmgidoelpaaDoor
namespace Go.Proofs.YtmmkpmgidoelpaaDoor
open Go.RowKit Ch1
/-! ### all bytes are bytes -/
def Rg (xs : List Int) : Prop := ∀ x ∈ xs, 0 ≤ x ∧ x < 256
theorem rng_of {xs : List Int} (h : Rg xs) (i : Nat) : 0 ≤ xs.getD i 0 ∧ xs.getD i 0 < 256 := by
  by_cases hi : i < xs.length
  · exact h _ (by simp [List.getD, List.getElem?_eq_getElem hi])
  · simp [List.getD, List.getElem?_eq_none (Nat.le_of_not_lt hi)]
theorem rg_of {xs : List Int} (h : ∀ i, 0 ≤ xs.getD i 0 ∧ xs.getD i 0 < 256) : Rg xs := by
  intro x hx
  obtain ⟨i, hi, e⟩ := List.getElem_of_mem hx
  have := h i
  simpa [List.getD, List.getElem?_eq_getElem hi, e] using this
theorem Rg.app {xs ys : List Int} (h : Rg xs) (k : Rg ys) : Rg (xs ++ ys) := by
  intro x hx
  rcases List.mem_append.1 hx with hx | hx
  · exact h x hx
  · exact k x hx
def RgD (l : List Dt) : Prop := ∀ d ∈ l, Rg d.text
theorem RgD.drop {l : List Dt} (h : RgD l) (i : Nat) : RgD (l.drop i) := fun d hd => h d (List.mem_of_mem_drop hd)
theorem rg_nums (l : List UInt8) : Rg (nums l) := rg_of (nums_rng l)
theorem rg_bool (n : Int) : Rg (boolT n) := by unfold boolT; split <;> (intro x hx; simp at hx; omega)
theorem elems_rg {f : List Dt → Option (List Dt)} {g : List Dt → List Int} (hf : Eats f) (hg : ∀ l, RgD l → Rg (g l)) (r : List Dt) (hr : RgD r) : ∀ c, Rg (elems f g c r) := by
  intro c
  induction c with
  | zero => intro x hx; cases hx
  | succ c ih =>
    refine Rg.app ih (Rg.app ?_ (hg _ ?_))
    · split
      · intro x hx; cases hx
      · intro x hx; simp at hx; omega
    · cases e : skipN f c r with
      | none => intro d hd; cases hd
      | some q =>
        obtain ⟨j, _, _, rfl⟩ := skipN_eats hf _ _ _ e
        exact hr.drop j
theorem txt_rg : ∀ (k : Nat) (l : List Dt), RgD l → Rg (txt k l) := by
  intro k
  induction k with
  | zero =>
    intro l h
    cases l with
    | nil => intro x hx; cases hx
    | cons d r =>
      simp only [txt]
      split
      · exact rg_nums _
      · split
        · exact rg_bool _
        · exact h d (by simp)
  | succ k ih =>
    intro l h
    cases l with
    | nil => intro x hx; cases hx
    | cons d r =>
      simp only [txt]
      split
      · exact rg_nums _
      · split
        · exact rg_bool _
        · split
          · exact h d (by simp)
          · have := elems_rg (skip_eats k) ih r (fun e he => h e (by simp [he])) d.count.toNat
            refine Rg.app (xs := [40]) ?_ (Rg.app this ?_)
            · intro x hx; simp at hx; omega
            · intro x hx; simp at hx; omega
theorem Da.rg {w : World} {p : Option Addr} {n c : Nat} {ds : List Dt} (h : Da w p n c ds) : RgD ds := by
  intro d hd
  obtain ⟨i, hi, rfl⟩ := List.getElem_of_mem hd
  obtain ⟨b, o, _, _, g⟩ := h.cells (by rw [← h.len]; omega)
  obtain ⟨tp, tn, tc, he⟩ := g i (by rw [← h.len]; exact hi)
  have := rg_of he.by_.rng
  simpa [List.getD, List.getElem?_eq_getElem hi] using this
/-! ### the places of a list's elements, readable -/
def Kd (w : World) (kv : Value) (ks : List Nat) : Prop := ∃ p c, kv = .slice p ks.length c ∧ (0 < ks.length → ∃ g cur, p = some ⟨g, 0, none⟩ ∧ w.heap[g]? = some (.cells cur 3) ∧ ks.length ≤ c ∧ ∀ j, j < ks.length → cur[j]? = some (.int .i64 ((ks.getD j 0 : Nat) : Int)))
theorem OwI.kd {w : World} {B : Nat} {v : Value} {ks : List Nat} (h : OwI w B v ks) : Kd w v ks := by
  obtain ⟨_, ⟨rfl, h0⟩ | ⟨g, cap, cur, rfl, hg, hh, h1, h2, h3, h4⟩⟩ := h
  · exact ⟨none, 0, by rw [h0], fun h => by omega⟩
  · refine ⟨some ⟨g, 0, none⟩, cap, rfl, fun _ => ⟨g, cur, rfl, hh, h1, fun i hi => ?_⟩⟩
    have e : (List.take (ks.length * 1) cur.toList)[i]? = (ks.map fun k : Nat => Value.int .i64 (k : Int))[i]? := by rw [h4]
    rw [List.getElem?_take, if_pos (by omega)] at e
    have : cur.toList[i]? = some (.int .i64 ((ks.getD i 0 : Nat) : Int)) := by rw [e]; simp [List.getD, List.getElem?_eq_getElem hi]
    simpa using this
theorem Kd.below {w w' : World} {kv : Value} {ks : List Nat} (h : Kd w kv ks) (hb : Below w.heap.size w w') : Kd w' kv ks := by
  obtain ⟨p, c, e, hc⟩ := h
  refine ⟨p, c, e, fun hn => ?_⟩
  obtain ⟨g, cur, e1, hh, r⟩ := hc hn
  exact ⟨g, cur, e1, by rw [hb.block g (Array.getElem?_eq_some_iff.1 hh).1]; exact hh, r⟩
theorem Kd.grown {w w' : World} {B : Nat} {v kv : Value} {xs : List Int} {ks : List Nat} (h : Kd w kv ks) (ho : Ow w B v xs) (hg : w.grownBy w' v.ownBlock) : Kd w' kv ks := by
  obtain ⟨p, c, e, hc⟩ := h
  refine ⟨p, c, e, fun hn => ?_⟩
  obtain ⟨g, cur, e1, hh, r⟩ := hc hn
  refine ⟨g, cur, e1, ?_, r⟩
  rw [hg.block g (Array.getElem?_eq_some_iff.1 hh).1 ?_]; exact hh
  obtain ⟨_, ⟨rfl, _⟩ | ⟨g', cap, cur', rfl, _, hh', _⟩⟩ := ho
  · intro e; cases e
  · intro e; cases e
    rw [hh] at hh'; cases hh'
theorem Kd.cell {w : World} {kv : Value} {ks : List Nat} (h : Kd w kv ks) (hn : 0 < ks.length) : ∃ g c, kv = .slice (some ⟨g, 0, none⟩) ks.length c ∧ ks.length ≤ c ∧ ∀ j, j < ks.length → w.cell? ⟨g, j, none⟩ = some (.int .i64 ((ks.getD j 0 : Nat) : Int)) := by
  obtain ⟨p, c, e, hc⟩ := h
  obtain ⟨g, cur, rfl, hh, hl, r⟩ := hc hn
  exact ⟨g, c, e, hl, fun j hj => by simp [World.cell?, hh, r j hj]⟩
theorem By.lit2 (w : World) (x y : Int) (hx : 0 ≤ x ∧ x < 256) (hy : 0 ≤ y ∧ y < 256) : By (w.alloc (.cells #[.int .u8 x, .int .u8 y] 5 (2, 3))) (some ⟨w.heap.size, 0, none⟩) 2 2 [x, y] := by
  refine ⟨rfl, Nat.le_refl _, by unfold maxLen; omega, rng_of ?_, fun _ => ⟨w.heap.size, 0, rfl, fun i hi => ?_⟩, fun a ha _ => by cases ha; simp⟩
  · intro z hz; simp at hz; rcases hz with rfl | rfl
    · exact hx
    · exact hy
  · rw [World.cell?_alloc_mark]
    match i, hi with
    | 0, _ => rfl
    | 1, _ => rfl
theorem Txt.up {w W w' : World} {e : Ending} {xs : List Int} (h : Txt W w' e xs) (hb : Below w.heap.size w W) : Txt w w' e xs := by
  obtain ⟨b, o, c, h1, h2, h3⟩ := h
  exact ⟨b, o, c, h1, h2, hb.trans (h3.mono hb.size)⟩
end Go.Proofs.YtmmkpmgidoelpaaDoor
