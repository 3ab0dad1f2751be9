import Derived.Test.YtnnpfoilojicjaaGreatDoorPure
import Derived.Lib.ItoaLen
/- Plain mathematics of chapter 1's texts: no Go here. -/
namespace Go.Proofs.YtnnpfoilojicjaaGreatDoor
namespace Ch1
def nums (l : List UInt8) : List Int := l.map fun b => (b.toNat : Int)
def elems (f : List Dt → Option (List Dt)) (g : List Dt → List Int) : Nat → List Dt → List Int
 | 0, _ => []
 | k + 1, r => elems f g k r ++ ((if k = 0 then [] else [32]) ++ g ((skipN f k r).getD []))
theorem good_kinds {d : Dt} (h : goodB d = true) : d.kind = 0 ∨ d.kind = 1 ∨ d.kind = 2 ∨ d.kind = 3 := by
 unfold goodB at h
 by_cases h0 : d.kind = 0
 ·exact Or.inl h0
 by_cases h1 : d.kind = 1
 ·exact Or.inr (Or.inl h1)
 by_cases h2 : d.kind = 2
 ·exact Or.inr (Or.inr (Or.inl h2))
 by_cases h3 : d.kind = 3
 ·exact Or.inr (Or.inr (Or.inr h3))
 simp [h0, h1, h2, h3] at h
theorem good_nonneg {d : Dt} (h : goodB d = true) : 0 ≤ d.count := by
 rcases good_kinds h with hk | hk | hk | hk <;> simp [goodB, hk] at h <;> omega
theorem skip_some {k : Nat} {l r : List Dt} (h : skip k l = some r) : ∃ d q, l = d :: q ∧ goodB d = true ∧ ((d.kind ≠ 3 ∧ r = q) ∨ ∃ k', k = k' + 1 ∧ d.kind = 3 ∧ skipN (skip k') d.count.toNat q = some r) := by
 cases l with
 | nil => simp [skip_nil] at h
 | cons d q =>
  cases hg : goodB d with
  | false => simp [skip_bad k d q hg] at h
  | true =>
   refine ⟨d, q, rfl, hg, ?_⟩
   by_cases hk : d.kind = 3
   ·cases k with
    | zero => simp [skip_deep d q hk] at h
    | succ k' => rw [skip_list k' d q hg hk] at h; exact Or.inr ⟨k', rfl, hk, h⟩
   ·rw [skip_atom k d q hg hk] at h; exact Or.inl ⟨hk, by simpa using h.symm⟩
theorem skipN_succ_some {f : List Dt → Option (List Dt)} {c : Nat} {l r : List Dt} (h : skipN f (c + 1) l = some r) : ∃ q, skipN f c l = some q ∧ f q = some r := by
 rw [skipN_succ_right] at h
 cases e : skipN f c l with
 | none => simp [e] at h
 | some q => rw [e] at h; exact ⟨q, rfl, h⟩
theorem rowOf_next (l : List Dt) (h : rowOf l = true) (h0 : l ≠ []) : ∃ r, skip 100 l = some r ∧ rowOf r = true := by
 cases e : skip 100 l with
 | none => rw [rowOf_none l h0 e] at h; cases h
 | some r => exact ⟨r, rfl, by rw [← rowOf_some l r e]; exact h⟩
def opn : Nat → List Dt → Int
 | 0, _ => 0
 | m + 1, l => opn m l + ((l.getD m dt0).count - 1)
theorem drop_getD (l : List Dt) (a m : Nat) : (l.drop a).getD m dt0 = l.getD (a + m) dt0 := by simp [List.getD]
theorem opn_add (a : Nat) : ∀ (b : Nat) (l : List Dt), opn (a + b) l = opn a l + opn b (l.drop a) := by
 intro b
 induction b with
 | zero => intro l; simp [opn]
 | succ b ih => intro l; rw [← Nat.add_assoc, opn, ih l, opn, drop_getD]; omega
theorem dyckN {f : List Dt → Option (List Dt)} (hf : ∀ l r, f l = some r → ∃ m, 1 ≤ m ∧ m ≤ l.length ∧ r = l.drop m ∧ opn m l = -1 ∧ (∀ j, j < m → 0 ≤ opn j l ∧ 0 ≤ (l.getD j dt0).count)) :
  ∀ (c : Nat) (l r : List Dt), skipN f c l = some r → ∃ m, m ≤ l.length ∧ r = l.drop m ∧ opn m l = -c ∧ (∀ j, j < m → -(c : Int) < opn j l ∧ 0 ≤ (l.getD j dt0).count) := by
 intro c
 induction c with
 | zero => intro l r h; simp [skipN] at h; exact ⟨0, Nat.zero_le _, by simp [h], rfl, fun j hj => absurd hj (Nat.not_lt_zero j)⟩
 | succ c ih =>
  intro l r h
  obtain ⟨q, h1, h2⟩ := skipN_succ_some h
  obtain ⟨a, ha, rfl, hoa, hja⟩ := ih l q h1
  obtain ⟨b, hb1, hb2, rfl, hob, hjb⟩ := hf _ _ h2
  rw [List.length_drop] at hb2
  refine ⟨a + b, by omega, by rw [List.drop_drop], by rw [opn_add, hoa, hob]; omega, fun j hj => ?_⟩
  by_cases e : j < a
  ·have := hja j e; exact ⟨by omega, this.2⟩
  ·obtain ⟨t, rfl⟩ : ∃ t, j = a + t := ⟨j - a, by omega⟩
   have := hjb t (by omega)
   rw [drop_getD] at this
   rw [opn_add, hoa]
   exact ⟨by omega, this.2⟩
theorem opn_cons (d : Dt) (q : List Dt) (m : Nat) : opn (m + 1) (d :: q) = d.count - 1 + opn m q := by
 rw [Nat.add_comm, opn_add]; simp [opn]
theorem dyck : ∀ (k : Nat) (l r : List Dt), skip k l = some r → ∃ m, 1 ≤ m ∧ m ≤ l.length ∧ r = l.drop m ∧ opn m l = -1 ∧ (∀ j, j < m → 0 ≤ opn j l ∧ 0 ≤ (l.getD j dt0).count) := by
 intro k
 induction k with
 | zero =>
  intro l r h
  obtain ⟨d, q, rfl, hg, ⟨hk, rfl⟩ | ⟨k', e, _⟩⟩ := skip_some h
  ·have hc : d.count = 0 := by
    rcases good_kinds hg with h0 | h0 | h0 | h0 <;> simp [goodB, h0] at hg <;> first | omega | exact absurd h0 hk
   refine ⟨1, Nat.le_refl _, by simp, rfl, by simp [opn, hc], fun j hj => ?_⟩
   obtain rfl : j = 0 := by omega
   simp [opn, hc]
  ·omega
 | succ k ih =>
  intro l r h
  obtain ⟨d, q, rfl, hg, ⟨hk, rfl⟩ | ⟨k', e, hk, hs⟩⟩ := skip_some h
  ·have hc : d.count = 0 := by
    rcases good_kinds hg with h0 | h0 | h0 | h0 <;> simp [goodB, h0] at hg <;> first | omega | exact absurd h0 hk
   refine ⟨1, Nat.le_refl _, by simp, rfl, by simp [opn, hc], fun j hj => ?_⟩
   obtain rfl : j = 0 := by omega
   simp [opn, hc]
  ·obtain rfl : k = k' := by omega
   have hn := good_nonneg hg
   obtain ⟨m, hm, rfl, ho, hj⟩ := dyckN ih _ _ _ hs
   refine ⟨m + 1, by omega, by simpa using hm, by simp, by rw [opn_cons, ho]; omega, fun j hjm => ?_⟩
   cases j with
   | zero => simp [opn]; exact hn
   | succ j =>
    have := hj j (by omega)
    rw [opn_cons]
    exact ⟨by omega, by simpa [List.getD] using this.2⟩
theorem opn_le (l : List Dt) (m : Nat) (h : ∀ j, j < m → 0 ≤ (l.getD j dt0).count) : ∀ t, t ≤ m → opn (m - t) l ≤ opn m l + t := by
 intro t
 induction t with
 | zero => intro _; simp
 | succ t ih =>
  intro ht
  have i := ih (by omega)
  have := h (m - (t + 1)) (by omega)
  rw [show m - t = m - (t + 1) + 1 by omega, opn] at i
  omega
end Ch1
end Go.Proofs.YtnnpfoilojicjaaGreatDoor
namespace Go.Proofs.YtnnpfoilojicjaaGreatDoor
open Ch1
namespace Cp
def hd (l : List Dt) : Dt := l.headD dt0
def nm (l : List Dt) : List Int := (hd l).text
def isSy (l : List Dt) : Bool := decide ((hd l).kind = 2)
def isLs (l : List Dt) : Bool := decide ((hd l).kind = 3)
def kidL (k : Nat) : Nat → List Dt → List (List Dt)
 | 0, _ => []
 | n + 1, r => r :: (match skip k r with
  | some r' => kidL k n r'
  | none => [])
def kidsOf (k : Nat) (l : List Dt) : List (List Dt) := if isLs l = true then kidL k (hd l).count.toNat l.tail else []
def allO (f : List Dt → Option (List (List Int))) : List (List Dt) → Option (List (List Int))
 | [] => some []
 | x :: xs => match f x with
  | none => none
  | some a => match allO f xs with
   | none => none
   | some b => some (a ++ b)
def wQuote : List Int := [113, 117, 111, 116, 101]
def wIf : List Int := [105, 102]
def wLambda : List Int := [108, 97, 109, 98, 100, 97]
def wLet : List Int := [108, 101, 116]
def wLetrec : List Int := [108, 101, 116, 114, 101, 99]
def wSet : List Int := [115, 101, 116, 33]
def wBegin : List Int := [98, 101, 103, 105, 110]
def wAnd : List Int := [97, 110, 100]
def wOr : List Int := [111, 114]
def wDefine : List Int := [100, 101, 102, 105, 110, 101]
def prims : List (List Int × Nat) := [([43], 2), ([45], 2), ([42], 2), ([113, 117, 111, 116, 105, 101, 110, 116], 2), ([114, 101, 109, 97, 105, 110, 100, 101, 114], 2), ([61], 2), ([60], 2), ([99, 111, 110, 115], 2), ([99, 97, 114], 1), ([99, 100, 114], 1), ([110, 117, 108, 108, 63], 1), ([112, 97, 105, 114, 63], 1), ([102, 105, 120, 110, 117, 109, 63], 1), ([115, 121, 109, 98, 111, 108, 63], 1), ([112, 114, 111, 99, 101, 100, 117, 114, 101, 63], 1), ([118, 101, 99, 116, 111, 114, 63], 1), ([101, 113, 63], 2), ([110, 111, 116], 1), ([109, 97, 107, 101, 45, 118, 101, 99, 116, 111, 114], 2), ([118, 101, 99, 116, 111, 114, 45, 114, 101, 102], 2), ([118, 101, 99, 116, 111, 114, 45, 115, 101, 116, 33], 3), ([118, 101, 99, 116, 111, 114, 45, 108, 101, 110, 103, 116, 104], 1)]
def primN (n : List Int) : Option Nat := (prims.find? (fun p => p.1 == n)).map (·.2)
def nmsOf (ls : List (List Dt)) : Option (List (List Int)) := if ls.all isSy = true ∧ (ls.map nm).Nodup then some (ls.map nm) else none
def bnd (gl sc : List (List Int)) (n : List Int) : Bool := sc.contains n || gl.contains n
def lack (gl sc : List (List Int)) (n : List Int) : List (List Int) := if bnd gl sc n = true then [] else [n]
def cat (a b : Option (List (List Int))) : Option (List (List Int)) := match a with
 | none => none
 | some x => match b with
  | none => none
  | some y => some (x ++ y)
def lamR (k : Nat) (F : List (List Int) → List Dt → Option (List (List Int))) (sc : List (List Int)) : List (List Dt) → Option (List (List Int))
 | [] => none
 | a :: body => if isLs a = true ∧ body ≠ [] then match nmsOf (kidsOf k a) with
   | none => none
   | some ns => allO (F (sc ++ ns)) body
  else none
def isPr (l : List Dt) : Bool := isLs l && decide ((hd l).count = 2)
def letR (k : Nat) (F : List (List Int) → List Dt → Option (List (List Int))) (sc : List (List Int)) (rec_ : Bool) : List (List Dt) → Option (List (List Int))
 | [] => none
 | a :: body => if isLs a = true ∧ body ≠ [] ∧ (kidsOf k a).all isPr = true then match nmsOf ((kidsOf k a).map (fun b => (kidsOf k b).getD 0 [])) with
   | none => none
   | some ns => cat (allO (F (if rec_ = true then sc ++ ns else sc)) ((kidsOf k a).map (fun b => (kidsOf k b).getD 1 []))) (allO (F (sc ++ ns)) body)
  else none
def setR (gl : List (List Int)) (F : List (List Int) → List Dt → Option (List (List Int))) (sc : List (List Int)) : List (List Dt) → Option (List (List Int))
 | [a, b] => if isSy a = true then cat (some (lack gl sc (nm a))) (F sc b) else none
 | _ => none
def spcR (gl : List (List Int)) (k : Nat) (F : List (List Int) → List Dt → Option (List (List Int))) (sc : List (List Int)) (h : List Dt) (rest : List (List Dt)) : Option (List (List Int)) :=
 match primN (nm h) with
 | some ar => if rest.length = ar then allO (F sc) rest else none
 | none =>
  if nm h = wQuote then (if rest.length = 1 then some [] else none)
  else if nm h = wIf then (if rest.length = 2 ∨ rest.length = 3 then allO (F sc) rest else none)
  else if nm h = wLambda then lamR k F sc rest
  else if nm h = wLet then letR k F sc false rest
  else if nm h = wLetrec then letR k F sc true rest
  else if nm h = wSet then setR gl F sc rest
  else if nm h = wBegin then (if rest = [] then none else allO (F sc) rest)
  else if nm h = wAnd then allO (F sc) rest
  else if nm h = wOr then allO (F sc) rest
  else if nm h = wDefine then none
  else allO (F sc) (h :: rest)
def lstR (gl : List (List Int)) (k : Nat) (F : List (List Int) → List Dt → Option (List (List Int))) (sc : List (List Int)) : List (List Dt) → Option (List (List Int))
 | [] => none
 | h :: rest => if isSy h = true ∧ bnd gl sc (nm h) = false then spcR gl k F sc h rest else allO (F sc) (h :: rest)
def atmR (gl sc : List (List Int)) (l : List Dt) : Option (List (List Int)) := if isSy l = true then some (lack gl sc (nm l)) else some []
def rd (gl : List (List Int)) : Nat → List (List Int) → List Dt → Option (List (List Int))
 | 0, sc, l => if isLs l = true then none else atmR gl sc l
 | k + 1, sc, l => if isLs l = true then lstR gl k (rd gl k) sc (kidsOf k l) else atmR gl sc l
def frmX : Nat → List Dt → List (List Dt)
 | _, [] => []
 | 0, _ :: _ => []
 | f + 1, d :: r => (d :: r) :: (match skip 100 (d :: r) with
  | some r' => frmX f r'
  | none => [])
def frm (l : List Dt) : List (List Dt) := frmX l.length l
def isDf (l : List Dt) : Bool := match kidsOf 100 l with
 | [] => false
 | h :: _ => isSy h && decide (nm h = wDefine)
def okDf (l : List Dt) : Bool := decide ((kidsOf 100 l).length = 3) && isSy ((kidsOf 100 l).getD 1 [])
def addN (gl : List (List Int)) (n : List Int) : List (List Int) := if gl.contains n = true then gl else gl ++ [n]
def glsF : List (List Int) → List (List Dt) → Option (List (List Int))
 | gl, [] => some gl
 | gl, x :: xs => if isDf x = true then (if okDf x = true then glsF (addN gl (nm ((kidsOf 100 x).getD 1 []))) xs else none) else glsF gl xs
def topR (gl : List (List Int)) (x : List Dt) : Option (List (List Int)) := if isDf x = true then rd gl 100 [] ((kidsOf 100 x).getD 2 []) else rd gl 100 [] x
def pgR (ds : List Dt) : Option (List (List Int)) := match glsF [] (frm ds) with
 | none => none
 | some gl => allO (topR gl) (frm ds)
theorem skipN_mono {f g : List Dt → Option (List Dt)} (h : ∀ l r, f l = some r → g l = some r) : ∀ (n : Nat) (l r : List Dt), skipN f n l = some r → skipN g n l = some r := by
 intro n
 induction n with
 | zero => intro l r hl; exact hl
 | succ n ih =>
  intro l r hl
  simp only [skipN] at hl ⊢
  cases e : f l with
  | none => rw [e] at hl; cases hl
  | some q =>
   rw [e] at hl
   rw [h l q e]
   exact ih q r hl
theorem skip_succ : ∀ (k : Nat) (l r : List Dt), skip k l = some r → skip (k + 1) l = some r := by
 intro k
 induction k with
 | zero =>
  intro l r h
  cases l with
  | nil => simp [skip] at h
  | cons d q =>
   simp only [skip] at h ⊢
   split at h
   ·rename_i hg
    rw [if_pos hg]
    split at h
    ·cases h
    ·rename_i h3
     rw [if_neg h3]
     exact h
   ·cases h
 | succ k ih =>
  intro l r h
  cases l with
  | nil => simp [skip] at h
  | cons d q =>
   rw [skip] at h ⊢
   split at h
   ·rename_i hg
    rw [if_pos hg]
    split at h
    ·rename_i h3
     rw [if_pos h3]
     exact skipN_mono ih _ _ _ h
    ·rename_i h3
     rw [if_neg h3]
     exact h
   ·cases h
theorem skip_mono {j k : Nat} (h : j ≤ k) {l r : List Dt} (hs : skip j l = some r) : skip k l = some r := by
 obtain ⟨d, rfl⟩ := Nat.exists_eq_add_of_le h
 induction d with
 | zero => exact hs
 | succ d ih => exact skip_succ _ _ _ (ih (by omega))
def Ok (k : Nat) (l : List Dt) : Prop := ∃ r, skip k l = some r
theorem Ok.mono {j k : Nat} {l : List Dt} (h : Ok j l) (hk : j ≤ k) : Ok k l := by
 obtain ⟨r, hr⟩ := h
 exact ⟨r, skip_mono hk hr⟩
theorem kidL_len (k : Nat) : ∀ (n : Nat) (r q : List Dt), skipN (skip k) n r = some q → (kidL k n r).length = n
 | 0, _, _, _ => rfl
 | n + 1, r, q, h => by
  simp only [skipN] at h
  simp only [kidL, List.length_cons]
  cases e : skip k r with
  | none => rw [e] at h; cases h
  | some r' =>
   rw [e] at h
   simp only
   rw [kidL_len k n r' q h]
theorem kidL_at (k : Nat) : ∀ (n : Nat) (r q : List Dt), skipN (skip k) n r = some q → ∀ j, j < n → skipN (skip k) j r = some ((kidL k n r).getD j []) ∧ Ok k ((kidL k n r).getD j [])
 | 0, _, _, _, j, hj => absurd hj (Nat.not_lt_zero j)
 | n + 1, r, q, h, j, hj => by
  simp only [skipN] at h
  simp only [kidL]
  cases e : skip k r with
  | none => rw [e] at h; cases h
  | some r' =>
   rw [e] at h
   cases j with
   | zero => exact ⟨rfl, r', e⟩
   | succ j =>
    have := kidL_at k n r' q h j (by omega)
    simp only [skipN, e, List.getD_cons_succ]
    exact this
theorem kids_of {k : Nat} {l : List Dt} (h : Ok (k + 1) l) (hl : isLs l = true) : 0 ≤ (hd l).count ∧ (∃ q, skipN (skip k) (hd l).count.toNat l.tail = some q) ∧ (kidsOf k l).length = (hd l).count.toNat ∧ ∀ j, j < (hd l).count.toNat → skipN (skip k) j l.tail = some ((kidsOf k l).getD j []) ∧ Ok k ((kidsOf k l).getD j []) := by
 obtain ⟨r, hr⟩ := h
 obtain ⟨d, q, rfl, hg, h1⟩ := skip_some hr
 have h3 : d.kind = 3 := by unfold isLs hd at hl; simpa using hl
 rcases h1 with ⟨hn, _⟩ | ⟨k', hk, _, hq⟩
 ·exact absurd h3 hn
 ·obtain rfl : k = k' := by omega
  have e : kidsOf k (d :: q) = kidL k d.count.toNat q := by
   unfold kidsOf
   rw [if_pos hl]
   rfl
  refine ⟨good_nonneg hg, ⟨r, hq⟩, ?_, ?_⟩
  ·rw [e]; exact kidL_len k _ _ _ hq
  ·intro j hj
   rw [e]
   exact kidL_at k _ _ _ hq j hj
theorem ok_zero {l : List Dt} (h : Ok 0 l) : isLs l = false := by
 obtain ⟨r, hr⟩ := h
 obtain ⟨d, q, rfl, _, h1⟩ := skip_some hr
 rcases h1 with ⟨hn, _⟩ | ⟨k', hk, _⟩
 ·simp [isLs, hd, hn]
 ·omega
theorem Ok.ne {k : Nat} {l : List Dt} (h : Ok k l) : ∃ d q, l = d :: q ∧ goodB d = true := by
 obtain ⟨r, hr⟩ := h
 obtain ⟨d, q, e, hg, _⟩ := skip_some hr
 exact ⟨d, q, e, hg⟩
theorem kidL_mono {j k : Nat} (h : j ≤ k) : ∀ (n : Nat) (r q : List Dt), skipN (skip j) n r = some q → kidL k n r = kidL j n r
 | 0, _, _, _ => rfl
 | n + 1, r, q, hs => by
  simp only [skipN] at hs
  simp only [kidL]
  cases e : skip j r with
  | none => rw [e] at hs; cases hs
  | some r' =>
   rw [e] at hs
   rw [skip_mono h e]
   simp only
   rw [kidL_mono h n r' q hs]
theorem kidsOf_mono {j k : Nat} (h : j ≤ k) {l : List Dt} (ho : Ok (j + 1) l) : kidsOf k l = kidsOf j l := by
 by_cases hl : isLs l = true
 ·obtain ⟨_, ⟨q, hq⟩, _, _⟩ := kids_of ho hl
  unfold kidsOf
  rw [if_pos hl, if_pos hl, kidL_mono h _ _ _ hq]
 ·unfold kidsOf
  rw [if_neg hl, if_neg hl]
theorem kids_ok {k : Nat} {l : List Dt} (h : Ok k l) : (∀ x ∈ kidsOf k l, Ok (k - 1) x) ∧ (isLs l = true → ((kidsOf k l).length : Int) = (hd l).count) := by
 by_cases hl : isLs l = true
 ·cases k with
  | zero => rw [ok_zero h] at hl; cases hl
  | succ k =>
   have e := kidsOf_mono (j := k) (k := k + 1) (by omega) h
   obtain ⟨h0, _, hlen, hat⟩ := kids_of h hl
   refine ⟨fun x hx => ?_, fun _ => ?_⟩
   ·rw [e] at hx
    obtain ⟨i, hi, rfl⟩ := List.getElem_of_mem hx
    have := (hat i (by rw [← hlen]; exact hi)).2
    rw [List.getD_eq_getElem?_getD, List.getElem?_eq_getElem hi] at this
    exact this
   ·rw [e, hlen]
    omega
 ·refine ⟨fun x hx => ?_, fun h => absurd h hl⟩
  unfold kidsOf at hx
  rw [if_neg hl] at hx
  cases hx
end Cp
end Go.Proofs.YtnnpfoilojicjaaGreatDoor
