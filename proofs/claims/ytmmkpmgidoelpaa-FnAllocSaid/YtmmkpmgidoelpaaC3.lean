import Derived.Test.YtmmkpmgidoelpaaC2
import Derived.Test.YtmmkpmgidoelpaaH9
namespace Go.Proofs.Ytmmkpmgidoelpaa
open Go.RowKit Ch2
/-- New places in a row of the call's own. -/
def Mv (w : World) (g T : Nat) (f : Nat → Int) : Prop := w.rowIs g 3 T (fun j => .int .i64 (f j))
theorem visits_take (ws : List Int) (s : Cs) (xs : List Int) (i : Nat) (h : i < xs.length) : visits ws s (xs.take (i + 1)) = visit ws (visits ws s (xs.take i)) (xs.getD i 0) := by
  unfold visits
  rw [List.take_add_one, List.getElem?_eq_getElem h, Option.toList_some, List.foldl_append]
  simp [List.getD, List.getElem?_eq_getElem h]
theorem visit_not {ws : List Int} {s : Cs} {x : Int} (h : ¬ (x % 4 = 1 ∧ s.mv (x / 4).toNat < 0)) : visit ws s x = s := by unfold visit; rw [if_neg h]
theorem visit_new {ws : List Int} {s : Cs} {x : Int} {m : Nat} (h1 : x % 4 = 1) (hm : (x / 4).toNat = m) (h2 : s.mv m < 0) : visit ws s x = ⟨fun q => if q = m then (s.top : Int) else s.mv q, s.top + (1 + cnt (ws.getD m 0)), s.ord ++ [m]⟩ := by
  unfold visit; rw [hm, if_pos ⟨h1, h2⟩]
theorem visit_len (ws : List Int) (s : Cs) (x : Int) : s.ord.length ≤ (visit ws s x).ord.length := by
  unfold visit; split
  · simp
  · exact Nat.le_refl _
theorem visits_len (ws : List Int) : ∀ (xs : List Int) (s : Cs), s.ord.length ≤ (visits ws s xs).ord.length
  | [], _ => Nat.le_refl _
  | x :: xs, s => Nat.le_trans (visit_len ws s x) (visits_len ws xs (visit ws s x))
/-- What the model's l2order answers. -/
def OrdP (ws rs : List Int) (T : Nat) (w w' : World) (e : Ending) : Prop := ∃ (K : Nat) (ov : Value), e = .returned (.tuple #[ov, .slice (some ⟨w.heap.size + 1, 0, none⟩) T T]) ∧ (stage ws rs K).ord.length = K ∧ Inv ws T (stage ws rs K) ∧ OwN w' (w.heap.size + 2) ov (stage ws rs K).ord ∧ Mv w' (w.heap.size + 1) T (stage ws rs K).mv ∧ Below w.heap.size w w'
/-- At the head of a round over words. -/
def OutR (ws rs : List Int) (T : Nat) (w : World) (p : Option Addr) (n c : Nat) (ov tv wv nv : Value) (wr : World) : Prop := ∃ (k : Nat) (s : Cs) (xs : List Int) (xp : Option Addr) (xl xc : Nat), k ≤ T ∧ k ≤ s.ord.length ∧ nv = .int .i64 k ∧ tv = .int .i64 (s.top : Int) ∧ wv = .slice xp xl xc ∧ Hid (Is w xp xl xc xs) ∧ Hid (∀ i, i < xl → WordOk ws T (xs.getD i 0)) ∧ Hid (visits ws s xs = stage ws rs k) ∧ Hid (Inv ws T s) ∧ Hid (OwN wr (w.heap.size + 2) ov s.ord) ∧ Hid (Mv wr (w.heap.size + 1) T s.mv) ∧ Hid (Bx wr w.heap.size p n c T) ∧ Hid (Below w.heap.size w wr)
/-- Inside: i words are gone through. -/
def InR (ws : List Int) (T : Nat) (w : World) (p : Option Addr) (n c : Nat) (s : Cs) (xs : List Int) (ov tv iv : Value) (wr : World) : Prop := ∃ (i : Nat) (s' : Cs), i ≤ xs.length ∧ iv = .int .i64 i ∧ tv = .int .i64 (s'.top : Int) ∧ s'.top ≤ T ∧ s'.ord.length ≤ T ∧ Hid (visits ws s (xs.take i) = s') ∧ Hid (Inv ws T s') ∧ Hid (OwN wr (w.heap.size + 2) ov s'.ord) ∧ Hid (Mv wr (w.heap.size + 1) T s'.mv) ∧ Hid (Bx wr w.heap.size p n c T) ∧ Hid (Below w.heap.size w wr)
end Go.Proofs.Ytmmkpmgidoelpaa
