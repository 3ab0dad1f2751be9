import Derived.Test.YtpfodinoeoejcaaH6
import Derived.Test.YtpfodinoeoejcaaSc
import Derived.Laws.CopyOwn
namespace Go.Proofs.Ytpfodinoeoejcaa
open Go.RowKit Ch2
/-- The words with an object laid at T. -/
def putO (ws : List Int) (T : Nat) (h : Int) (fs : List Int) : List Int := ws.take T ++ ((h :: fs) ++ ws.drop (T + 1 + fs.length))
theorem putO_len {ws : List Int} {T : Nat} {h : Int} {fs : List Int} (hl : T + 1 + fs.length ≤ ws.length) : (putO ws T h fs).length = ws.length := by
  unfold putO; simp; omega
/-- What stands at j behind the first i stores. -/
def cellO (ws : List Int) (T : Nat) (h : Int) (fs : List Int) (i j : Nat) : Int := if j = T then h else if T < j ∧ j < T + 1 + i then fs.getD (j - (T + 1)) 0 else ws.getD j 0
theorem putO_getD {ws : List Int} {T : Nat} {h : Int} {fs : List Int} (hl : T + 1 + fs.length ≤ ws.length) (j : Nat) : (putO ws T h fs).getD j 0 = cellO ws T h fs fs.length j := by
  unfold putO cellO
  have ht : (ws.take T).length = T := by simp; omega
  rcases Nat.lt_trichotomy j T with h1 | h1 | h1
  · rw [if_neg (by omega), if_neg (by omega)]
    simp [List.getD, List.getElem?_append_left (show j < (ws.take T).length by omega), h1]
  · subst h1
    rw [if_pos rfl]
    simp [List.getD, ht]
  · rw [if_neg (by omega)]
    have e1 : (ws.take T ++ (h :: fs ++ ws.drop (T + 1 + fs.length)))[j]? = (fs ++ ws.drop (T + 1 + fs.length))[j - (T + 1)]? := by
      rw [List.getElem?_append_right (by omega), ht, List.cons_append, show j - T = (j - (T + 1)) + 1 by omega, List.getElem?_cons_succ]
    unfold List.getD
    rw [e1]
    by_cases h2 : j < T + 1 + fs.length
    · rw [if_pos ⟨h1, h2⟩, List.getElem?_append_left (by omega)]
    · rw [if_neg (by omega), List.getElem?_append_right (by omega), List.getElem?_drop, show T + 1 + fs.length + (j - (T + 1) - fs.length) = j by omega]
theorem list_ext_getD {xs ys : List Int} (hl : xs.length = ys.length) (h : ∀ j, j < xs.length → xs.getD j 0 = ys.getD j 0) : xs = ys := by
  refine List.ext_getElem hl (fun j h1 h2 => ?_)
  have := h j h1
  simpa [List.getD, List.getElem?_eq_getElem h1, List.getElem?_eq_getElem h2] using this
/-- When kind and fields would be an object of a valid heap. -/
structure AlOk (ws : List Int) (top k : Int) (fs : List Int) : Prop where
  good : GoodH ws top
  cnt : vcB k fs.length = true
  fn : k = 2 → fnB (fs.getD 0 0) = true
  words : ∀ i, i < fs.length → WordOk ws top.toNat (fs.getD i 0)
/-- What Alloc answers: words, top, word and code. -/
def AlRes (ws : List Int) (top k : Int) (fs : List Int) (ys : List Int) (top' word code : Int) : Prop :=
  (¬ AlOk ws top k fs ∧ ys = [] ∧ top' = 0 ∧ word = 0 ∧ code = 1) ∨
  (AlOk ws top k fs ∧ (ws.length : Int) < top + 1 + fs.length ∧ ys = [] ∧ top' = 0 ∧ word = 0 ∧ code = 13) ∨
  (AlOk ws top k fs ∧ top + 1 + fs.length ≤ ws.length ∧ ys = putO ws top.toNat (4 * fs.length + k) fs ∧ top' = top + 1 + fs.length ∧ word = 4 * top + 1 ∧ code = 0)
theorem AlRes.one {ws : List Int} {top k : Int} {fs ys ys' : List Int} {t t' v v' c c' : Int} (h : AlRes ws top k fs ys t v c) (h' : AlRes ws top k fs ys' t' v' c') : ys = ys' ∧ t = t' ∧ v = v' ∧ c = c' := by
  rcases h with ⟨h1, rfl, rfl, rfl, rfl⟩ | ⟨h1, h2, rfl, rfl, rfl, rfl⟩ | ⟨h1, h2, rfl, rfl, rfl, rfl⟩ <;>
  rcases h' with ⟨g1, rfl, rfl, rfl, rfl⟩ | ⟨g1, g2, rfl, rfl, rfl, rfl⟩ | ⟨g1, g2, rfl, rfl, rfl, rfl⟩
  · exact ⟨rfl, rfl, rfl, rfl⟩
  · exact absurd g1 h1
  · exact absurd g1 h1
  · exact absurd h1 g1
  · exact ⟨rfl, rfl, rfl, rfl⟩
  · omega
  · exact absurd h1 g1
  · omega
  · exact ⟨rfl, rfl, rfl, rfl⟩
/-- What both Allocs answer. -/
def AlP (ws : List Int) (top k : Int) (fs : List Int) (w w' : World) (e : Ending) : Prop := ∃ (p : Option Addr) (n c : Nat) (ys : List Int) (top' word code : Int), e = .returned (.tuple #[.agg #[.slice p n c, .int .i64 top'], .int .i64 word, .int .i64 code]) ∧ AlRes ws top k fs ys top' word code ∧ Is w' p n c ys ∧ Wr w' w.heap.size w'.heap.size p n ∧ Below w.heap.size w w'
theorem AlP.none {ws : List Int} {top k : Int} {fs : List Int} {w w' : World} (code : Int) (h : AlRes ws top k fs [] 0 0 code) (hb : Below w.heap.size w w') : AlP ws top k fs w w' (.returned (.tuple #[.agg #[.slice none 0 0, .int .i64 0], .int .i64 0, .int .i64 code])) :=
  ⟨Option.none, 0, 0, [], 0, 0, code, rfl, h, ⟨rfl, Nat.le_refl _, Nat.zero_le _, fun i => (by simp), fun h => absurd h (Nat.lt_irrefl 0)⟩, fun h => absurd h (Nat.lt_irrefl 0), hb⟩
/-- A row of the call's own whose first n cells are xs. -/
structure Fr (w : World) (g n cap : Nat) (xs : List Int) : Prop where
  row : ∃ f, w.rowIs g 3 cap f ∧ ∀ j, j < n → f j = .int .i64 (xs.getD j 0)
  le : n ≤ cap
  big : cap ≤ maxLen
  len : xs.length = n
theorem Fr.lt {w : World} {g n cap : Nat} {xs : List Int} (h : Fr w g n cap xs) : g < w.heap.size := by obtain ⟨f, hf, _⟩ := h.row; exact hf.lt
theorem Fr.of_block {w w' : World} {g n cap : Nat} {xs : List Int} (h : Fr w g n cap xs) (hb : w'.heap[g]? = w.heap[g]?) : Fr w' g n cap xs := by
  obtain ⟨f, hf, h1⟩ := h.row
  exact ⟨⟨f, hf.of_block hb, h1⟩, h.le, h.big, h.len⟩
theorem Fr.below {w w' : World} {g n cap : Nat} {xs : List Int} (h : Fr w g n cap xs) (hb : Below w.heap.size w w') : Fr w' g n cap xs := h.of_block (hb.block g h.lt)
theorem Fr.cell {w : World} {g n cap : Nat} {xs : List Int} (h : Fr w g n cap xs) {j : Nat} (hj : j < n) : w.cell? ⟨g, j, none⟩ = some (.int .i64 (xs.getD j 0)) ∧ w.frozen? ⟨g, j, none⟩ = false := by
  obtain ⟨f, hf, h1⟩ := h.row
  have h2 := h.le
  exact ⟨by rw [hf.cell (by omega), h1 j hj], hf.frozen j⟩
theorem Fr.set {w : World} {g n cap : Nat} {xs ys : List Int} (h : Fr w g n cap xs) (j : Nat) (v : Int) (hl : ys.length = n) (hy : ∀ i, i < n → ys.getD i 0 = if i = j then v else xs.getD i 0) : Fr (w.setCell ⟨g, j, none⟩ (.int .i64 v)) g n cap ys := by
  obtain ⟨f, hf, h1⟩ := h.row
  refine ⟨⟨_, hf.set j _, fun i hi => ?_⟩, h.le, h.big, hl⟩
  rw [hy i hi]
  by_cases e : i = j
  · rw [if_pos e, if_pos e]
  · rw [if_neg e, if_neg e, h1 i hi]
theorem Fr.setOther {w : World} {g n cap : Nat} {xs : List Int} (h : Fr w g n cap xs) {a : Addr} (ha : g ≠ a.block) (v : Value) : Fr (w.setCell a v) g n cap xs := h.of_block (Below.heap_setCell w a v g ha)
theorem Fr.is {w : World} {g n cap : Nat} {xs : List Int} (h : Fr w g n cap xs) (hr : ∀ i, -9223372036854775808 ≤ xs.getD i 0 ∧ xs.getD i 0 ≤ 9223372036854775807) : Is w (some ⟨g, 0, none⟩) n cap xs :=
  ⟨h.len, h.le, h.big, hr, fun _ => ⟨g, 0, rfl, h.lt, fun i hi => by rw [Nat.zero_add]; exact (h.cell hi).1⟩⟩
theorem Fr.wr {w : World} {g n cap : Nat} {xs : List Int} (h : Fr w g n cap xs) {B E : Nat} (h1 : B ≤ g) (h2 : g < E) : Wr w B E (some ⟨g, 0, none⟩) n := by
  obtain ⟨f, hf, _⟩ := h.row
  exact fun _ => ⟨g, cap, f, rfl, h1, h2, h.le, hf⟩
/-- What an own row that is not nil holds. -/
theorem Fr.of_owns {w : World} {B n : Nat} {v : Value} {xs : List Int} (h : w.ownsRow B 3 1 v n (xs.map (Value.int .i64))) (hn : 0 < n) (hl : xs.length = n) : ∃ g cap, v = .slice (some ⟨g, 0, none⟩) n cap ∧ B ≤ g ∧ Fr w g n cap xs := by
  obtain ⟨_, ⟨rfl, h0⟩ | ⟨g, cap, cur, rfl, hg, hh, h1, h2, h3, h4⟩⟩ := h
  · omega
  · refine ⟨g, cap, rfl, hg, ⟨fun i => cur.getD i .nilIface, ⟨cur, hh, by omega, fun i hi => by simp [Array.getD, show i < cur.size by omega]⟩, fun j hj => ?_⟩, h1, h2, hl⟩
    have e : (List.take (n * 1) cur.toList)[j]? = (xs.map (Value.int .i64))[j]? := by rw [h4]
    rw [List.getElem?_take, if_pos (by omega)] at e
    have hjx : j < xs.length := by omega
    have hjc : j < cur.size := by omega
    simp [List.getElem?_eq_getElem hjx, hjc] at e
    simp [Array.getD, hjc, e, List.getD, List.getElem?_eq_getElem hjx]
end Go.Proofs.Ytpfodinoeoejcaa
