/- Plain mathematics of chapter 2's heaps: no Go here. -/
import Derived.RowKit3
import Derived.Below
namespace Go.Proofs.Ytpfodinoeoejcaa
namespace Ch2
def cnt (w : Int) : Nat := (w / 4).toNat
/-- A header that an object may have. -/
def headB (w : Int) : Bool := decide (0 ≤ w) && decide (w / 4 ≤ 1000) && (if w % 4 = 0 then decide (w / 4 = 2) else if w % 4 = 3 then decide (w / 4 = 1) else if w % 4 = 2 then decide (1 ≤ w / 4) else true)
/-- The places one comes to from header to header. -/
def sq (ws : List Int) (top : Nat) : Nat → Nat
  | 0 => 0
  | k + 1 => if sq ws top k < top then sq ws top k + 1 + cnt (ws.getD (sq ws top k) 0) else sq ws top k
/-- An object begins at p. -/
def St (ws : List Int) (top p : Nat) : Prop := p < top ∧ ∃ k, sq ws top k = p
theorem sq_le (ws : List Int) (top i d : Nat) : sq ws top i ≤ sq ws top (i + d) := by
  induction d with
  | zero => exact Nat.le_refl _
  | succ d ih =>
    rw [← Nat.add_assoc, sq]
    split <;> omega
theorem sq_mono (ws : List Int) (top : Nat) {i j : Nat} (h : i ≤ j) : sq ws top i ≤ sq ws top j := by
  obtain ⟨d, rfl⟩ := Nat.exists_eq_add_of_le h
  exact sq_le ws top i d
theorem sq_step {ws : List Int} {top k : Nat} (h : sq ws top k < top) : sq ws top (k + 1) = sq ws top k + 1 + cnt (ws.getD (sq ws top k) 0) := by
  rw [sq, if_pos h]
theorem sq_rest {ws : List Int} {top k : Nat} (h : ¬ sq ws top k < top) (d : Nat) : sq ws top (k + d) = sq ws top k := by
  induction d with
  | zero => rfl
  | succ d ih => rw [← Nat.add_assoc, sq, ih, if_neg h]
theorem St.next {ws : List Int} {top p : Nat} (h : St ws top p) : ∃ k, sq ws top k = p + 1 + cnt (ws.getD p 0) := by
  obtain ⟨hp, k, rfl⟩ := h
  exact ⟨k + 1, sq_step hp⟩
/-- Between two places that one comes to lie the fields of the first. -/
theorem St.le {ws : List Int} {top p q j : Nat} (h : St ws top p) (hq : sq ws top j = q) (hlt : p < q) : p + 1 + cnt (ws.getD p 0) ≤ q := by
  obtain ⟨hp, i, rfl⟩ := h
  have hij : i < j := by
    rcases Nat.lt_or_ge i j with h | h
    · exact h
    · have := sq_mono ws top h; omega
  have := sq_mono ws top (show i + 1 ≤ j from hij)
  rw [sq_step hp] at this
  omega
theorem St.between {ws : List Int} {top p i : Nat} (h : St ws top p) (h1 : p < i) (h2 : i < p + 1 + cnt (ws.getD p 0)) : ¬ St ws top i := by
  rintro ⟨_, j, hj⟩
  have := h.le hj h1
  omega
theorem sq_grows (ws : List Int) (top k : Nat) : sq ws top k < top → k ≤ sq ws top k := by
  induction k with
  | zero => intro _; exact Nat.zero_le _
  | succ k ih =>
    intro h
    have hk : sq ws top k < top := by have := sq_le ws top k 1; omega
    rw [sq_step hk]
    have := ih hk
    omega
/-- Each place ahead of top lies in an object. -/
theorem cover (ws : List Int) (top i : Nat) (h : i < top) : ∃ p, St ws top p ∧ p ≤ i ∧ i < p + 1 + cnt (ws.getD p 0) := by
  have key : ∀ k, (∃ j, j < k ∧ sq ws top j ≤ i ∧ i < sq ws top (j + 1)) ∨ sq ws top k ≤ i := by
    intro k
    induction k with
    | zero => exact Or.inr (Nat.zero_le _)
    | succ k ih =>
      rcases ih with ⟨j, hj, h1, h2⟩ | h1
      · exact Or.inl ⟨j, by omega, h1, h2⟩
      · rcases Nat.lt_or_ge i (sq ws top (k + 1)) with h2 | h2
        · exact Or.inl ⟨k, by omega, h1, h2⟩
        · exact Or.inr h2
  rcases key (i + 1) with ⟨j, _, h1, h2⟩ | h1
  · have hj : sq ws top j < top := by omega
    rw [sq_step hj] at h2
    exact ⟨_, ⟨hj, j, rfl⟩, h1, h2⟩
  · have := sq_grows ws top (i + 1) (by omega)
    omega
/-- A word that is valid beside the objects of ws. -/
def WordOk (ws : List Int) (top : Nat) (x : Int) : Prop := x % 4 = 0 ∨ (x % 4 = 2 ∧ 0 ≤ x) ∨ (x % 4 = 1 ∧ 0 ≤ x ∧ St ws top (x / 4).toNat) ∨ (x % 4 = 3 ∧ 3 ≤ x ∧ x ≤ 19)
/-- What is asked of a header alone. -/
def HeadOk (ws : List Int) (top p : Nat) : Prop := headB (ws.getD p 0) = true ∧ p + 1 + cnt (ws.getD p 0) ≤ top
def FnOk (ws : List Int) (p : Nat) : Prop := ws.getD p 0 % 4 = 2 → 0 ≤ ws.getD (p + 1) 0 ∧ ws.getD (p + 1) 0 % 4 = 0
/-- A heap that is valid. -/
structure GoodH (ws : List Int) (top : Int) : Prop where
  size : ws.length ≤ 20000
  lo : 0 ≤ top
  hi : top ≤ ws.length
  rest : ∀ i : Nat, top ≤ (i : Int) → i < ws.length → ws.getD i 0 = 0
  heads : ∀ p, St ws top.toNat p → HeadOk ws top.toNat p
  fns : ∀ p, St ws top.toNat p → FnOk ws p
  words : ∀ i, i < top.toNat → ¬ St ws top.toNat i → WordOk ws top.toNat (ws.getD i 0)
/-- A heap with its roots. -/
structure GoodR (ws : List Int) (top : Int) (rs : List Int) : Prop where
  good : GoodH ws top
  few : rs.length ≤ 20000
  roots : ∀ i, i < rs.length → WordOk ws top.toNat (rs.getD i 0)
theorem GoodH.fields {ws : List Int} {top : Int} (h : GoodH ws top) {p : Nat} (hp : St ws top.toNat p) {i : Nat} (h1 : p < i) (h2 : i < p + 1 + cnt (ws.getD p 0)) : WordOk ws top.toNat (ws.getD i 0) :=
  h.words i (by have := (h.heads p hp).2; omega) (hp.between h1 h2)
/-- All fields of all objects: all words that are no headers. -/
theorem words_of_fields {ws : List Int} {top : Nat} (h : ∀ p, St ws top p → ∀ i, p < i → i < p + 1 + cnt (ws.getD p 0) → WordOk ws top (ws.getD i 0)) : ∀ i, i < top → ¬ St ws top i → WordOk ws top (ws.getD i 0) := by
  intro i hi hn
  obtain ⟨p, hp, h1, h2⟩ := cover ws top i hi
  rcases Nat.lt_or_ge p i with h3 | h3
  · exact h p hp i h3 h2
  · obtain rfl : p = i := by omega
    exact absurd hp hn
theorem head_cnt {w : Int} (h : headB w = true) : 0 ≤ w ∧ w / 4 ≤ 1000 ∧ cnt w ≤ 1000 ∧ ((cnt w : Nat) : Int) = w / 4 := by
  unfold headB at h
  simp only [Bool.and_eq_true, decide_eq_true_eq] at h
  obtain ⟨⟨h0, h1⟩, _⟩ := h
  refine ⟨h0, h1, ?_, ?_⟩ <;> unfold cnt <;> omega
theorem head_pair {w : Int} (h : headB w = true) (hk : w % 4 = 0) : cnt w = 2 := by
  unfold headB at h; rw [if_pos hk] at h; simp at h; unfold cnt; omega
theorem head_box {w : Int} (h : headB w = true) (hk : w % 4 = 3) : cnt w = 1 := by
  unfold headB at h; rw [if_neg (by omega), if_pos hk] at h; simp at h; unfold cnt; omega
theorem head_clo {w : Int} (h : headB w = true) (hk : w % 4 = 2) : 1 ≤ cnt w := by
  unfold headB at h; rw [if_neg (by omega), if_neg (by omega), if_pos hk] at h; simp at h; unfold cnt; omega
/-- Whether an object begins at p. -/
def stB (ws : List Int) (top p : Nat) : Bool := decide (p < top) && (List.range (p + 1)).any (fun k => sq ws top k == p)
theorem stB_iff (ws : List Int) (top p : Nat) : stB ws top p = true ↔ St ws top p := by
  unfold stB St
  simp only [Bool.and_eq_true, decide_eq_true_eq, List.any_eq_true, List.mem_range, beq_iff_eq]
  refine ⟨fun ⟨h, k, _, e⟩ => ⟨h, k, e⟩, fun ⟨h, k, e⟩ => ⟨h, k, ?_, e⟩⟩
  have := sq_grows ws top k (by omega)
  omega
/-- Whether x is a valid word beside n places of which f says where objects begin. -/
def wordOf (f : Nat → Bool) (n : Nat) (x : Int) : Bool := if x % 4 = 0 then true else if x % 4 = 2 then decide (0 ≤ x) else if x % 4 = 1 then decide (0 ≤ x) && decide (x / 4 < n) && f (x / 4).toNat else decide (3 ≤ x) && decide (x ≤ 19)
theorem wordOf_iff {ws : List Int} {top : Nat} {f : Nat → Bool} (hf : ∀ i, i < top → f i = stB ws top i) (x : Int) : wordOf f top x = true ↔ WordOk ws top x := by
  unfold wordOf WordOk
  split
  · rename_i h; simp [h]
  · split
    · rename_i h; simp [h]
    · split
      · rename_i h
        simp only [h, Bool.and_eq_true, decide_eq_true_eq]
        constructor
        · rintro ⟨⟨h0, h1⟩, h2⟩
          refine Or.inr (Or.inr (Or.inl ⟨trivial, h0, ?_⟩))
          rw [← stB_iff, ← hf _ (by omega)]; exact h2
        · rintro (h' | h' | ⟨_, h0, h1⟩ | h')
          · omega
          · omega
          · have := h1.1
            refine ⟨⟨h0, by omega⟩, ?_⟩
            rw [hf _ h1.1, stB_iff]; exact h1
          · omega
      · simp only [Bool.and_eq_true, decide_eq_true_eq]
        constructor
        · rintro ⟨h0, h1⟩; exact Or.inr (Or.inr (Or.inr ⟨by omega, h0, h1⟩))
        · rintro (h' | h' | h' | h') <;> omega
/-- What is asked of the objects ahead of their fields. -/
def Objs (ws : List Int) (top : Int) : Prop := ws.length ≤ 20000 ∧ 0 ≤ top ∧ top ≤ ws.length ∧ ∀ p, St ws top.toNat p → HeadOk ws top.toNat p ∧ FnOk ws p
theorem Objs.not {ws : List Int} {top : Int} {p : Nat} (hp : St ws top.toNat p) (h : ¬ (HeadOk ws top.toNat p ∧ FnOk ws p)) : ¬ Objs ws top := fun ho => h (ho.2.2.2 p hp)
theorem head_no {ws : List Int} {top : Int} {p : Nat} (hp : St ws top.toNat p) (h : headB (ws.getD p 0) = true → p + 1 + cnt (ws.getD p 0) ≤ top.toNat → ¬ FnOk ws p) : ¬ Objs ws top :=
  Objs.not hp fun ho => h ho.1.1 ho.1.2 ho.2
/-- One object more: what is known of all ahead of a. -/
theorem step_known {ws : List Int} {T a : Nat} {R : Nat → Prop} (hSt : St ws T a) (hOK : ∀ p, St ws T p → p < a → R p) (ha : R a) : ∀ p, St ws T p → p < a + 1 + cnt (ws.getD a 0) → R p := by
  intro p hp hlt
  rcases Nat.lt_or_ge p a with h | h
  · exact hOK p hp h
  · rcases Nat.lt_or_ge a p with h2 | h2
    · exact absurd hp (hSt.between h2 hlt)
    · obtain rfl : p = a := by omega
      exact ha
/-- The places that are marked ahead of a. -/
def mrk (ws : List Int) (T a j : Nat) : Bool := decide (j < a) && stB ws T j
theorem mrk_step {ws : List Int} {T a : Nat} (hSt : St ws T a) (j : Nat) : (if j = a then true else mrk ws T a j) = mrk ws T (a + 1 + cnt (ws.getD a 0)) j := by
  have hbt : ∀ i, a < i → i < a + 1 + cnt (ws.getD a 0) → stB ws T i = false := fun i h1 h2 => by
    rw [Bool.eq_false_iff]; intro hc; exact hSt.between h1 h2 ((stB_iff ws T i).1 hc)
  generalize cnt (ws.getD a 0) = q at hbt
  unfold mrk
  by_cases e : j = a
  · subst e
    rw [if_pos rfl, (stB_iff ws T j).2 hSt]
    simp; omega
  · rw [if_neg e]
    by_cases h : j < a
    · rw [show decide (j < a) = true by simpa using h, show decide (j < a + 1 + q) = true by simp; omega]
    · by_cases h2 : j < a + 1 + q
      · rw [hbt j (by omega) h2]; simp
      · rw [show decide (j < a) = false by simpa using h, show decide (j < a + 1 + q) = false by simpa using h2]
theorem mrk_zero (ws : List Int) (T j : Nat) : mrk ws T 0 j = false := by simp [mrk]
theorem mrk_all {ws : List Int} {T j : Nat} (h : j < T) : mrk ws T T j = stB ws T j := by simp [mrk, h]
theorem headB_of {x : Int} {m : Nat} (h0 : 0 ≤ x) (hm : x / 4 = m) (h1 : m ≤ 1000) (hk : (x % 4 = 0 → m = 2) ∧ (x % 4 = 3 → m = 1) ∧ (x % 4 = 2 → 1 ≤ m)) : headB x = true := by
  unfold headB
  rw [hm]
  simp only [Bool.and_eq_true, decide_eq_true_eq]
  refine ⟨⟨h0, by omega⟩, ?_⟩
  split
  · simp; omega
  · split
    · simp; omega
    · split
      · simp; omega
      · rfl
theorem cnt_of {x : Int} {m : Nat} (hm : x / 4 = m) : cnt x = m := by unfold cnt; omega
end Ch2
end Go.Proofs.Ytpfodinoeoejcaa
