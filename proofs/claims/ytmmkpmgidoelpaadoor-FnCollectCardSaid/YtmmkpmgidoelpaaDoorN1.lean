import Derived.RowKit3
import Derived.Below
import Derived.Test.YtmmkpmgidoelpaaDoorRows
import Derived.WalkKit
import Derived.WalkSpells
import Derived.WalkLawsBesides
import Derived.Deep.QuietTactic
import Derived.BigQuiet
import Derived.Deep.OwnRows
/- Plain mathematics of chapter 2's heaps: no Go here. -/
namespace Go.Proofs.YtmmkpmgidoelpaaDoor.Hp
namespace Ch2
def cnt (w : Int) : Nat := (w / 4).toNat
/-- A header that an object may have. -/
def headB (w : Int) : Bool := decide (0 ≤ w) && decide (w / 4 ≤ 1000) && (if w % 4 = 0 then decide (w / 4 = 2) else if w % 4 = 3 then decide (w / 4 = 1) else if w % 4 = 2 then decide (1 ≤ w / 4) else true)
/-- The places one comes to from header to header. -/
def sq (ws : List Int) (top : Nat) : Nat → Nat
  | 0 => 0
  | k + 1 => if sq ws top k < top then sq ws top k + 1 + cnt (ws.getD (sq ws top k) 0) else sq ws top k
/-- An object begins at p. -/
def St (ws : List Int) (top p : Nat) : Prop := p < top ∧ ∃ k, sq ws top k = p
theorem sq_le (ws : List Int) (top i d : Nat) : sq ws top i ≤ sq ws top (i + d) := by
  induction d with
  | zero => exact Nat.le_refl _
  | succ d ih =>
    rw [← Nat.add_assoc, sq]
    split <;> omega
theorem sq_mono (ws : List Int) (top : Nat) {i j : Nat} (h : i ≤ j) : sq ws top i ≤ sq ws top j := by
  obtain ⟨d, rfl⟩ := Nat.exists_eq_add_of_le h
  exact sq_le ws top i d
theorem sq_step {ws : List Int} {top k : Nat} (h : sq ws top k < top) : sq ws top (k + 1) = sq ws top k + 1 + cnt (ws.getD (sq ws top k) 0) := by
  rw [sq, if_pos h]
theorem sq_rest {ws : List Int} {top k : Nat} (h : ¬ sq ws top k < top) (d : Nat) : sq ws top (k + d) = sq ws top k := by
  induction d with
  | zero => rfl
  | succ d ih => rw [← Nat.add_assoc, sq, ih, if_neg h]
theorem St.next {ws : List Int} {top p : Nat} (h : St ws top p) : ∃ k, sq ws top k = p + 1 + cnt (ws.getD p 0) := by
  obtain ⟨hp, k, rfl⟩ := h
  exact ⟨k + 1, sq_step hp⟩
/-- Between two places that one comes to lie the fields of the first. -/
theorem St.le {ws : List Int} {top p q j : Nat} (h : St ws top p) (hq : sq ws top j = q) (hlt : p < q) : p + 1 + cnt (ws.getD p 0) ≤ q := by
  obtain ⟨hp, i, rfl⟩ := h
  have hij : i < j := by
    rcases Nat.lt_or_ge i j with h | h
    · exact h
    · have := sq_mono ws top h; omega
  have := sq_mono ws top (show i + 1 ≤ j from hij)
  rw [sq_step hp] at this
  omega
theorem St.between {ws : List Int} {top p i : Nat} (h : St ws top p) (h1 : p < i) (h2 : i < p + 1 + cnt (ws.getD p 0)) : ¬ St ws top i := by
  rintro ⟨_, j, hj⟩
  have := h.le hj h1
  omega
theorem sq_grows (ws : List Int) (top k : Nat) : sq ws top k < top → k ≤ sq ws top k := by
  induction k with
  | zero => intro _; exact Nat.zero_le _
  | succ k ih =>
    intro h
    have hk : sq ws top k < top := by have := sq_le ws top k 1; omega
    rw [sq_step hk]
    have := ih hk
    omega
/-- Each place ahead of top lies in an object. -/
theorem cover (ws : List Int) (top i : Nat) (h : i < top) : ∃ p, St ws top p ∧ p ≤ i ∧ i < p + 1 + cnt (ws.getD p 0) := by
  have key : ∀ k, (∃ j, j < k ∧ sq ws top j ≤ i ∧ i < sq ws top (j + 1)) ∨ sq ws top k ≤ i := by
    intro k
    induction k with
    | zero => exact Or.inr (Nat.zero_le _)
    | succ k ih =>
      rcases ih with ⟨j, hj, h1, h2⟩ | h1
      · exact Or.inl ⟨j, by omega, h1, h2⟩
      · rcases Nat.lt_or_ge i (sq ws top (k + 1)) with h2 | h2
        · exact Or.inl ⟨k, by omega, h1, h2⟩
        · exact Or.inr h2
  rcases key (i + 1) with ⟨j, _, h1, h2⟩ | h1
  · have hj : sq ws top j < top := by omega
    rw [sq_step hj] at h2
    exact ⟨_, ⟨hj, j, rfl⟩, h1, h2⟩
  · have := sq_grows ws top (i + 1) (by omega)
    omega
/-- A word that is valid beside the objects of ws. -/
def WordOk (ws : List Int) (top : Nat) (x : Int) : Prop := x % 4 = 0 ∨ (x % 4 = 2 ∧ 0 ≤ x) ∨ (x % 4 = 1 ∧ 0 ≤ x ∧ St ws top (x / 4).toNat) ∨ (x % 4 = 3 ∧ 3 ≤ x ∧ x ≤ 19)
/-- What is asked of a header alone. -/
def HeadOk (ws : List Int) (top p : Nat) : Prop := headB (ws.getD p 0) = true ∧ p + 1 + cnt (ws.getD p 0) ≤ top
def FnOk (ws : List Int) (p : Nat) : Prop := ws.getD p 0 % 4 = 2 → 0 ≤ ws.getD (p + 1) 0 ∧ ws.getD (p + 1) 0 % 4 = 0
/-- A heap that is valid. -/
structure GoodH (ws : List Int) (top : Int) : Prop where
  size : ws.length ≤ 20000
  lo : 0 ≤ top
  hi : top ≤ ws.length
  rest : ∀ i : Nat, top ≤ (i : Int) → i < ws.length → ws.getD i 0 = 0
  heads : ∀ p, St ws top.toNat p → HeadOk ws top.toNat p
  fns : ∀ p, St ws top.toNat p → FnOk ws p
  words : ∀ i, i < top.toNat → ¬ St ws top.toNat i → WordOk ws top.toNat (ws.getD i 0)
/-- A heap with its roots. -/
structure GoodR (ws : List Int) (top : Int) (rs : List Int) : Prop where
  good : GoodH ws top
  few : rs.length ≤ 20000
  roots : ∀ i, i < rs.length → WordOk ws top.toNat (rs.getD i 0)
theorem GoodH.fields {ws : List Int} {top : Int} (h : GoodH ws top) {p : Nat} (hp : St ws top.toNat p) {i : Nat} (h1 : p < i) (h2 : i < p + 1 + cnt (ws.getD p 0)) : WordOk ws top.toNat (ws.getD i 0) :=
  h.words i (by have := (h.heads p hp).2; omega) (hp.between h1 h2)
/-- All fields of all objects: all words that are no headers. -/
theorem words_of_fields {ws : List Int} {top : Nat} (h : ∀ p, St ws top p → ∀ i, p < i → i < p + 1 + cnt (ws.getD p 0) → WordOk ws top (ws.getD i 0)) : ∀ i, i < top → ¬ St ws top i → WordOk ws top (ws.getD i 0) := by
  intro i hi hn
  obtain ⟨p, hp, h1, h2⟩ := cover ws top i hi
  rcases Nat.lt_or_ge p i with h3 | h3
  · exact h p hp i h3 h2
  · obtain rfl : p = i := by omega
    exact absurd hp hn
theorem head_cnt {w : Int} (h : headB w = true) : 0 ≤ w ∧ w / 4 ≤ 1000 ∧ cnt w ≤ 1000 ∧ ((cnt w : Nat) : Int) = w / 4 := by
  unfold headB at h
  simp only [Bool.and_eq_true, decide_eq_true_eq] at h
  obtain ⟨⟨h0, h1⟩, _⟩ := h
  refine ⟨h0, h1, ?_, ?_⟩ <;> unfold cnt <;> omega
theorem head_pair {w : Int} (h : headB w = true) (hk : w % 4 = 0) : cnt w = 2 := by
  unfold headB at h; rw [if_pos hk] at h; simp at h; unfold cnt; omega
theorem head_box {w : Int} (h : headB w = true) (hk : w % 4 = 3) : cnt w = 1 := by
  unfold headB at h; rw [if_neg (by omega), if_pos hk] at h; simp at h; unfold cnt; omega
theorem head_clo {w : Int} (h : headB w = true) (hk : w % 4 = 2) : 1 ≤ cnt w := by
  unfold headB at h; rw [if_neg (by omega), if_neg (by omega), if_pos hk] at h; simp at h; unfold cnt; omega
/-- Whether an object begins at p. -/
def stB (ws : List Int) (top p : Nat) : Bool := decide (p < top) && (List.range (p + 1)).any (fun k => sq ws top k == p)
theorem stB_iff (ws : List Int) (top p : Nat) : stB ws top p = true ↔ St ws top p := by
  unfold stB St
  simp only [Bool.and_eq_true, decide_eq_true_eq, List.any_eq_true, List.mem_range, beq_iff_eq]
  refine ⟨fun ⟨h, k, _, e⟩ => ⟨h, k, e⟩, fun ⟨h, k, e⟩ => ⟨h, k, ?_, e⟩⟩
  have := sq_grows ws top k (by omega)
  omega
/-- Whether x is a valid word beside n places of which f says where objects begin. -/
def wordOf (f : Nat → Bool) (n : Nat) (x : Int) : Bool := if x % 4 = 0 then true else if x % 4 = 2 then decide (0 ≤ x) else if x % 4 = 1 then decide (0 ≤ x) && decide (x / 4 < n) && f (x / 4).toNat else decide (3 ≤ x) && decide (x ≤ 19)
theorem wordOf_iff {ws : List Int} {top : Nat} {f : Nat → Bool} (hf : ∀ i, i < top → f i = stB ws top i) (x : Int) : wordOf f top x = true ↔ WordOk ws top x := by
  unfold wordOf WordOk
  split
  · rename_i h; simp [h]
  · split
    · rename_i h; simp [h]
    · split
      · rename_i h
        simp only [h, Bool.and_eq_true, decide_eq_true_eq]
        constructor
        · rintro ⟨⟨h0, h1⟩, h2⟩
          refine Or.inr (Or.inr (Or.inl ⟨trivial, h0, ?_⟩))
          rw [← stB_iff, ← hf _ (by omega)]; exact h2
        · rintro (h' | h' | ⟨_, h0, h1⟩ | h')
          · omega
          · omega
          · have := h1.1
            refine ⟨⟨h0, by omega⟩, ?_⟩
            rw [hf _ h1.1, stB_iff]; exact h1
          · omega
      · simp only [Bool.and_eq_true, decide_eq_true_eq]
        constructor
        · rintro ⟨h0, h1⟩; exact Or.inr (Or.inr (Or.inr ⟨by omega, h0, h1⟩))
        · rintro (h' | h' | h' | h') <;> omega
/-- What is asked of the objects ahead of their fields. -/
def Objs (ws : List Int) (top : Int) : Prop := ws.length ≤ 20000 ∧ 0 ≤ top ∧ top ≤ ws.length ∧ ∀ p, St ws top.toNat p → HeadOk ws top.toNat p ∧ FnOk ws p
theorem Objs.not {ws : List Int} {top : Int} {p : Nat} (hp : St ws top.toNat p) (h : ¬ (HeadOk ws top.toNat p ∧ FnOk ws p)) : ¬ Objs ws top := fun ho => h (ho.2.2.2 p hp)
theorem head_no {ws : List Int} {top : Int} {p : Nat} (hp : St ws top.toNat p) (h : headB (ws.getD p 0) = true → p + 1 + cnt (ws.getD p 0) ≤ top.toNat → ¬ FnOk ws p) : ¬ Objs ws top :=
  Objs.not hp fun ho => h ho.1.1 ho.1.2 ho.2
/-- One object more: what is known of all ahead of a. -/
theorem step_known {ws : List Int} {T a : Nat} {R : Nat → Prop} (hSt : St ws T a) (hOK : ∀ p, St ws T p → p < a → R p) (ha : R a) : ∀ p, St ws T p → p < a + 1 + cnt (ws.getD a 0) → R p := by
  intro p hp hlt
  rcases Nat.lt_or_ge p a with h | h
  · exact hOK p hp h
  · rcases Nat.lt_or_ge a p with h2 | h2
    · exact absurd hp (hSt.between h2 hlt)
    · obtain rfl : p = a := by omega
      exact ha
/-- The places that are marked ahead of a. -/
def mrk (ws : List Int) (T a j : Nat) : Bool := decide (j < a) && stB ws T j
theorem mrk_step {ws : List Int} {T a : Nat} (hSt : St ws T a) (j : Nat) : (if j = a then true else mrk ws T a j) = mrk ws T (a + 1 + cnt (ws.getD a 0)) j := by
  have hbt : ∀ i, a < i → i < a + 1 + cnt (ws.getD a 0) → stB ws T i = false := fun i h1 h2 => by
    rw [Bool.eq_false_iff]; intro hc; exact hSt.between h1 h2 ((stB_iff ws T i).1 hc)
  generalize cnt (ws.getD a 0) = q at hbt
  unfold mrk
  by_cases e : j = a
  · subst e
    rw [if_pos rfl, (stB_iff ws T j).2 hSt]
    simp; omega
  · rw [if_neg e]
    by_cases h : j < a
    · rw [show decide (j < a) = true by simpa using h, show decide (j < a + 1 + q) = true by simp; omega]
    · by_cases h2 : j < a + 1 + q
      · rw [hbt j (by omega) h2]; simp
      · rw [show decide (j < a) = false by simpa using h, show decide (j < a + 1 + q) = false by simpa using h2]
theorem mrk_zero (ws : List Int) (T j : Nat) : mrk ws T 0 j = false := by simp [mrk]
theorem mrk_all {ws : List Int} {T j : Nat} (h : j < T) : mrk ws T T j = stB ws T j := by simp [mrk, h]
theorem headB_of {x : Int} {m : Nat} (h0 : 0 ≤ x) (hm : x / 4 = m) (h1 : m ≤ 1000) (hk : (x % 4 = 0 → m = 2) ∧ (x % 4 = 3 → m = 1) ∧ (x % 4 = 2 → 1 ≤ m)) : headB x = true := by
  unfold headB
  rw [hm]
  simp only [Bool.and_eq_true, decide_eq_true_eq]
  refine ⟨⟨h0, by omega⟩, ?_⟩
  split
  · simp; omega
  · split
    · simp; omega
    · split
      · simp; omega
      · rfl
theorem cnt_of {x : Int} {m : Nat} (hm : x / 4 = m) : cnt x = m := by unfold cnt; omega
end Ch2
end Go.Proofs.YtmmkpmgidoelpaaDoor.Hp
namespace Go.Proofs.YtmmkpmgidoelpaaDoor.Hp
open Go.RowKit Ch2
theorem ret_bool {a b : Bool} (h : a = b) : Ending.returned (.bool a) = .returned (.bool b) := by rw [h]
theorem ret_int {k : IntKind} {a b : Int} (h : a = b) : Ending.returned (.int k a) = .returned (.int k b) := by rw [h]
theorem info3 : (Tryd.prog.info? 3).map (fun i => (i.zero, i.size, i.bytes)) = some (some (.int .i64 0), 1, 8) := by kernel_rfl
theorem below1 (w : World) (o : Obj) : Below w.heap.size w (w.alloc o) := (Below.refl _ w).alloc (Nat.le_refl _) _
theorem below2 (w : World) (o o2 : Obj) : Below w.heap.size w ((w.alloc o).alloc o2) := (below1 w o).alloc (by simp) _
theorem below3 (w : World) (o o2 o3 : Obj) : Below w.heap.size w (((w.alloc o).alloc o2).alloc o3) := (below2 w o o2).alloc (by simp; omega) _

/-- A slice of ints that lies in w and reads as xs. -/
structure Is (w : World) (p : Option Addr) (n c : Nat) (xs : List Int) : Prop where
  len : xs.length = n
  cap : n ≤ c
  big : c ≤ maxLen
  rng : ∀ i, -9223372036854775808 ≤ xs.getD i 0 ∧ xs.getD i 0 ≤ 9223372036854775807
  cells : 0 < n → ∃ b o, p = some ⟨b, o, none⟩ ∧ b < w.heap.size ∧ ∀ i, i < n → w.cell? ⟨b, o + i, none⟩ = some (.int .i64 (xs.getD i 0))
theorem Is.below {w w' : World} {p : Option Addr} {n c : Nat} {xs : List Int} (h : Is w p n c xs) (hb : Below w.heap.size w w') : Is w' p n c xs := by
  refine ⟨h.len, h.cap, h.big, h.rng, fun hn => ?_⟩
  obtain ⟨b, o, e, hlt, hc⟩ := h.cells hn
  exact ⟨b, o, e, Nat.lt_of_lt_of_le hlt hb.size, fun i hi => by rw [hb.cell (p := ⟨b, o + i, none⟩) hlt]; exact hc i hi⟩
theorem Is.small {w : World} {p : Option Addr} {n c : Nat} {xs : List Int} (h : Is w p n c xs) : n ≤ 9223372036854775807 ∧ c ≤ 9223372036854775807 := by
  have h1 := h.cap; have h2 := h.big; unfold maxLen at h2; omega

def szOf (left : Int) (n : Nat) : Int := if left - n < 0 then -1 else left - n
/-! ### eqIntS, at equal ints -/
/-! ### toIntS -/
/-- Ints in a block of the call's own, from B on, which may be written. -/
def Ro (w : World) (g n : Nat) (xs : List Int) : Prop := w.rowIs g 3 n (fun j => .int .i64 (xs.getD j 0))
theorem Ro.is {w : World} {g n : Nat} {xs : List Int} (h : Ro w g n xs) (hl : xs.length = n) (hn : n ≤ maxLen) (hr : ∀ i, -9223372036854775808 ≤ xs.getD i 0 ∧ xs.getD i 0 ≤ 9223372036854775807) : Is w (some ⟨g, 0, none⟩) n n xs :=
  ⟨hl, Nat.le_refl _, hn, hr, fun _ => ⟨g, 0, rfl, h.lt, fun i hi => by rw [Nat.zero_add]; exact h.cell hi⟩⟩
theorem Ro.below {w w' : World} {g n : Nat} {xs : List Int} (h : Ro w g n xs) (hb : Below w.heap.size w w') : Ro w' g n xs := h.of_block (hb.block g h.lt)
/-! ### marks -/
/-! ### rows that may be written -/
def IsR (w : World) (b : Nat) (e : TypeId) (m : Nat) : Prop := ∃ f, w.rowIs b e m f
theorem IsR.setCell {w : World} {b m : Nat} {e : TypeId} (h : IsR w b e m) (g i : Nat) (v : Value) : IsR (w.setCell ⟨g, i, none⟩ v) b e m := by
  obtain ⟨f, hf⟩ := h
  by_cases hg : b = g
  · subst hg; exact ⟨_, hf.set i v⟩
  · exact ⟨f, hf.setOther hg v⟩
theorem IsR.of_block {w w' : World} {b m : Nat} {e : TypeId} (h : IsR w b e m) (hb : w'.heap[b]? = w.heap[b]?) : IsR w' b e m := by
  obtain ⟨f, hf⟩ := h
  exact ⟨f, hf.of_block hb⟩
theorem IsR.lt {w : World} {b m : Nat} {e : TypeId} (h : IsR w b e m) : b < w.heap.size := by obtain ⟨f, hf⟩ := h; exact hf.lt
theorem IsR.at {w : World} {b m : Nat} {e : TypeId} (h : IsR w b e m) {i : Nat} (hi : i < m) : (∃ v, w.cell? ⟨b, i, none⟩ = some v) ∧ w.frozen? ⟨b, i, none⟩ = false := by
  obtain ⟨f, hf⟩ := h
  exact ⟨⟨_, hf.cell hi⟩, hf.frozen i⟩
/-- Only blocks from lo to ahead of hi have turned. -/
structure Within (lo hi : Nat) (w w' : World) : Prop where
  os : w'.os = w.os
  tape : w'.tape = w.tape
  output : w'.output = w.output
  size : w'.heap.size = w.heap.size
  block : ∀ k, k < lo ∨ hi ≤ k → w'.heap[k]? = w.heap[k]?
theorem Within.refl (lo hi : Nat) (w : World) : Within lo hi w w := ⟨rfl, rfl, rfl, rfl, fun _ _ => rfl⟩
theorem Within.trans {lo hi : Nat} {a b c : World} (h : Within lo hi a b) (k : Within lo hi b c) : Within lo hi a c :=
  ⟨k.os.trans h.os, k.tape.trans h.tape, k.output.trans h.output, k.size.trans h.size, fun i hi => (k.block i hi).trans (h.block i hi)⟩
theorem Within.wider {lo hi lo' hi' : Nat} {a b : World} (h : Within lo hi a b) (h1 : lo' ≤ lo) (h2 : hi ≤ hi') : Within lo' hi' a b :=
  ⟨h.os, h.tape, h.output, h.size, fun k hk => h.block k (by omega)⟩
theorem Within.set {lo hi : Nat} {a w : World} (h : Within lo hi a w) {p : Addr} (h1 : lo ≤ p.block) (h2 : p.block < hi) (v : Value) : Within lo hi a (w.setCell p v) :=
  h.trans ⟨rfl, rfl, rfl, by simp [World.setCell], fun k hk => Below.heap_setCell _ _ _ _ (by omega)⟩
theorem Within.below {lo hi : Nat} {a w : World} (h : Within lo hi a w) {B : Nat} (hB : B ≤ lo) : Below B a w :=
  ⟨h.os, h.tape, h.output, by rw [h.size]; exact Nat.le_refl _, fun k hk => h.block k (by omega)⟩
theorem bcell {W w1 : World} (hb : Below W.heap.size W w1) : (∀ b o, b < W.heap.size → w1.cell? ⟨b, o, none⟩ = W.cell? ⟨b, o, none⟩) ∧ (∀ b o, b < W.heap.size → w1.frozen? ⟨b, o, none⟩ = W.frozen? ⟨b, o, none⟩) :=
  ⟨fun b o h => hb.cell (p := ⟨b, o, none⟩) h, fun b o h => hb.frozen (p := ⟨b, o, none⟩) h⟩
theorem below_drewN' {B : Nat} {a w : World} (h : Below B a w) (q : Nat) : Below B a (w.drewN q) := ⟨h.os, h.tape, h.output, h.size, h.block⟩
theorem Is.within {lo hi : Nat} {w w' : World} {p : Option Addr} {n c : Nat} {xs : List Int} (h : Is w p n c xs) (hw : Within lo hi w w') (hp : ∀ a, p = some a → 0 < n → a.block < lo ∨ hi ≤ a.block) : Is w' p n c xs := by
  refine ⟨h.len, h.cap, h.big, h.rng, fun hn => ?_⟩
  obtain ⟨b, o, e, hlt, hc⟩ := h.cells hn
  have ho := hp _ e hn
  exact ⟨b, o, e, by rw [hw.size]; exact hlt, fun i hi => by rw [World.cell?_of_block (w := w) (hw.block b ho)]; exact hc i hi⟩
/-- A slice of ints from B on to ahead of E that may be written. -/
def Wr (w : World) (B E : Nat) (p : Option Addr) (n : Nat) : Prop := 0 < n → ∃ t m f, p = some ⟨t, 0, none⟩ ∧ B ≤ t ∧ t < E ∧ n ≤ m ∧ w.rowIs t 3 m f
/-- It holds the marks from k on. -/
def Held (w : World) (p : Option Addr) (n : Nat) (k : Int) : Prop := 0 < n → ∃ t, p = some ⟨t, 0, none⟩ ∧ t < w.heap.size ∧ ∀ j, j < n → w.cell? ⟨t, j, none⟩ = some (.int .i64 (k + j))
theorem Ro.wr {w : World} {g n : Nat} {xs : List Int} (h : Ro w g n xs) {B E : Nat} (h1 : B ≤ g) (h2 : g < E) : Wr w B E (some ⟨g, 0, none⟩) n := fun _ => ⟨g, n, _, rfl, h1, h2, Nat.le_refl _, h⟩
theorem Wr.below {w w' : World} {B E n : Nat} {p : Option Addr} (h : Wr w B E p n) (hb : Below w.heap.size w w') : Wr w' B E p n := by
  intro hn
  obtain ⟨t, m, f, e, h1, h2, h3, h4⟩ := h hn
  exact ⟨t, m, f, e, h1, h2, h3, h4.of_block (hb.block t h4.lt)⟩
theorem Wr.within {w w' : World} {B E n lo hi : Nat} {p : Option Addr} (h : Wr w B E p n) (hb : Within lo hi w w') (hB : hi ≤ B ∨ E ≤ lo) : Wr w' B E p n := by
  intro hn
  obtain ⟨t, m, f, e, h1, h2, h3, h4⟩ := h hn
  exact ⟨t, m, f, e, h1, h2, h3, h4.of_block (hb.block t (by omega))⟩
theorem Held.within {w w' : World} {n lo hi : Nat} {p : Option Addr} {k : Int} (h : Held w p n k) (hb : Within lo hi w w') (hp : ∀ a, p = some a → a.block < lo ∨ hi ≤ a.block) : Held w' p n k := by
  intro hn
  obtain ⟨t, e, h0, h1⟩ := h hn
  exact ⟨t, e, by rw [hb.size]; exact h0, fun j hj => by rw [World.cell?_of_block (w := w) (hb.block t (hp _ e))]; exact h1 j hj⟩
theorem Held.below {w w' : World} {n : Nat} {p : Option Addr} {k : Int} (h : Held w p n k) (hb : Below w.heap.size w w') : Held w' p n k := by
  intro hn
  obtain ⟨t, e, h0, h1⟩ := h hn
  exact ⟨t, e, Nat.lt_of_lt_of_le h0 hb.size, fun j hj => by rw [hb.cell (p := ⟨t, j, none⟩) h0]; exact h1 j hj⟩
end Go.Proofs.YtmmkpmgidoelpaaDoor.Hp
namespace Go.Proofs.YtmmkpmgidoelpaaDoor.Hp
open Go.RowKit Ch2
theorem Ro.setCell {w : World} {g n : Nat} {xs : List Int} (h : Ro w g n xs) {a : Addr} (ha : g ≠ a.block) (v : Value) : Ro (w.setCell a v) g n xs :=
  h.of_block (Below.heap_setCell w a v g ha)
/-! ### NewHeap -/
/-- What both NewHeaps answer. -/
def NH (sz : Int) (w w' : World) (e : Ending) : Prop := ∃ p n code, e = .returned (.tuple #[.agg #[.slice p n n, .int .i64 0], .int .i64 code]) ∧ code = (if sz < 0 ∨ 20000 < sz then 1 else 0) ∧ n = (if sz < 0 ∨ 20000 < sz then 0 else sz.toNat) ∧ Is w' p n n (List.replicate n 0) ∧ Wr w' w.heap.size w'.heap.size p n ∧ Below w.heap.size w w'
theorem NH.bad {sz : Int} {w w' : World} (h : sz < 0 ∨ 20000 < sz) (hb : Below w.heap.size w w') : NH sz w w' (.returned (.tuple #[.agg #[.slice none 0 0, .int .i64 0], .int .i64 1])) :=
  ⟨none, 0, 1, rfl, by rw [if_pos h], by rw [if_pos h], ⟨rfl, Nat.le_refl _, by unfold maxLen; omega, fun i => by simp, fun h => absurd h (Nat.lt_irrefl 0)⟩, fun h => absurd h (Nat.lt_irrefl 0), hb⟩
theorem rep_getD (n i : Nat) : (List.replicate n (0 : Int)).getD i 0 = 0 := by
  simp [List.getD, List.getElem?_replicate]
  split <;> rfl
theorem Ro.zeros {w : World} {g n : Nat} (h : w.rowIs g 3 n (fun _ => .int .i64 0)) : Ro w g n (List.replicate n 0) := h.congr (fun j _ => by rw [rep_getD])
theorem NH.ok {n g : Nat} {w w' : World} (h : n ≤ 20000) (hr : w'.rowIs g 3 n (fun _ => .int .i64 0)) (hg : w.heap.size ≤ g) (hb : Below w.heap.size w w') : NH n w w' (.returned (.tuple #[.agg #[.slice (some ⟨g, 0, none⟩) n n, .int .i64 0], .int .i64 0])) :=
  ⟨some ⟨g, 0, none⟩, n, 0, rfl, by rw [if_neg (by omega)], by rw [if_neg (by omega)]; simp, (Ro.zeros hr).is (by simp) (by unfold maxLen; omega) (fun i => by rw [rep_getD]; omega), (Ro.zeros hr).wr hg hr.lt, hb⟩
set_option maxHeartbeats 1000000 in
theorem specNewHeap_c (sz : Int) (w : World) : Calls Tryd.prog 32 #[.int .i64 sz] w fun e w' => NH sz w w' e := by
  by_cases h1 : sz < 0
  · go_enter Tryd.func32, Tryd.ntmps32
    go_wp2
    exact bodyPost_ret (v := .tuple #[.agg #[.slice none 0 0, .int .i64 0], .int .i64 1]) (by simp [results, Tryd.results32, go_sem]) rfl (NH.bad (Or.inl h1) (below1 w _))
  · by_cases h2 : 20000 < sz
    · go_enter Tryd.func32, Tryd.ntmps32
      go_wp2
      exact bodyPost_ret (v := .tuple #[.agg #[.slice none 0 0, .int .i64 0], .int .i64 1]) (by simp [results, Tryd.results32, go_sem]) rfl (NH.bad (Or.inr h2) (below1 w _))
    · obtain ⟨n, rfl⟩ := Int.eq_ofNat_of_zero_le (show 0 ≤ sz by omega)
      have hmk := run_make_row' (P := Tryd.prog) 23 3 (.int .i64 0) 8 Tryd.underlying23 info3 rfl .i64 .i64 n (by omega) (by omega)
      have hn : n ≤ 20000 := by omega
      go_enter Tryd.func32, Tryd.ntmps32
      go_wp2
      refine bodyPost_ret (v := .tuple #[.agg #[.slice (some ⟨w.heap.size + 1, 0, none⟩) n n, .int .i64 0], .int .i64 0]) (by simp [results, Tryd.results32, go_sem]) rfl (NH.ok hn ?_ (by omega) (below2 w _ _))
      have := World.rowIs_made (w.alloc (.cells #[.slice (some ⟨w.heap.size + 1, 0, none⟩) n n, .int .i64 0] 25)) (.int .i64 0) n 3
      simpa using this
end Go.Proofs.YtmmkpmgidoelpaaDoor.Hp
namespace Go.Proofs.YtmmkpmgidoelpaaDoor.Hp
open Go.RowKit Ch2
theorem Wr.mono {w : World} {B E B' E' n : Nat} {p : Option Addr} (h : Wr w B E p n) (h1 : B' ≤ B) (h2 : E ≤ E') : Wr w B' E' p n := by
  intro hn
  obtain ⟨t, m, f, e, r1, r2, r3, r4⟩ := h hn
  exact ⟨t, m, f, e, Nat.le_trans h1 r1, Nat.lt_of_lt_of_le r2 h2, r3, r4⟩
/-- A contract behind a new block. -/
theorem below_alloc {w w' : World} {o : Obj} (h : Below (w.alloc o).heap.size (w.alloc o) w') : Below w.heap.size w w' := (below1 w o).trans (h.mono (by simp))
/-- A variable of type Heap that lies in block b. -/
structure Bx (w : World) (b : Nat) (p : Option Addr) (n c : Nat) (top : Int) : Prop where
  c0 : w.cell? ⟨b, 0, none⟩ = some (.slice p n c)
  c1 : w.cell? ⟨b, 1, none⟩ = some (.int .i64 top)
  lt : b < w.heap.size
theorem Bx.below {w w' : World} {b n c : Nat} {p : Option Addr} {top : Int} (h : Bx w b p n c top) (hb : Below w.heap.size w w') : Bx w' b p n c top :=
  ⟨by rw [hb.cell (p := ⟨b, 0, none⟩) h.lt]; exact h.c0, by rw [hb.cell (p := ⟨b, 1, none⟩) h.lt]; exact h.c1, Nat.lt_of_lt_of_le h.lt hb.size⟩
theorem Bx.within {w w' : World} {b n c lo hi : Nat} {p : Option Addr} {top : Int} (h : Bx w b p n c top) (hb : Within lo hi w w') (hr : b < lo ∨ hi ≤ b) : Bx w' b p n c top :=
  ⟨by rw [World.cell?_of_block (w := w) (hb.block b hr)]; exact h.c0, by rw [World.cell?_of_block (w := w) (hb.block b hr)]; exact h.c1, by rw [hb.size]; exact h.lt⟩
theorem Bx.new (w : World) (p : Option Addr) (n c : Nat) (top : Int) (t : TypeId) : Bx (w.alloc (.cells #[.slice p n c, .int .i64 top] t)) w.heap.size p n c top := by
  have hb : (w.alloc (.cells #[.slice p n c, .int .i64 top] t)).heap[w.heap.size]? = some (.cells #[.slice p n c, .int .i64 top] t) := Go.Deep.blk_alloc_new _ _
  exact ⟨by unfold World.cell?; rw [hb]; rfl, by unfold World.cell?; rw [hb]; rfl, by simp⟩
end Go.Proofs.YtmmkpmgidoelpaaDoor.Hp
