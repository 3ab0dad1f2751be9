import Derived.Test.YtmmkpmgidoelpaaDoorC1
import Derived.Test.YtmmkpmgidoelpaaDoorA4
namespace Go.Proofs.YtmmkpmgidoelpaaDoor.Hp
open Go.RowKit Ch2
/-- A word as it is behind the copying. -/
def mvd (f : Nat → Int) (x : Int) : Int := if x % 4 = 1 then 4 * f (x / 4).toNat + 1 else x
set_option maxHeartbeats 1000000 in
theorem l2moved_c (x : Int) (p : Option Addr) (T c : Nat) (ms : List Int) (f : Nat → Int) (w : World) (hI : Is w p T c ms) (hm : ∀ i, i < T → ms.getD i 0 = f i) (hf : ∀ i, -1 ≤ f i ∧ f i ≤ 20000) (hx : x % 4 = 1 → 0 ≤ x ∧ (x / 4).toNat < T) (hT : T ≤ 20000) :
    Calls Tryd.prog 21 #[.int .i64 x, .slice p T c] w fun e w' => e = .returned (.int .i64 (mvd f x)) ∧ w' = w := by
  have HI : Hid (Is w p T c ms) := hI
  have HM : Hid (∀ i, i < T → ms.getD i 0 = f i) := hm
  clear hI hm
  by_cases k1 : x % 4 = 1
  · obtain ⟨h0, hlt⟩ := hx k1
    obtain ⟨m, hmm⟩ : ∃ m : Nat, x / 4 = m := ⟨(x / 4).toNat, by omega⟩
    have hmT : m < T := by omega
    have hd := tdiv4 x h0
    rw [hmm] at hd
    have HF : Hid (mvd f x = 4 * f m + 1) := by unfold Hid mvd; rw [if_pos k1, hmm]; simp
    obtain ⟨b, o, rfl, _, g⟩ := HI.out.cells (by omega)
    have g1 := g m hmT
    rw [HM.out m hmT] at g1
    have hfm := hf m
    clear g hf hmm hx
    generalize f m = y at g1 hfm HF
    obtain ⟨hf1, hf2⟩ := hfm
    go_enter Tryd.func21, Tryd.ntmps21
    go_wp2_with (go_at_call 35; refine (l2tag_c x _).mono ?_; rintro e w' ⟨rfl, rfl⟩; rw [k1])
    go_ret
    exact ⟨ret_int HF.out.symm, rfl⟩
  · have HF : Hid (mvd f x = x) := by unfold Hid mvd; rw [if_neg k1]
    obtain ⟨y, hy⟩ : ∃ y, x % 4 = y := ⟨_, rfl⟩
    have e0 : (y == 1) = false := by rw [← hy]; simpa using k1
    clear hx
    go_enter Tryd.func21, Tryd.ntmps21
    go_wp2_with (go_at_call 35; refine (l2tag_c x _).mono ?_; rintro e w' ⟨rfl, rfl⟩; rw [hy])
    go_ret
    exact ⟨ret_int HF.out.symm, rfl⟩
/-- An own slice of places. -/
def OwN (w : World) (B : Nat) (v : Value) (ks : List Nat) : Prop := w.ownsRow B 3 1 v ks.length (ks.map fun k : Nat => Value.int .i64 (k : Int))
theorem ownsRow_below {w w' : World} {B : Nat} {e : TypeId} {s n : Nat} {v : Value} {xs : List Value} (h : w.ownsRow B e s v n xs) (hb : Below w.heap.size w w') : w'.ownsRow B e s v n xs := by
  obtain ⟨h1, h2 | ⟨g, cap, cur, hv, hg, hh, r⟩⟩ := h
  · exact ⟨h1, Or.inl h2⟩
  · refine ⟨h1, Or.inr ⟨g, cap, cur, hv, hg, ?_, r⟩⟩
    rw [hb.block g (Array.getElem?_eq_some_iff.1 hh).1]; exact hh
theorem OwN.below {w w' : World} {B : Nat} {v : Value} {xs : List Nat} (h : OwN w B v xs) (hb : Below w.heap.size w w') : OwN w' B v xs := ownsRow_below h hb
theorem OwN.nil (w : World) (B : Nat) : OwN w B (.slice none 0 0) [] := ⟨rfl, Or.inl ⟨rfl, rfl⟩⟩
theorem OwN.two {w w' : World} {B x y : Nat} {v : Value} {xs : List Nat} (h : OwN w B v xs) (ht : Two x y w w') (hx : x < B) (hy : y < B) : OwN w' B v xs := by
  obtain ⟨h1, h2 | ⟨g, cap, cur, hv, hg, hh, r⟩⟩ := h
  · exact ⟨h1, Or.inl h2⟩
  · exact ⟨h1, Or.inr ⟨g, cap, cur, hv, hg, by rw [ht.block g (by omega) (by omega)]; exact hh, r⟩⟩
theorem OwN.form {w : World} {B : Nat} {v : Value} {ks : List Nat} (h : OwN w B v ks) : ∃ p c, v = .slice p ks.length c ∧ ks.length ≤ c ∧ c ≤ maxLen ∧ (0 < ks.length → ∃ g, p = some ⟨g, 0, none⟩ ∧ B ≤ g ∧ g < w.heap.size ∧ ∀ j, j < ks.length → w.cell? ⟨g, j, none⟩ = some (.int .i64 ((ks.getD j 0 : Nat) : Int))) := by
  obtain ⟨_, ⟨rfl, h0⟩ | ⟨g, cap, cur, rfl, hg, hh, h1, h2, h3, h4⟩⟩ := h
  · exact ⟨none, 0, by rw [h0], by omega, Nat.zero_le _, fun h => by omega⟩
  · refine ⟨some ⟨g, 0, none⟩, cap, rfl, h1, h2, fun _ => ⟨g, rfl, hg, (Array.getElem?_eq_some_iff.1 hh).1, fun j hj => ?_⟩⟩
    have e : (List.take (ks.length * 1) cur.toList)[j]? = (ks.map fun k : Nat => Value.int .i64 (k : Int))[j]? := by rw [h4]
    rw [List.getElem?_take, if_pos (by omega)] at e
    have : cur.toList[j]? = some (.int .i64 ((ks.getD j 0 : Nat) : Int)) := by rw [e]; simp [List.getD, List.getElem?_eq_getElem hj]
    simpa [World.cell?, hh] using this
theorem one_new (w : World) (x : Value) : ∀ j u, ([x] : List Value)[j]? = some u → (w.alloc (.cells #[x] 3)).cell? ((⟨w.heap.size, 0, none⟩ : Addr).add j) = some u := by
  intro j u h
  have hj : j = 0 := by
    cases j with
    | zero => rfl
    | succ j => simp at h
  subst hj
  simp at h
  subst h
  have hb : (w.alloc (.cells #[x] 3)).heap[w.heap.size]? = some (.cells #[x] 3) := Go.Deep.blk_alloc_new _ _
  simp only [Addr.add, if_true, World.cell?]
  rw [hb]
  rfl
theorem ownN_block_ge {w : World} {B : Nat} {v : Value} {xs : List Nat} (h : OwN w B v xs) : ∀ k, v.ownBlock = some k → B ≤ k := by
  obtain ⟨_, ⟨rfl, _⟩ | ⟨g, cap, cur, rfl, hg, _⟩⟩ := h
  · intro k hk; cases hk
  · intro k hk; cases hk; exact hg
/-- append of one place onto an own slice. -/
theorem appN_law {ops : Array Oper} {rest : List Oper} {o : Oper} {a : Act} {Q : Exit → Act → World → Prop} (w : World) (hgd : o.guard = none) (s x : Operand)
    (ho : o.op = .call { callee := .builtin .append, args := #[s, x], argTypes := #[23, 23] }) (B : Nat) (v : Value) (ks : List Nat) (k : Nat) (hs : a.eval s = v) (hown : OwN w B v ks) (hx : a.eval x = .slice (some ⟨w.heap.size, 0, none⟩) 1 1)
    (hl : ks.length ≤ 1000000) (hB : B ≤ w.heap.size)
    (h : ∀ v' w', OwN w' B v' (ks ++ [k]) → Below B w w' → wpList Tryd.prog ops Q rest (a.put o.dst v') w') : wpList Tryd.prog ops Q (o :: rest) a (w.alloc (.cells #[.int .i64 (k : Int)] 3)) := by
  obtain ⟨i3, hi3, hz3, hs3, hb3⟩ := info3'
  refine wpList_append_own _ hgd s x 23 ho B 3 i3 (.int .i64 0) 1 8 Tryd.underlying23 hi3 hz3 hs3 hb3 rfl (by decide) v ks.length (ks.map fun k : Nat => Value.int .i64 (k : Int)) hs (ownsRow_below hown (below1 _ _)) ⟨w.heap.size, 0, none⟩ 1 1 [.int .i64 (k : Int)] hx rfl (one_new _ _) (by simp [Value.oneCell']) (by unfold maxLen; omega) (by omega) (by simp; omega) ?_
  intro v' w' ho' hg _
  refine h v' w' ?_ ((below1 w _).mono hB |>.grown hg (by simp; omega) (ownN_block_ge hown))
  unfold OwN
  rw [List.length_append, List.map_append]
  exact ho'
end Go.Proofs.YtmmkpmgidoelpaaDoor.Hp
