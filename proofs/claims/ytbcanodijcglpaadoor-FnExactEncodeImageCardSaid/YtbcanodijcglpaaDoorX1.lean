import Derived.Test.YtbcanodijcglpaaDoorWd
import Derived.Test.YtbcanodijcglpaaDoorPure2
import Derived.Lib.AppendStr
namespace Go.Proofs.YtbcanodijcglpaaDoor
open Go.RowKit Ch1
/-- v is a slice of the call's own that holds the bytes xs. -/
def Ow (w : World) (B : Nat) (v : Value) (xs : List Int) : Prop := w.ownsRow B 5 1 v xs.length (xs.map (Value.int .u8))
theorem ownsRow_below {w w' : World} {B : Nat} {e : TypeId} {s n : Nat} {v : Value} {xs : List Value} (h : w.ownsRow B e s v n xs) (hb : Below w.heap.size w w') : w'.ownsRow B e s v n xs := by
  obtain ⟨h1, h2 | ⟨g, cap, cur, hv, hg, hh, r⟩⟩ := h
  · exact ⟨h1, Or.inl h2⟩
  · refine ⟨h1, Or.inr ⟨g, cap, cur, hv, hg, ?_, r⟩⟩
    rw [hb.block g (Array.getElem?_eq_some_iff.1 hh).1]; exact hh
theorem Ow.below {w w' : World} {B : Nat} {v : Value} {xs : List Int} (h : Ow w B v xs) (hb : Below w.heap.size w w') : Ow w' B v xs := ownsRow_below h hb
theorem Ow.nil (w : World) (B : Nat) : Ow w B (.slice none 0 0) [] := ⟨rfl, Or.inl ⟨rfl, rfl⟩⟩
theorem Ow.lit (w : World) (B : Nat) (xs : List Int) (hB : B ≤ w.heap.size) (hl : xs.length ≤ maxLen) : Ow (w.alloc (.cells (xs.map (Value.int .u8)).toArray 5)) B (.slice (some ⟨w.heap.size, 0, none⟩) xs.length xs.length) xs := by
  refine ⟨by simp, Or.inr ⟨w.heap.size, xs.length, (xs.map (Value.int .u8)).toArray, rfl, hB, ?_, Nat.le_refl _, hl, by simp, by rw [Nat.mul_one, List.take_of_length_le (by simp)]⟩⟩
  exact Go.Deep.blk_alloc_new _ _
theorem Ow.by_ {w : World} {B : Nat} {v : Value} {xs : List Int} (h : Ow w B v xs) (hr : ∀ i, 0 ≤ xs.getD i 0 ∧ xs.getD i 0 < 256) : ∃ p c, v = .slice p xs.length c ∧ By w p xs.length c xs ∧ (∀ a, p = some a → a.block < w.heap.size ∧ B ≤ a.block) := by
  obtain ⟨_, ⟨rfl, h0⟩ | ⟨g, cap, cur, rfl, hg, hh, h1, h2, h3, h4⟩⟩ := h
  · obtain rfl : xs = [] := List.length_eq_zero_iff.1 h0
    exact ⟨none, 0, rfl, ⟨rfl, Nat.le_refl _, by unfold maxLen; omega, hr, fun h => absurd h (Nat.lt_irrefl 0), fun a ha => by cases ha⟩, fun a ha => by cases ha⟩
  · have hlt := (Array.getElem?_eq_some_iff.1 hh).1
    refine ⟨some ⟨g, 0, none⟩, cap, rfl, ⟨rfl, h1, h2, hr, fun _ => ⟨g, 0, rfl, fun i hi => ?_⟩, fun a ha _ => by cases ha; exact hlt⟩, fun a ha => by cases ha; exact ⟨hlt, hg⟩⟩
    have : cur.toList[i]? = some (.int .u8 (xs.getD i 0)) := by
      have e : (List.take (xs.length * 1) cur.toList)[i]? = (xs.map (Value.int .u8))[i]? := by rw [h4]
      rw [List.getElem?_take, if_pos (by omega)] at e
      rw [e]; simp [List.getD, List.getElem?_eq_getElem hi]
    simpa [World.cell?, hh] using this
theorem info5' : ∃ i, Tryd.prog.info? 5 = some i ∧ i.zero = some (.int .u8 0) ∧ i.size = 1 ∧ i.bytes = 1 := by
  obtain ⟨i, hi, hpr⟩ := Option.map_eq_some_iff.1 info5
  simp only [Prod.mk.injEq] at hpr
  exact ⟨i, hi, hpr.1, hpr.2.1, hpr.2.2⟩
theorem byte_conv (c : Int) (h0 : 0 ≤ c) (h1 : c < 256) : c % 256 = c := by omega
theorem nums_rng (l : List UInt8) (i : Nat) : 0 ≤ (nums l).getD i 0 ∧ (nums l).getD i 0 < 256 := by
  by_cases hi : i < l.length
  · have : (nums l).getD i 0 = (l[i].toNat : Int) := by simp [nums, List.getD, List.getElem?_eq_getElem hi]
    rw [this]; have := l[i].toNat_lt; omega
  · have : (nums l).getD i 0 = 0 := by simp [nums, List.getD, List.getElem?_eq_none (Nat.le_of_not_lt hi)]
    rw [this]; omega
theorem dec_small (u : Nat) (h : u < 10) : nums (Lib.decDigits u) = [48 + (u : Int)] := by
  unfold Lib.decDigits; rw [dif_pos h]
  simp [nums]; omega
theorem dec_step (u : Nat) (h : ¬ u < 10) : nums (Lib.decDigits u) = nums (Lib.decDigits (u / 10)) ++ [48 + ((u % 10 : Nat) : Int)] := by
  rw [Lib.decDigits, dif_neg h]
  simp [nums]; omega
theorem dec_len (u : Nat) (h : u < 18446744073709551616) : (nums (Lib.decDigits u)).length ≤ 20 := by
  rw [nums_length, Lib.decDigits_length]
  exact Lib.nDigits_le20 u h

/-- What an append onto an own row of bytes leaves. -/
theorem Ow.app {w' : World} {B : Nat} {v' : Value} {xs ys : List Int} {n m : Nat} {cs ds : List Value} (h : w'.ownsRow B 5 1 v' (n + m) (cs ++ ds)) (hn : xs.length = n) (hm : ys.length = m) (hc : cs = xs.map (Value.int .u8)) (hd : ds = ys.map (Value.int .u8)) : Ow w' B v' (xs ++ ys) := by
  subst hn hm hc hd
  unfold Ow
  rw [List.length_append, List.map_append]
  exact h
theorem one_new (w : World) (x : Value) : ∀ j u, ([x] : List Value)[j]? = some u → (w.alloc (.cells #[x] 5)).cell? ((⟨w.heap.size, 0, none⟩ : Addr).add j) = some u := by
  intro j u h
  have hj : j = 0 := by
    cases j with
    | zero => rfl
    | succ j => simp at h
  subst hj
  simp at h
  subst h
  have hb : (w.alloc (.cells #[x] 5)).heap[w.heap.size]? = some (.cells #[x] 5) := Go.Deep.blk_alloc_new _ _
  simp only [Addr.add, if_true, World.cell?]
  rw [hb]
  rfl
theorem own_block_ge {w : World} {B : Nat} {v : Value} {xs : List Int} (h : Ow w B v xs) : ∀ k, v.ownBlock = some k → B ≤ k := by
  obtain ⟨_, ⟨rfl, _⟩ | ⟨g, cap, cur, rfl, hg, _⟩⟩ := h
  · intro k hk; cases hk
  · intro k hk; cases hk; exact hg
theorem wrap_u64 (x : Int) (h0 : 0 ≤ x) (h1 : x < 18446744073709551616) : IntKind.u64.wrap x = x := by
  simp [IntKind.wrap, IntKind.bits, IntKind.signed]
  omega
theorem tdiv10 (x : Int) (h0 : 0 ≤ x) (h1 : x < 18446744073709551616) : IntKind.u64.wrap (x.tdiv 10) = x / 10 := by
  rw [Int.tdiv_eq_ediv_of_nonneg h0]; exact wrap_u64 _ (by omega) (by omega)
theorem tmod10 (x : Int) (h0 : 0 ≤ x) : IntKind.u64.wrap (x.tmod 10) = x % 10 := by
  rw [Int.tmod_eq_emod_of_nonneg h0]; exact wrap_u64 _ (by omega) (by omega)
end Go.Proofs.YtbcanodijcglpaaDoor
