import Derived.Test.YtkkmoaidbmnolaaGreatDoorEs
import Derived.Deep.AppendLies
import Derived.Deep.RegionLaw
import Derived.Test.YtkkmoaidbmnolaaGreatDoorDp
namespace Go.Proofs.YtkkmoaidbmnolaaGreatDoor
open Go.RowKit Ch1
/-- Bytes that are appended to: an own row, or a full one. -/
def Sw (w : World) (B : Nat) (v : Value) (xs : List Int) : Prop := Ow w B v xs ∨ ∃ b n arr mk, B ≤ b ∧ (0 < n ∧ n ≤ 4) ∧ v = .slice (some ⟨b, 0, none⟩) n n ∧ w.heap[b]? = some (.cells arr 5 mk) ∧ By w (some ⟨b, 0, none⟩) n n xs
theorem sw_ne {w : World} {B : Nat} {v : Value} {xs : List Int} {k : Nat} {a : Array Value} {t : TypeId} (h : Sw w B v xs) (hf : w.heap[k]? = some (.cells a t)) (ht : t ≠ 5) : some k ≠ v.ownBlock := by
  rcases h with h | ⟨b, n, arr, mk, hb, hn, rfl, hh, _⟩
  · exact own_ne h hf ht
  · intro e
    cases e
    rw [hh] at hf
    cases hf
    exact ht rfl
theorem Sw.below {w w' : World} {B : Nat} {v : Value} {xs : List Int} (h : Sw w B v xs) (hb : Below w.heap.size w w') : Sw w' B v xs := by
  rcases h with h | ⟨b, n, arr, mk, h1, h2, h3, h4, h5⟩
  · exact Or.inl (h.below hb)
  · exact Or.inr ⟨b, n, arr, mk, h1, h2, h3, (hb.block b (Array.getElem?_eq_some_iff.1 h4).1).trans h4, h5.below hb⟩
theorem appE_law (w : World) {ops : Array Oper} {rest : List Oper} {o : Oper} {a : Act} {Q : Exit → Act → World → Prop} (hgd : o.guard = none) (s x : Operand)
    (ho : o.op = .call { callee := .builtin .append, args := #[s, x], argTypes := #[22, 22] }) (B : Nat) (v : Value) (xs : List Int) (y : Int) (h0 : 0 ≤ y) (h1 : y < 256) (hs : a.eval s = v) (hown : Sw w B v xs) (hx : a.eval x = .slice (some ⟨w.heap.size, 0, none⟩) 1 1)
    (hlen : xs.length ≤ 500000000) (hB : B ≤ w.heap.size)
    (h : ∀ v' w', Ow w' B v' (xs ++ [y]) → Below B w w' → But w w' v → wpList Tryz.prog ops Q rest (a.put o.dst v') w') : wpList Tryz.prog ops Q (o :: rest) a (w.alloc (.cells #[.int .u8 y] 5)) := by
  rcases hown with hown | ⟨b, n, arr, mk, hb, hn, rfl, hh, hy⟩
  · exact app1_law w hgd s x ho B v xs y h0 h1 hs hown hx hlen hB h
  · have hl := hy.len
    refine appG_law _ hgd s x ho b 0 n xs [y] hs (hy.below (below1 _ _)) w.heap.size 0 1 1 hx (By.lit w y h0 h1) (by omega) (by omega) (fun v' w' k1 k2 => ?_)
    exact h v' w' (k1.mono (by simp; omega)) (((below1 _ _).mono hB).trans (k2.mono (by simp; omega))) (fun k hk _ => (k2.block k (by simp; omega)).trans ((below1 w _).block k hk))
theorem Sw.own {w : World} {B : Nat} {v : Value} {xs : List Int} (h : Sw w B v xs) (hl : 4 < xs.length) : Ow w B v xs := by
  rcases h with h | ⟨b, n, arr, mk, h1, h2, h3, h4, h5⟩
  · exact h
  · have := h5.len; omega
/-- append(v, x...) onto an own row of bytes, in a region that draws. -/
theorem appR_law (w : World) {ops : Array Oper} {o : Oper} {a : Act} {K : Act → World → Prop} {Q : Exit → Act → World → Prop} {E : Prop} (hgd : o.guard = none) (s x : Operand)
    (ho : o.op = .call { callee := .builtin .append, args := #[s, x], argTypes := #[22, 22] }) (B : Nat) (v : Value) (xs ys : List Int) (hs : a.eval s = v) (hown : Ow w B v xs) (b' o' m c : Nat) (hx : a.eval x = .slice (some ⟨b', o', none⟩) m c)
    (hy : By w (some ⟨b', o', none⟩) m c ys) (hm : 0 < m) (hlen : xs.length + m ≤ 1000000000) (hB : B ≤ w.heap.size)
    (h : ∀ v' w', Ow w' B v' (xs ++ ys) → Below B w w' → But w w' v → K (a.put o.dst v') w') : if Region.wanted o (yielded ops a.tmps) = true then Oper.wp Tryz.prog o a w K Q else E := by
  obtain ⟨i5, hi5, hz5, hs5, hb5⟩ := info5'
  have hl := hy.len
  refine step_append_lies (P := Tryz.prog) w hgd s x 22 ho B 5 i5 (.int .u8 0) 1 1 Tryz.underlying22 hi5 hz5 hs5 hb5 rfl (by decide) v xs.length (xs.map (.int .u8)) hs hown ⟨b', o', none⟩ m c (ys.map (.int .u8)) hx (by simp [hl]) ?_ ?_ hm (by unfold maxLen; omega) (by omega) hB _ rfl ?_
  · intro j u hu
    by_cases hj : j < ys.length
    · obtain ⟨b, o, e, g⟩ := hy.cells (by omega)
      cases e
      have := g j (by omega)
      rw [Go.WideShapes.add_plain, this, ← hu]
      simp [List.getD, List.getElem?_eq_getElem hj]
    · rw [List.getElem?_eq_none (by simpa using Nat.le_of_not_lt hj)] at hu; cases hu
  · intro u hu
    obtain ⟨n, _, rfl⟩ := List.mem_map.1 hu
    rfl
  · intro g cap w' h1 h2 _ _
    exact h _ w' (Ow.app h1 rfl hl rfl rfl) ((Below.refl _ w).grown h2 hB (own_block_ge hown)) (fun k hk hne => h2.block k hk hne)
theorem cell_of_blk1 {w : World} {b : Nat} {v : Value} {t : TypeId} (e : w.heap[b]? = some (.cells #[v] t)) : w.cell? ⟨b, 0, none⟩ = some v := by simp [World.cell?, e]
theorem frozen_of_blk1 {w : World} {b : Nat} {v : Value} {t : TypeId} (e : w.heap[b]? = some (.cells #[v] t)) : w.frozen? ⟨b, 0, none⟩ = false := by simp [World.frozen?, e]
/-- Only the writer and its row have turned. -/
structure Sv (b B : Nat) (w w' : World) : Prop where
  below : Below B w w'
  kept : ∀ (k : Nat) (arr : Array Value) (t : TypeId), w.heap[k]? = some (.cells arr t) → t ≠ 5 → k ≠ b → w'.heap[k]? = some (.cells arr t)
theorem Sv.refl (b B : Nat) (w : World) : Sv b B w w := ⟨Below.refl _ _, fun _ _ _ h _ _ => h⟩
theorem Sv.trans {b B : Nat} {u v w : World} (h : Sv b B u v) (k : Sv b B v w) : Sv b B u w := ⟨h.below.trans k.below, fun x arr t e h1 h2 => k.kept x arr t (h.kept x arr t e h1 h2) h1 h2⟩
theorem Sv.of_below {b B : Nat} {w w' : World} (h : Below w.heap.size w w') (hB : B ≤ w.heap.size) : Sv b B w w' := ⟨h.mono hB, fun k _ _ e _ _ => (h.block k (Array.getElem?_eq_some_iff.1 e).1).trans e⟩
theorem Ow.of_heap {w w' : World} {B : Nat} {v : Value} {xs : List Int} (h : Ow w B v xs) (hk : ∀ k, v.ownBlock = some k → w'.heap[k]? = w.heap[k]?) : Ow w' B v xs := by
  obtain ⟨h1, h2 | ⟨g, cap, cur, rfl, hg, hh, r⟩⟩ := h
  · exact ⟨h1, Or.inl h2⟩
  · exact ⟨h1, Or.inr ⟨g, cap, cur, rfl, hg, by rw [hk g rfl]; exact hh, r⟩⟩
theorem Ow.form {w : World} {B : Nat} {v : Value} {xs : List Int} (h : Ow w B v xs) : ∃ p n c, v = .slice p n c := by
  obtain ⟨_, ⟨rfl, _⟩ | ⟨g, cap, cur, rfl, _⟩⟩ := h
  · exact ⟨_, _, _, rfl⟩
  · exact ⟨_, _, _, rfl⟩
/-- What put writes of the first k numbers. -/
def ptZ (size : Nat) (ns : List Int) (k : Nat) : List Int := (List.range k).flatMap (fun i => leZ size (ns.getD i 0))
theorem ptZ_succ (size : Nat) (ns : List Int) (k : Nat) : ptZ size ns (k + 1) = ptZ size ns k ++ leZ size (ns.getD k 0) := flat_succ _ k
theorem ptZ_len (size : Nat) (ns : List Int) (k : Nat) : (ptZ size ns k).length = size * k := by
  induction k with
  | zero => rfl
  | succ k ih => rw [ptZ_succ, List.length_append, ih, leZ_len, Nat.mul_succ]
theorem putZ1 (size : Nat) (x : Int) : ptZ size [x] 1 = leZ size x := by unfold ptZ; simp
theorem putZ2 (size : Nat) (x y : Int) : ptZ size [x, y] 2 = leZ size x ++ leZ size y := by unfold ptZ; simp [List.range_succ]
end Go.Proofs.YtkkmoaidbmnolaaGreatDoor
namespace Go.Proofs.YtkkmoaidbmnolaaGreatDoor
open Go.RowKit Ch1
theorem cells4_of_heap {w : World} {b : Nat} {v0 v1 v2 v3 : Value} {t : TypeId} (e : w.heap[b]? = some (.cells #[v0, v1, v2, v3] t)) : w.cell? ⟨b, 0, none⟩ = some v0 ∧ w.cell? ⟨b, 1, none⟩ = some v1 ∧ w.cell? ⟨b, 2, none⟩ = some v2 ∧ w.cell? ⟨b, 3, none⟩ = some v3 :=
  ⟨by simp [World.cell?, e], by simp [World.cell?, e], by simp [World.cell?, e], by simp [World.cell?, e]⟩
theorem datZ0 (n count : Int) (text : List Int) : datZ ⟨0, n, text, count⟩ = [0 % 256] ++ leZ 8 n := by simp [datZ]
theorem datZ1 (n count : Int) (text : List Int) : datZ ⟨1, n, text, count⟩ = [1 % 256] ++ [n % 256] := by simp [datZ]
theorem datZ2 (n count : Int) (text : List Int) : datZ ⟨2, n, text, count⟩ = [2 % 256] ++ (((text.length : Int) % 256) :: text) := by simp [datZ]
theorem datZ3 (n count : Int) (text : List Int) : datZ ⟨3, n, text, count⟩ = [3 % 256] ++ leZ 2 count := by simp [datZ]
end Go.Proofs.YtkkmoaidbmnolaaGreatDoor
namespace Go.Proofs.YtkkmoaidbmnolaaGreatDoor
open Go.RowKit Ch1
/-- From l to r only good data were skipped. -/
def Gone (l r : List Dt) : Prop := ∃ n, r = l.drop n ∧ ∀ i, i < n → i < l.length → goodB (l.getD i dt0) = true
theorem Gone.refl (l : List Dt) : Gone l l := ⟨0, rfl, fun i hi => absurd hi (Nat.not_lt_zero i)⟩
theorem Gone.trans {a b c : List Dt} (h : Gone a b) (k : Gone b c) : Gone a c := by
  obtain ⟨n, rfl, hn⟩ := h
  obtain ⟨m, rfl, hm⟩ := k
  refine ⟨n + m, by rw [List.drop_drop], fun i hi hl => ?_⟩
  by_cases e : i < n
  · exact hn i e hl
  · have h1 := hm (i - n) (by omega) (by rw [List.length_drop]; omega)
    have e2 : (a.drop n).getD (i - n) dt0 = a.getD i dt0 := by simp [List.getD, List.getElem?_drop, show n + (i - n) = i by omega]
    rw [e2] at h1
    exact h1
theorem skipN_gone {f : List Dt → Option (List Dt)} (hf : ∀ l r, f l = some r → Gone l r) : ∀ (k : Nat) (l r : List Dt), skipN f k l = some r → Gone l r
  | 0, l, r, h => by simp [skipN] at h; subst h; exact Gone.refl _
  | k + 1, l, r, h => by
    rw [skipN] at h
    cases e : f l with
    | none => rw [e] at h; cases h
    | some r' => rw [e] at h; exact (hf l r' e).trans (skipN_gone hf k r' r h)
theorem skip_gone : ∀ (k : Nat) (l r : List Dt), skip k l = some r → Gone l r := by
  intro k
  induction k using Nat.strongRecOn with
  | ind k ih =>
    intro l r h
    obtain ⟨d, q, rfl, hg, ⟨_, rfl⟩ | ⟨k', rfl, _, hs⟩⟩ := skip_some h
    · exact ⟨1, rfl, fun i hi _ => by obtain rfl : i = 0 := (by omega); exact hg⟩
    · refine Gone.trans ⟨1, rfl, fun i hi _ => by obtain rfl : i = 0 := (by omega); exact hg⟩ (skipN_gone (ih k' (by omega)) _ q r hs)
theorem one_good {ds : List Dt} (h : skip 100 ds = some []) (i : Nat) (hi : i < ds.length) : goodB (ds.getD i dt0) = true := by
  obtain ⟨n, e, hn⟩ := skip_gone 100 ds [] h
  have : ds.length ≤ n := by
    have h2 := congrArg List.length e
    rw [List.length_drop, List.length_nil] at h2
    omega
  exact hn i (by omega) hi
theorem good_hk {d : Dt} (h : goodB d = true) : d.kind = 0 ∨ d.kind = 1 ∨ (d.kind = 2 ∧ 0 < d.text.length ∧ d.text.length ≤ 100) ∨ d.kind = 3 := by
  rcases good_kinds h with e | e | e | e
  · exact Or.inl e
  · exact Or.inr (Or.inl e)
  · have := good_text h e
    exact Or.inr (Or.inr (Or.inl ⟨e, by omega, by omega⟩))
  · exact Or.inr (Or.inr (Or.inr e))
theorem datZ_good {d : Dt} (h : goodB d = true) : (datZ d).length ≤ 109 := by
  unfold datZ
  rw [List.length_cons]
  split
  · rw [leZ_len]; omega
  · split
    · simp
    · split
      · have := good_text h (by assumption); simp; omega
      · rw [leZ_len]; omega
theorem dsZ_len {ds : List Dt} {n : Nat} (hg : ∀ i, i < n → goodB (ds.getD i dt0) = true) : ∀ k, k ≤ n → (dsZ ds k).length ≤ 109 * k
  | 0, _ => by simp [dsZ]
  | k + 1, hk => by
    have := dsZ_len hg k (by omega)
    have := datZ_good (hg k (by omega))
    rw [dsZ_succ, List.length_append]; omega
end Go.Proofs.YtkkmoaidbmnolaaGreatDoor
