import Derived.Test.YtdjdhjciealfhaaGreatDoorK8
import Derived.Test.YtdjdhjciealfhaaGreatDoorUf
import Derived.Test.YtdjdhjciealfhaaGreatDoorUq
namespace Go.Proofs.YtdjdhjciealfhaaGreatDoor
open Go.RowKit Ch1
namespace Vf
/-- A reached state of the program's. -/
def stL (s : List Nat) : List Value := stG true s.length (fun i => s.getD i 0)
theorem getD_none {s : List Nat} {i : Nat} (h : s.length ≤ i) : s.getD i 0 = 0 := by rw [List.getD_eq_getElem?_getD, List.getElem?_eq_none h]; rfl
theorem out_zero {m : Md} {f : Fn} {x : In} {s : List Nat} {n : Nat} (hn : n = (allow m x).length) (h : lefts m f x s = 0) : stG true (s.length - n) (fun k => if k < s.length - n then s.getD k 0 else 0) = stL (outOf m f x s) := by
  have e : outOf m f x s = s.take (s.length - n) := by unfold outOf; rw [if_pos h, List.append_nil, hn]
  have hl : (s.take (s.length - n)).length = s.length - n := by rw [List.length_take]; omega
  unfold stL
  rw [e, hl]
  exact stG_congr (fun i _ => by
    by_cases hi : i < s.length - n
    · rw [if_pos hi, getD_take hi]
    · rw [if_neg hi, getD_none (by omega)])
theorem out_one {m : Md} {f : Fn} {x : In} {s : List Nat} {n v : Nat} (hn : n = (allow m x).length) (hv : v = lefts m f x s) (h : v ≠ 0) : stG true (s.length - n + 1) (fun k => if k = s.length - n then v else if k < s.length - n then s.getD k 0 else 0) = stL (outOf m f x s) := by
  have e : outOf m f x s = s.take (s.length - n) ++ [v] := by unfold outOf; rw [if_neg (by rw [← hv]; exact h), ← hv, ← hn]
  have hl : (s.take (s.length - n)).length = s.length - n := by rw [List.length_take]; omega
  have hl2 : (s.take (s.length - n) ++ [v]).length = s.length - n + 1 := by rw [List.length_append, hl]; rfl
  unfold stL
  rw [e, hl2]
  refine stG_congr (fun i _ => ?_)
  by_cases h1 : i = s.length - n
  · rw [if_pos h1, getD_app_r (by omega), hl, h1, Nat.sub_self]
    rfl
  · rw [if_neg h1]
    by_cases hi : i < s.length - n
    · rw [if_pos hi, getD_app_l (by omega), getD_take hi]
    · rw [if_neg hi, getD_none (by omega)]
/-- What stateBehind answers. -/
def BhP (m : Md) (f : Fn) (x : In) (s : List Nat) (w w' : World) (e : Ending) : Prop :=
  Below w.heap.size w w' ∧ ((¬ (fits m f x s ∧ asks m x s) ∧ ∃ c, e = .returned (.tuple #[.agg (stG false 0 c).toArray, .bool false])) ∨ (fits m f x s ∧ asks m x s ∧ e = .returned (.tuple #[.agg (stL (outOf m f x s)).toArray, .bool true])))
theorem asks_last {m : Md} {x : In} {s : List Nat} : lastIn s.length (fun i => s.getD i 0) (allow m x).length (allow m x) ↔ asks m x s := Iff.rfl
theorem allow_lt {m : Md} {x : In} (i : Nat) : (allow m x).getD i 0 < 512 := by
  by_cases hi : i < (allow m x).length
  · rw [allow_at hi]
    have := fun b => (capK_rng b).2
    split
    · decide
    · split
      · exact this _
      · split
        · split <;> decide
        · split <;> decide
  · rw [getD_none (Nat.le_of_not_lt hi)]
    decide
theorem Sb.oth {w w' : World} {S R : Nat} {r : Bool} {c : Nat} {t : Nat → Nat} (h : Sb w R r c t) (ho : Oth S w w') (hne : R ≠ S) : Sb w' R r c t := (ho R hne).trans h
theorem out_len {m : Md} {f : Fn} {x : In} {s : List Nat} : (outOf m f x s).length = s.length - (allow m x).length + (if lefts m f x s = 0 then 0 else 1) := by
  unfold outOf
  rw [List.length_append, List.length_take]
  by_cases hz : lefts m f x s = 0
  · rw [if_pos hz, if_pos hz]; simp
  · rw [if_neg hz, if_neg hz]; simp
end Vf
end Go.Proofs.YtdjdhjciealfhaaGreatDoor
namespace Go.Proofs.YtdjdhjciealfhaaGreatDoor
open Go.RowKit Ch1
namespace Vf
/-- States that lie below every answer. -/
structure Pg (m : Md) (f : Fn) (σ : States) : Prop where
  good : GoodA f σ
  le : ∀ τ, OkS m f τ → LeS f σ τ
  st : ∃ t, σ 0 = some t ∧ Le (first f) t
/-- Where there is an answer, what comes next fits. -/
theorem Pg.none_ {m : Md} {f : Fn} {σ : States} {i : Nat} {s : List Nat} (h : Pg m f σ) (hi : i < f.code.length) (hg : GoodS s) (hst : ∀ τ, OkS m f τ → ∃ t, τ i = some t ∧ Le s t) (hbad : ¬ (fits m f (f.code.getD i in0) s ∧ ∀ k, k ∈ nexts (f.code.getD i in0) i → k < f.code.length ∧ ∀ r, σ k = some r → r.length = (outOf m f (f.code.getD i in0) s).length)) : ¬ ∃ τ, OkS m f τ := by
  rintro ⟨τ, hτ⟩
  obtain ⟨t, ht, hle⟩ := hst τ hτ
  refine hbad ⟨(put_le2 (n := 0) hτ (h.le τ hτ) hi hg ht hle).1, fun k hk => ?_⟩
  obtain ⟨h1, h2, _⟩ := (put_le2 hτ (h.le τ hτ) hi hg ht hle).2 hk
  exact ⟨h1, h2⟩
/-- What fails here fails everywhere. -/
theorem Pg.unsafe_ {m : Md} {f : Fn} {σ : States} {i : Nat} {s : List Nat} (h : Pg m f σ) (hi : i < f.code.length) (hg : GoodS s) (hst : ∀ τ, OkS m f τ → ∃ t, τ i = some t ∧ Le s t) (hbad : ¬ (fits m f (f.code.getD i in0) s ∧ asks m (f.code.getD i in0) s)) : ¬ Safe m f := by
  rintro ⟨τ, hτ, ha⟩
  obtain ⟨t, ht, hle⟩ := hst τ hτ
  exact hbad ⟨(put_le2 (n := 0) hτ (h.le τ hτ) hi hg ht hle).1, asks_le hle (ha i t hi ht)⟩
theorem Pg.put {m : Md} {f : Fn} {σ : States} {i k : Nat} {s : List Nat} (h : Pg m f σ) (hi : i < f.code.length) (hg : GoodS s) (hst : ∀ τ, OkS m f τ → ∃ t, τ i = some t ∧ Le s t) (hf : fits m f (f.code.getD i in0) s) (hk : k < f.code.length) (hkn : k ∈ nexts (f.code.getD i in0) i) (hl : ∀ r, σ k = some r → r.length = (outOf m f (f.code.getD i in0) s).length) : Pg m f (Vf.put σ k (outOf m f (f.code.getD i in0) s)) := by
  refine ⟨good_put h.good (good_out hg hf) hf.2.2 hl hk, fun τ hτ => ?_, ?_⟩
  · obtain ⟨t, ht, hle⟩ := hst τ hτ
    exact ((put_le2 hτ (h.le τ hτ) hi hg ht hle).2 hkn).2.2
  · obtain ⟨t, ht, hle⟩ := h.st
    by_cases h0 : 0 = k
    · subst h0
      refine ⟨_, put_same _ _ _, ?_⟩
      rw [ht]
      exact hle.trans (joinL_l _ _ (hl t ht))
    · exact ⟨t, by rw [put_other _ _ h0]; exact ht, hle⟩
/-- States grow. -/
theorem put_up {σ : States} {k : Nat} {o : List Nat} (hl : ∀ r, σ k = some r → r.length = o.length) {j : Nat} {t : List Nat} (h : σ j = some t) : ∃ t', Vf.put σ k o j = some t' ∧ Le t t' := by
  by_cases hj : j = k
  · subst hj
    refine ⟨_, put_same _ _ _, ?_⟩
    rw [h]
    exact joinL_l _ _ (hl t h)
  · exact ⟨t, by rw [put_other _ _ hj]; exact h, Le.refl t⟩
/-- An instruction is done. -/
def Done (m : Md) (f : Fn) (σ : States) (y : Nat) : Prop := ClosedAt m f σ y ∧ ∀ s, σ y = some s → asks m (f.code.getD y in0) s
theorem Done.put {m : Md} {f : Fn} {σ : States} {y k : Nat} {o : List Nat} (h : Done m f σ y) (hl : ∀ r, σ k = some r → r.length = o.length) (he : Vf.put σ k o y = σ y) : Done m f (Vf.put σ k o) y := by
  refine ⟨fun s hs => ?_, fun s hs => h.2 s (he ▸ hs)⟩
  obtain ⟨h1, h2⟩ := h.1 s (he ▸ hs)
  refine ⟨h1, fun n hn => ?_⟩
  obtain ⟨h3, t, ht, hle⟩ := h2 n hn
  obtain ⟨t', ht', hle'⟩ := put_up hl ht
  exact ⟨h3, t', ht', hle.trans hle'⟩
/-- What falls from round to round. -/
def ms (n : Nat) (σ : States) (xs : List Nat) : Nat := (n * 102201 - wt n σ) * (n + 2) + xs.length
/-- Inside a round: instruction i, its state s as it was taken, the ways that have been gone. -/
structure Rd (m : Md) (f : Fn) (n i M : Nat) (s : List Nat) (pre : List Nat) (σ : States) (xs : List Nat) : Prop where
  pg : Pg m f σ
  mem : ∀ y ∈ xs, y < n ∧ σ y ≠ none
  done : ∀ y, y < n → y ∉ xs → y ≠ i → Done m f σ y
  own : σ i = some s ∨ i ∈ xs
  tak : ∀ k ∈ pre, k < n ∧ ∃ t, σ k = some t ∧ Le (outOf m f (f.code.getD i in0) s) t
  fall : ms n σ xs < M
  len : xs.length ≤ n
  nod : xs.Nodup
/-- Between two rounds. -/
structure Hd (m : Md) (f : Fn) (n M : Nat) (σ : States) (xs : List Nat) : Prop where
  pg : Pg m f σ
  mem : ∀ y ∈ xs, y < n ∧ σ y ≠ none
  done : ∀ y, y < n → y ∉ xs → Done m f σ y
  fall : ms n σ xs ≤ M
  len : xs.length ≤ n
  nod : xs.Nodup
theorem Hd.least {m : Md} {f : Fn} {n M : Nat} {σ : States} (h : Hd m f n M σ []) (hn : f.code.length = n) : Least m f σ ∧ AskS m f σ :=
  ⟨⟨⟨h.pg.st, fun i hi => (h.done i (by omega) (by simp)).1⟩, h.pg.good, h.pg.le⟩, fun i s hi hs => (h.done i (by omega) (by simp)).2 s hs⟩
theorem nodup_len {n : Nat} : ∀ {xs : List Nat}, xs.Nodup → (∀ y ∈ xs, y < n) → xs.length ≤ n := by
  induction n with
  | zero =>
    intro xs _ h
    cases xs with
    | nil => simp
    | cons a r => exact absurd (h a (by simp)) (Nat.not_lt_zero a)
  | succ n ih =>
    intro xs hd h
    by_cases hm : n ∈ xs
    · have h1 := ih (xs := xs.erase n) (hd.erase n) (fun y hy => by
        have hne : y ≠ n := fun e => by rw [e] at hy; exact (List.Nodup.not_mem_erase hd) hy
        have := h y (List.mem_of_mem_erase hy)
        omega)
      rw [List.length_erase_of_mem hm] at h1
      omega
    · have h1 := ih hd (fun y hy => by
        have hne : y ≠ n := fun e => hm (e ▸ hy)
        have := h y hy
        omega)
      omega
/-- A round is over: all ways have been gone. -/
theorem Rd.over {m : Md} {f : Fn} {n i M : Nat} {s pre : List Nat} {σ : States} {xs : List Nat} (h : Rd m f n i M s pre σ xs) (hn : f.code.length = n) (hp : ∀ k ∈ nexts (f.code.getD i in0) i, k ∈ pre) (hf : fits m f (f.code.getD i in0) s) (ha : asks m (f.code.getD i in0) s) : ∃ M', M' < M ∧ Hd m f n M' σ xs := by
  refine ⟨ms n σ xs, h.fall, h.pg, h.mem, fun y hy hx => ?_, Nat.le_refl _, h.len, h.nod⟩
  by_cases hyi : y = i
  · subst hyi
    rcases h.own with ho | ho
    · refine ⟨fun s' hs' => ?_, fun s' hs' => ?_⟩
      · rw [ho] at hs'
        cases hs'
        refine ⟨hf, fun k hk => ?_⟩
        obtain ⟨h1, t, h2, h3⟩ := h.tak k (hp k hk)
        exact ⟨by omega, t, h2, h3⟩
      · rw [ho] at hs'
        cases hs'
        exact ha
    · exact absurd ho hx
  · exact h.done y hy hx hyi
/-- A round begins. -/
theorem Hd.begin_ {m : Md} {f : Fn} {n M x : Nat} {r : List Nat} {σ : States} (h : Hd m f n M σ (x :: r)) {s : List Nat} (hs : σ x = some s) : Rd m f n x M s [] σ r := by
  have hnd := List.nodup_cons.1 h.nod
  refine ⟨h.pg, fun y hy => h.mem y (List.mem_cons_of_mem _ hy), fun y hy hr hne => h.done y hy (by simp [hne, hr]), Or.inl hs, fun k hk => (by cases hk), ?_, by have := h.len; simp at this; omega, hnd.2⟩
  have := h.fall
  unfold ms at *
  simp at this
  omega
/-- A way is gone: nothing turns, or the state grows and its place is on the list. -/
theorem Rd.way {m : Md} {f : Fn} {n i M k : Nat} {s pre : List Nat} {σ : States} {xs xs' : List Nat} (h : Rd m f n i M s pre σ xs) (hn : f.code.length = n) (hi : i < n) (hg : GoodS s) (hst : ∀ τ, OkS m f τ → ∃ t, τ i = some t ∧ Le s t) (hf : fits m f (f.code.getD i in0) s) (hk : k < n) (hkn : k ∈ nexts (f.code.getD i in0) i)
    (hl : ∀ r, σ k = some r → r.length = (outOf m f (f.code.getD i in0) s).length)
    (hx : (xs' = xs ∧ ∃ r, σ k = some r ∧ joinL r (outOf m f (f.code.getD i in0) s) = r) ∨ (¬ (∃ r, σ k = some r ∧ joinL r (outOf m f (f.code.getD i in0) s) = r) ∧ (∀ y, y ∈ xs' ↔ y = k ∨ y ∈ xs) ∧ xs'.length ≤ xs.length + 1 ∧ xs'.Nodup)) : Rd m f n i M s (pre ++ [k]) (Vf.put σ k (outOf m f (f.code.getD i in0) s)) xs' := by
  have hpg := h.pg.put (by omega) hg hst hf (by omega) hkn hl
  have htak : ∀ k' ∈ pre ++ [k], k' < n ∧ ∃ t, Vf.put σ k (outOf m f (f.code.getD i in0) s) k' = some t ∧ Le (outOf m f (f.code.getD i in0) s) t := fun k' hk' => by
    rcases List.mem_append.1 hk' with hk' | hk'
    · obtain ⟨h1, t, h2, h3⟩ := h.tak k' hk'
      obtain ⟨t', h4, h5⟩ := put_up hl h2
      exact ⟨h1, t', h4, h3.trans h5⟩
    · obtain rfl := List.mem_singleton.1 hk'
      refine ⟨hk, _, put_same _ _ _, ?_⟩
      cases hr : σ k' with
      | none => exact Le.refl _
      | some r => exact joinL_r r _ (hl r hr)
  have hsome : ∀ y, σ y ≠ none → Vf.put σ k (outOf m f (f.code.getD i in0) s) y ≠ none := fun y hy => by
    obtain ⟨t, ht⟩ := Option.ne_none_iff_exists'.1 hy
    obtain ⟨t', h4, _⟩ := put_up (o := outOf m f (f.code.getD i in0) s) hl ht
    rw [h4]
    exact Option.some_ne_none _
  rcases hx with ⟨rfl, r, hr, hj⟩ | ⟨hno, hmem, hlen, hnd⟩
  · have hsame : ∀ y, Vf.put σ k (outOf m f (f.code.getD i in0) s) y = σ y := fun y => by
      by_cases hy : y = k
      · subst hy
        rw [put_same, hr]
        show some (joinL r _) = some r
        rw [hj]
      · exact put_other _ _ hy
    refine ⟨hpg, fun y hy => ⟨(h.mem y hy).1, hsome y (h.mem y hy).2⟩, fun y hy h1 h2 => (h.done y hy h1 h2).put hl (hsame y), by rw [hsame]; exact h.own, htak, ?_, h.len, h.nod⟩
    have : wt n (Vf.put σ k (outOf m f (f.code.getD i in0) s)) = wt n σ := wt_congr n (fun y _ => hsame y)
    have h0 := h.fall
    unfold ms at *
    rw [this]
    exact h0
  · refine ⟨hpg, fun y hy => ?_, fun y hy h1 h2 => ?_, ?_, htak, ?_, ?_, hnd⟩
    · rcases (hmem y).1 hy with rfl | hy
      · exact ⟨hk, by rw [put_same]; exact Option.some_ne_none _⟩
      · exact ⟨(h.mem y hy).1, hsome y (h.mem y hy).2⟩
    · have hyk : y ≠ k := fun e => h1 ((hmem y).2 (Or.inl e))
      exact (h.done y hy (fun e => h1 ((hmem y).2 (Or.inr e))) h2).put hl (put_other _ _ hyk)
    · by_cases hik : i = k
      · exact Or.inr ((hmem i).2 (Or.inl hik))
      · rcases h.own with ho | ho
        · exact Or.inl (by rw [put_other _ _ hik]; exact ho)
        · exact Or.inr ((hmem i).2 (Or.inr ho))
    · rcases put_wt (n := n) hk hl with h1 | ⟨_, r, h2, h3⟩
      · have hb := wt_bound n (Vf.put σ k (outOf m f (f.code.getD i in0) s)) (fun y t hy ht => hpg.good y t (by omega) ht)
        have h0 := h.fall
        unfold ms at *
        obtain ⟨d, hd⟩ : ∃ d, n * 102201 - wt n σ = (n * 102201 - wt n (Vf.put σ k (outOf m f (f.code.getD i in0) s))) + 1 + d := ⟨n * 102201 - wt n σ - (n * 102201 - wt n (Vf.put σ k (outOf m f (f.code.getD i in0) s))) - 1, by omega⟩
        rw [hd] at h0
        generalize n * 102201 - wt n (Vf.put σ k (outOf m f (f.code.getD i in0) s)) = e at h0 ⊢
        have e1 : (e + 1 + d) * (n + 2) = e * (n + 2) + (n + 2) + d * (n + 2) := by rw [Nat.add_mul, Nat.add_mul, Nat.one_mul]
        rw [e1] at h0
        have := Nat.zero_le (d * (n + 2))
        omega
      · exact absurd ⟨r, h2, h3⟩ hno
    · refine nodup_len hnd (fun y hy => ?_)
      rcases (hmem y).1 hy with rfl | hy
      · exact hk
      · exact (h.mem y hy).1
end Vf
end Go.Proofs.YtdjdhjciealfhaaGreatDoor
namespace Go.Proofs.YtdjdhjciealfhaaGreatDoor
open Go.RowKit Ch1
namespace Vf
set_option maxRecDepth 20000 in
set_option maxHeartbeats 4000000 in
/-- provenIn. -/
theorem provenIn_c (m : Md) (f : Fn) (x : In) (s : List Nat) (w : World) (hx : InsOk m f x) (htb : TbV w) (hg : GoodS s) (hsl : s.length ≤ 200) (hal : (allow m x).length ≤ s.length) :
    Calls Tryz.prog 49 #[.agg #[.int .i64 x.op, .int .i64 x.a, .int .i64 x.b], .agg (stL s).toArray] w fun e w' => e = .returned (.bool (provenB m x s)) ∧ Below w.heap.size w w' := by
  obtain ⟨A, hA⟩ : ∃ A, A = stL s := ⟨_, rfl⟩
  have hl1 : A.length = 202 := by rw [hA]; exact stG_len _ _ _
  obtain ⟨W, hW⟩ : ∃ W, W = (w.alloc (.cells #[.int .i64 x.op, .int .i64 x.a, .int .i64 x.b] 73)).alloc (.cells A.toArray 90) := ⟨_, rfl⟩
  have HBW : Hid (Below w.heap.size w W) := by unfold Hid; rw [hW]; exact below2 w _ _
  have HSB : Hid (Sb W (w.heap.size + 1) true s.length (fun i => s.getD i 0)) := by
    unfold Hid
    rw [hW, hA]
    have := Sb.new (w.alloc (.cells #[.int .i64 x.op, .int .i64 x.a, .int .i64 x.b] 73)) true s.length (fun i => s.getD i 0)
    rw [World.size_alloc] at this
    exact this
  rw [← hA]
  clear hA
  by_cases c14 : x.op = 14
  · obtain ⟨ka, hka⟩ := Int.eq_ofNat_of_zero_le (show 0 ≤ x.a by rcases hx.2.2 with h | h <;> omega)
    have hk : ka < 22 := by rcases hx.2.2 with h | h; omega; have h3 := h.2.2.2; simp [bnd, c14] at h3; omega
    have HPV : Hid (provenB m x s = true ↔ lastIn s.length (fun i => s.getD i 0) (pArgs ka).length (pArgs ka)) := by
      unfold Hid provenB
      rw [if_neg (by omega), if_pos c14, hka, Int.toNat_natCast, decide_eq_true_iff]
      exact Iff.rfl
    have HTV := mkD ((htb.below HBW.out).pri ka hk)
    have x1 := HTV.out.c1
    have x2 := HTV.out.c2
    have x3 := HTV.out.c3
    have hlt := htb.lt
    have HNZ := mkD (nz_prim hk)
    have hnl : (pArgs ka).length ≤ s.length := by rw [allow14 c14, hka, Int.toNat_natCast] at hal; exact hal
    obtain ⟨v1, hv1⟩ : ∃ v, v = (pArgs ka).getD 0 0 := ⟨_, rfl⟩
    obtain ⟨v2, hv2⟩ : ∃ v, v = (pArgs ka).getD 1 0 := ⟨_, rfl⟩
    obtain ⟨v3, hv3⟩ : ∃ v, v = (pArgs ka).getD 2 0 := ⟨_, rfl⟩
    rw [← hv1] at x1
    rw [← hv2] at x2
    rw [← hv3] at x3
    rw [← hv1, ← hv2, ← hv3] at HNZ
    have HLI := mkD (list_c v1 v2 v3 W)
    rw [HNZ.out] at HLI
    have HLW : Hid (∀ w1 p c, Below W.heap.size W w1 → Nk w1 p (pArgs ka).length c (pArgs ka) → Calls Tryz.prog 78 #[.pointer (some ⟨w.heap.size + 1, 0, none⟩), .slice p (pArgs ka).length c] w1 fun e w' => ∃ b, e = .returned (.bool b) ∧ (b = true ↔ lastIn s.length (fun i => s.getD i 0) (pArgs ka).length (pArgs ka)) ∧ w' = w1) := fun w1 p c hb hn => lastWithin_c (w.heap.size + 1) true s.length (fun i => s.getD i 0) p (pArgs ka).length c (pArgs ka) w1 (HSB.out.below hb) (fun i => hg.lt i) hn (fun i => pArgs_lt) hsl hnl
    have b14 : (x.op == 14) = true := by simp [c14]
    rw [hka] at hW ⊢
    rw [hW] at x1 x2 x3
    obtain ⟨L, hL⟩ : ∃ L, L = pArgs ka := ⟨_, rfl⟩
    rw [← hL] at HPV HLI HLW
    clear hx htb HTV hv1 hv2 hv3 HNZ hL hnl hal hsl hg c14 HSB hka
    go_enter Tryz.func49, Tryz.ntmps49
    go_wp2_with fail
    rw [← hW]
    refine HLI.out.mono ?_
    rintro e w1 ⟨u, rfl, ho, hb1⟩
    obtain ⟨pu, cu, hu⟩ := ho.form
    subst hu
    have HCA := mkD (HLW.out w1 pu cu hb1 ho.nk)
    have HB : Hid (Below w.heap.size w w1) := HBW.out.trans (hb1.mono HBW.out.size)
    clear ho hb1 x1 x2 x3 hW HLI HLW
    go_wp2_with fail
    refine HCA.out.mono ?_
    rintro e w2 ⟨b, rfl, hiff, hw2⟩
    have hw3 := hw2.symm
    clear hw2
    subst hw3
    have HE : Hid (b = provenB m x s) := by
      unfold Hid
      rw [Bool.eq_iff_iff, hiff]
      exact HPV.out.symm
    clear hiff HCA HPV
    go_wp2
    go_ret
    exact ⟨by rw [← HE.out]; rfl, HB.out⟩
  have b14 : (x.op == 14) = false := by simp [c14]
  by_cases c9 : x.op = 9 ∨ x.op = 10
  · obtain ⟨ka, hka⟩ := Int.eq_ofNat_of_zero_le (show 0 ≤ x.a by rcases hx.2.2 with h | h <;> omega)
    have hnl : 1 + ka ≤ s.length := by rw [allow9 c9, hka, Int.toNat_natCast] at hal; exact hal
    obtain ⟨d, hd⟩ : ∃ d, d = s.length - (1 + ka) := ⟨_, rfl⟩
    have hds : (s.length : Int) - 1 - (ka : Int) = (d : Int) := by omega
    have c1 := HSB.out.c1
    have s0 := HSB.out.slot (i := d) (by omega)
    obtain ⟨v, hv⟩ : ∃ v, v = s.getD d 0 := ⟨_, rfl⟩
    rw [← hv] at s0
    have HE : Hid (((v : Int) == 64) = provenB m x s) := by
      unfold Hid provenB
      rw [if_pos c9, allow9 c9, hka, Int.toNat_natCast, ← hd, ← hv]
      by_cases h : v = 64
      · subst h; rfl
      · have e1 : ((v : Int) == 64) = false := by simp; omega
        rw [e1]; simp [h]
    rw [hka] at hW ⊢
    rw [hW] at c1 s0
    have hd2 : d < 200 := by omega
    have hs1 : 1 ≤ s.length := by omega
    clear hx htb hal hg HSB hka hd hv
    obtain ⟨ln, hln⟩ : ∃ ln, ln = s.length := ⟨_, rfl⟩
    rw [← hln] at c1 hds hsl hnl hs1
    clear hln
    rcases c9 with h | h
    · have b9 : (x.op == 9) = true := by simp [h]
      clear h
      go_enter Tryz.func49, Tryz.ntmps49
      go_wp2
      rw [HE.out]
      go_ret
      exact ⟨rfl, by rw [← hW]; exact HBW.out⟩
    · have b9 : (x.op == 9) = false := by simp [h]
      have b10 : (x.op == 10) = true := by simp [h]
      clear h
      go_enter Tryz.func49, Tryz.ntmps49
      go_wp2
      rw [HE.out]
      go_ret
      exact ⟨rfl, by rw [← hW]; exact HBW.out⟩
  have b9 : (x.op == 9) = false := by simp; omega
  have b10 : (x.op == 10) = false := by simp; omega
  have HP := mkD (prov_no (m := m) (s := s) c9 c14)
  clear hx htb hal hg HSB c9 c14
  go_enter Tryz.func49, Tryz.ntmps49
  go_wp2
  go_ret
  exact ⟨by rw [HP.out]; rfl, by rw [← hW]; exact HBW.out⟩
end Vf
end Go.Proofs.YtdjdhjciealfhaaGreatDoor
