import Derived.Test.YtnnpfoilojicjaaGreatDoorJ3
import Derived.MapFrom
namespace Go.Proofs.YtnnpfoilojicjaaGreatDoor
open Go.RowKit Ch1
namespace Cp
structure Pv where
 b : Nat
 x : List Int
theorem str_inj {xs ys : List Int} (hx : Rg xs) (hy : Rg ys) (h : strOfNums xs = strOfNums ys) : xs = ys := by
 have := str_eqb hy hx
 rw [h] at this
 simp at this
 exact this
def MpS (w : World) (m : Nat) (l : List (List Int × Value)) : Prop := ∃ es clk, w.heap[m]? = some (.map es clk) ∧ es.toList.map (fun e => (e.key, e.val)) = l.map (fun p => (Value.string (strOfNums p.1), p.2))
def findS (l : List (List Int × Value)) (x : List Int) : Option Value := (l.find? (fun p => p.1 == x)).map (·.2)
theorem findNow_s {x : List Int} (hx : Rg x) : ∀ (es : List MapEntry) (l : List (List Int × Value)) (i : Nat), (∀ p ∈ l, Rg p.1) → es.map (fun e => (e.key, e.val)) = l.map (fun p => (Value.string (strOfNums p.1), p.2)) → ∃ r, Instr.findNow .string (.string (strOfNums x)) es i = some r ∧ r.map (·.2) = findS l x
 | [], l, i, _, h => by
  cases l with
  | nil => exact ⟨none, rfl, rfl⟩
  | cons p l => simp at h
 | e :: es, l, i, hr, h => by
  cases l with
  | nil => simp at h
  | cons p l =>
   simp only [List.map_cons, List.cons.injEq, Prod.mk.injEq] at h
   obtain ⟨⟨h1, h2⟩, h3⟩ := h
   unfold Instr.findNow
   rw [h1]
   simp only [Instr.sameNow]
   by_cases hp : p.1 = x
   ·have e1 : (strOfNums x == strOfNums p.1) = true := by rw [hp]; exact (MapKept.bytes_beq _ _).2 rfl
    rw [e1]
    refine ⟨some (i, e.val), rfl, ?_⟩
    unfold findS
    rw [List.find?_cons_of_pos (by simp [hp])]
    simp [h2]
   ·have e1 : (strOfNums x == strOfNums p.1) = false := by
     cases e : (strOfNums x == strOfNums p.1) with
     | false => rfl
     | true => exact absurd (str_inj hx (hr p (by simp)) ((MapKept.bytes_beq _ _).1 e)).symm hp
    rw [e1]
    obtain ⟨r, h4, h5⟩ := findNow_s hx es l (i + 1) (fun q hq => hr q (List.mem_cons_of_mem _ hq)) h3
    refine ⟨r, h4, ?_⟩
    rw [h5]
    unfold findS
    rw [List.find?_cons_of_neg (by simp [hp])]
theorem run_lookG {w : World} {m : Nat} {l : List (List Int × Value)} (h : MpS w m l) (hr : ∀ p ∈ l, Rg p.1) {x : List Int} (hx : Rg x) :
  (Instr.lookup 55 (.map (some m)) (.string (strOfNums x)) false).run Tryz.prog w = .ok ((findS l x).getD (.pointer none)) w := by
 obtain ⟨es, clk, h1, h2⟩ := h
 obtain ⟨r, h3, h4⟩ := findNow_s hx es.toList l 0 hr h2
 have hk : MapKept.IsKey .string (.string (strOfNums x)) := by first | exact trivial | simp [MapKept.IsKey]
 rw [← h4]
 cases r with
 | none => simp [Instr.lookup, run_underlying Tryz.underlying55, MapKept.run_getObj_map h1, MapKept.run_checkKey Tryz.underlying9 hk, MapKept.run_findKey Tryz.underlying9 h3, Result.andThen]
 | some p => simp [Instr.lookup, run_underlying Tryz.underlying55, MapKept.run_getObj_map h1, MapKept.run_checkKey Tryz.underlying9 hk, MapKept.run_findKey Tryz.underlying9 h3, Result.andThen]
theorem run_putG {w : World} {m : Nat} {l : List (List Int × Value)} (h : MpS w m l) (hr : ∀ p ∈ l, Rg p.1) {x : List Int} (hx : Rg x) (hn : findS l x = none) (v : Value) :
  ∃ w', (Instr.mapUpdate 55 (.map (some m)) (.string (strOfNums x)) v).run Tryz.prog w = .ok () w' ∧ MpS w' m (l ++ [(x, v)]) ∧ (∀ k, k ≠ m → w'.heap[k]? = w.heap[k]?) ∧ w'.heap.size = w.heap.size ∧ w'.os = w.os ∧ w'.tape = w.tape ∧ w'.output = w.output := by
 obtain ⟨es, clk, h1, h2⟩ := h
 obtain ⟨r, h3, h4⟩ := findNow_s hx es.toList l 0 hr h2
 have hk : MapKept.IsKey .string (.string (strOfNums x)) := by first | exact trivial | simp [MapKept.IsKey]
 rw [hn] at h4
 obtain rfl : r = none := by cases r with
  | none => rfl
  | some p => cases h4
 refine ⟨{ w with heap := w.heap.setIfInBounds m (.map (es.push ⟨.string (strOfNums x), v, clk⟩) (clk + 1)) }, ?_, ⟨_, _, (MapKept.heap_set h1).1, ?_⟩, fun k hk => (MapKept.heap_set h1).2 k hk, by simp, rfl, rfl, rfl⟩
 ·simp [Instr.mapUpdate, run_underlying Tryz.underlying55, MapKept.run_getObj_map h1, MapKept.run_checkKey Tryz.underlying9 hk, MapKept.run_findKey Tryz.underlying9 h3, MapKept.run_setObj_map _ h1, Result.andThen]
 ·simp [h2]
structure Sg where
 pb : Nat
 wm : Nat
 gm : Nat
 gls : List Pv
 scv : Value
 sc : List Pv
 lo : Nat
 ubv : Value
 ub : List (List Int)
 fmv : Value
 fmn : Nat
 fm : List Value
def pvC (l : List Pv) : List Value := l.map (fun v => Value.pointer (some ⟨v.b, 0, none⟩))
def stC (l : List (List Int)) : List Value := l.map (fun x => Value.string (strOfNums x))
def glM (l : List Pv) : List (List Int × Value) := l.map (fun v => (v.x, Value.pointer (some ⟨v.b, 0, none⟩)))
def mtV (pb : Nat) (f : FuncId) : Value := .func (.func f) #[.pointer (some ⟨pb, 0, none⟩)] #[]
def wordsM (pb : Nat) : List (List Int × Value) := [(wQuote, mtV pb 49), (wIf, mtV pb 50), (wLambda, mtV pb 51), (wLet, mtV pb 52), (wLetrec, mtV pb 53), (wSet, mtV pb 54), (wBegin, mtV pb 55), (wAnd, mtV pb 56), (wOr, mtV pb 57), (wDefine, mtV pb 58)]
def VrI (w : World) (v : Pv) : Prop := ∃ (n : Int) (g bx : Bool), w.heap[v.b]? = some (.cells #[.string (strOfNums v.x), .int .i64 n, .bool g, .bool bx] 175)
structure PgI (c : Cx) (N : Nat) (w : World) (s : Sg) : Prop where
 bel : Below c.w0.heap.size c.w0 w
 pb0 : c.w0.heap.size ≤ s.pb
 blk : w.heap[s.pb]? = some (.cells #[.map (some s.wm), .map (some s.gm), s.scv, .int .i64 (s.lo : Nat), s.ubv, s.fmv] 59)
 wor : MpS w s.wm (wordsM s.pb)
 glo : MpS w s.gm (glM s.gls)
 gm0 : c.w0.heap.size ≤ s.gm
 nd : (s.gls.map (·.x)).Nodup
 vrs : ∀ v ∈ s.gls ++ s.sc, VrI w v ∧ c.w0.heap.size ≤ v.b ∧ Rg v.x
 sco : w.ownsRow c.w0.heap.size 107 1 s.scv s.sc.length (pvC s.sc)
 ubo : w.ownsRow c.w0.heap.size 9 1 s.ubv s.ub.length (stC s.ub)
 ubr : ∀ x ∈ s.ub, Rg x
 fmo : w.ownsRow c.w0.heap.size 111 2 s.fmv s.fmn s.fm
 len : s.gls.length ≤ 3000 ∧ s.sc.length ≤ N ∧ s.ub.length ≤ N ∧ s.fmn ≤ 3000 ∧ s.lo ≤ N
def Fq (s : Sg) (k : Nat) : Prop := k = s.pb ∨ k = s.gm ∨ s.scv.ownBlock = some k ∨ s.ubv.ownBlock = some k ∨ s.fmv.ownBlock = some k ∨ ∃ v ∈ s.gls ++ s.sc, k = v.b
structure FrP (s s' : Sg) (w w' : World) : Prop where
 size : w.heap.size ≤ w'.heap.size
 keep : ∀ k, k < w.heap.size → ¬ Fq s k → w'.heap[k]? = w.heap[k]?
 foot : ∀ k, Fq s' k → Fq s k ∨ w.heap.size ≤ k
theorem FrP.refl (s : Sg) (w : World) : FrP s s w w := ⟨Nat.le_refl _, fun _ _ _ => rfl, fun _ h => Or.inl h⟩
theorem FrP.trans {s1 s2 s3 : Sg} {w1 w2 w3 : World} (h : FrP s1 s2 w1 w2) (k : FrP s2 s3 w2 w3) : FrP s1 s3 w1 w3 :=
 ⟨Nat.le_trans h.size k.size, fun i hi hn => (k.keep i (Nat.lt_of_lt_of_le hi h.size) (fun hf => by
   rcases h.foot i hf with h1 | h1
   ·exact hn h1
   ·omega)).trans (h.keep i hi hn), fun i hi => by
  rcases k.foot i hi with h1 | h1
  ·exact h.foot i h1
  ·exact Or.inr (Nat.le_trans h.size h1)⟩
theorem PgI.mono {c : Cx} {N N' : Nat} {w : World} {s : Sg} (h : PgI c N w s) (hN : N ≤ N') : PgI c N' w s :=
 ⟨h.bel, h.pb0, h.blk, h.wor, h.glo, h.gm0, h.nd, h.vrs, h.sco, h.ubo, h.ubr, h.fmo, ⟨h.len.1, Nat.le_trans h.len.2.1 hN, Nat.le_trans h.len.2.2.1 hN, h.len.2.2.2.1, Nat.le_trans h.len.2.2.2.2 hN⟩⟩
theorem PgI.fq_lt {c : Cx} {N : Nat} {w : World} {s : Sg} (h : PgI c N w s) {k : Nat} (hk : Fq s k) : k < w.heap.size ∧ c.w0.heap.size ≤ k := by
 rcases hk with rfl | rfl | hk | hk | hk | ⟨v, hv, rfl⟩
 ·exact ⟨(Array.getElem?_eq_some_iff.1 h.blk).1, h.pb0⟩
 ·obtain ⟨es, clk, h1, _⟩ := h.glo
  exact ⟨(Array.getElem?_eq_some_iff.1 h1).1, h.gm0⟩
 ·exact ⟨(owns_lt h.sco k hk).1, owns_ge h.sco k hk⟩
 ·exact ⟨(owns_lt h.ubo k hk).1, owns_ge h.ubo k hk⟩
 ·exact ⟨(owns_lt h.fmo k hk).1, owns_ge h.fmo k hk⟩
 ·obtain ⟨⟨n, g, bx, h1⟩, h2, _⟩ := h.vrs v hv
  exact ⟨(Array.getElem?_eq_some_iff.1 h1).1, h2⟩
theorem PgI.below {c : Cx} {N : Nat} {w w' : World} {s : Sg} (h : PgI c N w s) (hb : Below w.heap.size w w') : PgI c N w' s ∧ FrP s s w w' := by
 have kp : ∀ {k : Nat} {o : Obj}, w.heap[k]? = some o → w'.heap[k]? = some o := fun hk => (hb.block _ (Array.getElem?_eq_some_iff.1 hk).1).trans hk
 refine ⟨⟨h.bel.trans (hb.mono h.bel.size), h.pb0, kp h.blk, ?_, ?_, h.gm0, h.nd, fun v hv => ⟨?_, (h.vrs v hv).2⟩, owns_below h.sco hb, owns_below h.ubo hb, h.ubr, owns_below h.fmo hb, h.len⟩, ⟨hb.size, fun k hk _ => hb.block k hk, fun _ h => Or.inl h⟩⟩
 ·obtain ⟨es, clk, h1, h2⟩ := h.wor
  exact ⟨es, clk, kp h1, h2⟩
 ·obtain ⟨es, clk, h1, h2⟩ := h.glo
  exact ⟨es, clk, kp h1, h2⟩
 ·obtain ⟨n, g, bx, h1⟩ := (h.vrs v hv).1
  exact ⟨n, g, bx, kp h1⟩
theorem Pt.frp {c : Cx} {db dof k N : Nat} {S : Nat → Prop} {w w' : World} {s s' : Sg} {e : Pe} (h : Pt c db dof S w k e) (hi : PgI c N w s) (hf : FrP s s' w w') : Pt c db dof S w' k e := by
 refine Pt.of (fun _ h _ => h) (fun j cur _ hj => hf.keep j (Array.getElem?_eq_some_iff.1 hj).1 (fun hq => ?_)) k e h
 have row : ∀ {n size : Nat} {t : TypeId} {v : Value} {xs : List Value}, w.ownsRow c.w0.heap.size t size v n xs → v.ownBlock = some j → t ≠ 102 → False := fun ho hk ht => by
  obtain ⟨_, cur2, h2⟩ := owns_lt ho j hk
  rw [hj] at h2
  cases h2
  exact ht rfl
 rcases hq with rfl | rfl | hk | hk | hk | ⟨v, hv, rfl⟩
 ·have := hi.blk
  rw [hj] at this
  cases this
 ·obtain ⟨es, clk, h1, _⟩ := hi.glo
  rw [hj] at h1
  cases h1
 ·exact row hi.sco hk (by decide)
 ·exact row hi.ubo hk (by decide)
 ·exact row hi.fmo hk (by decide)
 ·obtain ⟨⟨n, g, bx, h1⟩, _⟩ := hi.vrs v hv
  rw [hj] at h1
  cases h1
theorem cells6 {w : World} {k : Nat} {a0 a1 a2 a3 a4 a5 : Value} {t : TypeId} (e : w.heap[k]? = some (.cells #[a0, a1, a2, a3, a4, a5] t)) :
  w.cell? ⟨k, 0, none⟩ = some a0 ∧ w.cell? ⟨k, 1, none⟩ = some a1 ∧ w.cell? ⟨k, 2, none⟩ = some a2 ∧ w.cell? ⟨k, 3, none⟩ = some a3 ∧ w.cell? ⟨k, 4, none⟩ = some a4 ∧ w.cell? ⟨k, 5, none⟩ = some a5 ∧ ∀ o, w.frozen? ⟨k, o, none⟩ = false := by
 refine ⟨?_, ?_, ?_, ?_, ?_, ?_, fun o => ?_⟩ <;> simp [World.cell?, World.frozen?, e]
theorem set_pg {w : World} {k : Nat} {a0 a1 a2 a3 a4 a5 : Value} {t : TypeId} (e : w.heap[k]? = some (.cells #[a0, a1, a2, a3, a4, a5] t)) (v : Value) :
  (w.setCell ⟨k, 2, none⟩ v).heap[k]? = some (.cells #[a0, a1, v, a3, a4, a5] t) ∧ (w.setCell ⟨k, 3, none⟩ v).heap[k]? = some (.cells #[a0, a1, a2, v, a4, a5] t) ∧ (w.setCell ⟨k, 4, none⟩ v).heap[k]? = some (.cells #[a0, a1, a2, a3, v, a5] t) ∧ (w.setCell ⟨k, 5, none⟩ v).heap[k]? = some (.cells #[a0, a1, a2, a3, a4, v] t) := by
 refine ⟨?_, ?_, ?_, ?_⟩ <;> simp [World.setCell, Array.getElem?_modify, e]
theorem PgI.addUb {c : Cx} {N : Nat} {w w1 : World} {s : Sg} (h : PgI c N w s) {v' : Value} {x : List Int} (hx : Rg x) (ho : w1.ownsRow c.w0.heap.size 9 1 v' (s.ub.length + 1) (stC s.ub ++ [.string (strOfNums x)])) (hb : Below c.w0.heap.size w w1) (hbt : But w w1 s.ubv) (hl : ∀ k, v'.ownBlock = some k → s.ubv.ownBlock = some k ∨ w.heap.size ≤ k) :
  PgI c (N + 1) (w1.setCell ⟨s.pb, 4, none⟩ v') { s with ubv := v', ub := s.ub ++ [x] } ∧ FrP s { s with ubv := v', ub := s.ub ++ [x] } w (w1.setCell ⟨s.pb, 4, none⟩ v') := by
 have hab := (Array.getElem?_eq_some_iff.1 h.blk).1
 have hab1 : w1.heap[s.pb]? = some _ := (hbt _ hab (owns_ne h.ubo h.blk (by decide))).trans h.blk
 have hch : ∀ k, k < w.heap.size → k ≠ s.pb → s.ubv.ownBlock ≠ some k → (w1.setCell ⟨s.pb, 4, none⟩ v').heap[k]? = w.heap[k]? := fun k hk h1 h2 => (set_keep v' h1).trans (hbt k hk (fun e => h2 e.symm))
 have hob : ∀ {k : Nat} {o : Obj}, w.heap[k]? = some o → (∀ a, o ≠ .cells a 59) → (∀ a, o ≠ .cells a 9) → (w1.setCell ⟨s.pb, 4, none⟩ v').heap[k]? = some o := fun {k o} hk h1 h2 => by
  refine (hch k (Array.getElem?_eq_some_iff.1 hk).1 (fun e => ?_) (fun e => ?_)).trans hk
  ·rw [e, h.blk] at hk
   exact h1 _ (Option.some.inj hk).symm
  ·obtain ⟨_, cur, hc⟩ := owns_lt h.ubo k e
   rw [hc] at hk
   exact h2 _ (Option.some.inj hk).symm
 have row : ∀ {n size : Nat} {e : TypeId} {v : Value} {xs : List Value}, w.ownsRow c.w0.heap.size e size v n xs → e ≠ 9 → e ≠ 59 → (w1.setCell ⟨s.pb, 4, none⟩ v').ownsRow c.w0.heap.size e size v n xs := fun hr h9 hp => owns_of_heap hr (fun j hj => by
  obtain ⟨_, cur, hc⟩ := owns_lt hr j hj
  rw [hc]
  exact hob hc (fun a e => by cases e; exact hp rfl) (fun a e => by cases e; exact h9 rfl))
 refine ⟨⟨h.bel.trans (Below.setCell hb (p := ⟨s.pb, 4, none⟩) h.pb0 v'), h.pb0, (set_pg hab1 v').2.2.1, ?_, ?_, h.gm0, h.nd, fun v hv => ⟨?_, (h.vrs v hv).2⟩, row h.sco (by decide) (by decide), ?_, ?_, row h.fmo (by decide) (by decide), ?_⟩, ⟨?_, ?_, ?_⟩⟩
 ·obtain ⟨es, clk, h1, h2⟩ := h.wor
  exact ⟨es, clk, hob h1 (fun a e => by cases e) (fun a e => by cases e), h2⟩
 ·obtain ⟨es, clk, h1, h2⟩ := h.glo
  exact ⟨es, clk, hob h1 (fun a e => by cases e) (fun a e => by cases e), h2⟩
 ·obtain ⟨n, g, bx, h1⟩ := (h.vrs v hv).1
  exact ⟨n, g, bx, hob h1 (fun a e => by cases e) (fun a e => by cases e)⟩
 ·show World.ownsRow _ _ _ _ v' (s.ub ++ [x]).length (stC (s.ub ++ [x]))
  rw [List.length_append]
  unfold stC at ho ⊢
  rw [List.map_append]
  exact owns_set ho hab1 (by decide) v'
 ·intro y hy
  rcases List.mem_append.1 hy with hy | hy
  ·exact h.ubr y hy
  ·rw [List.mem_singleton.1 hy]; exact hx
 ·have h1 := (h.mono (Nat.le_succ N)).len
  exact ⟨h1.1, h1.2.1, by show (s.ub ++ [x]).length ≤ N + 1; rw [List.length_append]; have := h.len.2.2.1; simp; omega, h1.2.2.2.1, h1.2.2.2.2⟩
 ·rw [set_size]; exact hb.size
 ·intro k hk hn
  exact hch k hk (fun e => hn (Or.inl e)) (fun e => hn (Or.inr (Or.inr (Or.inr (Or.inl e)))))
 ·intro k hk
  rcases hk with hk | hk | hk | hk | hk | hk
  ·exact Or.inl (Or.inl hk)
  ·exact Or.inl (Or.inr (Or.inl hk))
  ·exact Or.inl (Or.inr (Or.inr (Or.inl hk)))
  ·rcases hl k hk with h1 | h1
   ·exact Or.inl (Or.inr (Or.inr (Or.inr (Or.inl h1))))
   ·exact Or.inr h1
  ·exact Or.inl (Or.inr (Or.inr (Or.inr (Or.inr (Or.inl hk)))))
  ·exact Or.inl (Or.inr (Or.inr (Or.inr (Or.inr (Or.inr hk)))))
end Cp
end Go.Proofs.YtnnpfoilojicjaaGreatDoor
