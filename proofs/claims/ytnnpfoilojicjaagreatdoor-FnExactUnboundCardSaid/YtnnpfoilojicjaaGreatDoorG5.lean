import Derived.Test.YtnnpfoilojicjaaGreatDoorX5
import Derived.Test.YtnnpfoilojicjaaGreatDoorG0
import Derived.Maps.AppendAt
import Derived.Deep.LoopGhost
import Derived.Deep.AppendLies
import Derived.Deep.Cut
import Derived.Deep.CutRange
import Derived.Deep.CutBlock
import Derived.BigRegion
import Derived.Deep.RegionHeld
namespace Go.Proofs.YtnnpfoilojicjaaGreatDoor
open Go.RowKit Ch1
namespace Cp
theorem mkC {p : Prop} (h : p) : Hid p := h
def But (w w' : World) (v : Value) : Prop := ∀ k, k < w.heap.size → some k ≠ v.ownBlock → w'.heap[k]? = w.heap[k]?
theorem owns_ge {w : World} {B n size : Nat} {e : TypeId} {v : Value} {xs : List Value} (h : w.ownsRow B e size v n xs) : ∀ k, v.ownBlock = some k → B ≤ k := by
 obtain ⟨_, ⟨rfl, _⟩ | ⟨g, cap, cur, rfl, hg, _⟩⟩ := h
 ·intro k hk; cases hk
 ·intro k hk; cases hk; exact hg
theorem owns_lt {w : World} {B n size : Nat} {e : TypeId} {v : Value} {xs : List Value} (h : w.ownsRow B e size v n xs) : ∀ k, v.ownBlock = some k → k < w.heap.size ∧ ∃ cur, w.heap[k]? = some (.cells cur e) := by
 obtain ⟨_, ⟨rfl, _⟩ | ⟨g, cap, cur, rfl, hg, hh, _⟩⟩ := h
 ·intro k hk; cases hk
 ·intro k hk; cases hk; exact ⟨(Array.getElem?_eq_some_iff.1 hh).1, cur, hh⟩
theorem owns_ne {w : World} {B n size : Nat} {e : TypeId} {v : Value} {xs : List Value} {fb : Nat} {a : Array Value} {t : TypeId} (h : w.ownsRow B e size v n xs) (hf : w.heap[fb]? = some (.cells a t)) (ht : t ≠ e) : some fb ≠ v.ownBlock := by
 intro e'
 obtain ⟨_, cur, hc⟩ := owns_lt h fb e'.symm
 rw [hc] at hf
 cases hf
 exact ht rfl
theorem owns_of_heap {w w' : World} {B n size : Nat} {e : TypeId} {v : Value} {xs : List Value} (h : w.ownsRow B e size v n xs) (hk : ∀ k, v.ownBlock = some k → w'.heap[k]? = w.heap[k]?) : w'.ownsRow B e size v n xs := by
 obtain ⟨h1, h2 | ⟨g, cap, cur, rfl, hg, hh, r⟩⟩ := h
 ·exact ⟨h1, Or.inl h2⟩
 ·exact ⟨h1, Or.inr ⟨g, cap, cur, rfl, hg, by rw [hk g rfl]; exact hh, r⟩⟩
theorem owns_form {w : World} {B n size : Nat} {e : TypeId} {v : Value} {xs : List Value} (h : w.ownsRow B e size v n xs) : ∃ p c, v = .slice p n c := by
 obtain ⟨_, ⟨rfl, h0⟩ | ⟨g, cap, cur, rfl, _⟩⟩ := h
 ·exact ⟨none, 0, by rw [h0]⟩
 ·exact ⟨_, cap, rfl⟩
theorem owns_cells {w : World} {B n size c : Nat} {e : TypeId} {p : Option Addr} {xs : List Value} (h : w.ownsRow B e size (.slice p n c) n xs) : n ≤ c ∧ c ≤ maxLen ∧ (0 < n → ∃ g, p = some ⟨g, 0, none⟩ ∧ g < w.heap.size ∧ B ≤ g ∧ (∃ cur, w.heap[g]? = some (.cells cur e)) ∧ ∀ k, k < n * size → w.cell? ⟨g, k, none⟩ = xs[k]?) := by
 obtain ⟨_, ⟨hv, h0⟩ | ⟨g, cap, cur, hv, hg, hh, h1, h2, h3, h4⟩⟩ := h
 ·cases hv
  exact ⟨Nat.le_refl _, by unfold maxLen; omega, fun h => absurd h (Nat.lt_irrefl 0)⟩
 ·cases hv
  refine ⟨h1, h2, fun _ => ⟨g, rfl, (Array.getElem?_eq_some_iff.1 hh).1, hg, ⟨cur, hh⟩, fun k hk => ?_⟩⟩
  have e : (List.take (n * size) cur.toList)[k]? = xs[k]? := by rw [h4]
  rw [List.getElem?_take, if_pos hk] at e
  rw [← e]
  simp [World.cell?, hh]
theorem owns_below {w w' : World} {B n size : Nat} {e : TypeId} {v : Value} {xs : List Value} (h : w.ownsRow B e size v n xs) (hb : Below w.heap.size w w') : w'.ownsRow B e size v n xs :=
 owns_of_heap h (fun k hk => hb.block k (owns_lt h k hk).1)
theorem cell_keepC {w w1 : World} {b o : Nat} {v : Value} (hb : Below w.heap.size w w1) (hlt : b < w.heap.size) (h : w.cell? ⟨b, o, none⟩ = some v) : w1.cell? ⟨b, o, none⟩ = some v := by rw [hb.cell (p := ⟨b, o, none⟩) hlt]; exact h
theorem appW_at (w : World) {ops : Array Oper} {rest : List Oper} {o : Oper} {a : Act} {Q : Exit → Act → World → Prop} (hgd : o.guard = none) (s x : Operand) (t e : TypeId)
  (ho : o.op = .call { callee := .builtin .append, args := #[s, x], argTypes := #[t, t] }) (z : Value) (size bytes : Nat) (ht : Tryz.prog.underlying t = some (.slice e)) (hi : (Tryz.prog.info? e).map (fun i => (i.zero, i.size, i.bytes)) = some (some z, size, bytes)) (hzs : z.cells.size = size) (hsz : 0 < size)
  (B : Nat) (v : Value) (n : Nat) (xs : List Value) (hs : a.eval s = v) (hown : w.ownsRow B e size v n xs) (arr : Array Value) (harr : arr.size = size) (h1 : ∀ u ∈ arr.toList, u.oneCell' = true) (hx : a.eval x = .slice (some ⟨w.heap.size, 0, none⟩) 1 1)
  (hlen : n + 1 ≤ maxLen) (hby : (n + 1) * bytes ≤ 140737488355328) (hB : B ≤ w.heap.size)
  (h : ∀ v' w', w'.ownsRow B e size v' (n + 1) (xs ++ arr.toList) → Below B w w' → But w w' v → (∀ k, v'.ownBlock = some k → v.ownBlock = some k ∨ w.heap.size ≤ k) → w.heap.size ≤ w'.heap.size → wpList Tryz.prog ops Q rest (a.put o.dst v') w') : wpList Tryz.prog ops Q (o :: rest) a (w.alloc (.cells arr e)) := by
 obtain ⟨i, hi', hpr⟩ := Option.map_eq_some_iff.1 hi
 simp only [Prod.mk.injEq] at hpr
 have hnew : (w.alloc (.cells arr e)).heap[w.heap.size]? = some (.cells arr e) := Go.Deep.blk_alloc_new _ _
 refine wpList_append_own_at _ hgd s x t ho B e i z size bytes ht hi' hpr.1 hpr.2.1 hpr.2.2 hzs hsz v n xs hs (owns_below hown (below1 _ _)) ⟨w.heap.size, 0, none⟩ 1 1 arr.toList hx (by rw [Array.length_toList, harr]; omega) (fun j u hu => World.news_of_block hnew j u hu) h1 hlen hby (Nat.le_trans hB (below1 _ _).size) ?_
 intro v' w' k1 k2 _ k4
 have hbel : Below B w w' := ((below1 _ _).mono hB).trans ((Below.refl _ _).grown k2 (Nat.le_trans hB (below1 _ _).size) (owns_ge hown))
 refine h v' w' k1 hbel (fun k hk hne => (k2.block k (by simp; omega) hne).trans ((below1 w _).block k hk)) (fun k hk => ?_) hbel.size
 rcases k4 with h5 | h5
 ·exact Or.inl (by rw [← h5]; exact hk)
 ·rw [h5] at hk
  cases hk
  exact Or.inr (by simp)
def Apt (u v : Value) : Prop := ∀ k, u.ownBlock = some k → v.ownBlock ≠ some k
theorem Apt.symm {u v : Value} (h : Apt u v) : Apt v u := fun k hk hu => h k hu hk
theorem apt_ty {w : World} {B B2 n m size size2 : Nat} {e e2 : TypeId} {v u : Value} {xs ys : List Value} (h : w.ownsRow B e size v n xs) (g : w.ownsRow B2 e2 size2 u m ys) (hne : e ≠ e2) : Apt v u := fun k hk hu => by
 obtain ⟨_, c1, h1⟩ := owns_lt h k hk
 obtain ⟨_, c2, h2⟩ := owns_lt g k hu
 rw [h1] at h2
 cases h2
 exact hne rfl
theorem owns_but {w w' : World} {B n size : Nat} {e : TypeId} {v u : Value} {xs : List Value} (h : w.ownsRow B e size v n xs) (ha : Apt v u) (hb : But w w' u) : w'.ownsRow B e size v n xs :=
 owns_of_heap h (fun k hk => hb k (owns_lt h k hk).1 (fun e => ha k hk e.symm))
theorem owns_set {w : World} {B n size fb j : Nat} {e t : TypeId} {v : Value} {xs : List Value} {a : Array Value} (h : w.ownsRow B e size v n xs) (hf : w.heap[fb]? = some (.cells a t)) (ht : t ≠ e) (x : Value) : (w.setCell ⟨fb, j, none⟩ x).ownsRow B e size v n xs :=
 owns_of_heap h (fun k hk => Below.heap_setCell _ _ _ k (fun e => owns_ne h hf ht (by rw [hk]; exact congrArg some e.symm)))
theorem set_size (w : World) (a : Addr) (x : Value) : (w.setCell a x).heap.size = w.heap.size := by simp [World.setCell]
structure Nm where
 p : Option Addr
 n : Nat
 c : Nat
 x : List Int
structure Vr where
 m : Nm
 slot : Int
 bound : Nat
structure Fn5 where
 b : Nat
 vv : Value
 vs : List Vr
 fv : Value
 fs : List Nat
 pa : Int
 cv : Value
 cs : List Value
 cn : Nat
 sl : Int
structure Cx where
 w0 : World
 dp : Option Addr
 dn : Nat
 dc : Nat
 ds : List Dt
structure St where
 ab : Nat
 glv : Value
 gl : List Nm
 bxv : Value
 bx : List Bool
 bo : Nat
 opv : Value
 lo : List Fn5
 tp : Fn5
 csv : Value
 cs : List (Value × List (Dt × Value))
 fnv : Value
 fx : List Value
 nf : Nat
 bad : Bool
 ubv : Value
 ub : List Nm
def nmV (m : Nm) : Value := .slice m.p m.n m.c
def vrC (vs : List Vr) : List Value := vs.flatMap (fun v => [nmV v.m, .int .i64 v.slot, .int .i64 (v.bound : Nat)])
def nmC (l : List Nm) : List Value := l.map nmV
def inC (l : List Nat) : List Value := l.map (fun k : Nat => Value.int .i64 (k : Int))
def fnC (l : List Fn5) : List Value := l.map (fun f => Value.pointer (some ⟨f.b, 0, none⟩))
def dtC (l : List (Dt × Value)) : List Value := l.flatMap (fun x => [.int .i64 x.1.kind, .int .i64 x.1.n, x.2, .int .i64 x.1.count])
def NmI (c : Cx) (m : Nm) : Prop := By c.w0 m.p m.n m.c m.x ∧ 1 ≤ m.n ∧ m.n ≤ 100
def OwT (w : World) (B : Nat) (v : Value) (xs : List Int) : Prop := w.ownsRow B 5 1 v xs.length (xs.map (fun x => Value.int .u8 x))
structure CsI (c : Cx) (w : World) (k : Value × List (Dt × Value)) : Prop where
 row : w.ownsRow c.w0.heap.size 47 4 k.1 k.2.length (dtC k.2)
 txt : ∀ x ∈ k.2, OwT w c.w0.heap.size x.2 x.1.text ∧ (∀ i, 0 ≤ x.1.text.getD i 0 ∧ x.1.text.getD i 0 < 256) ∧ x.1.text.length ≤ 100 ∧ -9223372036854775808 ≤ x.1.count ∧ x.1.count ≤ 9223372036854775807
 len : k.2.length ≤ 3000
structure FnI (c : Cx) (w : World) (f : Fn5) : Prop where
 blk : w.heap[f.b]? = some (.cells #[f.vv, f.fv, .int .i64 f.pa, f.cv, .int .i64 f.sl] 86)
 b0 : c.w0.heap.size ≤ f.b
 vars : w.ownsRow c.w0.heap.size 193 3 f.vv f.vs.length (vrC f.vs)
 free : w.ownsRow c.w0.heap.size 3 1 f.fv f.fs.length (inC f.fs)
 code : w.ownsRow c.w0.heap.size 168 3 f.cv f.cn f.cs
 clen : f.cs.length = f.cn * 3
 nms : ∀ v ∈ f.vs, NmI c v.m
def ApF (f g : Fn5) : Prop := f.b ≠ g.b ∧ Apt f.vv g.vv ∧ Apt f.fv g.fv ∧ Apt f.cv g.cv
theorem ApF.symm {f g : Fn5} (h : ApF f g) : ApF g f := ⟨fun e => h.1 e.symm, h.2.1.symm, h.2.2.1.symm, h.2.2.2.symm⟩
structure FnW (L N : Nat) (f : Fn5) : Prop where
 vb : ∀ v ∈ f.vs, v.bound < L
 fb : ∀ x ∈ f.fs, x < L
 nd : f.fs.Nodup
 cn : f.cn ≤ N
 vn : f.vs.length ≤ N
def St.all (st : St) : List Fn5 := st.lo ++ [st.tp]
structure Inv (c : Cx) (N : Nat) (w : World) (st : St) : Prop where
 bel : Below c.w0.heap.size c.w0 w
 dat : Da c.w0 c.dp c.dn c.dc c.ds
 dn : c.dn ≤ 3000
 ab0 : c.w0.heap.size ≤ st.ab
 blk : w.heap[st.ab]? = some (.cells #[.slice c.dp c.dn c.dc, st.glv, st.bxv, .slice none 0 0, .int .i64 (st.bo : Nat), st.opv, st.csv, st.fnv, .bool st.bad, st.ubv] 45)
 gl : w.ownsRow c.w0.heap.size 34 1 st.glv st.gl.length (nmC st.gl)
 gln : ∀ m ∈ st.gl, NmI c m
 ub : w.ownsRow c.w0.heap.size 34 1 st.ubv st.ub.length (nmC st.ub)
 ubn : ∀ m ∈ st.ub, NmI c m
 gu : Apt st.glv st.ubv
 bx : w.ownsRow c.w0.heap.size 4 1 st.bxv st.bx.length (st.bx.map Value.bool)
 op : w.ownsRow c.w0.heap.size 82 1 st.opv st.all.length (fnC st.all)
 fns : ∀ f ∈ st.all, FnI c w f
 apt : st.all.Pairwise ApF
 cs : w.ownsRow c.w0.heap.size 26 1 st.csv st.cs.length (st.cs.map Prod.fst)
 csi : ∀ k ∈ st.cs, CsI c w k
 fn : w.ownsRow c.w0.heap.size 88 3 st.fnv st.nf st.fx
 fxl : st.fx.length = st.nf * 3
 b1 : st.bo ≤ st.bx.length
 b2 : st.bx.length ≤ 3000
 fnw : ∀ f ∈ st.all, FnW st.bx.length N f
 len : st.all.length ≤ N ∧ st.cs.length ≤ N ∧ st.nf ≤ N ∧ st.ub.length ≤ N ∧ st.gl.length ≤ 3000
def Fp (st : St) (k : Nat) : Prop := k = st.ab ∨ (∃ f ∈ st.all, k = f.b ∨ f.vv.ownBlock = some k ∨ f.fv.ownBlock = some k ∨ f.cv.ownBlock = some k) ∨ st.bxv.ownBlock = some k ∨ st.opv.ownBlock = some k ∨ st.csv.ownBlock = some k ∨ st.fnv.ownBlock = some k ∨ st.ubv.ownBlock = some k
structure Fr (st st' : St) (w w' : World) : Prop where
 size : w.heap.size ≤ w'.heap.size
 keep : ∀ k, k < w.heap.size → ¬ Fp st k → w'.heap[k]? = w.heap[k]?
 foot : ∀ k, Fp st' k → Fp st k ∨ w.heap.size ≤ k
theorem Fr.refl (st : St) (w : World) : Fr st st w w := ⟨Nat.le_refl _, fun _ _ _ => rfl, fun _ h => Or.inl h⟩
theorem Fr.trans {s1 s2 s3 : St} {w1 w2 w3 : World} (h : Fr s1 s2 w1 w2) (k : Fr s2 s3 w2 w3) : Fr s1 s3 w1 w3 :=
 ⟨Nat.le_trans h.size k.size, fun i hi hn => (k.keep i (Nat.lt_of_lt_of_le hi h.size) (fun hf => by
   rcases h.foot i hf with h1 | h1
   ·exact hn h1
   ·omega)).trans (h.keep i hi hn), fun i hi => by
  rcases k.foot i hi with h1 | h1
  ·exact h.foot i h1
  ·exact Or.inr (Nat.le_trans h.size h1)⟩
def Ex (st : St) (v : Value) : Prop := ∀ k, v.ownBlock = some k → ¬ Fp st k
theorem Ex.keep {st st' : St} {w w' : World} {B n size : Nat} {e : TypeId} {v : Value} {xs : List Value} (h : w.ownsRow B e size v n xs) (hx : Ex st v) (hf : Fr st st' w w') : w'.ownsRow B e size v n xs ∧ Ex st' v :=
 ⟨owns_of_heap h (fun k hk => hf.keep k (owns_lt h k hk).1 (hx k hk)), fun k hk hp => by
  rcases hf.foot k hp with h1 | h1
  ·exact hx k hk h1
  ·have := (owns_lt h k hk).1; omega⟩
theorem Inv.fp_lt {c : Cx} {N : Nat} {w : World} {st : St} (h : Inv c N w st) {k : Nat} (hk : Fp st k) : k < w.heap.size ∧ c.w0.heap.size ≤ k ∧ ∃ a t, w.heap[k]? = some (.cells a t) ∧ t ≠ 5 ∧ t ≠ 47 := by
 have row : ∀ {n size : Nat} {e : TypeId} {v : Value} {xs : List Value}, w.ownsRow c.w0.heap.size e size v n xs → v.ownBlock = some k → e ≠ 5 → e ≠ 47 → k < w.heap.size ∧ c.w0.heap.size ≤ k ∧ ∃ a t, w.heap[k]? = some (.cells a t) ∧ t ≠ 5 ∧ t ≠ 47 := fun ho hk h5 hD => by
  obtain ⟨h1, cur, h2⟩ := owns_lt ho k hk
  exact ⟨h1, owns_ge ho k hk, cur, _, h2, h5, hD⟩
 rcases hk with rfl | ⟨f, hf, hh⟩ | hh | hh | hh | hh | hh
 ·exact ⟨(Array.getElem?_eq_some_iff.1 h.blk).1, h.ab0, _, _, h.blk, by decide, by decide⟩
 ·have hi := h.fns f hf
  rcases hh with rfl | hh | hh | hh
  ·exact ⟨(Array.getElem?_eq_some_iff.1 hi.blk).1, hi.b0, _, _, hi.blk, by decide, by decide⟩
  ·exact row hi.vars hh (by decide) (by decide)
  ·exact row hi.free hh (by decide) (by decide)
  ·exact row hi.code hh (by decide) (by decide)
 ·exact row h.bx hh (by decide) (by decide)
 ·exact row h.op hh (by decide) (by decide)
 ·exact row h.cs hh (by decide) (by decide)
 ·exact row h.fn hh (by decide) (by decide)
 ·exact row h.ub hh (by decide) (by decide)
theorem CsI.keep {c : Cx} {N : Nat} {w w' : World} {st : St} {k : Value × List (Dt × Value)} (hi : Inv c N w st) (h : CsI c w k) (hk : ∀ j, j < w.heap.size → ¬ Fp st j → w'.heap[j]? = w.heap[j]?) : CsI c w' k := by
 have key : ∀ {n size : Nat} {e : TypeId} {v : Value} {xs : List Value}, w.ownsRow c.w0.heap.size e size v n xs → (e = 5 ∨ e = 47) → w'.ownsRow c.w0.heap.size e size v n xs := fun ho he => owns_of_heap ho (fun j hj => by
  obtain ⟨h1, cur, h2⟩ := owns_lt ho j hj
  refine hk j h1 (fun hp => ?_)
  obtain ⟨_, _, a, t, h3, h4, h5⟩ := hi.fp_lt hp
  rw [h2] at h3
  cases h3
  rcases he with he | he
  ·exact h4 he
  ·exact h5 he)
 exact ⟨key h.row (Or.inr rfl), fun x hx => ⟨key (h.txt x hx).1 (Or.inl rfl), (h.txt x hx).2⟩, h.len⟩
theorem FnI.kept {c : Cx} {w w' : World} {f : Fn5} (h : FnI c w f) (hk : ∀ k, (k = f.b ∨ f.vv.ownBlock = some k ∨ f.fv.ownBlock = some k ∨ f.cv.ownBlock = some k) → w'.heap[k]? = w.heap[k]?) : FnI c w' f :=
 ⟨(hk _ (Or.inl rfl)).trans h.blk, h.b0, owns_of_heap h.vars (fun k e => hk k (Or.inr (Or.inl e))), owns_of_heap h.free (fun k e => hk k (Or.inr (Or.inr (Or.inl e)))), owns_of_heap h.code (fun k e => hk k (Or.inr (Or.inr (Or.inr e)))), h.clen, h.nms⟩
theorem FnI.lt {c : Cx} {w : World} {f : Fn5} (h : FnI c w f) {k : Nat} (hk : k = f.b ∨ f.vv.ownBlock = some k ∨ f.fv.ownBlock = some k ∨ f.cv.ownBlock = some k) : k < w.heap.size := by
 rcases hk with rfl | hk | hk | hk
 ·exact (Array.getElem?_eq_some_iff.1 h.blk).1
 ·exact (owns_lt h.vars k hk).1
 ·exact (owns_lt h.free k hk).1
 ·exact (owns_lt h.code k hk).1
theorem FnW.mono {L L' N N' : Nat} {f : Fn5} (h : FnW L N f) (hL : L ≤ L') (hN : N ≤ N') : FnW L' N' f :=
 ⟨fun v hv => Nat.lt_of_lt_of_le (h.vb v hv) hL, fun x hx => Nat.lt_of_lt_of_le (h.fb x hx) hL, h.nd, Nat.le_trans h.cn hN, Nat.le_trans h.vn hN⟩
theorem Inv.mono {c : Cx} {N N' : Nat} {w : World} {st : St} (h : Inv c N w st) (hN : N ≤ N') : Inv c N' w st :=
 { h with fnw := fun f hf => (h.fnw f hf).mono (Nat.le_refl _) hN, len := ⟨Nat.le_trans h.len.1 hN, Nat.le_trans h.len.2.1 hN, Nat.le_trans h.len.2.2.1 hN, Nat.le_trans h.len.2.2.2.1 hN, h.len.2.2.2.2⟩ }
theorem Inv.below {c : Cx} {N : Nat} {w w' : World} {st : St} (h : Inv c N w st) (hb : Below w.heap.size w w') : Inv c N w' st ∧ Fr st st w w' := by
 have hk : ∀ k, k < w.heap.size → w'.heap[k]? = w.heap[k]? := fun k hk => hb.block k hk
 refine ⟨{ h with bel := h.bel.trans (hb.mono h.bel.size), blk := (hk _ (Array.getElem?_eq_some_iff.1 h.blk).1).trans h.blk, gl := owns_below h.gl hb, ub := owns_below h.ub hb, bx := owns_below h.bx hb, op := owns_below h.op hb, fns := fun f hf => (h.fns f hf).kept (fun k e => hk k ((h.fns f hf).lt e)), cs := owns_below h.cs hb, csi := fun k hkk => (h.csi k hkk).keep h (fun j hj _ => hk j hj), fn := owns_below h.fn hb }, hb.size, fun k hlt _ => hk k hlt, fun k hf => Or.inl hf⟩
def St.put (st : St) (i : Nat) (f : Fn5) : St := if i < st.lo.length then { st with lo := st.lo.set i f } else { st with tp := f }
theorem all_put {st : St} {i : Nat} {f : Fn5} (hi : i < st.all.length) : (st.put i f).all = st.all.set i f := by
 unfold St.put
 by_cases h : i < st.lo.length
 ·rw [if_pos h]
  show st.lo.set i f ++ [st.tp] = (st.lo ++ [st.tp]).set i f
  rw [List.set_append_left _ _ h]
 ·rw [if_neg h]
  show st.lo ++ [f] = (st.lo ++ [st.tp]).set i f
  have h1 : i = st.lo.length := by simp [St.all] at hi; omega
  rw [List.set_append_right _ _ (by omega), h1, Nat.sub_self]
  rfl
theorem put_fields (st : St) (i : Nat) (f : Fn5) : (st.put i f).ab = st.ab ∧ (st.put i f).glv = st.glv ∧ (st.put i f).gl = st.gl ∧ (st.put i f).bxv = st.bxv ∧ (st.put i f).bx = st.bx ∧ (st.put i f).bo = st.bo ∧ (st.put i f).opv = st.opv ∧ (st.put i f).csv = st.csv ∧ (st.put i f).cs = st.cs ∧ (st.put i f).fnv = st.fnv ∧ (st.put i f).fx = st.fx ∧ (st.put i f).nf = st.nf ∧ (st.put i f).bad = st.bad ∧ (st.put i f).ubv = st.ubv ∧ (st.put i f).ub = st.ub := by
 unfold St.put
 split <;> exact ⟨rfl, rfl, rfl, rfl, rfl, rfl, rfl, rfl, rfl, rfl, rfl, rfl, rfl, rfl, rfl⟩
def Fb (f : Fn5) (k : Nat) : Prop := k = f.b ∨ f.vv.ownBlock = some k ∨ f.fv.ownBlock = some k ∨ f.cv.ownBlock = some k
theorem FnI.typ {c : Cx} {w : World} {f : Fn5} (h : FnI c w f) {k : Nat} (hk : Fb f k) : ∃ a t, w.heap[k]? = some (.cells a t) ∧ ((t = 86 ∧ k = f.b) ∨ (t = 193 ∧ f.vv.ownBlock = some k) ∨ (t = 3 ∧ f.fv.ownBlock = some k) ∨ (t = 168 ∧ f.cv.ownBlock = some k)) := by
 rcases hk with rfl | hk | hk | hk
 ·exact ⟨_, _, h.blk, Or.inl ⟨rfl, rfl⟩⟩
 ·obtain ⟨_, cur, hc⟩ := owns_lt h.vars k hk
  exact ⟨cur, _, hc, Or.inr (Or.inl ⟨rfl, hk⟩)⟩
 ·obtain ⟨_, cur, hc⟩ := owns_lt h.free k hk
  exact ⟨cur, _, hc, Or.inr (Or.inr (Or.inl ⟨rfl, hk⟩))⟩
 ·obtain ⟨_, cur, hc⟩ := owns_lt h.code k hk
  exact ⟨cur, _, hc, Or.inr (Or.inr (Or.inr ⟨rfl, hk⟩))⟩
theorem Fb.apart {c : Cx} {w : World} {f g : Fn5} (hf : FnI c w f) (hg : FnI c w g) (ha : ApF f g) {k : Nat} (h1 : Fb f k) (h2 : Fb g k) : False := by
 obtain ⟨a, t, e1, q1⟩ := hf.typ h1
 obtain ⟨a2, t2, e2, q2⟩ := hg.typ h2
 rw [e1] at e2
 cases e2
 rcases q1 with ⟨rfl, r1⟩ | ⟨rfl, r1⟩ | ⟨rfl, r1⟩ | ⟨rfl, r1⟩
 ·rcases q2 with ⟨_, r2⟩ | ⟨h, _⟩ | ⟨h, _⟩ | ⟨h, _⟩
  ·exact ha.1 (r1.symm.trans r2)
  all_goals exact absurd h (by decide)
 ·rcases q2 with ⟨h, _⟩ | ⟨_, r2⟩ | ⟨h, _⟩ | ⟨h, _⟩
  ·exact absurd h (by decide)
  ·exact ha.2.1 k r1 r2
  all_goals exact absurd h (by decide)
 ·rcases q2 with ⟨h, _⟩ | ⟨h, _⟩ | ⟨_, r2⟩ | ⟨h, _⟩
  ·exact absurd h (by decide)
  ·exact absurd h (by decide)
  ·exact ha.2.2.1 k r1 r2
  ·exact absurd h (by decide)
 ·rcases q2 with ⟨h, _⟩ | ⟨h, _⟩ | ⟨h, _⟩ | ⟨_, r2⟩
  ·exact absurd h (by decide)
  ·exact absurd h (by decide)
  ·exact absurd h (by decide)
  ·exact ha.2.2.2 k r1 r2
theorem Fb.row {c : Cx} {w : World} {f : Fn5} {B n size : Nat} {e : TypeId} {v : Value} {xs : List Value} (hf : FnI c w f) (ho : w.ownsRow B e size v n xs) (h1 : e ≠ 86) (h2 : e ≠ 193) (h3 : e ≠ 3) (h4 : e ≠ 168) {k : Nat} (hk : v.ownBlock = some k) : ¬ Fb f k := fun hb => by
 obtain ⟨a, t, e1, q⟩ := hf.typ hb
 obtain ⟨_, cur, hc⟩ := owns_lt ho k hk
 rw [hc] at e1
 cases e1
 rcases q with ⟨h, _⟩ | ⟨h, _⟩ | ⟨h, _⟩ | ⟨h, _⟩
 ·exact h1 h
 ·exact h2 h
 ·exact h3 h
 ·exact h4 h
theorem pair_at {l : List Fn5} (h : l.Pairwise ApF) {i j : Nat} (hi : i < l.length) (hj : j < l.length) (hne : i ≠ j) : ApF (l[i]'hi) (l[j]'hj) := by
 rw [List.pairwise_iff_getElem] at h
 rcases Nat.lt_or_gt_of_ne hne with h1 | h1
 ·exact h i j hi hj h1
 ·exact (h j i hj hi h1).symm
theorem apt_new {u u' v : Value} {s : Nat} (h : Apt u v) (hl : ∀ k, u'.ownBlock = some k → u.ownBlock = some k ∨ s ≤ k) (hv : ∀ k, v.ownBlock = some k → k < s) : Apt u' v := fun k hk hvk => by
 rcases hl k hk with h1 | h1
 ·exact h k h1 hvk
 ·have := hv k hvk; omega
theorem Inv.putF {c : Cx} {N N' : Nat} {w w' : World} {st : St} (h : Inv c N w st) {i : Nat} (hi : i < st.all.length) {f' : Fn5} (hb : Below c.w0.heap.size w w') (hch : ∀ k, k < w.heap.size → ¬ Fb (st.all[i]'hi) k → w'.heap[k]? = w.heap[k]?) (hF : FnI c w' f') (hbb : f'.b = (st.all[i]'hi).b)
  (hv : ∀ k, f'.vv.ownBlock = some k → (st.all[i]'hi).vv.ownBlock = some k ∨ w.heap.size ≤ k) (hf : ∀ k, f'.fv.ownBlock = some k → (st.all[i]'hi).fv.ownBlock = some k ∨ w.heap.size ≤ k) (hc : ∀ k, f'.cv.ownBlock = some k → (st.all[i]'hi).cv.ownBlock = some k ∨ w.heap.size ≤ k)
  (hW : FnW st.bx.length N' f') (hN : N ≤ N') : Inv c N' w' (st.put i f') ∧ Fr st (st.put i f') w w' := by
 have hmem : st.all[i]'hi ∈ st.all := List.getElem_mem hi
 have hfi := h.fns _ hmem
 have hall := all_put (f := f') hi
 obtain ⟨q1, q2, q3, q4, q5, q6, q7, q8, q9, q10, q11, q12, q13, q14, q15⟩ := put_fields st i f'
 have row : ∀ {n size : Nat} {e : TypeId} {v : Value} {xs : List Value}, w.ownsRow c.w0.heap.size e size v n xs → e ≠ 86 → e ≠ 193 → e ≠ 3 → e ≠ 168 → w'.ownsRow c.w0.heap.size e size v n xs := fun ho h1 h2 h3 h4 => owns_of_heap ho (fun k hk => hch k (owns_lt ho k hk).1 (Fb.row hfi ho h1 h2 h3 h4 hk))
 have hblk : w'.heap[st.ab]? = w.heap[st.ab]? := hch _ (Array.getElem?_eq_some_iff.1 h.blk).1 (fun hb2 => by
  obtain ⟨a, t, e1, q⟩ := hfi.typ hb2
  rw [h.blk] at e1
  cases e1
  rcases q with ⟨h, _⟩ | ⟨h, _⟩ | ⟨h, _⟩ | ⟨h, _⟩ <;> exact absurd h (by decide))
 have hfnC : fnC (st.put i f').all = fnC st.all := by
  rw [hall]
  unfold fnC
  rw [List.map_set]
  apply List.ext_getElem?
  intro j
  rw [List.getElem?_set]
  by_cases hj : i = j
  ·subst hj
   simp [hi, hbb]
  ·rw [if_neg hj]
 have hlen : (st.put i f').all.length = st.all.length := by rw [hall, List.length_set]
 have hother : ∀ (j : Nat) (hj : j < st.all.length), j ≠ i → FnI c w' (st.all[j]'hj) := fun j hj hne => (h.fns _ (List.getElem_mem hj)).kept (fun k hk => hch k ((h.fns _ (List.getElem_mem hj)).lt hk) (fun hb2 => Fb.apart (h.fns _ (List.getElem_mem hj)) hfi (pair_at h.apt hj hi hne) hk hb2))
 have hmemset : ∀ g ∈ (st.put i f').all, g = f' ∨ ∃ (j : Nat) (hj : j < st.all.length), j ≠ i ∧ g = st.all[j]'hj := fun g hg => by
  rw [hall] at hg
  obtain ⟨j, hj, rfl⟩ := List.getElem_of_mem hg
  rw [List.length_set] at hj
  by_cases hji : i = j
  ·subst hji
   left
   simp
  ·right
   exact ⟨j, hj, fun e => hji e.symm, by rw [List.getElem_set_ne hji]⟩
 have hoth : ∀ (j : Nat) (hj : j < st.all.length), j ≠ i → ApF f' (st.all[j]'hj) := fun j hj hne => by
  have ha := pair_at h.apt hi hj (fun e => hne e.symm)
  have hg := h.fns _ (List.getElem_mem hj)
  exact ⟨by rw [hbb]; exact ha.1, apt_new ha.2.1 hv (fun k hk => (owns_lt hg.vars k hk).1), apt_new ha.2.2.1 hf (fun k hk => (owns_lt hg.free k hk).1), apt_new ha.2.2.2 hc (fun k hk => (owns_lt hg.code k hk).1)⟩
 refine ⟨?_, hb.size, ?_, ?_⟩
 ·refine ⟨h.bel.trans hb, h.dat, h.dn, by rw [q1]; exact h.ab0, ?_, ?_, by rw [q3]; exact h.gln, ?_, by rw [q15]; exact h.ubn, by rw [q2, q14]; exact h.gu, ?_, ?_, ?_, ?_, ?_, ?_, ?_, by rw [q11, q12]; exact h.fxl, by rw [q6, q5]; exact h.b1, by rw [q5]; exact h.b2, ?_, ?_⟩
  ·rw [q1, q2, q4, q6, q7, q8, q10, q13, q14, hblk]
   exact h.blk
  ·rw [q2, q3]; exact row h.gl (by decide) (by decide) (by decide) (by decide)
  ·rw [q14, q15]; exact row h.ub (by decide) (by decide) (by decide) (by decide)
  ·rw [q4, q5]; exact row h.bx (by decide) (by decide) (by decide) (by decide)
  ·rw [q7, hlen, hfnC]; exact row h.op (by decide) (by decide) (by decide) (by decide)
  ·intro g hg
   rcases hmemset g hg with rfl | ⟨j, hj, hne, rfl⟩
   ·exact hF
   ·exact hother j hj hne
  ·rw [hall, List.pairwise_iff_getElem]
   intro a b ha hb2 hab
   rw [List.length_set] at ha hb2
   by_cases h1 : i = a
   ·subst h1
    rw [List.getElem_set_self, List.getElem_set_ne (by omega)]
    exact hoth b hb2 (by omega)
   ·by_cases h2 : i = b
    ·subst h2
     rw [List.getElem_set_self, List.getElem_set_ne h1]
     exact (hoth a ha (by omega)).symm
    ·rw [List.getElem_set_ne h1, List.getElem_set_ne h2]
     exact pair_at h.apt ha hb2 (by omega)
  ·rw [q8, q9]; exact row h.cs (by decide) (by decide) (by decide) (by decide)
  ·rw [q9]
   intro k hk
   exact (h.csi k hk).keep h (fun j hj hn => hch j hj (fun hb2 => hn (Or.inr (Or.inl ⟨_, hmem, hb2⟩))))
  ·rw [q10, q11, q12]; exact row h.fn (by decide) (by decide) (by decide) (by decide)
  ·rw [q5]
   intro g hg
   rcases hmemset g hg with rfl | ⟨j, hj, _, rfl⟩
   ·exact hW
   ·exact (h.fnw _ (List.getElem_mem hj)).mono (Nat.le_refl _) hN
  ·rw [hlen, q3, q9, q12, q15]
   exact (h.mono hN).len
 ·intro k hk hn
  exact hch k hk (fun hb2 => hn (Or.inr (Or.inl ⟨_, hmem, hb2⟩)))
 ·intro k hk
  unfold Fp at hk ⊢
  rw [q1, q4, q7, q8, q10, q14] at hk
  rcases hk with hk | ⟨g, hg, hk⟩ | hk
  ·exact Or.inl (Or.inl hk)
  ·rcases hmemset g hg with rfl | ⟨j, hj, _, rfl⟩
   ·rcases hk with hk | hk | hk | hk
    ·exact Or.inl (Or.inr (Or.inl ⟨_, hmem, Or.inl (by rw [hk, hbb])⟩))
    ·rcases hv k hk with h1 | h1
     ·exact Or.inl (Or.inr (Or.inl ⟨_, hmem, Or.inr (Or.inl h1)⟩))
     ·exact Or.inr h1
    ·rcases hf k hk with h1 | h1
     ·exact Or.inl (Or.inr (Or.inl ⟨_, hmem, Or.inr (Or.inr (Or.inl h1))⟩))
     ·exact Or.inr h1
    ·rcases hc k hk with h1 | h1
     ·exact Or.inl (Or.inr (Or.inl ⟨_, hmem, Or.inr (Or.inr (Or.inr h1))⟩))
     ·exact Or.inr h1
   ·exact Or.inl (Or.inr (Or.inl ⟨_, List.getElem_mem hj, hk⟩))
  ·exact Or.inl (Or.inr (Or.inr hk))
theorem ab_ne_fb {c : Cx} {N : Nat} {w : World} {st : St} (h : Inv c N w st) {f : Fn5} (hf : f ∈ st.all) : ¬ Fb f st.ab := fun hb2 => by
 obtain ⟨a, t, e1, q⟩ := (h.fns f hf).typ hb2
 rw [h.blk] at e1
 cases e1
 rcases q with ⟨h, _⟩ | ⟨h, _⟩ | ⟨h, _⟩ | ⟨h, _⟩ <;> exact absurd h (by decide)
theorem Inv.keepA {c : Cx} {N : Nat} {w w' : World} {st : St} (h : Inv c N w st) {e : TypeId} {s n : Nat} {u : Value} {xs : List Value} (ho : w.ownsRow c.w0.heap.size e s u n xs) (h1 : e ≠ 86) (h2 : e ≠ 193) (h3 : e ≠ 3) (h4 : e ≠ 168) (h5 : e ≠ 5) (h6 : e ≠ 47)
  (hch : ∀ k, k < w.heap.size → k ≠ st.ab → u.ownBlock ≠ some k → w'.heap[k]? = w.heap[k]?) :
  (∀ {e2 : TypeId} {s2 m : Nat} {v : Value} {ys : List Value}, w.ownsRow c.w0.heap.size e2 s2 v m ys → Apt v u → e2 ≠ 45 → w'.ownsRow c.w0.heap.size e2 s2 v m ys) ∧ (∀ f ∈ st.all, FnI c w' f) ∧ (∀ k ∈ st.cs, CsI c w' k) := by
 have key : ∀ {e2 : TypeId} {s2 m : Nat} {v : Value} {ys : List Value}, w.ownsRow c.w0.heap.size e2 s2 v m ys → Apt v u → e2 ≠ 45 → w'.ownsRow c.w0.heap.size e2 s2 v m ys := fun hv ha he => owns_of_heap hv (fun k hk => hch k (owns_lt hv k hk).1 (fun hk2 => by
   subst hk2
   exact owns_ne hv h.blk (fun e => he e.symm) hk.symm) (ha k hk))
 refine ⟨key, fun f hf => (h.fns f hf).kept (fun k hk => hch k ((h.fns f hf).lt hk) (fun hk2 => by subst hk2; exact ab_ne_fb h hf hk) (fun hk2 => Fb.row (h.fns f hf) ho h1 h2 h3 h4 hk2 hk)), fun k hk => ?_⟩
 exact ⟨key (h.csi k hk).row (apt_ty (h.csi k hk).row ho (fun e => h6 e.symm)) (by decide), fun x hx => ⟨key ((h.csi k hk).txt x hx).1 (apt_ty ((h.csi k hk).txt x hx).1 ho (fun e => h5 e.symm)) (by decide), ((h.csi k hk).txt x hx).2⟩, (h.csi k hk).len⟩
theorem nil_own (w : World) (B : Nat) (e : TypeId) (s : Nat) : w.ownsRow B e s (.slice none 0 0) 0 [] := ⟨by simp, Or.inl ⟨rfl, rfl⟩⟩
theorem apt_nil (v : Value) : Apt v (.slice none 0 0) := fun k _ h => by cases h
theorem fp_of {st st' : St} {s : Nat} (hab : st'.ab = st.ab) (hall : st'.all = st.all) (h1 : ∀ k, st'.bxv.ownBlock = some k → st.bxv.ownBlock = some k ∨ s ≤ k) (h2 : ∀ k, st'.opv.ownBlock = some k → st.opv.ownBlock = some k ∨ s ≤ k) (h3 : ∀ k, st'.csv.ownBlock = some k → st.csv.ownBlock = some k ∨ s ≤ k) (h4 : ∀ k, st'.fnv.ownBlock = some k → st.fnv.ownBlock = some k ∨ s ≤ k) (h5 : ∀ k, st'.ubv.ownBlock = some k → st.ubv.ownBlock = some k ∨ s ≤ k) : ∀ k, Fp st' k → Fp st k ∨ s ≤ k := fun k hk => by
 unfold Fp at hk ⊢
 rw [hab, hall] at hk
 rcases hk with hk | hk | hk | hk | hk | hk | hk
 ·exact Or.inl (Or.inl hk)
 ·exact Or.inl (Or.inr (Or.inl hk))
 ·rcases h1 k hk with h | h
  ·exact Or.inl (Or.inr (Or.inr (Or.inl h)))
  ·exact Or.inr h
 ·rcases h2 k hk with h | h
  ·exact Or.inl (Or.inr (Or.inr (Or.inr (Or.inl h))))
  ·exact Or.inr h
 ·rcases h3 k hk with h | h
  ·exact Or.inl (Or.inr (Or.inr (Or.inr (Or.inr (Or.inl h)))))
  ·exact Or.inr h
 ·rcases h4 k hk with h | h
  ·exact Or.inl (Or.inr (Or.inr (Or.inr (Or.inr (Or.inr (Or.inl h))))))
  ·exact Or.inr h
 ·rcases h5 k hk with h | h
  ·exact Or.inl (Or.inr (Or.inr (Or.inr (Or.inr (Or.inr (Or.inr h))))))
  ·exact Or.inr h
theorem set_ab {w : World} {k : Nat} {a0 a1 a2 a3 a4 a5 a6 a7 a8 a9 : Value} {t : TypeId} (e : w.heap[k]? = some (.cells #[a0, a1, a2, a3, a4, a5, a6, a7, a8, a9] t)) (v : Value) :
  (w.setCell ⟨k, 2, none⟩ v).heap[k]? = some (.cells #[a0, a1, v, a3, a4, a5, a6, a7, a8, a9] t) ∧ (w.setCell ⟨k, 4, none⟩ v).heap[k]? = some (.cells #[a0, a1, a2, a3, v, a5, a6, a7, a8, a9] t) ∧ (w.setCell ⟨k, 5, none⟩ v).heap[k]? = some (.cells #[a0, a1, a2, a3, a4, v, a6, a7, a8, a9] t) ∧ (w.setCell ⟨k, 6, none⟩ v).heap[k]? = some (.cells #[a0, a1, a2, a3, a4, a5, v, a7, a8, a9] t) ∧ (w.setCell ⟨k, 7, none⟩ v).heap[k]? = some (.cells #[a0, a1, a2, a3, a4, a5, a6, v, a8, a9] t) ∧ (w.setCell ⟨k, 8, none⟩ v).heap[k]? = some (.cells #[a0, a1, a2, a3, a4, a5, a6, a7, v, a9] t) ∧ (w.setCell ⟨k, 9, none⟩ v).heap[k]? = some (.cells #[a0, a1, a2, a3, a4, a5, a6, a7, a8, v] t) := by
 refine ⟨?_, ?_, ?_, ?_, ?_, ?_, ?_⟩ <;> simp [World.setCell, Array.getElem?_modify, e]
theorem cells10 {w : World} {k : Nat} {a0 a1 a2 a3 a4 a5 a6 a7 a8 a9 : Value} {t : TypeId} (e : w.heap[k]? = some (.cells #[a0, a1, a2, a3, a4, a5, a6, a7, a8, a9] t)) :
  w.cell? ⟨k, 0, none⟩ = some a0 ∧ w.cell? ⟨k, 1, none⟩ = some a1 ∧ w.cell? ⟨k, 2, none⟩ = some a2 ∧ w.cell? ⟨k, 4, none⟩ = some a4 ∧ w.cell? ⟨k, 5, none⟩ = some a5 ∧ w.cell? ⟨k, 6, none⟩ = some a6 ∧ w.cell? ⟨k, 7, none⟩ = some a7 ∧ w.cell? ⟨k, 8, none⟩ = some a8 ∧ w.cell? ⟨k, 9, none⟩ = some a9 ∧ ∀ o, w.frozen? ⟨k, o, none⟩ = false := by
 refine ⟨?_, ?_, ?_, ?_, ?_, ?_, ?_, ?_, ?_, fun o => ?_⟩ <;> simp [World.cell?, World.frozen?, e]
theorem cells5 {w : World} {k : Nat} {a0 a1 a2 a3 a4 : Value} {t : TypeId} (e : w.heap[k]? = some (.cells #[a0, a1, a2, a3, a4] t)) :
  w.cell? ⟨k, 0, none⟩ = some a0 ∧ w.cell? ⟨k, 1, none⟩ = some a1 ∧ w.cell? ⟨k, 2, none⟩ = some a2 ∧ w.cell? ⟨k, 3, none⟩ = some a3 ∧ w.cell? ⟨k, 4, none⟩ = some a4 ∧ ∀ o, w.frozen? ⟨k, o, none⟩ = false := by
 refine ⟨?_, ?_, ?_, ?_, ?_, fun o => ?_⟩ <;> simp [World.cell?, World.frozen?, e]
theorem set_fn {w : World} {k : Nat} {a0 a1 a2 a3 a4 : Value} {t : TypeId} (e : w.heap[k]? = some (.cells #[a0, a1, a2, a3, a4] t)) (v : Value) :
  (w.setCell ⟨k, 0, none⟩ v).heap[k]? = some (.cells #[v, a1, a2, a3, a4] t) ∧ (w.setCell ⟨k, 1, none⟩ v).heap[k]? = some (.cells #[a0, v, a2, a3, a4] t) ∧ (w.setCell ⟨k, 3, none⟩ v).heap[k]? = some (.cells #[a0, a1, a2, v, a4] t) ∧ (w.setCell ⟨k, 4, none⟩ v).heap[k]? = some (.cells #[a0, a1, a2, a3, v] t) := by
 refine ⟨?_, ?_, ?_, ?_⟩ <;> simp [World.setCell, Array.getElem?_modify, e]
theorem set_keep {w : World} {b j k : Nat} (v : Value) (h : k ≠ b) : (w.setCell ⟨b, j, none⟩ v).heap[k]? = w.heap[k]? := Below.heap_setCell _ _ _ k h
theorem Inv.addUb {c : Cx} {N : Nat} {w w1 : World} {st : St} (h : Inv c N w st) {v' : Value} {m : Nm} (hm : NmI c m) (ho : w1.ownsRow c.w0.heap.size 34 1 v' (st.ub.length + 1) (nmC st.ub ++ [nmV m])) (hb : Below c.w0.heap.size w w1) (hbt : But w w1 st.ubv) (hl : ∀ k, v'.ownBlock = some k → st.ubv.ownBlock = some k ∨ w.heap.size ≤ k) :
  Inv c (N + 1) (w1.setCell ⟨st.ab, 9, none⟩ v') { st with ubv := v', ub := st.ub ++ [m] } ∧ Fr st { st with ubv := v', ub := st.ub ++ [m] } w (w1.setCell ⟨st.ab, 9, none⟩ v') := by
 have hab := (Array.getElem?_eq_some_iff.1 h.blk).1
 have hab1 : w1.heap[st.ab]? = some _ := (hbt _ hab (owns_ne h.ub h.blk (by decide))).trans h.blk
 have hch : ∀ k, k < w.heap.size → k ≠ st.ab → st.ubv.ownBlock ≠ some k → (w1.setCell ⟨st.ab, 9, none⟩ v').heap[k]? = w.heap[k]? := fun k hk h1 h2 => (set_keep v' h1).trans (hbt k hk (fun e => h2 e.symm))
 obtain ⟨row, hfn, hcs⟩ := h.keepA h.ub (by decide) (by decide) (by decide) (by decide) (by decide) (by decide) hch
 have hbel : Below c.w0.heap.size w (w1.setCell ⟨st.ab, 9, none⟩ v') := Below.setCell hb (p := ⟨st.ab, 9, none⟩) h.ab0 v'
 refine ⟨⟨h.bel.trans hbel, h.dat, h.dn, h.ab0, (set_ab hab1 v').2.2.2.2.2.2, row h.gl h.gu (by decide), h.gln, ?_, ?_, ?_, row h.bx (apt_ty h.bx h.ub (by decide)) (by decide), row h.op (apt_ty h.op h.ub (by decide)) (by decide), hfn, h.apt, row h.cs (apt_ty h.cs h.ub (by decide)) (by decide), hcs, row h.fn (apt_ty h.fn h.ub (by decide)) (by decide), h.fxl, h.b1, h.b2, (h.mono (Nat.le_succ N)).fnw, ?_⟩, ?_, ?_, ?_⟩
 ·show World.ownsRow _ _ _ _ v' (st.ub ++ [m]).length (nmC (st.ub ++ [m]))
  rw [List.length_append]
  unfold nmC at ho ⊢
  rw [List.map_append]
  exact owns_set ho hab1 (by decide) v'
 ·intro x hx
  rcases List.mem_append.1 hx with hx | hx
  ·exact h.ubn x hx
  ·obtain rfl := List.mem_singleton.1 hx
   exact hm
 ·exact (apt_new h.gu.symm hl (fun k hk => (owns_lt h.gl k hk).1)).symm
 ·have h1 := (h.mono (Nat.le_succ N)).len
  exact ⟨h1.1, h1.2.1, h1.2.2.1, by simp only [List.length_append, List.length_singleton]; have := h.len.2.2.2.1; omega, h1.2.2.2.2⟩
 ·rw [set_size]; exact hb.size
 ·intro k hk hn
  exact hch k hk (fun e => hn (Or.inl e)) (fun e => hn (Or.inr (Or.inr (Or.inr (Or.inr (Or.inr (Or.inr e)))))))
 ·exact fp_of rfl rfl (fun k hk => Or.inl hk) (fun k hk => Or.inl hk) (fun k hk => Or.inl hk) (fun k hk => Or.inl hk) hl
theorem Inv.setBad {c : Cx} {N : Nat} {w : World} {st : St} (h : Inv c N w st) : Inv c N (w.setCell ⟨st.ab, 8, none⟩ (.bool true)) { st with bad := true } ∧ Fr st { st with bad := true } w (w.setCell ⟨st.ab, 8, none⟩ (.bool true)) := by
 have hch : ∀ k, k < w.heap.size → k ≠ st.ab → (Value.slice none 0 0).ownBlock ≠ some k → (w.setCell ⟨st.ab, 8, none⟩ (.bool true)).heap[k]? = w.heap[k]? := fun k hk h1 _ => set_keep _ h1
 obtain ⟨row, hfn, hcs⟩ := h.keepA (nil_own w _ 9 1) (by decide) (by decide) (by decide) (by decide) (by decide) (by decide) hch
 have hbel : Below c.w0.heap.size w (w.setCell ⟨st.ab, 8, none⟩ (.bool true)) := Below.setCell (Below.refl _ _) (p := ⟨st.ab, 8, none⟩) h.ab0 _
 refine ⟨⟨h.bel.trans hbel, h.dat, h.dn, h.ab0, (set_ab h.blk _).2.2.2.2.2.1, row h.gl (apt_nil _) (by decide), h.gln, row h.ub (apt_nil _) (by decide), h.ubn, h.gu, row h.bx (apt_nil _) (by decide), row h.op (apt_nil _) (by decide), hfn, h.apt, row h.cs (apt_nil _) (by decide), hcs, row h.fn (apt_nil _) (by decide), h.fxl, h.b1, h.b2, h.fnw, h.len⟩, by rw [set_size]; exact Nat.le_refl _, fun k hk hn => hch k hk (fun e => hn (Or.inl e)) (fun e => by cases e), fun k hk => Or.inl hk⟩
theorem below_drewC {B : Nat} {a w : World} (h : Below B a w) : Below B a w.drew := ⟨h.os, h.tape, h.output, h.size, h.block⟩
theorem Inv.opAt {c : Cx} {N : Nat} {w : World} {st : St} (h : Inv c N w st) : ∃ g oc, st.opv = .slice (some ⟨g, 0, none⟩) (st.lo.length + 1) oc ∧ g < w.heap.size ∧ c.w0.heap.size ≤ g ∧ (∃ cur, w.heap[g]? = some (.cells cur 82)) ∧ ∀ i (hi : i < st.all.length), w.cell? ⟨g, i, none⟩ = some (.pointer (some ⟨(st.all[i]'hi).b, 0, none⟩)) := by
 obtain ⟨p, oc, ho⟩ := owns_form h.op
 have hop := h.op
 rw [ho] at hop
 have hl : st.all.length = st.lo.length + 1 := by simp [St.all]
 obtain ⟨_, _, hc⟩ := owns_cells hop
 obtain ⟨g, rfl, h1, h2, h3, h4⟩ := hc (by omega)
 refine ⟨g, oc, by rw [ho, hl], h1, h2, h3, fun i hi => ?_⟩
 rw [h4 i (by omega)]
 unfold fnC
 rw [List.getElem?_map, List.getElem?_eq_getElem hi]
 rfl
theorem St.all_top (st : St) : st.all[st.lo.length]? = some st.tp := by simp [St.all]
set_option maxHeartbeats 1000000 in
theorem l5top_c {c : Cx} {N : Nat} {st : St} (w : World) (h : Inv c N w st) (hN : N ≤ 1000000000) : Calls Tryz.prog 86 #[.pointer (some ⟨st.ab, 0, none⟩)] w fun e w' => e = .returned (.pointer (some ⟨st.tp.b, 0, none⟩)) ∧ Below w.heap.size w w' := by
 obtain ⟨g, oc, hop, hg, _, _, hcc⟩ := h.opAt
 have e0 := (cells10 h.blk).2.2.2.2.1
 rw [hop] at e0
 have hl : st.lo.length < st.all.length := by simp [St.all]
 have e1 := hcc st.lo.length hl
 have ht : st.all[st.lo.length]'hl = st.tp := by simp [St.all]
 rw [ht] at e1
 have hlen := h.len.1
 have hl2 : st.all.length = st.lo.length + 1 := by simp [St.all]
 obtain ⟨m, hm⟩ : ∃ m, m = st.lo.length := ⟨_, rfl⟩
 rw [← hm] at e0 e1 hl2
 have hmN : m ≤ 1000000000 := by omega
 have hw1 : IntKind.i64.wrap (((m + 1 : Nat) : Int) - 1) = (m : Int) := by rw [show ((m + 1 : Nat) : Int) - 1 = (m : Int) by omega]; simp [IntKind.wrap, IntKind.bits, IntKind.signed]; omega
 clear h hcc ht hl hm hlen hl2 hop
 go_enter Tryz.func86, Tryz.ntmps86
 go_wp2
 go_region
 all_goals go_wp2
 all_goals go_ret
 all_goals exact ⟨rfl, below_drewC (Below.refl _ _)⟩
def St.top (st : St) (f : Fn5) : St := { st with tp := f }
theorem put_top (st : St) (f : Fn5) : st.put st.lo.length f = st.top f := by
 unfold St.put St.top
 rw [if_neg (Nat.lt_irrefl _)]
theorem Inv.putT {c : Cx} {N N' : Nat} {w w' : World} {st : St} (h : Inv c N w st) {f' : Fn5} (hb : Below c.w0.heap.size w w') (hch : ∀ k, k < w.heap.size → ¬ Fb st.tp k → w'.heap[k]? = w.heap[k]?) (hF : FnI c w' f') (hbb : f'.b = st.tp.b)
  (hv : ∀ k, f'.vv.ownBlock = some k → st.tp.vv.ownBlock = some k ∨ w.heap.size ≤ k) (hf : ∀ k, f'.fv.ownBlock = some k → st.tp.fv.ownBlock = some k ∨ w.heap.size ≤ k) (hc : ∀ k, f'.cv.ownBlock = some k → st.tp.cv.ownBlock = some k ∨ w.heap.size ≤ k)
  (hW : FnW st.bx.length N' f') (hN : N ≤ N') : Inv c N' w' (st.top f') ∧ Fr st (st.top f') w w' := by
 have hl : st.lo.length < st.all.length := by simp [St.all]
 have ht : st.all[st.lo.length]'hl = st.tp := by simp [St.all]
 have := h.putF (f' := f') hl hb (by rw [ht]; exact hch) hF (by rw [ht]; exact hbb) (by rw [ht]; exact hv) (by rw [ht]; exact hf) (by rw [ht]; exact hc) hW hN
 rw [put_top] at this
 exact this
theorem Inv.tpI {c : Cx} {N : Nat} {w : World} {st : St} (h : Inv c N w st) : FnI c w st.tp := h.fns _ (by simp [St.all])
theorem Inv.tpW {c : Cx} {N : Nat} {w : World} {st : St} (h : Inv c N w st) : FnW st.bx.length N st.tp := h.fnw _ (by simp [St.all])
def Fn5.emit (f : Fn5) (cv : Value) (x : List Value) (sl : Int) : Fn5 := { f with cv := cv, cs := f.cs ++ x, cn := f.cn + 1, sl := sl }
theorem Inv.emit {c : Cx} {N : Nat} {w w2 : World} {st : St} (h : Inv c N w st) {v' a b d : Value} (sl : Int) (ho : w2.ownsRow c.w0.heap.size 168 3 v' (st.tp.cn + 1) (st.tp.cs ++ [a, b, d])) (hb : Below c.w0.heap.size w w2) (hbt : But w w2 st.tp.cv) (hl : ∀ k, v'.ownBlock = some k → st.tp.cv.ownBlock = some k ∨ w.heap.size ≤ k) :
  Inv c (N + 1) ((w2.setCell ⟨st.tp.b, 3, none⟩ v').setCell ⟨st.tp.b, 4, none⟩ (.int .i64 sl)) (st.top (st.tp.emit v' [a, b, d] sl)) ∧ Fr st (st.top (st.tp.emit v' [a, b, d] sl)) w ((w2.setCell ⟨st.tp.b, 3, none⟩ v').setCell ⟨st.tp.b, 4, none⟩ (.int .i64 sl)) := by
 have hf := h.tpI
 have hbl := (Array.getElem?_eq_some_iff.1 hf.blk).1
 have hb2 : w2.heap[st.tp.b]? = some _ := (hbt _ hbl (owns_ne hf.code hf.blk (by decide))).trans hf.blk
 have hb3 := (set_fn hb2 v').2.2.1
 have hb4 := (set_fn hb3 (.int .i64 sl)).2.2.2
 have row : ∀ {n size : Nat} {e : TypeId} {v : Value} {xs : List Value}, w2.ownsRow c.w0.heap.size e size v n xs → e ≠ 86 → ((w2.setCell ⟨st.tp.b, 3, none⟩ v').setCell ⟨st.tp.b, 4, none⟩ (.int .i64 sl)).ownsRow c.w0.heap.size e size v n xs := fun hv he => owns_set (owns_set hv hb2 (fun e => he e.symm) v') hb3 (fun e => he e.symm) _
 refine h.putT (Below.setCell (Below.setCell hb (p := ⟨st.tp.b, 3, none⟩) hf.b0 v') (p := ⟨st.tp.b, 4, none⟩) hf.b0 _) (fun k hk hn => ?_) ⟨hb4, hf.b0, row (owns_but hf.vars (apt_ty hf.vars hf.code (by decide)) hbt) (by decide), row (owns_but hf.free (apt_ty hf.free hf.code (by decide)) hbt) (by decide), row ho (by decide), ?_, hf.nms⟩ rfl (fun k hk => Or.inl hk) (fun k hk => Or.inl hk) hl ?_ (Nat.le_succ N)
 ·have h1 : k ≠ st.tp.b := fun e => hn (Or.inl e)
  exact ((set_keep _ h1).trans (set_keep _ h1)).trans (hbt k hk (fun e => hn (Or.inr (Or.inr (Or.inr e.symm)))))
 ·show (st.tp.cs ++ [a, b, d]).length = (st.tp.cn + 1) * 3
  rw [List.length_append, hf.clen]
  simp
  omega
 ·have hw := h.tpW
  exact ⟨hw.vb, hw.fb, hw.nd, Nat.succ_le_succ hw.cn, Nat.le_succ_of_le hw.vn⟩
theorem infoIns : (Tryz.prog.info? 168).map (fun i => (i.zero, i.size, i.bytes)) = some (some (.agg #[.int .i64 0, .int .i64 0, .int .i64 0]), 3, 24) := by kernel_rfl
set_option maxHeartbeats 2000000 in
theorem l5emit_c {c : Cx} {N : Nat} {st : St} (op x y sl : Int) (w : World) (h : Inv c N w st) (hN : N ≤ 1000000000) :
  Calls Tryz.prog 85 #[.pointer (some ⟨st.ab, 0, none⟩), .int .i64 op, .int .i64 x, .int .i64 y, .int .i64 sl] w fun e w' => e = .returned (.int .i64 (st.tp.cn : Nat)) ∧ ∃ v', Inv c (N + 1) w' (st.top (st.tp.emit v' [.int .i64 op, .int .i64 x, .int .i64 y] sl)) ∧ Fr st (st.top (st.tp.emit v' [.int .i64 op, .int .i64 x, .int .i64 y] sl)) w w' := by
 have HI := mkC h
 have hcn : st.tp.cn ≤ 1000000000 := Nat.le_trans h.tpW.cn hN
 have HT := mkC (l5top_c w h hN)
 clear h
 go_enter Tryz.func85, Tryz.ntmps85
 go_wp2_with fail
 refine HT.out.mono ?_
 rintro e w1 ⟨rfl, hb1⟩
 have HI1 := mkC (HI.out.below hb1).1
 have HF1 := mkC (HI.out.below hb1).2
 have hcv := HI1.out.tpI.code
 obtain ⟨p, cc, hcvf⟩ := owns_form hcv
 have e3 := (cells5 HI1.out.tpI.blk).2.2.2.1
 have e4 := (cells5 HI1.out.tpI.blk).2.2.2.2.1
 have hB : c.w0.heap.size ≤ w1.heap.size := HI1.out.bel.size
 have HCV := mkC hcv
 have HBL := mkC HI1.out.tpI.blk
 have HB0 : Hid (c.w0.heap.size ≤ st.tp.b) := HI1.out.tpI.b0
 clear hcv hb1 HT
 obtain ⟨cn, hcnE⟩ : ∃ cn, cn = st.tp.cn := ⟨_, rfl⟩
 have HCN := mkC hcnE
 rw [← hcnE] at hcn hcvf
 obtain ⟨bb, hbb⟩ : ∃ bb, bb = st.tp.b := ⟨_, rfl⟩
 have HBB := mkC hbb
 rw [← hbb] at e3 e4 ⊢
 obtain ⟨cv, hcvE⟩ : ∃ cv, cv = st.tp.cv := ⟨_, rfl⟩
 have HCVE := mkC hcvE
 rw [← hcvE] at e3 hcvf
 have HOW : Hid (w1.ownsRow c.w0.heap.size 168 3 cv cn st.tp.cs) := by unfold Hid; rw [hcvE, hcnE]; exact HCV.out
 have HBK : Hid (w1.heap[bb]? = some (.cells #[st.tp.vv, st.tp.fv, .int .i64 st.tp.pa, cv, .int .i64 st.tp.sl] 86)) := by unfold Hid; rw [hbb, hcvE]; exact HBL.out
 clear hcnE hbb hcvE
 subst hcvf
 go_wp2_with (at_builtin; refine appW_at w1 rfl (.tmp 18) (.tmp 23) 84 168 rfl _ 3 24 Tryz.underlying84 infoIns rfl (by decide) c.w0.heap.size (.slice p cn cc) cn st.tp.cs (by simp [Act.eval]) HOW.out #[.int .i64 op, .int .i64 x, .int .i64 y] rfl (by simp [Value.oneCell']) (by simp [Act.eval]) (by unfold maxLen; omega) (by omega) hB ?_; intro v' w2 ho hb2 hbt hloc hsz; obtain ⟨p2, c2, hv2⟩ := owns_form ho; subst hv2; have HO := mkC ho; have HB2 := mkC hb2; have HBT := mkC hbt; have HLOC := mkC hloc; have q3 := (cells5 ((HBT.out _ (Array.getElem?_eq_some_iff.1 HBK.out).1 (owns_ne HOW.out HBK.out (by decide))).trans HBK.out)).2.2.2.1; have q4 := (cells5 ((HBT.out _ (Array.getElem?_eq_some_iff.1 HBK.out).1 (owns_ne HOW.out HBK.out (by decide))).trans HBK.out)).2.2.2.2.1; have q5 := (cells5 ((HBT.out _ (Array.getElem?_eq_some_iff.1 HBK.out).1 (owns_ne HOW.out HBK.out (by decide))).trans HBK.out)).2.2.2.2.2; clear ho hb2 hbt hloc)
 go_ret
 have hE := HI1.out.emit sl (by rw [← HCN.out]; exact HO.out) HB2.out (by rw [← HCVE.out]; exact HBT.out) (by rw [← HCVE.out]; exact HLOC.out)
 rw [HBB.out]
 exact ⟨by rw [← HCN.out]; rfl, _, hE.1, HF1.out.trans hE.2⟩
structure Sm (st st' : St) : Prop where
 ab : st'.ab = st.ab
 gl : st'.gl = st.gl
 glv : st'.glv = st.glv
 len : st'.lo.length = st.lo.length
 fn : ∀ (i : Nat) (f f' : Fn5), st.all[i]? = some f → st'.all[i]? = some f' → f'.b = f.b ∧ f'.vs = f.vs ∧ f.cn ≤ f'.cn
 bx : st.bx.length ≤ st'.bx.length
 bo : st.bo ≤ st'.bo
 nf : st.nf ≤ st'.nf
theorem all_len (st : St) : st.all.length = st.lo.length + 1 := by simp [St.all]
theorem Sm.refl (st : St) : Sm st st := ⟨rfl, rfl, rfl, rfl, fun i f f' h h' => by rw [h] at h'; cases h'; exact ⟨rfl, rfl, Nat.le_refl _⟩, Nat.le_refl _, Nat.le_refl _, Nat.le_refl _⟩
theorem Sm.trans {a b d : St} (h : Sm a b) (k : Sm b d) : Sm a d := by
 refine ⟨k.ab.trans h.ab, k.gl.trans h.gl, k.glv.trans h.glv, k.len.trans h.len, fun i f f' h1 h2 => ?_, Nat.le_trans h.bx k.bx, Nat.le_trans h.bo k.bo, Nat.le_trans h.nf k.nf⟩
 have hi : i < b.all.length := by
  have := (List.getElem?_eq_some_iff.1 h1).1
  rw [all_len] at this ⊢
  rw [h.len]; exact this
 obtain ⟨q1, q2, q3⟩ := h.fn i f _ h1 (List.getElem?_eq_getElem hi)
 obtain ⟨r1, r2, r3⟩ := k.fn i _ f' (List.getElem?_eq_getElem hi) h2
 exact ⟨r1.trans q1, r2.trans q2, Nat.le_trans q3 r3⟩
theorem Sm.tp {st st' : St} (h : Sm st st') : st'.tp.b = st.tp.b ∧ st'.tp.vs = st.tp.vs ∧ st.tp.cn ≤ st'.tp.cn := by
 refine h.fn st.lo.length _ _ (St.all_top st) ?_
 rw [← h.len]
 exact St.all_top st'
def St.sc (st : St) : List (List Int) := st.all.flatMap (fun f => f.vs.map (fun v => v.m.x))
theorem Sm.sc {st st' : St} (h : Sm st st') : st'.sc = st.sc := by
 unfold St.sc
 have e : st'.all.map (fun f => f.vs.map (fun v => v.m.x)) = st.all.map (fun f => f.vs.map (fun v => v.m.x)) := by
  apply List.ext_getElem?
  intro i
  rw [List.getElem?_map, List.getElem?_map]
  by_cases hi : i < st.all.length
  ·have hi' : i < st'.all.length := by rw [all_len] at hi ⊢; rw [h.len]; exact hi
   rw [List.getElem?_eq_getElem hi, List.getElem?_eq_getElem hi']
   simp only [Option.map_some]
   rw [(h.fn i _ _ (List.getElem?_eq_getElem hi) (List.getElem?_eq_getElem hi')).2.1]
  ·have hi' : ¬ i < st'.all.length := by rw [all_len] at hi ⊢; rw [h.len]; exact hi
   rw [List.getElem?_eq_none (by omega), List.getElem?_eq_none (by omega)]
 show (List.map _ _).flatten = (List.map _ _).flatten
 rw [e]
structure Stp (c : Cx) (N : Nat) (st : St) (w : World) (st' : St) (w' : World) : Prop where
 inv : Inv c N w' st'
 fr : Fr st st' w w'
 sm : Sm st st'
theorem Stp.trans {c : Cx} {N N' : Nat} {a b d : St} {w w1 w2 : World} (h : Stp c N a w b w1) (k : Stp c N' b w1 d w2) : Stp c N' a w d w2 := ⟨k.inv, h.fr.trans k.fr, h.sm.trans k.sm⟩
theorem Stp.mono {c : Cx} {N N' : Nat} {a b : St} {w w1 : World} (h : Stp c N a w b w1) (hN : N ≤ N') : Stp c N' a w b w1 := ⟨h.inv.mono hN, h.fr, h.sm⟩
theorem Inv.stp {c : Cx} {N : Nat} {w w' : World} {st : St} (h : Inv c N w st) (hb : Below w.heap.size w w') : Stp c N st w st w' := ⟨(h.below hb).1, (h.below hb).2, Sm.refl st⟩
def Qt (st st' : St) : Prop := st'.bad = st.bad ∧ st'.ub = st.ub ∧ st'.bo = st.bo
theorem Qt.trans {a b d : St} (h : Qt a b) (k : Qt b d) : Qt a d := ⟨k.1.trans h.1, k.2.1.trans h.2.1, k.2.2.trans h.2.2⟩
theorem sm_top {st : St} {f : Fn5} (hb : f.b = st.tp.b) (hv : f.vs = st.tp.vs) (hc : st.tp.cn ≤ f.cn) : Sm st (st.top f) := by
 refine ⟨rfl, rfl, rfl, rfl, fun i g g' h1 h2 => ?_, Nat.le_refl _, Nat.le_refl _, Nat.le_refl _⟩
 by_cases hi : i < st.lo.length
 ·have e1 : st.all[i]? = st.lo[i]? := by simp [St.all, List.getElem?_append_left hi]
  have e2 : (st.top f).all[i]? = st.lo[i]? := by simp [St.all, St.top, List.getElem?_append_left hi]
  rw [e1] at h1
  rw [e2, h1] at h2
  cases h2
  exact ⟨rfl, rfl, Nat.le_refl _⟩
 ·have hl := (List.getElem?_eq_some_iff.1 h1).1
  rw [all_len] at hl
  obtain rfl : i = st.lo.length := by omega
  rw [St.all_top] at h1
  have e2 : (st.top f).all[st.lo.length]? = some f := by simp [St.all, St.top]
  rw [e2] at h2
  cases h1
  cases h2
  exact ⟨hb, hv, hc⟩
def EmP (c : Cx) (N : Nat) (st : St) (w w' : World) : Prop := ∃ st', Stp c (N + 1) st w st' w' ∧ Qt st st' ∧ st'.tp.cn = st.tp.cn + 1
theorem emit_p {c : Cx} {N : Nat} {st : St} {op x y sl : Int} {w w' : World} (h : ∃ v', Inv c (N + 1) w' (st.top (st.tp.emit v' [.int .i64 op, .int .i64 x, .int .i64 y] sl)) ∧ Fr st (st.top (st.tp.emit v' [.int .i64 op, .int .i64 x, .int .i64 y] sl)) w w') : EmP c N st w w' := by
 obtain ⟨v', h1, h2⟩ := h
 exact ⟨_, ⟨h1, h2, sm_top rfl rfl (Nat.le_succ _)⟩, ⟨rfl, rfl, rfl⟩, rfl⟩
theorem EmP.below {c : Cx} {N : Nat} {st : St} {w w1 w' : World} (h : EmP c N st w1 w') (hi : Inv c N w st) (hb : Below w.heap.size w w1) : EmP c N st w w' := by
 obtain ⟨st', h1, h2, h3⟩ := h
 exact ⟨st', (hi.stp hb).trans h1, h2, h3⟩
set_option maxHeartbeats 2000000 in
theorem l5push_c {c : Cx} {N : Nat} {st : St} (op x y t : Int) (w : World) (h : Inv c N w st) (hN : N ≤ 1000000000) :
  Calls Tryz.prog 45 #[.pointer (some ⟨st.ab, 0, none⟩), .int .i64 op, .int .i64 x, .int .i64 y, .int .i64 t] w fun e w' => (∃ u, e = .returned u) ∧ EmP c N st w w' := by
 have HI := mkC h
 have HT := mkC (l5top_c w h hN)
 clear h
 go_enter Tryz.func45, Tryz.ntmps45
 go_wp2_with fail
 refine HT.out.mono ?_
 rintro e w1 ⟨rfl, hb1⟩
 have HB1 := mkC hb1
 have HI1 := mkC (HI.out.below hb1).1
 have e4 := (cells5 HI1.out.tpI.blk).2.2.2.2.1
 clear hb1 HT
 go_wp2_with fail
 refine (l5emit_c _ _ _ _ w1 HI1.out hN).mono ?_
 rintro e w2 ⟨rfl, hE⟩
 have HE := mkC ((emit_p hE).below HI.out HB1.out)
 clear hE e4
 go_wp2_with fail
 go_end0
 exact ⟨⟨_, rfl⟩, HE.out⟩
set_option maxHeartbeats 2000000 in
theorem l5drop_c {c : Cx} {N : Nat} {st : St} (op x t : Int) (w : World) (h : Inv c N w st) (hN : N ≤ 1000000000) :
  Calls Tryz.prog 44 #[.pointer (some ⟨st.ab, 0, none⟩), .int .i64 op, .int .i64 x, .int .i64 t] w fun e w' => e = .returned (.int .i64 (st.tp.cn : Nat)) ∧ EmP c N st w w' := by
 have HI := mkC h
 have HT := mkC (l5top_c w h hN)
 clear h
 go_enter Tryz.func44, Tryz.ntmps44
 go_wp2_with fail
 refine HT.out.mono ?_
 rintro e w1 ⟨rfl, hb1⟩
 have HB1 := mkC hb1
 have HI1 := mkC (HI.out.below hb1).1
 have e4 := (cells5 HI1.out.tpI.blk).2.2.2.2.1
 clear hb1 HT
 go_wp2_with fail
 refine (l5emit_c _ _ _ _ w1 HI1.out hN).mono ?_
 rintro e w2 ⟨rfl, hE⟩
 have HE := mkC ((emit_p hE).below HI.out HB1.out)
 clear hE e4
 go_wp2_with fail
 go_ret
 exact ⟨rfl, HE.out⟩
def DoP (c : Cx) (N : Nat) (st : St) (w w' : World) : Prop := ∃ st', Stp c (N + 1) st w st' w' ∧ Qt st st'
theorem EmP.do_ {c : Cx} {N : Nat} {st : St} {w w' : World} (h : EmP c N st w w') : DoP c N st w w' := by
 obtain ⟨st', h1, h2, _⟩ := h
 exact ⟨st', h1, h2⟩
set_option maxHeartbeats 2000000 in
theorem l5done_c {c : Cx} {N : Nat} {st : St} (tail : Bool) (w : World) (h : Inv c N w st) (hN : N ≤ 1000000000) :
  Calls Tryz.prog 46 #[.pointer (some ⟨st.ab, 0, none⟩), .bool tail] w fun e w' => (∃ u, e = .returned u) ∧ DoP c N st w w' := by
 have HI := mkC h
 clear h
 cases tail
 ·go_enter Tryz.func46, Tryz.ntmps46
  go_wp2_with fail
  go_end0
  exact ⟨⟨_, rfl⟩, st, ⟨HI.out.mono (Nat.le_succ N), Fr.refl _ _, Sm.refl _⟩, rfl, rfl, rfl⟩
 ·go_enter Tryz.func46, Tryz.ntmps46
  go_wp2_with fail
  refine (l5drop_c _ _ _ w HI.out hN).mono ?_
  rintro e w1 ⟨rfl, hE⟩
  have HE := mkC hE.do_
  clear hE
  go_wp2_with fail
  go_end0
  exact ⟨⟨_, rfl⟩, HE.out⟩
set_option maxHeartbeats 2000000 in
theorem l5wrong_c {c : Cx} {N : Nat} {st : St} (tail : Bool) (w : World) (h : Inv c N w st) (hN : N + 1 ≤ 1000000000) :
  Calls Tryz.prog 82 #[.pointer (some ⟨st.ab, 0, none⟩), .bool tail] w fun e w' => (∃ u, e = .returned u) ∧ ∃ st', Stp c (N + 2) st w st' w' ∧ st'.bad = true ∧ st'.bo = st.bo := by
 have HI := mkC h
 have e8 := (cells10 h.blk).2.2.2.2.2.2.2.1
 have f8 := (cells10 h.blk).2.2.2.2.2.2.2.2.2
 have hb1 := h.setBad
 have HB := mkC hb1
 clear h hb1
 go_enter Tryz.func82, Tryz.ntmps82
 go_wp2_with fail
 refine (l5push_c (st := { st with bad := true }) _ _ _ _ _ HB.out.1 (by omega)).mono ?_
 rintro e w1 ⟨⟨u, rfl⟩, st1, hs1, hq1, _⟩
 have HS1 := mkC hs1
 have HQ1 := mkC hq1
 have hab1 : st1.ab = st.ab := hs1.sm.ab
 clear hs1 hq1 e8 f8
 have HD := mkC (l5done_c tail w1 HS1.out.inv hN)
 rw [hab1] at HD
 clear hab1
 go_wp2_with fail
 refine HD.out.mono ?_
 rintro e w2 ⟨⟨u2, rfl⟩, st2, hs2, hq2⟩
 have HFIN : Hid (∃ st', Stp c (N + 2) st w st' w2 ∧ st'.bad = true ∧ st'.bo = st.bo) := by
  refine ⟨st2, ⟨hs2.inv, (HB.out.2.trans HS1.out.fr).trans hs2.fr, ?_⟩, ?_, ?_⟩
  ·have h1 : Sm st { st with bad := true } := ⟨rfl, rfl, rfl, rfl, (Sm.refl st).fn, Nat.le_refl _, Nat.le_refl _, Nat.le_refl _⟩
   exact (h1.trans HS1.out.sm).trans hs2.sm
  ·rw [hq2.1, HQ1.out.1]
  ·rw [hq2.2.2, HQ1.out.2.2]
 clear hs2 hq2
 go_wp2_with fail
 go_end0
 exact ⟨⟨_, rfl⟩, HFIN.out⟩
end Cp
end Go.Proofs.YtnnpfoilojicjaaGreatDoor
