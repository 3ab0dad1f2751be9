import Derived.Test.YtbcanodijcglpaaDoorMf
import Derived.Test.YtbcanodijcglpaaDoorX5
import Derived.Test.YtbcanodijcglpaaDoorQ1
import Derived.Test.YtbcanodijcglpaaDoorM1
import Derived.Deep.AppendLies
import Derived.Deep.RegionLaw
namespace Go.Proofs.YtbcanodijcglpaaDoor
open Go.RowKit Ch1
theorem fnFacts {m : Md} (h : GoodM m) {i : Nat} (hi : i < m.funcs.length) : (m.funcs.getD i fn0).free.length ≤ 50 ∧ (m.funcs.getD i fn0).code.length ≤ 5000 := by
  refine ⟨(h.sz.fn i hi).fr, ?_⟩
  have h1 := fSum_le m.funcs (i + 1) (by omega)
  have h2 := fSum_succ m.funcs i hi
  have := h.sz.sum
  omega
/-- Every block but the row's own stands. -/
def But (w w' : World) (v : Value) : Prop := ∀ k, k < w.heap.size → some k ≠ v.ownBlock → w'.heap[k]? = w.heap[k]?
theorem Ow.mono {w : World} {B B' : Nat} {v : Value} {xs : List Int} (h : Ow w B v xs) (hB : B' ≤ B) : Ow w B' v xs := by
  obtain ⟨h1, h2 | ⟨g, cap, cur, hv, hg, r⟩⟩ := h
  · exact ⟨h1, Or.inl h2⟩
  · exact ⟨h1, Or.inr ⟨g, cap, cur, hv, Nat.le_trans hB hg, r⟩⟩
theorem app2_law (w : World) {ops : Array Oper} {rest : List Oper} {o : Oper} {a : Act} {Q : Exit → Act → World → Prop} (hgd : o.guard = none) (s x : Operand)
    (ho : o.op = .call { callee := .builtin .append, args := #[s, x], argTypes := #[27, 27] }) (B : Nat) (v : Value) (xs ys : List Int) (hs : a.eval s = v) (hown : Ow w B v xs) (b' o' m c : Nat) (hx : a.eval x = .slice (some ⟨b', o', none⟩) m c)
    (hy : By w (some ⟨b', o', none⟩) m c ys) (hlen : xs.length + m ≤ 1000000000) (hB : B ≤ w.heap.size)
    (h : ∀ v' w', Ow w' B v' (xs ++ ys) → Below B w w' → But w w' v → wpList Tryd.prog ops Q rest (a.put o.dst v') w') : wpList Tryd.prog ops Q (o :: rest) a w :=
  app_law w hgd s x ho B v xs ys hs hown b' o' m c hx hy hlen hB (fun v' w' h1 h2 h3 => h v' w' h1 h2 (fun k hk hne => h3.block k hk hne))
theorem app1_law (w : World) {ops : Array Oper} {rest : List Oper} {o : Oper} {a : Act} {Q : Exit → Act → World → Prop} (hgd : o.guard = none) (s x : Operand)
    (ho : o.op = .call { callee := .builtin .append, args := #[s, x], argTypes := #[27, 27] }) (B : Nat) (v : Value) (xs : List Int) (y : Int) (h0 : 0 ≤ y) (h1 : y < 256) (hs : a.eval s = v) (hown : Ow w B v xs) (hx : a.eval x = .slice (some ⟨w.heap.size, 0, none⟩) 1 1)
    (hlen : xs.length ≤ 500000000) (hB : B ≤ w.heap.size)
    (h : ∀ v' w', Ow w' B v' (xs ++ [y]) → Below B w w' → But w w' v → wpList Tryd.prog ops Q rest (a.put o.dst v') w') : wpList Tryd.prog ops Q (o :: rest) a (w.alloc (.cells #[.int .u8 y] 5)) :=
  app_law _ hgd s x ho B v xs [y] hs (hown.below (below1 _ _)) w.heap.size 0 1 1 hx (By.lit w y h0 h1) (by omega) (by simp; omega) (fun v' w' k1 k2 k3 => h v' w' k1 (((below1 _ _).mono hB).trans k2) (fun k hk hne => (k3.block k (by simp; omega) hne).trans ((below1 w _).block k hk)))
theorem own_ne {w : World} {B : Nat} {v : Value} {xs : List Int} {fb : Nat} {a : Array Value} {t : TypeId} (h : Ow w B v xs) (hf : w.heap[fb]? = some (.cells a t)) (ht : t ≠ 5) : some fb ≠ v.ownBlock := by
  intro e
  obtain ⟨_, ⟨rfl, _⟩ | ⟨g, cap, cur, rfl, hg, hh, _⟩⟩ := h
  · cases e
  · cases e
    rw [hh] at hf
    cases hf
    exact ht rfl
/-- append onto a full row: the answer is a new row. -/
theorem appG_law (w : World) {ops : Array Oper} {rest : List Oper} {o : Oper} {a : Act} {Q : Exit → Act → World → Prop} (hgd : o.guard = none) (s x : Operand)
    (ho : o.op = .call { callee := .builtin .append, args := #[s, x], argTypes := #[27, 27] }) (b off n : Nat) (xs ys : List Int) (hs : a.eval s = .slice (some ⟨b, off, none⟩) n n) (hxs : By w (some ⟨b, off, none⟩) n n xs) (b' o' m c : Nat) (hx : a.eval x = .slice (some ⟨b', o', none⟩) m c)
    (hy : By w (some ⟨b', o', none⟩) m c ys) (hm : 0 < m) (hlen : n + m ≤ 1000000000)
    (h : ∀ v' w', Ow w' w.heap.size v' (xs ++ ys) → Below w.heap.size w w' → wpList Tryd.prog ops Q rest (a.put o.dst v') w') : wpList Tryd.prog ops Q (o :: rest) a w := by
  obtain ⟨i5, hi5, hz5, hs5, hb5⟩ := info5'
  have hl := hy.len
  have hl2 := hxs.len
  have cellsOf : ∀ {bb oo nn cc : Nat} {zs : List Int}, By w (some ⟨bb, oo, none⟩) nn cc zs → ∀ j u, (zs.map (Value.int .u8))[j]? = some u → w.cell? ((⟨bb, oo, none⟩ : Addr).add j) = some u := by
    intro bb oo nn cc zs hz j u hu
    have hzl := hz.len
    by_cases hj : j < zs.length
    · obtain ⟨b, o, e, g⟩ := hz.cells (by omega)
      cases e
      have := g j (by omega)
      rw [Go.WideShapes.add_plain, this, ← hu]
      simp [List.getD, List.getElem?_eq_getElem hj]
    · rw [List.getElem?_eq_none (by simpa using Nat.le_of_not_lt hj)] at hu; cases hu
  refine wpList_append_grows w hgd s x 27 ho 5 i5 (.int .u8 0) 1 1 Tryd.underlying27 hi5 hz5 hs5 hb5 rfl (by decide) (some ⟨b, off, none⟩) n n (xs.map (.int .u8)) hs (fun h => by cases h) (by simp [hl2]) (fun b2 e j u hu => (by cases e; exact cellsOf hxs j u hu)) ⟨b', o', none⟩ m c (ys.map (.int .u8)) hx (by simp [hl]) (cellsOf hy) ?_ (by omega) (by unfold maxLen; omega) (by omega) ?_
  · intro u hu
    obtain ⟨n, _, rfl⟩ := List.mem_map.1 hu
    rfl
  · intro v' w' h1 h2
    exact h v' w' (Ow.app h1 hl2 hl rfl rfl) ((Below.refl _ w).grown h2 (Nat.le_refl _) (fun k hk => by cases hk))
end Go.Proofs.YtbcanodijcglpaaDoor
namespace Go.Proofs.YtbcanodijcglpaaDoor
open Go.RowKit Ch1
/-- The lowest n bytes of a number, the lowest first. -/
def leZ : Nat → Int → List Int
  | 0, _ => []
  | n + 1, v => (v % 256) :: leZ n (v / 256)
/-- A number without its lowest k bytes. -/
def shZ : Nat → Int → Int
  | 0, v => v
  | k + 1, v => shZ k v / 256
theorem shZ_head : ∀ (k : Nat) (v : Int), shZ k (v / 256) = shZ k v / 256
  | 0, _ => rfl
  | k + 1, v => by show shZ k (v / 256) / 256 = shZ k v / 256 / 256; rw [shZ_head k v]
theorem leZ_len : ∀ (n : Nat) (v : Int), (leZ n v).length = n
  | 0, _ => rfl
  | n + 1, v => by simp [leZ, leZ_len n]
theorem leZ_rg : ∀ (n : Nat) (v : Int), Rg (leZ n v)
  | 0, _ => fun x hx => by cases hx
  | n + 1, v => fun x hx => by
    unfold leZ at hx
    rcases List.mem_cons.1 hx with h | h
    · omega
    · exact leZ_rg n _ x h
theorem leZ_snoc : ∀ (k : Nat) (v : Int), leZ (k + 1) v = leZ k v ++ [shZ k v % 256]
  | 0, v => rfl
  | k + 1, v => by
    show (v % 256) :: leZ (k + 1) (v / 256) = (v % 256) :: leZ k (v / 256) ++ [shZ k v / 256 % 256]
    rw [leZ_snoc k (v / 256), shZ_head]
    rfl
theorem leZ_u2 (v : Int) : leZ 2 (v % 18446744073709551616) = leZ 2 v := by
  simp only [leZ, List.cons.injEq, and_true]
  omega
theorem leZ_u4 (v : Int) : leZ 4 (v % 18446744073709551616) = leZ 4 v := by
  simp only [leZ, List.cons.injEq, and_true]
  omega
theorem leZ_u8 (v : Int) : leZ 8 (v % 18446744073709551616) = leZ 8 v := by
  simp only [leZ, List.cons.injEq, and_true]
  omega
theorem shZ_rng (k : Nat) (v : Int) (h0 : 0 ≤ v) : 0 ≤ shZ k v ∧ shZ k v ≤ v := by
  induction k with
  | zero => exact ⟨h0, Int.le_refl _⟩
  | succ k ih => show 0 ≤ shZ k v / 256 ∧ shZ k v / 256 ≤ v; omega
/-- A datum's bytes. -/
def datZ (d : Dt) : List Int := (d.kind % 256) :: (if d.kind = 0 then leZ 8 d.n else if d.kind = 1 then [d.n % 256] else if d.kind = 2 then ((d.text.length : Int) % 256) :: d.text else leZ 2 d.count)
/-- The bytes of the first k data. -/
def dsZ (ds : List Dt) (k : Nat) : List Int := (List.range k).flatMap (fun i => datZ (ds.getD i dt0))
def cstZ (ds : List Dt) : List Int := leZ 2 ds.length ++ dsZ ds ds.length
def ccZ (ls : List (List Dt)) (k : Nat) : List Int := (List.range k).flatMap (fun i => cstZ (ls.getD i []))
def boxZ (b : Bool) : Int := if b then 1 else 0
def frZ (bs : List Bool) (k : Nat) : List Int := (List.range k).map (fun i => boxZ (bs.getD i false))
def isZ (x : In) : List Int := ((x.op % 256) :: leZ 2 x.a) ++ [x.b % 256]
def cdZ (xs : List In) (k : Nat) : List Int := (List.range k).flatMap (fun i => isZ (xs.getD i in0))
def fcZ (f : Fn) : List Int := ((([f.params % 256, (f.free.length : Int) % 256] ++ frZ f.free f.free.length) ++ leZ 2 f.code.length) ++ cdZ f.code f.code.length)
def ffZ (fs : List Fn) (k : Nat) : List Int := (List.range k).flatMap (fun i => fcZ (fs.getD i fn0))
/-- An image ahead of its checksum. -/
def bdZ (m : Md) : List Int := (((([83, 76, 65, 49] ++ leZ 2 m.globals) ++ leZ 2 m.consts.length) ++ ccZ m.consts m.consts.length) ++ leZ 2 m.funcs.length) ++ ffZ m.funcs m.funcs.length
/-- An image. -/
def imZ (m : Md) : List Int := bdZ m ++ leZ 4 (crcZ (bdZ m))
theorem flat_succ {α : Type} (f : Nat → List α) (k : Nat) : (List.range (k + 1)).flatMap f = (List.range k).flatMap f ++ f k := by rw [List.range_succ, List.flatMap_append]; simp
theorem dsZ_succ (ds : List Dt) (k : Nat) : dsZ ds (k + 1) = dsZ ds k ++ datZ (ds.getD k dt0) := flat_succ _ k
theorem ccZ_succ (ls : List (List Dt)) (k : Nat) : ccZ ls (k + 1) = ccZ ls k ++ cstZ (ls.getD k []) := flat_succ _ k
theorem cdZ_succ (xs : List In) (k : Nat) : cdZ xs (k + 1) = cdZ xs k ++ isZ (xs.getD k in0) := flat_succ _ k
theorem ffZ_succ (fs : List Fn) (k : Nat) : ffZ fs (k + 1) = ffZ fs k ++ fcZ (fs.getD k fn0) := flat_succ _ k
theorem frZ_succ (bs : List Bool) (k : Nat) : frZ bs (k + 1) = frZ bs k ++ [boxZ (bs.getD k false)] := by unfold frZ; rw [List.range_succ, List.map_append]; rfl
theorem frZ_len (bs : List Bool) (k : Nat) : (frZ bs k).length = k := by unfold frZ; simp
theorem isZ_len (x : In) : (isZ x).length = 4 := by unfold isZ; simp [leZ_len]
theorem cdZ_len (xs : List In) (k : Nat) : (cdZ xs k).length = 4 * k := by
  induction k with
  | zero => rfl
  | succ k ih => rw [cdZ_succ, List.length_append, ih, isZ_len]; omega
theorem datZ_len (d : Dt) : (datZ d).length ≤ 9 + d.text.length := by
  unfold datZ
  rw [List.length_cons]
  split
  · rw [leZ_len]; omega
  · split
    · simp; omega
    · split
      · simp; omega
      · rw [leZ_len]; omega
end Go.Proofs.YtbcanodijcglpaaDoor
namespace Go.Proofs.YtbcanodijcglpaaDoor
open Go.RowKit Ch1
/-- Bytes that are appended to: an own row, or a full one. -/
def Sw (w : World) (B : Nat) (v : Value) (xs : List Int) : Prop := Ow w B v xs ∨ ∃ b n arr mk, B ≤ b ∧ (0 < n ∧ n ≤ 4) ∧ v = .slice (some ⟨b, 0, none⟩) n n ∧ w.heap[b]? = some (.cells arr 5 mk) ∧ By w (some ⟨b, 0, none⟩) n n xs
theorem sw_ne {w : World} {B : Nat} {v : Value} {xs : List Int} {k : Nat} {a : Array Value} {t : TypeId} (h : Sw w B v xs) (hf : w.heap[k]? = some (.cells a t)) (ht : t ≠ 5) : some k ≠ v.ownBlock := by
  rcases h with h | ⟨b, n, arr, mk, hb, hn, rfl, hh, _⟩
  · exact own_ne h hf ht
  · intro e
    cases e
    rw [hh] at hf
    cases hf
    exact ht rfl
theorem Sw.below {w w' : World} {B : Nat} {v : Value} {xs : List Int} (h : Sw w B v xs) (hb : Below w.heap.size w w') : Sw w' B v xs := by
  rcases h with h | ⟨b, n, arr, mk, h1, h2, h3, h4, h5⟩
  · exact Or.inl (h.below hb)
  · exact Or.inr ⟨b, n, arr, mk, h1, h2, h3, (hb.block b (Array.getElem?_eq_some_iff.1 h4).1).trans h4, h5.below hb⟩
theorem appE_law (w : World) {ops : Array Oper} {rest : List Oper} {o : Oper} {a : Act} {Q : Exit → Act → World → Prop} (hgd : o.guard = none) (s x : Operand)
    (ho : o.op = .call { callee := .builtin .append, args := #[s, x], argTypes := #[27, 27] }) (B : Nat) (v : Value) (xs : List Int) (y : Int) (h0 : 0 ≤ y) (h1 : y < 256) (hs : a.eval s = v) (hown : Sw w B v xs) (hx : a.eval x = .slice (some ⟨w.heap.size, 0, none⟩) 1 1)
    (hlen : xs.length ≤ 500000000) (hB : B ≤ w.heap.size)
    (h : ∀ v' w', Ow w' B v' (xs ++ [y]) → Below B w w' → But w w' v → wpList Tryd.prog ops Q rest (a.put o.dst v') w') : wpList Tryd.prog ops Q (o :: rest) a (w.alloc (.cells #[.int .u8 y] 5)) := by
  rcases hown with hown | ⟨b, n, arr, mk, hb, hn, rfl, hh, hy⟩
  · exact app1_law w hgd s x ho B v xs y h0 h1 hs hown hx hlen hB h
  · have hl := hy.len
    refine appG_law _ hgd s x ho b 0 n xs [y] hs (hy.below (below1 _ _)) w.heap.size 0 1 1 hx (By.lit w y h0 h1) (by omega) (by omega) (fun v' w' k1 k2 => ?_)
    exact h v' w' (k1.mono (by simp; omega)) (((below1 _ _).mono hB).trans (k2.mono (by simp; omega))) (fun k hk _ => (k2.block k (by simp; omega)).trans ((below1 w _).block k hk))
theorem Sw.own {w : World} {B : Nat} {v : Value} {xs : List Int} (h : Sw w B v xs) (hl : 4 < xs.length) : Ow w B v xs := by
  rcases h with h | ⟨b, n, arr, mk, h1, h2, h3, h4, h5⟩
  · exact h
  · have := h5.len; omega
/-- append(v, x...) onto an own row of bytes, in a region that draws. -/
theorem appR_law (w : World) {ops : Array Oper} {o : Oper} {a : Act} {K : Act → World → Prop} {Q : Exit → Act → World → Prop} {E : Prop} (hgd : o.guard = none) (s x : Operand)
    (ho : o.op = .call { callee := .builtin .append, args := #[s, x], argTypes := #[27, 27] }) (B : Nat) (v : Value) (xs ys : List Int) (hs : a.eval s = v) (hown : Ow w B v xs) (b' o' m c : Nat) (hx : a.eval x = .slice (some ⟨b', o', none⟩) m c)
    (hy : By w (some ⟨b', o', none⟩) m c ys) (hm : 0 < m) (hlen : xs.length + m ≤ 1000000000) (hB : B ≤ w.heap.size)
    (h : ∀ v' w', Ow w' B v' (xs ++ ys) → Below B w w' → But w w' v → K (a.put o.dst v') w') : if Region.wanted o (yielded ops a.tmps) = true then Oper.wp Tryd.prog o a w K Q else E := by
  obtain ⟨i5, hi5, hz5, hs5, hb5⟩ := info5'
  have hl := hy.len
  refine step_append_lies (P := Tryd.prog) w hgd s x 27 ho B 5 i5 (.int .u8 0) 1 1 Tryd.underlying27 hi5 hz5 hs5 hb5 rfl (by decide) v xs.length (xs.map (.int .u8)) hs hown ⟨b', o', none⟩ m c (ys.map (.int .u8)) hx (by simp [hl]) ?_ ?_ hm (by unfold maxLen; omega) (by omega) hB _ rfl ?_
  · intro j u hu
    by_cases hj : j < ys.length
    · obtain ⟨b, o, e, g⟩ := hy.cells (by omega)
      cases e
      have := g j (by omega)
      rw [Go.WideShapes.add_plain, this, ← hu]
      simp [List.getD, List.getElem?_eq_getElem hj]
    · rw [List.getElem?_eq_none (by simpa using Nat.le_of_not_lt hj)] at hu; cases hu
  · intro u hu
    obtain ⟨n, _, rfl⟩ := List.mem_map.1 hu
    rfl
  · intro g cap w' h1 h2 _ _
    exact h _ w' (Ow.app h1 rfl hl rfl rfl) ((Below.refl _ w).grown h2 hB (own_block_ge hown)) (fun k hk hne => h2.block k hk hne)
/-- The writer in block b, and what it has written. -/
structure Wt (w : World) (b B : Nat) (v : Value) (xs : List Int) : Prop where
  blk : w.heap[b]? = some (.cells #[v] 45)
  ge : B ≤ b
  sw : Sw w B v xs
theorem Wt.lt {w : World} {b B : Nat} {v : Value} {xs : List Int} (h : Wt w b B v xs) : b < w.heap.size := (Array.getElem?_eq_some_iff.1 h.blk).1
theorem cell_of_blk1 {w : World} {b : Nat} {v : Value} {t : TypeId} (e : w.heap[b]? = some (.cells #[v] t)) : w.cell? ⟨b, 0, none⟩ = some v := by simp [World.cell?, e]
theorem frozen_of_blk1 {w : World} {b : Nat} {v : Value} {t : TypeId} (e : w.heap[b]? = some (.cells #[v] t)) : w.frozen? ⟨b, 0, none⟩ = false := by simp [World.frozen?, e]
theorem Wt.below {w w' : World} {b B : Nat} {v : Value} {xs : List Int} (h : Wt w b B v xs) (hb : Below w.heap.size w w') : Wt w' b B v xs := ⟨(hb.block b h.lt).trans h.blk, h.ge, h.sw.below hb⟩
/-- Only the writer and its row have turned. -/
structure Sv (b B : Nat) (w w' : World) : Prop where
  below : Below B w w'
  kept : ∀ (k : Nat) (arr : Array Value) (t : TypeId), w.heap[k]? = some (.cells arr t) → t ≠ 5 → k ≠ b → w'.heap[k]? = some (.cells arr t)
theorem Sv.refl (b B : Nat) (w : World) : Sv b B w w := ⟨Below.refl _ _, fun _ _ _ h _ _ => h⟩
theorem Sv.trans {b B : Nat} {u v w : World} (h : Sv b B u v) (k : Sv b B v w) : Sv b B u w := ⟨h.below.trans k.below, fun x arr t e h1 h2 => k.kept x arr t (h.kept x arr t e h1 h2) h1 h2⟩
theorem Sv.of_below {b B : Nat} {w w' : World} (h : Below w.heap.size w w') (hB : B ≤ w.heap.size) : Sv b B w w' := ⟨h.mono hB, fun k _ _ e _ _ => (h.block k (Array.getElem?_eq_some_iff.1 e).1).trans e⟩
theorem Ow.of_heap {w w' : World} {B : Nat} {v : Value} {xs : List Int} (h : Ow w B v xs) (hk : ∀ k, v.ownBlock = some k → w'.heap[k]? = w.heap[k]?) : Ow w' B v xs := by
  obtain ⟨h1, h2 | ⟨g, cap, cur, rfl, hg, hh, r⟩⟩ := h
  · exact ⟨h1, Or.inl h2⟩
  · exact ⟨h1, Or.inr ⟨g, cap, cur, rfl, hg, by rw [hk g rfl]; exact hh, r⟩⟩
theorem Ow.form {w : World} {B : Nat} {v : Value} {xs : List Int} (h : Ow w B v xs) : ∃ p n c, v = .slice p n c := by
  obtain ⟨_, ⟨rfl, _⟩ | ⟨g, cap, cur, rfl, _⟩⟩ := h
  · exact ⟨_, _, _, rfl⟩
  · exact ⟨_, _, _, rfl⟩
/-- Behind 'w.out = append(w.out, ..)'. -/
theorem Wt.put {w w' : World} {b B : Nat} {v v' : Value} {xs ys : List Int} (h : Wt w b B v xs) (ho : Ow w' B v' ys) (hb : Below B w w') (hbt : But w w' v) : Wt (w'.setCell ⟨b, 0, none⟩ v') b B v' ys ∧ Sv b B w (w'.setCell ⟨b, 0, none⟩ v') ∧ w'.cell? ⟨b, 0, none⟩ = some v ∧ w'.frozen? ⟨b, 0, none⟩ = false := by
  have hne := sw_ne h.sw h.blk (by decide)
  have e' : w'.heap[b]? = some (.cells #[v] 45) := (hbt b h.lt hne).trans h.blk
  refine ⟨⟨?_, h.ge, Or.inl (ho.of_heap fun k hk => Below.heap_setCell w' _ v' k ?_)⟩, ⟨hb.setCell (by simpa using h.ge) _, fun k arr t e ht hk => ?_⟩, cell_of_blk1 e', frozen_of_blk1 e'⟩
  · obtain ⟨hlt, e2⟩ := Array.getElem?_eq_some_iff.1 e'
    simp [World.setCell, Array.getElem_modify, e2, hlt]
  · intro hh
    simp only at hh
    subst hh
    exact own_ne ho e' (by decide) hk.symm
  · rw [Below.heap_setCell w' ⟨b, 0, none⟩ v' k (by simpa using hk)]
    exact (hbt k (Array.getElem?_eq_some_iff.1 e).1 (sw_ne h.sw e ht)).trans e
/-- What put writes of the first k numbers. -/
def ptZ (size : Nat) (ns : List Int) (k : Nat) : List Int := (List.range k).flatMap (fun i => leZ size (ns.getD i 0))
theorem ptZ_succ (size : Nat) (ns : List Int) (k : Nat) : ptZ size ns (k + 1) = ptZ size ns k ++ leZ size (ns.getD k 0) := flat_succ _ k
theorem ptZ_len (size : Nat) (ns : List Int) (k : Nat) : (ptZ size ns k).length = size * k := by
  induction k with
  | zero => rfl
  | succ k ih => rw [ptZ_succ, List.length_append, ih, leZ_len, Nat.mul_succ]
def PutP (b B : Nat) (zs : List Int) (w w' : World) : Prop := ∃ v', Wt w' b B v' zs ∧ Sv b B w w'
/-- At the head of the loop over the numbers. -/
def PoI (b B n size : Nat) (ns xs : List Int) (w : World) (iv : Value) (wr : World) : Prop := ∃ k : Nat, k ≤ n ∧ iv = .int .i64 k ∧ Hid (PutP b B (xs ++ ptZ size ns k) w wr)
def PoJ (b B size : Nat) (x : Int) (acc : List Int) (w : World) (nv jv : Value) (wr : World) : Prop := ∃ j : Nat, j ≤ size ∧ jv = .int .i64 j ∧ nv = .int .i64 (shZ j x) ∧ Hid (PutP b B (acc ++ leZ j x) w wr)
set_option maxRecDepth 20000 in
set_option maxHeartbeats 2000000 in
theorem put_c (b nb B n size : Nat) (ns xs : List Int) (v : Value) (arr : Array Value) (w : World) (hW : Wt w b B v xs) (ha : w.heap[nb]? = some (.cells arr 3)) (hn : ∀ j, j < n → arr[j]? = some (.int .i64 (ns.getD j 0))) (hsz : size ≤ 8) (hn8 : n ≤ 8) (hB : B ≤ w.heap.size) (hlen : xs.length ≤ 400000000) :
    Calls Tryd.prog 20 #[.pointer (some ⟨b, 0, none⟩), .int .i64 size, .slice (some ⟨nb, 0, none⟩) n n] w fun e w' => e = .returned (.tuple #[]) ∧ PutP b B (xs ++ ptZ size ns n) w w' := by
  have HB : Hid (∀ wr, Below B w wr → B ≤ wr.heap.size) := fun wr h => Nat.le_trans hB h.size
  have HC : Hid (∀ wr j, Sv b B w wr → j < n → wr.cell? ⟨nb, j, none⟩ = some (.int .i64 (ns.getD j 0))) := by
    intro wr j hs hj
    have hne : nb ≠ b := by
      intro e
      subst e
      rw [hW.blk] at ha
      cases ha
    have := hs.kept nb arr 3 ha (by decide) hne
    simp [World.cell?, this, hn j hj]
  have HS : Hid (PutP b B (xs ++ ptZ size ns 0) w w) := ⟨v, by show Wt w b B v (xs ++ []); rw [List.append_nil]; exact hW, Sv.refl _ _ _⟩
  clear hW ha hn hB
  go_enter Tryd.func20, Tryd.ntmps20
  go_wp2
  go_loopw [10] (fun iv wr => PoI b B n size ns xs w iv wr) (fun iv _ => n - (intOf iv).toNat)
  case atStart => exact ⟨0, Nat.zero_le _, rfl, HS⟩
  case round =>
    clear HS
    obtain ⟨k, hk, rfl, hP⟩ := hrel
    by_cases hlt : k < n
    · have g1 := HC.out wr k hP.out.choose_spec.2 hlt
      have HX : Hid (xs ++ ptZ size ns (k + 1) = (xs ++ ptZ size ns k) ++ leZ size (ns.getD k 0)) := by unfold Hid; rw [ptZ_succ, List.append_assoc]
      have hacc : (xs ++ ptZ size ns k).length ≤ 400000100 := by
        rw [List.length_append, ptZ_len]
        have : size * k ≤ 8 * 8 := Nat.mul_le_mul hsz (by omega)
        omega
      generalize ns.getD k 0 = x at g1 HX
      generalize xs ++ ptZ size ns k = acc at hP HX hacc
      go_wp2
      go_loopw [7, 15] (fun nv jv wr2 => PoJ b B size x acc w nv jv wr2) (fun _ jv _ => size - (intOf jv).toNat)
      case atStart => exact ⟨0, Nat.zero_le _, rfl, rfl, by unfold Hid; show PutP b B (acc ++ []) w wr; rw [List.append_nil]; exact hP.out⟩
      case round =>
        clear hP g1
        obtain ⟨j, hj, rfl, rfl, hP⟩ := hrel
        by_cases hjl : j < size
        · obtain ⟨v1, hw1, hs1⟩ := hP.out
          have HW1 : Hid (Wt wr b B v1 (acc ++ leZ j x)) := hw1
          have HS1 : Hid (Sv b B w wr) := hs1
          have hB1 := HB.out _ hs1.below
          have c0 := cell_of_blk1 hw1.blk
          have hl1 : (acc ++ leZ j x).length ≤ 500000000 := by rw [List.length_append, leZ_len]; omega
          have HN : Hid (acc ++ leZ (j + 1) x = (acc ++ leZ j x) ++ [shZ j x % 256]) := by unfold Hid; rw [leZ_snoc, List.append_assoc]
          have HSH : Hid (shZ (j + 1) x = shZ j x / 256) := rfl
          clear hw1 hs1 hP
          generalize acc ++ leZ j x = ac2 at HW1 hl1 HN
          generalize shZ j x = y at HN HSH
          go_wp2_with (at_builtin; refine appE_law _ rfl (.tmp 21) (.tmp 24) rfl B v1 ac2 (y % 256) (by omega) (by omega) (by simp [Act.eval]) HW1.out.sw (by simp [Act.eval]) hl1 hB1 ?_; intro v2 w2 ho2 hb2 hbt2; obtain ⟨p2, n2, q2, rfl⟩ := ho2.form; obtain ⟨hw3, hs3, c2, f2⟩ := HW1.out.put ho2 hb2 hbt2; have HW3 : Hid (Wt (w2.setCell ⟨b, 0, none⟩ (.slice p2 n2 q2)) b B (.slice p2 n2 q2) (ac2 ++ [y % 256])) := hw3; have HS3 : Hid (Sv b B wr (w2.setCell ⟨b, 0, none⟩ (.slice p2 n2 q2))) := hs3; clear ho2 hb2 hbt2 hw3 hs3)
          exact ⟨⟨j + 1, by omega, by go_num, by rw [HSH.out], ⟨_, by rw [HN.out]; exact HW3.out, HS1.out.trans HS3.out⟩⟩, by simp [intOf]; omega⟩
        · obtain rfl : j = size := by omega
          go_wp2
          exact ⟨⟨k + 1, by omega, by go_num, by unfold Hid; rw [HX.out]; exact hP.out⟩, by simp [intOf]; omega⟩
    · obtain rfl : k = n := by omega
      go_wp2
      go_end0
      exact ⟨rfl, hP.out⟩
theorem putZ1 (size : Nat) (x : Int) : ptZ size [x] 1 = leZ size x := by unfold ptZ; simp
theorem putZ2 (size : Nat) (x y : Int) : ptZ size [x, y] 2 = leZ size x ++ leZ size y := by unfold ptZ; simp [List.range_succ]
/-- w.put(size, x), the number in a new block. -/
theorem put1_c (b B size nb : Nat) (x : Int) (xs : List Int) (v : Value) (w : World) (hnb : nb = w.heap.size) (hW : Wt w b B v xs) (hsz : size ≤ 8) (hB : B ≤ w.heap.size) (hlen : xs.length ≤ 400000000) :
    Calls Tryd.prog 20 #[.pointer (some ⟨b, 0, none⟩), .int .i64 size, .slice (some ⟨nb, 0, none⟩) 1 1] (w.alloc (.cells #[.int .i64 x] 3)) fun e w' => e = .returned (.tuple #[]) ∧ PutP b B (xs ++ leZ size x) w w' := by
  subst hnb
  refine (put_c b w.heap.size B 1 size [x] xs v #[.int .i64 x] _ (hW.below (below1 _ _)) (Go.Deep.blk_alloc_new _ _) (fun j hj => by obtain rfl : j = 0 := (by omega); rfl) hsz (by omega) (by simp; omega) hlen).mono ?_
  rintro e w' ⟨rfl, v', h1, h2⟩
  rw [putZ1] at h1
  exact ⟨rfl, v', h1, (Sv.of_below (below1 _ _) hB).trans h2⟩
theorem put2_c (b B size nb : Nat) (x y : Int) (xs : List Int) (v : Value) (w : World) (hnb : nb = w.heap.size) (hW : Wt w b B v xs) (hsz : size ≤ 8) (hB : B ≤ w.heap.size) (hlen : xs.length ≤ 400000000) :
    Calls Tryd.prog 20 #[.pointer (some ⟨b, 0, none⟩), .int .i64 size, .slice (some ⟨nb, 0, none⟩) 2 2] (w.alloc (.cells #[.int .i64 x, .int .i64 y] 3)) fun e w' => e = .returned (.tuple #[]) ∧ PutP b B (xs ++ (leZ size x ++ leZ size y)) w w' := by
  subst hnb
  refine (put_c b w.heap.size B 2 size [x, y] xs v #[.int .i64 x, .int .i64 y] _ (hW.below (below1 _ _)) (Go.Deep.blk_alloc_new _ _) (fun j hj => by rcases (show j = 0 ∨ j = 1 by omega) with rfl | rfl <;> rfl) hsz (by omega) (by simp; omega) hlen).mono ?_
  rintro e w' ⟨rfl, v', h1, h2⟩
  rw [putZ2] at h1
  exact ⟨rfl, v', h1, (Sv.of_below (below1 _ _) hB).trans h2⟩
set_option maxHeartbeats 1000000 in
theorem truth_c (b B : Nat) (t : Bool) (xs : List Int) (v : Value) (w : World) (hW : Wt w b B v xs) (hB : B ≤ w.heap.size) (hlen : xs.length ≤ 400000000) :
    Calls Tryd.prog 42 #[.pointer (some ⟨b, 0, none⟩), .bool t] w fun e w' => e = .returned (.tuple #[]) ∧ PutP b B (xs ++ [boxZ t]) w w' := by
  have HW : Hid (Wt w b B v xs) := hW
  clear hW
  cases t
  · go_enter Tryd.func42, Tryd.ntmps42
    go_wp2_with fail
    refine (put1_c b B 1 _ 0 xs v w rfl HW.out (by omega) hB hlen).mono ?_
    rintro e w' ⟨rfl, hp⟩
    have HP : Hid (PutP b B (xs ++ [boxZ false]) w w') := hp
    clear hp
    go_wp2
    go_end0
    exact ⟨rfl, HP.out⟩
  · go_enter Tryd.func42, Tryd.ntmps42
    go_wp2_with fail
    refine (put1_c b B 1 _ 1 xs v w rfl HW.out (by omega) hB hlen).mono ?_
    rintro e w' ⟨rfl, hp⟩
    have HP : Hid (PutP b B (xs ++ [boxZ true]) w w') := hp
    clear hp
    go_wp2
    go_end0
    exact ⟨rfl, HP.out⟩
end Go.Proofs.YtbcanodijcglpaaDoor
