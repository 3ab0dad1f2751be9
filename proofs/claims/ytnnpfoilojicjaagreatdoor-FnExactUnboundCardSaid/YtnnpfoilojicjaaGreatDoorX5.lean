import Derived.Test.YtnnpfoilojicjaaGreatDoorWd
import Derived.Test.YtnnpfoilojicjaaGreatDoorG0
import Derived.Lib.AppendStr
import Derived.Lib.SlBytesConst
namespace Go.Proofs.YtnnpfoilojicjaaGreatDoor
open Go.RowKit Ch1
def Ow (w : World) (B : Nat) (v : Value) (xs : List Int) : Prop := w.ownsRow B 5 1 v xs.length (xs.map (Value.int .u8))
theorem ownsRow_below {w w' : World} {B : Nat} {e : TypeId} {s n : Nat} {v : Value} {xs : List Value} (h : w.ownsRow B e s v n xs) (hb : Below w.heap.size w w') : w'.ownsRow B e s v n xs := by
 obtain ⟨h1, h2 | ⟨g, cap, cur, hv, hg, hh, r⟩⟩ := h
 ·exact ⟨h1, Or.inl h2⟩
 ·refine ⟨h1, Or.inr ⟨g, cap, cur, hv, hg, ?_, r⟩⟩
  rw [hb.block g (Array.getElem?_eq_some_iff.1 hh).1]; exact hh
theorem Ow.nil (w : World) (B : Nat) : Ow w B (.slice none 0 0) [] := ⟨rfl, Or.inl ⟨rfl, rfl⟩⟩
theorem Ow.by_ {w : World} {B : Nat} {v : Value} {xs : List Int} (h : Ow w B v xs) (hr : ∀ i, 0 ≤ xs.getD i 0 ∧ xs.getD i 0 < 256) : ∃ p c, v = .slice p xs.length c ∧ By w p xs.length c xs ∧ (∀ a, p = some a → a.block < w.heap.size ∧ B ≤ a.block) := by
 obtain ⟨_, ⟨rfl, h0⟩ | ⟨g, cap, cur, rfl, hg, hh, h1, h2, h3, h4⟩⟩ := h
 ·obtain rfl : xs = [] := List.length_eq_zero_iff.1 h0
  exact ⟨none, 0, rfl, ⟨rfl, Nat.le_refl _, by unfold maxLen; omega, hr, fun h => absurd h (Nat.lt_irrefl 0), fun a ha => by cases ha⟩, fun a ha => by cases ha⟩
 ·have hlt := (Array.getElem?_eq_some_iff.1 hh).1
  refine ⟨some ⟨g, 0, none⟩, cap, rfl, ⟨rfl, h1, h2, hr, fun _ => ⟨g, 0, rfl, fun i hi => ?_⟩, fun a ha _ => by cases ha; exact hlt⟩, fun a ha => by cases ha; exact ⟨hlt, hg⟩⟩
  have : cur.toList[i]? = some (.int .u8 (xs.getD i 0)) := by
   have e : (List.take (xs.length * 1) cur.toList)[i]? = (xs.map (Value.int .u8))[i]? := by rw [h4]
   rw [List.getElem?_take, if_pos (by omega)] at e
   rw [e]; simp [List.getD, List.getElem?_eq_getElem hi]
  simpa [World.cell?, hh] using this
theorem info5' : ∃ i, Tryz.prog.info? 5 = some i ∧ i.zero = some (.int .u8 0) ∧ i.size = 1 ∧ i.bytes = 1 := by
 obtain ⟨i, hi, hpr⟩ := Option.map_eq_some_iff.1 info5
 simp only [Prod.mk.injEq] at hpr
 exact ⟨i, hi, hpr.1, hpr.2.1, hpr.2.2⟩
theorem Ow.app {w' : World} {B : Nat} {v' : Value} {xs ys : List Int} {n m : Nat} {cs ds : List Value} (h : w'.ownsRow B 5 1 v' (n + m) (cs ++ ds)) (hn : xs.length = n) (hm : ys.length = m) (hc : cs = xs.map (Value.int .u8)) (hd : ds = ys.map (Value.int .u8)) : Ow w' B v' (xs ++ ys) := by
 subst hn hm hc hd
 unfold Ow
 rw [List.length_append, List.map_append]
 exact h
theorem own_block_ge {w : World} {B : Nat} {v : Value} {xs : List Int} (h : Ow w B v xs) : ∀ k, v.ownBlock = some k → B ≤ k := by
 obtain ⟨_, ⟨rfl, _⟩ | ⟨g, cap, cur, rfl, hg, _⟩⟩ := h
 ·intro k hk; cases hk
 ·intro k hk; cases hk; exact hg
theorem app_law (w : World) {ops : Array Oper} {rest : List Oper} {o : Oper} {a : Act} {Q : Exit → Act → World → Prop} (hgd : o.guard = none) (s x : Operand)
  (ho : o.op = .call { callee := .builtin .append, args := #[s, x], argTypes := #[34, 34] }) (B : Nat) (v : Value) (xs ys : List Int) (hs : a.eval s = v) (hown : Ow w B v xs) (b' o' m c : Nat) (hx : a.eval x = .slice (some ⟨b', o', none⟩) m c)
  (hy : By w (some ⟨b', o', none⟩) m c ys) (hlen : xs.length + m ≤ 1000000000) (hB : B ≤ w.heap.size)
  (h : ∀ v' w', Ow w' B v' (xs ++ ys) → Below B w w' → w.grownBy w' v.ownBlock → wpList Tryz.prog ops Q rest (a.put o.dst v') w') : wpList Tryz.prog ops Q (o :: rest) a w := by
 obtain ⟨i5, hi5, hz5, hs5, hb5⟩ := info5'
 have hl := hy.len
 refine wpList_append_own w hgd s x 34 ho B 5 i5 (.int .u8 0) 1 1 Tryz.underlying34 hi5 hz5 hs5 hb5 rfl (by decide) v xs.length (xs.map (.int .u8)) hs hown ⟨b', o', none⟩ m c (ys.map (.int .u8)) hx (by simp [hl]) ?_ ?_ (by unfold maxLen; omega) (by omega) hB ?_
 ·intro j u hu
  by_cases hj : j < ys.length
  ·obtain ⟨b, o, e, g⟩ := hy.cells (by omega)
   cases e
   have := g j (by omega)
   rw [Go.WideShapes.add_plain, this, ← hu]
   simp [List.getD, List.getElem?_eq_getElem hj]
  ·rw [List.getElem?_eq_none (by simpa using Nat.le_of_not_lt hj)] at hu; cases hu
 ·intro u hu
  obtain ⟨n, _, rfl⟩ := List.mem_map.1 hu
  rfl
 ·intro v' w' h1 h2 _
  exact h v' w' (Ow.app h1 rfl hl rfl rfl) ((Below.refl _ w).grown h2 hB (own_block_ge hown)) h2
set_option maxHeartbeats 1000000 in
theorem next23 (p : Option Addr) (n c i m : Nat) (ds : List Dt) (w : World) (hD : Da w p n c ds) (hn : n ≤ 3000) (hm1 : 1 ≤ m) (hm2 : i + m ≤ n) (ho : opn m (ds.drop i) = -1) (hj : ∀ t, t < m → 0 ≤ opn t (ds.drop i) ∧ 0 ≤ ((ds.drop i).getD t dt0).count) :
  Calls Tryz.prog 78 #[.slice p n c, .int .i64 i] w fun e w' => e = .returned (.int .i64 ((i + m : Nat) : Int)) ∧ w' = w := by
 have HD : Hid (Da w p n c ds) := hD
 have HJ : Hid (∀ t, t < m → 0 ≤ opn t (ds.drop i) ∧ 0 ≤ ((ds.drop i).getD t dt0).count) := hj
 have HM : Hid (opn m (ds.drop i) = -1) := ho
 have HL : Hid (∀ t, t ≤ m → opn (m - t) (ds.drop i) ≤ opn m (ds.drop i) + t) := opn_le _ _ (fun t ht => (hj t ht).2)
 have HS : Hid (∀ t, opn (t + 1) (ds.drop i) = opn t (ds.drop i) + (((ds.drop i).getD t dt0).count - 1)) := fun t => rfl
 have HG : Hid (∀ t, (ds.drop i).getD t dt0 = ds.getD (i + t) dt0) := drop_getD ds i
 clear hD hj ho
 obtain ⟨b, o, rfl, hbl, g⟩ := HD.out.cells (by omega)
 obtain ⟨tp, tn, tc, he⟩ := g i (by omega)
 have e3 := he.c3
 have h0 := (HJ.out 0 (by omega)).2
 have s0 := HS.out 0
 rw [HG.out, Nat.add_zero] at h0 s0
 have hl1 := HL.out (m - 1) (by omega)
 rw [show m - (m - 1) = 0 + 1 by omega, HM.out, s0] at hl1
 have HS0 : Hid (opn (0 + 1) (ds.drop i) = 0 + ((ds.getD i dt0).count - 1)) := s0
 clear g he s0
 generalize ds.getD i dt0 = d0 at e3 h0 hl1 HS0
 simp only [opn] at hl1
 go_enter Tryz.func78, Tryz.ntmps78
 go_wp2
 go_loop [5, 6] (fun at_ op => ∃ (t : Nat) (z : Int), 1 ≤ t ∧ t ≤ m ∧ at_ = .int .i64 ((i : Int) + t) ∧ op = .int .i64 z ∧ Hid (z = 1 + opn t (ds.drop i))) (fun at_ _ => (i + m) - (intOf at_).toNat)
 case atStart => exact ⟨1, _, Nat.le_refl _, hm1, rfl, rfl, by unfold Hid; rw [show (1 : Nat) = 0 + 1 from rfl, HS0.out]; omega⟩
 case round =>
  clear e3 h0 hl1 HS0
  obtain ⟨t, z, ht1, ht2, rfl, rfl, hz⟩ := hrel
  by_cases hlt : t < m
  ·obtain ⟨b', o', e, hbl', g⟩ := HD.out.cells (by omega)
   cases e
   obtain ⟨tp', tn', tc', he⟩ := g (i + t) (by omega)
   have e3 := he.c3
   have hz0 := (HJ.out t hlt).1
   have hc0 := (HJ.out t hlt).2
   have hhi := he.hi
   have hs := HS.out t
   rw [HG.out] at hc0 hs
   have hl1 := HL.out (m - (t + 1)) (by omega)
   rw [show m - (m - (t + 1)) = t + 1 by omega, HM.out, hs] at hl1
   have HZ : Hid (z + ((ds.getD (i + t) dt0).count - 1) = 1 + opn (t + 1) (ds.drop i)) := by unfold Hid; rw [hs, hz.out]; omega
   have hz1 : 0 < z := by rw [hz.out]; omega
   have hz2 : z + ((ds.getD (i + t) dt0).count - 1) ≤ 3000 := by rw [hz.out]; omega
   have hl0 := HL.out (m - t) (by omega)
   rw [show m - (m - t) = t by omega, HM.out] at hl0
   have hz3 : z ≤ 3000 := by rw [hz.out]; omega
   clear hs hl1 hl0 he g hz0 hz
   generalize ds.getD (i + t) dt0 = d at e3 hc0 hhi HZ hz2
   go_wp2
   exact ⟨⟨t + 1, _, by omega, by omega, by rw [show ((t + 1 : Nat) : Int) = (t : Int) + 1 by omega, Int.add_assoc], rfl, HZ⟩, by simp [intOf]; omega⟩
  ·obtain rfl : t = m := by omega
   have hz0 : z = 0 := by rw [hz.out, HM.out]; rfl
   subst hz0
   go_wp2
   go_ret
   exact ⟨rfl, rfl⟩
def OwI (w : World) (B : Nat) (v : Value) (ks : List Nat) : Prop := w.ownsRow B 3 1 v ks.length (ks.map fun k : Nat => Value.int .i64 (k : Int))
theorem OwI.below {w w' : World} {B : Nat} {v : Value} {xs : List Nat} (h : OwI w B v xs) (hb : Below w.heap.size w w') : OwI w' B v xs := ownsRow_below h hb
theorem OwI.nil (w : World) (B : Nat) : OwI w B (.slice none 0 0) [] := ⟨rfl, Or.inl ⟨rfl, rfl⟩⟩
theorem info3' : ∃ i, Tryz.prog.info? 3 = some i ∧ i.zero = some (.int .i64 0) ∧ i.size = 1 ∧ i.bytes = 8 := by
 obtain ⟨i, hi, hpr⟩ := Option.map_eq_some_iff.1 (show (Tryz.prog.info? 3).map (fun i => (i.zero, i.size, i.bytes)) = some (some (.int .i64 0), 1, 8) by kernel_rfl)
 simp only [Prod.mk.injEq] at hpr
 exact ⟨i, hi, hpr.1, hpr.2.1, hpr.2.2⟩
theorem one_new3 (w : World) (x : Value) : ∀ j u, ([x] : List Value)[j]? = some u → (w.alloc (.cells #[x] 3)).cell? ((⟨w.heap.size, 0, none⟩ : Addr).add j) = some u := by
 intro j u h
 have hj : j = 0 := by
  cases j with
  | zero => rfl
  | succ j => simp at h
 subst hj
 simp at h
 subst h
 have hb : (w.alloc (.cells #[x] 3)).heap[w.heap.size]? = some (.cells #[x] 3) := Go.Deep.blk_alloc_new _ _
 simp only [Addr.add, if_true, World.cell?]
 rw [hb]
 rfl
theorem ownI_block_ge {w : World} {B : Nat} {v : Value} {xs : List Nat} (h : OwI w B v xs) : ∀ k, v.ownBlock = some k → B ≤ k := by
 obtain ⟨_, ⟨rfl, _⟩ | ⟨g, cap, cur, rfl, hg, _⟩⟩ := h
 ·intro k hk; cases hk
 ·intro k hk; cases hk; exact hg
theorem appI_law (w : World) {ops : Array Oper} {rest : List Oper} {o : Oper} {a : Act} {Q : Exit → Act → World → Prop} (hgd : o.guard = none) (s x : Operand)
  (ho : o.op = .call { callee := .builtin .append, args := #[s, x], argTypes := #[77, 77] }) (B : Nat) (v : Value) (ks : List Nat) (k : Nat) (hs : a.eval s = v) (hown : OwI w B v ks) (hx : a.eval x = .slice (some ⟨w.heap.size, 0, none⟩) 1 1)
  (hlen : ks.length ≤ 1000000000) (hB : B ≤ w.heap.size)
  (h : ∀ v' w', OwI w' B v' (ks ++ [k]) → Below B w w' → wpList Tryz.prog ops Q rest (a.put o.dst v') w') : wpList Tryz.prog ops Q (o :: rest) a (w.alloc (.cells #[.int .i64 (k : Int)] 3)) := by
 obtain ⟨i3, hi, hz, hs3, hb⟩ := info3'
 refine wpList_append_own _ hgd s x 77 ho B 3 i3 (.int .i64 0) 1 8 Tryz.underlying77 hi hz hs3 hb rfl (by decide) v ks.length (ks.map fun k : Nat => Value.int .i64 (k : Int)) hs (ownsRow_below hown (below1 _ _)) ⟨w.heap.size, 0, none⟩ 1 1 [.int .i64 (k : Int)] hx rfl (one_new3 _ _) (by simp [Value.oneCell']) (by unfold maxLen; omega) (by omega) (by simp; omega) ?_
 intro v' w' h1 h2 _
 refine h v' w' ?_ (((Below.refl _ w).alloc hB _).grown h2 (by simp; omega) (ownI_block_ge hown))
 unfold OwI
 rw [List.length_append, List.map_append]
 exact h1
theorem OwI.form {w : World} {B : Nat} {v : Value} {ks : List Nat} (h : OwI w B v ks) : ∃ p c, v = .slice p ks.length c ∧ ks.length ≤ c ∧ c ≤ maxLen ∧ (0 < ks.length → ∃ g, p = some ⟨g, 0, none⟩ ∧ B ≤ g ∧ g < w.heap.size ∧ ∀ j, j < ks.length → w.cell? ⟨g, j, none⟩ = some (.int .i64 ((ks.getD j 0 : Nat) : Int))) := by
 obtain ⟨_, ⟨rfl, h0⟩ | ⟨g, cap, cur, rfl, hg, hh, h1, h2, h3, h4⟩⟩ := h
 ·obtain rfl : ks = [] := List.length_eq_zero_iff.1 h0
  exact ⟨none, 0, rfl, Nat.le_refl _, by unfold maxLen; omega, fun h => absurd h (Nat.lt_irrefl 0)⟩
 ·have hlt := (Array.getElem?_eq_some_iff.1 hh).1
  refine ⟨some ⟨g, 0, none⟩, cap, rfl, h1, h2, fun _ => ⟨g, rfl, hg, hlt, fun i hi => ?_⟩⟩
  have : cur.toList[i]? = some (.int .i64 ((ks.getD i 0 : Nat) : Int)) := by
   have e : (List.take (ks.length * 1) cur.toList)[i]? = (ks.map fun k : Nat => Value.int .i64 (k : Int))[i]? := by rw [h4]
   rw [List.getElem?_take, if_pos (by omega)] at e
   rw [e]; simp [List.getD, List.getElem?_eq_getElem hi]
  simpa [World.cell?, hh] using this
theorem skip_place {k i : Nat} {ds r : List Dt} (h : skip k (ds.drop i) = some r) (hi : i ≤ ds.length) : ∃ m, 1 ≤ m ∧ i + m ≤ ds.length ∧ r = ds.drop (i + m) ∧ opn m (ds.drop i) = -1 ∧ (∀ t, t < m → 0 ≤ opn t (ds.drop i) ∧ 0 ≤ ((ds.drop i).getD t dt0).count) := by
 obtain ⟨m, h1, h2, h3, h4, h5⟩ := dyck k _ _ h
 rw [List.length_drop] at h2
 exact ⟨m, h1, by omega, by rw [h3, List.drop_drop], h4, h5⟩
theorem skipN_le {f : List Dt → Option (List Dt)} {c j : Nat} {l r : List Dt} (h : skipN f c l = some r) (hj : j ≤ c) : ∃ q, skipN f j l = some q := by
 cases e : skipN f j l with
 | some q => exact ⟨q, rfl⟩
 | none =>
  have := skipN_none_mono f j (c - j) l e
  rw [show j + (c - j) = c by omega, h] at this; cases this
theorem getD_app_lt (ks : List Nat) (k j : Nat) (h : j < ks.length) : (ks ++ [k]).getD j 0 = ks.getD j 0 := by simp [List.getD, List.getElem?_append_left h]
theorem getD_app_eq (ks : List Nat) (k j : Nat) (h : j = ks.length) : (ks ++ [k]).getD j 0 = k := by subst h; simp [List.getD]
def Kids (k n i cnt : Nat) (ds : List Dt) (w w' : World) (e : Ending) : Prop := ∃ v ks, e = .returned v ∧ OwI w' w.heap.size v ks ∧ ks.length = cnt ∧ (∀ j, j < ks.length → ks.getD j 0 ≤ n ∧ skipN (skip k) j (ds.drop (i + 1)) = some (ds.drop (ks.getD j 0))) ∧ Below w.heap.size w w'
set_option maxHeartbeats 1000000 in
theorem kids26 (k : Nat) (p : Option Addr) (n c i : Nat) (ds rEnd : List Dt) (w : World) (hD : Da w p n c ds) (hn : n ≤ 3000) (hi : i < n) (hcnt : 0 ≤ (ds.getD i dt0).count) (hs : skipN (skip k) (ds.getD i dt0).count.toNat (ds.drop (i + 1)) = some rEnd) :
  Calls Tryz.prog 40 #[.slice p n c, .int .i64 i] w fun e w' => Kids k n i (ds.getD i dt0).count.toNat ds w w' e := by
 have HD : Hid (Da w p n c ds) := hD
 have hlen : Hid (ds.length = n) := hD.len
 clear hD
 obtain ⟨b, o, rfl, hbl, g⟩ := HD.out.cells (by omega)
 obtain ⟨tp, tn, tc, he⟩ := g i (by omega)
 have HE : Hid (El w b (o + i * 4) (ds.getD i dt0) tp tn tc) := he
 have hhi := he.hi
 clear g he
 generalize ds.getD i dt0 = d at HE hcnt hs hhi
 have HS : Hid (skipN (skip k) d.count.toNat (ds.drop (i + 1)) = some rEnd) := hs
 have hcb : d.count ≤ 3000 := by
  obtain ⟨j, h1, h2, _⟩ := skipN_eats (skip_eats k) _ _ _ hs
  rw [List.length_drop, hlen.out] at h2; omega
 clear hs hhi
 go_enter Tryz.func40, Tryz.ntmps40
 go_wp2
 go_loopw [5, 6, 7] (fun v at_ kk wr => ∃ (j a : Nat) (ks : List Nat), (j : Int) ≤ d.count ∧ a ≤ n ∧ kk = .int .i64 j ∧ at_ = .int .i64 a ∧ Hid (skipN (skip k) j (ds.drop (i + 1)) = some (ds.drop a)) ∧ Hid (OwI wr w.heap.size v ks) ∧ ks.length = j ∧ Hid (∀ t, t < j → ks.getD t 0 ≤ n ∧ skipN (skip k) t (ds.drop (i + 1)) = some (ds.drop (ks.getD t 0))) ∧ Hid (Below w.heap.size w wr)) (fun _ _ kk _ => (d.count - intOf kk).toNat)
 case atStart => exact ⟨0, i + 1, [], hcnt, by omega, rfl, by go_num, rfl, OwI.nil _ _, rfl, fun t ht => absurd ht (Nat.not_lt_zero t), Below.refl _ _⟩
 case round =>
  obtain ⟨j, a, ks, hj, ha, rfl, rfl, hsk, hO, hkl, hks, hb⟩ := hrel
  have HKL : Hid (ks.length = j) := hkl
  have hkb : ks.length ≤ 3000 := by omega
  clear hkl
  have e3 := (HE.out.below hbl hb.out).c3
  by_cases hlt : (j : Int) < d.count
  ·obtain ⟨q, hq⟩ := skipN_le HS.out (show j + 1 ≤ d.count.toNat by omega)
   obtain ⟨q0, hq0, hq1⟩ := skipN_succ_some hq
   rw [hsk.out] at hq0
   cases hq0
   obtain ⟨m, hm1, hm2, rfl, hop, hjj⟩ := skip_place hq1 (by rw [hlen.out]; exact ha)
   rw [hlen.out] at hm2
   have HQ : Hid (skipN (skip k) (j + 1) (ds.drop (i + 1)) = some (ds.drop (a + m))) := hq
   have HOP : Hid (opn m (ds.drop a) = -1 ∧ ∀ t, t < m → 0 ≤ opn t (ds.drop a) ∧ 0 ≤ ((ds.drop a).getD t dt0).count) := ⟨hop, hjj⟩
   have hsz := hb.out.size
   clear hq hq1 hop hjj
   go_wp2_with (first | (at_builtin; refine appI_law _ rfl (.tmp 19) (.tmp 21) rfl w.heap.size _ ks a (by simp [Act.eval]) hO.out (by simp [Act.eval]) (by omega) hsz ?_; intro v' w1 ho hg; have HO1 : Hid (OwI w1 w.heap.size v' (ks ++ [a])) := ho; have HB1 : Hid (Below w.heap.size w w1) := hb.out.trans hg; clear ho hg) | (go_at_call 78; refine (next23 _ n c a m ds _ (by exact HD.out.below HB1.out) hn hm1 hm2 HOP.out.1 HOP.out.2).mono ?_; rintro e w2 ⟨rfl, hw2⟩; have hw3 := hw2.symm; clear hw2; subst hw3))
   refine ⟨⟨j + 1, a + m, ks ++ [a], by omega, hm2, by go_num, by go_num, HQ, HO1, by rw [List.length_append, HKL.out]; rfl, fun t ht => ?_, HB1⟩, by simp [intOf]; omega⟩
   by_cases e : t < j
   ·rw [getD_app_lt _ _ _ (by rw [HKL.out]; exact e)]; exact hks.out t e
   ·obtain rfl : t = j := by omega
    rw [getD_app_eq _ _ _ HKL.out.symm]; exact ⟨ha, hsk.out⟩
  ·have HK : Hid ((j : Int) = d.count) := by unfold Hid; omega
   go_wp2
   go_ret
   refine ⟨_, ks, rfl, hO.out, by rw [HKL.out, ← HK.out]; simp, fun t ht => hks.out t (by rw [← HKL.out]; exact ht), hb.out⟩
def Rg (xs : List Int) : Prop := ∀ x ∈ xs, 0 ≤ x ∧ x < 256
theorem rng_of {xs : List Int} (h : Rg xs) (i : Nat) : 0 ≤ xs.getD i 0 ∧ xs.getD i 0 < 256 := by
 by_cases hi : i < xs.length
 ·exact h _ (by simp [List.getD, List.getElem?_eq_getElem hi])
 ·simp [List.getD, List.getElem?_eq_none (Nat.le_of_not_lt hi)]
end Go.Proofs.YtnnpfoilojicjaaGreatDoor
