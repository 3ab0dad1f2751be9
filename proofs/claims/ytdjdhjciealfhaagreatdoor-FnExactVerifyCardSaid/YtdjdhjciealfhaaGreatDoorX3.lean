import Derived.Test.YtdjdhjciealfhaaGreatDoorU0
import Derived.Test.YtdjdhjciealfhaaGreatDoorPure2
import Derived.Lib.AppendStr
namespace Go.Proofs.YtdjdhjciealfhaaGreatDoor
open Go.RowKit Ch1
/-- v is a slice of the call's own that holds the bytes xs. -/
def Ow (w : World) (B : Nat) (v : Value) (xs : List Int) : Prop := w.ownsRow B 5 1 v xs.length (xs.map (Value.int .u8))
theorem ownsRow_below {w w' : World} {B : Nat} {e : TypeId} {s n : Nat} {v : Value} {xs : List Value} (h : w.ownsRow B e s v n xs) (hb : Below w.heap.size w w') : w'.ownsRow B e s v n xs := by
  obtain ⟨h1, h2 | ⟨g, cap, cur, hv, hg, hh, r⟩⟩ := h
  · exact ⟨h1, Or.inl h2⟩
  · refine ⟨h1, Or.inr ⟨g, cap, cur, hv, hg, ?_, r⟩⟩
    rw [hb.block g (Array.getElem?_eq_some_iff.1 hh).1]; exact hh
theorem Ow.below {w w' : World} {B : Nat} {v : Value} {xs : List Int} (h : Ow w B v xs) (hb : Below w.heap.size w w') : Ow w' B v xs := ownsRow_below h hb
theorem Ow.nil (w : World) (B : Nat) : Ow w B (.slice none 0 0) [] := ⟨rfl, Or.inl ⟨rfl, rfl⟩⟩
theorem Ow.lit (w : World) (B : Nat) (xs : List Int) (hB : B ≤ w.heap.size) (hl : xs.length ≤ maxLen) : Ow (w.alloc (.cells (xs.map (Value.int .u8)).toArray 5)) B (.slice (some ⟨w.heap.size, 0, none⟩) xs.length xs.length) xs := by
  refine ⟨by simp, Or.inr ⟨w.heap.size, xs.length, (xs.map (Value.int .u8)).toArray, rfl, hB, ?_, Nat.le_refl _, hl, by simp, by rw [Nat.mul_one, List.take_of_length_le (by simp)]⟩⟩
  exact Go.Deep.blk_alloc_new _ _
theorem Ow.by_ {w : World} {B : Nat} {v : Value} {xs : List Int} (h : Ow w B v xs) (hr : ∀ i, 0 ≤ xs.getD i 0 ∧ xs.getD i 0 < 256) : ∃ p c, v = .slice p xs.length c ∧ By w p xs.length c xs ∧ (∀ a, p = some a → a.block < w.heap.size ∧ B ≤ a.block) := by
  obtain ⟨_, ⟨rfl, h0⟩ | ⟨g, cap, cur, rfl, hg, hh, h1, h2, h3, h4⟩⟩ := h
  · obtain rfl : xs = [] := List.length_eq_zero_iff.1 h0
    exact ⟨none, 0, rfl, ⟨rfl, Nat.le_refl _, by unfold maxLen; omega, hr, fun h => absurd h (Nat.lt_irrefl 0), fun a ha => by cases ha⟩, fun a ha => by cases ha⟩
  · have hlt := (Array.getElem?_eq_some_iff.1 hh).1
    refine ⟨some ⟨g, 0, none⟩, cap, rfl, ⟨rfl, h1, h2, hr, fun _ => ⟨g, 0, rfl, fun i hi => ?_⟩, fun a ha _ => by cases ha; exact hlt⟩, fun a ha => by cases ha; exact ⟨hlt, hg⟩⟩
    have : cur.toList[i]? = some (.int .u8 (xs.getD i 0)) := by
      have e : (List.take (xs.length * 1) cur.toList)[i]? = (xs.map (Value.int .u8))[i]? := by rw [h4]
      rw [List.getElem?_take, if_pos (by omega)] at e
      rw [e]; simp [List.getD, List.getElem?_eq_getElem hi]
    simpa [World.cell?, hh] using this
theorem info5' : ∃ i, Tryz.prog.info? 5 = some i ∧ i.zero = some (.int .u8 0) ∧ i.size = 1 ∧ i.bytes = 1 := by
  obtain ⟨i, hi, hpr⟩ := Option.map_eq_some_iff.1 info5
  simp only [Prod.mk.injEq] at hpr
  exact ⟨i, hi, hpr.1, hpr.2.1, hpr.2.2⟩
theorem byte_conv (c : Int) (h0 : 0 ≤ c) (h1 : c < 256) : c % 256 = c := by omega
theorem nums_rng (l : List UInt8) (i : Nat) : 0 ≤ (nums l).getD i 0 ∧ (nums l).getD i 0 < 256 := by
  by_cases hi : i < l.length
  · have : (nums l).getD i 0 = (l[i].toNat : Int) := by simp [nums, List.getD, List.getElem?_eq_getElem hi]
    rw [this]; have := l[i].toNat_lt; omega
  · have : (nums l).getD i 0 = 0 := by simp [nums, List.getD, List.getElem?_eq_none (Nat.le_of_not_lt hi)]
    rw [this]; omega
theorem dec_small (u : Nat) (h : u < 10) : nums (Lib.decDigits u) = [48 + (u : Int)] := by
  unfold Lib.decDigits; rw [dif_pos h]
  simp [nums]; omega
theorem dec_step (u : Nat) (h : ¬ u < 10) : nums (Lib.decDigits u) = nums (Lib.decDigits (u / 10)) ++ [48 + ((u % 10 : Nat) : Int)] := by
  rw [Lib.decDigits, dif_neg h]
  simp [nums]; omega
theorem dec_len (u : Nat) (h : u < 18446744073709551616) : (nums (Lib.decDigits u)).length ≤ 20 := by
  rw [nums_length, Lib.decDigits_length]
  exact Lib.nDigits_le20 u h

/-- What an append onto an own row of bytes leaves. -/
theorem Ow.app {w' : World} {B : Nat} {v' : Value} {xs ys : List Int} {n m : Nat} {cs ds : List Value} (h : w'.ownsRow B 5 1 v' (n + m) (cs ++ ds)) (hn : xs.length = n) (hm : ys.length = m) (hc : cs = xs.map (Value.int .u8)) (hd : ds = ys.map (Value.int .u8)) : Ow w' B v' (xs ++ ys) := by
  subst hn hm hc hd
  unfold Ow
  rw [List.length_append, List.map_append]
  exact h
theorem one_new (w : World) (x : Value) : ∀ j u, ([x] : List Value)[j]? = some u → (w.alloc (.cells #[x] 5)).cell? ((⟨w.heap.size, 0, none⟩ : Addr).add j) = some u := by
  intro j u h
  have hj : j = 0 := by
    cases j with
    | zero => rfl
    | succ j => simp at h
  subst hj
  simp at h
  subst h
  have hb : (w.alloc (.cells #[x] 5)).heap[w.heap.size]? = some (.cells #[x] 5) := Go.Deep.blk_alloc_new _ _
  simp only [Addr.add, if_true, World.cell?]
  rw [hb]
  rfl
theorem own_block_ge {w : World} {B : Nat} {v : Value} {xs : List Int} (h : Ow w B v xs) : ∀ k, v.ownBlock = some k → B ≤ k := by
  obtain ⟨_, ⟨rfl, _⟩ | ⟨g, cap, cur, rfl, hg, _⟩⟩ := h
  · intro k hk; cases hk
  · intro k hk; cases hk; exact hg
theorem wrap_u64 (x : Int) (h0 : 0 ≤ x) (h1 : x < 18446744073709551616) : IntKind.u64.wrap x = x := by
  simp [IntKind.wrap, IntKind.bits, IntKind.signed]
  omega
theorem tdiv10 (x : Int) (h0 : 0 ≤ x) (h1 : x < 18446744073709551616) : IntKind.u64.wrap (x.tdiv 10) = x / 10 := by
  rw [Int.tdiv_eq_ediv_of_nonneg h0]; exact wrap_u64 _ (by omega) (by omega)
theorem tmod10 (x : Int) (h0 : 0 ≤ x) : IntKind.u64.wrap (x.tmod 10) = x % 10 := by
  rw [Int.tmod_eq_emod_of_nonneg h0]; exact wrap_u64 _ (by omega) (by omega)
end Go.Proofs.YtdjdhjciealfhaaGreatDoor
namespace Go.Proofs.YtdjdhjciealfhaaGreatDoor
open Go.RowKit Ch1
/-- The call answers a slice that reads as xs; nothing that was there has turned. -/
def Txt (w w' : World) (e : Ending) (xs : List Int) : Prop := ∃ b o c, e = .returned (.slice (some ⟨b, o, none⟩) xs.length c) ∧ By w' (some ⟨b, o, none⟩) xs.length c xs ∧ Below w.heap.size w w'
theorem Ow.txt {w w' : World} {B : Nat} {v : Value} {xs : List Int} (h : Ow w' B v xs) (hr : ∀ i, 0 ≤ xs.getD i 0 ∧ xs.getD i 0 < 256) (h0 : 0 < xs.length) (hb : Below w.heap.size w w') : Txt w w' (.returned v) xs := by
  obtain ⟨p, c, rfl, hy, _⟩ := h.by_ hr
  obtain ⟨b, o, rfl, _⟩ := hy.cells h0
  exact ⟨b, o, c, rfl, hy, hb⟩
theorem itoa_neg (n : Int) (h : n < 0) : itoaZ n = 45 :: nums (Lib.decDigits n.natAbs) := by
  unfold itoaZ Lib.itoa; rw [if_pos h]; rfl
theorem itoa_pos (n : Int) (h : ¬ n < 0) : itoaZ n = nums (Lib.decDigits n.toNat) := by
  unfold itoaZ Lib.itoa; rw [if_neg h]
theorem dec_pos (u : Nat) : 0 < (nums (Lib.decDigits u)).length := by
  rw [nums_length, Lib.decDigits_length]; exact Lib.nDigits_pos u
/-- append(v, x...) onto an own row of bytes. -/
theorem app_law (w : World) {ops : Array Oper} {rest : List Oper} {o : Oper} {a : Act} {Q : Exit → Act → World → Prop} (hgd : o.guard = none) (s x : Operand)
    (ho : o.op = .call { callee := .builtin .append, args := #[s, x], argTypes := #[108, 108] }) (B : Nat) (v : Value) (xs ys : List Int) (hs : a.eval s = v) (hown : Ow w B v xs) (b' o' m c : Nat) (hx : a.eval x = .slice (some ⟨b', o', none⟩) m c)
    (hy : By w (some ⟨b', o', none⟩) m c ys) (hlen : xs.length + m ≤ 1000000000) (hB : B ≤ w.heap.size)
    (h : ∀ v' w', Ow w' B v' (xs ++ ys) → Below B w w' → w.grownBy w' v.ownBlock → wpList Tryz.prog ops Q rest (a.put o.dst v') w') : wpList Tryz.prog ops Q (o :: rest) a w := by
  obtain ⟨i5, hi5, hz5, hs5, hb5⟩ := info5'
  have hl := hy.len
  refine wpList_append_own w hgd s x 108 ho B 5 i5 (.int .u8 0) 1 1 Tryz.underlying108 hi5 hz5 hs5 hb5 rfl (by decide) v xs.length (xs.map (.int .u8)) hs hown ⟨b', o', none⟩ m c (ys.map (.int .u8)) hx (by simp [hl]) ?_ ?_ (by unfold maxLen; omega) (by omega) hB ?_
  · intro j u hu
    by_cases hj : j < ys.length
    · obtain ⟨b, o, e, g⟩ := hy.cells (by omega)
      cases e
      have := g j (by omega)
      rw [Go.WideShapes.add_plain, this, ← hu]
      simp [List.getD, List.getElem?_eq_getElem hj]
    · rw [List.getElem?_eq_none (by simpa using Nat.le_of_not_lt hj)] at hu; cases hu
  · intro u hu
    obtain ⟨n, _, rfl⟩ := List.mem_map.1 hu
    rfl
  · intro v' w' h1 h2 _
    exact h v' w' (Ow.app h1 rfl hl rfl rfl) ((Below.refl _ w).grown h2 hB (own_block_ge hown)) h2
theorem By.lit (w : World) (y : Int) (h0 : 0 ≤ y) (h1 : y < 256) : By (w.alloc (.cells #[.int .u8 y] 5)) (some ⟨w.heap.size, 0, none⟩) 1 1 [y] := by
  refine ⟨rfl, Nat.le_refl _, by unfold maxLen; omega, fun i => ?_, fun _ => ⟨w.heap.size, 0, rfl, fun i hi => ?_⟩, fun a ha _ => by cases ha; simp⟩
  · cases i with
    | zero => exact ⟨h0, h1⟩
    | succ i => simp
  · obtain rfl : i = 0 := by omega
    simp
theorem wrap_neg (n : Int) (h0 : n < 0) (h1 : -9223372036854775808 ≤ n) : IntKind.u64.wrap (-IntKind.u64.wrap n) = -n := by
  simp [IntKind.wrap, IntKind.bits, IntKind.signed]
  omega
end Go.Proofs.YtdjdhjciealfhaaGreatDoor
namespace Go.Proofs.YtdjdhjciealfhaaGreatDoor
open Go.RowKit Ch1
set_option maxHeartbeats 1000000 in
theorem next23 (p : Option Addr) (n c i m : Nat) (ds : List Dt) (w : World) (hD : Da w p n c ds) (hn : n ≤ 3000) (hm1 : 1 ≤ m) (hm2 : i + m ≤ n) (ho : opn m (ds.drop i) = -1) (hj : ∀ t, t < m → 0 ≤ opn t (ds.drop i) ∧ 0 ≤ ((ds.drop i).getD t dt0).count) :
    Calls Tryz.prog 58 #[.slice p n c, .int .i64 i] w fun e w' => e = .returned (.int .i64 ((i + m : Nat) : Int)) ∧ w' = w := by
  have HD : Hid (Da w p n c ds) := hD
  have HJ : Hid (∀ t, t < m → 0 ≤ opn t (ds.drop i) ∧ 0 ≤ ((ds.drop i).getD t dt0).count) := hj
  have HM : Hid (opn m (ds.drop i) = -1) := ho
  have HL : Hid (∀ t, t ≤ m → opn (m - t) (ds.drop i) ≤ opn m (ds.drop i) + t) := opn_le _ _ (fun t ht => (hj t ht).2)
  have HS : Hid (∀ t, opn (t + 1) (ds.drop i) = opn t (ds.drop i) + (((ds.drop i).getD t dt0).count - 1)) := fun t => rfl
  have HG : Hid (∀ t, (ds.drop i).getD t dt0 = ds.getD (i + t) dt0) := drop_getD ds i
  clear hD hj ho
  obtain ⟨b, o, rfl, hbl, g⟩ := HD.out.cells (by omega)
  obtain ⟨tp, tn, tc, he⟩ := g i (by omega)
  have e3 := he.c3
  have h0 := (HJ.out 0 (by omega)).2
  have s0 := HS.out 0
  rw [HG.out, Nat.add_zero] at h0 s0
  have hl1 := HL.out (m - 1) (by omega)
  rw [show m - (m - 1) = 0 + 1 by omega, HM.out, s0] at hl1
  have HS0 : Hid (opn (0 + 1) (ds.drop i) = 0 + ((ds.getD i dt0).count - 1)) := s0
  clear g he s0
  generalize ds.getD i dt0 = d0 at e3 h0 hl1 HS0
  simp only [opn] at hl1
  go_enter Tryz.func58, Tryz.ntmps58
  go_wp2
  go_loop [5, 6] (fun at_ op => ∃ (t : Nat) (z : Int), 1 ≤ t ∧ t ≤ m ∧ at_ = .int .i64 ((i : Int) + t) ∧ op = .int .i64 z ∧ Hid (z = 1 + opn t (ds.drop i))) (fun at_ _ => (i + m) - (intOf at_).toNat)
  case atStart => exact ⟨1, _, Nat.le_refl _, hm1, rfl, rfl, by unfold Hid; rw [show (1 : Nat) = 0 + 1 from rfl, HS0.out]; omega⟩
  case round =>
    clear e3 h0 hl1 HS0
    obtain ⟨t, z, ht1, ht2, rfl, rfl, hz⟩ := hrel
    by_cases hlt : t < m
    · obtain ⟨b', o', e, hbl', g⟩ := HD.out.cells (by omega)
      cases e
      obtain ⟨tp', tn', tc', he⟩ := g (i + t) (by omega)
      have e3 := he.c3
      have hz0 := (HJ.out t hlt).1
      have hc0 := (HJ.out t hlt).2
      have hhi := he.hi
      have hs := HS.out t
      rw [HG.out] at hc0 hs
      have hl1 := HL.out (m - (t + 1)) (by omega)
      rw [show m - (m - (t + 1)) = t + 1 by omega, HM.out, hs] at hl1
      have HZ : Hid (z + ((ds.getD (i + t) dt0).count - 1) = 1 + opn (t + 1) (ds.drop i)) := by unfold Hid; rw [hs, hz.out]; omega
      have hz1 : 0 < z := by rw [hz.out]; omega
      have hz2 : z + ((ds.getD (i + t) dt0).count - 1) ≤ 3000 := by rw [hz.out]; omega
      have hl0 := HL.out (m - t) (by omega)
      rw [show m - (m - t) = t by omega, HM.out] at hl0
      have hz3 : z ≤ 3000 := by rw [hz.out]; omega
      clear hs hl1 hl0 he g hz0 hz
      generalize ds.getD (i + t) dt0 = d at e3 hc0 hhi HZ hz2
      go_wp2
      exact ⟨⟨t + 1, _, by omega, by omega, by rw [show ((t + 1 : Nat) : Int) = (t : Int) + 1 by omega, Int.add_assoc], rfl, HZ⟩, by simp [intOf]; omega⟩
    · obtain rfl : t = m := by omega
      have hz0 : z = 0 := by rw [hz.out, HM.out]; rfl
      subst hz0
      go_wp2
      go_ret
      exact ⟨rfl, rfl⟩

/-- v is a slice of the call's own that holds the places ks. -/
def OwI (w : World) (B : Nat) (v : Value) (ks : List Nat) : Prop := w.ownsRow B 3 1 v ks.length (ks.map fun k : Nat => Value.int .i64 (k : Int))
theorem OwI.below {w w' : World} {B : Nat} {v : Value} {xs : List Nat} (h : OwI w B v xs) (hb : Below w.heap.size w w') : OwI w' B v xs := ownsRow_below h hb
theorem OwI.nil (w : World) (B : Nat) : OwI w B (.slice none 0 0) [] := ⟨rfl, Or.inl ⟨rfl, rfl⟩⟩
theorem info3' : ∃ i, Tryz.prog.info? 3 = some i ∧ i.zero = some (.int .i64 0) ∧ i.size = 1 ∧ i.bytes = 8 := by
  obtain ⟨i, hi, hpr⟩ := Option.map_eq_some_iff.1 (show (Tryz.prog.info? 3).map (fun i => (i.zero, i.size, i.bytes)) = some (some (.int .i64 0), 1, 8) by kernel_rfl)
  simp only [Prod.mk.injEq] at hpr
  exact ⟨i, hi, hpr.1, hpr.2.1, hpr.2.2⟩
theorem one_new3 (w : World) (x : Value) : ∀ j u, ([x] : List Value)[j]? = some u → (w.alloc (.cells #[x] 3)).cell? ((⟨w.heap.size, 0, none⟩ : Addr).add j) = some u := by
  intro j u h
  have hj : j = 0 := by
    cases j with
    | zero => rfl
    | succ j => simp at h
  subst hj
  simp at h
  subst h
  have hb : (w.alloc (.cells #[x] 3)).heap[w.heap.size]? = some (.cells #[x] 3) := Go.Deep.blk_alloc_new _ _
  simp only [Addr.add, if_true, World.cell?]
  rw [hb]
  rfl
theorem ownI_block_ge {w : World} {B : Nat} {v : Value} {xs : List Nat} (h : OwI w B v xs) : ∀ k, v.ownBlock = some k → B ≤ k := by
  obtain ⟨_, ⟨rfl, _⟩ | ⟨g, cap, cur, rfl, hg, _⟩⟩ := h
  · intro k hk; cases hk
  · intro k hk; cases hk; exact hg
/-- append(v, k) onto an own row of ints. -/
theorem appI_law (w : World) {ops : Array Oper} {rest : List Oper} {o : Oper} {a : Act} {Q : Exit → Act → World → Prop} (hgd : o.guard = none) (s x : Operand)
    (ho : o.op = .call { callee := .builtin .append, args := #[s, x], argTypes := #[69, 69] }) (B : Nat) (v : Value) (ks : List Nat) (k : Nat) (hs : a.eval s = v) (hown : OwI w B v ks) (hx : a.eval x = .slice (some ⟨w.heap.size, 0, none⟩) 1 1)
    (hlen : ks.length ≤ 1000000000) (hB : B ≤ w.heap.size)
    (h : ∀ v' w', OwI w' B v' (ks ++ [k]) → Below B w w' → wpList Tryz.prog ops Q rest (a.put o.dst v') w') : wpList Tryz.prog ops Q (o :: rest) a (w.alloc (.cells #[.int .i64 (k : Int)] 3)) := by
  obtain ⟨i3, hi, hz, hs3, hb⟩ := info3'
  refine wpList_append_own _ hgd s x 69 ho B 3 i3 (.int .i64 0) 1 8 Tryz.underlying69 hi hz hs3 hb rfl (by decide) v ks.length (ks.map fun k : Nat => Value.int .i64 (k : Int)) hs (ownsRow_below hown (below1 _ _)) ⟨w.heap.size, 0, none⟩ 1 1 [.int .i64 (k : Int)] hx rfl (one_new3 _ _) (by simp [Value.oneCell']) (by unfold maxLen; omega) (by omega) (by simp; omega) ?_
  intro v' w' h1 h2 _
  refine h v' w' ?_ (((Below.refl _ w).alloc hB _).grown h2 (by simp; omega) (ownI_block_ge hown))
  unfold OwI
  rw [List.length_append, List.map_append]
  exact h1
theorem OwI.form {w : World} {B : Nat} {v : Value} {ks : List Nat} (h : OwI w B v ks) : ∃ p c, v = .slice p ks.length c ∧ ks.length ≤ c ∧ c ≤ maxLen ∧ (0 < ks.length → ∃ g, p = some ⟨g, 0, none⟩ ∧ B ≤ g ∧ g < w.heap.size ∧ ∀ j, j < ks.length → w.cell? ⟨g, j, none⟩ = some (.int .i64 ((ks.getD j 0 : Nat) : Int))) := by
  obtain ⟨_, ⟨rfl, h0⟩ | ⟨g, cap, cur, rfl, hg, hh, h1, h2, h3, h4⟩⟩ := h
  · obtain rfl : ks = [] := List.length_eq_zero_iff.1 h0
    exact ⟨none, 0, rfl, Nat.le_refl _, by unfold maxLen; omega, fun h => absurd h (Nat.lt_irrefl 0)⟩
  · have hlt := (Array.getElem?_eq_some_iff.1 hh).1
    refine ⟨some ⟨g, 0, none⟩, cap, rfl, h1, h2, fun _ => ⟨g, rfl, hg, hlt, fun i hi => ?_⟩⟩
    have : cur.toList[i]? = some (.int .i64 ((ks.getD i 0 : Nat) : Int)) := by
      have e : (List.take (ks.length * 1) cur.toList)[i]? = (ks.map fun k : Nat => Value.int .i64 (k : Int))[i]? := by rw [h4]
      rw [List.getElem?_take, if_pos (by omega)] at e
      rw [e]; simp [List.getD, List.getElem?_eq_getElem hi]
    simpa [World.cell?, hh] using this
end Go.Proofs.YtdjdhjciealfhaaGreatDoor
