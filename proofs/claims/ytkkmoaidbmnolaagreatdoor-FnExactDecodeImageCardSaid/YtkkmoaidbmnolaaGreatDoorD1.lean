import Derived.Test.YtkkmoaidbmnolaaGreatDoorWd
import Derived.Test.YtkkmoaidbmnolaaGreatDoorPure2
import Derived.Lib.AppendStr
import Derived.Lib.SlBytesConst
namespace Go.Proofs.YtkkmoaidbmnolaaGreatDoor
open Go.RowKit Ch1
/-- v is a slice of the call's own that holds the bytes xs. -/
def Ow (w : World) (B : Nat) (v : Value) (xs : List Int) : Prop := w.ownsRow B 5 1 v xs.length (xs.map (Value.int .u8))
theorem ownsRow_below {w w' : World} {B : Nat} {e : TypeId} {s n : Nat} {v : Value} {xs : List Value} (h : w.ownsRow B e s v n xs) (hb : Below w.heap.size w w') : w'.ownsRow B e s v n xs := by
  obtain ⟨h1, h2 | ⟨g, cap, cur, hv, hg, hh, r⟩⟩ := h
  · exact ⟨h1, Or.inl h2⟩
  · refine ⟨h1, Or.inr ⟨g, cap, cur, hv, hg, ?_, r⟩⟩
    rw [hb.block g (Array.getElem?_eq_some_iff.1 hh).1]; exact hh
theorem Ow.below {w w' : World} {B : Nat} {v : Value} {xs : List Int} (h : Ow w B v xs) (hb : Below w.heap.size w w') : Ow w' B v xs := ownsRow_below h hb
theorem Ow.nil (w : World) (B : Nat) : Ow w B (.slice none 0 0) [] := ⟨rfl, Or.inl ⟨rfl, rfl⟩⟩
theorem Ow.lit (w : World) (B : Nat) (xs : List Int) (hB : B ≤ w.heap.size) (hl : xs.length ≤ maxLen) : Ow (w.alloc (.cells (xs.map (Value.int .u8)).toArray 5)) B (.slice (some ⟨w.heap.size, 0, none⟩) xs.length xs.length) xs := by
  refine ⟨by simp, Or.inr ⟨w.heap.size, xs.length, (xs.map (Value.int .u8)).toArray, rfl, hB, ?_, Nat.le_refl _, hl, by simp, by rw [Nat.mul_one, List.take_of_length_le (by simp)]⟩⟩
  exact Go.Deep.blk_alloc_new _ _
theorem Ow.by_ {w : World} {B : Nat} {v : Value} {xs : List Int} (h : Ow w B v xs) (hr : ∀ i, 0 ≤ xs.getD i 0 ∧ xs.getD i 0 < 256) : ∃ p c, v = .slice p xs.length c ∧ By w p xs.length c xs ∧ (∀ a, p = some a → a.block < w.heap.size ∧ B ≤ a.block) := by
  obtain ⟨_, ⟨rfl, h0⟩ | ⟨g, cap, cur, rfl, hg, hh, h1, h2, h3, h4⟩⟩ := h
  · obtain rfl : xs = [] := List.length_eq_zero_iff.1 h0
    exact ⟨none, 0, rfl, ⟨rfl, Nat.le_refl _, by unfold maxLen; omega, hr, fun h => absurd h (Nat.lt_irrefl 0), fun a ha => by cases ha⟩, fun a ha => by cases ha⟩
  · have hlt := (Array.getElem?_eq_some_iff.1 hh).1
    refine ⟨some ⟨g, 0, none⟩, cap, rfl, ⟨rfl, h1, h2, hr, fun _ => ⟨g, 0, rfl, fun i hi => ?_⟩, fun a ha _ => by cases ha; exact hlt⟩, fun a ha => by cases ha; exact ⟨hlt, hg⟩⟩
    have : cur.toList[i]? = some (.int .u8 (xs.getD i 0)) := by
      have e : (List.take (xs.length * 1) cur.toList)[i]? = (xs.map (Value.int .u8))[i]? := by rw [h4]
      rw [List.getElem?_take, if_pos (by omega)] at e
      rw [e]; simp [List.getD, List.getElem?_eq_getElem hi]
    simpa [World.cell?, hh] using this
theorem info5' : ∃ i, Tryz.prog.info? 5 = some i ∧ i.zero = some (.int .u8 0) ∧ i.size = 1 ∧ i.bytes = 1 := by
  obtain ⟨i, hi, hpr⟩ := Option.map_eq_some_iff.1 info5
  simp only [Prod.mk.injEq] at hpr
  exact ⟨i, hi, hpr.1, hpr.2.1, hpr.2.2⟩
theorem byte_conv (c : Int) (h0 : 0 ≤ c) (h1 : c < 256) : c % 256 = c := by omega
theorem nums_rng (l : List UInt8) (i : Nat) : 0 ≤ (nums l).getD i 0 ∧ (nums l).getD i 0 < 256 := by
  by_cases hi : i < l.length
  · have : (nums l).getD i 0 = (l[i].toNat : Int) := by simp [nums, List.getD, List.getElem?_eq_getElem hi]
    rw [this]; have := l[i].toNat_lt; omega
  · have : (nums l).getD i 0 = 0 := by simp [nums, List.getD, List.getElem?_eq_none (Nat.le_of_not_lt hi)]
    rw [this]; omega
theorem dec_small (u : Nat) (h : u < 10) : nums (Lib.decDigits u) = [48 + (u : Int)] := by
  unfold Lib.decDigits; rw [dif_pos h]
  simp [nums]; omega
theorem dec_step (u : Nat) (h : ¬ u < 10) : nums (Lib.decDigits u) = nums (Lib.decDigits (u / 10)) ++ [48 + ((u % 10 : Nat) : Int)] := by
  rw [Lib.decDigits, dif_neg h]
  simp [nums]; omega
theorem dec_len (u : Nat) (h : u < 18446744073709551616) : (nums (Lib.decDigits u)).length ≤ 20 := by
  rw [nums_length, Lib.decDigits_length]
  exact Lib.nDigits_le20 u h

/-- What an append onto an own row of bytes leaves. -/
theorem Ow.app {w' : World} {B : Nat} {v' : Value} {xs ys : List Int} {n m : Nat} {cs ds : List Value} (h : w'.ownsRow B 5 1 v' (n + m) (cs ++ ds)) (hn : xs.length = n) (hm : ys.length = m) (hc : cs = xs.map (Value.int .u8)) (hd : ds = ys.map (Value.int .u8)) : Ow w' B v' (xs ++ ys) := by
  subst hn hm hc hd
  unfold Ow
  rw [List.length_append, List.map_append]
  exact h
theorem one_new (w : World) (x : Value) : ∀ j u, ([x] : List Value)[j]? = some u → (w.alloc (.cells #[x] 5)).cell? ((⟨w.heap.size, 0, none⟩ : Addr).add j) = some u := by
  intro j u h
  have hj : j = 0 := by
    cases j with
    | zero => rfl
    | succ j => simp at h
  subst hj
  simp at h
  subst h
  have hb : (w.alloc (.cells #[x] 5)).heap[w.heap.size]? = some (.cells #[x] 5) := Go.Deep.blk_alloc_new _ _
  simp only [Addr.add, if_true, World.cell?]
  rw [hb]
  rfl
theorem own_block_ge {w : World} {B : Nat} {v : Value} {xs : List Int} (h : Ow w B v xs) : ∀ k, v.ownBlock = some k → B ≤ k := by
  obtain ⟨_, ⟨rfl, _⟩ | ⟨g, cap, cur, rfl, hg, _⟩⟩ := h
  · intro k hk; cases hk
  · intro k hk; cases hk; exact hg
theorem wrap_u64 (x : Int) (h0 : 0 ≤ x) (h1 : x < 18446744073709551616) : IntKind.u64.wrap x = x := by
  simp [IntKind.wrap, IntKind.bits, IntKind.signed]
  omega
theorem tdiv10 (x : Int) (h0 : 0 ≤ x) (h1 : x < 18446744073709551616) : IntKind.u64.wrap (x.tdiv 10) = x / 10 := by
  rw [Int.tdiv_eq_ediv_of_nonneg h0]; exact wrap_u64 _ (by omega) (by omega)
theorem tmod10 (x : Int) (h0 : 0 ≤ x) : IntKind.u64.wrap (x.tmod 10) = x % 10 := by
  rw [Int.tmod_eq_emod_of_nonneg h0]; exact wrap_u64 _ (by omega) (by omega)
end Go.Proofs.YtkkmoaidbmnolaaGreatDoor
namespace Go.Proofs.YtkkmoaidbmnolaaGreatDoor
open Go.RowKit Ch1
/-- The call answers a slice that reads as xs; nothing that was there has turned. -/
def Txt (w w' : World) (e : Ending) (xs : List Int) : Prop := ∃ b o c, e = .returned (.slice (some ⟨b, o, none⟩) xs.length c) ∧ By w' (some ⟨b, o, none⟩) xs.length c xs ∧ Below w.heap.size w w'
theorem Ow.txt {w w' : World} {B : Nat} {v : Value} {xs : List Int} (h : Ow w' B v xs) (hr : ∀ i, 0 ≤ xs.getD i 0 ∧ xs.getD i 0 < 256) (h0 : 0 < xs.length) (hb : Below w.heap.size w w') : Txt w w' (.returned v) xs := by
  obtain ⟨p, c, rfl, hy, _⟩ := h.by_ hr
  obtain ⟨b, o, rfl, _⟩ := hy.cells h0
  exact ⟨b, o, c, rfl, hy, hb⟩
theorem itoa_neg (n : Int) (h : n < 0) : itoaZ n = 45 :: nums (Lib.decDigits n.natAbs) := by
  unfold itoaZ Lib.itoa; rw [if_pos h]; rfl
theorem itoa_pos (n : Int) (h : ¬ n < 0) : itoaZ n = nums (Lib.decDigits n.toNat) := by
  unfold itoaZ Lib.itoa; rw [if_neg h]
theorem dec_pos (u : Nat) : 0 < (nums (Lib.decDigits u)).length := by
  rw [nums_length, Lib.decDigits_length]; exact Lib.nDigits_pos u
/-- append(v, x...) onto an own row of bytes. -/
theorem app_law (w : World) {ops : Array Oper} {rest : List Oper} {o : Oper} {a : Act} {Q : Exit → Act → World → Prop} (hgd : o.guard = none) (s x : Operand)
    (ho : o.op = .call { callee := .builtin .append, args := #[s, x], argTypes := #[22, 22] }) (B : Nat) (v : Value) (xs ys : List Int) (hs : a.eval s = v) (hown : Ow w B v xs) (b' o' m c : Nat) (hx : a.eval x = .slice (some ⟨b', o', none⟩) m c)
    (hy : By w (some ⟨b', o', none⟩) m c ys) (hlen : xs.length + m ≤ 1000000000) (hB : B ≤ w.heap.size)
    (h : ∀ v' w', Ow w' B v' (xs ++ ys) → Below B w w' → w.grownBy w' v.ownBlock → wpList Tryz.prog ops Q rest (a.put o.dst v') w') : wpList Tryz.prog ops Q (o :: rest) a w := by
  obtain ⟨i5, hi5, hz5, hs5, hb5⟩ := info5'
  have hl := hy.len
  refine wpList_append_own w hgd s x 22 ho B 5 i5 (.int .u8 0) 1 1 Tryz.underlying22 hi5 hz5 hs5 hb5 rfl (by decide) v xs.length (xs.map (.int .u8)) hs hown ⟨b', o', none⟩ m c (ys.map (.int .u8)) hx (by simp [hl]) ?_ ?_ (by unfold maxLen; omega) (by omega) hB ?_
  · intro j u hu
    by_cases hj : j < ys.length
    · obtain ⟨b, o, e, g⟩ := hy.cells (by omega)
      cases e
      have := g j (by omega)
      rw [Go.WideShapes.add_plain, this, ← hu]
      simp [List.getD, List.getElem?_eq_getElem hj]
    · rw [List.getElem?_eq_none (by simpa using Nat.le_of_not_lt hj)] at hu; cases hu
  · intro u hu
    obtain ⟨n, _, rfl⟩ := List.mem_map.1 hu
    rfl
  · intro v' w' h1 h2 _
    exact h v' w' (Ow.app h1 rfl hl rfl rfl) ((Below.refl _ w).grown h2 hB (own_block_ge hown)) h2
theorem By.lit (w : World) (y : Int) (h0 : 0 ≤ y) (h1 : y < 256) : By (w.alloc (.cells #[.int .u8 y] 5)) (some ⟨w.heap.size, 0, none⟩) 1 1 [y] := by
  refine ⟨rfl, Nat.le_refl _, by unfold maxLen; omega, fun i => ?_, fun _ => ⟨w.heap.size, 0, rfl, fun i hi => ?_⟩, fun a ha _ => by cases ha; simp⟩
  · cases i with
    | zero => exact ⟨h0, h1⟩
    | succ i => simp
  · obtain rfl : i = 0 := by omega
    simp
theorem wrap_neg (n : Int) (h0 : n < 0) (h1 : -9223372036854775808 ≤ n) : IntKind.u64.wrap (-IntKind.u64.wrap n) = -n := by
  simp [IntKind.wrap, IntKind.bits, IntKind.signed]
  omega
set_option maxHeartbeats 400000 in
theorem copy25 (b o n c : Nat) (xs : List Int) (w : World) (hy : By w (some ⟨b, o, none⟩) n c xs) (h0 : 0 < n) (h1 : n ≤ 1048576) :
    Calls Tryz.prog 24 #[.slice (some ⟨b, o, none⟩) n c] w fun e w' => Txt w w' e xs := by
  have HY : Hid (By w (some ⟨b, o, none⟩) n c xs) := hy
  clear hy
  go_enter Tryz.func24, Tryz.ntmps24
  go_wp2_with (at_builtin; refine app_law _ rfl (.tmp 4) (.tmp 5) rfl w.heap.size (.slice none 0 0) [] xs (by simp [Act.eval]) (Ow.nil _ _) b o n c (by simp [Act.eval]) HY.out (by simp; omega) (Nat.le_refl _) ?_; intro v' w' ho hg _; have HO2 : Hid (Ow w' w.heap.size v' ([] ++ xs)) := ho; have HG : Hid (Below w.heap.size w w') := hg; clear ho hg)
  go_ret
  exact Ow.txt HO2.out HY.out.rng (by rw [HY.out.len]; exact h0) HG.out
end Go.Proofs.YtkkmoaidbmnolaaGreatDoor
namespace Go.Proofs.YtkkmoaidbmnolaaGreatDoor
open Go.RowKit Ch1
set_option maxHeartbeats 1000000 in
theorem next23 (p : Option Addr) (n c i m : Nat) (ds : List Dt) (w : World) (hD : Da w p n c ds) (hn : n ≤ 3000) (hm1 : 1 ≤ m) (hm2 : i + m ≤ n) (ho : opn m (ds.drop i) = -1) (hj : ∀ t, t < m → 0 ≤ opn t (ds.drop i) ∧ 0 ≤ ((ds.drop i).getD t dt0).count) :
    Calls Tryz.prog 62 #[.slice p n c, .int .i64 i] w fun e w' => e = .returned (.int .i64 ((i + m : Nat) : Int)) ∧ w' = w := by
  have HD : Hid (Da w p n c ds) := hD
  have HJ : Hid (∀ t, t < m → 0 ≤ opn t (ds.drop i) ∧ 0 ≤ ((ds.drop i).getD t dt0).count) := hj
  have HM : Hid (opn m (ds.drop i) = -1) := ho
  have HL : Hid (∀ t, t ≤ m → opn (m - t) (ds.drop i) ≤ opn m (ds.drop i) + t) := opn_le _ _ (fun t ht => (hj t ht).2)
  have HS : Hid (∀ t, opn (t + 1) (ds.drop i) = opn t (ds.drop i) + (((ds.drop i).getD t dt0).count - 1)) := fun t => rfl
  have HG : Hid (∀ t, (ds.drop i).getD t dt0 = ds.getD (i + t) dt0) := drop_getD ds i
  clear hD hj ho
  obtain ⟨b, o, rfl, hbl, g⟩ := HD.out.cells (by omega)
  obtain ⟨tp, tn, tc, he⟩ := g i (by omega)
  have e3 := he.c3
  have h0 := (HJ.out 0 (by omega)).2
  have s0 := HS.out 0
  rw [HG.out, Nat.add_zero] at h0 s0
  have hl1 := HL.out (m - 1) (by omega)
  rw [show m - (m - 1) = 0 + 1 by omega, HM.out, s0] at hl1
  have HS0 : Hid (opn (0 + 1) (ds.drop i) = 0 + ((ds.getD i dt0).count - 1)) := s0
  clear g he s0
  generalize ds.getD i dt0 = d0 at e3 h0 hl1 HS0
  simp only [opn] at hl1
  go_enter Tryz.func62, Tryz.ntmps62
  go_wp2
  go_loop [5, 6] (fun at_ op => ∃ (t : Nat) (z : Int), 1 ≤ t ∧ t ≤ m ∧ at_ = .int .i64 ((i : Int) + t) ∧ op = .int .i64 z ∧ Hid (z = 1 + opn t (ds.drop i))) (fun at_ _ => (i + m) - (intOf at_).toNat)
  case atStart => exact ⟨1, _, Nat.le_refl _, hm1, rfl, rfl, by unfold Hid; rw [show (1 : Nat) = 0 + 1 from rfl, HS0.out]; omega⟩
  case round =>
    clear e3 h0 hl1 HS0
    obtain ⟨t, z, ht1, ht2, rfl, rfl, hz⟩ := hrel
    by_cases hlt : t < m
    · obtain ⟨b', o', e, hbl', g⟩ := HD.out.cells (by omega)
      cases e
      obtain ⟨tp', tn', tc', he⟩ := g (i + t) (by omega)
      have e3 := he.c3
      have hz0 := (HJ.out t hlt).1
      have hc0 := (HJ.out t hlt).2
      have hhi := he.hi
      have hs := HS.out t
      rw [HG.out] at hc0 hs
      have hl1 := HL.out (m - (t + 1)) (by omega)
      rw [show m - (m - (t + 1)) = t + 1 by omega, HM.out, hs] at hl1
      have HZ : Hid (z + ((ds.getD (i + t) dt0).count - 1) = 1 + opn (t + 1) (ds.drop i)) := by unfold Hid; rw [hs, hz.out]; omega
      have hz1 : 0 < z := by rw [hz.out]; omega
      have hz2 : z + ((ds.getD (i + t) dt0).count - 1) ≤ 3000 := by rw [hz.out]; omega
      have hl0 := HL.out (m - t) (by omega)
      rw [show m - (m - t) = t by omega, HM.out] at hl0
      have hz3 : z ≤ 3000 := by rw [hz.out]; omega
      clear hs hl1 hl0 he g hz0 hz
      generalize ds.getD (i + t) dt0 = d at e3 hc0 hhi HZ hz2
      go_wp2
      exact ⟨⟨t + 1, _, by omega, by omega, by rw [show ((t + 1 : Nat) : Int) = (t : Int) + 1 by omega, Int.add_assoc], rfl, HZ⟩, by simp [intOf]; omega⟩
    · obtain rfl : t = m := by omega
      have hz0 : z = 0 := by rw [hz.out, HM.out]; rfl
      subst hz0
      go_wp2
      go_ret
      exact ⟨rfl, rfl⟩

/-- v is a slice of the call's own that holds the places ks. -/
def OwI (w : World) (B : Nat) (v : Value) (ks : List Nat) : Prop := w.ownsRow B 3 1 v ks.length (ks.map fun k : Nat => Value.int .i64 (k : Int))
theorem OwI.below {w w' : World} {B : Nat} {v : Value} {xs : List Nat} (h : OwI w B v xs) (hb : Below w.heap.size w w') : OwI w' B v xs := ownsRow_below h hb
theorem OwI.nil (w : World) (B : Nat) : OwI w B (.slice none 0 0) [] := ⟨rfl, Or.inl ⟨rfl, rfl⟩⟩
theorem info3' : ∃ i, Tryz.prog.info? 3 = some i ∧ i.zero = some (.int .i64 0) ∧ i.size = 1 ∧ i.bytes = 8 := by
  obtain ⟨i, hi, hpr⟩ := Option.map_eq_some_iff.1 (show (Tryz.prog.info? 3).map (fun i => (i.zero, i.size, i.bytes)) = some (some (.int .i64 0), 1, 8) by kernel_rfl)
  simp only [Prod.mk.injEq] at hpr
  exact ⟨i, hi, hpr.1, hpr.2.1, hpr.2.2⟩
theorem one_new3 (w : World) (x : Value) : ∀ j u, ([x] : List Value)[j]? = some u → (w.alloc (.cells #[x] 3)).cell? ((⟨w.heap.size, 0, none⟩ : Addr).add j) = some u := by
  intro j u h
  have hj : j = 0 := by
    cases j with
    | zero => rfl
    | succ j => simp at h
  subst hj
  simp at h
  subst h
  have hb : (w.alloc (.cells #[x] 3)).heap[w.heap.size]? = some (.cells #[x] 3) := Go.Deep.blk_alloc_new _ _
  simp only [Addr.add, if_true, World.cell?]
  rw [hb]
  rfl
theorem ownI_block_ge {w : World} {B : Nat} {v : Value} {xs : List Nat} (h : OwI w B v xs) : ∀ k, v.ownBlock = some k → B ≤ k := by
  obtain ⟨_, ⟨rfl, _⟩ | ⟨g, cap, cur, rfl, hg, _⟩⟩ := h
  · intro k hk; cases hk
  · intro k hk; cases hk; exact hg
/-- append(v, k) onto an own row of ints. -/
theorem appI_law (w : World) {ops : Array Oper} {rest : List Oper} {o : Oper} {a : Act} {Q : Exit → Act → World → Prop} (hgd : o.guard = none) (s x : Operand)
    (ho : o.op = .call { callee := .builtin .append, args := #[s, x], argTypes := #[80, 80] }) (B : Nat) (v : Value) (ks : List Nat) (k : Nat) (hs : a.eval s = v) (hown : OwI w B v ks) (hx : a.eval x = .slice (some ⟨w.heap.size, 0, none⟩) 1 1)
    (hlen : ks.length ≤ 1000000000) (hB : B ≤ w.heap.size)
    (h : ∀ v' w', OwI w' B v' (ks ++ [k]) → Below B w w' → wpList Tryz.prog ops Q rest (a.put o.dst v') w') : wpList Tryz.prog ops Q (o :: rest) a (w.alloc (.cells #[.int .i64 (k : Int)] 3)) := by
  obtain ⟨i3, hi, hz, hs3, hb⟩ := info3'
  refine wpList_append_own _ hgd s x 80 ho B 3 i3 (.int .i64 0) 1 8 Tryz.underlying80 hi hz hs3 hb rfl (by decide) v ks.length (ks.map fun k : Nat => Value.int .i64 (k : Int)) hs (ownsRow_below hown (below1 _ _)) ⟨w.heap.size, 0, none⟩ 1 1 [.int .i64 (k : Int)] hx rfl (one_new3 _ _) (by simp [Value.oneCell']) (by unfold maxLen; omega) (by omega) (by simp; omega) ?_
  intro v' w' h1 h2 _
  refine h v' w' ?_ (((Below.refl _ w).alloc hB _).grown h2 (by simp; omega) (ownI_block_ge hown))
  unfold OwI
  rw [List.length_append, List.map_append]
  exact h1
theorem OwI.form {w : World} {B : Nat} {v : Value} {ks : List Nat} (h : OwI w B v ks) : ∃ p c, v = .slice p ks.length c ∧ ks.length ≤ c ∧ c ≤ maxLen ∧ (0 < ks.length → ∃ g, p = some ⟨g, 0, none⟩ ∧ B ≤ g ∧ g < w.heap.size ∧ ∀ j, j < ks.length → w.cell? ⟨g, j, none⟩ = some (.int .i64 ((ks.getD j 0 : Nat) : Int))) := by
  obtain ⟨_, ⟨rfl, h0⟩ | ⟨g, cap, cur, rfl, hg, hh, h1, h2, h3, h4⟩⟩ := h
  · obtain rfl : ks = [] := List.length_eq_zero_iff.1 h0
    exact ⟨none, 0, rfl, Nat.le_refl _, by unfold maxLen; omega, fun h => absurd h (Nat.lt_irrefl 0)⟩
  · have hlt := (Array.getElem?_eq_some_iff.1 hh).1
    refine ⟨some ⟨g, 0, none⟩, cap, rfl, h1, h2, fun _ => ⟨g, rfl, hg, hlt, fun i hi => ?_⟩⟩
    have : cur.toList[i]? = some (.int .i64 ((ks.getD i 0 : Nat) : Int)) := by
      have e : (List.take (ks.length * 1) cur.toList)[i]? = (ks.map fun k : Nat => Value.int .i64 (k : Int))[i]? := by rw [h4]
      rw [List.getElem?_take, if_pos (by omega)] at e
      rw [e]; simp [List.getD, List.getElem?_eq_getElem hi]
    simpa [World.cell?, hh] using this
end Go.Proofs.YtkkmoaidbmnolaaGreatDoor
namespace Go.Proofs.YtkkmoaidbmnolaaGreatDoor
open Go.RowKit Ch1
theorem skip_place {k i : Nat} {ds r : List Dt} (h : skip k (ds.drop i) = some r) (hi : i ≤ ds.length) : ∃ m, 1 ≤ m ∧ i + m ≤ ds.length ∧ r = ds.drop (i + m) ∧ opn m (ds.drop i) = -1 ∧ (∀ t, t < m → 0 ≤ opn t (ds.drop i) ∧ 0 ≤ ((ds.drop i).getD t dt0).count) := by
  obtain ⟨m, h1, h2, h3, h4, h5⟩ := dyck k _ _ h
  rw [List.length_drop] at h2
  exact ⟨m, h1, by omega, by rw [h3, List.drop_drop], h4, h5⟩
theorem skipN_le {f : List Dt → Option (List Dt)} {c j : Nat} {l r : List Dt} (h : skipN f c l = some r) (hj : j ≤ c) : ∃ q, skipN f j l = some q := by
  cases e : skipN f j l with
  | some q => exact ⟨q, rfl⟩
  | none =>
    have := skipN_none_mono f j (c - j) l e
    rw [show j + (c - j) = c by omega, h] at this; cases this
theorem getD_app_lt (ks : List Nat) (k j : Nat) (h : j < ks.length) : (ks ++ [k]).getD j 0 = ks.getD j 0 := by simp [List.getD, List.getElem?_append_left h]
theorem getD_app_eq (ks : List Nat) (k j : Nat) (h : j = ks.length) : (ks ++ [k]).getD j 0 = k := by subst h; simp [List.getD]
/-- What l1kids answers. -/
def Kids (k n i cnt : Nat) (ds : List Dt) (w w' : World) (e : Ending) : Prop := ∃ v ks, e = .returned v ∧ OwI w' w.heap.size v ks ∧ ks.length = cnt ∧ (∀ j, j < ks.length → ks.getD j 0 ≤ n ∧ skipN (skip k) j (ds.drop (i + 1)) = some (ds.drop (ks.getD j 0))) ∧ Below w.heap.size w w'
/-- What l1forms answers. -/
def Forms (n : Nat) (ds : List Dt) (w w' : World) (e : Ending) : Prop := ∃ v fs, e = .returned v ∧ OwI w' w.heap.size v fs ∧ rowT ds = fs.flatMap (fun p => txt 100 (ds.drop p) ++ [10]) ∧ (∀ j, j < fs.length → fs.getD j 0 ≤ n ∧ ∃ r, skip 100 (ds.drop (fs.getD j 0)) = some r) ∧ fs.length ≤ n ∧ Below w.heap.size w w'
set_option maxHeartbeats 1000000 in
theorem forms15 (p : Option Addr) (n c : Nat) (ds : List Dt) (w : World) (hD : Da w p n c ds) (hn : n ≤ 3000) (hrow : rowOf ds = true) :
    Calls Tryz.prog 43 #[.slice p n c] w fun e w' => Forms n ds w w' e := by
  have HD : Hid (Da w p n c ds) := hD
  have hlen : Hid (ds.length = n) := hD.len
  have HR : Hid (rowOf ds = true) := hrow
  clear hD hrow
  go_enter Tryz.func43, Tryz.ntmps43
  go_wp2
  go_loopw [3, 4] (fun v at_ wr => ∃ (a : Nat) (fs : List Nat), a ≤ n ∧ at_ = .int .i64 a ∧ fs.length ≤ a ∧ Hid (rowOf (ds.drop a) = true) ∧ Hid (OwI wr w.heap.size v fs) ∧ Hid (rowT ds = fs.flatMap (fun p => txt 100 (ds.drop p) ++ [10]) ++ rowT (ds.drop a)) ∧ Hid (∀ j, j < fs.length → fs.getD j 0 ≤ n ∧ ∃ r, skip 100 (ds.drop (fs.getD j 0)) = some r) ∧ Hid (Below w.heap.size w wr)) (fun _ at_ _ => n - (intOf at_).toNat)
  case atStart => exact ⟨0, [], Nat.zero_le _, rfl, Nat.le_refl _, HR, OwI.nil _ _, rfl, fun t ht => absurd ht (Nat.not_lt_zero t), Below.refl _ _⟩
  case round =>
    obtain ⟨a, fs, ha, rfl, hfl, hro, hO, hrt, hks, hb⟩ := hrel
    by_cases hlt : a < n
    · obtain ⟨q, hq, hq2⟩ := rowOf_next _ hro.out (fun e => by have := congrArg List.length e; rw [List.length_drop, hlen.out] at this; simp at this; omega)
      obtain ⟨m, hm1, hm2, rfl, hop, hjj⟩ := skip_place hq (by rw [hlen.out]; exact ha)
      rw [hlen.out] at hm2
      have HT : Hid (rowT ds = (fs ++ [a]).flatMap (fun p => txt 100 (ds.drop p) ++ [10]) ++ rowT (ds.drop (a + m))) := by
        unfold Hid; rw [hrt.out, rowT_some _ _ hq]; simp
      have HQ : Hid (skip 100 (ds.drop a) = some (ds.drop (a + m))) := hq
      have HQ2 : Hid (rowOf (ds.drop (a + m)) = true) := hq2
      have HOP : Hid (opn m (ds.drop a) = -1 ∧ ∀ t, t < m → 0 ≤ opn t (ds.drop a) ∧ 0 ≤ ((ds.drop a).getD t dt0).count) := ⟨hop, hjj⟩
      have hsz := hb.out.size
      clear hq hq2 hop hjj
      go_wp2_with (first | (at_builtin; refine appI_law _ rfl (.tmp 12) (.tmp 14) rfl w.heap.size _ fs a (by simp [Act.eval]) hO.out (by simp [Act.eval]) (by omega) hsz ?_; intro v' w1 ho hg; have HO1 : Hid (OwI w1 w.heap.size v' (fs ++ [a])) := ho; have HB1 : Hid (Below w.heap.size w w1) := hb.out.trans hg; clear ho hg) | (go_at_call 62; refine (next23 _ n c a m ds _ (by exact HD.out.below HB1.out) hn hm1 hm2 HOP.out.1 HOP.out.2).mono ?_; rintro e w2 ⟨rfl, hw2⟩; have hw3 := hw2.symm; clear hw2; subst hw3))
      refine ⟨⟨a + m, fs ++ [a], hm2, by go_num, by simp; omega, HQ2, HO1, HT, fun t ht => ?_, HB1⟩, by simp [intOf]; omega⟩
      by_cases e : t < fs.length
      · rw [getD_app_lt _ _ _ e]; exact hks.out t e
      · rw [getD_app_eq _ _ _ (by simp at ht; omega)]; exact ⟨ha, _, HQ.out⟩
    · obtain rfl : a = n := by omega
      go_wp2
      go_ret
      refine ⟨_, fs, rfl, hO.out, ?_, hks.out, hfl, hb.out⟩
      rw [hrt.out, List.drop_eq_nil_of_le (by rw [hlen.out]; exact Nat.le_refl _), rowT_nil, List.append_nil]
end Go.Proofs.YtkkmoaidbmnolaaGreatDoor
namespace Go.Proofs.YtkkmoaidbmnolaaGreatDoor
open Go.RowKit Ch1
/-! ### all bytes are bytes -/
def Rg (xs : List Int) : Prop := ∀ x ∈ xs, 0 ≤ x ∧ x < 256
theorem rng_of {xs : List Int} (h : Rg xs) (i : Nat) : 0 ≤ xs.getD i 0 ∧ xs.getD i 0 < 256 := by
  by_cases hi : i < xs.length
  · exact h _ (by simp [List.getD, List.getElem?_eq_getElem hi])
  · simp [List.getD, List.getElem?_eq_none (Nat.le_of_not_lt hi)]
theorem rg_of {xs : List Int} (h : ∀ i, 0 ≤ xs.getD i 0 ∧ xs.getD i 0 < 256) : Rg xs := by
  intro x hx
  obtain ⟨i, hi, e⟩ := List.getElem_of_mem hx
  have := h i
  simpa [List.getD, List.getElem?_eq_getElem hi, e] using this
theorem Rg.app {xs ys : List Int} (h : Rg xs) (k : Rg ys) : Rg (xs ++ ys) := by
  intro x hx
  rcases List.mem_append.1 hx with hx | hx
  · exact h x hx
  · exact k x hx
def RgD (l : List Dt) : Prop := ∀ d ∈ l, Rg d.text
theorem RgD.drop {l : List Dt} (h : RgD l) (i : Nat) : RgD (l.drop i) := fun d hd => h d (List.mem_of_mem_drop hd)
theorem rg_nums (l : List UInt8) : Rg (nums l) := rg_of (nums_rng l)
theorem rg_bool (n : Int) : Rg (boolT n) := by unfold boolT; split <;> (intro x hx; simp at hx; omega)
theorem elems_rg {f : List Dt → Option (List Dt)} {g : List Dt → List Int} (hf : Eats f) (hg : ∀ l, RgD l → Rg (g l)) (r : List Dt) (hr : RgD r) : ∀ c, Rg (elems f g c r) := by
  intro c
  induction c with
  | zero => intro x hx; cases hx
  | succ c ih =>
    refine Rg.app ih (Rg.app ?_ (hg _ ?_))
    · split
      · intro x hx; cases hx
      · intro x hx; simp at hx; omega
    · cases e : skipN f c r with
      | none => intro d hd; cases hd
      | some q =>
        obtain ⟨j, _, _, rfl⟩ := skipN_eats hf _ _ _ e
        exact hr.drop j
theorem txt_rg : ∀ (k : Nat) (l : List Dt), RgD l → Rg (txt k l) := by
  intro k
  induction k with
  | zero =>
    intro l h
    cases l with
    | nil => intro x hx; cases hx
    | cons d r =>
      simp only [txt]
      split
      · exact rg_nums _
      · split
        · exact rg_bool _
        · exact h d (by simp)
  | succ k ih =>
    intro l h
    cases l with
    | nil => intro x hx; cases hx
    | cons d r =>
      simp only [txt]
      split
      · exact rg_nums _
      · split
        · exact rg_bool _
        · split
          · exact h d (by simp)
          · have := elems_rg (skip_eats k) ih r (fun e he => h e (by simp [he])) d.count.toNat
            refine Rg.app (xs := [40]) ?_ (Rg.app this ?_)
            · intro x hx; simp at hx; omega
            · intro x hx; simp at hx; omega
theorem Da.rg {w : World} {p : Option Addr} {n c : Nat} {ds : List Dt} (h : Da w p n c ds) : RgD ds := by
  intro d hd
  obtain ⟨i, hi, rfl⟩ := List.getElem_of_mem hd
  obtain ⟨b, o, _, _, g⟩ := h.cells (by rw [← h.len]; omega)
  obtain ⟨tp, tn, tc, he⟩ := g i (by rw [← h.len]; exact hi)
  have := rg_of he.by_.rng
  simpa [List.getD, List.getElem?_eq_getElem hi] using this
/-! ### the places of a list's elements, readable -/
def Kd (w : World) (kv : Value) (ks : List Nat) : Prop := ∃ p c, kv = .slice p ks.length c ∧ (0 < ks.length → ∃ g cur, p = some ⟨g, 0, none⟩ ∧ w.heap[g]? = some (.cells cur 3) ∧ ks.length ≤ c ∧ ∀ j, j < ks.length → cur[j]? = some (.int .i64 ((ks.getD j 0 : Nat) : Int)))
theorem OwI.kd {w : World} {B : Nat} {v : Value} {ks : List Nat} (h : OwI w B v ks) : Kd w v ks := by
  obtain ⟨_, ⟨rfl, h0⟩ | ⟨g, cap, cur, rfl, hg, hh, h1, h2, h3, h4⟩⟩ := h
  · exact ⟨none, 0, by rw [h0], fun h => by omega⟩
  · refine ⟨some ⟨g, 0, none⟩, cap, rfl, fun _ => ⟨g, cur, rfl, hh, h1, fun i hi => ?_⟩⟩
    have e : (List.take (ks.length * 1) cur.toList)[i]? = (ks.map fun k : Nat => Value.int .i64 (k : Int))[i]? := by rw [h4]
    rw [List.getElem?_take, if_pos (by omega)] at e
    have : cur.toList[i]? = some (.int .i64 ((ks.getD i 0 : Nat) : Int)) := by rw [e]; simp [List.getD, List.getElem?_eq_getElem hi]
    simpa using this
theorem Kd.below {w w' : World} {kv : Value} {ks : List Nat} (h : Kd w kv ks) (hb : Below w.heap.size w w') : Kd w' kv ks := by
  obtain ⟨p, c, e, hc⟩ := h
  refine ⟨p, c, e, fun hn => ?_⟩
  obtain ⟨g, cur, e1, hh, r⟩ := hc hn
  exact ⟨g, cur, e1, by rw [hb.block g (Array.getElem?_eq_some_iff.1 hh).1]; exact hh, r⟩
theorem Kd.grown {w w' : World} {B : Nat} {v kv : Value} {xs : List Int} {ks : List Nat} (h : Kd w kv ks) (ho : Ow w B v xs) (hg : w.grownBy w' v.ownBlock) : Kd w' kv ks := by
  obtain ⟨p, c, e, hc⟩ := h
  refine ⟨p, c, e, fun hn => ?_⟩
  obtain ⟨g, cur, e1, hh, r⟩ := hc hn
  refine ⟨g, cur, e1, ?_, r⟩
  rw [hg.block g (Array.getElem?_eq_some_iff.1 hh).1 ?_]; exact hh
  obtain ⟨_, ⟨rfl, _⟩ | ⟨g', cap, cur', rfl, _, hh', _⟩⟩ := ho
  · intro e; cases e
  · intro e; cases e
    rw [hh] at hh'; cases hh'
theorem Kd.cell {w : World} {kv : Value} {ks : List Nat} (h : Kd w kv ks) (hn : 0 < ks.length) : ∃ g c, kv = .slice (some ⟨g, 0, none⟩) ks.length c ∧ ks.length ≤ c ∧ ∀ j, j < ks.length → w.cell? ⟨g, j, none⟩ = some (.int .i64 ((ks.getD j 0 : Nat) : Int)) := by
  obtain ⟨p, c, e, hc⟩ := h
  obtain ⟨g, cur, rfl, hh, hl, r⟩ := hc hn
  exact ⟨g, c, e, hl, fun j hj => by simp [World.cell?, hh, r j hj]⟩
theorem By.lit2 (w : World) (x y : Int) (hx : 0 ≤ x ∧ x < 256) (hy : 0 ≤ y ∧ y < 256) : By (w.alloc (.cells #[.int .u8 x, .int .u8 y] 5 (2, 3))) (some ⟨w.heap.size, 0, none⟩) 2 2 [x, y] := by
  refine ⟨rfl, Nat.le_refl _, by unfold maxLen; omega, rng_of ?_, fun _ => ⟨w.heap.size, 0, rfl, fun i hi => ?_⟩, fun a ha _ => by cases ha; simp⟩
  · intro z hz; simp at hz; rcases hz with rfl | rfl
    · exact hx
    · exact hy
  · rw [World.cell?_alloc_mark]
    match i, hi with
    | 0, _ => rfl
    | 1, _ => rfl
theorem Txt.up {w W w' : World} {e : Ending} {xs : List Int} (h : Txt W w' e xs) (hb : Below w.heap.size w W) : Txt w w' e xs := by
  obtain ⟨b, o, c, h1, h2, h3⟩ := h
  exact ⟨b, o, c, h1, h2, hb.trans (h3.mono hb.size)⟩
end Go.Proofs.YtkkmoaidbmnolaaGreatDoor
namespace Go.Proofs.YtkkmoaidbmnolaaGreatDoor
open Go.RowKit Ch1
/-- The reader's panic. -/
def faultE : Ending := .panicked [{ v := .iface 51 (.agg #[.int .i64 5, .int .i64 0]), recovered := false }]
theorem need_yes (r : Value) (w : World) : Calls Tryz.prog 28 #[r, .bool true] w fun e w' => e = .returned (.tuple #[]) ∧ w' = w := by
  go_enter Tryz.func28, Tryz.ntmps28
  go_wp2
  go_end0
  exact ⟨rfl, rfl⟩
theorem need_no (r : Value) (w : World) : Calls Tryz.prog 28 #[r, .bool false] w fun e w' => e = .panicked [{ v := .iface 51 (.agg #[.int .i64 5, .int .i64 0]), recovered := false }] ∧ w' = w := by
  go_enter Tryz.func28, Tryz.ntmps28
  go_wp2
  exact ⟨rfl, rfl, rfl⟩
/-- The reader in block b, and the bytes that are not yet read. -/
structure Rd (w : World) (b : Nat) (p : Option Addr) (n c : Nat) (xs : List Int) : Prop where
  blk : w.heap[b]? = some (.cells #[.slice p n c] 67)
  by_ : By w p n c xs
  far : ∀ a, p = some a → 0 < n → a.block < b
theorem Rd.lt {w : World} {b : Nat} {p : Option Addr} {n c : Nat} {xs : List Int} (h : Rd w b p n c xs) : b < w.heap.size := (Array.getElem?_eq_some_iff.1 h.blk).1
theorem Rd.cell {w : World} {b : Nat} {p : Option Addr} {n c : Nat} {xs : List Int} (h : Rd w b p n c xs) : w.cell? ⟨b, 0, none⟩ = some (.slice p n c) ∧ w.frozen? ⟨b, 0, none⟩ = false := by
  constructor <;> simp [World.cell?, World.frozen?, h.blk]
theorem Rd.below {w w' : World} {b : Nat} {p : Option Addr} {n c : Nat} {xs : List Int} (h : Rd w b p n c xs) (hb : Below w.heap.size w w') : Rd w' b p n c xs := ⟨(hb.block b h.lt).trans h.blk, h.by_.below hb, h.far⟩
theorem By.takeD {w : World} {p : Option Addr} {n c : Nat} {xs : List Int} (h : By w p n c xs) {m : Nat} (hm : m ≤ n) : By w p m c (xs.take m) := by
  refine ⟨by rw [List.length_take, h.len]; omega, Nat.le_trans hm h.cap, h.big, rng_of (fun x hx => rg_of h.rng x (List.mem_of_mem_take hx)), fun h0 => ?_, fun a ha h0 => h.old a ha (by omega)⟩
  obtain ⟨b, o, e, g⟩ := h.cells (by omega)
  exact ⟨b, o, e, fun i hi => by rw [g i (by omega)]; simp [List.getD, hi]⟩
theorem By.dropD {w : World} {p q : Option Addr} {n c d : Nat} {xs : List Int} (h : By w p n c xs) {m : Nat} (hm : m ≤ n) (hd : n - m ≤ d) (hbig : d ≤ maxLen) (hq : ∀ b o, p = some ⟨b, o, none⟩ → m < n → q = some ⟨b, o + m, none⟩) : By w q (n - m) d (xs.drop m) := by
  refine ⟨by rw [List.length_drop, h.len], hd, hbig, rng_of (fun x hx => rg_of h.rng x (List.mem_of_mem_drop hx)), fun h0 => ?_, fun a ha h0 => ?_⟩
  · obtain ⟨b, o, e, g⟩ := h.cells (by omega)
    refine ⟨b, o + m, hq b o e (by omega), fun i hi => ?_⟩
    have := g (m + i) (by omega)
    rw [show o + m + i = o + (m + i) by omega, this]
    simp [List.getD]
  · obtain ⟨b, o, e, g⟩ := h.cells (by omega)
    have h1 := hq b o e (by omega)
    rw [ha] at h1
    cases h1
    have := h.old _ e (by omega)
    exact this
theorem By.setCellD {w : World} {p : Option Addr} {n c : Nat} {xs : List Int} (h : By w p n c xs) (b j : Nat) (v : Value) (hp : ∀ a, p = some a → 0 < n → a.block ≠ b) : By (w.setCell ⟨b, j, none⟩ v) p n c xs := by
  refine ⟨h.len, h.cap, h.big, h.rng, fun hn => ?_, fun a ha hn => by have := h.old a ha hn; simpa [World.setCell] using this⟩
  obtain ⟨b', o, e, hc⟩ := h.cells hn
  have ho := hp _ e hn
  exact ⟨b', o, e, fun i hi => by rw [World.cell?_of_block (w := w) (Below.heap_setCell w ⟨b, j, none⟩ v b' ho)]; exact hc i hi⟩
theorem Rd.set {w : World} {b : Nat} {p q : Option Addr} {n c m d : Nat} {xs ys : List Int} (h : Rd w b p n c xs) (hy : By w q m d ys) (hq : ∀ a, q = some a → 0 < m → a.block < b) : Rd (w.setCell ⟨b, 0, none⟩ (.slice q m d)) b q m d ys := by
  refine ⟨?_, hy.setCellD b 0 _ (fun a ha h0 => Nat.ne_of_lt (hq a ha h0)), hq⟩
  obtain ⟨hlt, e2⟩ := Array.getElem?_eq_some_iff.1 h.blk
  simp [World.setCell, Array.getElem_modify, e2, hlt]
/-- Only the reader's place has turned. -/
structure Sr (b : Nat) (w w' : World) : Prop where
  size : w.heap.size ≤ w'.heap.size
  os : w'.os = w.os
  tape : w'.tape = w.tape
  output : w'.output = w.output
  block : ∀ k, k < w.heap.size → k ≠ b → w'.heap[k]? = w.heap[k]?
theorem Sr.refl (b : Nat) (w : World) : Sr b w w := ⟨Nat.le_refl _, rfl, rfl, rfl, fun _ _ _ => rfl⟩
theorem Sr.trans {b : Nat} {u v w : World} (h : Sr b u v) (k : Sr b v w) : Sr b u w := ⟨Nat.le_trans h.size k.size, k.os.trans h.os, k.tape.trans h.tape, k.output.trans h.output, fun i h1 h2 => (k.block i (Nat.lt_of_lt_of_le h1 h.size) h2).trans (h.block i h1 h2)⟩
theorem Sr.set (b : Nat) (w : World) (j : Nat) (v : Value) : Sr b w (w.setCell ⟨b, j, none⟩ v) := ⟨by simp [World.setCell], rfl, rfl, rfl, fun k _ hk => Below.heap_setCell w ⟨b, j, none⟩ v k hk⟩
theorem Sr.of_below {b : Nat} {w w' : World} (h : Below w.heap.size w w') : Sr b w w' := ⟨h.size, h.os, h.tape, h.output, fun k hk _ => h.block k hk⟩
theorem Sr.below {b B : Nat} {w w' : World} (h : Sr b w w') (hB : B ≤ b) (hs : B ≤ w.heap.size) : Below B w w' := ⟨h.os, h.tape, h.output, h.size, fun k hk => h.block k (by omega) (by omega)⟩
/-- What take answers where there are bytes enough. -/
def TkP (b : Nat) (p : Option Addr) (n c k : Nat) (xs : List Int) (w w' : World) (e : Ending) : Prop := e = .returned (.slice p k c) ∧ ∃ q d, Rd w' b q (n - k) d (xs.drop k) ∧ Sr b w w' ∧ By w' p k c (xs.take k)
set_option maxRecDepth 20000 in
set_option maxHeartbeats 2000000 in
theorem take_yes (b : Nat) (p : Option Addr) (n c k : Nat) (xs : List Int) (w : World) (hR : Rd w b p n c xs) (hk : k ≤ n) (hn : n ≤ 1048576) :
    Calls Tryz.prog 29 #[.pointer (some ⟨b, 0, none⟩), .int .i64 k] w fun e w' => TkP b p n c k xs w w' e := by
  have HR : Hid (Rd w b p n c xs) := hR
  obtain ⟨c0, f0⟩ := hR.cell
  have hcap := hR.by_.cap
  have hbig := small_of hcap hR.by_.big
  have hcb : c ≤ 9223372036854775807 := by have := hR.by_.big; unfold maxLen at this; omega
  have dk : decide ((k : Int) ≤ n) = true := decide_eq_true (by omega)
  have hkc : (k : Int) ≤ c := by omega
  have HFAR : Hid (∀ a, p = some a → 0 < k → a.block ≠ b) := fun a ha h0 => Nat.ne_of_lt (hR.far a ha (by omega))
  have HTK : Hid (∀ v, By (w.setCell ⟨b, 0, none⟩ v) p k c (xs.take k)) := fun v => (hR.by_.takeD hk).setCellD b 0 v HFAR.out
  clear hR
  by_cases hck : c = k
  · have HD : Hid (By w p 0 0 (xs.drop k)) := by
      have h1 : By w p (n - k) 0 (xs.drop k) := HR.out.by_.dropD hk (by omega) (by unfold maxLen; omega) (fun _ _ _ h => by omega)
      rw [show n - k = 0 by omega] at h1
      exact h1
    have HN : Hid (n - k = 0) := by unfold Hid; omega
    subst hck
    go_enter Tryz.func29, Tryz.ntmps29
    go_wp2_with (go_at_call 28; refine (need_yes _ _).mono ?_; rintro e w1 ⟨rfl, hw1⟩; have hw1' := hw1.symm; clear hw1; subst hw1')
    go_ret
    exact ⟨rfl, p, 0, by rw [HN.out]; exact HR.out.set HD.out (fun _ _ h => by omega), Sr.set _ _ _ _, HTK.out _⟩
  · have HD : Hid (By w (Option.map (fun x => x.add k) p) (n - k) (c - k) (xs.drop k)) := HR.out.by_.dropD hk (by omega) (by have := HR.out.by_.big; omega) (fun b' o' e _ => by rw [e]; simp [Addr.add])
    have HQ : Hid (∀ a, Option.map (fun x : Addr => x.add k) p = some a → 0 < n - k → a.block < b) := fun a ha h0 => by
      obtain ⟨b', o', e, _⟩ := HR.out.by_.cells (by omega)
      have := HR.out.far _ e (by omega)
      rw [e] at ha
      simp [Addr.add] at ha
      subst ha
      split <;> exact this
    go_enter Tryz.func29, Tryz.ntmps29
    go_wp2_with (go_at_call 28; refine (need_yes _ _).mono ?_; rintro e w1 ⟨rfl, hw1⟩; have hw1' := hw1.symm; clear hw1; subst hw1')
    go_ret
    exact ⟨rfl, _, _, HR.out.set HD.out HQ.out, Sr.set _ _ _ _, HTK.out _⟩
set_option maxRecDepth 20000 in
set_option maxHeartbeats 1000000 in
theorem take_no (b : Nat) (p : Option Addr) (n c k : Nat) (xs : List Int) (w : World) (hR : Rd w b p n c xs) (hk : n < k) :
    Calls Tryz.prog 29 #[.pointer (some ⟨b, 0, none⟩), .int .i64 k] w fun e w' => e = faultE ∧ w' = w := by
  obtain ⟨c0, f0⟩ := hR.cell
  have hbig := small_of hR.by_.cap hR.by_.big
  have dk : decide ((k : Int) ≤ n) = false := decide_eq_false (by omega)
  have dk2 : decide (k ≤ n) = false := decide_eq_false (by omega)
  clear hR
  go_enter Tryz.func29, Tryz.ntmps29
  go_wp2_with (go_at_call 28; refine (need_no _ _).mono ?_; rintro e w1 ⟨rfl, hw1⟩; have hw1' := hw1.symm; clear hw1; subst hw1')
  exact ⟨rfl, rfl, rfl⟩
/-- A number of the first k bytes, the lowest first. -/
def lnZ : List Int → Int
  | [] => 0
  | x :: r => x + 256 * lnZ r
theorem lnZ_snoc (xs : List Int) (y : Int) : lnZ (xs ++ [y]) = lnZ xs + y * 256 ^ xs.length := by
  induction xs with
  | nil => simp [lnZ]
  | cons x r ih => simp only [List.cons_append, lnZ, ih, List.length_cons, Int.pow_succ]; rw [Int.mul_add, Int.mul_comm 256 (y * 256 ^ r.length), Int.mul_assoc]; omega
theorem lnZ_rg (xs : List Int) (h : Rg xs) : 0 ≤ lnZ xs ∧ lnZ xs < 256 ^ xs.length := by
  induction xs with
  | nil => simp [lnZ]
  | cons x r ih =>
    have h1 := ih (fun y hy => h y (by simp [hy]))
    have h2 := h x (by simp)
    simp only [lnZ, List.length_cons, Int.pow_succ]
    omega
theorem or_step (m : Nat) (hm : m ≤ 56) (a y : Int) (h0 : 0 ≤ a) (h1 : a < ((2 ^ m : Nat) : Int)) (y0 : 0 ≤ y) (y1 : y < 256) : bits .or .i64 a (wrap64 (y * ((2 ^ m : Nat) : Int))) = wrap64 (a + y * ((2 ^ m : Nat) : Int)) := by
  obtain ⟨A, rfl⟩ := Int.eq_ofNat_of_zero_le h0
  obtain ⟨Y, rfl⟩ := Int.eq_ofNat_of_zero_le y0
  have hM : 2 ^ m ≤ 2 ^ 56 := Nat.pow_le_pow_right (by omega) hm
  have hA : A < 2 ^ m := by omega
  have hor : A ||| (2 ^ m * Y) = 2 ^ m * Y + A := by rw [Nat.or_comm, ← Nat.two_pow_add_eq_or_of_lt hA Y]
  have hYM : 2 ^ m * Y < 18446744073709551616 := by
    have : 2 ^ m * Y ≤ 2 ^ 56 * 255 := Nat.mul_le_mul hM (by omega)
    omega
  have e : ((Y : Int) * ((2 ^ m : Nat) : Int)) = ((2 ^ m * Y : Nat) : Int) := by rw [Int.mul_comm, Int.natCast_mul]
  rw [e]
  generalize 2 ^ m * Y = t at hor hYM
  show IntKind.i64.wrap ((BitVec.ofInt 64 (A : Int) ||| BitVec.ofInt 64 (wrap64 (t : Int))).toNat : Int) = _
  have ht : (BitVec.ofInt 64 (wrap64 (t : Int))).toNat = t := by
    rw [BitVec.toNat_ofInt]
    simp [wrap64]
    omega
  have hA2 : (BitVec.ofInt 64 (A : Int)).toNat = A := by
    rw [BitVec.toNat_ofInt]
    simp
    omega
  rw [BitVec.toNat_or, ht, hA2, hor]
  rw [show ((t + A : Nat) : Int) = (A : Int) + (t : Int) by omega, IntKind.wrap_i64]
  unfold wrap64
  omega
/-- What number answers. -/
def NuP (b n k : Nat) (xs : List Int) (w w' : World) (e : Ending) : Prop := e = .returned (.int .i64 (wrap64 (lnZ (xs.take k)))) ∧ ∃ q d, Rd w' b q (n - k) d (xs.drop k) ∧ Sr b w w'
theorem wrap64_small (x : Int) (h0 : -9223372036854775808 ≤ x) (h1 : x ≤ 9223372036854775807) : wrap64 x = x := by unfold wrap64; omega
theorem num_step (ys : List Int) (hr : Rg ys) (j : Nat) (hj : j < ys.length) (h7 : j ≤ 7) (y : Int) (hy : y = ys.getD j 0) : bits .or .i64 (wrap64 (lnZ (ys.take j))) (wrap64 (y * 2 ^ (8 * j))) = wrap64 (lnZ (ys.take (j + 1))) := by
  have h1 := lnZ_rg (ys.take j) (fun x hx => hr x (List.mem_of_mem_take hx))
  have hl : (ys.take j).length = j := by rw [List.length_take]; omega
  rw [hl] at h1
  have e1 : (256 : Int) ^ j = ((2 ^ (8 * j) : Nat) : Int) := by
    rw [show (256 : Int) = 2 ^ 8 from rfl, ← Int.pow_mul]
    simp
  have e2 : (2 : Int) ^ (8 * j) = ((2 ^ (8 * j) : Nat) : Int) := by simp
  have hM : 2 ^ (8 * j) ≤ 2 ^ 56 := Nat.pow_le_pow_right (by omega) (by omega)
  have hyr : 0 ≤ y ∧ y < 256 := by rw [hy]; exact rng_of hr j
  rw [List.take_succ_eq_append_getElem hj, lnZ_snoc, hl, e1, e2]
  rw [e1] at h1
  rw [wrap64_small _ (by omega) (by omega), or_step (8 * j) (by omega) _ y h1.1 h1.2 hyr.1 hyr.2]
  congr 3
  rw [hy]; simp [List.getD, List.getElem?_eq_getElem hj]
set_option maxRecDepth 20000 in
set_option maxHeartbeats 2000000 in
theorem number_yes (b : Nat) (p : Option Addr) (n c k : Nat) (xs : List Int) (w : World) (hR : Rd w b p n c xs) (hk : k ≤ n) (hn : n ≤ 1048576) (hk8 : k ≤ 8) :
    Calls Tryz.prog 32 #[.pointer (some ⟨b, 0, none⟩), .int .i64 k] w fun e w' => NuP b n k xs w w' e := by
  have HR : Hid (Rd w b p n c xs) := hR
  clear hR
  go_enter Tryz.func32, Tryz.ntmps32
  go_wp2_with fail
  refine (take_yes b p n c k xs _ HR.out hk hn).mono ?_
  rintro e w1 ⟨rfl, q, d, hr1, hs1, hy1⟩
  have HR1 : Hid (Rd w1 b q (n - k) d (xs.drop k)) := hr1
  have HS1 : Hid (Sr b w w1) := hs1
  have HY1 : Hid (By w1 p k c (xs.take k)) := hy1
  have hkb : k ≤ 9223372036854775807 := by omega
  clear hr1 hs1 hy1
  generalize hys : xs.take k = ys at HY1
  have HYS : Hid (xs.take k = ys) := hys
  clear hys
  go_wp2
  go_loop [5, 12] (fun nv iv => ∃ (j : Nat) (z : Int), j ≤ k ∧ iv = .int .i64 j ∧ nv = .int .i64 z ∧ Hid (z = wrap64 (lnZ (ys.take j)))) (fun _ iv => k - (intOf iv).toNat)
  case atStart => exact ⟨0, 0, Nat.zero_le _, rfl, rfl, by unfold Hid; rw [List.take_zero, lnZ, wrap64_small _ (by omega) (by omega)]⟩
  case round =>
    obtain ⟨j, z, hj, rfl, rfl, hz⟩ := hrel
    by_cases hlt : j < k
    · obtain ⟨yb, yo, rfl, g⟩ := HY1.out.cells (by omega)
      have g1 := g j hlt
      obtain ⟨y, hy⟩ : ∃ y, y = ys.getD j 0 := ⟨_, rfl⟩
      have hyr := HY1.out.rng j
      rw [← hy] at g1 hyr
      have hy0 := hyr.1
      have hy1 := hyr.2
      have HN : Hid (bits .or .i64 z (wrap64 (y * 2 ^ (8 * j))) = wrap64 (lnZ (ys.take (j + 1)))) := by
        unfold Hid; rw [hz.out]; exact num_step ys (rg_of HY1.out.rng) j (by rw [HY1.out.len]; exact hlt) (by omega) y hy
      clear g hy hyr
      go_wp2
      exact ⟨⟨j + 1, _, by omega, by go_num, rfl, HN.out⟩, by simp [intOf]; omega⟩
    · obtain rfl : j = k := by omega
      go_wp2
      go_ret
      exact ⟨ret_int (by rw [hz.out, HYS.out, List.take_of_length_le (by rw [HY1.out.len]; exact Nat.le_refl _)]), q, d, HR1.out, HS1.out⟩
set_option maxRecDepth 20000 in
set_option maxHeartbeats 1000000 in
theorem number_no (b : Nat) (p : Option Addr) (n c k : Nat) (xs : List Int) (w : World) (hR : Rd w b p n c xs) (hk : n < k) :
    Calls Tryz.prog 32 #[.pointer (some ⟨b, 0, none⟩), .int .i64 k] w fun e w' => e = faultE ∧ w' = w := by
  have HR : Hid (Rd w b p n c xs) := hR
  clear hR
  go_enter Tryz.func32, Tryz.ntmps32
  go_wp2_with fail
  refine (take_no b p n c k xs _ HR.out hk).mono ?_
  rintro e w1 ⟨rfl, hw1⟩
  have hw1' := hw1.symm
  clear hw1
  subst hw1'
  exact ⟨rfl, rfl, rfl⟩
end Go.Proofs.YtkkmoaidbmnolaaGreatDoor
