import Derived.Test.YtmmkpmgidoelpaaDoorS5
namespace Go.Proofs.YtmmkpmgidoelpaaDoor
open Go.RowKit Ch1 Ch2s
/-! ### the type switch -/
theorem ta_same (t : TypeId) (ht : t = 77 ∨ t = 80 ∨ t = 81 ∨ t = 82) (v : Value) (w : World) : (Instr.typeAssert (.iface t v) 20 t true).run Tryd.prog w = .ok (.tuple #[v, .bool true]) w := by
  rcases ht with rfl | rfl | rfl | rfl <;> kernel_rfl
theorem ta_num (t : TypeId) (ht : t = 80 ∨ t = 81 ∨ t = 82 ∨ t = 84) (v : Value) (w : World) : (Instr.typeAssert (.iface t v) 20 77 true).run Tryd.prog w = .ok (.tuple #[.int .i64 0, .bool false]) w := by
  rcases ht with rfl | rfl | rfl | rfl <;> kernel_rfl
theorem ta_sym (t : TypeId) (ht : t = 81 ∨ t = 82 ∨ t = 84) (v : Value) (w : World) : (Instr.typeAssert (.iface t v) 20 80 true).run Tryd.prog w = .ok (.tuple #[.int .i64 0, .bool false]) w := by
  rcases ht with rfl | rfl | rfl <;> kernel_rfl
theorem ta_text (t : TypeId) (ht : t = 82 ∨ t = 84) (v : Value) (w : World) : (Instr.typeAssert (.iface t v) 20 81 true).run Tryd.prog w = .ok (.tuple #[.string ⟨#[]⟩, .bool false]) w := by
  rcases ht with rfl | rfl <;> kernel_rfl
theorem ta_vec (v : Value) (w : World) : (Instr.typeAssert (.iface 84 v) 20 82 true).run Tryd.prog w = .ok (.tuple #[.slice none 0 0, .bool false]) w := by kernel_rfl
section
variable {w0 : World} {p : Option Addr} {n c : Nat} {top : Int} {ws : List Int} {np : Option Addr} {nn nc : Nat} {ns : List (List Int)} (b : Nat)
theorem symbol_c (hC : Cx w0 p n c top ws np nn nc ns) (k : Int) (v : Value) (xs : List Int) (w : World) (hW : Sh w b w0.heap.size (.slice p n c) top (.slice np nn nc) v xs) (hb : Below w0.heap.size w0 w) (hx : xs.length ≤ 1000) (h0 : 0 ≤ k) (h1 : k ≤ 9223372036854775807) :
    Calls Tryd.prog 44 #[.pointer (some ⟨b, 0, none⟩), .int .i64 k] w fun e w' => e = .returned (.tuple #[]) ∧ ShowP w0 b p n c top np nn nc (putT (symZ ns k) xs) w w' := by
  by_cases hlt : k < nn
  · exact symbol_yes b hC k v xs w hW hb hx h0 hlt
  · exact symbol_no b hC k v xs w hW hb hx h0 h1 hlt
set_option maxHeartbeats 1000000 in
/-- There is no room left. -/
theorem show_full (x : Int) (v : Value) (xs : List Int) (w : World) (hW : Sh w b w0.heap.size (.slice p n c) top (.slice np nn nc) v xs) (hx : xs.length = 1000) :
    Calls Tryd.prog 31 #[.pointer (some ⟨b, 0, none⟩), .int .i64 x] w fun e w' => e = .returned (.tuple #[]) ∧ ShowP w0 b p n c top np nn nc xs w w' := by
  have HW : Hid (Sh w b w0.heap.size (.slice p n c) top (.slice np nn nc) v xs) := hW
  have hdf : decide (xs.length = 1000) = true := decide_eq_true hx
  clear hW hx
  go_enter Tryd.func31, Tryd.ntmps31
  go_wp2_with (go_at_call 40; refine (full_c b _ _ _ _ v xs _ HW.out).mono ?_; rintro e w3 ⟨rfl, hw3⟩; have hw3' := hw3.symm; clear hw3; subst hw3'; rw [hdf])
  exact bodyPost_ret (results_none rfl _ _ _) rfl ⟨rfl, v, HW.out, Sk.refl _ _ _⟩
set_option maxRecDepth 20000 in
set_option maxHeartbeats 4000000 in
/-- A text that is put as it is. -/
theorem show_text (x : Int) (s : ByteArray) (hs : s.size ≤ 1000) (hM : ∀ w', Below w0.heap.size w0 w' → Calls Tryd.prog 41 #[.agg #[.slice p n c, .int .i64 top], .int .i64 x] w' fun e w'' => e = .returned (.iface 81 (.string s)) ∧ Below w'.heap.size w' w'') (v : Value) (xs : List Int) (w : World) (hW : Sh w b w0.heap.size (.slice p n c) top (.slice np nn nc) v xs) (hb : Below w0.heap.size w0 w) (hx : xs.length < 1000) :
    Calls Tryd.prog 31 #[.pointer (some ⟨b, 0, none⟩), .int .i64 x] w fun e w' => e = .returned (.tuple #[]) ∧ ShowP w0 b p n c top np nn nc (putT (nums s.data.toList) xs) w w' := by
  have HW : Hid (Sh w b w0.heap.size (.slice p n c) top (.slice np nn nc) v xs) := hW
  have HM : Hid (∀ w', Below w0.heap.size w0 w' → Calls Tryd.prog 41 #[.agg #[.slice p n c, .int .i64 top], .int .i64 x] w' fun e w'' => e = .returned (.iface 81 (.string s)) ∧ Below w'.heap.size w' w'') := hM
  have HB : Hid (Below w0.heap.size w0 w) := hb
  have hB := hb.size
  have hdf : decide (xs.length = 1000) = false := decide_eq_false (by omega)
  obtain ⟨s0, s1, _, _, _⟩ := hW.cells
  have t1 := ta_num 81 (Or.inr (Or.inl rfl))
  have t2 := ta_sym 81 (Or.inl rfl)
  have t3 := ta_same 81 (Or.inr (Or.inr (Or.inl rfl)))
  clear hW hM hb
  go_enter Tryd.func31, Tryd.ntmps31
  go_wp2_with (go_at_call 40; refine (full_c b _ _ _ _ v xs _ HW.out).mono ?_; rintro e w3 ⟨rfl, hw3⟩; have hw3' := hw3.symm; clear hw3; subst hw3'; rw [hdf])
  refine (HM.out _ HB.out).mono ?_
  rintro e w1 ⟨rfl, hb1⟩
  obtain ⟨cc, w2, hr, hy, hb2⟩ := conv_str 81 Tryd.underlying81 w1 s (by omega)
  have HB2 : Hid (Below w.heap.size w w2) := hb1.trans (hb2.mono hb1.size)
  have HY : Hid (By w2 (some ⟨w1.heap.size, 0, none⟩) s.size cc (nums s.data.toList)) := hy
  clear hb1 hb2 hy
  go_wp2_with fail
  refine (puts_c b _ _ _ _ v xs _ _ _ cc _ (HW.out.below HB2.out) HY.out (by omega) (by omega) (Nat.le_trans hB HB2.out.size)).mono ?_
  rintro e w3 ⟨rfl, hp3⟩
  have HP : Hid (ShowP w0 b p n c top np nn nc (putT (nums s.data.toList) xs) w w3) := ShP.trans (Sk.of_below HB2.out hB) hp3
  clear hp3
  go_wp2
  go_end0
  exact ⟨rfl, HP.out⟩
set_option maxRecDepth 20000 in
set_option maxHeartbeats 4000000 in
theorem show_num (hC : Cx w0 p n c top ws np nn nc ns) (x : Int) (hx4 : x % 4 = 0) (hx0 : -9223372036854775808 ≤ x) (hx1 : x ≤ 9223372036854775807) (v : Value) (xs : List Int) (w : World) (hW : Sh w b w0.heap.size (.slice p n c) top (.slice np nn nc) v xs) (hb : Below w0.heap.size w0 w) (hx : xs.length < 1000) :
    Calls Tryd.prog 31 #[.pointer (some ⟨b, 0, none⟩), .int .i64 x] w fun e w' => e = .returned (.tuple #[]) ∧ ShowP w0 b p n c top np nn nc (putT (itoaZ (x / 4)) xs) w w' := by
  have HW : Hid (Sh w b w0.heap.size (.slice p n c) top (.slice np nn nc) v xs) := hW
  have HC : Hid (Cx w0 p n c top ws np nn nc ns) := hC
  have HB : Hid (Below w0.heap.size w0 w) := hb
  have hB := hb.size
  have hdf : decide (xs.length = 1000) = false := decide_eq_false (by omega)
  obtain ⟨s0, s1, _, _, _⟩ := hW.cells
  have t3 := ta_same 77 (Or.inl rfl)
  have HSM := small_itoa (x / 4) (by omega) (by omega)
  have HZ : Hid (itoaZ (x / 4) = nums (⟨(Lib.itoa (x / 4)).toArray⟩ : ByteArray).data.toList) := by unfold Hid itoaZ; simp
  clear hW hb hC
  generalize hsz : (⟨(Lib.itoa (x / 4)).toArray⟩ : ByteArray) = si at HZ HSM
  have HSI : Hid ((⟨(Lib.itoa (x / 4)).toArray⟩ : ByteArray) = si) := hsz
  clear hsz
  go_enter Tryd.func31, Tryd.ntmps31
  go_wp2_with (go_at_call 40; refine (full_c b _ _ _ _ v xs _ HW.out).mono ?_; rintro e w3 ⟨rfl, hw3⟩; have hw3' := hw3.symm; clear hw3; subst hw3'; rw [hdf])
  refine (mean_num p n c top x _ hx4).mono ?_
  rintro e w1 ⟨rfl, hb1⟩
  have HB1 : Hid (Below w.heap.size w w1) := hb1
  clear hb1
  go_wp2_with fail
  refine (itoa_c (x / 4) (by omega) (by omega) w0 _ HC.out.tab (HB.out.trans (HB1.out.mono hB))).mono ?_
  rintro e w4 ⟨rfl, hb4⟩
  rw [HSI.out]
  obtain ⟨cc, w2, hr, hy, hb2⟩ := conv_str 9 Tryd.underlying9 w4 si (by omega)
  have HB2 : Hid (Below w.heap.size w w2) := (HB1.out.trans (hb4.mono HB1.out.size)).trans (hb2.mono (Nat.le_trans HB1.out.size hb4.size))
  have HY : Hid (By w2 (some ⟨w4.heap.size, 0, none⟩) si.size cc (nums si.data.toList)) := hy
  clear hb4 hb2 hy
  go_wp2_with fail
  refine (puts_c b _ _ _ _ v xs _ _ _ cc _ (HW.out.below HB2.out) HY.out (by omega) (by omega) (Nat.le_trans hB HB2.out.size)).mono ?_
  rintro e w3 ⟨rfl, hp3⟩
  have HP : Hid (ShowP w0 b p n c top np nn nc (putT (itoaZ (x / 4)) xs) w w3) := by unfold Hid; rw [HZ.out]; exact ShP.trans (Sk.of_below HB2.out hB) hp3
  clear hp3
  go_wp2
  go_end0
  exact ⟨rfl, HP.out⟩
set_option maxRecDepth 20000 in
set_option maxHeartbeats 4000000 in
theorem show_sym (hC : Cx w0 p n c top ws np nn nc ns) (x : Int) (hx4 : x % 4 = 2) (hx0 : 0 ≤ x) (hx1 : x ≤ 9223372036854775807) (v : Value) (xs : List Int) (w : World) (hW : Sh w b w0.heap.size (.slice p n c) top (.slice np nn nc) v xs) (hb : Below w0.heap.size w0 w) (hx : xs.length < 1000) :
    Calls Tryd.prog 31 #[.pointer (some ⟨b, 0, none⟩), .int .i64 x] w fun e w' => e = .returned (.tuple #[]) ∧ ShowP w0 b p n c top np nn nc (putT (symZ ns (x / 4)) xs) w w' := by
  have HW : Hid (Sh w b w0.heap.size (.slice p n c) top (.slice np nn nc) v xs) := hW
  have HC : Hid (Cx w0 p n c top ws np nn nc ns) := hC
  have HB : Hid (Below w0.heap.size w0 w) := hb
  have hB := hb.size
  have hdf : decide (xs.length = 1000) = false := decide_eq_false (by omega)
  obtain ⟨s0, s1, _, _, _⟩ := hW.cells
  have t1 := ta_num 80 (Or.inl rfl)
  have t3 := ta_same 80 (Or.inr (Or.inl rfl))
  clear hW hb hC
  go_enter Tryd.func31, Tryd.ntmps31
  go_wp2_with (go_at_call 40; refine (full_c b _ _ _ _ v xs _ HW.out).mono ?_; rintro e w3 ⟨rfl, hw3⟩; have hw3' := hw3.symm; clear hw3; subst hw3'; rw [hdf])
  refine (mean_sym p n c top x _ hx4).mono ?_
  rintro e w1 ⟨rfl, hb1⟩
  have HB1 : Hid (Below w.heap.size w w1) := hb1
  clear hb1
  go_wp2_with fail
  refine (symbol_c b HC.out (x / 4) v xs _ (HW.out.below HB1.out) (HB.out.trans (HB1.out.mono hB)) (by omega) (by omega) (by omega)).mono ?_
  rintro e w3 ⟨rfl, hp3⟩
  have HP : Hid (ShowP w0 b p n c top np nn nc (putT (symZ ns (x / 4)) xs) w w3) := ShP.trans (Sk.of_below HB1.out hB) hp3
  clear hp3
  go_wp2
  go_end0
  exact ⟨rfl, HP.out⟩
set_option maxRecDepth 20000 in
set_option maxHeartbeats 4000000 in
theorem show_vec (hC : Cx w0 p n c top ws np nn nc ns) (f : Nat) (ih : ShowC w0 b p n c top ws np nn nc ns f) (x : Int) (hx4 : x % 4 = 1) (a m : Nat) (ha : x / 4 = a) (hO : Ob n a m (ws.getD a 0)) (hk : ws.getD a 0 % 4 = 1) (hwd : ∀ i, i < m → Hp.Ch2.WordOk ws top.toNat (ws.getD (a + 1 + i) 0)) (v : Value) (xs : List Int) (w : World) (hW : Sh w b w0.heap.size (.slice p n c) top (.slice np nn nc) v xs) (hb : Below w0.heap.size w0 w) (hf : 1001 - xs.length ≤ f + 1) (hx : xs.length < 1000) :
    Calls Tryd.prog 31 #[.pointer (some ⟨b, 0, none⟩), .int .i64 x] w fun e w' => e = .returned (.tuple #[]) ∧ ShowP w0 b p n c top np nn nc (putT [41] (vecI (shI itoaZ (symZ ns) rareZ ws f) ws a m 0 (putT [35, 40] xs))) w w' := by
  have HW : Hid (Sh w b w0.heap.size (.slice p n c) top (.slice np nn nc) v xs) := hW
  have HC : Hid (Cx w0 p n c top ws np nn nc ns) := hC
  have HB : Hid (Below w0.heap.size w0 w) := hb
  have hB := hb.size
  have hdf : decide (xs.length = 1000) = false := decide_eq_false (by omega)
  obtain ⟨s0, s1, _, _, _⟩ := hW.cells
  have t1 := ta_num 82 (Or.inr (Or.inr (Or.inl rfl)))
  have t2 := ta_sym 82 (Or.inr (Or.inl rfl))
  have t3 := ta_text 82 (Or.inl rfl)
  have t4 := ta_same 82 (Or.inr (Or.inr (Or.inr rfl)))
  have IH : Hid (ShowC w0 b p n c top ws np nn nc ns f) := ih
  have HO : Hid (Ob n a m (ws.getD a 0)) := hO
  have HK : Hid (ws.getD a 0 % 4 = 1) := hk
  have HA : Hid (x / 4 = a) := ha
  have HWD : Hid (∀ i, i < m → Hp.Ch2.WordOk ws top.toNat (ws.getD (a + 1 + i) 0)) := hwd
  have hm := hO.m1
  clear hW hb hC ih hO hk ha hwd
  go_enter Tryd.func31, Tryd.ntmps31
  go_wp2_with (go_at_call 40; refine (full_c b _ _ _ _ v xs _ HW.out).mono ?_; rintro e w3 ⟨rfl, hw3⟩; have hw3' := hw3.symm; clear hw3; subst hw3'; rw [hdf])
  refine (mean_vec p n c top x ws _ a m (HC.out.is.below HB.out) hx4 HA.out HO.out HK.out).mono ?_
  rintro e w1 ⟨q, c', rfl, hc1, hc2, hc3, hb1⟩
  have HB1 : Hid (Below w.heap.size w w1) := hb1
  have HQ : Hid (Hp.Is w0 q m c' (Hp.fld ws a m)) := HC.out.is.sub HO.out.ham hc1 hc2 hc3
  clear hb1 hc1 hc2 hc3
  go_wp2_with fail
  refine (vector_c b f IH.out q m c' a HC.out.is HQ.out hm HWD.out v xs _ (HW.out.below HB1.out) (HB.out.trans (HB1.out.mono hB)) hf hx).mono ?_
  rintro e w3 ⟨rfl, hp3⟩
  have HP : Hid (ShowP w0 b p n c top np nn nc (putT [41] (vecI (shI itoaZ (symZ ns) rareZ ws f) ws a m 0 (putT [35, 40] xs))) w w3) := ShP.trans (Sk.of_below HB1.out hB) hp3
  clear hp3
  go_wp2
  go_end0
  exact ⟨rfl, HP.out⟩
set_option maxRecDepth 20000 in
set_option maxHeartbeats 4000000 in
theorem show_pair (hC : Cx w0 p n c top ws np nn nc ns) (f : Nat) (ih : ShowC w0 b p n c top ws np nn nc ns f) (x : Int) (hx4 : x % 4 = 1) (a : Nat) (ha : x / 4 = a) (hO : Ob n a 2 (ws.getD a 0)) (hk : ws.getD a 0 % 4 = 0) (k1 : Hp.Ch2.WordOk ws top.toNat (ws.getD (a + 1) 0)) (k2 : Hp.Ch2.WordOk ws top.toNat (ws.getD (a + 2) 0)) (v : Value) (xs : List Int) (w : World) (hW : Sh w b w0.heap.size (.slice p n c) top (.slice np nn nc) v xs) (hb : Below w0.heap.size w0 w) (hf : 1001 - xs.length ≤ f + 1) (hx : xs.length < 1000) :
    Calls Tryd.prog 31 #[.pointer (some ⟨b, 0, none⟩), .int .i64 x] w fun e w' => e = .returned (.tuple #[]) ∧ ShowP w0 b p n c top np nn nc (prT (shI itoaZ (symZ ns) rareZ ws f) (prI (shI itoaZ (symZ ns) rareZ ws f) ws 1001 (ws.getD (a + 2) 0) (shI itoaZ (symZ ns) rareZ ws f (ws.getD (a + 1) 0) (putT [40] xs)))) w w' := by
  have HW : Hid (Sh w b w0.heap.size (.slice p n c) top (.slice np nn nc) v xs) := hW
  have HC : Hid (Cx w0 p n c top ws np nn nc ns) := hC
  have HB : Hid (Below w0.heap.size w0 w) := hb
  have hB := hb.size
  have hdf : decide (xs.length = 1000) = false := decide_eq_false (by omega)
  obtain ⟨s0, s1, _, _, _⟩ := hW.cells
  have t1 := ta_num 84 (Or.inr (Or.inr (Or.inr rfl)))
  have t2 := ta_sym 84 (Or.inr (Or.inr rfl))
  have t3 := ta_text 84 (Or.inr rfl)
  have t4 := ta_vec
  have t5 := ta_pair
  have IH : Hid (ShowC w0 b p n c top ws np nn nc ns f) := ih
  have HR1 : Hid (-9223372036854775808 ≤ ws.getD (a + 1) 0 ∧ ws.getD (a + 1) 0 ≤ 9223372036854775807) := hC.is.rng _
  have HR2 : Hid (-9223372036854775808 ≤ ws.getD (a + 2) 0 ∧ ws.getD (a + 2) 0 ≤ 9223372036854775807) := hC.is.rng _
  have HM : Hid (Calls Tryd.prog 41 #[.agg #[.slice p n c, .int .i64 top], .int .i64 x] w fun e w' => e = .returned (.iface 84 (.agg #[.int .i64 (ws.getD (a + 1) 0), .int .i64 (ws.getD (a + 2) 0)])) ∧ Below w.heap.size w w') := mean_pair p n c top x ws w a (hC.is.below hb) hx4 ha hO hk
  have HK1 : Hid (Hp.Ch2.WordOk ws top.toNat (ws.getD (a + 1) 0)) := k1
  have HK2 : Hid (Hp.Ch2.WordOk ws top.toNat (ws.getD (a + 2) 0)) := k2
  clear hW hb hC ih hO hk ha k1 k2
  generalize ws.getD (a + 1) 0 = n1 at HR1 HM HK1 ⊢
  generalize ws.getD (a + 2) 0 = n2 at HR2 HM HK2 ⊢
  go_enter Tryd.func31, Tryd.ntmps31
  go_wp2_with (go_at_call 40; refine (full_c b _ _ _ _ v xs _ HW.out).mono ?_; rintro e w3 ⟨rfl, hw3⟩; have hw3' := hw3.symm; clear hw3; subst hw3'; rw [hdf])
  refine HM.out.mono ?_
  rintro e w1 ⟨rfl, hb1⟩
  have HB1 : Hid (Below w.heap.size w w1) := hb1
  clear hb1
  go_wp2_with fail
  refine (pair_c b f IH.out HC.out n1 n2 HK1.out HK2.out HR1.out HR2.out v xs _ (HW.out.below (HB1.out.trans ((below1 _ _).mono HB1.out.size))) (HB.out.trans ((HB1.out.trans ((below1 _ _).mono HB1.out.size)).mono hB)) hf hx).mono ?_
  rintro e w3 ⟨rfl, hp3⟩
  have HP : Hid (ShowP w0 b p n c top np nn nc (prT (shI itoaZ (symZ ns) rareZ ws f) (prI (shI itoaZ (symZ ns) rareZ ws f) ws 1001 n2 (shI itoaZ (symZ ns) rareZ ws f n1 (putT [40] xs)))) w w3) := ShP.trans (Sk.of_below (HB1.out.trans ((below1 _ _).mono HB1.out.size)) hB) hp3
  clear hp3
  go_wp2
  go_end0
  exact ⟨rfl, HP.out⟩
end
end Go.Proofs.YtmmkpmgidoelpaaDoor
