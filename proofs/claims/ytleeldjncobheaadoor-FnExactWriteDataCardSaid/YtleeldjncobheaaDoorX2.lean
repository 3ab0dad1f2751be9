import Derived.Test.YtleeldjncobheaaDoorX1
namespace Go.Proofs.YtleeldjncobheaaDoor
open Go.RowKit Ch1
/-- The call answers a slice that reads as xs; nothing that was there has turned. -/
def Txt (w w' : World) (e : Ending) (xs : List Int) : Prop := ∃ b o c, e = .returned (.slice (some ⟨b, o, none⟩) xs.length c) ∧ By w' (some ⟨b, o, none⟩) xs.length c xs ∧ Below w.heap.size w w'
theorem Ow.txt {w w' : World} {B : Nat} {v : Value} {xs : List Int} (h : Ow w' B v xs) (hr : ∀ i, 0 ≤ xs.getD i 0 ∧ xs.getD i 0 < 256) (h0 : 0 < xs.length) (hb : Below w.heap.size w w') : Txt w w' (.returned v) xs := by
  obtain ⟨p, c, rfl, hy, _⟩ := h.by_ hr
  obtain ⟨b, o, rfl, _⟩ := hy.cells h0
  exact ⟨b, o, c, rfl, hy, hb⟩
theorem itoa_neg (n : Int) (h : n < 0) : itoaZ n = 45 :: nums (Lib.decDigits n.natAbs) := by
  unfold itoaZ Lib.itoa; rw [if_pos h]; rfl
theorem itoa_pos (n : Int) (h : ¬ n < 0) : itoaZ n = nums (Lib.decDigits n.toNat) := by
  unfold itoaZ Lib.itoa; rw [if_neg h]
theorem dec_pos (u : Nat) : 0 < (nums (Lib.decDigits u)).length := by
  rw [nums_length, Lib.decDigits_length]; exact Lib.nDigits_pos u
theorem digits32Z (x : Int) (h0 : 0 ≤ x) (h1 : x < 18446744073709551616) (w : World) : Calls Tryd.prog 63 #[.int .u64 x] w fun e w' => ∃ v, e = .returned v ∧ Ow w' w.heap.size v (nums (Lib.decDigits x.toNat)) ∧ Below w.heap.size w w' := by
  obtain ⟨u, rfl⟩ := Int.eq_ofNat_of_zero_le h0
  rw [Int.toNat_natCast]
  exact digits32 u (by omega) w
/-- append(v, x...) onto an own row of bytes. -/
theorem app_law (w : World) {ops : Array Oper} {rest : List Oper} {o : Oper} {a : Act} {Q : Exit → Act → World → Prop} (hgd : o.guard = none) (s x : Operand)
    (ho : o.op = .call { callee := .builtin .append, args := #[s, x], argTypes := #[24, 24] }) (B : Nat) (v : Value) (xs ys : List Int) (hs : a.eval s = v) (hown : Ow w B v xs) (b' o' m c : Nat) (hx : a.eval x = .slice (some ⟨b', o', none⟩) m c)
    (hy : By w (some ⟨b', o', none⟩) m c ys) (hlen : xs.length + m ≤ 1000000000) (hB : B ≤ w.heap.size)
    (h : ∀ v' w', Ow w' B v' (xs ++ ys) → Below B w w' → w.grownBy w' v.ownBlock → wpList Tryd.prog ops Q rest (a.put o.dst v') w') : wpList Tryd.prog ops Q (o :: rest) a w := by
  obtain ⟨i5, hi5, hz5, hs5, hb5⟩ := info5'
  have hl := hy.len
  refine wpList_append_own w hgd s x 24 ho B 5 i5 (.int .u8 0) 1 1 Tryd.underlying24 hi5 hz5 hs5 hb5 rfl (by decide) v xs.length (xs.map (.int .u8)) hs hown ⟨b', o', none⟩ m c (ys.map (.int .u8)) hx (by simp [hl]) ?_ ?_ (by unfold maxLen; omega) (by omega) hB ?_
  · intro j u hu
    by_cases hj : j < ys.length
    · obtain ⟨b, o, e, g⟩ := hy.cells (by omega)
      cases e
      have := g j (by omega)
      rw [Go.WideShapes.add_plain, this, ← hu]
      simp [List.getD, List.getElem?_eq_getElem hj]
    · rw [List.getElem?_eq_none (by simpa using Nat.le_of_not_lt hj)] at hu; cases hu
  · intro u hu
    obtain ⟨n, _, rfl⟩ := List.mem_map.1 hu
    rfl
  · intro v' w' h1 h2 _
    exact h v' w' (Ow.app h1 rfl hl rfl rfl) ((Below.refl _ w).grown h2 hB (own_block_ge hown)) h2
theorem By.lit (w : World) (y : Int) (h0 : 0 ≤ y) (h1 : y < 256) : By (w.alloc (.cells #[.int .u8 y] 5)) (some ⟨w.heap.size, 0, none⟩) 1 1 [y] := by
  refine ⟨rfl, Nat.le_refl _, by unfold maxLen; omega, fun i => ?_, fun _ => ⟨w.heap.size, 0, rfl, fun i hi => ?_⟩, fun a ha _ => by cases ha; simp⟩
  · cases i with
    | zero => exact ⟨h0, h1⟩
    | succ i => simp
  · obtain rfl : i = 0 := by omega
    simp
set_option maxHeartbeats 400000 in
theorem dec24_pos (n : Int) (h0 : ¬ n < 0) (h1 : n ≤ 9223372036854775807) (w : World) :
    Calls Tryd.prog 45 #[.int .i64 n] w fun e w' => Txt w w' e (itoaZ n) := by
  have HD : Hid (itoaZ n = nums (Lib.decDigits n.toNat)) := itoa_pos n h0
  have hw : IntKind.u64.wrap n = n := wrap_u64 n (by omega) (by omega)
  go_enter Tryd.func45, Tryd.ntmps45
  go_wp2_with (go_at_call 63; refine (digits32Z n (by omega) (by omega) _).mono ?_; rintro e w1 ⟨v, rfl, hv, hb⟩)
  go_ret
  rw [HD.out]
  exact hv.txt (nums_rng _) (dec_pos _) hb
theorem wrap_neg (n : Int) (h0 : n < 0) (h1 : -9223372036854775808 ≤ n) : IntKind.u64.wrap (-IntKind.u64.wrap n) = -n := by
  simp [IntKind.wrap, IntKind.bits, IntKind.signed]
  omega
set_option maxHeartbeats 400000 in
theorem dec24_neg (n : Int) (h0 : n < 0) (h1 : -9223372036854775808 ≤ n) (w : World) :
    Calls Tryd.prog 45 #[.int .i64 n] w fun e w' => Txt w w' e (itoaZ n) := by
  have HD : Hid (itoaZ n = [45] ++ nums (Lib.decDigits (-n).toNat)) := by
    unfold Hid; rw [itoa_neg n h0, show n.natAbs = (-n).toNat by omega]; rfl
  have hlen := dec_len (-n).toNat (by omega)
  have hpos := dec_pos (-n).toNat
  have HR : Hid (∀ i, 0 ≤ (itoaZ n).getD i 0 ∧ (itoaZ n).getD i 0 < 256) := nums_rng _
  have hw := wrap_neg n h0 h1
  go_enter Tryd.func45, Tryd.ntmps45
  go_wp2_with fail
  refine (digits32Z (-n) (by omega) (by omega) _).mono ?_
  rintro e w1 ⟨v, rfl, hv, hb⟩
  obtain ⟨p, c, rfl, hy, _⟩ := hv.by_ (nums_rng _)
  obtain ⟨b, o, rfl, _⟩ := hy.cells hpos
  have HY : Hid (By w1 (some ⟨b, o, none⟩) (nums (Lib.decDigits (-n).toNat)).length c (nums (Lib.decDigits (-n).toNat))) := hy
  have HO : Hid (Ow w1 w.heap.size (.slice (some ⟨w.heap.size, 0, none⟩) 1 1) [45]) := (Ow.lit w w.heap.size [45] (Nat.le_refl _) (by unfold maxLen; simp)).below hb
  have HB : Hid (Below w.heap.size w w1) := (below1 w _).trans (hb.mono (by simp))
  have hsz := HB.out.size
  clear hv hb hy
  generalize nums (Lib.decDigits (-n).toNat) = ds at HD HY hlen hpos
  go_wp2_with (at_builtin; refine app_law _ rfl (.tmp 5) (.tmp 9) rfl w.heap.size (.slice (some ⟨w.heap.size, 0, none⟩) 1 1) [45] ds (by simp [Act.eval]) HO.out b o ds.length c (by simp [Act.eval]) HY.out (by simp; omega) hsz ?_; intro v' w' ho hg _; have HO2 : Hid (Ow w' w.heap.size v' ([45] ++ ds)) := ho; have HG : Hid (Below w.heap.size w w') := HB.out.trans hg; clear ho hg)
  go_ret
  have HF : Ow w' w.heap.size v' (itoaZ n) := by rw [HD.out]; exact HO2.out
  exact HF.txt HR.out (by rw [HD.out]; simp) HG.out
theorem dec24 (n : Int) (h0 : -9223372036854775808 ≤ n) (h1 : n ≤ 9223372036854775807) (w : World) : Calls Tryd.prog 45 #[.int .i64 n] w fun e w' => Txt w w' e (itoaZ n) := by
  by_cases h : n < 0
  · exact dec24_neg n h h0 w
  · exact dec24_pos n h h1 w
set_option maxHeartbeats 400000 in
theorem copy25 (b o n c : Nat) (xs : List Int) (w : World) (hy : By w (some ⟨b, o, none⟩) n c xs) (h0 : 0 < n) (h1 : n ≤ 1048576) :
    Calls Tryd.prog 36 #[.slice (some ⟨b, o, none⟩) n c] w fun e w' => Txt w w' e xs := by
  have HY : Hid (By w (some ⟨b, o, none⟩) n c xs) := hy
  clear hy
  go_enter Tryd.func36, Tryd.ntmps36
  go_wp2_with (at_builtin; refine app_law _ rfl (.tmp 4) (.tmp 5) rfl w.heap.size (.slice none 0 0) [] xs (by simp [Act.eval]) (Ow.nil _ _) b o n c (by simp [Act.eval]) HY.out (by simp; omega) (Nat.le_refl _) ?_; intro v' w' ho hg _; have HO2 : Hid (Ow w' w.heap.size v' ([] ++ xs)) := ho; have HG : Hid (Below w.heap.size w w') := hg; clear ho hg)
  go_ret
  exact Ow.txt HO2.out HY.out.rng (by rw [HY.out.len]; exact h0) HG.out
end Go.Proofs.YtleeldjncobheaaDoor
