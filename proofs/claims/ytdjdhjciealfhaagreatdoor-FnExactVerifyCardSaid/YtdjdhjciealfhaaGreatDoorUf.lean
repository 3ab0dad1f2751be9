import Derived.Test.YtdjdhjciealfhaaGreatDoorUc
namespace Go.Proofs.YtdjdhjciealfhaaGreatDoor
open Go.RowKit Ch1
namespace Vf
set_option maxRecDepth 20000 in
theorem or256 {v : Nat} (h0 : 0 < v) (h : v < 512) : v ||| 256 = 256 ↔ v = 256 := by
  have : ∀ u : Fin 512, 0 < u.val → (u.val ||| 256 = 256 ↔ u.val = 256) := by decide
  exact this ⟨v, h⟩ h0
set_option maxRecDepth 20000 in
theorem or255 {v : Nat} (h : v < 512) : v ||| 255 = 255 ↔ v &&& 256 = 0 := by
  have : ∀ u : Fin 512, u.val ||| 255 = 255 ↔ u.val &&& 256 = 0 := by decide
  exact this ⟨v, h⟩
set_option maxRecDepth 20000 in
theorem or511 {v : Nat} (h : v < 512) : v ||| 511 = 511 := by
  have : ∀ u : Fin 512, u.val ||| 511 = 511 := by decide
  exact this ⟨v, h⟩
theorem and64 (a b : Nat) (ha : a < 512) (hb : b < 512) : IntKind.i64.wrap (((BitVec.ofInt 64 (a : Int)) &&& (BitVec.ofInt 64 (b : Int))).toNat : Int) = ((a &&& b : Nat) : Int) := by
  have h1 : (BitVec.ofInt 64 (a : Int)).toNat = a := by simp; omega
  have h2 : (BitVec.ofInt 64 (b : Int)).toNat = b := by simp; omega
  rw [BitVec.toNat_and, h1, h2]
  have h3 := Nat.and_lt_two_pow (n := 9) a hb
  rw [IntKind.wrap_i64]
  omega
theorem and64b (a b : Nat) (ha : a < 512) (hb : b < 512) : bits .and .i64 (a : Int) (b : Int) = ((a &&& b : Nat) : Int) := and64 a b ha hb
theorem getD_rep (n v i : Nat) (h : i < n) : (List.replicate n v).getD i 0 = v := by simp [List.getD, h]
/-- What an instruction may take, from which one it is. -/
theorem allow_at {m : Md} {x : In} {i : Nat} (hi : i < (allow m x).length) : (allow m x).getD i 0 = if x.op = 6 ∨ (x.op = 7 ∧ i = 0) then 256 else if x.op = 8 then capK ((m.funcs.getD x.a.toNat fn0).free.getD i false) else if x.op = 15 then (if i + 1 = (allow m x).length then 255 else 511) else if x.op = 16 then 511 else 255 := by
  unfold allow at hi ⊢
  by_cases h4 : x.op = 4
  · simp [h4] at hi ⊢; subst hi; rfl
  by_cases h5 : x.op = 5
  · by_cases ha : x.a = 1
    · simp [h5, ha] at hi
    · simp [h5, ha] at hi ⊢; subst hi; rfl
  by_cases h6 : x.op = 6
  · simp [h6] at hi ⊢; subst hi; rfl
  by_cases h7 : x.op = 7
  · simp [h7] at hi ⊢
    rcases (show i = 0 ∨ i = 1 by omega) with h | h <;> subst h <;> rfl
  by_cases h8 : x.op = 8
  · simp [h8] at hi ⊢
    simp [hi]
  by_cases h9 : x.op = 9 ∨ x.op = 10
  · have e15 : x.op ≠ 15 := by omega
    have e16 : x.op ≠ 16 := by omega
    simp only [if_neg h4, if_neg h5, if_neg h6, if_neg h7, if_neg h8, if_pos h9] at hi ⊢
    rw [if_neg (by omega), if_neg e15, if_neg e16]
    exact getD_rep _ _ _ (by simpa using hi)
  by_cases h11 : x.op = 11
  · simp [h11] at hi ⊢; subst hi; rfl
  by_cases h13 : x.op = 13
  · simp [h13] at hi ⊢; subst hi; rfl
  by_cases h14 : x.op = 14
  · have e15 : x.op ≠ 15 := by omega
    have e16 : x.op ≠ 16 := by omega
    simp only [if_neg h4, if_neg h5, if_neg h6, if_neg h7, if_neg h8, if_neg h9, if_neg h11, if_neg h13, if_pos h14] at hi ⊢
    rw [if_neg (by omega), if_neg e15, if_neg e16]
    exact getD_rep _ _ _ (by simpa using hi)
  by_cases h15 : x.op = 15
  · simp only [if_neg h4, if_neg h5, if_neg h6, if_neg h7, if_neg h8, if_neg h9, if_neg h11, if_neg h13, if_neg h14, if_pos h15] at hi ⊢
    rw [if_neg (by omega)]
    simp only [List.length_append, List.length_replicate, List.length_cons, List.length_nil] at hi ⊢
    by_cases hl : i + 1 = x.a.toNat + (0 + 1)
    · rw [if_pos hl, getD_app_r (by simp; omega)]
      have e0 : i - (List.replicate x.a.toNat 511).length = 0 := by simp; omega
      rw [e0]; rfl
    · rw [if_neg hl, getD_app_l (by simp; omega)]
      exact getD_rep _ _ _ (by omega)
  by_cases h16 : x.op = 16
  · simp [h16] at hi ⊢; subst hi; rfl
  simp [h4, h5, h6, h7, h8, h9, h11, h13, h14, h15, h16] at hi
/-- At the head of l3asks's loop. -/
def As (m : Md) (x : In) (s : List Nat) (W : World) (n : Nat) (iv : Value) (wr : World) : Prop := ∃ i : Nat, i ≤ n ∧ iv = .int .i64 (i : Nat) ∧ wr = W ∧ Hid (∀ j, j < i → s.getD j 0 ||| (allow m x).getD j 0 = (allow m x).getD j 0)
def AsQ (m : Md) (x : In) (s : List Nat) (w w' : World) (e : Ending) : Prop := ∃ b, e = .returned (.bool b) ∧ (b = true ↔ ∀ i, i < (allow m x).length → s.getD i 0 ||| (allow m x).getD i 0 = (allow m x).getD i 0) ∧ Below w.heap.size w w'
theorem As.no {m : Md} {x : In} {s : List Nat} {w w' : World} {i : Nat} (hi : i < (allow m x).length) (h : ¬ s.getD i 0 ||| (allow m x).getD i 0 = (allow m x).getD i 0) (hb : Below w.heap.size w w') : AsQ m x s w w' (.returned (.bool false)) := ⟨false, rfl, ⟨fun e => (by cases e), fun k => absurd (k i hi) h⟩, hb⟩
set_option maxRecDepth 20000 in
set_option maxHeartbeats 8000000 in
/-- l3asks: the sets are as they must be. -/
theorem asks_c (cp : Option Addr) (cn cc : Nat) (g : Int) (fp : Option Addr) (fn fc : Nat) (p : Option Addr) (n c : Nat) (m : Md) (f : Fn) (x : In) (s : List Nat) (w : World)
    (hx : InsOk m f x) (hfu : Fu w fp fn fc m.funcs) (hst : Ni w p n c s) (hg : GoodS s) (hl : n = (allow m x).length) :
    Calls Tryz.prog 36 #[.agg #[.slice cp cn cc, .int .i64 g, .slice fp fn fc], .agg #[.int .i64 x.op, .int .i64 x.a, .int .i64 x.b], .slice p n c] w fun e w' => AsQ m x s w w' e := by
  have HX := mkD hx
  have HFU := mkD hfu
  have HG := mkD hg
  have HL := mkD hl
  have HSL : Hid (s.length = n) := hst.len
  have hnb := small_of hst.cap hst.big
  obtain ⟨W, hW⟩ : ∃ W, W = (w.alloc (.cells #[.slice cp cn cc, .int .i64 g, .slice fp fn fc] 33)).alloc (.cells #[.int .i64 x.op, .int .i64 x.a, .int .i64 x.b] 73) := ⟨_, rfl⟩
  have HBW : Hid (Below w.heap.size w W) := by unfold Hid; rw [hW]; exact below2 w _ _
  have HFx : W.heap[w.heap.size + 1]? = some (.cells #[.int .i64 x.op, .int .i64 x.a, .int .i64 x.b] 73) := by
    rw [hW]
    have := Go.Deep.blk_alloc_new (w.alloc (.cells #[.slice cp cn cc, .int .i64 g, .slice fp fn fc] 33)) (.cells #[.int .i64 x.op, .int .i64 x.a, .int .i64 x.b] 73)
    rwa [World.size_alloc] at this
  have HMx : W.heap[w.heap.size]? = some (.cells #[.slice cp cn cc, .int .i64 g, .slice fp fn fc] 33) := by
    rw [hW]
    exact ((below1 _ _).block w.heap.size (by simp)).trans (Go.Deep.blk_alloc_new _ _)
  obtain ⟨f0, f1, f2, _, _, _⟩ := cells3 HFx
  obtain ⟨m0, m1, m2, _, _, _⟩ := cells3 HMx
  have HS := mkD (hst.below HBW.out)
  have HFW := mkD (hfu.below HBW.out)
  clear hx hfu hst hg hl HFx HMx HFU
  go_enter Tryz.func36, Tryz.ntmps36
  go_wp2
  rw [← hW]
  clear hW
  go_loopw [7] (fun iv wr => As m x s W n iv wr) (fun iv _ => n - (intOf iv).toNat)
  case atStart => exact ⟨0, Nat.zero_le _, rfl, rfl, fun j hj => absurd hj (Nat.not_lt_zero j)⟩
  case round =>
    obtain ⟨i, hi, rfl, rfl, hA⟩ := hrel
    by_cases hlt : i < n
    · obtain ⟨b, o, rfl, hbl, hc⟩ := HS.out.cells (by omega)
      have x0 := hc i hlt
      obtain ⟨v, hv⟩ : ∃ v, v = s.getD i 0 := ⟨_, rfl⟩
      have HV := mkD hv
      have hv0 := (HG.out.at_ (i := i) (by rw [HSL.out]; exact hlt))
      rw [← hv] at x0 hv0
      have HVR := mkD hv0
      have hand : bits BinOp.and IntKind.i64 (v : Int) 256 = ((v &&& 256 : Nat) : Int) := and64b v 256 hv0.2 (by omega)
      have HAL := mkD (allow_at (m := m) (x := x) (i := i) (by rw [← HL.out]; exact hlt))
      clear hv hc hv0
      by_cases h6 : x.op = 6
      · rw [if_pos (Or.inl h6)] at HAL
        have b6 : (x.op == 6) = true := by simp [h6]
        by_cases hq : v = 256
        · have e1 : ((v : Int) == 256) = true := by simp; omega
          go_wp2_with fail
          exact ⟨⟨i + 1, by omega, by go_num, rfl, fun j hj => by rcases (show j < i ∨ j = i by omega) with h | h; exact hA.out j h; rw [h, HAL.out, ← HV.out]; exact (or256 HVR.out.1 HVR.out.2).2 hq⟩, by simp [intOf]; omega⟩
        · have e1 : ((v : Int) == 256) = false := by simp; omega
          go_wp2_with fail
          go_ret
          exact As.no (i := i) (by rw [← HL.out]; exact hlt) (by rw [HAL.out, ← HV.out]; exact fun e => hq ((or256 HVR.out.1 HVR.out.2).1 e)) HBW.out
      have b6 : (x.op == 6) = false := by simp [h6]
      by_cases h7 : x.op = 7
      · have b7 : (x.op == 7) = true := by simp [h7]
        by_cases hi0 : i = 0
        · subst hi0
          rw [if_pos (Or.inr ⟨h7, rfl⟩)] at HAL
          rw [Nat.add_zero] at x0
          by_cases hq : v = 256
          · have e1 : ((v : Int) == 256) = true := by simp; omega
            go_wp2_with fail
            exact ⟨⟨1, by omega, by go_num, rfl, fun j hj => by obtain rfl : j = 0 := (by omega); rw [HAL.out, ← HV.out]; exact (or256 HVR.out.1 HVR.out.2).2 hq⟩, by simp [intOf]; omega⟩
          · have e1 : ((v : Int) == 256) = false := by simp; omega
            go_wp2_with fail
            go_ret
            exact As.no (i := 0) (by rw [← HL.out]; exact hlt) (by rw [HAL.out, ← HV.out]; exact fun e => hq ((or256 HVR.out.1 HVR.out.2).1 e)) HBW.out
        rw [if_neg (by omega), if_neg (by omega), if_neg (by omega), if_neg (by omega)] at HAL
        have b0 : ((i : Int) == 0) = false := by simp; omega
        have b8 : (x.op == 8) = false := by simp [h7]
        have b15 : (x.op == 15) = false := by simp [h7]
        have b16 : (x.op != 16) = true := by simp [h7]
        by_cases hq : v &&& 256 = 0
        · have e2 : (((v &&& 256 : Nat) : Int) == 0) = true := by simp; omega
          go_wp2_with fail
          exact ⟨⟨i + 1, by omega, by go_num, rfl, fun j hj => by rcases (show j < i ∨ j = i by omega) with h | h; exact hA.out j h; rw [h, HAL.out, ← HV.out]; exact (or255 HVR.out.2).2 hq⟩, by simp [intOf]; omega⟩
        · have e2 : (((v &&& 256 : Nat) : Int) == 0) = false := by simp; omega
          go_wp2_with fail
          go_ret
          exact As.no (i := i) (by rw [← HL.out]; exact hlt) (by rw [HAL.out, ← HV.out]; exact fun e => hq ((or255 HVR.out.2).1 e)) HBW.out
      rw [if_neg (by omega)] at HAL
      have b7 : (x.op == 7) = false := by simp [h7]
      by_cases h8 : x.op = 8
      · rw [if_pos h8] at HAL
        have b8 : (x.op == 8) = true := by simp [h8]
        obtain ⟨ka, hka⟩ := Int.eq_ofNat_of_zero_le (show 0 ≤ x.a by rcases HX.out.2.2 with h | h <;> omega)
        have hkl : ka < fn := by have := HFW.out.len; rcases HX.out.2.2 with h | h <;> omega
        have hil : i < (m.funcs.getD ka fn0).free.length := by
          have e2 : (allow m x).length = (m.funcs.getD ka fn0).free.length := by unfold allow; simp [h8, hka]
          rw [← e2, ← HL.out]; exact hlt
        have hfn := small_of HFW.out.cap HFW.out.big
        rw [hka, Int.toNat_natCast] at HAL
        obtain ⟨fb, fo, rfl, hfl, hfe⟩ := HFW.out.cells (by omega)
        obtain ⟨rp, rl, rc, dp, dl, dc, he⟩ := hfe ka hkl
        have g0 := he.c0
        have g1 := he.c1
        have g2 := he.c2
        have hir : i < rl := by rw [← he.free.len]; exact hil
        have hrs := small_of he.free.cap he.free.big
        obtain ⟨rb, ro, rfl, hrl, hrc⟩ := he.free.cells (by omega)
        have g3 := hrc i hir
        obtain ⟨bx, hbx⟩ : ∃ bx, bx = (m.funcs.getD ka fn0).free.getD i false := ⟨_, rfl⟩
        rw [← hbx] at g3 HAL
        rw [hka] at f1
        clear hfe he hrc hbx hil
        cases bx
        · simp only [capK] at HAL
          by_cases hq : v &&& 256 = 0
          · have e2 : (((v &&& 256 : Nat) : Int) == 0) = true := by simp; omega
            go_wp2_with fail
            exact ⟨⟨i + 1, by omega, by go_num, rfl, fun j hj => by rcases (show j < i ∨ j = i by omega) with h | h; exact hA.out j h; rw [h, HAL.out, ← HV.out]; exact (or255 HVR.out.2).2 hq⟩, by simp [intOf]; omega⟩
          · have e2 : (((v &&& 256 : Nat) : Int) == 0) = false := by simp; omega
            go_wp2_with fail
            go_ret
            exact As.no (i := i) (by rw [← HL.out]; exact hlt) (by rw [HAL.out, ← HV.out]; exact fun e => hq ((or255 HVR.out.2).1 e)) HBW.out
        · simp only [capK] at HAL
          by_cases hq : v = 256
          · have e1 : ((v : Int) == 256) = true := by simp; omega
            go_wp2_with fail
            exact ⟨⟨i + 1, by omega, by go_num, rfl, fun j hj => by rcases (show j < i ∨ j = i by omega) with h | h; exact hA.out j h; rw [h, HAL.out, ← HV.out]; exact (or256 HVR.out.1 HVR.out.2).2 hq⟩, by simp [intOf]; omega⟩
          · have e1 : ((v : Int) == 256) = false := by simp; omega
            go_wp2_with fail
            go_ret
            exact As.no (i := i) (by rw [← HL.out]; exact hlt) (by rw [HAL.out, ← HV.out]; exact fun e => hq ((or256 HVR.out.1 HVR.out.2).1 e)) HBW.out
      rw [if_neg h8] at HAL
      have b8 : (x.op == 8) = false := by simp [h8]
      by_cases h15 : x.op = 15
      · rw [if_pos h15] at HAL
        have b15 : (x.op == 15) = true := by simp [h15]
        by_cases hla : i + 1 = n
        · rw [if_pos (by rw [← HL.out]; exact hla)] at HAL
          have bl : ((i : Int) == (n : Int) - 1) = true := by simp; omega
          by_cases hq : v &&& 256 = 0
          · have e2 : (((v &&& 256 : Nat) : Int) == 0) = true := by simp; omega
            go_wp2_with fail
            exact ⟨⟨i + 1, by omega, by go_num, rfl, fun j hj => by rcases (show j < i ∨ j = i by omega) with h | h; exact hA.out j h; rw [h, HAL.out, ← HV.out]; exact (or255 HVR.out.2).2 hq⟩, by simp [intOf]; omega⟩
          · have e2 : (((v &&& 256 : Nat) : Int) == 0) = false := by simp; omega
            go_wp2_with fail
            go_ret
            exact As.no (i := i) (by rw [← HL.out]; exact hlt) (by rw [HAL.out, ← HV.out]; exact fun e => hq ((or255 HVR.out.2).1 e)) HBW.out
        rw [if_neg (by rw [← HL.out]; exact hla)] at HAL
        have bl : ((i : Int) == (n : Int) - 1) = false := by simp; omega
        go_wp2_with fail
        exact ⟨⟨i + 1, by omega, by go_num, rfl, fun j hj => by rcases (show j < i ∨ j = i by omega) with h | h; exact hA.out j h; rw [h, HAL.out, ← HV.out]; exact or511 HVR.out.2⟩, by simp [intOf]; omega⟩
      rw [if_neg h15] at HAL
      have b15 : (x.op == 15) = false := by simp [h15]
      by_cases h16 : x.op = 16
      · rw [if_pos h16] at HAL
        have b16 : (x.op != 16) = false := by simp [h16]
        go_wp2_with fail
        exact ⟨⟨i + 1, by omega, by go_num, rfl, fun j hj => by rcases (show j < i ∨ j = i by omega) with h | h; exact hA.out j h; rw [h, HAL.out, ← HV.out]; exact or511 HVR.out.2⟩, by simp [intOf]; omega⟩
      rw [if_neg h16] at HAL
      have b16 : (x.op != 16) = true := by simp [h16]
      by_cases hq : v &&& 256 = 0
      · have e2 : (((v &&& 256 : Nat) : Int) == 0) = true := by simp; omega
        go_wp2_with fail
        exact ⟨⟨i + 1, by omega, by go_num, rfl, fun j hj => by rcases (show j < i ∨ j = i by omega) with h | h; exact hA.out j h; rw [h, HAL.out, ← HV.out]; exact (or255 HVR.out.2).2 hq⟩, by simp [intOf]; omega⟩
      · have e2 : (((v &&& 256 : Nat) : Int) == 0) = false := by simp; omega
        go_wp2_with fail
        go_ret
        exact As.no (i := i) (by rw [← HL.out]; exact hlt) (by rw [HAL.out, ← HV.out]; exact fun e => hq ((or255 HVR.out.2).1 e)) HBW.out
    · have dd : decide ((i : Int) < (n : Int)) = false := decide_eq_false (by omega)
      go_wp2_with fail
      go_ret
      exact ⟨true, rfl, ⟨fun _ j hj => hA.out j (by have := HL.out; omega), fun _ => rfl⟩, HBW.out⟩
end Vf
end Go.Proofs.YtdjdhjciealfhaaGreatDoor
namespace Go.Proofs.YtdjdhjciealfhaaGreatDoor
open Go.RowKit Ch1
namespace Vf
theorem and_or {v a : Nat} : v &&& a = v ↔ v ||| a = a := by
  constructor
  · intro h
    rw [← h, Nat.or_comm]
    exact Nat.eq_of_testBit_eq (fun i => by rw [Nat.testBit_or, Nat.testBit_and]; cases a.testBit i <;> cases v.testBit i <;> rfl)
  · intro h
    rw [← h]
    exact Nat.eq_of_testBit_eq (fun i => by rw [Nat.testBit_and, Nat.testBit_or]; cases a.testBit i <;> cases v.testBit i <;> rfl)
theorem pArgs_lt {p i : Nat} : (pArgs p).getD i 0 < 512 := by
  by_cases hp : p < 22
  · have hl := (pArgs_rng hp).2
    by_cases hi : i < 3
    · have : ∀ p : Fin 22, ∀ i : Fin 3, (pArgs p.val).getD i.val 0 < 512 := by decide
      exact this ⟨p, hp⟩ ⟨i, hi⟩
    · rw [List.getD_eq_getElem?_getD, List.getElem?_eq_none (by omega)]; decide
  · have : pArgs p = [] := by unfold pArgs; rw [List.getD_eq_getElem?_getD, List.getElem?_eq_none (by simp; omega)]; rfl
    rw [this]; simp
theorem allow14 {m : Md} {x : In} (h : x.op = 14) : (allow m x).length = (pArgs x.a.toNat).length := by unfold allow; simp [h]
theorem allow9 {m : Md} {x : In} (h : x.op = 9 ∨ x.op = 10) : (allow m x).length = 1 + x.a.toNat := by
  unfold allow
  rcases h with h | h <;> simp [h]
theorem prov_no {m : Md} {x : In} {s : List Nat} (h9 : ¬ (x.op = 9 ∨ x.op = 10)) (h14 : x.op ≠ 14) : provenB m x s = false := by unfold provenB; rw [if_neg h9, if_neg h14]
theorem prov_call {m : Md} {x : In} {s : List Nat} (h9 : x.op = 9 ∨ x.op = 10) (hl : s.length = (allow m x).length) : provenB m x s = (s.getD 0 0 == 64) := by unfold provenB; rw [if_pos h9, hl, Nat.sub_self]
theorem prov_prim {m : Md} {x : In} {s : List Nat} (h14 : x.op = 14) (hl : s.length = (allow m x).length) : provenB m x s = true ↔ ∀ i, i < (pArgs x.a.toNat).length → s.getD i 0 &&& (pArgs x.a.toNat).getD i 0 = s.getD i 0 := by
  unfold provenB
  rw [if_neg (by omega), if_pos h14, hl, allow14 h14, Nat.sub_self, decide_eq_true_iff]
  simp only [Nat.zero_add]
  exact ⟨fun h i hi => and_or.2 (h i hi), fun h i hi => and_or.1 (h i hi)⟩
def Pv (x : In) (s : List Nat) (W : World) (n : Nat) (iv : Value) (wr : World) : Prop := ∃ i : Nat, i ≤ n ∧ iv = .int .i64 (i : Nat) ∧ Hid (Below W.heap.size W wr) ∧ Hid (∀ j, j < i → s.getD j 0 &&& (pArgs x.a.toNat).getD j 0 = s.getD j 0)
set_option maxRecDepth 20000 in
set_option maxHeartbeats 8000000 in
/-- l3proven. -/
theorem proven_c (p : Option Addr) (n c : Nat) (m : Md) (f : Fn) (x : In) (s : List Nat) (w : World)
    (hx : InsOk m f x) (hst : Ni w p n c s) (hg : GoodS s) (hl : n = (allow m x).length) :
    Calls Tryz.prog 37 #[.agg #[.int .i64 x.op, .int .i64 x.a, .int .i64 x.b], .slice p n c] w fun e w' => e = .returned (.bool (provenB m x s)) ∧ Below w.heap.size w w' := by
  have HX := mkD hx
  have HG := mkD hg
  have HL := mkD hl
  have HSL : Hid (s.length = n) := hst.len
  have hnb := small_of hst.cap hst.big
  obtain ⟨W, hW⟩ : ∃ W, W = w.alloc (.cells #[.int .i64 x.op, .int .i64 x.a, .int .i64 x.b] 73) := ⟨_, rfl⟩
  have HBW : Hid (Below w.heap.size w W) := by unfold Hid; rw [hW]; exact below1 w _
  have HFx : W.heap[w.heap.size]? = some (.cells #[.int .i64 x.op, .int .i64 x.a, .int .i64 x.b] 73) := by rw [hW]; exact Go.Deep.blk_alloc_new _ _
  obtain ⟨f0, f1, f2, _, _, _⟩ := cells3 HFx
  have HS := mkD (hst.below HBW.out)
  by_cases h9 : x.op = 9 ∨ x.op = 10
  · have HP := mkD (prov_call (m := m) (s := s) h9 (by rw [HSL.out]; exact hl))
    have hn0 : 0 < n := by rw [hl, allow9 h9]; omega
    obtain ⟨b, o, rfl, hbl, hc⟩ := HS.out.cells hn0
    have x0 := hc 0 hn0
    obtain ⟨v, hv⟩ : ∃ v, v = s.getD 0 0 := ⟨_, rfl⟩
    rw [← hv, Nat.add_zero] at x0
    rw [← hv] at HP
    have HE : Hid (((v : Int) == 64) = (v == 64)) := by
      unfold Hid
      by_cases h : v = 64
      · subst h; rfl
      · have e1 : ((v : Int) == 64) = false := by simp; omega
        rw [e1]; simp [h]
    have HFR : Hid ((Value.bool ((v : Int) == 64)) = .bool (provenB m x s)) := by unfold Hid; rw [HE.out, HP.out]
    clear hx hst hg hl HFx hc hv HE HP
    subst hW
    by_cases h9a : x.op = 9
    · have b9 : (x.op == 9) = true := by simp [h9a]
      clear h9a h9
      go_enter Tryz.func37, Tryz.ntmps37
      go_wp2
      rw [HFR.out]
      go_ret
      exact ⟨rfl, HBW.out⟩
    · have b9 : (x.op == 9) = false := by simp [h9a]
      have b10 : (x.op == 10) = true := by simp; omega
      clear h9a h9
      go_enter Tryz.func37, Tryz.ntmps37
      go_wp2
      rw [HFR.out]
      go_ret
      exact ⟨rfl, HBW.out⟩
  have b9 : (x.op == 9) = false := by simp; omega
  have b10 : (x.op == 10) = false := by simp; omega
  by_cases h14 : x.op = 14
  · have b14 : (x.op != 14) = false := by simp [h14]
    have HP := mkD (prov_prim (m := m) (s := s) h14 (by rw [HSL.out]; exact hl))
    obtain ⟨k, hk⟩ := Int.eq_ofNat_of_zero_le (show 0 ≤ x.a by rcases hx.2.2 with h | h <;> omega)
    have hk22 : k < 22 := by rcases hx.2.2 with h | h; omega; have := h.2.2.2; simp [bnd, h14] at this; omega
    have hn : n = (pArgs k).length := by rw [hl, allow14 h14, hk, Int.toNat_natCast]
    rw [hk] at f1
    have HK := mkD hk
    clear hx hst hg hl HFx hk h9 h14
    subst hW
    go_enter Tryz.func37, Tryz.ntmps37
    go_wp2_with fail
    refine (l3prim_f k hk22 _).mono ?_
    rintro e w1 ⟨nm, gp, rfl, ho, hb⟩
    have HB1 : Hid (Below w.heap.size w w1) := HBW.out.trans (hb.mono HBW.out.size)
    have HS1 := mkD (HS.out.below hb)
    have HO := mkD ho
    rw [← hn] at HO
    rw [← hn]
    have HN := mkD hn
    clear ho hb f0 f1 f2 hn
    go_wp2_with fail
    go_loopw [8] (fun iv wr => Pv x s w1 n iv wr) (fun iv _ => n - (intOf iv).toNat)
    case atStart => exact ⟨0, Nat.zero_le _, rfl, Below.refl _ _, fun j hj => absurd hj (Nat.not_lt_zero j)⟩
    case round =>
      obtain ⟨i, hi, rfl, hBr, hA⟩ := hrel
      have HBr : Hid (Below w.heap.size w wr) := HB1.out.trans (hBr.out.mono HB1.out.size)
      by_cases hlt : i < n
      · obtain ⟨b, o, rfl, hbl, hc⟩ := (HS1.out.below hBr.out).cells (by omega)
        have x0 := hc i hlt
        obtain ⟨_, _, _, hc2⟩ := (HO.out.below hBr.out).cell
        obtain ⟨gp, hge, hgl, _, hcell⟩ := hc2 (by omega)
        cases hge
        have y0 := hcell i hlt
        obtain ⟨v, hv⟩ : ∃ v, v = s.getD i 0 := ⟨_, rfl⟩
        obtain ⟨a, ha⟩ : ∃ a, a = (pArgs k).getD i 0 := ⟨_, rfl⟩
        have hv5 : v < 512 := by rw [hv]; exact HG.out.lt i
        have ha5 : a < 512 := by rw [ha]; exact pArgs_lt
        rw [← hv] at x0
        rw [← ha] at y0
        have HV := mkD hv
        have HAE : Hid (a = (pArgs x.a.toNat).getD i 0) := by unfold Hid; rw [HK.out, Int.toNat_natCast]; exact ha
        have hand := and64b v a hv5 ha5
        clear hc hc2 hcell hv ha
        by_cases hq : v &&& a = v
        · have e1 : (((v &&& a : Nat) : Int) != (v : Int)) = false := by rw [hq]; simp
          have HQ := mkD hq
          clear hq
          go_wp2_with fail
          go_region
          all_goals go_wp2
          all_goals exact ⟨⟨i + 1, by omega, by go_num, below_drewM hBr.out, fun j hj => by rcases (show j < i ∨ j = i by omega) with h | h; exact hA.out j h; rw [h, ← HAE.out, ← HV.out]; exact HQ.out⟩, by simp [intOf]; omega⟩
        · have e1 : (((v &&& a : Nat) : Int) != (v : Int)) = true := by simp; omega
          have HNO : Hid (provenB m x s = false) := by
            unfold Hid
            rw [Bool.eq_false_iff]
            intro h
            have h2 := HP.out.1 h i (by rw [HK.out, Int.toNat_natCast, ← HN.out]; exact hlt)
            rw [← HAE.out, ← HV.out] at h2
            exact hq h2
          clear hq
          go_wp2_with fail
          go_region
          all_goals go_wp2
          all_goals go_ret
          all_goals exact ⟨by rw [HNO.out]; rfl, below_drewM HBr.out⟩
      · have dd : decide ((i : Int) < (n : Int)) = false := decide_eq_false (by omega)
        have HYES : Hid (provenB m x s = true) := HP.out.2 (fun j hj => hA.out j (by rw [HK.out, Int.toNat_natCast, ← HN.out] at hj; omega))
        go_wp2_with fail
        go_ret
        exact ⟨by rw [HYES.out]; rfl, HBr.out⟩
  have b14 : (x.op != 14) = true := by simp; omega
  have HP := mkD (prov_no (m := m) (s := s) h9 h14)
  subst hW
  clear hx hst hg hl HFx h9 h14
  go_enter Tryz.func37, Tryz.ntmps37
  go_wp2
  go_ret
  exact ⟨by rw [HP.out]; rfl, HBW.out⟩
end Vf
end Go.Proofs.YtdjdhjciealfhaaGreatDoor
namespace Go.Proofs.YtdjdhjciealfhaaGreatDoor
open Go.RowKit Ch1
namespace Vf
theorem getD_drop (s : List Nat) (k i : Nat) : (s.drop k).getD i 0 = s.getD (k + i) 0 := by simp [List.getD]
theorem drop_len {m : Md} {x : In} {s : List Nat} (h : (allow m x).length ≤ s.length) : (s.drop (s.length - (allow m x).length)).length = (allow m x).length := by simp; omega
theorem prov_drop {m : Md} {x : In} {s : List Nat} (h : (allow m x).length ≤ s.length) : provenB m x (s.drop (s.length - (allow m x).length)) = provenB m x s := by
  have hl := drop_len h
  unfold provenB
  by_cases h9 : x.op = 9 ∨ x.op = 10
  · rw [if_pos h9, if_pos h9, hl, Nat.sub_self, getD_drop, Nat.add_zero]
  by_cases h14 : x.op = 14
  · rw [if_neg h9, if_neg h9, if_pos h14, if_pos h14, hl, allow14 h14, Nat.sub_self]
    simp only [getD_drop, Nat.zero_add]
  · rw [if_neg h9, if_neg h9, if_neg h14, if_neg h14]
theorem asks_drop {m : Md} {x : In} {s : List Nat} (_h : (allow m x).length ≤ s.length) : (∀ i, i < (allow m x).length → (s.drop (s.length - (allow m x).length)).getD i 0 ||| (allow m x).getD i 0 = (allow m x).getD i 0) ↔ asks m x s := by
  unfold asks
  simp only [getD_drop]
theorem GoodS.drop {s : List Nat} (h : GoodS s) (k : Nat) : GoodS (s.drop k) := fun v hv => h v (List.mem_of_mem_drop hv)
/-- The last slots of a row. -/
theorem Ni.tail {w : World} {b o n c : Nat} {xs : List Nat} (h : Ni w (some ⟨b, o, none⟩) n c xs) {k : Nat} (hk : k ≤ n) : Ni w (some ⟨b, o + (n - k), none⟩) k (c - (n - k)) (xs.drop (n - k)) := by
  have h1 := h.cap
  have h2 := h.big
  refine ⟨by rw [List.length_drop, h.len]; omega, by omega, by omega, fun h0 => ?_⟩
  obtain ⟨b', o', e, hlt, hc⟩ := h.cells (by omega)
  cases e
  exact ⟨b, _, rfl, hlt, fun i hi => by rw [getD_drop, Nat.add_assoc]; exact hc _ (by omega)⟩
theorem Ni.tail0 {w : World} {p p' : Option Addr} {n c c' : Nat} {xs : List Nat} (h : Ni w p n c xs) (hc : c' ≤ maxLen) : Ni w p' 0 c' (xs.drop n) := ⟨by rw [List.length_drop, h.len]; omega, by omega, hc, fun h0 => absurd h0 (Nat.lt_irrefl 0)⟩
/-- A row of flags in a block of its own. -/
def OwB (w : World) (S : Nat) (bs : List Bool) : Prop := w.heap[S]? = some (.cells (bs.map Value.bool).toArray 4)
theorem OwB.lt {w : World} {S : Nat} {bs : List Bool} (h : OwB w S bs) : S < w.heap.size := (Array.getElem?_eq_some_iff.1 h).1
theorem OwB.below {w w' : World} {S : Nat} {bs : List Bool} (h : OwB w S bs) (hb : Below w.heap.size w w') : OwB w' S bs := (hb.block S h.lt).trans h
theorem OwB.cell {w : World} {S : Nat} {bs : List Bool} (h : OwB w S bs) {i : Nat} (hi : i < bs.length) : w.cell? ⟨S, i, none⟩ = some (.bool (bs.getD i false)) ∧ w.frozen? ⟨S, i, none⟩ = false := by
  unfold OwB at h
  refine ⟨?_, by simp [World.frozen?, h]⟩
  simp [World.cell?, h, List.getD, List.getElem?_eq_getElem hi]
theorem OwB.set {w : World} {S i : Nat} {bs : List Bool} (h : OwB w S bs) (b : Bool) : OwB (w.setCell ⟨S, i, none⟩ (.bool b)) S (bs.set i b) := by
  unfold OwB at h ⊢
  simp [World.setCell, Array.getElem?_modify, h, List.map_set]
theorem OwB.made {w w' : World} {n : Nat} (ho : w'.ownsRow w.heap.size 4 1 (.slice (some ⟨w.heap.size, 0, none⟩) n n) n (madeCells (Value.bool false).cells (n * 1)).toList) : OwB w' w.heap.size (List.replicate n false) := by
  obtain ⟨_, h | ⟨g', cap, cur, hv, _, hh, _, _, hsz, h4⟩⟩ := ho
  · cases h.1
  · cases hv
    unfold OwB
    rw [hh]
    congr 2
    apply Array.ext'
    rw [← List.take_length (l := cur.toList)]
    have hl : cur.toList.length = n * 1 := by simpa using hsz
    rw [hl, h4]
    apply List.ext_getElem?
    intro k
    have hz : (Value.bool false).cells = #[.bool false] := rfl
    rw [hz]
    by_cases hk : k < n
    · simp [madeCells, hk, Nat.mod_one]
    · simp [madeCells, hk]
theorem OwB.bo {w : World} {S : Nat} {bs : List Bool} (h : OwB w S bs) (hm : bs.length ≤ maxLen) : Bo w (some ⟨S, 0, none⟩) bs.length bs.length bs :=
  ⟨rfl, Nat.le_refl _, hm, fun _ => ⟨S, 0, rfl, h.lt, fun i hi => by rw [Nat.zero_add]; exact (h.cell hi).1⟩⟩
theorem info4 : (Tryz.prog.info? 4).map (fun i => (i.zero, i.size, i.bytes)) = some (some (.bool false), 1, 1) := by kernel_rfl
/-- Whether an instruction is proven, at the states. -/
def pvAt (m : Md) (f : Fn) (σ : States) (i : Nat) : Bool := match σ i with
  | none => false
  | some s => provenB m (f.code.getD i in0) s
theorem pvRow_eq (m : Md) (f : Fn) (σ : States) : pvRow m f σ = (List.range f.code.length).map (pvAt m f σ) := rfl
/-- The flags while they are laid. -/
def fl (m : Md) (f : Fn) (σ : States) (n i : Nat) : List Bool := (List.range n).map (fun j => if j < i then pvAt m f σ j else false)
theorem fl_len (m : Md) (f : Fn) (σ : States) (n i : Nat) : (fl m f σ n i).length = n := by simp [fl]
theorem fl_zero (m : Md) (f : Fn) (σ : States) (n : Nat) : fl m f σ n 0 = List.replicate n false := by
  apply List.ext_getElem?
  intro k
  by_cases hk : k < n
  · simp [fl, hk]
  · simp [fl, hk]
theorem fl_all (m : Md) (f : Fn) (σ : States) {n : Nat} (hn : f.code.length = n) : fl m f σ n n = pvRow m f σ := by
  subst hn
  rw [pvRow_eq]
  unfold fl
  exact List.map_congr_left (fun i hi => if_pos (List.mem_range.1 hi))
theorem fl_set (m : Md) (f : Fn) (σ : States) {n i : Nat} (_hi : i < n) : fl m f σ n (i + 1) = (fl m f σ n i).set i (pvAt m f σ i) := by
  apply List.ext_getElem?
  intro k
  rw [List.getElem?_set]
  by_cases hk : k < n
  · by_cases hik : i = k
    · subst hik; simp [fl, hk]
    · rw [if_neg hik]
      have : (k < i + 1) = (k < i) := by apply propext; omega
      simp [fl, hk, this]
  · by_cases hik : i = k
    · omega
    · rw [if_neg hik]
      simp [fl, hk]
theorem fl_same (m : Md) (f : Fn) {σ : States} {n i : Nat} (_hi : i < n) (h : σ i = none) : fl m f σ n (i + 1) = fl m f σ n i := by
  unfold fl
  refine List.map_congr_left (fun k hk => ?_)
  by_cases hik : k = i
  · subst hik
    rw [if_pos (by omega), if_neg (by omega)]
    simp [pvAt, h]
  · have : (k < i + 1) = (k < i) := by apply propext; omega
    simp only [this]
/-- At the head of l3verify's loop. -/
def Vy (m : Md) (f : Fn) (w1 : World) (n : Nat) (σ : States) (iv : Value) (wr : World) : Prop := ∃ i : Nat, i ≤ n ∧ iv = .int .i64 (i : Nat) ∧ Hid (Below w1.heap.size w1 wr) ∧ Hid (OwB wr w1.heap.size (fl m f σ n i)) ∧ Hid (∀ j s, j < i → σ j = some s → asks m (f.code.getD j in0) s)
/-- What l3verify answers. -/
def VyP (m : Md) (f : Fn) (w w' : World) (e : Ending) : Prop :=
  (∃ S σ, e = .returned (.tuple #[.slice (some ⟨S, 0, none⟩) f.code.length f.code.length, .bool true]) ∧ w.heap.size ≤ S ∧ OwB w' S (pvRow m f σ) ∧ Least m f σ ∧ Safe m f ∧ Below w.heap.size w w') ∨ (¬ Safe m f ∧ e = .returned (.tuple #[.slice none 0 0, .bool false]) ∧ Below w.heap.size w w')
theorem OwI.nil_or {w : World} {B n c : Nat} {p : Option Addr} {xs : List Nat} (h : OwI w B (.slice p n c) xs) : (p = none ∧ n = 0 ∧ c = 0) ∨ ∃ g, p = some ⟨g, 0, none⟩ := by
  obtain ⟨_, ⟨hv, h0⟩ | ⟨g, cap, cur, hv, _⟩⟩ := h
  · cases hv
    exact Or.inl ⟨rfl, rfl, rfl⟩
  · cases hv
    exact Or.inr ⟨g, rfl⟩
end Vf
end Go.Proofs.YtdjdhjciealfhaaGreatDoor
