import Derived.Test.YtmmkpmgidoelpaaDoorS1
import Derived.Test.YtmmkpmgidoelpaaDoorH7
namespace Go.Proofs.YtmmkpmgidoelpaaDoor
open Go.RowKit Ch1 Ch2s
set_option maxHeartbeats 400000 in
theorem full_c (b B : Nat) (hp : Value) (top : Int) (nm v : Value) (xs : List Int) (w : World) (hW : Sh w b B hp top nm v xs) :
    Calls Tryd.prog 40 #[.pointer (some ⟨b, 0, none⟩)] w fun e w' => e = .returned (.bool (decide (xs.length = 1000))) ∧ w' = w := by
  obtain ⟨_, _, _, c3, _⟩ := hW.cells
  obtain ⟨p0, k0, rfl, hk0⟩ := hW.ow.len
  clear hW
  generalize xs.length = n0 at *
  by_cases h : n0 = 1000
  · subst h
    go_enter Tryd.func40, Tryd.ntmps40
    go_wp2
    go_ret
    exact ⟨rfl, rfl⟩
  · have h1 : ((n0 : Int) == 1000) = false := by simp; omega
    have HD : Hid (decide (n0 = 1000) = false) := by unfold Hid; simpa using h
    clear h
    go_enter Tryd.func40, Tryd.ntmps40
    go_wp2
    go_ret
    exact ⟨ret_bool HD.out.symm, rfl⟩
theorem below_allocS {w w' : World} {o : Obj} (h : Below (w.alloc o).heap.size (w.alloc o) w') : Below w.heap.size w w' := (below1 w o).trans (h.mono (by simp))
/-- The text of a rare word, by its number. -/
def rareA (k : Int) : ByteArray := if k = 0 then ⟨#[40, 41]⟩ else if k = 1 then ⟨#[35, 102]⟩ else if k = 2 then ⟨#[35, 116]⟩ else if k = 3 then ⟨#[35, 118, 111, 105, 100]⟩ else ⟨#[35, 117, 110, 115, 101, 116]⟩
def rareZ (k : Int) : List Int := nums (rareA k).data.toList
set_option maxHeartbeats 400000 in
theorem rareText_c (x : Int) (h : x % 4 = 3) (h0 : 3 ≤ x) (h1 : x ≤ 19) (w : World) : Calls Tryd.prog 52 #[.int .i64 x] w fun e w' => e = .returned (.string (rareA (x / 4))) ∧ w' = w := by
  rcases (show x = 3 ∨ x = 7 ∨ x = 11 ∨ x = 15 ∨ x = 19 by omega) with rfl | rfl | rfl | rfl | rfl
  all_goals
    go_enter Tryd.func52, Tryd.ntmps52
    go_wp2
    go_ret
    exact ⟨rfl, rfl⟩
section
variable (p : Option Addr) (n c : Nat) (top x : Int) (ws : List Int) (w : World)
set_option maxHeartbeats 1000000 in
theorem mean_num (hx : x % 4 = 0) : Calls Tryd.prog 41 #[.agg #[.slice p n c, .int .i64 top], .int .i64 x] w fun e w' => e = .returned (.iface 77 (.int .i64 (x / 4))) ∧ Below w.heap.size w w' := by
  go_enter Tryd.func41, Tryd.ntmps41
  go_wp2_with (first | (go_at_call 28; refine (Hp.tagOf_c x _).mono ?_; rintro e w1 ⟨rfl, hw1⟩; rw [hx]; subst hw1) | (go_at_call 29; refine (Hp.numberOf_c x _).mono ?_; rintro e w1 ⟨rfl, hw1⟩; subst hw1))
  go_ret
  exact ⟨rfl, below1 _ _⟩
set_option maxHeartbeats 1000000 in
theorem mean_sym (hx : x % 4 = 2) : Calls Tryd.prog 41 #[.agg #[.slice p n c, .int .i64 top], .int .i64 x] w fun e w' => e = .returned (.iface 80 (.int .i64 (x / 4))) ∧ Below w.heap.size w w' := by
  go_enter Tryd.func41, Tryd.ntmps41
  go_wp2_with (first | (go_at_call 28; refine (Hp.tagOf_c x _).mono ?_; rintro e w1 ⟨rfl, hw1⟩; rw [hx]; subst hw1) | (go_at_call 29; refine (Hp.numberOf_c x _).mono ?_; rintro e w1 ⟨rfl, hw1⟩; subst hw1))
  go_ret
  exact ⟨rfl, below1 _ _⟩
set_option maxHeartbeats 1000000 in
theorem mean_rare (hx : x % 4 = 3) (h0 : 3 ≤ x) (h1 : x ≤ 19) : Calls Tryd.prog 41 #[.agg #[.slice p n c, .int .i64 top], .int .i64 x] w fun e w' => e = .returned (.iface 81 (.string (rareA (x / 4)))) ∧ Below w.heap.size w w' := by
  go_enter Tryd.func41, Tryd.ntmps41
  go_wp2_with (first | (go_at_call 28; refine (Hp.tagOf_c x _).mono ?_; rintro e w1 ⟨rfl, hw1⟩; rw [hx]; subst hw1) | (go_at_call 52; refine (rareText_c x hx h0 h1 _).mono ?_; rintro e w1 ⟨rfl, hw1⟩; subst hw1))
  go_ret
  exact ⟨rfl, below1 _ _⟩
/-- What is asked of an object that a word points to. -/
structure Ob (n a m : Nat) (hd : Int) : Prop where
  hm : hd / 4 = m
  m1 : m ≤ 1000
  ham : a + 1 + m ≤ n
  hn : n ≤ 20000
/-- A heap in a box. -/
theorem box_heap (w : World) (hp : Value) (top : Int) {w1 : World} (hb : Below (w.alloc (.cells #[hp, .int .i64 top] 25)).heap.size (w.alloc (.cells #[hp, .int .i64 top] 25)) w1) : w1.cell? ⟨w.heap.size, 0, none⟩ = some hp ∧ w1.cell? ⟨w.heap.size, 1, none⟩ = some (.int .i64 top) ∧ w.heap.size < w1.heap.size := by
  have hs := hb.size
  simp at hs
  refine ⟨?_, ?_, by omega⟩
  · rw [hb.cell (p := ⟨w.heap.size, 0, none⟩) (by simp)]; simp
  · rw [hb.cell (p := ⟨w.heap.size, 1, none⟩) (by simp)]; simp
theorem cell_keep {w w1 : World} {b o : Nat} {v : Value} (hb : Below w.heap.size w w1) (hlt : b < w.heap.size) (h : w.cell? ⟨b, o, none⟩ = some v) : w1.cell? ⟨b, o, none⟩ = some v := by rw [hb.cell (p := ⟨b, o, none⟩) hlt]; exact h
set_option maxRecDepth 20000 in
set_option maxHeartbeats 2000000 in
theorem mean_text (a m : Nat) (hI : Hp.Is w p n c ws) (hx : x % 4 = 1) (ha : x / 4 = a) (hO : Ob n a m (ws.getD a 0)) (k : Int) (hk : ws.getD a 0 % 4 = k) (s : ByteArray) (hs : (k = 2 ∧ s = ⟨#[35, 112, 114, 111, 99]⟩) ∨ (k = 3 ∧ s = ⟨#[35, 98, 111, 120]⟩)) : Calls Tryd.prog 41 #[.agg #[.slice p n c, .int .i64 top], .int .i64 x] w fun e w' => e = .returned (.iface 81 (.string s)) ∧ Below w.heap.size w w' := by
  obtain ⟨hm, m1, ham, hn⟩ := hO
  obtain ⟨b, o, rfl, hb, hc⟩ := hI.cells (by omega)
  have ca := hc a (by omega)
  have HI : Hid (Hp.Is w (some ⟨b, o, none⟩) n c ws) := hI
  have HM : Hid (ws.getD a 0 / 4 = m) := hm
  obtain ⟨hd, hhd⟩ : ∃ hd, hd = ws.getD a 0 := ⟨_, rfl⟩
  rw [← hhd] at ca hk
  clear hI hc hm hhd
  have ia : (a : Int) < n := by omega
  have HX : Hid (x / 4 = a) := ha
  clear ha
  rcases hs with ⟨rfl, rfl⟩ | ⟨rfl, rfl⟩
  all_goals
    go_enter Tryd.func41, Tryd.ntmps41
    go_wp2_with (first | (go_at_call 28; refine (Hp.tagOf_c x _).mono ?_; rintro e w1 ⟨rfl, hw1⟩; rw [hx]; subst hw1) | (go_at_call 29; refine (Hp.numberOf_c x _).mono ?_; rintro e w1 ⟨rfl, hw1⟩; rw [HX.out]; subst hw1))
    refine (Hp.fieldsAt_c _ n c a m top ws _ (HI.out.below (below1 _ _)) ham (by omega) HM.out m1).mono ?_
    rintro e w1 ⟨q, c', rfl, _, _, _, hb1⟩
    have HB : Hid (Below w.heap.size w w1) := below_allocS hb1
    obtain ⟨q0, q1, q2⟩ := box_heap w _ _ hb1
    have cb := cell_keep HB.out hb ca
    clear hb1
    go_wp2_with (go_at_call 28; refine (Hp.tagOf_c hd _).mono ?_; rintro e w2 ⟨rfl, hw2⟩; rw [hk]; subst hw2)
    go_ret
    exact ⟨rfl, HB.out⟩
set_option maxRecDepth 20000 in
set_option maxHeartbeats 2000000 in
theorem mean_vec (a m : Nat) (hI : Hp.Is w p n c ws) (hx : x % 4 = 1) (ha : x / 4 = a) (hO : Ob n a m (ws.getD a 0)) (hk : ws.getD a 0 % 4 = 1) : Calls Tryd.prog 41 #[.agg #[.slice p n c, .int .i64 top], .int .i64 x] w fun e w' => ∃ q c', e = .returned (.iface 82 (.slice q m c')) ∧ m ≤ c' ∧ c' ≤ maxLen ∧ (∀ b o, p = some ⟨b, o, none⟩ → 0 < m → q = some ⟨b, o + (a + 1), none⟩) ∧ Below w.heap.size w w' := by
  obtain ⟨hm, m1, ham, hn⟩ := hO
  obtain ⟨b, o, rfl, hb, hc⟩ := hI.cells (by omega)
  have ca := hc a (by omega)
  have HI : Hid (Hp.Is w (some ⟨b, o, none⟩) n c ws) := hI
  have HM : Hid (ws.getD a 0 / 4 = m) := hm
  obtain ⟨hd, hhd⟩ : ∃ hd, hd = ws.getD a 0 := ⟨_, rfl⟩
  rw [← hhd] at ca hk
  clear hI hc hm hhd
  have ia : (a : Int) < n := by omega
  have HX : Hid (x / 4 = a) := ha
  clear ha
  go_enter Tryd.func41, Tryd.ntmps41
  go_wp2_with (first | (go_at_call 28; refine (Hp.tagOf_c x _).mono ?_; rintro e w1 ⟨rfl, hw1⟩; rw [hx]; subst hw1) | (go_at_call 29; refine (Hp.numberOf_c x _).mono ?_; rintro e w1 ⟨rfl, hw1⟩; rw [HX.out]; subst hw1))
  refine (Hp.fieldsAt_c _ n c a m top ws _ (HI.out.below (below1 _ _)) ham (by omega) HM.out m1).mono ?_
  rintro e w1 ⟨q, c', rfl, hc1, hc2, hc3, hb1⟩
  have HB : Hid (Below w.heap.size w w1) := below_allocS hb1
  have HV : Hid (m ≤ c' ∧ c' ≤ maxLen ∧ (∀ b' o', some (⟨b, o, none⟩ : Addr) = some ⟨b', o', none⟩ → 0 < m → q = some ⟨b', o' + (a + 1), none⟩)) := ⟨hc1, hc2, hc3⟩
  obtain ⟨q0, q1, q2⟩ := box_heap w _ _ hb1
  have cb := cell_keep HB.out hb ca
  clear hb1 hc1 hc2 hc3
  go_wp2_with (go_at_call 28; refine (Hp.tagOf_c hd _).mono ?_; rintro e w2 ⟨rfl, hw2⟩; rw [hk]; subst hw2)
  go_ret
  exact ⟨q, c', rfl, HV.out.1, HV.out.2.1, HV.out.2.2, HB.out⟩
set_option maxRecDepth 20000 in
set_option maxHeartbeats 2000000 in
theorem mean_pair (a : Nat) (hI : Hp.Is w p n c ws) (hx : x % 4 = 1) (ha : x / 4 = a) (hO : Ob n a 2 (ws.getD a 0)) (hk : ws.getD a 0 % 4 = 0) : Calls Tryd.prog 41 #[.agg #[.slice p n c, .int .i64 top], .int .i64 x] w fun e w' => e = .returned (.iface 84 (.agg #[.int .i64 (ws.getD (a + 1) 0), .int .i64 (ws.getD (a + 2) 0)])) ∧ Below w.heap.size w w' := by
  obtain ⟨hm, m1, ham, hn⟩ := hO
  obtain ⟨b, o, rfl, hb, hc⟩ := hI.cells (by omega)
  have ca := hc a (by omega)
  have cc1 := hc (a + 1) (by omega)
  have cc2 := hc (a + 2) (by omega)
  have HI : Hid (Hp.Is w (some ⟨b, o, none⟩) n c ws) := hI
  have HM : Hid (ws.getD a 0 / 4 = (2 : Nat)) := hm
  obtain ⟨hd, hhd⟩ : ∃ hd, hd = ws.getD a 0 := ⟨_, rfl⟩
  rw [← hhd] at ca hk
  clear hI hc hm hhd
  generalize ws.getD (a + 1) 0 = f1 at cc1
  generalize ws.getD (a + 2) 0 = f2 at cc2
  have ia : (a : Int) < n := by omega
  have HX : Hid (x / 4 = a) := ha
  clear ha
  go_enter Tryd.func41, Tryd.ntmps41
  go_wp2_with (first | (go_at_call 28; refine (Hp.tagOf_c x _).mono ?_; rintro e w1 ⟨rfl, hw1⟩; rw [hx]; subst hw1) | (go_at_call 29; refine (Hp.numberOf_c x _).mono ?_; rintro e w1 ⟨rfl, hw1⟩; rw [HX.out]; subst hw1))
  refine (Hp.fieldsAt_c _ n c a 2 top ws _ (HI.out.below (below1 _ _)) ham (by omega) HM.out m1).mono ?_
  rintro e w1 ⟨q, c', rfl, hc1, hc2, hc3, hb1⟩
  have HB : Hid (Below w.heap.size w w1) := below_allocS hb1
  obtain rfl := hc3 b o rfl (by omega)
  obtain ⟨q0, q1, q2⟩ := box_heap w _ _ hb1
  have cb := cell_keep HB.out hb ca
  have cd1 : w1.cell? ⟨b, o + (a + 1), none⟩ = some (.int .i64 f1) := cell_keep HB.out hb (by simpa using cc1)
  have cd2 : w1.cell? ⟨b, o + (a + 1) + 1, none⟩ = some (.int .i64 f2) := cell_keep HB.out hb (by simpa [Nat.add_assoc] using cc2)
  clear hb1 hc1 hc2 hc3 cc1 cc2
  go_wp2_with (go_at_call 28; refine (Hp.tagOf_c hd _).mono ?_; rintro e w2 ⟨rfl, hw2⟩; rw [hk]; subst hw2)
  go_quiet (fail)
  go_wp2
  go_ret
  exact ⟨rfl, below_drewN' HB.out _⟩
end
end Go.Proofs.YtmmkpmgidoelpaaDoor
