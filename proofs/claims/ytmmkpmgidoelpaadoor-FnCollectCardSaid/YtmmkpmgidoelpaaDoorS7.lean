import Derived.Test.YtmmkpmgidoelpaaDoorS6
import Derived.Test.YtmmkpmgidoelpaaDoorH9
namespace Go.Proofs.YtmmkpmgidoelpaaDoor
open Go.RowKit Ch1 Ch2s
section
variable {w0 : World} {p : Option Addr} {n c : Nat} {top : Int} {ws : List Int} {np : Option Addr} {nn nc : Nat} {ns : List (List Int)} (b : Nat)
theorem show_step (hC : Cx w0 p n c top ws np nn nc ns) (f : Nat) (ih : ShowC w0 b p n c top ws np nn nc ns f) : ShowC w0 b p n c top ws np nn nc ns (f + 1) := by
  intro x v xs w hW hb hwd hr hf hx
  by_cases hfull : xs.length = 1000
  · rw [shI, if_pos hfull]
    exact show_full b x v xs w hW hfull
  · rw [shI, if_neg hfull]
    have hlt : xs.length < 1000 := by omega
    rcases (show x % 4 = 0 ∨ x % 4 = 2 ∨ x % 4 = 3 ∨ x % 4 = 1 by omega) with h | h | h | h
    · rw [if_pos (by omega), leafT, if_pos h]
      exact show_num b hC x h hr.1 hr.2 v xs w hW hb hlt
    · have h0 : 0 ≤ x := by rcases hwd with h | h | h | h <;> omega
      rw [if_pos (by omega), leafT, if_neg (by omega), if_pos h]
      exact show_sym b hC x h h0 hr.2 v xs w hW hb hlt
    · have h3 : 3 ≤ x ∧ x ≤ 19 := by rcases hwd with h | h | h | h <;> omega
      rw [if_pos (by omega), leafT, if_neg (by omega), if_neg (by omega)]
      refine show_text b x (rareA (x / 4)) ?_ (fun w' _ => mean_rare p n c top x w' h h3.1 h3.2) v xs w hW hb hlt
      unfold rareA
      split
      · decide
      · split
        · decide
        · split
          · decide
          · split <;> decide
    · obtain ⟨a, ha, ha', _, hh, hO, hfw⟩ := obj_of hC.good hC.is.len h hwd
      rw [if_neg (by omega), ha']
      rcases (show ws.getD a 0 % 4 = 2 ∨ ws.getD a 0 % 4 = 3 ∨ ws.getD a 0 % 4 = 1 ∨ ws.getD a 0 % 4 = 0 by omega) with k | k | k | k
      · rw [if_pos k]
        exact show_text b x ⟨#[35, 112, 114, 111, 99]⟩ (by decide) (fun w' hb' => mean_text p n c top x ws w' a _ (hC.is.below hb') h ha hO 2 k _ (Or.inl ⟨rfl, rfl⟩)) v xs w hW hb hlt
      · rw [if_neg (by omega), if_pos k]
        exact show_text b x ⟨#[35, 98, 111, 120]⟩ (by decide) (fun w' hb' => mean_text p n c top x ws w' a _ (hC.is.below hb') h ha hO 3 k _ (Or.inr ⟨rfl, rfl⟩)) v xs w hW hb hlt
      · rw [if_neg (by omega), if_neg (by omega), if_pos k]
        exact show_vec b hC f ih x h a _ ha hO k hfw v xs w hW hb hf hlt
      · rw [if_neg (by omega), if_neg (by omega), if_neg (by omega)]
        have hc2 := Hp.Ch2.head_pair hh k
        rw [hc2] at hO hfw
        exact show_pair b hC f ih x h a ha hO k (hfw 0 (by omega)) (hfw 1 (by omega)) v xs w hW hb hf hlt
theorem show_c (hC : Cx w0 p n c top ws np nn nc ns) : ∀ f, ShowC w0 b p n c top ws np nn nc ns f
  | 0 => fun x v xs w _ _ _ _ hf hx => by omega
  | f + 1 => show_step b hC f (show_c hC f)
end
/-- What both ShowWords answer. -/
def swZ (ns : List (List Int)) (ws : List Int) (x : Int) : List Int := shI itoaZ (symZ ns) rareZ ws 1001 x []
def SwP (ns : List (List Int)) (ws : List Int) (top x : Int) (w w' : World) (e : Ending) : Prop := ∃ v, e = .returned v ∧ ((Hp.Ch2.GoodR ws top [x] ∧ Ow w' w.heap.size v (swZ ns ws x)) ∨ (¬ Hp.Ch2.GoodR ws top [x] ∧ v = .slice none 0 0)) ∧ Below w.heap.size w w'
theorem Is_one (w : World) (x : Int) (hx : -9223372036854775808 ≤ x ∧ x ≤ 9223372036854775807) : Hp.Is (w.alloc (.cells #[.int .i64 x] 3)) (some ⟨w.heap.size, 0, none⟩) 1 1 [x] := by
  refine ⟨rfl, Nat.le_refl _, by unfold maxLen; omega, fun i => ?_, fun _ => ⟨w.heap.size, 0, rfl, by simp, fun i hi => ?_⟩⟩
  · cases i with
    | zero => exact hx
    | succ i => simp
  · obtain rfl : i = 0 := by omega
    simp
set_option maxRecDepth 20000 in
set_option maxHeartbeats 4000000 in
theorem implShowWord_c (p : Option Addr) (n c : Nat) (top x : Int) (ws : List Int) (np : Option Addr) (nn nc : Nat) (ns : List (List Int)) (w : World) (hI : Hp.Is w p n c ws) (ht0 : -9223372036854775808 ≤ top) (ht1 : top ≤ 9223372036854775807) (hx : -9223372036854775808 ≤ x ∧ x ≤ 9223372036854775807) (hN : Nm w np nn nc ns) (hl : ∀ i, (ns.getD i []).length ≤ 1048576) (hT : Tab w) :
    Calls Tryd.prog 12 #[.agg #[.slice p n c, .int .i64 top], .int .i64 x, .slice np nn nc] w fun e w' => SwP ns ws top x w w' e := by
  have HI : Hid (Hp.Is w p n c ws) := hI
  have HN : Hid (Nm w np nn nc ns) := hN
  have HL : Hid (∀ i, (ns.getD i []).length ≤ 1048576) := hl
  have HT : Hid (Tab w) := hT
  have HX : Hid (-9223372036854775808 ≤ x ∧ x ≤ 9223372036854775807) := hx
  clear hI hN hl hT hx
  go_enter Tryd.func12, Tryd.ntmps12
  go_wp2_with fail
  refine (Hp.implValidHeap_c p n c top ws _ 1 1 [x] _ (HI.out.below (below2 w _ _)) ht0 ht1 (by simpa using Is_one (w.alloc _) x HX.out)).mono ?_
  rintro e w1 ⟨r, rfl, hr, hb1⟩
  have HB1 : Hid (Below w.heap.size w w1) := (below2 w _ _).trans (hb1.mono (by simp; omega))
  have HR : Hid (r = true ↔ Hp.Ch2.GoodR ws top [x]) := hr
  have hs1 := HB1.out.size
  have q0 : w1.cell? ⟨w.heap.size, 0, none⟩ = some (.slice p n c) := by rw [hb1.cell (p := ⟨w.heap.size, 0, none⟩) (by simp; omega)]; simp
  have q1 : w1.cell? ⟨w.heap.size, 1, none⟩ = some (.int .i64 top) := by rw [hb1.cell (p := ⟨w.heap.size, 1, none⟩) (by simp; omega)]; simp
  clear hr hb1
  cases r
  · go_wp2
    go_ret
    exact ⟨_, rfl, Or.inr ⟨fun h => (by have := HR.out.2 h; cases this), rfl⟩, HB1.out⟩
  have HG : Hid (Hp.Ch2.GoodR ws top [x]) := HR.out.1 rfl
  have HC : Hid (Cx w p n c top ws np nn nc ns) := ⟨HI.out, HG.out.good, HN.out, HL.out, HT.out⟩
  have HWD : Hid (Hp.Ch2.WordOk ws top.toNat x) := HG.out.roots 0 (by simp)
  go_wp2_with fail
  have HW2 : Hid (Sh (w1.alloc (.cells #[.slice p n c, .int .i64 top, .slice np nn nc, .slice none 0 0] 62)) w1.heap.size w.heap.size (.slice p n c) top (.slice np nn nc) (.slice none 0 0) []) := ⟨Go.Deep.blk_alloc_new _ _, hs1, Ow.nil _ _⟩
  refine (show_c w1.heap.size HC.out 1001 x _ [] _ HW2.out (HB1.out.trans ((below1 _ _).mono hs1)) HWD.out HX.out (by simp) (by simp)).mono ?_
  rintro e w3 ⟨rfl, v3, hw3, hs3⟩
  have HO : Hid (Ow w3 w.heap.size v3 (swZ ns ws x)) := hw3.ow
  have HB3 : Hid (Below w.heap.size w w3) := (HB1.out.trans ((below1 _ _).mono hs1)).trans hs3.below
  have c3 := hw3.cells.2.2.2.1
  clear hw3 hs3
  go_wp2
  go_ret
  exact ⟨_, rfl, Or.inl ⟨HG.out, HO.out⟩, HB3.out⟩
end Go.Proofs.YtmmkpmgidoelpaaDoor
