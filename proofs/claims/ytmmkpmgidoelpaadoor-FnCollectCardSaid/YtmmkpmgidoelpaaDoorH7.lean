import Derived.Test.YtmmkpmgidoelpaaDoorH6
namespace Go.Proofs.YtmmkpmgidoelpaaDoor.Hp
open Go.RowKit Ch2
/-- The fields of an object of m fields at a. -/
def fld (ws : List Int) (a m : Nat) : List Int := (ws.drop (a + 1)).take m
theorem fld_len {ws : List Int} {a m : Nat} (h : a + 1 + m ≤ ws.length) : (fld ws a m).length = m := by
  unfold fld; rw [List.length_take, List.length_drop]; omega
theorem fld_getD {ws : List Int} {a m i : Nat} (h : i < m) : (fld ws a m).getD i 0 = ws.getD (a + 1 + i) 0 := by
  unfold fld; simp [List.getD, h, List.getElem?_drop]
theorem Is.sub {w : World} {p q : Option Addr} {n c c' a m : Nat} {ws : List Int} (h : Is w p n c ws) (ham : a + 1 + m ≤ n) (h1 : m ≤ c') (h2 : c' ≤ maxLen) (hq : ∀ b o, p = some ⟨b, o, none⟩ → 0 < m → q = some ⟨b, o + (a + 1), none⟩) : Is w q m c' (fld ws a m) := by
  refine ⟨fld_len (by rw [h.len]; exact ham), h1, h2, fun i => ?_, fun hm => ?_⟩
  · by_cases hi : i < m
    · rw [fld_getD hi]; exact h.rng _
    · have : (fld ws a m).getD i 0 = 0 := by
        simp [List.getD, List.getElem?_eq_none (show (fld ws a m).length ≤ i by rw [fld_len (by rw [h.len]; exact ham)]; omega)]
      rw [this]; omega
  · obtain ⟨b, o, e, hlt, hc⟩ := h.cells (by omega)
    refine ⟨b, o + (a + 1), hq b o e hm, hlt, fun i hi => ?_⟩
    rw [fld_getD hi, show o + (a + 1) + i = o + (a + 1 + i) by omega]
    exact hc _ (by omega)
set_option maxHeartbeats 1000000 in
theorem behindObject_c (p : Option Addr) (n c a m r : Nat) (hr : r = a + 1 + m) (top : Int) (ws : List Int) (w : World) (hI : Is w p n c ws) (ha : a < n) (hn : n ≤ 1048576) (hm : ws.getD a 0 / 4 = m) (hm1 : m ≤ 1000) :
    Calls Tryd.prog 25 #[.agg #[.slice p n c, .int .i64 top], .int .i64 a] w fun e w' => e = .returned (.int .i64 (r : Int)) ∧ w' = w.alloc (.cells #[.slice p n c, .int .i64 top] 25) := by
  obtain ⟨b, o, rfl, hbl, g⟩ := hI.cells (by omega)
  have g1 := g a ha
  rw [← (below1 w (.cells #[.slice (some ⟨b, o, none⟩) n c, .int .i64 top] 25)).cell (p := ⟨b, o + a, none⟩) hbl] at g1
  clear g hI
  generalize ws.getD a 0 = x at g1 hm
  go_enter Tryd.func25, Tryd.ntmps25
  go_wp2_with (go_at_call 29; refine (numberOf_c x _).mono ?_; rintro e w' ⟨rfl, rfl⟩; rw [hm])
  go_ret
  exact ⟨ret_int (by omega), rfl⟩
theorem below_drew {B : Nat} {a w : World} (h : Below B a w) : Below B a w.drew := ⟨h.os, h.tape, h.output, h.size, h.block⟩
/-- What fieldsAt answers. -/
def FaP (p : Option Addr) (a m : Nat) (w w' : World) (e : Ending) : Prop := ∃ q c', e = .returned (.slice q m c') ∧ m ≤ c' ∧ c' ≤ maxLen ∧ (∀ b o, p = some ⟨b, o, none⟩ → 0 < m → q = some ⟨b, o + (a + 1), none⟩) ∧ Below w.heap.size w w'
set_option maxHeartbeats 1000000 in
theorem fieldsAt_c (p : Option Addr) (n c a m : Nat) (top : Int) (ws : List Int) (w : World) (hI : Is w p n c ws) (ham : a + 1 + m ≤ n) (hn : n ≤ 1048576) (hm : ws.getD a 0 / 4 = m) (hm1 : m ≤ 1000) :
    Calls Tryd.prog 26 #[.agg #[.slice p n c, .int .i64 top], .int .i64 a] w fun e w' => FaP p a m w w' e := by
  have HI : Hid (Is w p n c ws) := hI
  have hcap := hI.cap
  have hcb := hI.small.2
  have HM : Hid (ws.getD a 0 / 4 = m) := hm
  clear hI hm
  obtain ⟨r, hr⟩ : ∃ r : Nat, r = a + 1 + m := ⟨_, rfl⟩
  have HR : Hid (r = a + 1 + m) := hr
  have h4 : (a : Int) + 1 ≤ (r : Int) := by omega
  have h5 : (r : Int) ≤ (c : Int) := by omega
  have h6 : r ≤ 9223372036854775807 := by omega
  clear hr
  obtain ⟨b, o, rfl, hbl, _⟩ := HI.out.cells (by omega)
  have hrr := HR.out
  have f0 : (0 : Int) ≤ (a : Int) + 1 := by omega
  have fw : IntKind.i64.wrap ((a : Int) + 1) = (a : Int) + 1 := by rw [IntKind.wrap_i64]; omega
  have f1 : a + 1 ≤ r := by omega
  have f2 : a < r := by omega
  have f3 : r ≤ c := by omega
  clear hrr
  by_cases hca : c = a + 1
  · subst hca
    obtain rfl : m = 0 := by have := HR.out; omega
    go_enter Tryd.func26, Tryd.ntmps26
    go_wp2
    go_region_with (go_at_call 25; refine (behindObject_c _ n (a + 1) a 0 r HR.out top ws _ ?y1 (by omega) hn HM.out hm1).mono ?_; (case y1 => exact HI.out.below (below_drew (below1 _ _))); rintro e w1 ⟨rfl, rfl⟩)
    all_goals go_wp2
    all_goals exact bodyPost_ret (v := .slice (some ⟨b, o, none⟩) 0 0) (by simp [results, Tryd.results26, Act.put, go_sem]) rfl ⟨_, _, rfl, Nat.le_refl _, Nat.zero_le _, fun _ _ _ h => absurd h (Nat.lt_irrefl 0), below_drew (below2 w _ _)⟩
  · go_enter Tryd.func26, Tryd.ntmps26
    go_wp2
    go_region_with (go_at_call 25; refine (behindObject_c _ n c a m r HR.out top ws _ ?y1 (by omega) hn HM.out hm1).mono ?_; (case y1 => exact HI.out.below (below_drew (below1 _ _))); rintro e w1 ⟨rfl, rfl⟩)
    all_goals go_wp2
    all_goals refine bodyPost_ret (v := .slice (some ⟨b, o + (a + 1), none⟩) (r - (a + 1)) (c - (a + 1))) (by simp [results, Tryd.results26, Act.put, go_sem]) rfl ⟨_, _, by rw [show r - (a + 1) = m by have := HR.out; omega], by have := HR.out; omega, by have := HI.out.big; omega, fun b' o' e _ => by cases e; rfl, below_drew (below2 w _ _)⟩
end Go.Proofs.YtmmkpmgidoelpaaDoor.Hp
