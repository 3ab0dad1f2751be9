import Derived.Test.YtmmkpmgidoelpaaDoorZ6
import Derived.Test.YtmmkpmgidoelpaaDoorA4
import Derived.Deep.AppendLies
namespace Go.Proofs.YtmmkpmgidoelpaaDoor.Hp
open Go.RowKit Ch2
/-- Bytes that lie in w. -/
structure Bz (w : World) (p : Option Addr) (n : Nat) (bs : List Int) : Prop where
  len : bs.length = n
  rng : ∀ i, 0 ≤ bs.getD i 0 ∧ bs.getD i 0 < 256
  cells : 0 < n → ∃ b o, p = some ⟨b, o, none⟩ ∧ b < w.heap.size ∧ ∀ i, i < n → w.cell? ⟨b, o + i, none⟩ = some (.int .u8 (bs.getD i 0))
theorem Bz.below {w w' : World} {p : Option Addr} {n : Nat} {bs : List Int} (h : Bz w p n bs) (hb : Below w.heap.size w w') : Bz w' p n bs := by
  refine ⟨h.len, h.rng, fun hn => ?_⟩
  obtain ⟨b, o, e, hlt, hc⟩ := h.cells hn
  exact ⟨b, o, e, Nat.lt_of_lt_of_le hlt hb.size, fun i hi => by rw [hb.cell (p := ⟨b, o + i, none⟩) hlt]; exact hc i hi⟩
/-- What the reader's next answers, and where it stands then. -/
def nxV (bs : List Int) (i : Nat) : Int := if i < bs.length then bs.getD i 0 else 0
def nxI (bs : List Int) (i : Nat) : Nat := if i < bs.length then i + 1 else i
theorem nxV_rng {bs : List Int} (h : ∀ i, 0 ≤ bs.getD i 0 ∧ bs.getD i 0 < 256) (i : Nat) : 0 ≤ nxV bs i ∧ nxV bs i < 256 := by
  unfold nxV; split
  · exact h i
  · omega
theorem nxI_le {bs : List Int} {i : Nat} (h : i ≤ bs.length) : nxI bs i ≤ bs.length := by unfold nxI; split <;> omega
/-- A reader in block rb that stands at i; its bytes lie ahead of B. -/
structure Rz (w : World) (rb : Nat) (bp : Option Addr) (n c B : Nat) (bs : List Int) (i : Nat) : Prop where
  c0 : w.cell? ⟨rb, 0, none⟩ = some (.slice bp n c)
  c1 : w.cell? ⟨rb, 1, none⟩ = some (.int .i64 (i : Int))
  f1 : w.frozen? ⟨rb, 1, none⟩ = false
  lt : rb < w.heap.size
  le : i ≤ n
  small : n ≤ 500
  by_ : Bz w bp n bs
  ahead : ∀ a, 0 < n → bp = some a → a.block < B
  past : B ≤ rb
theorem Rz.keep {w w' : World} {rb : Nat} {bp : Option Addr} {n c B : Nat} {bs : List Int} {i : Nat} (h : Rz w rb bp n c B bs i) (hs : w.heap.size ≤ w'.heap.size) (hb : ∀ k, k < B → w'.heap[k]? = w.heap[k]?) (hr : w'.heap[rb]? = w.heap[rb]?) : Rz w' rb bp n c B bs i := by
  refine ⟨by rw [World.cell?_of_block (w := w) hr]; exact h.c0, by rw [World.cell?_of_block (w := w) hr]; exact h.c1, by rw [World.frozen?_of_block (w := w) hr]; exact h.f1, Nat.lt_of_lt_of_le h.lt hs, h.le, h.small, ⟨h.by_.len, h.by_.rng, fun hn => ?_⟩, h.ahead, h.past⟩
  obtain ⟨b, o, e, hlt, hc⟩ := h.by_.cells hn
  have := h.ahead _ hn e
  exact ⟨b, o, e, Nat.lt_of_lt_of_le hlt hs, fun i hi => by rw [World.cell?_of_block (w := w) (a := ⟨b, o + i, none⟩) (hb b this)]; exact hc i hi⟩
theorem Rz.below {w w' : World} {rb : Nat} {bp : Option Addr} {n c B : Nat} {bs : List Int} {i : Nat} (h : Rz w rb bp n c B bs i) (hb : Below w.heap.size w w') : Rz w' rb bp n c B bs i :=
  h.keep hb.size (fun k hk => hb.block k (by have := h.past; have := h.lt; omega)) (hb.block rb h.lt)
theorem Rz.step {w : World} {rb : Nat} {bp : Option Addr} {n c B : Nat} {bs : List Int} {i : Nat} (h : Rz w rb bp n c B bs i) (hi : i < n) : Rz (w.setCell ⟨rb, 1, none⟩ (.int .i64 ((i : Int) + 1))).drew.drew rb bp n c B bs (i + 1) := by
  have hk : ∀ k, k ≠ rb → (w.setCell ⟨rb, 1, none⟩ (.int .i64 ((i : Int) + 1))).heap[k]? = w.heap[k]? := fun k hk => Below.heap_setCell w _ _ k hk
  have hsz : (w.setCell ⟨rb, 1, none⟩ (.int .i64 ((i : Int) + 1))).heap.size = w.heap.size := by simp
  refine ⟨?_, ?_, ?_, ?_, by omega, h.small, ⟨h.by_.len, h.by_.rng, fun hn => ?_⟩, h.ahead, h.past⟩
  · show (w.setCell ⟨rb, 1, none⟩ (.int .i64 ((i : Int) + 1))).cell? ⟨rb, 0, none⟩ = _
    rw [World.cell?_setCell_other]
    · exact h.c0
    · simp
  · show (w.setCell ⟨rb, 1, none⟩ (.int .i64 ((i : Int) + 1))).cell? ⟨rb, 1, none⟩ = _
    rw [World.cell?_setCell_same' w _ _ (by rw [h.c1]; rfl)]; simp
  · show (w.setCell ⟨rb, 1, none⟩ (.int .i64 ((i : Int) + 1))).frozen? ⟨rb, 1, none⟩ = _
    rw [World.frozen?_setCell]; exact h.f1
  · show rb < (w.setCell ⟨rb, 1, none⟩ (.int .i64 ((i : Int) + 1))).heap.size
    rw [hsz]; exact h.lt
  · obtain ⟨b, o, e, hlt, hc⟩ := h.by_.cells hn
    have h1 := h.ahead _ hn e
    have h2 := h.past
    refine ⟨b, o, e, ?_, fun j hj => ?_⟩
    · show b < (w.setCell ⟨rb, 1, none⟩ (.int .i64 ((i : Int) + 1))).heap.size
      rw [hsz]; exact hlt
    · show (w.setCell ⟨rb, 1, none⟩ (.int .i64 ((i : Int) + 1))).cell? ⟨b, o + j, none⟩ = _
      rw [World.cell?_of_block (w := w) (a := ⟨b, o + j, none⟩) (hk b (by simp only at h1; omega))]; exact hc j hj
theorem set_kp (w : World) (rb : Nat) (v : Value) : KpZ rb rb w (w.setCell ⟨rb, 1, none⟩ v).drew.drew :=
  ⟨rfl, rfl, rfl, by show w.heap.size ≤ (w.setCell ⟨rb, 1, none⟩ v).heap.size; simp, fun k _ h1 _ => Below.heap_setCell w _ _ k h1⟩
/-- What next leaves. -/
def NxP (rb : Nat) (bp : Option Addr) (n c B : Nat) (bs : List Int) (i : Nat) (w w' : World) (e : Ending) : Prop := e = .returned (.int .i64 (nxV bs i)) ∧ Rz w' rb bp n c B bs (nxI bs i) ∧ KpZ rb rb w w' ∧ w'.heap.size = w.heap.size
set_option maxRecDepth 20000 in
set_option maxHeartbeats 2000000 in
theorem next_c (rb : Nat) (bp : Option Addr) (n c B : Nat) (bs : List Int) (i : Nat) (w : World) (h : Rz w rb bp n c B bs i) :
    Calls Tryd.prog 14 #[.pointer (some ⟨rb, 0, none⟩)] w fun e w' => NxP rb bp n c B bs i w w' e := by
  have HR : Hid (Rz w rb bp n c B bs i) := h
  have c0 := h.c0
  have c1 := h.c1
  have f1 := h.f1
  have hle := h.le
  have hsm := h.small
  have hlen : Hid (bs.length = n) := h.by_.len
  by_cases hlt : i < n
  · obtain ⟨b, o, rfl, hbl, g⟩ := h.by_.cells (by omega)
    have q := g i hlt
    have rg := h.by_.rng i
    have hbne : b ≠ rb := by have := h.ahead _ (by omega) rfl; have := h.past; simp only at *; omega
    have HV : Hid (nxV bs i = bs.getD i 0 ∧ nxI bs i = i + 1) := by unfold Hid nxV nxI; rw [hlen.out, if_pos hlt, if_pos hlt]; exact ⟨rfl, rfl⟩
    obtain ⟨x, hx⟩ : ∃ x, bs.getD i 0 = x := ⟨_, rfl⟩
    rw [hx] at q rg
    have HX : Hid (bs.getD i 0 = x) := hx
    have hd : decide ((n : Int) ≤ (i : Int)) = false := decide_eq_false (by omega)
    have hf : (i : Int) < (n : Int) := by omega
    obtain ⟨rg0, rg1⟩ := rg
    clear h g hx
    go_enter Tryd.func14, Tryd.ntmps14
    go_wp2
    go_region
    all_goals go_wp2
    go_region
    all_goals go_wp2
    go_ret
    exact ⟨ret_int (by rw [HV.out.1, HX.out]), by rw [HV.out.2]; exact HR.out.step hlt, set_kp _ _ _, by simp⟩
  · have hd : decide ((n : Int) ≤ (i : Int)) = true := decide_eq_true (by omega)
    have HV : Hid (nxV bs i = 0 ∧ nxI bs i = i) := by unfold Hid nxV nxI; rw [hlen.out, if_neg hlt, if_neg hlt]; exact ⟨rfl, rfl⟩
    clear h
    go_enter Tryd.func14, Tryd.ntmps14
    go_wp2
    go_region
    all_goals go_wp2
    all_goals go_ret
    all_goals exact ⟨ret_int HV.out.1.symm, by rw [HV.out.2]; exact HR.out.below (below_drew (Below.refl _ _)), KpZ.of_below (below_drew (Below.refl _ _)), rfl⟩
/-- What l7open leaves. -/
def OpP (p : Option Addr) (n : Nat) (bs : List Int) (w w' : World) (e : Ending) : Prop := ∃ c, e = .returned (.pointer (some ⟨w.heap.size, 0, none⟩)) ∧ Rz w' w.heap.size p (min n 500) c w.heap.size (bs.take 500) 0 ∧ Below w.heap.size w w'
theorem take_getD (bs : List Int) (m i : Nat) : (bs.take m).getD i 0 = if i < m then bs.getD i 0 else 0 := by
  by_cases h : i < m
  · rw [if_pos h]; simp [List.getD, h]
  · rw [if_neg h]
    have e : (bs.take m)[i]? = none := by rw [List.getElem?_take, if_neg h]
    unfold List.getD; rw [e]; rfl
theorem two_cells {w : World} {k : Nat} {a b : Value} {t : TypeId} (h : w.heap[k]? = some (.cells #[a, b] t)) : w.cell? ⟨k, 0, none⟩ = some a ∧ w.cell? ⟨k, 1, none⟩ = some b ∧ w.frozen? ⟨k, 0, none⟩ = false ∧ w.frozen? ⟨k, 1, none⟩ = false := by
  refine ⟨?_, ?_, ?_, ?_⟩ <;> simp [World.cell?, World.frozen?, h]
theorem open_rz {w : World} {p : Option Addr} {n c : Nat} {bs : List Int} {t : TypeId} (h : Bz w p n bs) : Rz (w.alloc (.cells #[.slice p (min n 500) c, .int .i64 0] t)) w.heap.size p (min n 500) c w.heap.size (bs.take 500) 0 := by
  have hb : (w.alloc (.cells #[.slice p (min n 500) c, .int .i64 0] t)).heap[w.heap.size]? = some (.cells #[.slice p (min n 500) c, .int .i64 0] t) := Go.Deep.blk_alloc_new _ _
  have hc := two_cells hb
  refine ⟨hc.1, hc.2.1, hc.2.2.2, by simp, Nat.zero_le _, by omega, ⟨by rw [List.length_take, h.len]; omega, fun i => ?_, fun hn => ?_⟩, fun a hn e => ?_, Nat.le_refl _⟩
  · rw [take_getD]; split
    · exact h.rng i
    · omega
  · obtain ⟨b, o, e, hlt, hc⟩ := h.cells (by omega)
    refine ⟨b, o, e, by simp; omega, fun i hi => ?_⟩
    rw [(below1 w _).cell (p := ⟨b, o + i, none⟩) hlt, hc i (by omega), take_getD, if_pos (by omega)]
  · obtain ⟨b, o, e', hlt, _⟩ := h.cells (by omega)
    rw [e'] at e; cases e; exact hlt
set_option maxHeartbeats 1000000 in
theorem open_c (p : Option Addr) (n c : Nat) (bs : List Int) (w : World) (h : Bz w p n bs) (hnc : n ≤ c) (hc : c ≤ 9223372036854775807) :
    Calls Tryd.prog 13 #[.slice p n c] w fun e w' => OpP p n bs w w' e := by
  have HB : Hid (Bz w p n bs) := h
  by_cases hn : 500 < n
  · have hd : decide ((500 : Int) < (n : Int)) = true := decide_eq_true (by omega)
    have HM : Hid (min n 500 = 500) := by unfold Hid; omega
    obtain ⟨b, o, rfl, _, _⟩ := h.cells (by omega)
    clear h
    go_enter Tryd.func13, Tryd.ntmps13
    go_wp2
    go_ret
    have := open_rz (c := c) (t := 65) HB.out
    unfold OpP
    rw [HM.out] at this ⊢
    exact ⟨c, rfl, this, below1 _ _⟩
  · have hd : decide ((500 : Int) < (n : Int)) = false := decide_eq_false (by omega)
    have HM : Hid (min n 500 = n) := by unfold Hid; omega
    clear h
    go_enter Tryd.func13, Tryd.ntmps13
    go_wp2
    go_ret
    have := open_rz (c := c) (t := 65) HB.out
    unfold OpP
    rw [HM.out] at this ⊢
    exact ⟨c, rfl, this, below1 _ _⟩
end Go.Proofs.YtmmkpmgidoelpaaDoor.Hp
