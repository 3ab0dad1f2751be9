import Derived.Test.YtleeldjncobheaaDoorX4
import Derived.Lib.SlBytesConst
namespace Go.Proofs.YtleeldjncobheaaDoor
open Go.RowKit Ch1
/-! ### all bytes are bytes -/
def Rg (xs : List Int) : Prop := ∀ x ∈ xs, 0 ≤ x ∧ x < 256
theorem rng_of {xs : List Int} (h : Rg xs) (i : Nat) : 0 ≤ xs.getD i 0 ∧ xs.getD i 0 < 256 := by
  by_cases hi : i < xs.length
  · exact h _ (by simp [List.getD, List.getElem?_eq_getElem hi])
  · simp [List.getD, List.getElem?_eq_none (Nat.le_of_not_lt hi)]
theorem rg_of {xs : List Int} (h : ∀ i, 0 ≤ xs.getD i 0 ∧ xs.getD i 0 < 256) : Rg xs := by
  intro x hx
  obtain ⟨i, hi, e⟩ := List.getElem_of_mem hx
  have := h i
  simpa [List.getD, List.getElem?_eq_getElem hi, e] using this
theorem Rg.app {xs ys : List Int} (h : Rg xs) (k : Rg ys) : Rg (xs ++ ys) := by
  intro x hx
  rcases List.mem_append.1 hx with hx | hx
  · exact h x hx
  · exact k x hx
def RgD (l : List Dt) : Prop := ∀ d ∈ l, Rg d.text
theorem RgD.drop {l : List Dt} (h : RgD l) (i : Nat) : RgD (l.drop i) := fun d hd => h d (List.mem_of_mem_drop hd)
theorem rg_nums (l : List UInt8) : Rg (nums l) := rg_of (nums_rng l)
theorem rg_bool (n : Int) : Rg (boolT n) := by unfold boolT; split <;> (intro x hx; simp at hx; omega)
theorem elems_rg {f : List Dt → Option (List Dt)} {g : List Dt → List Int} (hf : Eats f) (hg : ∀ l, RgD l → Rg (g l)) (r : List Dt) (hr : RgD r) : ∀ c, Rg (elems f g c r) := by
  intro c
  induction c with
  | zero => intro x hx; cases hx
  | succ c ih =>
    refine Rg.app ih (Rg.app ?_ (hg _ ?_))
    · split
      · intro x hx; cases hx
      · intro x hx; simp at hx; omega
    · cases e : skipN f c r with
      | none => intro d hd; cases hd
      | some q =>
        obtain ⟨j, _, _, rfl⟩ := skipN_eats hf _ _ _ e
        exact hr.drop j
theorem txt_rg : ∀ (k : Nat) (l : List Dt), RgD l → Rg (txt k l) := by
  intro k
  induction k with
  | zero =>
    intro l h
    cases l with
    | nil => intro x hx; cases hx
    | cons d r =>
      simp only [txt]
      split
      · exact rg_nums _
      · split
        · exact rg_bool _
        · exact h d (by simp)
  | succ k ih =>
    intro l h
    cases l with
    | nil => intro x hx; cases hx
    | cons d r =>
      simp only [txt]
      split
      · exact rg_nums _
      · split
        · exact rg_bool _
        · split
          · exact h d (by simp)
          · have := elems_rg (skip_eats k) ih r (fun e he => h e (by simp [he])) d.count.toNat
            refine Rg.app (xs := [40]) ?_ (Rg.app this ?_)
            · intro x hx; simp at hx; omega
            · intro x hx; simp at hx; omega
theorem Da.rg {w : World} {p : Option Addr} {n c : Nat} {ds : List Dt} (h : Da w p n c ds) : RgD ds := by
  intro d hd
  obtain ⟨i, hi, rfl⟩ := List.getElem_of_mem hd
  obtain ⟨b, o, _, _, g⟩ := h.cells (by rw [← h.len]; omega)
  obtain ⟨tp, tn, tc, he⟩ := g i (by rw [← h.len]; exact hi)
  have := rg_of he.by_.rng
  simpa [List.getD, List.getElem?_eq_getElem hi] using this
/-! ### the places of a list's elements, readable -/
def Kd (w : World) (kv : Value) (ks : List Nat) : Prop := ∃ p c, kv = .slice p ks.length c ∧ (0 < ks.length → ∃ g cur, p = some ⟨g, 0, none⟩ ∧ w.heap[g]? = some (.cells cur 3) ∧ ks.length ≤ c ∧ ∀ j, j < ks.length → cur[j]? = some (.int .i64 ((ks.getD j 0 : Nat) : Int)))
theorem OwI.kd {w : World} {B : Nat} {v : Value} {ks : List Nat} (h : OwI w B v ks) : Kd w v ks := by
  obtain ⟨_, ⟨rfl, h0⟩ | ⟨g, cap, cur, rfl, hg, hh, h1, h2, h3, h4⟩⟩ := h
  · exact ⟨none, 0, by rw [h0], fun h => by omega⟩
  · refine ⟨some ⟨g, 0, none⟩, cap, rfl, fun _ => ⟨g, cur, rfl, hh, h1, fun i hi => ?_⟩⟩
    have e : (List.take (ks.length * 1) cur.toList)[i]? = (ks.map fun k : Nat => Value.int .i64 (k : Int))[i]? := by rw [h4]
    rw [List.getElem?_take, if_pos (by omega)] at e
    have : cur.toList[i]? = some (.int .i64 ((ks.getD i 0 : Nat) : Int)) := by rw [e]; simp [List.getD, List.getElem?_eq_getElem hi]
    simpa using this
theorem Kd.below {w w' : World} {kv : Value} {ks : List Nat} (h : Kd w kv ks) (hb : Below w.heap.size w w') : Kd w' kv ks := by
  obtain ⟨p, c, e, hc⟩ := h
  refine ⟨p, c, e, fun hn => ?_⟩
  obtain ⟨g, cur, e1, hh, r⟩ := hc hn
  exact ⟨g, cur, e1, by rw [hb.block g (Array.getElem?_eq_some_iff.1 hh).1]; exact hh, r⟩
theorem Kd.grown {w w' : World} {B : Nat} {v kv : Value} {xs : List Int} {ks : List Nat} (h : Kd w kv ks) (ho : Ow w B v xs) (hg : w.grownBy w' v.ownBlock) : Kd w' kv ks := by
  obtain ⟨p, c, e, hc⟩ := h
  refine ⟨p, c, e, fun hn => ?_⟩
  obtain ⟨g, cur, e1, hh, r⟩ := hc hn
  refine ⟨g, cur, e1, ?_, r⟩
  rw [hg.block g (Array.getElem?_eq_some_iff.1 hh).1 ?_]; exact hh
  obtain ⟨_, ⟨rfl, _⟩ | ⟨g', cap, cur', rfl, _, hh', _⟩⟩ := ho
  · intro e; cases e
  · intro e; cases e
    rw [hh] at hh'; cases hh'
theorem Kd.cell {w : World} {kv : Value} {ks : List Nat} (h : Kd w kv ks) (hn : 0 < ks.length) : ∃ g c, kv = .slice (some ⟨g, 0, none⟩) ks.length c ∧ ks.length ≤ c ∧ ∀ j, j < ks.length → w.cell? ⟨g, j, none⟩ = some (.int .i64 ((ks.getD j 0 : Nat) : Int)) := by
  obtain ⟨p, c, e, hc⟩ := h
  obtain ⟨g, cur, rfl, hh, hl, r⟩ := hc hn
  exact ⟨g, c, e, hl, fun j hj => by simp [World.cell?, hh, r j hj]⟩
theorem By.lit2 (w : World) (x y : Int) (hx : 0 ≤ x ∧ x < 256) (hy : 0 ≤ y ∧ y < 256) : By (w.alloc (.cells #[.int .u8 x, .int .u8 y] 5 (2, 3))) (some ⟨w.heap.size, 0, none⟩) 2 2 [x, y] := by
  refine ⟨rfl, Nat.le_refl _, by unfold maxLen; omega, rng_of ?_, fun _ => ⟨w.heap.size, 0, rfl, fun i hi => ?_⟩, fun a ha _ => by cases ha; simp⟩
  · intro z hz; simp at hz; rcases hz with rfl | rfl
    · exact hx
    · exact hy
  · rw [World.cell?_alloc_mark]
    match i, hi with
    | 0, _ => rfl
    | 1, _ => rfl
theorem Txt.up {w W w' : World} {e : Ending} {xs : List Int} (h : Txt W w' e xs) (hb : Below w.heap.size w W) : Txt w w' e xs := by
  obtain ⟨b, o, c, h1, h2, h3⟩ := h
  exact ⟨b, o, c, h1, h2, hb.trans (h3.mono hb.size)⟩
set_option maxHeartbeats 1000000 in
theorem text16_int (k : Nat) (p : Option Addr) (n c i : Nat) (ds r : List Dt) (w : World) (hD : Da w p n c ds) (hi : i < n) (hl : ds.drop i = ds.getD i dt0 :: r) (hg : goodB (ds.getD i dt0) = true) (hk : (ds.getD i dt0).kind = 0) :
    Calls Tryd.prog 27 #[.slice p n c, .int .i64 i] w fun e w' => Txt w w' e (txt k (ds.drop i)) := by
  have HT : Hid (txt k (ds.drop i) = itoaZ (ds.getD i dt0).n) := by unfold Hid; rw [hl]; exact txt_int k _ _ hk
  have hs := good_small hg hk
  obtain ⟨b, o, tp, tn, tc, rfl, hbl, he⟩ := hD.at hi
  generalize ds.getD i dt0 = d at HT he hk hs
  have e0 := he.c0
  have e1 := he.c1
  have e2 := he.c2
  have e3 := he.c3
  rw [hk] at e0
  clear hD he hl hg hk
  go_enter Tryd.func27, Tryd.ntmps27
  go_wp2_with (go_at_call 45; refine (dec24 d.n (by omega) (by omega) _).mono ?_; rintro e w1 ⟨b1, o1, c1, rfl, hy, hb⟩)
  go_ret
  rw [HT.out]
  exact ⟨b1, o1, c1, rfl, hy, (below1 w _).trans (hb.mono (below1 w _).size)⟩
set_option maxHeartbeats 1000000 in
theorem text16_sym (k : Nat) (p : Option Addr) (n c i : Nat) (ds r : List Dt) (w : World) (hD : Da w p n c ds) (hi : i < n) (hl : ds.drop i = ds.getD i dt0 :: r) (hg : goodB (ds.getD i dt0) = true) (hk : (ds.getD i dt0).kind = 2) :
    Calls Tryd.prog 27 #[.slice p n c, .int .i64 i] w fun e w' => Txt w w' e (txt k (ds.drop i)) := by
  have HT : Hid (txt k (ds.drop i) = (ds.getD i dt0).text) := by unfold Hid; rw [hl]; exact txt_sym k _ _ hk
  have hs := good_text hg hk
  obtain ⟨b, o, tp, tn, tc, rfl, hbl, he⟩ := hD.at hi
  generalize ds.getD i dt0 = d at HT he hk hs
  have e0 := he.c0
  have e1 := he.c1
  have e2 := he.c2
  have e3 := he.c3
  have hln := he.by_.len
  obtain ⟨tb, to, rfl, _⟩ := he.by_.cells (by omega)
  have HY : Hid (By w (some ⟨tb, to, none⟩) tn tc d.text) := he.by_
  have ht1 : 0 < tn := by omega
  have ht2 : tn ≤ 1048576 := by omega
  rw [hk] at e0
  clear hD he hl hg hk hs hln
  go_enter Tryd.func27, Tryd.ntmps27
  go_wp2_with (go_at_call 36; refine (copy25 tb to tn tc d.text _ (by exact HY.out.below (below1 w _)) ht1 ht2).mono ?_; rintro e w1 ⟨b1, o1, c1, rfl, hy, hb⟩)
  go_ret
  rw [HT.out]
  exact ⟨b1, o1, c1, rfl, hy, (below1 w _).trans (hb.mono (below1 w _).size)⟩
set_option maxRecDepth 100000 in
set_option maxHeartbeats 1000000 in
theorem text16_bool (k : Nat) (p : Option Addr) (n c i : Nat) (ds r : List Dt) (w : World) (hD : Da w p n c ds) (hi : i < n) (hl : ds.drop i = ds.getD i dt0 :: r) (hk : (ds.getD i dt0).kind = 1) :
    Calls Tryd.prog 27 #[.slice p n c, .int .i64 i] w fun e w' => Txt w w' e (txt k (ds.drop i)) := by
  have HT : Hid (txt k (ds.drop i) = boolT (ds.getD i dt0).n) := by unfold Hid; rw [hl]; exact txt_bool k _ _ hk
  obtain ⟨b, o, tp, tn, tc, rfl, hbl, he⟩ := hD.at hi
  generalize ds.getD i dt0 = d at HT he hk
  have e0 := he.c0
  have e1 := he.c1
  have e2 := he.c2
  have e3 := he.c3
  rw [hk] at e0
  clear hD he hl hk
  have kc := fun (w : World) (C : Array Value) (n c : Nat) => Lib.run_convert_bytes_const (P := Tryd.prog) w 24 5 C n c Tryd.underlying24 Tryd.underlying5
  have kc2 := fun (C : Array Value) (n c : Nat) => Lib.run_convert_bytes_const (P := Tryd.prog) (w.alloc (Obj.cells #[Value.int IntKind.i64 1, Value.int IntKind.i64 d.n, Value.slice tp tn tc, Value.int IntKind.i64 d.count] 53)) 24 5 C n c Tryd.underlying24 Tryd.underlying5
  simp only [World.size_alloc] at kc2
  by_cases h1 : d.n = 1
  · have HB : Hid (boolT d.n = [35, 116]) := if_pos h1
    rw [h1] at e1 kc2
    go_enter Tryd.func27, Tryd.ntmps27
    go_wp2
    go_ret
    rw [HT.out, HB.out]
    exact ⟨w.heap.size + 1, 0, 2, rfl, by simpa using By.lit2 (w.alloc _) 35 116 (by omega) (by omega), below2 w _ _⟩
  · have HB : Hid (boolT d.n = [35, 102]) := if_neg h1
    have h1' : (d.n == 1) = false := beq_eq_false_iff_ne.2 h1
    clear h1
    go_enter Tryd.func27, Tryd.ntmps27
    go_wp2
    go_ret
    rw [HT.out, HB.out]
    exact ⟨w.heap.size + 1, 0, 2, rfl, by simpa using By.lit2 (w.alloc _) 35 102 (by omega) (by omega), below2 w _ _⟩
end Go.Proofs.YtleeldjncobheaaDoor
