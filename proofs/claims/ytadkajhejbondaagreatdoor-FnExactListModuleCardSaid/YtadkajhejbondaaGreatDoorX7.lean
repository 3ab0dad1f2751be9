import Derived.Test.YtadkajhejbondaaGreatDoorX4
import Derived.Lib.SlBytesConst
namespace Go.Proofs.YtadkajhejbondaaGreatDoor
open Go.RowKit Ch1
/-! ### all bytes are bytes -/
def Rg (xs : List Int) : Prop := ∀ x ∈ xs, 0 ≤ x ∧ x < 256
theorem rng_of {xs : List Int} (h : Rg xs) (i : Nat) : 0 ≤ xs.getD i 0 ∧ xs.getD i 0 < 256 := by
  by_cases hi : i < xs.length
  · exact h _ (by simp [List.getD, List.getElem?_eq_getElem hi])
  · simp [List.getD, List.getElem?_eq_none (Nat.le_of_not_lt hi)]
theorem rg_of {xs : List Int} (h : ∀ i, 0 ≤ xs.getD i 0 ∧ xs.getD i 0 < 256) : Rg xs := by
  intro x hx
  obtain ⟨i, hi, e⟩ := List.getElem_of_mem hx
  have := h i
  simpa [List.getD, List.getElem?_eq_getElem hi, e] using this
theorem Rg.app {xs ys : List Int} (h : Rg xs) (k : Rg ys) : Rg (xs ++ ys) := by
  intro x hx
  rcases List.mem_append.1 hx with hx | hx
  · exact h x hx
  · exact k x hx
def RgD (l : List Dt) : Prop := ∀ d ∈ l, Rg d.text
theorem RgD.drop {l : List Dt} (h : RgD l) (i : Nat) : RgD (l.drop i) := fun d hd => h d (List.mem_of_mem_drop hd)
theorem rg_nums (l : List UInt8) : Rg (nums l) := rg_of (nums_rng l)
theorem rg_bool (n : Int) : Rg (boolT n) := by unfold boolT; split <;> (intro x hx; simp at hx; omega)
theorem elems_rg {f : List Dt → Option (List Dt)} {g : List Dt → List Int} (hf : Eats f) (hg : ∀ l, RgD l → Rg (g l)) (r : List Dt) (hr : RgD r) : ∀ c, Rg (elems f g c r) := by
  intro c
  induction c with
  | zero => intro x hx; cases hx
  | succ c ih =>
    refine Rg.app ih (Rg.app ?_ (hg _ ?_))
    · split
      · intro x hx; cases hx
      · intro x hx; simp at hx; omega
    · cases e : skipN f c r with
      | none => intro d hd; cases hd
      | some q =>
        obtain ⟨j, _, _, rfl⟩ := skipN_eats hf _ _ _ e
        exact hr.drop j
theorem txt_rg : ∀ (k : Nat) (l : List Dt), RgD l → Rg (txt k l) := by
  intro k
  induction k with
  | zero =>
    intro l h
    cases l with
    | nil => intro x hx; cases hx
    | cons d r =>
      simp only [txt]
      split
      · exact rg_nums _
      · split
        · exact rg_bool _
        · exact h d (by simp)
  | succ k ih =>
    intro l h
    cases l with
    | nil => intro x hx; cases hx
    | cons d r =>
      simp only [txt]
      split
      · exact rg_nums _
      · split
        · exact rg_bool _
        · split
          · exact h d (by simp)
          · have := elems_rg (skip_eats k) ih r (fun e he => h e (by simp [he])) d.count.toNat
            refine Rg.app (xs := [40]) ?_ (Rg.app this ?_)
            · intro x hx; simp at hx; omega
            · intro x hx; simp at hx; omega
theorem Da.rg {w : World} {p : Option Addr} {n c : Nat} {ds : List Dt} (h : Da w p n c ds) : RgD ds := by
  intro d hd
  obtain ⟨i, hi, rfl⟩ := List.getElem_of_mem hd
  obtain ⟨b, o, _, _, g⟩ := h.cells (by rw [← h.len]; omega)
  obtain ⟨tp, tn, tc, he⟩ := g i (by rw [← h.len]; exact hi)
  have := rg_of he.by_.rng
  simpa [List.getD, List.getElem?_eq_getElem hi] using this
/-! ### the places of a list's elements, readable -/
def Kd (w : World) (kv : Value) (ks : List Nat) : Prop := ∃ p c, kv = .slice p ks.length c ∧ (0 < ks.length → ∃ g cur, p = some ⟨g, 0, none⟩ ∧ w.heap[g]? = some (.cells cur 3) ∧ ks.length ≤ c ∧ ∀ j, j < ks.length → cur[j]? = some (.int .i64 ((ks.getD j 0 : Nat) : Int)))
theorem OwI.kd {w : World} {B : Nat} {v : Value} {ks : List Nat} (h : OwI w B v ks) : Kd w v ks := by
  obtain ⟨_, ⟨rfl, h0⟩ | ⟨g, cap, cur, rfl, hg, hh, h1, h2, h3, h4⟩⟩ := h
  · exact ⟨none, 0, by rw [h0], fun h => by omega⟩
  · refine ⟨some ⟨g, 0, none⟩, cap, rfl, fun _ => ⟨g, cur, rfl, hh, h1, fun i hi => ?_⟩⟩
    have e : (List.take (ks.length * 1) cur.toList)[i]? = (ks.map fun k : Nat => Value.int .i64 (k : Int))[i]? := by rw [h4]
    rw [List.getElem?_take, if_pos (by omega)] at e
    have : cur.toList[i]? = some (.int .i64 ((ks.getD i 0 : Nat) : Int)) := by rw [e]; simp [List.getD, List.getElem?_eq_getElem hi]
    simpa using this
theorem Kd.below {w w' : World} {kv : Value} {ks : List Nat} (h : Kd w kv ks) (hb : Below w.heap.size w w') : Kd w' kv ks := by
  obtain ⟨p, c, e, hc⟩ := h
  refine ⟨p, c, e, fun hn => ?_⟩
  obtain ⟨g, cur, e1, hh, r⟩ := hc hn
  exact ⟨g, cur, e1, by rw [hb.block g (Array.getElem?_eq_some_iff.1 hh).1]; exact hh, r⟩
theorem Kd.grown {w w' : World} {B : Nat} {v kv : Value} {xs : List Int} {ks : List Nat} (h : Kd w kv ks) (ho : Ow w B v xs) (hg : w.grownBy w' v.ownBlock) : Kd w' kv ks := by
  obtain ⟨p, c, e, hc⟩ := h
  refine ⟨p, c, e, fun hn => ?_⟩
  obtain ⟨g, cur, e1, hh, r⟩ := hc hn
  refine ⟨g, cur, e1, ?_, r⟩
  rw [hg.block g (Array.getElem?_eq_some_iff.1 hh).1 ?_]; exact hh
  obtain ⟨_, ⟨rfl, _⟩ | ⟨g', cap, cur', rfl, _, hh', _⟩⟩ := ho
  · intro e; cases e
  · intro e; cases e
    rw [hh] at hh'; cases hh'
theorem Kd.cell {w : World} {kv : Value} {ks : List Nat} (h : Kd w kv ks) (hn : 0 < ks.length) : ∃ g c, kv = .slice (some ⟨g, 0, none⟩) ks.length c ∧ ks.length ≤ c ∧ ∀ j, j < ks.length → w.cell? ⟨g, j, none⟩ = some (.int .i64 ((ks.getD j 0 : Nat) : Int)) := by
  obtain ⟨p, c, e, hc⟩ := h
  obtain ⟨g, cur, rfl, hh, hl, r⟩ := hc hn
  exact ⟨g, c, e, hl, fun j hj => by simp [World.cell?, hh, r j hj]⟩
theorem By.lit2 (w : World) (x y : Int) (hx : 0 ≤ x ∧ x < 256) (hy : 0 ≤ y ∧ y < 256) : By (w.alloc (.cells #[.int .u8 x, .int .u8 y] 5 (2, 3))) (some ⟨w.heap.size, 0, none⟩) 2 2 [x, y] := by
  refine ⟨rfl, Nat.le_refl _, by unfold maxLen; omega, rng_of ?_, fun _ => ⟨w.heap.size, 0, rfl, fun i hi => ?_⟩, fun a ha _ => by cases ha; simp⟩
  · intro z hz; simp at hz; rcases hz with rfl | rfl
    · exact hx
    · exact hy
  · rw [World.cell?_alloc_mark]
    match i, hi with
    | 0, _ => rfl
    | 1, _ => rfl
theorem Txt.up {w W w' : World} {e : Ending} {xs : List Int} (h : Txt W w' e xs) (hb : Below w.heap.size w W) : Txt w w' e xs := by
  obtain ⟨b, o, c, h1, h2, h3⟩ := h
  exact ⟨b, o, c, h1, h2, hb.trans (h3.mono hb.size)⟩
set_option maxHeartbeats 1000000 in
theorem text16_int (k : Nat) (p : Option Addr) (n c i : Nat) (ds r : List Dt) (w : World) (hD : Da w p n c ds) (hi : i < n) (hl : ds.drop i = ds.getD i dt0 :: r) (hg : goodB (ds.getD i dt0) = true) (hk : (ds.getD i dt0).kind = 0) :
    Calls Tryz.prog 17 #[.slice p n c, .int .i64 i] w fun e w' => Txt w w' e (txt k (ds.drop i)) := by
  have HT : Hid (txt k (ds.drop i) = itoaZ (ds.getD i dt0).n) := by unfold Hid; rw [hl]; exact txt_int k _ _ hk
  have hs := good_small hg hk
  obtain ⟨b, o, tp, tn, tc, rfl, hbl, he⟩ := hD.at hi
  generalize ds.getD i dt0 = d at HT he hk hs
  have e0 := he.c0
  have e1 := he.c1
  have e2 := he.c2
  have e3 := he.c3
  rw [hk] at e0
  clear hD he hl hg hk
  go_enter Tryz.func17, Tryz.ntmps17
  go_wp2_with (go_at_call 16; refine (dec24 d.n (by omega) (by omega) _).mono ?_; rintro e w1 ⟨b1, o1, c1, rfl, hy, hb⟩)
  go_ret
  rw [HT.out]
  exact ⟨b1, o1, c1, rfl, hy, (below1 w _).trans (hb.mono (below1 w _).size)⟩
set_option maxHeartbeats 1000000 in
theorem text16_sym (k : Nat) (p : Option Addr) (n c i : Nat) (ds r : List Dt) (w : World) (hD : Da w p n c ds) (hi : i < n) (hl : ds.drop i = ds.getD i dt0 :: r) (hg : goodB (ds.getD i dt0) = true) (hk : (ds.getD i dt0).kind = 2) :
    Calls Tryz.prog 17 #[.slice p n c, .int .i64 i] w fun e w' => Txt w w' e (txt k (ds.drop i)) := by
  have HT : Hid (txt k (ds.drop i) = (ds.getD i dt0).text) := by unfold Hid; rw [hl]; exact txt_sym k _ _ hk
  have hs := good_text hg hk
  obtain ⟨b, o, tp, tn, tc, rfl, hbl, he⟩ := hD.at hi
  generalize ds.getD i dt0 = d at HT he hk hs
  have e0 := he.c0
  have e1 := he.c1
  have e2 := he.c2
  have e3 := he.c3
  have hln := he.by_.len
  obtain ⟨tb, to, rfl, _⟩ := he.by_.cells (by omega)
  have HY : Hid (By w (some ⟨tb, to, none⟩) tn tc d.text) := he.by_
  have ht1 : 0 < tn := by omega
  have ht2 : tn ≤ 1048576 := by omega
  rw [hk] at e0
  clear hD he hl hg hk hs hln
  go_enter Tryz.func17, Tryz.ntmps17
  go_wp2_with (go_at_call 38; refine (copy25 tb to tn tc d.text _ (by exact HY.out.below (below1 w _)) ht1 ht2).mono ?_; rintro e w1 ⟨b1, o1, c1, rfl, hy, hb⟩)
  go_ret
  rw [HT.out]
  exact ⟨b1, o1, c1, rfl, hy, (below1 w _).trans (hb.mono (below1 w _).size)⟩
set_option maxRecDepth 100000 in
set_option maxHeartbeats 1000000 in
theorem text16_bool (k : Nat) (p : Option Addr) (n c i : Nat) (ds r : List Dt) (w : World) (hD : Da w p n c ds) (hi : i < n) (hl : ds.drop i = ds.getD i dt0 :: r) (hk : (ds.getD i dt0).kind = 1) :
    Calls Tryz.prog 17 #[.slice p n c, .int .i64 i] w fun e w' => Txt w w' e (txt k (ds.drop i)) := by
  have HT : Hid (txt k (ds.drop i) = boolT (ds.getD i dt0).n) := by unfold Hid; rw [hl]; exact txt_bool k _ _ hk
  obtain ⟨b, o, tp, tn, tc, rfl, hbl, he⟩ := hD.at hi
  generalize ds.getD i dt0 = d at HT he hk
  have e0 := he.c0
  have e1 := he.c1
  have e2 := he.c2
  have e3 := he.c3
  rw [hk] at e0
  clear hD he hl hk
  have kc := fun (w : World) (C : Array Value) (n c : Nat) => Lib.run_convert_bytes_const (P := Tryz.prog) w 27 5 C n c Tryz.underlying27 Tryz.underlying5
  have kc2 := fun (C : Array Value) (n c : Nat) => Lib.run_convert_bytes_const (P := Tryz.prog) (w.alloc (Obj.cells #[Value.int IntKind.i64 1, Value.int IntKind.i64 d.n, Value.slice tp tn tc, Value.int IntKind.i64 d.count] 81)) 27 5 C n c Tryz.underlying27 Tryz.underlying5
  simp only [World.size_alloc] at kc2
  by_cases h1 : d.n = 1
  · have HB : Hid (boolT d.n = [35, 116]) := if_pos h1
    rw [h1] at e1 kc2
    go_enter Tryz.func17, Tryz.ntmps17
    go_wp2
    go_ret
    rw [HT.out, HB.out]
    exact ⟨w.heap.size + 1, 0, 2, rfl, by simpa using By.lit2 (w.alloc _) 35 116 (by omega) (by omega), below2 w _ _⟩
  · have HB : Hid (boolT d.n = [35, 102]) := if_neg h1
    have h1' : (d.n == 1) = false := beq_eq_false_iff_ne.2 h1
    clear h1
    go_enter Tryz.func17, Tryz.ntmps17
    go_wp2
    go_ret
    rw [HT.out, HB.out]
    exact ⟨w.heap.size + 1, 0, 2, rfl, by simpa using By.lit2 (w.alloc _) 35 102 (by omega) (by omega), below2 w _ _⟩
end Go.Proofs.YtadkajhejbondaaGreatDoor
namespace Go.Proofs.YtadkajhejbondaaGreatDoor
open Go.RowKit Ch1
theorem Ow.grown1 {w : World} {B : Nat} {v : Value} {xs : List Int} (h : Ow w B v xs) (o : Obj) : Ow (w.alloc o) B v xs := h.below (below1 w o)
set_option maxHeartbeats 2000000 in
theorem text16_list (k : Nat) (p : Option Addr) (n c i : Nat) (ds r rEnd : List Dt) (w : World)
    (ih : ∀ (p : Option Addr) (n c i : Nat) (ds r : List Dt) (w : World), Da w p n c ds → n ≤ 3000 → i ≤ n → skip k (ds.drop i) = some r → Calls Tryz.prog 17 #[.slice p n c, .int .i64 i] w fun e w' => Txt w w' e (txt k (ds.drop i)))
    (hD : Da w p n c ds) (hn : n ≤ 3000) (hi : i < n) (hl : ds.drop i = ds.getD i dt0 :: r) (hr : r = ds.drop (i + 1)) (hg : goodB (ds.getD i dt0) = true) (hk : (ds.getD i dt0).kind = 3) (hs : skipN (skip k) (ds.getD i dt0).count.toNat r = some rEnd) :
    Calls Tryz.prog 17 #[.slice p n c, .int .i64 i] w fun e w' => Txt w w' e (txt (k + 1) (ds.drop i)) := by
  subst hr
  have HT : Hid (txt (k + 1) (ds.drop i) = 40 :: (elems (skip k) (txt k) (ds.getD i dt0).count.toNat (ds.drop (i + 1)) ++ [41])) := by unfold Hid; rw [hl]; exact txt_list k _ _ hk
  have HRG : Hid (Rg (txt (k + 1) (ds.drop i))) := txt_rg _ _ (hD.rg.drop i)
  have IH : Hid (∀ (p : Option Addr) (n c i : Nat) (ds r : List Dt) (w : World), Da w p n c ds → n ≤ 3000 → i ≤ n → skip k (ds.drop i) = some r → Calls Tryz.prog 17 #[.slice p n c, .int .i64 i] w fun e w' => Txt w w' e (txt k (ds.drop i))) := ih
  have hcnt := good_nonneg hg
  have HD : Hid (Da w p n c ds) := hD
  have HLEN : Hid (ds.length = n) := hD.len
  have HS : Hid (skipN (skip k) (ds.getD i dt0).count.toNat (ds.drop (i + 1)) = some rEnd) := hs
  have HKID : Hid (∀ W : World, Below w.heap.size w W → Calls Tryz.prog 39 #[.slice p n c, .int .i64 i] W fun e w' => Kids k n i (ds.getD i dt0).count.toNat ds W w' e) := fun W hW => kids26 k p n c i ds rEnd W (hD.below hW) hn hi hcnt hs
  have HBD : Hid (∀ j, j ≤ (ds.getD i dt0).count.toNat → (elems (skip k) (txt k) j (ds.drop (i + 1))).length ≤ 390000) := by
    intro j hj
    obtain ⟨q, hq⟩ := skipN_le hs hj
    have := elems_bound (txt_bound k) _ _ _ hq
    rw [List.length_drop, hD.len] at this
    omega
  obtain ⟨b, o, tp, tn, tc, rfl, hbl, he⟩ := hD.at hi
  have hhi := he.hi
  generalize ds.getD i dt0 = d at HT he hk hcnt HS HKID HBD hhi
  have e0 := he.c0
  have e1 := he.c1
  have e2 := he.c2
  have e3 := he.c3
  rw [hk] at e0
  clear hD he hl hg hk hs ih
  go_enter Tryz.func17, Tryz.ntmps17
  go_wp2_with (go_at_call 39; refine (HKID.out _ (by exact below2 w _ _)).mono ?_; rintro e w1 ⟨kv, ks, rfl, hkv, hkl, hks, hb1⟩)
  have HO : Hid (Ow w1 w.heap.size (.slice (some ⟨w.heap.size + 1, 0, none⟩) 1 1) [40]) := by
    have := (Ow.lit (w.alloc (Obj.cells #[Value.int IntKind.i64 3, Value.int IntKind.i64 d.n, Value.slice tp tn tc, Value.int IntKind.i64 d.count] 81)) w.heap.size [40] (by simp) (by unfold maxLen; simp))
    simp only [World.size_alloc] at this
    exact this.below hb1
  have HB1 : Hid (Below w.heap.size w w1) := (below2 w _ _).trans (hb1.mono (below2 w _ _).size)
  have HK : Hid (Kd w1 kv ks) := hkv.kd
  have HKL : Hid (ks.length = d.count.toNat) := hkl
  have HKS : Hid (∀ j, j < ks.length → ks.getD j 0 ≤ n ∧ skipN (skip k) j (ds.drop (i + 1)) = some (ds.drop (ks.getD j 0))) := hks
  obtain ⟨kp, kc, hke, hkrest⟩ := hkv.form
  subst hke
  clear hkrest hkv hkl hks hb1 HKID e0 e1 e2 e3
  have hkb : ks.length ≤ 9223372036854775807 := by rw [HKL.out]; omega
  go_wp2
  go_loopw [6, 8] (fun v kk wr => ∃ (j : Nat), j ≤ ks.length ∧ kk = .int .i64 j ∧ Hid (Ow wr w.heap.size v ([40] ++ elems (skip k) (txt k) j (ds.drop (i + 1)))) ∧ Hid (Kd wr (.slice kp ks.length kc) ks) ∧ Hid (Below w.heap.size w wr)) (fun _ kk _ => ks.length - (intOf kk).toNat)
  case atStart => exact ⟨0, Nat.zero_le _, rfl, HO, HK, HB1⟩
  case round =>
    clear HO HB1 HK
    obtain ⟨j, hj, rfl, hO, hK, hb⟩ := hrel
    by_cases hlt : j < ks.length
    · obtain ⟨g, c', e, _, gc⟩ := hK.out.cell (by omega)
      cases e
      have gj := gc j hlt
      have hp := HKS.out j hlt
      obtain ⟨q1, hq1⟩ := skipN_le HS.out (show j + 1 ≤ d.count.toNat by rw [← HKL.out]; omega)
      obtain ⟨q0, hq0, hqk⟩ := skipN_succ_some hq1
      rw [hp.2] at hq0
      cases hq0
      have hp1 := hp.1
      have HE1 : Hid (elems (skip k) (txt k) (j + 1) (ds.drop (i + 1)) = elems (skip k) (txt k) j (ds.drop (i + 1)) ++ ((if j = 0 then [] else [32]) ++ txt k (ds.drop (ks.getD j 0)))) := elems_succ _ _ _ _ _ hp.2
      have hl1 := HBD.out (j + 1) (by rw [← HKL.out]; omega)
      have HL1 : Hid ((elems (skip k) (txt k) (j + 1) (ds.drop (i + 1))).length ≤ 390000) := hl1
      have HQK : Hid (skip k (ds.drop (ks.getD j 0)) = some q1) := hqk
      rw [HE1.out, List.length_append, List.length_append] at hl1
      clear hp hq1 hqk gc
      generalize hpos : ks.getD j 0 = pos at gj hp1 HE1 HQK hl1
      have hpos : Hid (ks.getD j 0 = pos) := hpos
      generalize elems (skip k) (txt k) j (ds.drop (i + 1)) = acc at hO HE1 hl1
      generalize hxt : txt k (ds.drop pos) = xt at HE1 hl1
      have HXT : Hid (txt k (ds.drop pos) = xt) := hxt
      clear hxt
      have hsz := hb.out.size
      cases j with
      | zero =>
        simp only [if_true, List.length_nil] at hl1
        go_wp2_with (first | (go_at_call 17; refine (IH.out _ n c pos ds q1 _ (by exact HD.out.below hb.out) hn hp1 HQK.out).mono ?_; rw [HXT.out]; rintro e w2 ⟨b2, o2, c2, rfl, hy2, hb2⟩; have HY2 : Hid (By w2 (some ⟨b2, o2, none⟩) xt.length c2 xt) := hy2; have HB2 : Hid (Below wr.heap.size wr w2) := hb2; have hsz2 := hb2.size; clear hy2 hb2) | (at_builtin; refine app_law _ rfl (.tmp 50) (.tmp 56) rfl w.heap.size u6 ([40] ++ acc) xt (by simp [Act.eval]) (by exact hO.out.below HB2.out) b2 o2 xt.length c2 (by simp [Act.eval]) HY2.out (by simp; omega) (by omega) ?_; intro v' w3 ho hg hgr; have HO3 : Hid (Ow w3 w.heap.size v' ([40] ++ acc ++ xt)) := ho; have HK3 : Hid (Kd w3 (.slice (some ⟨g, 0, none⟩) ks.length kc) ks) := (hK.out.below HB2.out).grown (hO.out.below HB2.out) hgr; have HB3 : Hid (Below w.heap.size w w3) := (hb.out.trans (HB2.out.mono hsz)).trans hg; clear ho hg hgr))
        refine ⟨⟨1, by omega, by go_num, ?_, HK3, HB3⟩, by simp [intOf]; omega⟩
        have e1 := HE1.out
        simp only [if_true, List.nil_append] at e1
        rw [show (1 : Nat) = 0 + 1 from rfl, e1, ← List.append_assoc]
        exact HO3
      | succ j =>
        simp only [Nat.add_eq_zero_iff, Nat.one_ne_zero, and_false, if_false, List.length_singleton] at hl1
        go_wp2_with (first | (at_builtin; refine app_law _ rfl (.tmp 47) (.tmp 48) rfl w.heap.size u6 ([40] ++ acc) [32] (by simp [Act.eval]) (by exact hO.out.below (below1 _ _)) wr.heap.size 0 1 1 (by simp [Act.eval]) (By.lit wr 32 (by omega) (by omega)) (by simp; omega) (by simp; omega) ?_; intro v0 w0 ho hg hgr; have HO0 : Hid (Ow w0 w.heap.size v0 ([40] ++ acc ++ [32])) := ho; have HB00 := hb.out.alloc hsz (Obj.cells #[Value.int .u8 32] 5); have HK0 : Hid (Kd w0 (.slice (some ⟨g, 0, none⟩) ks.length kc) ks) := (hK.out.below (below1 wr _)).grown (hO.out.below (below1 wr _)) hgr; have HB0 : Hid (Below w.heap.size w w0) := HB00.trans hg; have hsz0 := HB0.out.size; obtain ⟨g1, c1, e1, hk1, gc1⟩ := HK0.out.cell (by omega); have gj1 : w0.cell? ⟨g, j + 1, none⟩ = some (.int .i64 (pos : Int)) := (by cases e1; have := gc1 (j + 1) hlt; rw [hpos.out] at this; exact this); clear ho hg hgr HB00 gc1 e1 hk1) | (go_at_call 17; refine (IH.out _ n c pos ds q1 _ (by exact HD.out.below HB0.out) hn hp1 HQK.out).mono ?_; rw [HXT.out]; rintro e w2 ⟨b2, o2, c2, rfl, hy2, hb2⟩; have HY2 : Hid (By w2 (some ⟨b2, o2, none⟩) xt.length c2 xt) := hy2; have HB2 : Hid (Below w0.heap.size w0 w2) := hb2; have hsz2 := hb2.size; clear hy2 hb2) | (at_builtin; refine app_law _ rfl (.tmp 50) (.tmp 56) rfl w.heap.size v0 ([40] ++ acc ++ [32]) xt (by simp [Act.eval]) (by exact HO0.out.below HB2.out) b2 o2 xt.length c2 (by simp [Act.eval]) HY2.out (by simp; omega) (by omega) ?_; intro v' w3 ho hg hgr; have HO3 : Hid (Ow w3 w.heap.size v' ([40] ++ acc ++ [32] ++ xt)) := ho; have HK3 : Hid (Kd w3 (.slice (some ⟨g, 0, none⟩) ks.length kc) ks) := (HK0.out.below HB2.out).grown (HO0.out.below HB2.out) hgr; have HB3 : Hid (Below w.heap.size w w3) := (HB0.out.trans (HB2.out.mono hsz0)).trans hg; clear ho hg hgr))
        refine ⟨⟨j + 1 + 1, by omega, by go_num, ?_, HK3, HB3⟩, by simp [intOf]; omega⟩
        have e1 := HE1.out
        simp only [Nat.add_eq_zero_iff, Nat.one_ne_zero, and_false, if_false] at e1
        rw [e1, ← List.append_assoc, ← List.append_assoc]
        exact HO3
    · obtain rfl : j = ks.length := by omega
      have hl0 := HBD.out ks.length (by rw [HKL.out]; omega)
      have HT2 : Hid (txt (k + 1) (ds.drop i) = [40] ++ elems (skip k) (txt k) ks.length (ds.drop (i + 1)) ++ [41]) := by unfold Hid; rw [HT.out, HKL.out]; simp
      generalize elems (skip k) (txt k) ks.length (ds.drop (i + 1)) = acc at hO hl0 HT2
      have hsz := hb.out.size
      go_wp2_with (at_builtin; refine app_law _ rfl (.tmp 58) (.tmp 59) rfl w.heap.size u6 ([40] ++ acc) [41] (by simp [Act.eval]) (by exact hO.out.below (below1 _ _)) wr.heap.size 0 1 1 (by simp [Act.eval]) (By.lit wr 41 (by omega) (by omega)) (by simp; omega) (by simp; omega) ?_; intro v0 w0 ho hg hgr; have HO0 : Hid (Ow w0 w.heap.size v0 ([40] ++ acc ++ [41])) := ho; have HB0 : Hid (Below w.heap.size w w0) := (hb.out.alloc hsz _).trans hg; clear ho hg hgr)
      go_ret
      have HF : Ow w0 w.heap.size v0 (txt (k + 1) (ds.drop i)) := by rw [HT2.out]; exact HO0.out
      exact HF.txt (rng_of HRG.out) (by rw [HT2.out]; simp) HB0.out
end Go.Proofs.YtadkajhejbondaaGreatDoor
namespace Go.Proofs.YtadkajhejbondaaGreatDoor
open Go.RowKit Ch1
theorem text16 (k : Nat) : ∀ (p : Option Addr) (n c i : Nat) (ds r : List Dt) (w : World), Da w p n c ds → n ≤ 3000 → i ≤ n → skip k (ds.drop i) = some r → Calls Tryz.prog 17 #[.slice p n c, .int .i64 i] w fun e w' => Txt w w' e (txt k (ds.drop i)) := by
  have place : ∀ (n i : Nat) (ds : List Dt) (d : Dt) (q : List Dt), ds.length = n → ds.drop i = d :: q → i < n ∧ d = ds.getD i dt0 ∧ q = ds.drop (i + 1) := by
    intro n i ds d q hn hl
    have hi : i < ds.length := by
      apply Nat.lt_of_not_le
      intro h
      rw [List.drop_eq_nil_of_le h] at hl; cases hl
    rw [drop_cons ds i hi] at hl
    cases hl
    exact ⟨by omega, rfl, rfl⟩
  induction k with
  | zero =>
    intro p n c i ds r w hD hn _ hs
    obtain ⟨d, q, hl, hg, ⟨hk, rfl⟩ | ⟨k', e, _⟩⟩ := skip_some hs
    · obtain ⟨hin, rfl, rfl⟩ := place n i ds d _ hD.len hl
      rcases good_kinds hg with h0 | h0 | h0 | h0
      · exact text16_int 0 p n c i ds _ w hD hin hl hg h0
      · exact text16_bool 0 p n c i ds _ w hD hin hl h0
      · exact text16_sym 0 p n c i ds _ w hD hin hl hg h0
      · exact absurd h0 hk
    · omega
  | succ k ih =>
    intro p n c i ds r w hD hn _ hs
    obtain ⟨d, q, hl, hg, ⟨hk, rfl⟩ | ⟨k', e, hk, hss⟩⟩ := skip_some hs
    · obtain ⟨hin, rfl, rfl⟩ := place n i ds d _ hD.len hl
      rcases good_kinds hg with h0 | h0 | h0 | h0
      · exact text16_int _ p n c i ds _ w hD hin hl hg h0
      · exact text16_bool _ p n c i ds _ w hD hin hl h0
      · exact text16_sym _ p n c i ds _ w hD hin hl hg h0
      · exact absurd h0 hk
    · obtain rfl : k = k' := by omega
      obtain ⟨hin, rfl, rfl⟩ := place n i ds d q hD.len hl
      exact text16_list k p n c i ds _ r w ih hD hn hin hl rfl hg hk hss
/-- What WriteData answers. -/
def outT (ds : List Dt) : List Int := if validB ds = true then rowT ds else []
/-- A slice that reads as xs; nothing that was there has turned. -/
def Bys (w w' : World) (e : Ending) (xs : List Int) : Prop := ∃ p c, e = .returned (.slice p xs.length c) ∧ By w' p xs.length c xs ∧ Below w.heap.size w w'
theorem By.nil (w : World) : By w none 0 0 [] := ⟨rfl, Nat.le_refl _, by unfold maxLen; omega, fun i => by simp, fun h => absurd h (Nat.lt_irrefl 0), fun a ha => by cases ha⟩
theorem valid_small {ds : List Dt} (h : validB ds = true) : ds.length ≤ 3000 ∧ rowOf ds = true := by
  unfold validB at h; simp at h; exact h
theorem rowX_rg : ∀ (n : Nat) (l : List Dt), RgD l → Rg (rowX n l) := by
  intro n
  induction n with
  | zero => intro l _; cases l <;> (intro x hx; cases hx)
  | succ n ih =>
    intro l h
    cases l with
    | nil => intro x hx; cases hx
    | cons d r =>
      simp only [rowX]
      cases e : skip 100 (d :: r) with
      | none => intro x hx; cases hx
      | some r' =>
        obtain ⟨k, _, _, rfl⟩ := skip_eats 100 _ _ e
        refine Rg.app (txt_rg 100 _ h) (Rg.app (xs := [10]) ?_ (ih _ (h.drop k)))
        intro x hx; simp at hx; omega
theorem rowX_len : ∀ (n : Nat) (l : List Dt), (rowX n l).length ≤ 130 * l.length := by
  intro n
  induction n with
  | zero => intro l; cases l <;> simp [rowX]
  | succ n ih =>
    intro l
    cases l with
    | nil => simp [rowX]
    | cons d r =>
      simp only [rowX]
      cases e : skip 100 (d :: r) with
      | none => simp
      | some r' =>
        have h1 := txt_bound 100 _ _ e
        have h2 := ih r'
        simp only [List.length_append, List.length_cons] at h1 ⊢
        omega
theorem take_flat_le (fs : List Nat) (g : Nat → List Int) (j : Nat) : ((fs.take j).flatMap g).length ≤ (fs.flatMap g).length := by
  have : fs.flatMap g = (fs.take j).flatMap g ++ (fs.drop j).flatMap g := by rw [← List.flatMap_append, List.take_append_drop]
  rw [this, List.length_append]; omega
theorem take_succ_flat (fs : List Nat) (g : Nat → List Int) (j : Nat) (h : j < fs.length) : (fs.take (j + 1)).flatMap g = (fs.take j).flatMap g ++ g (fs.getD j 0) := by
  rw [List.take_succ_eq_append_getElem h, List.flatMap_append]
  simp [List.getD, List.getElem?_eq_getElem h]
end Go.Proofs.YtadkajhejbondaaGreatDoor
