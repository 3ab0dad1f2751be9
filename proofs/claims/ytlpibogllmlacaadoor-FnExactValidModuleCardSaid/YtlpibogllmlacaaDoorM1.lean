import Derived.Test.YtlpibogllmlacaaDoorW9
namespace Go.Proofs.YtlpibogllmlacaaDoor
open Go.RowKit Ch1
/-- An instruction. -/
structure In where
  op : Int
  a : Int
  b : Int
def in0 : In := ⟨0, 0, 0⟩
/-- A function. -/
structure Fn where
  params : Int
  free : List Bool
  code : List In
def fn0 : Fn := ⟨0, [], []⟩
/-- A slice of bools that lies in w and reads as bs. -/
structure Bo (w : World) (p : Option Addr) (n c : Nat) (bs : List Bool) : Prop where
  len : bs.length = n
  cap : n ≤ c
  big : c ≤ maxLen
  cells : 0 < n → ∃ b o, p = some ⟨b, o, none⟩ ∧ b < w.heap.size ∧ ∀ i, i < n → w.cell? ⟨b, o + i, none⟩ = some (.bool (bs.getD i false))
/-- A slice of instructions. -/
structure Ii (w : World) (p : Option Addr) (n c : Nat) (xs : List In) : Prop where
  len : xs.length = n
  cap : n ≤ c
  big : c ≤ maxLen
  cells : 0 < n → ∃ b o, p = some ⟨b, o, none⟩ ∧ b < w.heap.size ∧ ∀ i, i < n → w.cell? ⟨b, o + i * 3, none⟩ = some (.int .i64 (xs.getD i in0).op) ∧ w.cell? ⟨b, o + i * 3 + 1, none⟩ = some (.int .i64 (xs.getD i in0).a) ∧ w.cell? ⟨b, o + i * 3 + 2, none⟩ = some (.int .i64 (xs.getD i in0).b)
/-- A function at ⟨b, o⟩. -/
structure Fe (w : World) (b o : Nat) (f : Fn) (fp : Option Addr) (fl fc : Nat) (cp : Option Addr) (cl cc : Nat) : Prop where
  c0 : w.cell? ⟨b, o, none⟩ = some (.int .i64 f.params)
  c1 : w.cell? ⟨b, o + 1, none⟩ = some (.slice fp fl fc)
  c2 : w.cell? ⟨b, o + 2, none⟩ = some (.slice cp cl cc)
  free : Bo w fp fl fc f.free
  code : Ii w cp cl cc f.code
/-- A slice of functions. -/
structure Fu (w : World) (p : Option Addr) (n c : Nat) (fs : List Fn) : Prop where
  len : fs.length = n
  cap : n ≤ c
  big : c ≤ maxLen
  cells : 0 < n → ∃ b o, p = some ⟨b, o, none⟩ ∧ b < w.heap.size ∧ ∀ i, i < n → ∃ fp fl fc cp cl cc, Fe w b (o + i * 3) (fs.getD i fn0) fp fl fc cp cl cc
/-- A slice of slices of data. -/
structure Dd (w : World) (p : Option Addr) (n c : Nat) (ls : List (List Dt)) : Prop where
  len : ls.length = n
  cap : n ≤ c
  big : c ≤ maxLen
  cells : 0 < n → ∃ b o, p = some ⟨b, o, none⟩ ∧ b < w.heap.size ∧ ∀ i, i < n → ∃ q m d, w.cell? ⟨b, o + i, none⟩ = some (.slice q m d) ∧ Da w q m d (ls.getD i [])
theorem Bo.below {w w' : World} {p : Option Addr} {n c : Nat} {bs : List Bool} (h : Bo w p n c bs) (hb : Below w.heap.size w w') : Bo w' p n c bs := by
  refine ⟨h.len, h.cap, h.big, fun hn => ?_⟩
  obtain ⟨b, o, e, hlt, hc⟩ := h.cells hn
  exact ⟨b, o, e, Nat.lt_of_lt_of_le hlt hb.size, fun i hi => by rw [hb.cell (p := ⟨b, o + i, none⟩) hlt]; exact hc i hi⟩
theorem Ii.below {w w' : World} {p : Option Addr} {n c : Nat} {xs : List In} (h : Ii w p n c xs) (hb : Below w.heap.size w w') : Ii w' p n c xs := by
  refine ⟨h.len, h.cap, h.big, fun hn => ?_⟩
  obtain ⟨b, o, e, hlt, hc⟩ := h.cells hn
  refine ⟨b, o, e, Nat.lt_of_lt_of_le hlt hb.size, fun i hi => ?_⟩
  obtain ⟨h0, h1, h2⟩ := hc i hi
  exact ⟨by rw [hb.cell (p := ⟨b, o + i * 3, none⟩) hlt]; exact h0, by rw [hb.cell (p := ⟨b, o + i * 3 + 1, none⟩) hlt]; exact h1, by rw [hb.cell (p := ⟨b, o + i * 3 + 2, none⟩) hlt]; exact h2⟩
theorem Fe.below {w w' : World} {b o : Nat} {f : Fn} {fp : Option Addr} {fl fc : Nat} {cp : Option Addr} {cl cc : Nat} (h : Fe w b o f fp fl fc cp cl cc) (hlt : b < w.heap.size) (hb : Below w.heap.size w w') : Fe w' b o f fp fl fc cp cl cc :=
  ⟨by rw [hb.cell (p := ⟨b, o, none⟩) hlt]; exact h.c0, by rw [hb.cell (p := ⟨b, o + 1, none⟩) hlt]; exact h.c1, by rw [hb.cell (p := ⟨b, o + 2, none⟩) hlt]; exact h.c2, h.free.below hb, h.code.below hb⟩
theorem Fu.below {w w' : World} {p : Option Addr} {n c : Nat} {fs : List Fn} (h : Fu w p n c fs) (hb : Below w.heap.size w w') : Fu w' p n c fs := by
  refine ⟨h.len, h.cap, h.big, fun hn => ?_⟩
  obtain ⟨b, o, e, hlt, hc⟩ := h.cells hn
  refine ⟨b, o, e, Nat.lt_of_lt_of_le hlt hb.size, fun i hi => ?_⟩
  obtain ⟨fp, fl, fc, cp, cl, cc, he⟩ := hc i hi
  exact ⟨fp, fl, fc, cp, cl, cc, he.below hlt hb⟩
theorem Dd.below {w w' : World} {p : Option Addr} {n c : Nat} {ls : List (List Dt)} (h : Dd w p n c ls) (hb : Below w.heap.size w w') : Dd w' p n c ls := by
  refine ⟨h.len, h.cap, h.big, fun hn => ?_⟩
  obtain ⟨b, o, e, hlt, hc⟩ := h.cells hn
  refine ⟨b, o, e, Nat.lt_of_lt_of_le hlt hb.size, fun i hi => ?_⟩
  obtain ⟨q, m, d, h0, h1⟩ := hc i hi
  exact ⟨q, m, d, by rw [hb.cell (p := ⟨b, o + i, none⟩) hlt]; exact h0, h1.below hb⟩
theorem below_alloc {w w' : World} {o : Obj} (h : Below (w.alloc o).heap.size (w.alloc o) w') : Below w.heap.size w w' := (below1 w o).trans (h.mono (by simp))
theorem small_of {n c : Nat} (h1 : n ≤ c) (h2 : c ≤ maxLen) : n ≤ 9223372036854775807 := by unfold maxLen at h2; omega
/-! ### sizes -/
set_option maxHeartbeats 400000 in
theorem szBoolS_c (p : Option Addr) (n c : Nat) (left : Int) (w : World) (hn : n ≤ 9223372036854775807) (h0 : 0 ≤ left) (h1 : left ≤ 1048576) :
    Calls Tryd.prog 33 #[.slice p n c, .int .i64 left] w fun e w' => e = .returned (.int .i64 (szOf left n)) ∧ w' = w := by
  unfold szOf
  by_cases h : left - n < 0
  · rw [if_pos h]
    go_enter Tryd.func33, Tryd.ntmps33
    go_wp2
    go_ret
    exact ⟨rfl, rfl⟩
  · rw [if_neg h]
    go_enter Tryd.func33, Tryd.ntmps33
    go_wp2
    go_ret
    exact ⟨rfl, rfl⟩
set_option maxHeartbeats 400000 in
theorem szInsS_c (p : Option Addr) (n c : Nat) (left : Int) (w : World) (hn : n ≤ 9223372036854775807) (h0 : 0 ≤ left) (h1 : left ≤ 1048576) :
    Calls Tryd.prog 34 #[.slice p n c, .int .i64 left] w fun e w' => e = .returned (.int .i64 (szOf left n)) ∧ w' = w := by
  unfold szOf
  by_cases h : left - n < 0
  · rw [if_pos h]
    go_enter Tryd.func34, Tryd.ntmps34
    go_wp2
    go_ret
    exact ⟨rfl, rfl⟩
  · rw [if_neg h]
    go_enter Tryd.func34, Tryd.ntmps34
    go_wp2
    go_ret
    exact ⟨rfl, rfl⟩
theorem szOf_cases (left : Int) (n : Nat) : (szOf left n = -1 ∧ left - n < 0) ∨ (szOf left n = left - n ∧ 0 ≤ left - n) := by
  unfold szOf
  by_cases h : left - n < 0
  · exact Or.inl ⟨if_pos h, h⟩
  · exact Or.inr ⟨if_neg h, by omega⟩
set_option maxHeartbeats 400000 in
theorem szFunc_c (k : Int) (fp : Option Addr) (fl fc : Nat) (cp : Option Addr) (cl cc : Nat) (left : Int) (w : World) (hf : fl ≤ 9223372036854775807) (hc : cl ≤ 9223372036854775807) (h0 : 0 ≤ left) (h1 : left ≤ 1048576) :
    Calls Tryd.prog 22 #[.agg #[.int .i64 k, .slice fp fl fc, .slice cp cl cc], .int .i64 left] w fun e w' => ∃ v : Int, e = .returned (.int .i64 v) ∧ v ≤ left ∧ -1 ≤ v ∧ (0 ≤ v → (fl : Int) ≤ left ∧ (cl : Int) ≤ left) ∧ Below w.heap.size w w' := by
  rcases szOf_cases left fl with ⟨e1, g1⟩ | ⟨e1, g1⟩
  · go_enter Tryd.func22, Tryd.ntmps22
    go_wp2_with (go_at_call 33; refine (szBoolS_c _ _ _ _ _ hf h0 h1).mono ?_; rintro e w' ⟨rfl, rfl⟩; rw [e1])
    go_ret
    exact ⟨-1, rfl, by omega, by omega, fun h => by omega, below1 _ _⟩
  · rcases szOf_cases (left - fl) cl with ⟨e2, g2⟩ | ⟨e2, g2⟩
    · go_enter Tryd.func22, Tryd.ntmps22
      go_wp2_with (first | (go_at_call 33; refine (szBoolS_c _ _ _ _ _ hf h0 h1).mono ?_; rintro e w' ⟨rfl, rfl⟩; rw [e1]) | (go_at_call 34; refine (szInsS_c _ _ _ _ _ hc g1 (by omega)).mono ?_; rintro e w' ⟨rfl, rfl⟩; rw [e2]))
      go_ret
      exact ⟨-1, rfl, by omega, by omega, fun h => by omega, below1 _ _⟩
    · go_enter Tryd.func22, Tryd.ntmps22
      go_wp2_with (first | (go_at_call 33; refine (szBoolS_c _ _ _ _ _ hf h0 h1).mono ?_; rintro e w' ⟨rfl, rfl⟩; rw [e1]) | (go_at_call 34; refine (szInsS_c _ _ _ _ _ hc g1 (by omega)).mono ?_; rintro e w' ⟨rfl, rfl⟩; rw [e2]))
      go_ret
      exact ⟨left - fl - cl, rfl, by omega, by omega, fun h => ⟨by omega, by omega⟩, below1 _ _⟩
/-- What a sum of sizes tells of functions. -/
def FnsFit (fs : List Fn) (n : Nat) (left : Int) : Prop := ∀ i, i < n → ((fs.getD i fn0).free.length : Int) ≤ left ∧ ((fs.getD i fn0).code.length : Int) ≤ left
set_option maxHeartbeats 1000000 in
theorem szFuncS_c (p : Option Addr) (n c : Nat) (fs : List Fn) (left : Int) (w : World) (hF : Fu w p n c fs) (h0 : 0 ≤ left) (h1 : left ≤ 1048576) :
    Calls Tryd.prog 10 #[.slice p n c, .int .i64 left] w fun e w' => ∃ v : Int, e = .returned (.int .i64 v) ∧ v ≤ left ∧ (0 ≤ v → (n : Int) ≤ left ∧ FnsFit fs n left) ∧ Below w.heap.size w w' := by
  have hbig := small_of hF.cap hF.big
  have HF : Hid (Fu w p n c fs) := hF
  clear hF
  by_cases hneg : left - n < 0
  · go_enter Tryd.func10, Tryd.ntmps10
    go_wp2
    go_ret
    exact ⟨-1, rfl, by omega, fun h => by omega, Below.refl _ _⟩
  · go_enter Tryd.func10, Tryd.ntmps10
    go_wp2
    go_loopw [1, 5] (fun l i wr => ∃ (k : Nat) (v : Int), k ≤ n ∧ i = .int .i64 k ∧ l = .int .i64 v ∧ 0 ≤ v ∧ v ≤ left ∧ Hid (FnsFit fs k left) ∧ Hid (Below w.heap.size w wr)) (fun _ i _ => n - (intOf i).toNat)
    case atStart => exact ⟨0, _, Nat.zero_le _, rfl, rfl, by omega, by omega, fun j hj => absurd hj (Nat.not_lt_zero j), Below.refl _ _⟩
    case round =>
      obtain ⟨k, v, hk, rfl, rfl, hv0, hv1, hn, hb⟩ := hrel
      by_cases hlt : k < n
      · obtain ⟨b, o, rfl, hbl, g⟩ := HF.out.cells (by omega)
        obtain ⟨fp, fl, fc, cp, cl, cc, he⟩ := g k hlt
        clear g
        have htf := small_of he.free.cap he.free.big
        have htc := small_of he.code.cap he.code.big
        have HFL : Hid ((fs.getD k fn0).free.length = fl) := he.free.len
        have HCL : Hid ((fs.getD k fn0).code.length = cl) := he.code.len
        have he' := he.below (w' := wr) hbl hb.out
        have e0 := he'.c0
        have e1 := he'.c1
        have e2 := he'.c2
        clear he he'
        generalize fs.getD k fn0 = f at e0 e1 e2
        go_wp2_with fail
        refine (szFunc_c _ fp fl fc cp cl cc v _ htf htc hv0 (by omega)).mono ?_
        rintro e w1 ⟨u, rfl, hu1, hu2, hu3, hb1⟩
        have HU : Hid (0 ≤ u → (fl : Int) ≤ v ∧ (cl : Int) ≤ v) := hu3
        have HB1 : Hid (Below w.heap.size w w1) := hb.out.trans (hb1.mono hb.out.size)
        clear hu3 hb1
        by_cases hs : u < 0
        · go_wp2
          go_ret
          exact ⟨-1, rfl, by omega, fun h => by omega, HB1.out⟩
        · go_wp2
          refine ⟨⟨k + 1, u, by omega, by go_num, rfl, by omega, by omega, fun j hj => ?_, HB1.out⟩, by simp [intOf]; omega⟩
          by_cases e : j < k
          · exact hn.out j e
          · have := HU.out (by omega)
            rw [show j = k by omega, HFL.out, HCL.out]
            exact ⟨by omega, by omega⟩
      · have : k = n := by omega
        subst this
        go_wp2
        go_ret
        exact ⟨v, rfl, hv1, fun _ => ⟨by omega, hn.out⟩, hb.out⟩
/-- What a sum of sizes tells of data. -/
def DsFit (ds : List Dt) (left : Int) : Prop := (ds.length : Int) ≤ left ∧ ∀ i, i < ds.length → ((ds.getD i dt0).text.length : Int) ≤ left
set_option maxHeartbeats 400000 in
theorem szDatumS_c (p : Option Addr) (n c : Nat) (ds : List Dt) (left : Int) (w : World) (hD : Da w p n c ds) (h0 : 0 ≤ left) (h1 : left ≤ 1048576) :
    Calls Tryd.prog 21 #[.slice p n c, .int .i64 left] w fun e w' => ∃ v : Int, e = .returned (.int .i64 v) ∧ v ≤ left ∧ (0 ≤ v → DsFit ds left) ∧ Below w.heap.size w w' := by
  have hbig : n ≤ 9223372036854775807 := small_of hD.cap hD.big
  have HD : Hid (Da w p n c ds) := hD
  have HL : Hid (ds.length = n) := hD.len
  clear hD
  by_cases hneg : left - n < 0
  · go_enter Tryd.func21, Tryd.ntmps21
    go_wp2
    go_ret
    exact ⟨-1, rfl, by omega, fun h => by omega, Below.refl _ _⟩
  · go_enter Tryd.func21, Tryd.ntmps21
    go_wp2
    go_loopw [1, 5] (fun l i wr => ∃ (k : Nat) (v : Int), k ≤ n ∧ i = .int .i64 k ∧ l = .int .i64 v ∧ 0 ≤ v ∧ v ≤ left ∧ Hid (∀ j, j < k → ((ds.getD j dt0).text.length : Int) ≤ left) ∧ Hid (Below w.heap.size w wr)) (fun _ i _ => n - (intOf i).toNat)
    case atStart => exact ⟨0, _, Nat.zero_le _, rfl, rfl, by omega, by omega, fun j hj => absurd hj (Nat.not_lt_zero j), Below.refl _ _⟩
    case round =>
      obtain ⟨k, v, hk, rfl, rfl, hv0, hv1, hn, hb⟩ := hrel
      by_cases hlt : k < n
      · obtain ⟨b, o, rfl, hbl, g⟩ := HD.out.cells (by omega)
        obtain ⟨tp, tn, tc, he⟩ := g k hlt
        clear g
        have htn : tn ≤ 9223372036854775807 := small_of he.by_.cap he.by_.big
        have htl : Hid ((ds.getD k dt0).text.length = tn) := he.by_.len
        have he' := he.below (w' := wr) hbl hb.out
        have e0 := he'.c0
        have e1 := he'.c1
        have e2 := he'.c2
        have e3 := he'.c3
        clear he he'
        generalize ds.getD k dt0 = d at e0 e1 e2 e3
        rcases szOf_cases v tn with ⟨hs, hs2⟩ | ⟨hs, hs2⟩
        · go_wp2_with (go_at_call 32; refine (szDatum15 _ _ _ tp tn tc v _ htn hv0 (by omega)).mono ?_; rintro e w1 ⟨rfl, hb1⟩; rw [hs])
          go_ret
          exact ⟨-1, rfl, by omega, fun h => by omega, hb.out.trans (hb1.mono hb.out.size)⟩
        · go_wp2_with (go_at_call 32; refine (szDatum15 _ _ _ tp tn tc v _ htn hv0 (by omega)).mono ?_; rintro e w1 ⟨rfl, hb1⟩; rw [hs])
          refine ⟨⟨k + 1, _, by omega, by go_num, rfl, by omega, by omega, fun j hj => ?_, hb.out.trans (hb1.mono hb.out.size)⟩, by simp [intOf]; omega⟩
          by_cases e : j < k
          · exact hn.out j e
          · rw [show j = k by omega, htl.out]; omega
      · have : k = n := by omega
        subst this
        go_wp2
        go_ret
        exact ⟨v, rfl, hv1, fun _ => ⟨by rw [HL.out]; omega, fun i hi => hn.out i (by rw [← HL.out]; exact hi)⟩, hb.out⟩
set_option maxHeartbeats 1000000 in
theorem szDatumSS_c (p : Option Addr) (n c : Nat) (ls : List (List Dt)) (left : Int) (w : World) (hD : Dd w p n c ls) (h0 : 0 ≤ left) (h1 : left ≤ 1048576) :
    Calls Tryd.prog 9 #[.slice p n c, .int .i64 left] w fun e w' => ∃ v : Int, e = .returned (.int .i64 v) ∧ v ≤ left ∧ (0 ≤ v → (n : Int) ≤ left ∧ ∀ i, i < n → DsFit (ls.getD i []) left) ∧ Below w.heap.size w w' := by
  have hbig := small_of hD.cap hD.big
  have HD : Hid (Dd w p n c ls) := hD
  clear hD
  by_cases hneg : left - n < 0
  · go_enter Tryd.func9, Tryd.ntmps9
    go_wp2
    go_ret
    exact ⟨-1, rfl, by omega, fun h => by omega, Below.refl _ _⟩
  · go_enter Tryd.func9, Tryd.ntmps9
    go_wp2
    go_loopw [1, 5] (fun l i wr => ∃ (k : Nat) (v : Int), k ≤ n ∧ i = .int .i64 k ∧ l = .int .i64 v ∧ 0 ≤ v ∧ v ≤ left ∧ Hid (∀ j, j < k → DsFit (ls.getD j []) left) ∧ Hid (Below w.heap.size w wr)) (fun _ i _ => n - (intOf i).toNat)
    case atStart => exact ⟨0, _, Nat.zero_le _, rfl, rfl, by omega, by omega, fun j hj => absurd hj (Nat.not_lt_zero j), Below.refl _ _⟩
    case round =>
      obtain ⟨k, v, hk, rfl, rfl, hv0, hv1, hn, hb⟩ := hrel
      by_cases hlt : k < n
      · obtain ⟨b, o, rfl, hbl, g⟩ := HD.out.cells (by omega)
        obtain ⟨q, m, d, e0, he⟩ := g k hlt
        clear g
        rw [← hb.out.cell (p := ⟨b, o + k, none⟩) hbl] at e0
        have HE : Hid (Da wr q m d (ls.getD k [])) := he.below hb.out
        clear he
        go_wp2_with fail
        refine (szDatumS_c q m d _ v _ HE.out hv0 (by omega)).mono ?_
        rintro e w1 ⟨u, rfl, hu1, hu3, hb1⟩
        have HU : Hid (0 ≤ u → DsFit (ls.getD k []) v) := hu3
        have HB1 : Hid (Below w.heap.size w w1) := hb.out.trans (hb1.mono hb.out.size)
        clear hu3 hb1
        by_cases hs : u < 0
        · go_wp2
          go_ret
          exact ⟨-1, rfl, by omega, fun h => by omega, HB1.out⟩
        · go_wp2
          refine ⟨⟨k + 1, u, by omega, by go_num, rfl, by omega, by omega, fun j hj => ?_, HB1.out⟩, by simp [intOf]; omega⟩
          by_cases e : j < k
          · exact hn.out j e
          · have := HU.out (by omega)
            rw [show j = k by omega]
            exact ⟨by have := this.1; omega, fun i hi => by have := this.2 i hi; omega⟩
      · have : k = n := by omega
        subst this
        go_wp2
        go_ret
        exact ⟨v, rfl, hv1, fun _ => ⟨by omega, hn.out⟩, hb.out⟩
/-- A module. -/
structure Md where
  consts : List (List Dt)
  globals : Int
  funcs : List Fn
/-- A module's value in w. -/
structure Mo (w : World) (cp : Option Addr) (cn cc : Nat) (fp : Option Addr) (fn fc : Nat) (m : Md) : Prop where
  cs : Dd w cp cn cc m.consts
  fs : Fu w fp fn fc m.funcs
theorem Mo.below {w w' : World} {cp : Option Addr} {cn cc : Nat} {fp : Option Addr} {fn fc : Nat} {m : Md} (h : Mo w cp cn cc fp fn fc m) (hb : Below w.heap.size w w') : Mo w' cp cn cc fp fn fc m := ⟨h.cs.below hb, h.fs.below hb⟩
/-- Sizes that keep to the laws' bound. -/
structure Fits (cn fn : Nat) (m : Md) : Prop where
  hcn : cn ≤ 1048576
  hfn : fn ≤ 1048576
  cs : ∀ i, i < cn → DsFit (m.consts.getD i []) 1048576
  fs : FnsFit m.funcs fn 1048576
set_option maxHeartbeats 1000000 in
theorem szModule_c (cp : Option Addr) (cn cc : Nat) (fp : Option Addr) (fn fc : Nat) (m : Md) (w : World) (hM : Mo w cp cn cc fp fn fc m) :
    Calls Tryd.prog 4 #[.agg #[.slice cp cn cc, .int .i64 m.globals, .slice fp fn fc], .int .i64 1048576] w fun e w' => ∃ v : Int, e = .returned (.int .i64 v) ∧ (0 ≤ v → Fits cn fn m) ∧ Below w.heap.size w w' := by
  have HM : Hid (Mo w cp cn cc fp fn fc m) := hM
  clear hM
  go_enter Tryd.func4, Tryd.ntmps4
  go_wp2_with fail
  refine (szDatumSS_c cp cn cc m.consts 1048576 _ (HM.out.cs.below (below1 _ _)) (by omega) (by omega)).mono ?_
  rintro e w1 ⟨v, rfl, hv1, hv2, hb1⟩
  have HB1 : Hid (Below w.heap.size w w1) := below_alloc hb1
  have HV : Hid (0 ≤ v → (cn : Int) ≤ 1048576 ∧ ∀ i, i < cn → DsFit (m.consts.getD i []) 1048576) := hv2
  have c2 := (hb1.cell (p := ⟨w.heap.size, 2, none⟩) (by simp))
  simp [go_sem] at c2
  clear hb1 hv2
  by_cases hneg : v < 0
  · go_wp2
    go_ret
    exact ⟨-1, rfl, fun h => by omega, HB1.out⟩
  · go_wp2_with fail
    refine (szFuncS_c fp fn fc m.funcs v _ (HM.out.fs.below HB1.out) (by omega) (by omega)).mono ?_
    rintro e w2 ⟨u, rfl, hu1, hu2, hb2⟩
    have HB2 : Hid (Below w.heap.size w w2) := HB1.out.trans (hb2.mono HB1.out.size)
    have HU : Hid (0 ≤ u → (fn : Int) ≤ v ∧ FnsFit m.funcs fn v) := hu2
    clear hb2 hu2
    by_cases hneg2 : u < 0
    · go_wp2
      go_ret
      exact ⟨-1, rfl, fun h => by omega, HB2.out⟩
    · go_wp2
      go_ret
      refine ⟨u, rfl, fun h => ?_, HB2.out⟩
      obtain ⟨a1, a2⟩ := HV.out (by omega)
      obtain ⟨b1, b2⟩ := HU.out h
      exact ⟨by omega, by omega, a2, fun i hi => ⟨by have := (b2 i hi).1; omega, by have := (b2 i hi).2; omega⟩⟩
end Go.Proofs.YtlpibogllmlacaaDoor
