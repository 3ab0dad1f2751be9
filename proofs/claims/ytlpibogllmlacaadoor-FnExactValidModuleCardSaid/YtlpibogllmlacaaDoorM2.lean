import Derived.Test.YtlpibogllmlacaaDoorM1
namespace Go.Proofs.YtlpibogllmlacaaDoor
open Go.RowKit Ch1
theorem Bo.setOther {w : World} {p : Option Addr} {n c : Nat} {bs : List Bool} (h : Bo w p n c bs) {a : Addr} (ha : ∀ x, p = some x → x.block ≠ a.block) (v : Value) : Bo (w.setCell a v) p n c bs := by
  refine ⟨h.len, h.cap, h.big, fun hn => ?_⟩
  obtain ⟨b, o, e, hlt, hc⟩ := h.cells hn
  exact ⟨b, o, e, by simpa [World.setCell] using hlt, fun i hi => by rw [World.cell?_of_block (w := w) (Below.heap_setCell w a v b (ha _ e))]; exact hc i hi⟩
theorem Ii.setOther {w : World} {p : Option Addr} {n c : Nat} {xs : List In} (h : Ii w p n c xs) {a : Addr} (ha : ∀ x, p = some x → x.block ≠ a.block) (v : Value) : Ii (w.setCell a v) p n c xs := by
  refine ⟨h.len, h.cap, h.big, fun hn => ?_⟩
  obtain ⟨b, o, e, hlt, hc⟩ := h.cells hn
  refine ⟨b, o, e, by simpa [World.setCell] using hlt, fun i hi => ?_⟩
  have hq := Below.heap_setCell w a v b (ha _ e)
  obtain ⟨h0, h1, h2⟩ := hc i hi
  exact ⟨by rw [World.cell?_of_block (w := w) hq]; exact h0, by rw [World.cell?_of_block (w := w) hq]; exact h1, by rw [World.cell?_of_block (w := w) hq]; exact h2⟩
theorem Row.setLow {w : World} {g n k : Nat} {ds : List Dt} (h : Row w g ds n k) {a : Addr} (ha : a.block < g) (v : Value) : Row (w.setCell a v) g ds n k := by
  obtain ⟨f, t, hr, hc⟩ := h
  refine ⟨f, t, hr.of_block (Below.heap_setCell w a v g (by omega)), fun i hi => ?_⟩
  obtain ⟨h0, h1, h2, h3, h4, h5⟩ := hc i hi
  exact ⟨h0, h1, h2, h3, h4, h5.setCell (by omega) v⟩
/-! ### copies -/
theorem info4 : (Tryd.prog.info? 4).map (fun i => (i.zero, i.size, i.bytes)) = some (some (.bool false), 1, 1) := by kernel_rfl
set_option maxHeartbeats 400000 in
theorem toBoolS_c (p : Option Addr) (n c : Nat) (bs : List Bool) (w : World) (h : Bo w p n c bs) (hn : n ≤ 1048576) :
    Calls Tryd.prog 37 #[.slice p n c] w fun e w' => e = .returned (.slice (some ⟨w.heap.size, 0, none⟩) n n) ∧ Bo w' (some ⟨w.heap.size, 0, none⟩) n n bs ∧ Below w.heap.size w w' := by
  have HB : Hid (Bo w p n c bs) := h
  clear h
  have hmk := run_make_row' (P := Tryd.prog) 41 4 (.bool false) 1 Tryd.underlying41 info4 rfl .i64 .i64 n (by omega) (by omega)
  go_enter Tryd.func37, Tryd.ntmps37
  go_wp2
  clear hmk
  go_loopw [4] (fun i wr => ∃ k : Nat, k ≤ n ∧ i = .int .i64 k ∧ Hid (wr.rowIs w.heap.size 4 n (fun j => .bool (if j < k then bs.getD j false else false))) ∧ Hid (Below w.heap.size w wr)) (fun i _ => n - (intOf i).toNat)
  case atStart =>
    refine ⟨0, Nat.zero_le _, rfl, ?_, ?_⟩
    · exact (World.rowIs_made w (.bool false) n 4).congr (fun j _ => by simp)
    · exact (Below.refl _ _).alloc (Nat.le_refl _) _
  case round =>
    obtain ⟨k, hk, rfl, hr, hb⟩ := hrel
    by_cases hlt : k < n
    · obtain ⟨b, o, rfl, hold, g⟩ := HB.out.cells (by omega)
      have g1 := g k hlt
      clear g
      rw [← hb.out.cell (p := ⟨b, o + k, none⟩) hold] at g1
      have g2 := hr.out.cell hlt
      have g3 := hr.out.frozen k
      obtain ⟨bk, hbk⟩ : ∃ bk, bs.getD k false = bk := ⟨_, rfl⟩
      have HBK : Hid (bs.getD k false = bk) := hbk
      rw [hbk] at g1
      clear hbk
      go_wp2
      refine ⟨⟨k + 1, by omega, by go_num, (hr.out.set k _).congr (fun j hj => ?_), hb.out.setCell (Nat.le_refl _) _⟩, by simp [intOf]; omega⟩
      by_cases e : j = k
      · subst e; rw [if_pos rfl, if_pos (Nat.lt_succ_self _), HBK.out]
      · by_cases e2 : j < k
        · simp [e, e2, show j < k + 1 by omega]
        · simp [e, e2, show ¬ j < k + 1 by omega]
    · have : k = n := by omega
      subst this
      go_wp2
      go_ret
      refine ⟨rfl, ⟨HB.out.len, Nat.le_refl _, by unfold maxLen; omega, fun hp => ⟨w.heap.size, 0, rfl, hr.out.lt, fun i hi => ?_⟩⟩, hb.out⟩
      have := hr.out.cell hi
      rw [if_pos hi] at this
      simpa using this
set_option maxHeartbeats 1000000 in
theorem toIns_c (x y z : Int) (w : World) :
    Calls Tryd.prog 48 #[.agg #[.int .i64 x, .int .i64 y, .int .i64 z]] w fun e w' => e = .returned (.agg #[.int .i64 x, .int .i64 y, .int .i64 z]) ∧ Below w.heap.size w w' := by
  go_enter Tryd.func48, Tryd.ntmps48
  go_wp2
  exact bodyPost_ret (v := .agg #[.int .i64 x, .int .i64 y, .int .i64 z]) (by simp [results, Tryd.results48, go_sem]) rfl ⟨rfl, below3 _ _ _ _⟩
theorem infoIns : (Tryd.prog.info? 47).map (fun i => (i.zero, i.size, i.bytes)) = some (some (.agg #[.int .i64 0, .int .i64 0, .int .i64 0]), 3, 24) := by kernel_rfl
/-- The first k of n instructions lie in block g. -/
def RowI (w : World) (g : Nat) (xs : List In) (n k : Nat) : Prop := ∃ f : Nat → Value, w.rowIs g 47 (n * 3) f ∧ ∀ i, i < k → f (i * 3) = .int .i64 (xs.getD i in0).op ∧ f (i * 3 + 1) = .int .i64 (xs.getD i in0).a ∧ f (i * 3 + 2) = .int .i64 (xs.getD i in0).b
theorem RowI.made {w w' : World} {g n : Nat} {vs : List Value} (xs : List In) (ho : w'.ownsRow g 47 3 (.slice (some ⟨w.heap.size, 0, none⟩) n n) n vs) : RowI w' w.heap.size xs n 0 := by
  obtain ⟨_, h | ⟨g', cap, cur, hv, _, hh, _, _, hsz, _⟩⟩ := ho
  · cases h.1
  · cases hv
    exact ⟨fun i => cur.getD i .nilIface, ⟨cur, hh, hsz, fun i hi => by simp [Array.getD, show i < cur.size by omega]⟩, fun i hi => absurd hi (Nat.not_lt_zero i)⟩
theorem RowI.below {w w' : World} {g n k : Nat} {xs : List In} (h : RowI w g xs n k) (hb : Below w.heap.size w w') : RowI w' g xs n k := by
  obtain ⟨f, hr, hc⟩ := h
  exact ⟨f, hr.of_block (hb.block g hr.lt), hc⟩
theorem RowI.cells {w : World} {g n k : Nat} {xs : List In} (h : RowI w g xs n k) (i : Nat) (hi : i < n * 3) : ∃ v, w.cell? ⟨g, i, none⟩ = some v ∧ w.frozen? ⟨g, i, none⟩ = false := by
  obtain ⟨f, hr, _⟩ := h
  exact ⟨_, hr.cell hi, hr.frozen i⟩
theorem q3 {i k : Nat} (e : i ≠ k) : ∀ a b, a < 3 → b < 3 → ¬ (i * 3 + a = k * 3 + b) := fun a b ha hb => by omega
theorem RowI.store {w : World} {g n k : Nat} {xs : List In} (h : RowI w g xs n k) (x : In) (hx : xs.getD k in0 = x) :
    RowI (((w.setCell ⟨g, k * 3, none⟩ (.int .i64 x.op)).setCell ⟨g, k * 3 + 1, none⟩ (.int .i64 x.a)).setCell ⟨g, k * 3 + 2, none⟩ (.int .i64 x.b)) g xs n (k + 1) := by
  obtain ⟨f, hr, hc⟩ := h
  refine ⟨_, ((hr.set (k * 3) _).set (k * 3 + 1) _).set (k * 3 + 2) _, fun i hi => ?_⟩
  by_cases e : i = k
  · subst e
    rw [hx]
    exact ⟨by simp, by simp, by simp⟩
  · obtain ⟨h0, h1, h2⟩ := hc i (by omega)
    have q := q3 e
    refine ⟨?_, ?_, ?_⟩
    · rw [if_neg (by have := q 0 2 (by omega) (by omega); omega), if_neg (by have := q 0 1 (by omega) (by omega); omega), if_neg (by have := q 0 0 (by omega) (by omega); omega)]; exact h0
    · rw [if_neg (q 1 2 (by omega) (by omega)), if_neg (q 1 1 (by omega) (by omega)), if_neg (by have := q 1 0 (by omega) (by omega); omega)]; exact h1
    · rw [if_neg (q 2 2 (by omega) (by omega)), if_neg (q 2 1 (by omega) (by omega)), if_neg (by have := q 2 0 (by omega) (by omega); omega)]; exact h2
theorem RowI.ii {w : World} {g n : Nat} {xs : List In} (h : RowI w g xs n n) (hl : xs.length = n) (hbig : n ≤ maxLen) : Ii w (some ⟨g, 0, none⟩) n n xs := by
  obtain ⟨f, hr, hc⟩ := h
  refine ⟨hl, Nat.le_refl _, hbig, fun hn => ⟨g, 0, rfl, hr.lt, fun i hi => ?_⟩⟩
  obtain ⟨h0, h1, h2⟩ := hc i hi
  refine ⟨?_, ?_, ?_⟩
  · rw [Nat.zero_add, ← h0]; exact hr.cell (by omega)
  · rw [Nat.zero_add, ← h1]; exact hr.cell (by omega)
  · rw [Nat.zero_add, ← h2]; exact hr.cell (by omega)
set_option maxHeartbeats 1000000 in
theorem toInsS_c (p : Option Addr) (n c : Nat) (xs : List In) (w : World) (hD : Ii w p n c xs) (hn : n ≤ 1048576) :
    Calls Tryd.prog 38 #[.slice p n c] w fun e w' => e = .returned (.slice (some ⟨w.heap.size, 0, none⟩) n n) ∧ Ii w' (some ⟨w.heap.size, 0, none⟩) n n xs ∧ Below w.heap.size w w' := by
  have HD : Hid (Ii w p n c xs) := hD
  clear hD
  obtain ⟨ii, hi1, hpr⟩ := Option.map_eq_some_iff.1 infoIns
  simp only [Prod.mk.injEq] at hpr
  obtain ⟨hz, hs, hb⟩ := hpr
  have HI : Hid (Tryd.prog.info? 47 = some ii ∧ ii.zero = some (.agg #[.int .i64 0, .int .i64 0, .int .i64 0]) ∧ ii.size = 3 ∧ ii.bytes = 24) := ⟨hi1, hz, hs, hb⟩
  clear hi1 hz hs hb
  go_enter Tryd.func38, Tryd.ntmps38
  go_wp2_with (at_make; refine wpList_make_full _ rfl (.tmp 6) (.tmp 6) 42 rfl w.heap.size 47 ii _ 3 Tryd.underlying42 HI.out.1 HI.out.2.1 HI.out.2.2.1 .i64 .i64 n n n (by simp [Act.eval]) (by simp [Act.eval]) rfl rfl (by rw [HI.out.2.2.2]; omega) (by unfold maxLen; omega) (Nat.le_refl _) ?_)
  intro w0 ho hg
  have HR : Hid (RowI w0 w.heap.size xs n 0) := RowI.made xs ho
  have HBL : Hid (Below w.heap.size w w0) := (Below.refl _ w).grown hg (Nat.le_refl _) (fun k h => by cases h)
  clear ho hg
  go_wp2
  go_loopw [4] (fun i wr => ∃ k : Nat, k ≤ n ∧ i = .int .i64 k ∧ Hid (RowI wr w.heap.size xs n k) ∧ Hid (Below w.heap.size w wr)) (fun i _ => n - (intOf i).toNat)
  case atStart => exact ⟨0, Nat.zero_le _, rfl, HR, HBL⟩
  case round =>
    clear HR HBL w0
    obtain ⟨k, hk, rfl, hr, hb⟩ := hrel
    by_cases hlt : k < n
    · obtain ⟨b, o, rfl, hbl, g⟩ := HD.out.cells (by omega)
      obtain ⟨e0, e1, e2⟩ := g k hlt
      clear g
      rw [← hb.out.cell (p := ⟨b, o + k * 3, none⟩) hbl] at e0
      rw [← hb.out.cell (p := ⟨b, o + k * 3 + 1, none⟩) hbl] at e1
      rw [← hb.out.cell (p := ⟨b, o + k * 3 + 2, none⟩) hbl] at e2
      obtain ⟨x, hx⟩ : ∃ x, xs.getD k in0 = x := ⟨_, rfl⟩
      have HX : Hid (xs.getD k in0 = x) := hx
      rw [hx] at e0 e1 e2
      clear hx
      have HST : Hid (∀ w1 : World, Below wr.heap.size wr w1 → RowI (((w1.setCell ⟨w.heap.size, k * 3, none⟩ (.int .i64 x.op)).setCell ⟨w.heap.size, k * 3 + 1, none⟩ (.int .i64 x.a)).setCell ⟨w.heap.size, k * 3 + 2, none⟩ (.int .i64 x.b)) w.heap.size xs n (k + 1)) := fun w1 h1 => (hr.out.below h1).store x HX.out
      go_wp2_with (go_at_call 48; refine (toIns_c _ _ _ _).mono ?_; rintro e w1 ⟨rfl, hb1⟩; have hz := hb1.size; obtain ⟨v0, cc0, ff0⟩ := (hr.out.below hb1).cells (k * 3) (by omega); obtain ⟨v1, cc1, ff1⟩ := (hr.out.below hb1).cells (k * 3 + 1) (by omega); obtain ⟨v2, cc2, ff2⟩ := (hr.out.below hb1).cells (k * 3 + 2) (by omega))
      exact ⟨⟨k + 1, by omega, by go_num, HST.out w1 hb1, (((hb.out.trans (hb1.mono hb.out.size)).setCell (Nat.le_refl _) _).setCell (Nat.le_refl _) _).setCell (Nat.le_refl _) _⟩, by simp [intOf]; omega⟩
    · have : k = n := by omega
      subst this
      go_wp2
      go_ret
      exact ⟨rfl, hr.out.ii HD.out.len (by unfold maxLen; omega), hb.out⟩
end Go.Proofs.YtlpibogllmlacaaDoor
