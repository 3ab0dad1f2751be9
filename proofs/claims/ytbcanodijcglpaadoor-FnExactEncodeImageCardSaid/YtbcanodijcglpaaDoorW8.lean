import Derived.Test.YtbcanodijcglpaaDoorW7
namespace Go.Proofs.YtbcanodijcglpaaDoor
open Go.RowKit Ch1
theorem info47 : (Tryd.prog.info? 75).map (fun i => (i.zero, i.size, i.bytes)) = some (some (.agg #[.int .i64 0, .int .i64 0, .slice none 0 0, .int .i64 0]), 4, 48) := by kernel_rfl
/-- The first k of n data lie in block g. -/
def Row (w : World) (g : Nat) (ds : List Dt) (n k : Nat) : Prop := ∃ (f : Nat → Value) (t : Nat → Nat), w.rowIs g 75 (n * 4) f ∧ ∀ i, i < k →
  f (i * 4) = .int .i64 (ds.getD i dt0).kind ∧ f (i * 4 + 1) = .int .i64 (ds.getD i dt0).n ∧
  f (i * 4 + 2) = .slice (some ⟨t i, 0, none⟩) (ds.getD i dt0).text.length (ds.getD i dt0).text.length ∧
  f (i * 4 + 3) = .int .i64 (ds.getD i dt0).count ∧ g < t i ∧
  By w (some ⟨t i, 0, none⟩) (ds.getD i dt0).text.length (ds.getD i dt0).text.length (ds.getD i dt0).text
theorem Row.made {w w' : World} {g n : Nat} {xs : List Value} (ds : List Dt) (ho : w'.ownsRow g 75 4 (.slice (some ⟨w.heap.size, 0, none⟩) n n) n xs) : Row w' w.heap.size ds n 0 := by
  obtain ⟨_, h | ⟨g', cap, cur, hv, _, hh, _, _, hsz, _⟩⟩ := ho
  · cases h.1
  · cases hv
    exact ⟨fun i => cur.getD i .nilIface, fun _ => 0, ⟨cur, hh, hsz, fun i hi => by simp [Array.getD, show i < cur.size by omega]⟩, fun i hi => absurd hi (Nat.not_lt_zero i)⟩
theorem Row.below {w w' : World} {g n k : Nat} {ds : List Dt} (h : Row w g ds n k) (hb : Below w.heap.size w w') : Row w' g ds n k := by
  obtain ⟨f, t, hr, hc⟩ := h
  refine ⟨f, t, hr.of_block (hb.block g hr.lt), fun i hi => ?_⟩
  obtain ⟨h0, h1, h2, h3, h4, h5⟩ := hc i hi
  exact ⟨h0, h1, h2, h3, h4, h5.below hb⟩
theorem Row.store {w : World} {g n k : Nat} {ds : List Dt} (h : Row w g ds n k) (hk : k < n) (t : Nat) (ht : g < t) (hb : By w (some ⟨t, 0, none⟩) (ds.getD k dt0).text.length (ds.getD k dt0).text.length (ds.getD k dt0).text) :
    Row ((((w.setCell ⟨g, k * 4, none⟩ (.int .i64 (ds.getD k dt0).kind)).setCell ⟨g, k * 4 + 1, none⟩ (.int .i64 (ds.getD k dt0).n)).setCell ⟨g, k * 4 + 2, none⟩ (.slice (some ⟨t, 0, none⟩) (ds.getD k dt0).text.length (ds.getD k dt0).text.length)).setCell ⟨g, k * 4 + 3, none⟩ (.int .i64 (ds.getD k dt0).count)) g ds n (k + 1) := by
  obtain ⟨f, t', hr, hc⟩ := h
  refine ⟨_, fun i => if i = k then t else t' i, (((hr.set (k * 4) _).set (k * 4 + 1) _).set (k * 4 + 2) _).set (k * 4 + 3) _, fun i hi => ?_⟩
  by_cases e : i = k
  · subst e
    refine ⟨by simp, by simp, by simp, by simp, by simpa using ht, ?_⟩
    simp only [if_true]
    exact (((hb.setCell (by simp; omega) _).setCell (by simp; omega) _).setCell (by simp; omega) _).setCell (by simp; omega) _
  · obtain ⟨h0, h1, h2, h3, h4, h5⟩ := hc i (by omega)
    have q : ∀ a b, a < 4 → b < 4 → ¬ (i * 4 + a = k * 4 + b) := fun a b ha hb => by omega
    refine ⟨?_, ?_, ?_, ?_, by simp [e, h4], ?_⟩
    · rw [if_neg (by have := q 0 3 (by omega) (by omega); omega), if_neg (by have := q 0 2 (by omega) (by omega); omega), if_neg (by have := q 0 1 (by omega) (by omega); omega), if_neg (by have := q 0 0 (by omega) (by omega); omega)]; exact h0
    · rw [if_neg (q 1 3 (by omega) (by omega)), if_neg (q 1 2 (by omega) (by omega)), if_neg (q 1 1 (by omega) (by omega)), if_neg (by have := q 1 0 (by omega) (by omega); omega)]; exact h1
    · rw [if_neg (q 2 3 (by omega) (by omega)), if_neg (q 2 2 (by omega) (by omega)), if_neg (q 2 1 (by omega) (by omega)), if_neg (by have := q 2 0 (by omega) (by omega); omega)]; simp only [if_neg e]; exact h2
    · rw [if_neg (q 3 3 (by omega) (by omega)), if_neg (q 3 2 (by omega) (by omega)), if_neg (q 3 1 (by omega) (by omega)), if_neg (by have := q 3 0 (by omega) (by omega); omega)]; exact h3
    · simp only [if_neg e]
      exact (((h5.setCell (by simp; omega) _).setCell (by simp; omega) _).setCell (by simp; omega) _).setCell (by simp; omega) _
theorem Row.cells {w : World} {g n k : Nat} {ds : List Dt} (h : Row w g ds n k) (i : Nat) (hi : i < n * 4) : ∃ v, w.cell? ⟨g, i, none⟩ = some v ∧ w.frozen? ⟨g, i, none⟩ = false := by
  obtain ⟨f, t, hr, _⟩ := h
  exact ⟨_, hr.cell hi, hr.frozen i⟩
theorem Row.lt {w : World} {g n k : Nat} {ds : List Dt} (h : Row w g ds n k) : g < w.heap.size := h.choose_spec.choose_spec.1.lt
theorem Row.da {w : World} {g n : Nat} {ds : List Dt} (h : Row w g ds n n) (hl : ds.length = n) (hbig : n ≤ maxLen) (hw : ∀ i, i < n → -9223372036854775808 ≤ (ds.getD i dt0).count ∧ (ds.getD i dt0).count ≤ 9223372036854775807) : Da w (some ⟨g, 0, none⟩) n n ds := by
  refine ⟨hl, Nat.le_refl _, hbig, fun hn => ⟨g, 0, rfl, h.lt, fun i hi => ?_⟩⟩
  obtain ⟨f, t, hr, hc⟩ := h
  obtain ⟨h0, h1, h2, h3, h4, h5⟩ := hc i hi
  refine ⟨_, _, _, ?_, ?_, ?_, ?_, h5, (hw i hi).1, (hw i hi).2⟩
  · rw [Nat.zero_add, ← h0]; exact hr.cell (by omega)
  · rw [Nat.zero_add, ← h1]; exact hr.cell (by omega)
  · rw [Nat.zero_add, ← h2]; exact hr.cell (by omega)
  · rw [Nat.zero_add, ← h3]; exact hr.cell (by omega)

set_option maxHeartbeats 1000000 in
theorem toDatumSr (p : Option Addr) (n c : Nat) (ds : List Dt) (w : World) (hD : Da w p n c ds) (hn : n ≤ 1048576) (ht : ∀ i, i < n → ((ds.getD i dt0).text.length : Int) ≤ 1048576) :
    Calls Tryd.prog 36 #[.slice p n c] w fun e w' => e = .returned (.slice (some ⟨w.heap.size, 0, none⟩) n n) ∧ Da w' (some ⟨w.heap.size, 0, none⟩) n n ds ∧ Row w' w.heap.size ds n n ∧ Below w.heap.size w w' := by
  have HD : Hid (Da w p n c ds) := hD
  have HT : Hid (∀ i, i < n → ((ds.getD i dt0).text.length : Int) ≤ 1048576) := ht
  clear hD ht
  obtain ⟨i47, hi47, hpr⟩ := Option.map_eq_some_iff.1 info47
  simp only [Prod.mk.injEq] at hpr
  obtain ⟨hz47, hs47, hb47⟩ := hpr
  have HI : Hid (Tryd.prog.info? 75 = some i47 ∧ i47.zero = some (.agg #[.int .i64 0, .int .i64 0, .slice none 0 0, .int .i64 0]) ∧ i47.size = 4 ∧ i47.bytes = 48) := ⟨hi47, hz47, hs47, hb47⟩
  clear hi47 hz47 hs47 hb47
  go_enter Tryd.func36, Tryd.ntmps36
  go_wp2_with (at_make; refine wpList_make_full _ rfl (.tmp 6) (.tmp 6) 47 rfl w.heap.size 75 i47 _ 4 Tryd.underlying47 HI.out.1 HI.out.2.1 HI.out.2.2.1 .i64 .i64 n n n (by simp [Act.eval]) (by simp [Act.eval]) rfl rfl (by rw [HI.out.2.2.2]; omega) (by unfold maxLen; omega) (Nat.le_refl _) ?_)
  intro w0 ho hg
  have HR : Hid (Row w0 w.heap.size ds n 0) := Row.made ds ho
  have HBL : Hid (Below w.heap.size w w0) := (Below.refl _ w).grown hg (Nat.le_refl _) (fun k h => by cases h)
  clear ho hg
  go_wp2
  go_loopw [4] (fun i wr => ∃ k : Nat, k ≤ n ∧ i = .int .i64 k ∧ Hid (Row wr w.heap.size ds n k) ∧ Hid (Below w.heap.size w wr)) (fun i _ => n - (intOf i).toNat)
  case atStart => exact ⟨0, Nat.zero_le _, rfl, HR, HBL⟩
  case round =>
    clear HR HBL w0
    obtain ⟨k, hk, rfl, hr, hb⟩ := hrel
    by_cases hlt : k < n
    · obtain ⟨b, o, rfl, hbl, g⟩ := HD.out.cells (by omega)
      obtain ⟨tp, tn, tc, he⟩ := g k hlt
      clear g
      have htl : Hid ((ds.getD k dt0).text.length = tn) := he.by_.len
      have htn : tn ≤ 1048576 := by have := HT.out k hlt; rw [htl.out] at this; omega
      have he' := he.below (w' := wr) hbl hb.out
      have HY : Hid (By wr tp tn tc (ds.getD k dt0).text) := he'.by_
      have e0 := he'.c0
      have e1 := he'.c1
      have e2 := he'.c2
      have e3 := he'.c3
      clear he he'
      have hgl := hr.out.lt
      have HST : Hid (∀ (w1 : World) (t : Nat), Below wr.heap.size wr w1 → wr.heap.size ≤ t → By w1 (some ⟨t, 0, none⟩) tn tn (ds.getD k dt0).text →
        Row ((((w1.setCell ⟨w.heap.size, k * 4, none⟩ (.int .i64 (ds.getD k dt0).kind)).setCell ⟨w.heap.size, k * 4 + 1, none⟩ (.int .i64 (ds.getD k dt0).n)).setCell ⟨w.heap.size, k * 4 + 2, none⟩ (.slice (some ⟨t, 0, none⟩) tn tn)).setCell ⟨w.heap.size, k * 4 + 3, none⟩ (.int .i64 (ds.getD k dt0).count)) w.heap.size ds n (k + 1)) := by
        intro w1 t h1 h2 h3
        rw [← htl.out] at h3 ⊢
        exact (hr.out.below h1).store hlt t (by omega) h3
      generalize ds.getD k dt0 = d at e0 e1 e2 e3 HY HST
      go_wp2_with (go_at_call 54; refine (toDatum17 _ _ _ tp tn tc d.text _ HY.out htn).mono ?_; rintro e w1 ⟨t, rfl, ht1, hby, hb1⟩; have hz := hb1.size; obtain ⟨v0, cc0, ff0⟩ := (hr.out.below hb1).cells (k * 4) (by omega); obtain ⟨v1, cc1, ff1⟩ := (hr.out.below hb1).cells (k * 4 + 1) (by omega); obtain ⟨v2, cc2, ff2⟩ := (hr.out.below hb1).cells (k * 4 + 2) (by omega); obtain ⟨v3, cc3, ff3⟩ := (hr.out.below hb1).cells (k * 4 + 3) (by omega))
      exact ⟨⟨k + 1, by omega, by go_num, HST.out w1 t hb1 ht1 hby, ((((hb.out.trans (hb1.mono hb.out.size)).setCell (Nat.le_refl _) _).setCell (Nat.le_refl _) _).setCell (Nat.le_refl _) _).setCell (Nat.le_refl _) _⟩, by simp [intOf]; omega⟩
    · have : k = n := by omega
      subst this
      go_wp2
      go_ret
      refine ⟨rfl, hr.out.da HD.out.len (by unfold maxLen; omega) (fun i hi => ?_), hr.out, hb.out⟩
      obtain ⟨b, o, _, _, g⟩ := HD.out.cells (by omega)
      obtain ⟨tp, tn, tc, he⟩ := g i hi
      exact ⟨he.lo, he.hi⟩
theorem toDatumS7 (p : Option Addr) (n c : Nat) (ds : List Dt) (w : World) (hD : Da w p n c ds) (hn : n ≤ 1048576) (ht : ∀ i, i < n → ((ds.getD i dt0).text.length : Int) ≤ 1048576) :
    Calls Tryd.prog 36 #[.slice p n c] w fun e w' => e = .returned (.slice (some ⟨w.heap.size, 0, none⟩) n n) ∧ Da w' (some ⟨w.heap.size, 0, none⟩) n n ds ∧ Below w.heap.size w w' :=
  (toDatumSr p n c ds w hD hn ht).mono fun _ _ ⟨h1, h2, _, h3⟩ => ⟨h1, h2, h3⟩
end Go.Proofs.YtbcanodijcglpaaDoor
