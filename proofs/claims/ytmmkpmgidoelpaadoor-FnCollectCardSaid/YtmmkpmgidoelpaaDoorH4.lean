import Derived.Test.YtmmkpmgidoelpaaDoorH3
namespace Go.Proofs.YtmmkpmgidoelpaaDoor.Hp
open Go.RowKit Ch2
theorem info4 : (Tryd.prog.info? 4).map (fun i => (i.zero, i.size, i.bytes)) = some (some (.bool false), 1, 1) := by kernel_rfl
/-- What is answered of where objects begin: C asks what is needed. -/
def StP (ws : List Int) (top : Int) (C : Prop) (w w' : World) (e : Ending) : Prop :=
  (e = .returned (.tuple #[.slice none 0 0, .bool false]) ∧ ¬ C ∧ Below w.heap.size w w') ∨
  (∃ q, e = .returned (.tuple #[.slice q top.toNat top.toNat, .bool true]) ∧ C ∧ Sb w' q top.toNat top.toNat (stB ws top.toNat) ∧ Below w.heap.size w w')
theorem Bx.setCell {w : World} {b n c : Nat} {p : Option Addr} {top : Int} (h : Bx w b p n c top) {a : Addr} (ha : b ≠ a.block) (v : Value) : Bx (w.setCell a v) b p n c top :=
  ⟨by rw [World.cell?_of_block (w := w) (Below.heap_setCell w a v b ha)]; exact h.c0, by rw [World.cell?_of_block (w := w) (Below.heap_setCell w a v b ha)]; exact h.c1, by simpa [World.setCell] using h.lt⟩
/-- A row of bools in a block of the call's own. -/
theorem Sb.of_row {w : World} {g n : Nat} {f : Nat → Bool} (h : w.rowIs g 4 n (fun j => .bool (f j))) (hn : n ≤ maxLen) : Sb w (some ⟨g, 0, none⟩) n n f :=
  ⟨Nat.le_refl _, hn, fun _ => ⟨g, 0, rfl, h.lt, fun i hi => by rw [Nat.zero_add]; exact h.cell hi⟩⟩
/-- What a round of the loop from header to header keeps. -/
def StR (ws : List Int) (T : Nat) (w : World) (p : Option Addr) (n c : Nat) (R : Nat → Prop) (i : Value) (wr : World) : Prop := ∃ k a : Nat, Hid (sq ws T k = a) ∧ a ≤ T ∧ i = .int .i64 a ∧ Hid (∀ q, St ws T q → q < a → R q) ∧ Hid (wr.rowIs (w.heap.size + 1) 4 T (fun j => .bool (mrk ws T a j))) ∧ Hid (Bx wr w.heap.size p n c T) ∧ Hid (Below w.heap.size w wr)
set_option maxRecDepth 20000 in
set_option maxHeartbeats 4000000 in
theorem l2starts_c (p : Option Addr) (n c : Nat) (top : Int) (ws : List Int) (w : World) (h : Is w p n c ws) (ht0 : -9223372036854775808 ≤ top) (ht1 : top ≤ 9223372036854775807) :
    Calls Tryd.prog 34 #[.agg #[.slice p n c, .int .i64 top]] w fun e w' => StP ws top (Objs ws top) w w' e := by
  have HI : Hid (Is w p n c ws) := h
  have hbig := h.small.1
  have hlen : Hid (ws.length = n) := h.len
  clear h
  by_cases hbad : 20000 < n ∨ top < 0 ∨ (n : Int) < top
  · have HN : Hid (¬ Objs ws top) := by
      rintro ⟨h1, h2, h3, _⟩
      rw [hlen.out] at h1 h3
      omega
    by_cases h1 : 20000 < n
    · go_enter Tryd.func34, Tryd.ntmps34
      go_wp2
      exact bodyPost_ret (v := .tuple #[.slice none 0 0, .bool false]) (by simp [results, Tryd.results34, go_sem]) rfl (Or.inl ⟨rfl, HN.out, below1 w _⟩)
    · by_cases h2 : top < 0
      · go_enter Tryd.func34, Tryd.ntmps34
        go_wp2
        exact bodyPost_ret (v := .tuple #[.slice none 0 0, .bool false]) (by simp [results, Tryd.results34, go_sem]) rfl (Or.inl ⟨rfl, HN.out, below1 w _⟩)
      · have h3 : (n : Int) < top := by omega
        go_enter Tryd.func34, Tryd.ntmps34
        go_wp2
        exact bodyPost_ret (v := .tuple #[.slice none 0 0, .bool false]) (by simp [results, Tryd.results34, go_sem]) rfl (Or.inl ⟨rfl, HN.out, below1 w _⟩)
  · obtain ⟨T, rfl⟩ := Int.eq_ofNat_of_zero_le (show 0 ≤ top by omega)
    have hn2 : n ≤ 20000 := by omega
    have hT : T ≤ n := by omega
    clear hbad ht0 ht1
    have HTN : Hid (((T : Nat) : Int).toNat = T) := by unfold Hid; simp
    have HST : ∀ q, St ws T q → ¬ (HeadOk ws T q ∧ FnOk ws q) → ¬ Objs ws T := fun q hq hn => Objs.not (by simpa using hq) (by simpa using hn)
    have HST : Hid (∀ q, St ws T q → ¬ (HeadOk ws T q ∧ FnOk ws q) → ¬ Objs ws T) := HST
    have q1 : decide ((20000 : Int) < (n : Int)) = false := decide_eq_false (by omega)
    have q2 : decide ((T : Int) < 0) = false := decide_eq_false (by omega)
    have q3 : decide (n < T) = false := decide_eq_false (by omega)
    have hmk := run_make_row' (P := Tryd.prog) 43 4 (.bool false) 1 Tryd.underlying43 info4 rfl .i64 .i64 T (by omega) (by omega)
    go_enter Tryd.func34, Tryd.ntmps34
    go_wp2
    clear hmk q1 q2 q3
    go_loopw [5] (fun i wr => StR ws T w p n c (fun q => HeadOk ws T q ∧ FnOk ws q) i wr) (fun i _ => T - (intOf i).toNat)
    case atStart =>
      refine ⟨0, 0, rfl, Nat.zero_le _, rfl, fun q _ hq => absurd hq (Nat.not_lt_zero q), ?_, (Bx.new w p n c T _).below (below1 _ _), below2 w _ _⟩
      have := World.rowIs_made (w.alloc (.cells #[.slice p n c, .int .i64 T] 25)) (.bool false) T 4
      exact (by simpa using this : World.rowIs _ (w.heap.size + 1) 4 T (fun _ => .bool false)).congr (fun j _ => by rw [mrk_zero])
    case round =>
      obtain ⟨k, a, hsq, haT, rfl, hOK, hR, hX, hB⟩ := hrel
      have c0 := hX.out.c0
      have c1 := hX.out.c1
      by_cases hlt : a < T
      · obtain ⟨b, o, rfl, hbl, g⟩ := HI.out.cells (by omega)
        have g1 := g a (by omega)
        rw [← hB.out.cell (p := ⟨b, o + a, none⟩) hbl] at g1
        have hSt : Hid (St ws T a) := ⟨hlt, k, hsq.out⟩
        have r2 := hR.out.cell hlt
        have r3 := hR.out.frozen a
        have hrg := HI.out.rng a
        obtain ⟨x, hx⟩ : ∃ x, ws.getD a 0 = x := ⟨_, rfl⟩
        have HX : Hid (ws.getD a 0 = x) := hx
        rw [hx] at g1 hrg
        obtain ⟨hrg0, hrg1⟩ := hrg
        clear hx
        by_cases hx0 : x < 0
        · have HN : Hid (¬ (HeadOk ws T a ∧ FnOk ws a)) := by
            rintro ⟨⟨h1, _⟩, _⟩
            rw [HX.out] at h1
            have := (head_cnt h1).1
            omega
          clear g
          go_wp2
          exact bodyPost_ret (v := .tuple #[.slice none 0 0, .bool false]) (by simp [results, Tryd.results34, go_sem]) rfl (Or.inl ⟨rfl, HST.out a hSt.out HN.out, hB.out⟩)
        · obtain ⟨m, hm⟩ : ∃ m : Nat, x / 4 = m := ⟨(x / 4).toNat, by omega⟩
          have hcnt : Hid (cnt (ws.getD a 0) = m) := by unfold Hid; rw [HX.out]; exact cnt_of hm
          have HM : Hid (x / 4 = m) := hm
          have hm64 : m ≤ 9223372036854775807 := by omega
          by_cases hm1 : 1000 < m
          · have HN : Hid (¬ (HeadOk ws T a ∧ FnOk ws a)) := by
              rintro ⟨⟨h1, _⟩, _⟩
              rw [HX.out] at h1
              have := (head_cnt h1).2.1
              omega
            clear g
            go_wp2
            exact bodyPost_ret (v := .tuple #[.slice none 0 0, .bool false]) (by simp [results, Tryd.results34, go_sem]) rfl (Or.inl ⟨rfl, HST.out a hSt.out HN.out, hB.out⟩)
          · by_cases hm2 : T < a + 1 + m
            · have HN : Hid (¬ (HeadOk ws T a ∧ FnOk ws a)) := by
                rintro ⟨⟨_, h1⟩, _⟩
                rw [hcnt.out] at h1
                omega
              clear g
              go_wp2
              exact bodyPost_ret (v := .tuple #[.slice none 0 0, .bool false]) (by simp [results, Tryd.results34, go_sem]) rfl (Or.inl ⟨rfl, HST.out a hSt.out HN.out, hB.out⟩)
            · have HH : Hid ((x % 4 = 0 → m = 2) ∧ (x % 4 = 3 → m = 1) ∧ (x % 4 = 2 → 1 ≤ m) → HeadOk ws T a) := fun hk => ⟨by rw [HX.out]; exact headB_of (by omega) hm (by omega) hk, by rw [hcnt.out]; omega⟩
              have HF : Hid (x % 4 ≠ 2 → FnOk ws a) := fun hk h2 => absurd (by rw [← HX.out]; exact h2) hk
              by_cases k0 : x % 4 = 0
              · by_cases hm3 : m = 2
                · subst hm3
                  clear g
                  have HR2 : Hid (HeadOk ws T a ∧ FnOk ws a) := ⟨HH.out ⟨fun _ => rfl, fun h => by omega, fun h => by omega⟩, HF.out (by omega)⟩
                  go_wp2
                  refine ⟨⟨k + 1, a + 1 + 2, ?_, by omega, by go_num, ?_, ?_, hX.out.setCell (by simp) _, hB.out.setCell (by simp) _⟩, by simp [intOf]; omega⟩
                  · unfold Hid; rw [sq_step (by rw [hsq.out]; exact hlt), hsq.out, hcnt.out]
                  · have := step_known hSt.out hOK.out HR2.out
                    rw [hcnt.out] at this; exact this
                  · refine (hR.out.set a _).congr (fun j hj => ?_)
                    have := mrk_step hSt.out j
                    rw [hcnt.out] at this
                    rw [← this]
                    by_cases e : j = a
                    · rw [if_pos e, if_pos e]
                    · rw [if_neg e, if_neg e]
                · have HN : Hid (¬ (HeadOk ws T a ∧ FnOk ws a)) := by
                    rintro ⟨⟨h1, _⟩, _⟩
                    rw [HX.out] at h1
                    have := head_pair h1 k0
                    rw [cnt_of hm] at this
                    exact hm3 this
                  have hm4 : ((m : Int) != 2) = true := by simp; omega
                  clear g
                  go_wp2
                  exact bodyPost_ret (v := .tuple #[.slice none 0 0, .bool false]) (by simp [results, Tryd.results34, go_sem]) rfl (Or.inl ⟨rfl, HST.out a hSt.out HN.out, hB.out⟩)
              · by_cases k3 : x % 4 = 3
                · by_cases hm3 : m = 1
                  · subst hm3
                    clear g
                    have HR2 : Hid (HeadOk ws T a ∧ FnOk ws a) := ⟨HH.out ⟨fun h => by omega, fun _ => rfl, fun h => by omega⟩, HF.out (by omega)⟩
                    go_wp2
                    refine ⟨⟨k + 1, a + 1 + 1, ?_, by omega, by go_num, ?_, ?_, hX.out.setCell (by simp) _, hB.out.setCell (by simp) _⟩, by simp [intOf]; omega⟩
                    · unfold Hid; rw [sq_step (by rw [hsq.out]; exact hlt), hsq.out, hcnt.out]
                    · have := step_known hSt.out hOK.out HR2.out
                      rw [hcnt.out] at this; exact this
                    · refine (hR.out.set a _).congr (fun j hj => ?_)
                      have := mrk_step hSt.out j
                      rw [hcnt.out] at this
                      rw [← this]
                      by_cases e : j = a
                      · rw [if_pos e, if_pos e]
                      · rw [if_neg e, if_neg e]
                  · have HN : Hid (¬ (HeadOk ws T a ∧ FnOk ws a)) := by
                      rintro ⟨⟨h1, _⟩, _⟩
                      rw [HX.out] at h1
                      have := head_box h1 k3
                      rw [cnt_of hm] at this
                      exact hm3 this
                    have hm4 : ((m : Int) != 1) = true := by simp; omega
                    clear g
                    go_wp2
                    exact bodyPost_ret (v := .tuple #[.slice none 0 0, .bool false]) (by simp [results, Tryd.results34, go_sem]) rfl (Or.inl ⟨rfl, HST.out a hSt.out HN.out, hB.out⟩)
                · by_cases k2 : x % 4 = 2
                  · by_cases hm3 : m = 0
                    · subst hm3
                      have HN : Hid (¬ (HeadOk ws T a ∧ FnOk ws a)) := by
                        rintro ⟨⟨h1, _⟩, _⟩
                        rw [HX.out] at h1
                        have := head_clo h1 k2
                        rw [cnt_of hm] at this
                        omega
                      clear g
                      go_wp2
                      exact bodyPost_ret (v := .tuple #[.slice none 0 0, .bool false]) (by simp [results, Tryd.results34, go_sem]) rfl (Or.inl ⟨rfl, HST.out a hSt.out HN.out, hB.out⟩)
                    · have g2 := g (a + 1) (by omega)
                      rw [← hB.out.cell (p := ⟨b, o + (a + 1), none⟩) hbl] at g2
                      have hrg2 := HI.out.rng (a + 1)
                      obtain ⟨y, hy⟩ : ∃ y, ws.getD (a + 1) 0 = y := ⟨_, rfl⟩
                      have HY : Hid (ws.getD (a + 1) 0 = y) := hy
                      rw [hy] at g2 hrg2
                      obtain ⟨hrg20, hrg21⟩ := hrg2
                      clear g hy
                      by_cases hy0 : y < 0
                      · have HN : Hid (¬ (HeadOk ws T a ∧ FnOk ws a)) := by
                          rintro ⟨_, h1⟩
                          have := (h1 (by rw [HX.out]; exact k2)).1
                          rw [HY.out] at this
                          omega
                        go_wp2
                        exact bodyPost_ret (v := .tuple #[.slice none 0 0, .bool false]) (by simp [results, Tryd.results34, go_sem]) rfl (Or.inl ⟨rfl, HST.out a hSt.out HN.out, hB.out⟩)
                      · by_cases hy1 : y % 4 = 0
                        · have HR2 : Hid (HeadOk ws T a ∧ FnOk ws a) := ⟨HH.out ⟨fun h => by omega, fun h => by omega, fun _ => by omega⟩, fun _ => by rw [HY.out]; exact ⟨by omega, hy1⟩⟩
                          obtain ⟨z, hz⟩ : ∃ z : Nat, z = a + 1 + m := ⟨_, rfl⟩
                          have hzi : (a : Int) + (1 + (m : Int)) = (z : Int) := by omega
                          have HZ : Hid (z = a + 1 + m) := hz
                          have hzT : z ≤ T := by omega
                          have hza : a < z := by omega
                          clear hz
                          go_wp2
                          first | go_roundw | refine ⟨?rel, ?measure⟩
                          case measure => simp [intOf]; omega
                          case rel =>
                            refine ⟨k + 1, z, ?_, hzT, rfl, ?_, ?_, hX.out.setCell (by simp) _, hB.out.setCell (by simp) _⟩
                            · unfold Hid; rw [HZ.out, sq_step (by rw [hsq.out]; exact hlt), hsq.out, hcnt.out]
                            · have := step_known hSt.out hOK.out HR2.out
                              rw [hcnt.out, ← HZ.out] at this; exact this
                            · refine (hR.out.set a _).congr (fun j hj => ?_)
                              have := mrk_step hSt.out j
                              rw [hcnt.out, ← HZ.out] at this
                              rw [← this]
                              by_cases e : j = a
                              · rw [if_pos e, if_pos e]
                              · rw [if_neg e, if_neg e]
                        · have HN : Hid (¬ (HeadOk ws T a ∧ FnOk ws a)) := by
                            rintro ⟨_, h1⟩
                            have := (h1 (by rw [HX.out]; exact k2)).2
                            rw [HY.out] at this
                            exact hy1 this
                          have hy2 : (y % 4 != 0) = true := by simpa using hy1
                          go_wp2
                          exact bodyPost_ret (v := .tuple #[.slice none 0 0, .bool false]) (by simp [results, Tryd.results34, go_sem]) rfl (Or.inl ⟨rfl, HST.out a hSt.out HN.out, hB.out⟩)
                  · have k1 : x % 4 = 1 := by omega
                    clear g
                    have HR2 : Hid (HeadOk ws T a ∧ FnOk ws a) := ⟨HH.out ⟨fun h => by omega, fun h => by omega, fun h => by omega⟩, HF.out (by omega)⟩
                    obtain ⟨z, hz⟩ : ∃ z : Nat, z = a + 1 + m := ⟨_, rfl⟩
                    have hzi : (a : Int) + (1 + (m : Int)) = (z : Int) := by omega
                    have HZ : Hid (z = a + 1 + m) := hz
                    have hzT : z ≤ T := by omega
                    have hza : a < z := by omega
                    clear hz
                    go_wp2
                    first | go_roundw | refine ⟨?rel, ?measure⟩
                    case measure => simp [intOf]; omega
                    case rel =>
                      refine ⟨k + 1, z, ?_, hzT, rfl, ?_, ?_, hX.out.setCell (by simp) _, hB.out.setCell (by simp) _⟩
                      · unfold Hid; rw [HZ.out, sq_step (by rw [hsq.out]; exact hlt), hsq.out, hcnt.out]
                      · have := step_known hSt.out hOK.out HR2.out
                        rw [hcnt.out, ← HZ.out] at this; exact this
                      · refine (hR.out.set a _).congr (fun j hj => ?_)
                        have := mrk_step hSt.out j
                        rw [hcnt.out, ← HZ.out] at this
                        rw [← this]
                        by_cases e : j = a
                        · rw [if_pos e, if_pos e]
                        · rw [if_neg e, if_neg e]
      · obtain rfl : a = T := by omega
        go_wp2
        refine bodyPost_ret (v := .tuple #[.slice (some ⟨w.heap.size + 1, 0, none⟩) a a, .bool true]) (by simp [results, Tryd.results34, go_sem]) rfl (Or.inr ⟨some ⟨w.heap.size + 1, 0, none⟩, by rw [HTN.out], ?_, ?_, hB.out⟩)
        · refine ⟨by rw [hlen.out]; exact hn2, by omega, by rw [hlen.out]; omega, ?_⟩
          rw [HTN.out]
          intro q hq
          exact hOK.out q hq hq.1
        · rw [HTN.out]
          exact Sb.of_row (hR.out.congr (fun j hj => by rw [mrk_all hj])) (by unfold maxLen; omega)
end Go.Proofs.YtmmkpmgidoelpaaDoor.Hp
