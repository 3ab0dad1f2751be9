import Derived.Test.YtmmkpmgidoelpaaDoorH4
namespace Go.Proofs.YtmmkpmgidoelpaaDoor.Hp
open Go.RowKit Ch2
theorem GoodH.of_words {ws : List Int} {top : Int} (h : Objs ws top) (hw : ∀ j, j < ws.length → (top.toNat ≤ j → ws.getD j 0 = 0) ∧ (j < top.toNat → ¬ St ws top.toNat j → WordOk ws top.toNat (ws.getD j 0))) : GoodH ws top :=
  ⟨h.1, h.2.1, h.2.2.1, fun i h1 h2 => (hw i h2).1 (by have := h.2.1; omega), fun p hp => (h.2.2.2 p hp).1, fun p hp => (h.2.2.2 p hp).2, fun i h1 h2 => (hw i (by have := h.2.2.1; omega)).2 h1 h2⟩
theorem goodH_objs {ws : List Int} {top : Int} (h : GoodH ws top) : Objs ws top := ⟨h.size, h.lo, h.hi, fun p hp => ⟨h.heads p hp, h.fns p hp⟩⟩
/-- One word of the heap, behind Top or a field, is as it must be. -/
def Fine (ws : List Int) (T j : Nat) : Prop := (T ≤ j → ws.getD j 0 = 0) ∧ (j < T → ¬ St ws T j → WordOk ws T (ws.getD j 0))
set_option maxRecDepth 20000 in
set_option maxHeartbeats 4000000 in
theorem l2valid_c (p : Option Addr) (n c : Nat) (top : Int) (ws : List Int) (w : World) (h : Is w p n c ws) (ht0 : -9223372036854775808 ≤ top) (ht1 : top ≤ 9223372036854775807) :
    Calls Tryd.prog 18 #[.agg #[.slice p n c, .int .i64 top]] w fun e w' => StP ws top (GoodH ws top) w w' e := by
  have HI : Hid (Is w p n c ws) := h
  have hbig := h.small.1
  have hlen : Hid (ws.length = n) := h.len
  clear h
  go_enter Tryd.func18, Tryd.ntmps18
  go_wp2_with fail
  refine (l2starts_c p n c top ws _ (by exact HI.out.below (below1 _ _)) ht0 ht1).mono ?_
  rintro e w1 (⟨rfl, hno, hb1⟩ | ⟨q, rfl, hob, hsb, hb1⟩)
  · have HN : Hid (¬ GoodH ws top) := fun hg => hno (goodH_objs hg)
    have HB : Hid (Below w.heap.size w w1) := below_alloc hb1
    clear hno hb1
    go_wp2
    exact bodyPost_ret (v := .tuple #[.slice none 0 0, .bool false]) (by simp [results, Tryd.results18, go_sem]) rfl (Or.inl ⟨rfl, HN.out, HB.out⟩)
  · obtain ⟨T, rfl⟩ := Int.eq_ofNat_of_zero_le hob.2.1
    have hT : T ≤ n := by have := hob.2.2.1; rw [hlen.out] at this; omega
    have hn2 : n ≤ 20000 := by have := hob.1; rw [hlen.out] at this; exact this
    have HX : Hid (Bx w1 w.heap.size p n c T) := (Bx.new w p n c T _).below hb1
    have HB : Hid (Below w.heap.size w w1) := below_alloc hb1
    have HOB : Hid (Objs ws T) := hob
    rw [show ((T : Nat) : Int).toNat = T by simp] at hsb
    have HSB : Hid (Sb w1 q T T (stB ws T)) := hsb
    have HRET : Hid ((((T : Nat) : Int).toNat) = T) := by unfold Hid; simp
    have c0 := HX.out.c0
    have c1 := HX.out.c1
    have HI1 : Hid (Is w1 p n c ws) := HI.out.below HB.out
    have HNO : Hid (∀ j, j < n → ¬ Fine ws T j → ¬ GoodH ws T) := by
      intro j hj hf hg
      refine hf ⟨fun h1 => hg.rest j (by omega) (by rw [hlen.out]; exact hj), fun h1 h2 => ?_⟩
      have := hg.words j (by rw [HRET.out]; exact h1) (by rw [HRET.out]; exact h2)
      rw [HRET.out] at this; exact this
    clear hob hb1 hsb HI ht0 ht1 HX
    have hts : Value.slice q ((T : Nat) : Int).toNat ((T : Nat) : Int).toNat = .slice q T T := by simp
    rw [hts]
    clear hts
    go_wp2
    go_loop [6] (fun i => ∃ k : Nat, k ≤ n ∧ i = .int .i64 k ∧ Hid (∀ j, j < k → Fine ws T j)) (fun i => n - (intOf i).toNat)
    case atStart => exact ⟨0, Nat.zero_le _, rfl, fun j hj => absurd hj (Nat.not_lt_zero j)⟩
    case round =>
      obtain ⟨k, hk, rfl, hOK⟩ := hrel
      by_cases hlt : k < n
      · obtain ⟨b, o, rfl, hbl, g⟩ := HI1.out.cells (by omega)
        have g1 := g k hlt
        have hrg := HI1.out.rng k
        clear g
        obtain ⟨x, hx⟩ : ∃ x, ws.getD k 0 = x := ⟨_, rfl⟩
        have HXX : Hid (ws.getD k 0 = x) := hx
        rw [hx] at g1 hrg
        obtain ⟨hrg0, hrg1⟩ := hrg
        clear hx
        have NEXT : Hid (Fine ws T k → ∀ j, j < k + 1 → Fine ws T j) := fun hf j hj => by
          by_cases e : j < k
          · exact hOK.out j e
          · rw [show j = k by omega]; exact hf
        by_cases hkT : k < T
        · obtain ⟨qb, qo, rfl, _, gs⟩ := HSB.out.cells (by omega)
          have g2 := gs k hkT
          clear gs
          have hd1 : decide (T ≤ k) = false := decide_eq_false (by omega)
          obtain ⟨bs, hbs⟩ : ∃ bs, stB ws T k = bs := ⟨_, rfl⟩
          rw [hbs] at g2
          cases bs
          · obtain ⟨bw, hbw⟩ : ∃ bw, wordOf (stB ws T) T x = bw := ⟨_, rfl⟩
            have HW : Hid (bw = true ↔ WordOk ws T x) := by unfold Hid; rw [← hbw]; exact wordOf_iff (fun _ _ => rfl) x
            have HS0 : Hid (¬ St ws T k) := by rw [← stB_iff, hbs]; unfold Hid; simp
            cases bw
            · have HN : Hid (¬ GoodH ws T) := HNO.out k hlt (fun hf => by have := hf.2 hkT HS0.out; rw [HXX.out, ← HW.out] at this; cases this)
              go_wp2_with (go_at_call 19; refine (l2word_c x _ T T (stB ws T) _ HSB.out hrg1).mono ?_; rintro e w' ⟨rfl, rfl⟩; rw [hbw])
              exact bodyPost_ret (v := .tuple #[.slice none 0 0, .bool false]) (by simp [results, Tryd.results18, go_sem]) rfl (Or.inl ⟨rfl, HN.out, HB.out⟩)
            · have HF : Hid (Fine ws T k) := ⟨fun h => by omega, fun _ _ => by rw [HXX.out, ← HW.out]⟩
              go_wp2_with (go_at_call 19; refine (l2word_c x _ T T (stB ws T) _ HSB.out hrg1).mono ?_; rintro e w' ⟨rfl, rfl⟩; rw [hbw])
              exact ⟨⟨k + 1, by omega, by go_num, NEXT.out HF.out⟩, by simp [intOf]; omega⟩
          · have HF : Hid (Fine ws T k) := ⟨fun h => by omega, fun _ h => absurd ((stB_iff ws T k).1 hbs) h⟩
            go_wp2
            exact ⟨⟨k + 1, by omega, by go_num, NEXT.out HF.out⟩, by simp [intOf]; omega⟩
        · have hd1 : decide (k < T) = false := decide_eq_false hkT
          have hd2 : decide (T ≤ k) = true := decide_eq_true (by omega)
          by_cases hx0 : x = 0
          · subst hx0
            have HF : Hid (Fine ws T k) := ⟨fun _ => HXX.out, fun h => absurd h hkT⟩
            go_wp2
            exact ⟨⟨k + 1, by omega, by go_num, NEXT.out HF.out⟩, by simp [intOf]; omega⟩
          · have hx1 : (x != 0) = true := by simpa using hx0
            have HN : Hid (¬ GoodH ws T) := HNO.out k hlt (fun hf => hx0 (by rw [← HXX.out]; exact hf.1 (by omega)))
            go_wp2
            exact bodyPost_ret (v := .tuple #[.slice none 0 0, .bool false]) (by simp [results, Tryd.results18, go_sem]) rfl (Or.inl ⟨rfl, HN.out, HB.out⟩)
      · obtain rfl : k = n := by omega
        go_wp2
        refine bodyPost_ret (v := .tuple #[.slice q T T, .bool true]) (by simp [results, Tryd.results18, go_sem]) rfl (Or.inr ⟨q, by rw [HRET.out], ?_, by rw [HRET.out]; exact HSB.out, HB.out⟩)
        refine GoodH.of_words HOB.out (fun j hj => ?_)
        rw [HRET.out]
        exact hOK.out j (by rw [← hlen.out]; exact hj)
/-- What both ValidHeaps answer. -/
def VhP (ws : List Int) (top : Int) (rs : List Int) (w w' : World) (e : Ending) : Prop := ∃ b, e = .returned (.bool b) ∧ (b = true ↔ GoodR ws top rs) ∧ Below w.heap.size w w'
set_option maxRecDepth 20000 in
set_option maxHeartbeats 4000000 in
theorem specValidHeap_c (p : Option Addr) (n c : Nat) (top : Int) (ws : List Int) (rp : Option Addr) (rn rc : Nat) (rs : List Int) (w : World) (h : Is w p n c ws) (ht0 : -9223372036854775808 ≤ top) (ht1 : top ≤ 9223372036854775807) (hr : Is w rp rn rc rs) :
    Calls Tryd.prog 5 #[.agg #[.slice p n c, .int .i64 top], .slice rp rn rc] w fun e w' => VhP ws top rs w w' e := by
  have HI : Hid (Is w p n c ws) := h
  have HR : Hid (Is w rp rn rc rs) := hr
  have hbig := hr.small.1
  have hlen : Hid (rs.length = rn) := hr.len
  clear h hr
  go_enter Tryd.func5, Tryd.ntmps5
  go_wp2_with fail
  refine (l2valid_c p n c top ws _ (by exact HI.out.below (below1 _ _)) ht0 ht1).mono ?_
  rintro e w1 (⟨rfl, hno, hb1⟩ | ⟨q, rfl, hob, hsb, hb1⟩)
  · have HN : Hid (¬ GoodR ws top rs) := fun hg => hno hg.good
    have HB : Hid (Below w.heap.size w w1) := below_alloc hb1
    clear hno hb1
    go_wp2
    go_ret
    exact ⟨false, rfl, ⟨fun h => (by cases h), fun h => absurd h HN.out⟩, HB.out⟩
  · obtain ⟨T, rfl⟩ := Int.eq_ofNat_of_zero_le hob.lo
    have HB : Hid (Below w.heap.size w w1) := below_alloc hb1
    have HOB : Hid (GoodH ws T) := hob
    rw [show ((T : Nat) : Int).toNat = T by simp] at hsb
    have HSB : Hid (Sb w1 q T T (stB ws T)) := hsb
    have HRET : Hid ((((T : Nat) : Int).toNat) = T) := by unfold Hid; simp
    have HR1 : Hid (Is w1 rp rn rc rs) := HR.out.below HB.out
    clear hob hb1 hsb HI ht0 ht1 HR
    have hts : Value.slice q ((T : Nat) : Int).toNat ((T : Nat) : Int).toNat = .slice q T T := by simp
    rw [hts]
    clear hts
    by_cases hrn : 20000 < rn
    · have HN : Hid (¬ GoodR ws T rs) := fun hg => by have := hg.few; rw [hlen.out] at this; omega
      have hd : decide ((20000 : Int) < (rn : Int)) = true := decide_eq_true (by omega)
      go_wp2
      go_ret
      exact ⟨false, rfl, ⟨fun h => (by cases h), fun h => absurd h HN.out⟩, HB.out⟩
    · have hd : decide ((20000 : Int) < (rn : Int)) = false := decide_eq_false (by omega)
      go_wp2
      clear hd
      go_loop [7] (fun i => ∃ k : Nat, k ≤ rn ∧ i = .int .i64 k ∧ Hid (∀ j, j < k → WordOk ws T (rs.getD j 0))) (fun i => rn - (intOf i).toNat)
      case atStart => exact ⟨0, Nat.zero_le _, rfl, fun j hj => absurd hj (Nat.not_lt_zero j)⟩
      case round =>
        obtain ⟨k, hk, rfl, hOK⟩ := hrel
        by_cases hlt : k < rn
        · obtain ⟨b, o, rfl, hbl, g⟩ := HR1.out.cells (by omega)
          have g1 := g k hlt
          have hrg := HR1.out.rng k
          clear g
          obtain ⟨x, hx⟩ : ∃ x, rs.getD k 0 = x := ⟨_, rfl⟩
          have HXX : Hid (rs.getD k 0 = x) := hx
          rw [hx] at g1 hrg
          obtain ⟨hrg0, hrg1⟩ := hrg
          clear hx
          obtain ⟨bw, hbw⟩ : ∃ bw, wordOf (stB ws T) T x = bw := ⟨_, rfl⟩
          have HW : Hid (bw = true ↔ WordOk ws T x) := by unfold Hid; rw [← hbw]; exact wordOf_iff (fun _ _ => rfl) x
          cases bw
          · have HN : Hid (¬ GoodR ws T rs) := fun hg => by
              have := hg.roots k (by rw [hlen.out]; exact hlt)
              rw [HRET.out, HXX.out, ← HW.out] at this
              cases this
            go_wp2_with (go_at_call 19; refine (l2word_c x _ T T (stB ws T) _ HSB.out hrg1).mono ?_; rintro e w' ⟨rfl, rfl⟩; rw [hbw])
            go_ret
            exact ⟨false, rfl, ⟨fun h => (by cases h), fun h => absurd h HN.out⟩, HB.out⟩
          · have HWK : Hid (WordOk ws T (rs.getD k 0)) := by unfold Hid; rw [HXX.out]; exact HW.out.1 rfl
            go_wp2_with (go_at_call 19; refine (l2word_c x _ T T (stB ws T) _ HSB.out hrg1).mono ?_; rintro e w' ⟨rfl, rfl⟩; rw [hbw])
            refine ⟨⟨k + 1, by omega, by go_num, fun j hj => ?_⟩, by simp [intOf]; omega⟩
            by_cases e : j < k
            · exact hOK.out j e
            · rw [show j = k by omega]; exact HWK.out
        · obtain rfl : k = rn := by omega
          go_wp2
          go_ret
          refine ⟨true, rfl, ⟨fun _ => ⟨HOB.out, by rw [hlen.out]; omega, fun i hi => ?_⟩, fun _ => rfl⟩, HB.out⟩
          rw [HRET.out]
          exact hOK.out i (by rw [← hlen.out]; exact hi)
end Go.Proofs.YtmmkpmgidoelpaaDoor.Hp
