import Derived.Test.YtmmkpmgidoelpaaDoorH8
import Derived.Test.YtmmkpmgidoelpaaDoorH5
namespace Go.Proofs.YtmmkpmgidoelpaaDoor.Hp
open Go.RowKit Ch2
theorem addp (b o i : Nat) : (⟨b, o, none⟩ : Addr).add i = ⟨b, o + i, none⟩ := by
  unfold Addr.add
  split
  · rename_i h; subst h; rfl
  · rfl
/-- What is left of a slice of ints from a place on. -/
theorem slice_lo (w : World) (a : Option Addr) (n c l : Nat) (h1 : l ≤ n) :
    (Instr.slice 23 (.slice a n c) (some (.int .i64 (l : Int))) none none).run Tryd.prog w = .ok (.slice (if c = l then a else a.map (·.add (l * 1))) (n - l) (c - l)) w := by
  simp [Instr.slice, run_underlying Tryd.underlying23, Instr.sliceBounds, Instr.sliceBound, asIntOf, h1, go_sem]
/-- The object at a is as it must be. -/
def ObjOk (ws : List Int) (T a : Nat) : Prop := FnOk ws a ∧ ∀ i, a < i → i < a + 1 + cnt (ws.getD a 0) → WordOk ws T (ws.getD i 0)
theorem voB_iff {ws : List Int} {T a m : Nat} (hh : headB (ws.getD a 0) = true) (hc : cnt (ws.getD a 0) = m) (hl : a + 1 + m ≤ ws.length) : voB (ws.getD a 0) (fld ws a m) (stB ws T) T = true ↔ ObjOk ws T a := by
  unfold voB ObjOk
  rw [hc, Bool.and_eq_true, Bool.or_eq_true, decide_eq_true_eq]
  constructor
  · rintro ⟨h1, h2⟩
    refine ⟨fun hk => ?_, fun i h3 h4 => ?_⟩
    · have hm : 0 < m := by have := head_clo hh hk; omega
      rcases h1 with h1 | h1
      · exact absurd hk h1
      · rw [fld_getD hm, Nat.add_zero] at h1
        unfold fnB at h1
        simp only [Bool.and_eq_true, decide_eq_true_eq] at h1
        exact ⟨h1.2, h1.1⟩
    · rw [List.all_eq_true] at h2
      have hi : i - (a + 1) < m := by omega
      have := h2 ((fld ws a m).getD (i - (a + 1)) 0) (by
        have hlen : i - (a + 1) < (fld ws a m).length := by rw [fld_len hl]; exact hi
        simp only [List.getD, List.getElem?_eq_getElem hlen, Option.getD_some]
        exact List.getElem_mem hlen)
      rw [fld_getD hi, show a + 1 + (i - (a + 1)) = i by omega] at this
      exact (wordOf_iff (fun _ _ => rfl) _).1 this
  · rintro ⟨h1, h2⟩
    refine ⟨?_, all_true (fun j hj => ?_)⟩
    · by_cases hk : ws.getD a 0 % 4 = 2
      · refine Or.inr ?_
        have hm : 0 < m := by have := head_clo hh hk; omega
        rw [fld_getD hm, Nat.add_zero]
        unfold fnB
        simp only [Bool.and_eq_true, decide_eq_true_eq]
        exact ⟨(h1 hk).2, (h1 hk).1⟩
      · exact Or.inl hk
    · rw [fld_len hl] at hj
      rw [fld_getD hj]
      exact (wordOf_iff (fun _ _ => rfl) _).2 (h2 _ (by omega) (by omega))
theorem goodH_of {ws : List Int} {T : Nat} (h1 : ws.length ≤ 20000) (h2 : T ≤ ws.length) (h3 : ∀ j, j < ws.length - T → ws.getD (T + j) 0 = 0) (h4 : Heads ws T) (h5 : ∀ q, St ws T q → ObjOk ws T q) : GoodH ws T := by
  have e : ((T : Nat) : Int).toNat = T := by simp
  refine ⟨h1, by omega, by omega, fun i hi hl => ?_, ?_, ?_, ?_⟩
  · have := h3 (i - T) (by omega)
    rw [show T + (i - T) = i by omega] at this
    exact this
  · rw [e]; exact h4
  · rw [e]; exact fun p hp => (h5 p hp).1
  · rw [e]; exact words_of_fields (fun p hp => (h5 p hp).2)
theorem goodH_obj {ws : List Int} {T : Nat} (h : GoodH ws T) : Heads ws T ∧ ∀ q, St ws T q → ObjOk ws T q := by
  have e : ((T : Nat) : Int).toNat = T := by simp
  refine ⟨fun q hq => ?_, fun q hq => ⟨?_, fun i h1 h2 => ?_⟩⟩
  · have := h.heads q (by rw [e]; exact hq)
    rw [e] at this; exact this
  · exact h.fns q (by rw [e]; exact hq)
  · have := h.fields (p := q) (by rw [e]; exact hq) h1 h2
    rw [e] at this; exact this
/-- What a round of the loop over the objects keeps. -/
def ObR (ws : List Int) (T : Nat) (w : World) (p q : Option Addr) (n c : Nat) (i : Value) (wr : World) : Prop := ∃ k a : Nat, Hid (sq ws T k = a) ∧ a ≤ T ∧ i = .int .i64 a ∧ Hid (∀ q, St ws T q → q < a → ObjOk ws T q) ∧ Hid (Sb wr q T T (stB ws T)) ∧ Hid (Bx wr w.heap.size p n c T) ∧ Hid (Below w.heap.size w wr)
set_option maxRecDepth 20000 in
set_option maxHeartbeats 8000000 in
theorem objectsOf_c (p : Option Addr) (n c : Nat) (top : Int) (ws : List Int) (w : World) (h : Is w p n c ws) (ht0 : -9223372036854775808 ≤ top) (ht1 : top ≤ 9223372036854775807) :
    Calls Tryd.prog 36 #[.agg #[.slice p n c, .int .i64 top]] w fun e w' => StP ws top (GoodH ws top) w w' e := by
  have HI : Hid (Is w p n c ws) := h
  have hbig := h.small.1
  have hlen : Hid (ws.length = n) := h.len
  clear h
  by_cases hbad : 20000 < n ∨ top < 0 ∨ (n : Int) < top
  · have HN : Hid (¬ GoodH ws top) := by
      intro hg
      have h1 := hg.size
      have h2 := hg.lo
      have h3 := hg.hi
      rw [hlen.out] at h1 h3
      omega
    by_cases h1 : 20000 < n
    · go_enter Tryd.func36, Tryd.ntmps36
      go_wp2
      exact bodyPost_ret (v := .tuple #[.slice none 0 0, .bool false]) (by simp [results, Tryd.results36, go_sem]) rfl (Or.inl ⟨rfl, HN.out, below1 w _⟩)
    · by_cases h2 : top < 0
      · go_enter Tryd.func36, Tryd.ntmps36
        go_wp2
        exact bodyPost_ret (v := .tuple #[.slice none 0 0, .bool false]) (by simp [results, Tryd.results36, go_sem]) rfl (Or.inl ⟨rfl, HN.out, below1 w _⟩)
      · have h3 : (n : Int) < top := by omega
        go_enter Tryd.func36, Tryd.ntmps36
        go_wp2
        exact bodyPost_ret (v := .tuple #[.slice none 0 0, .bool false]) (by simp [results, Tryd.results36, go_sem]) rfl (Or.inl ⟨rfl, HN.out, below1 w _⟩)
  · obtain ⟨T, rfl⟩ := Int.eq_ofNat_of_zero_le (show 0 ≤ top by omega)
    have hn2 : n ≤ 20000 := by omega
    have hT : T ≤ n := by omega
    clear hbad ht0 ht1
    have HTN : Hid (((T : Nat) : Int).toNat = T) := by unfold Hid; simp
    have q1 : decide ((20000 : Int) < (n : Int)) = false := decide_eq_false (by omega)
    have q2 : decide ((T : Int) < 0) = false := decide_eq_false (by omega)
    have q3 : decide (n < T) = false := decide_eq_false (by omega)
    obtain ⟨lq, hlq⟩ : ∃ q, q = (if c = T then p else p.map (·.add (T * 1))) := ⟨_, rfl⟩
    obtain ⟨d, hd⟩ : ∃ d, d = n - T := ⟨_, rfl⟩
    obtain ⟨c', hc'⟩ : ∃ c', c' = c - T := ⟨_, rfl⟩
    have hsl : ∀ w : World, (Instr.slice 23 (.slice p n c) (some (.int .i64 (T : Int))) none none).run Tryd.prog w = .ok (.slice lq d c') w := fun w => by
      rw [slice_lo w p n c T hT, hlq, hd, hc']
    have HLQ : Hid (∀ b o, p = some ⟨b, o, none⟩ → 0 < d → lq = some ⟨b, o + T, none⟩) := by
      rintro b o rfl h0
      have hcap := HI.out.cap
      rw [hlq, if_neg (by omega)]
      simp only [Option.map_some, Nat.mul_one, Option.some.injEq]
      exact addp b o T
    have HD : Hid (d = n - T) := hd
    have hdn : d ≤ 20000 := by omega
    clear hlq hd hc'
    go_enter Tryd.func36, Tryd.ntmps36
    go_wp2
    clear hsl q1 q2 q3
    go_loop [32] (fun i => ∃ k : Nat, k ≤ d ∧ i = .int .i64 k ∧ Hid (∀ j, j < k → ws.getD (T + j) 0 = 0)) (fun i => d - (intOf i).toNat)
    case atStart => exact ⟨0, Nat.zero_le _, rfl, fun j hj => absurd hj (Nat.not_lt_zero j)⟩
    case round =>
      obtain ⟨k, hk, rfl, hOK⟩ := hrel
      by_cases hlt : k < d
      · obtain ⟨b, o, rfl, hbl, g⟩ := HI.out.cells (by have := HD.out; omega)
        obtain rfl := HLQ.out b o rfl (by omega)
        have g1 := g (T + k) (by have := HD.out; omega)
        rw [← (below1 w (.cells #[.slice (some ⟨b, o, none⟩) n c, .int .i64 T] 25)).cell (p := ⟨b, o + (T + k), none⟩) hbl, show o + (T + k) = o + T + k by omega] at g1
        obtain ⟨x, hx⟩ : ∃ x, ws.getD (T + k) 0 = x := ⟨_, rfl⟩
        have HXX : Hid (ws.getD (T + k) 0 = x) := hx
        rw [hx] at g1
        clear hx g
        by_cases hx0 : x = 0
        · subst hx0
          go_wp2
          refine ⟨⟨k + 1, by omega, by go_num, fun j hj => ?_⟩, by simp [intOf]; omega⟩
          by_cases e : j < k
          · exact hOK.out j e
          · rw [show j = k by omega]; exact HXX.out
        · have hx1 : (x != 0) = true := by simpa using hx0
          have HN : Hid (¬ GoodH ws T) := fun hg => hx0 (by rw [← HXX.out]; exact hg.rest (T + k) (by omega) (by rw [hlen.out]; have := HD.out; omega))
          go_wp2
          exact bodyPost_ret (v := .tuple #[.slice none 0 0, .bool false]) (by simp [results, Tryd.results36, go_sem]) rfl (Or.inl ⟨rfl, HN.out, below1 w _⟩)
      · obtain rfl : k = d := by omega
        go_wp2_with fail
        refine (beginsOf_c p n c T ws _ (by exact HI.out.below (below1 _ _)) hn2 hT).mono ?_
        rintro e w1 (⟨rfl, hno, hb1⟩ | ⟨q, rfl, hob, hsb, hb1⟩)
        · have HN : Hid (¬ GoodH ws T) := fun hg => hno (goodH_obj hg).1
          have HB : Hid (Below w.heap.size w w1) := below_alloc hb1
          clear hno hb1
          go_wp2
          exact bodyPost_ret (v := .tuple #[.slice none 0 0, .bool false]) (by simp [results, Tryd.results36, go_sem]) rfl (Or.inl ⟨rfl, HN.out, HB.out⟩)
        · have HB : Hid (Below w.heap.size w w1) := below_alloc hb1
          have HX : Hid (Bx w1 w.heap.size p n c T) := (Bx.new w p n c T _).below hb1
          have HH : Hid (Heads ws T) := hob
          rw [HTN.out] at hsb
          have HSB : Hid (Sb w1 q T T (stB ws T)) := hsb
          have hts : Value.slice q ((T : Nat) : Int).toNat ((T : Nat) : Int).toNat = .slice q T T := by simp
          rw [hts]
          clear hob hsb hb1 hts
          go_wp2
          go_loopw [8] (fun i wr => ObR ws T w p q n c i wr) (fun i _ => T - (intOf i).toNat)
          case atStart => exact ⟨0, 0, rfl, Nat.zero_le _, rfl, fun q _ hq => absurd hq (Nat.not_lt_zero q), HSB, HX, HB⟩
          case round =>
            obtain ⟨kk, a, hsq, haT, rfl, hOb, hS, hX, hB⟩ := hrel
            have c0 := hX.out.c0
            have c1 := hX.out.c1
            by_cases hlt2 : a < T
            · obtain ⟨b, o, rfl, hbl, g⟩ := HI.out.cells (by omega)
              have g1 := g a (by omega)
              rw [← hB.out.cell (p := ⟨b, o + a, none⟩) hbl] at g1
              have hSt : Hid (St ws T a) := ⟨hlt2, kk, hsq.out⟩
              have HIr : Hid (Is wr (some ⟨b, o, none⟩) n c ws) := HI.out.below hB.out
              have hho := HH.out a hSt.out
              obtain ⟨m, hm⟩ : ∃ m : Nat, ws.getD a 0 / 4 = m := ⟨cnt (ws.getD a 0), (head_cnt hho.1).2.2.2.symm⟩
              have HM : Hid (ws.getD a 0 / 4 = m) := hm
              have hcnt : Hid (cnt (ws.getD a 0) = m) := cnt_of hm
              have hm1 : m ≤ 1000 := by have := (head_cnt hho.1).2.1; omega
              have ham : a + 1 + m ≤ T := by have := hho.2; rw [hcnt.out] at this; exact this
              have hamn : a + 1 + m ≤ n := by omega
              obtain ⟨z, hz⟩ : ∃ z : Nat, z = a + 1 + m := ⟨_, rfl⟩
              have HZ : Hid (z = a + 1 + m) := hz
              have hza : a < z := by omega
              have hzT : z ≤ T := by omega
              have HPOS : Hid (ws.getD a 0 % 4 = 2 → 0 < m) := fun hk => by have := head_clo hho.1 hk; rw [hcnt.out] at this; exact this
              obtain ⟨bv, hbv⟩ : ∃ bv, voB (ws.getD a 0) (fld ws a m) (stB ws T) T = bv := ⟨_, rfl⟩
              have HV : Hid (bv = true ↔ ObjOk ws T a) := by unfold Hid; rw [← hbv]; exact voB_iff hho.1 hcnt.out (by rw [hlen.out]; exact hamn)
              obtain ⟨x, hx⟩ : ∃ x, ws.getD a 0 = x := ⟨_, rfl⟩
              have HXX : Hid (ws.getD a 0 = x) := hx
              rw [hx] at g1 hbv HPOS
              clear hx hm hz hho g
              cases bv
              · have HN : Hid (¬ GoodH ws T) := fun hg => by
                  have := (goodH_obj hg).2 a hSt.out
                  rw [← HV.out] at this
                  cases this
                go_wp2_with fail
                go_region_with (first | (go_at_call 26; refine (fieldsAt_c _ n c a m T ws _ ?y1 hamn (by omega) HM.out hm1).mono ?_; (case y1 => exact HIr.out.below (below_drew (Below.refl _ _))); rintro e w2 ⟨fq, fc, rfl, hf1, hf2, hf3, hf4⟩; have HF1 : Hid (Is w2 fq m fc (fld ws a m)) := (HIr.out.sub hamn hf1 hf2 hf3).below ((below_drew (Below.refl _ _)).trans hf4); have HF4 : Hid (Below w.heap.size w w2) := (below_drew hB.out).trans (hf4.mono hB.out.size); have HFS : Hid (Sb w2 q T T (stB ws T)) := hS.out.below ((below_drew (Below.refl _ _)).trans hf4); have g2 := hf4.cell (p := ⟨b, o + a, none⟩) (Nat.lt_of_lt_of_le hbl hB.out.size); have HX3 : Hid (Bx w2 w.heap.size (some ⟨b, o, none⟩) n c T) := hX.out.below ((below_drew (Below.refl _ _)).trans hf4); have cc0 := HX3.out.c0; have cc1 := HX3.out.c1; clear hf1 hf2 hf3 hf4) | (go_at_call 49; refine (validObject_c x _ m _ (fld ws a m) _ T T (stB ws T) _ HF1.out HFS.out HPOS.out).mono ?_; rintro e w3 ⟨rfl, rfl⟩; rw [hbv]))
                all_goals go_wp2
                all_goals exact bodyPost_ret (v := .tuple #[.slice none 0 0, .bool false]) (by simp [results, Tryd.results36, go_sem]) rfl (Or.inl ⟨rfl, HN.out, HF4.out⟩)
              · have HOBJ : Hid (ObjOk ws T a) := HV.out.1 rfl
                clear HV
                go_wp2_with fail
                go_region_with (first | (go_at_call 26; refine (fieldsAt_c _ n c a m T ws _ ?y1 hamn (by omega) HM.out hm1).mono ?_; (case y1 => exact HIr.out.below (below_drew (Below.refl _ _))); rintro e w2 ⟨fq, fc, rfl, hf1, hf2, hf3, hf4⟩; have HF1 : Hid (Is w2 fq m fc (fld ws a m)) := (HIr.out.sub hamn hf1 hf2 hf3).below ((below_drew (Below.refl _ _)).trans hf4); have HF4 : Hid (Below w.heap.size w w2) := (below_drew hB.out).trans (hf4.mono hB.out.size); have HFS : Hid (Sb w2 q T T (stB ws T)) := hS.out.below ((below_drew (Below.refl _ _)).trans hf4); have g2 := hf4.cell (p := ⟨b, o + a, none⟩) (Nat.lt_of_lt_of_le hbl hB.out.size); have HX3 : Hid (Bx w2 w.heap.size (some ⟨b, o, none⟩) n c T) := hX.out.below ((below_drew (Below.refl _ _)).trans hf4); have cc0 := HX3.out.c0; have cc1 := HX3.out.c1; clear hf1 hf2 hf3 hf4) | (go_at_call 49; refine (validObject_c x _ m _ (fld ws a m) _ T T (stB ws T) _ HF1.out HFS.out HPOS.out).mono ?_; rintro e w3 ⟨rfl, rfl⟩; rw [hbv]))
                all_goals go_wp2_with (go_at_call 25; refine (behindObject_c _ n c a m z HZ.out T ws _ ?y1 (by omega) (by omega) HM.out hm1).mono ?_; (case y1 => exact HI.out.below HF4.out); rintro e w4 ⟨rfl, rfl⟩)
                all_goals first | go_roundw | refine ⟨?rel, ?measure⟩
                all_goals first | (simp [intOf]; omega; done) | refine ⟨kk + 1, z, ?_, hzT, rfl, ?_, HFS.out.below (below1 _ _), HX3.out.below (below1 _ _), HF4.out.alloc HF4.out.size _⟩
                all_goals first | (unfold Hid; rw [HZ.out, sq_step (by rw [hsq.out]; exact hlt2), hsq.out, hcnt.out]; done) | (exact (by have := step_known hSt.out hOb.out HOBJ.out; rw [hcnt.out, ← HZ.out] at this; exact this))
            · obtain rfl : a = T := by omega
              go_wp2
              refine bodyPost_ret (v := .tuple #[.slice q a a, .bool true]) (by simp [results, Tryd.results36, go_sem]) rfl (Or.inr ⟨q, by rw [HTN.out], ?_, by rw [HTN.out]; exact hS.out, hB.out⟩)
              exact goodH_of (by rw [hlen.out]; exact hn2) (by rw [hlen.out]; exact hT) (fun j hj => hOK.out j (by rw [hlen.out] at hj; have := HD.out; omega)) HH.out (fun q hq => hOb.out q hq hq.1)
set_option maxHeartbeats 4000000 in
theorem implValidHeap_c (p : Option Addr) (n c : Nat) (top : Int) (ws : List Int) (rp : Option Addr) (rn rc : Nat) (rs : List Int) (w : World) (h : Is w p n c ws) (ht0 : -9223372036854775808 ≤ top) (ht1 : top ≤ 9223372036854775807) (hr : Is w rp rn rc rs) :
    Calls Tryd.prog 22 #[.agg #[.slice p n c, .int .i64 top], .slice rp rn rc] w fun e w' => VhP ws top rs w w' e := by
  have HI : Hid (Is w p n c ws) := h
  have HR : Hid (Is w rp rn rc rs) := hr
  have hbig := hr.small.1
  have hlen : Hid (rs.length = rn) := hr.len
  clear h hr
  go_enter Tryd.func22, Tryd.ntmps22
  go_wp2_with fail
  refine (objectsOf_c p n c top ws _ (by exact HI.out.below (below1 _ _)) ht0 ht1).mono ?_
  rintro e w1 (⟨rfl, hno, hb1⟩ | ⟨q, rfl, hob, hsb, hb1⟩)
  · have HN : Hid (¬ GoodR ws top rs) := fun hg => hno hg.good
    have HB : Hid (Below w.heap.size w w1) := below_alloc hb1
    clear hno hb1
    go_wp2
    go_ret
    exact ⟨false, rfl, ⟨fun h => (by cases h), fun h => absurd h HN.out⟩, HB.out⟩
  · obtain ⟨T, rfl⟩ := Int.eq_ofNat_of_zero_le hob.lo
    have HB : Hid (Below w.heap.size w w1) := below_alloc hb1
    have HOB : Hid (GoodH ws T) := hob
    rw [show ((T : Nat) : Int).toNat = T by simp] at hsb
    have HSB : Hid (Sb w1 q T T (stB ws T)) := hsb
    have HRET : Hid ((((T : Nat) : Int).toNat) = T) := by unfold Hid; simp
    have HR1 : Hid (Is w1 rp rn rc rs) := HR.out.below HB.out
    clear hob hb1 hsb HI ht0 ht1 HR
    have hts : Value.slice q ((T : Nat) : Int).toNat ((T : Nat) : Int).toNat = .slice q T T := by simp
    rw [hts]
    clear hts
    by_cases hrn : rn ≤ 20000
    · have hd : decide ((rn : Int) ≤ (20000 : Int)) = true := decide_eq_true (by omega)
      go_wp2_with (go_at_call 37; refine (validWords_c rp rn rc rs q T T (stB ws T) _ HR1.out HSB.out).mono ?_; rintro e w2 ⟨rfl, hw2⟩; have hw3 := hw2.symm; clear hw2; subst hw3)
      go_ret
      refine ⟨_, rfl, ⟨fun ha => ⟨HOB.out, by rw [hlen.out]; exact hrn, fun i hi => ?_⟩, fun hg => all_true (fun j hj => ?_)⟩, HB.out⟩
      · rw [HRET.out]
        refine (wordOf_iff (fun _ _ => rfl) _).1 ?_
        rw [List.all_eq_true] at ha
        exact ha _ (by simp only [List.getD, List.getElem?_eq_getElem hi, Option.getD_some]; exact List.getElem_mem hi)
      · have := hg.roots j hj
        rw [HRET.out] at this
        exact (wordOf_iff (fun _ _ => rfl) _).2 this
    · have hd : decide ((rn : Int) ≤ (20000 : Int)) = false := decide_eq_false (by omega)
      have HN : Hid (¬ GoodR ws T rs) := fun hg => by have := hg.few; rw [hlen.out] at this; omega
      go_wp2
      go_ret
      exact ⟨false, rfl, ⟨fun h => (by cases h), fun h => absurd h HN.out⟩, HB.out⟩
end Go.Proofs.YtmmkpmgidoelpaaDoor.Hp
