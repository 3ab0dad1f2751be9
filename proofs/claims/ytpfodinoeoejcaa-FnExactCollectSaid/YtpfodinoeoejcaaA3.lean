import Derived.Test.YtpfodinoeoejcaaA2
import Derived.Test.YtpfodinoeoejcaaH9
import Derived.Deep.Cut
namespace Go.Proofs.Ytpfodinoeoejcaa
open Go.RowKit Ch2
theorem clone_c (p : Option Addr) (n c : Nat) (ws : List Int) (w : World) (h : Is w p n c ws) (hn : 0 < n) (hn2 : n ≤ 1048576) :
    Calls Try.prog 52 #[.slice p n c] w fun e w' => ∃ g cap, e = .returned (.slice (some ⟨g, 0, none⟩) n cap) ∧ w.heap.size ≤ g ∧ Fr w' g n cap ws ∧ Below w.heap.size w w' := by
  obtain ⟨b, o, rfl, hlt, hc⟩ := h.cells hn
  have hl := h.len
  refine (clone_int b o n c ws w (by omega) (by omega) (fun j hj => hc j (by omega))).mono ?_
  rintro e w' ⟨v', rfl, ho, _, hb⟩
  rw [List.take_of_length_le (by omega)] at ho
  obtain ⟨g, cap, rfl, hg, hf⟩ := Fr.of_owns ho hn hl
  exact ⟨g, cap, rfl, hg, hf, hb⟩
theorem vc_facts {k : Int} {m : Nat} (h : vcB k m = true) : 0 ≤ k ∧ k ≤ 3 ∧ m ≤ 1000 ∧ (k = 2 → 0 < m) := by
  unfold vcB at h
  split at h
  · simp at h; omega
  · split at h
    · simp at h; omega
    · split at h
      · simp at h; omega
      · split at h
        · simp at h; omega
        · cases h
theorem voB_iff2 {ws : List Int} {T : Nat} {k : Int} {fs : List Int} (h0 : 0 ≤ k) (h3 : k ≤ 3) : voB (4 * fs.length + k) fs (stB ws T) T = true ↔ (k = 2 → fnB (fs.getD 0 0) = true) ∧ ∀ i, i < fs.length → WordOk ws T (fs.getD i 0) := by
  have e : (4 * (fs.length : Int) + k) % 4 = k := by omega
  unfold voB
  rw [e, Bool.and_eq_true, Bool.or_eq_true, decide_eq_true_eq]
  constructor
  · rintro ⟨h1, h2⟩
    refine ⟨fun hk => h1.resolve_left (fun hn => hn hk), fun i hi => ?_⟩
    rw [List.all_eq_true] at h2
    exact (wordOf_iff (fun _ _ => rfl) _).1 (h2 _ (by simp only [List.getD, List.getElem?_eq_getElem hi, Option.getD_some]; exact List.getElem_mem hi))
  · rintro ⟨h1, h2⟩
    refine ⟨?_, all_true (fun j hj => (wordOf_iff (fun _ _ => rfl) _).2 (h2 j hj))⟩
    by_cases hk : k = 2
    · exact Or.inr (h1 hk)
    · exact Or.inl hk
set_option maxHeartbeats 1000000 in
theorem wordOf_c (t x : Int) (w : World) (h0 : 0 ≤ t) (h1 : t ≤ 3) (h2 : -2000000000000000000 ≤ x) (h3 : x ≤ 2000000000000000000) : Calls Try.prog 54 #[.int .i64 t, .int .i64 x] w fun e w' => e = .returned (.int .i64 (4 * x + t)) ∧ w' = w := by
  go_enter Try.func54, Try.ntmps54
  go_wp2
  go_ret
  exact ⟨rfl, rfl⟩
set_option maxHeartbeats 1000000 in
theorem headerOf_c (k : Int) (p : Option Addr) (m c : Nat) (w : World) (h0 : 0 ≤ k) (h1 : k ≤ 3) (h2 : m ≤ 1048576) : Calls Try.prog 50 #[.int .i64 k, .slice p m c] w fun e w' => e = .returned (.int .i64 (4 * m + k)) ∧ w' = w := by
  go_enter Try.func50, Try.ntmps50
  go_wp2_with (go_at_call 54; refine (wordOf_c k m _ h0 h1 (by omega) (by omega)).mono ?_; rintro e w' ⟨rfl, rfl⟩)
  go_ret
  exact ⟨rfl, rfl⟩
theorem rng_putO {ws fs : List Int} {T : Nat} {h : Int} (h1 : ∀ i, -9223372036854775808 ≤ ws.getD i 0 ∧ ws.getD i 0 ≤ 9223372036854775807) (h2 : ∀ i, -9223372036854775808 ≤ fs.getD i 0 ∧ fs.getD i 0 ≤ 9223372036854775807) (h3 : -9223372036854775808 ≤ h ∧ h ≤ 9223372036854775807) (hl : T + 1 + fs.length ≤ ws.length) (i : Nat) : -9223372036854775808 ≤ (putO ws T h fs).getD i 0 ∧ (putO ws T h fs).getD i 0 ≤ 9223372036854775807 := by
  rw [putO_getD hl]
  unfold cellO
  split
  · exact h3
  · split
    · exact h2 _
    · exact h1 _
theorem Wr.setOther {w : World} {B E n : Nat} {p : Option Addr} (h : Wr w B E p n) {a : Addr} (ha : ∀ b, p = some b → b.block ≠ a.block) (v : Value) : Wr (w.setCell a v) B E p n := by
  intro hn
  obtain ⟨t, m, f, e, h1, h2, h3, h4⟩ := h hn
  exact ⟨t, m, f, e, h1, h2, h3, h4.of_block (Below.heap_setCell w a v t (ha _ e))⟩
/-- What stands behind the copy of the words. -/
def Grown (w1 : World) (n T : Nat) (ws : List Int) (v : Value) (wc : World) : Prop := ∃ gb g cap, v = .pointer (some ⟨gb, 0, none⟩) ∧ BxW wc gb (some ⟨g, 0, none⟩) n cap T ∧ Fr wc g n cap ws ∧ gb ≠ g ∧ w1.heap.size ≤ gb ∧ w1.heap.size ≤ g ∧ Below w1.heap.size w1 wc
theorem Grown.late {w1 w2 : World} {n T g cap : Nat} {ws : List Int} (h1 : Below w1.heap.size w1 w2) (h2 : Fr w2 g n cap ws) (h3 : w1.heap.size ≤ g) (t : TypeId) : Grown w1 n T ws (.pointer (some ⟨w2.heap.size, 0, none⟩)) (w2.alloc (.cells #[.slice (some ⟨g, 0, none⟩) n cap, .int .i64 T] t)) :=
  ⟨w2.heap.size, g, cap, rfl, BxW.new w2 _ n cap T t, h2.below (below1 _ _), by have := h2.lt; omega, h1.size, h3, h1.trans ((below1 _ _).mono h1.size)⟩
theorem BxW.setBoth {w : World} {b n c : Nat} {p : Option Addr} {top : Int} (h : BxW w b p n c top) (p' : Option Addr) (n' c' : Nat) (t : Int) : BxW ((w.setCell ⟨b, 0, none⟩ (.slice p' n' c')).setCell ⟨b, 1, none⟩ (.int .i64 t)) b p' n' c' t := by
  obtain ⟨⟨h0, h1, h2⟩, h3, h4⟩ := h
  have e1 : (w.setCell ⟨b, 0, none⟩ (.slice p' n' c')).cell? ⟨b, 1, none⟩ = some (.int .i64 top) := by
    rw [World.cell?_setCell_other]
    · exact h1
    · intro e; cases e
  refine ⟨⟨?_, ?_, by simpa [World.setCell] using h2⟩, ?_, ?_⟩
  · rw [World.cell?_setCell_other]
    · exact World.cell?_setCell_same' w _ _ (by rw [h0]; rfl)
    · intro e; cases e
  · exact World.cell?_setCell_same' _ _ _ (by rw [e1]; rfl)
  · rw [World.frozen?_setCell, World.frozen?_setCell]; exact h3
  · rw [World.frozen?_setCell, World.frozen?_setCell]; exact h4
theorem Grown.soon {w1 w2 : World} {n T g cap : Nat} {ws : List Int} (h1 : Below w1.heap.size w1 w2) (h2 : Fr w2 g n cap ws) (h3 : w1.heap.size < g) (h4 : BxW w2 w1.heap.size none 0 0 0) : Grown w1 n T ws (.pointer (some ⟨w1.heap.size, 0, none⟩)) ((w2.setCell ⟨w1.heap.size, 0, none⟩ (.slice (some ⟨g, 0, none⟩) n cap)).setCell ⟨w1.heap.size, 1, none⟩ (.int .i64 T)) :=
  ⟨w1.heap.size, g, cap, rfl, h4.setBoth _ _ _ _, (h2.setOther (by simp; omega) _).setOther (by simp; omega) _, by omega, Nat.le_refl _, by omega, (h1.setCell (by simp) _).setCell (by simp) _⟩
set_option maxRecDepth 20000 in
set_option maxHeartbeats 8000000 in
theorem implAlloc_c (p : Option Addr) (n c : Nat) (top k : Int) (ws : List Int) (fp : Option Addr) (m fc : Nat) (fs : List Int) (w : World) (h : Is w p n c ws) (ht0 : -9223372036854775808 ≤ top) (ht1 : top ≤ 9223372036854775807) (hf : Is w fp m fc fs) :
    Calls Try.prog 27 #[.agg #[.slice p n c, .int .i64 top], .int .i64 k, .slice fp m fc] w fun e w' => AlP ws top k fs w w' e := by
  have HI : Hid (Is w p n c ws) := h
  have HF : Hid (Is w fp m fc fs) := hf
  have hlen : Hid (ws.length = n) := h.len
  have hfl : Hid (fs.length = m) := hf.len
  have hms := hf.small.1
  clear h hf
  go_enter Try.func27, Try.ntmps27
  go_wp2_with fail
  refine (objectsOf_c p n c top ws _ (by exact HI.out.below (below2 _ _ _)) ht0 ht1).mono ?_
  rintro e w1 (⟨rfl, hno, hb1⟩ | ⟨q, rfl, hob, hsb, hb1⟩)
  · have HN : Hid (¬ AlOk ws top k fs) := fun hg => hno hg.good
    have HB : Hid (Below w.heap.size w w1) := below_alloc (below_alloc hb1)
    have HR : Hid (BxW w1 (w.heap.size + 1) none 0 0 0) := by
      have := (BxW.new (w.alloc (.cells #[.slice p n c, .int .i64 top] 31)) none 0 0 0 31).below hb1
      unfold Hid; simpa using this
    have r0 := HR.out.bx.c0
    have r1 := HR.out.bx.c1
    have rf0 := HR.out.f0
    have rf1 := HR.out.f1
    clear hno hb1
    go_wp2
    exact bodyPost_ret (v := .tuple #[.agg #[.slice none 0 0, .int .i64 0], .int .i64 0, .int .i64 1]) (by simp [results, Try.results27, go_sem, r0, r1]) rfl (AlP.none 1 (Or.inl ⟨HN.out, rfl, rfl, rfl, rfl⟩) ((HB.out.setCell (by simp) _).setCell (by simp) _))
  · obtain ⟨T, rfl⟩ := Int.eq_ofNat_of_zero_le hob.lo
    have HRET : Hid ((((T : Nat) : Int).toNat) = T) := by unfold Hid; simp
    have hT : T ≤ n := by have := hob.hi; rw [hlen.out] at this; omega
    have hn2 : n ≤ 20000 := by have := hob.size; rw [hlen.out] at this; exact this
    have HB : Hid (Below w.heap.size w w1) := below_alloc (below_alloc hb1)
    have HR : Hid (BxW w1 (w.heap.size + 1) none 0 0 0) := by
      have := (BxW.new (w.alloc (.cells #[.slice p n c, .int .i64 T] 31)) none 0 0 0 31).below hb1
      unfold Hid; simpa using this
    have HA : Hid (Bx w1 w.heap.size p n c T) := ((Bx.new w p n c T _).below (below1 _ _)).below hb1
    have HG : Hid (GoodH ws T) := hob
    rw [HRET.out] at hsb
    have HSB : Hid (Sb w1 q T T (stB ws T)) := hsb
    have HF1 : Hid (Is w1 fp m fc fs) := HF.out.below HB.out
    have HI1 : Hid (Is w1 p n c ws) := HI.out.below HB.out
    have r0 := HR.out.bx.c0
    have r1 := HR.out.bx.c1
    have rf0 := HR.out.f0
    have rf1 := HR.out.f1
    have a0 := HA.out.c0
    have a1 := HA.out.c1
    clear hob hsb hb1
    have hts : Value.slice q ((T : Nat) : Int).toNat ((T : Nat) : Int).toNat = .slice q T T := by simp
    rw [hts]
    clear hts
    obtain ⟨bv, hbv⟩ : ∃ bv, vcB k m = bv := ⟨_, rfl⟩
    cases bv
    · have HN : Hid (¬ AlOk ws T k fs) := fun hg => by have := hg.cnt; rw [hfl.out, hbv] at this; cases this
      go_wp2_with (go_at_call 49; refine (validCount_c k m _).mono ?_; rintro e w2 ⟨rfl, hwx⟩; have hwy := hwx.symm; clear hwx; subst hwy; rw [hbv])
      exact bodyPost_ret (v := .tuple #[.agg #[.slice none 0 0, .int .i64 0], .int .i64 0, .int .i64 1]) (by simp [results, Try.results27, go_sem, r0, r1]) rfl (AlP.none 1 (Or.inl ⟨HN.out, rfl, rfl, rfl, rfl⟩) ((HB.out.setCell (by simp) _).setCell (by simp) _))
    · obtain ⟨hk0, hk3, hm, hk2⟩ := vc_facts hbv
      obtain ⟨bo, hbo⟩ : ∃ bo, voB (4 * m + k) fs (stB ws T) T = bo := ⟨_, rfl⟩
      have HVO : Hid (bo = true ↔ (k = 2 → fnB (fs.getD 0 0) = true) ∧ ∀ i, i < fs.length → WordOk ws T (fs.getD i 0)) := by unfold Hid; rw [← hbo, ← hfl.out]; exact voB_iff2 hk0 hk3
      have hpos : (4 * (m : Int) + k) % 4 = 2 → 0 < m := fun h => hk2 (by omega)
      have HPOS : Hid ((4 * (m : Int) + k) % 4 = 2 → 0 < m) := hpos
      obtain ⟨hdr, hhdr⟩ : ∃ hdr : Int, hdr = 4 * m + k := ⟨_, rfl⟩
      have HHDR : Hid (hdr = 4 * m + k) := hhdr
      rw [← hhdr] at hbo HPOS
      have hdr0 : 0 ≤ hdr := by omega
      have hdr1 : hdr ≤ 5000 := by omega
      clear hhdr hpos hk2
      cases bo
      · have HN : Hid (¬ AlOk ws T k fs) := fun hg => by
          have h1 := hg.fn
          have h2 := hg.words
          rw [HRET.out] at h2
          have := HVO.out.2 ⟨h1, h2⟩
          cases this
        go_wp2_with (first | (go_at_call 49; refine (validCount_c k m _).mono ?_; rintro e w2 ⟨rfl, hwx⟩; have hwy := hwx.symm; clear hwx; subst hwy; rw [hbv]) | (go_at_call 50; refine (headerOf_c k fp m fc _ hk0 hk3 (by omega)).mono ?_; rintro e w2 ⟨rfl, hwx⟩; have hwy := hwx.symm; clear hwx; subst hwy; rw [← HHDR.out]) | (go_at_call 51; refine (validObject_c hdr fp m fc fs q T T (stB ws T) _ HF1.out HSB.out HPOS.out).mono ?_; rintro e w2 ⟨rfl, hwx⟩; have hwy := hwx.symm; clear hwx; subst hwy; rw [hbo]))
        exact bodyPost_ret (v := .tuple #[.agg #[.slice none 0 0, .int .i64 0], .int .i64 0, .int .i64 1]) (by simp [results, Try.results27, go_sem, r0, r1]) rfl (AlP.none 1 (Or.inl ⟨HN.out, rfl, rfl, rfl, rfl⟩) ((HB.out.setCell (by simp) _).setCell (by simp) _))
      · have HOK : Hid (AlOk ws T k fs) := ⟨HG.out, by rw [hfl.out]; exact hbv, (HVO.out.1 rfl).1, by rw [HRET.out]; exact (HVO.out.1 rfl).2⟩
        clear HVO
        by_cases hfit : n < T + 1 + m
        · have hd1 : decide ((n : Int) - (T : Int) < 1 + (m : Int)) = true := decide_eq_true (by omega)
          go_wp2_with (first | (go_at_call 49; refine (validCount_c k m _).mono ?_; rintro e w2 ⟨rfl, hwx⟩; have hwy := hwx.symm; clear hwx; subst hwy; rw [hbv]) | (go_at_call 50; refine (headerOf_c k fp m fc _ hk0 hk3 (by omega)).mono ?_; rintro e w2 ⟨rfl, hwx⟩; have hwy := hwx.symm; clear hwx; subst hwy; rw [← HHDR.out]) | (go_at_call 51; refine (validObject_c hdr fp m fc fs q T T (stB ws T) _ HF1.out HSB.out HPOS.out).mono ?_; rintro e w2 ⟨rfl, hwx⟩; have hwy := hwx.symm; clear hwx; subst hwy; rw [hbo]))
          exact bodyPost_ret (v := .tuple #[.agg #[.slice none 0 0, .int .i64 0], .int .i64 0, .int .i64 13]) (by simp [results, Try.results27, go_sem, r0, r1]) rfl (AlP.none 13 (Or.inr (Or.inl ⟨HOK.out, by rw [hlen.out, hfl.out]; omega, rfl, rfl, rfl, rfl⟩)) ((HB.out.setCell (by simp) _).setCell (by simp) _))
        · have hd1 : decide ((n : Int) - (T : Int) < 1 + (m : Int)) = false := decide_eq_false (by omega)
          go_wp2_with (first | (go_at_call 49; refine (validCount_c k m _).mono ?_; rintro e w2 ⟨rfl, hwx⟩; have hwy := hwx.symm; clear hwx; subst hwy; rw [hbv]) | (go_at_call 50; refine (headerOf_c k fp m fc _ hk0 hk3 (by omega)).mono ?_; rintro e w2 ⟨rfl, hwx⟩; have hwy := hwx.symm; clear hwx; subst hwy; rw [← HHDR.out]) | (go_at_call 51; refine (validObject_c hdr fp m fc fs q T T (stB ws T) _ HF1.out HSB.out HPOS.out).mono ?_; rintro e w2 ⟨rfl, hwx⟩; have hwy := hwx.symm; clear hwx; subst hwy; rw [hbo]))
          have aZ0 := (HA.out.below (below1 w1 (.cells #[.slice none 0 0, .int .i64 0] 31))).c0
          have aZ1 := (HA.out.below (below1 w1 (.cells #[.slice none 0 0, .int .i64 0] 31))).c1
          go_cut [12] from 48 (fun v wc => Grown w1 n T ws v wc)
          case first =>
            go_region_with (go_at_call 52; refine (clone_c p n c ws _ ?y1 (by omega) (by omega)).mono ?_; (case y1 => first | exact HI1.out.below (below_drew (Below.refl _ _)) | exact HI1.out.below (below_drew (below1 _ _))); rintro e w2 ⟨g, cap, rfl, hg, hfr, hb2⟩; have HB2 : Hid (Below w1.heap.size w1 w2) := (by first | exact (below_drew (Below.refl _ _)).trans hb2 | exact (below_drew (below1 _ _)).trans (hb2.mono (by simp))); have HFR : Hid (Fr w2 g n cap ws) := hfr; have HGG : Hid (w1.heap.size ≤ g) := (by first | exact hg | exact Nat.le_trans (by simp) hg); have a2 := (HA.out.below HB2.out).c1; have aY := ((HA.out.below HB2.out).below (below1 w2 (.cells #[.slice none 0 0, .int .i64 0] 31))).c1; (first | (have HZB : Hid (BxW w2 w1.heap.size none 0 0 0) := (by exact (BxW.new w1 none 0 0 0 31).below ((below_drew (Below.refl _ _)).trans hb2)); have bz0 := HZB.out.bx.c0; have bz1 := HZB.out.bx.c1; have bz2 := HZB.out.f0; have bz3 := HZB.out.f1; have HGN : Hid (w1.heap.size < g) := (by have := hg; simp at this; exact this)) | skip); clear hg hfr hb2)
            all_goals go_wp2_with fail
            all_goals go_meet
            all_goals first | exact Grown.late HB2.out HFR.out HGG.out _ | exact Grown.soon HB2.out HFR.out HGN.out HZB.out
          case rest =>
            obtain ⟨gb, g, cap, rfl, hxw, hfr, hne, hgb, hg, hbc⟩ := hcut
            have HXW : Hid (BxW wc gb (some ⟨g, 0, none⟩) n cap T) := hxw
            have HFR : Hid (Fr wc g n cap ws) := hfr
            have HBC : Hid (Below w1.heap.size w1 wc) := hbc
            have HFG : Hid (∀ b o, fp = some ⟨b, o, none⟩ → 0 < m → b ≠ g) := by
              intro b o e hm0
              obtain ⟨b', o', e', hlt, _⟩ := HF1.out.cells hm0
              rw [e] at e'; cases e'; omega
            have hw1 := HB.out.size
            have hrlt := HR.out.bx.lt
            clear hxw hfr hbc aZ0 aZ1 r0 r1 rf0 rf1 a0 a1 hd1
            go_wp2_with fail
            refine (put_c gb g n cap T m fc fp hdr ws fs _ HXW.out HFR.out hne (HF1.out.below HBC.out) HFG.out (by omega) (by omega)).mono ?_
            rintro e w3 ⟨rfl, hbx, hfr3, htwo⟩
            rw [hfl.out] at hbx
            have HG3 : Hid (BxW w3 gb (some ⟨g, 0, none⟩) n cap ((T + 1 + m : Nat) : Int)) := hbx
            have HF3 : Hid (Fr w3 g n cap (putO ws T hdr fs)) := hfr3
            have HB3 : Hid (Below w.heap.size w w3) := (HB.out.trans (HBC.out.mono hw1)).trans (htwo.below (by omega) (by omega))
            have HR3 : Hid (BxW w3 (w.heap.size + 1) none 0 0 0) := (HR.out.below HBC.out).two htwo (by omega) (by omega)
            have HA3 : Hid (BxW w3 w.heap.size p n c T → True) := fun _ => trivial
            have a3 : w3.cell? ⟨w.heap.size, 1, none⟩ = some (.int .i64 (T : Int)) := by
              rw [World.cell?_of_block (w := wc) (htwo.block w.heap.size (by omega) (by omega))]
              exact (HA.out.below HBC.out).c1
            have g0 := HG3.out.bx.c0
            have g1 := HG3.out.bx.c1
            have r0 := HR3.out.bx.c0
            have r1 := HR3.out.bx.c1
            have rf0 := HR3.out.f0
            have rf1 := HR3.out.f1
            have hgr : ¬ gb = w.heap.size + 1 := by omega
            clear hbx hfr3 htwo HA3
            have FIN : Hid (AlP ws T k fs w ((w3.setCell ⟨w.heap.size + 1, 0, none⟩ (.slice (some ⟨g, 0, none⟩) n cap)).setCell ⟨w.heap.size + 1, 1, none⟩ (.int .i64 ((T : Int) + 1 + (m : Int)))).drew (.returned (.tuple #[.agg #[.slice (some ⟨g, 0, none⟩) n cap, .int .i64 ((T : Int) + 1 + (m : Int))], .int .i64 (4 * (T : Int) + 1), .int .i64 0]))) := by
              have hl : T + 1 + fs.length ≤ ws.length := by rw [hfl.out, hlen.out]; omega
              have hf4 : Fr ((w3.setCell ⟨w.heap.size + 1, 0, none⟩ (.slice (some ⟨g, 0, none⟩) n cap)).setCell ⟨w.heap.size + 1, 1, none⟩ (.int .i64 ((T : Int) + 1 + (m : Int)))).drew g n cap (putO ws T hdr fs) := ((HF3.out.setOther (by simp; omega) _).setOther (by simp; omega) _).of_block rfl
              refine ⟨some ⟨g, 0, none⟩, n, cap, putO ws T hdr fs, _, _, _, rfl, Or.inr (Or.inr ⟨HOK.out, by rw [hfl.out, hlen.out]; omega, by rw [HRET.out, HHDR.out, hfl.out], by rw [hfl.out], rfl, rfl⟩), hf4.is (rng_putO HI.out.rng HF.out.rng (by omega) hl), hf4.wr (by omega) hf4.lt, below_drew ((HB3.out.setCell (by simp) _).setCell (by simp) _)⟩
            go_wp2_with fail
            go_region_with (go_at_call 54; refine (wordOf_c 1 T _ (by omega) (by omega) (by omega) (by omega)).mono ?_; rintro e w4 ⟨rfl, hwx⟩; have hwy := hwx.symm; clear hwx; subst hwy)
            all_goals go_wp2
            all_goals exact bodyPost_ret (v := .tuple #[.agg #[.slice (some ⟨g, 0, none⟩) n cap, .int .i64 ((T : Int) + 1 + (m : Int))], .int .i64 (4 * (T : Int) + 1), .int .i64 0]) (by simp [results, Try.results27, Act.put, go_sem, r0, r1]) rfl FIN.out
end Go.Proofs.Ytpfodinoeoejcaa
