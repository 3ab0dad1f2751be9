import Derived.Test.YtbcanodijcglpaaDoorWa
namespace Go.Proofs.YtbcanodijcglpaaDoor
open Go.RowKit Ch1
theorem good_count {d : Dt} (hg : goodB d = true) (hk : d.kind = 3) : 0 ≤ d.count := by
  obtain ⟨kind, n, t, count⟩ := d
  simp only at hk
  subst hk
  rw [good_list n count t t.length rfl] at hg
  simp at hg
  exact hg.2
set_option maxHeartbeats 2000000 in
theorem behind18_list (deep : Nat) (b o m c : Nat) (d : Dt) (r : List Dt) (a : Int) (w : World) (h0 : 0 ≤ a) (h1 : a < 100)
    (ih : ∀ (p : Option Addr) (n c : Nat) (ds : List Dt) (w : World), Da w p n c ds → Calls Tryd.prog 66 #[.slice p n c, .int .i64 (a + 1)] w fun e w' => Out (skip deep ds) e w' ∧ Below w.heap.size w w')
    (hD : Da w (some ⟨b, o, none⟩) (m + 1) (c + 1) (d :: r)) (hg : goodB d = true) (hk : d.kind = 3) :
    Calls Tryd.prog 66 #[.slice (some ⟨b, o, none⟩) (m + 1) (c + 1), .int .i64 a] w fun e w' => Out (skip (deep + 1) (d :: r)) e w' ∧ Below w.heap.size w w' := by
  have HO : Hid (skip (deep + 1) (d :: r) = skipN (skip deep) d.count.toNat r) := skip_list deep d r hg hk
  have IH : Hid (∀ (p : Option Addr) (n c : Nat) (ds : List Dt) (w : World), Da w p n c ds → Calls Tryd.prog 66 #[.slice p n c, .int .i64 (a + 1)] w fun e w' => Out (skip deep ds) e w' ∧ Below w.heap.size w w') := ih
  clear ih
  have ha : (a == 100) = false := beq_eq_false_iff_ne.2 (by omega)
  have hcnt : 0 ≤ d.count := good_count hg hk
  have hk' : (d.kind != 3) = false := by simp [hk]
  clear hk
  obtain ⟨p1, hp1, hT⟩ := hD.rest
  have HT : Hid (Da w p1 m c r) := hT
  obtain ⟨b', o', tp, tn, tc, e, hbl, he⟩ := hD.head
  cases e
  have HY : Hid (By w tp tn tc d.text) := he.by_
  have hcap : m + 1 ≤ c + 1 := hD.cap
  have hbig : c + 1 ≤ 9223372036854775807 := by have := hD.big; unfold maxLen at this; omega
  have HE : Hid (El w b o d tp tn tc) := he
  have hhi : d.count ≤ 9223372036854775807 := he.hi
  have e0 := he.c0
  have e1 := he.c1
  have e2 := he.c2
  have e3 := he.c3
  have hm : ((m : Int) + 1 == 0) = false := beq_eq_false_iff_ne.2 (by omega)
  clear hD he hT
  go_enter Tryd.func66, Tryd.ntmps66
  go_wp2_with (go_at_call 71; refine (alone31 d _ _ _ _ HY.out).mono ?_; rintro e w1 ⟨rfl, hb1⟩; rw [hg]; clear e0 e1 e2 e3; have e0 := (HE.out.below hbl hb1).c0; have e1 := (HE.out.below hbl hb1).c1; have e2 := (HE.out.below hbl hb1).c2; have e3 := (HE.out.below hbl hb1).c3; have hlt1 : b < w1.heap.size := Nat.lt_of_lt_of_le hbl hb1.size)
  have h1m : (1 : Int) ≤ (m : Int) + 1 := by omega
  go_region
  have HB : Hid (Below w.heap.size w (w1.alloc (.cells #[.int .i64 d.kind, .int .i64 d.n, .slice tp tn tc, .int .i64 d.count] 75)).drew) := (hb1.alloc hb1.size _).drew
  clear e0 e1 e2 e3 hb1
  go_wp2
  go_loopw [7, 33] (fun rest i wr => ∃ (k : Nat) (q : List Dt) (p' : Option Addr) (n' c' : Nat), (k : Int) ≤ d.count ∧ i = .int .i64 k ∧ rest = .slice p' n' c' ∧ Hid (skipN (skip deep) k r = some q) ∧ Hid (Da wr p' n' c' q) ∧ Hid (Below w.heap.size w wr)) (fun _ i _ => (d.count - intOf i).toNat)
  case atStart => exact ⟨0, r, p1, m, c, hcnt, rfl, rfl, rfl, HT.out.below HB.out, HB⟩
  case round =>
    clear HB HT HE HY hp1
    obtain ⟨k, q, p', n', c', hk, rfl, rfl, hs, hD, hb⟩ := hrel
    by_cases hlt : (k : Int) < d.count
    · cases hsk : skip deep q with
      | none =>
        have HSK : Hid (skip deep q = none) := hsk
        have HF : Hid (skipN (skip deep) d.count.toNat r = none) := by
          have e : skipN (skip deep) (k + 1) r = none := by rw [skipN_succ_right, hs.out]; exact hsk
          have := skipN_none_mono _ (k + 1) (d.count.toNat - (k + 1)) r e
          rwa [show k + 1 + (d.count.toNat - (k + 1)) = d.count.toNat by omega] at this
        clear hsk
        go_wp2_with (go_at_call 66; refine (IH.out p' n' c' q _ hD.out).mono ?_; rintro e w2 ⟨ho, hb2⟩; rw [HSK.out] at ho; simp only [Out] at ho; subst ho)
        go_ret2
        rw [HO.out, HF.out]
        exact ⟨rfl, hb.out.trans (hb2.mono hb.out.size)⟩
      | some q' =>
        have HSK : Hid (skip deep q = some q') := hsk
        clear hsk
        go_wp2_with (go_at_call 66; refine (IH.out p' n' c' q _ hD.out).mono ?_; rintro e w2 ⟨ho, hb2⟩; rw [HSK.out] at ho; simp only [Out] at ho; obtain ⟨p2, n2, c2, rfl, hD2⟩ := ho; have HD2 : Hid (Da w2 p2 n2 c2 q') := hD2; clear hD2)
        refine ⟨⟨k + 1, q', p2, n2, c2, by omega, by go_num, rfl, ?_, HD2, hb.out.trans (hb2.mono hb.out.size)⟩, by simp [intOf]; omega⟩
        show skipN (skip deep) (k + 1) r = some q'
        rw [skipN_succ_right, hs.out]
        exact HSK.out
    · have hke : (k : Int) = d.count := by omega
      have HK : Hid ((k : Int) = d.count) := hke
      clear hke
      go_wp2
      go_ret2
      rw [HO.out, ← HK.out, Int.toNat_natCast, hs.out]
      exact ⟨⟨_, _, _, rfl, hD.out⟩, hb.out⟩

theorem behind18 (deep : Nat) : ∀ (a : Int), a = 100 - deep → deep ≤ 100 → ∀ (p : Option Addr) (n c : Nat) (ds : List Dt) (w : World), Da w p n c ds →
    Calls Tryd.prog 66 #[.slice p n c, .int .i64 a] w fun e w' => Out (skip deep ds) e w' ∧ Below w.heap.size w w' := by
  induction deep with
  | zero =>
    intro a ha _ p n c ds w hD
    cases ds with
    | nil =>
      obtain rfl : n = 0 := hD.len.symm
      exact behind18_nil 0 p c a w
    | cons d r =>
      obtain ⟨m, rfl⟩ : ∃ m, n = m + 1 := ⟨r.length, hD.len.symm⟩
      cases hg : goodB d
      · exact behind18_bad 0 p m c d r a w hD hg
      · obtain ⟨c', rfl⟩ : ∃ c', c = c' + 1 := ⟨c - 1, by have := hD.cap; omega⟩
        obtain ⟨b, o, _, _, _, rfl, _, _⟩ := hD.head
        by_cases hk : d.kind = 3
        · obtain rfl : a = 100 := by omega
          exact behind18_deep b o m c' d r w hD hg hk
        · exact behind18_atom 0 b o m c' d r a w hD hg (by simpa using hk)
  | succ deep ih =>
    intro a ha hle p n c ds w hD
    cases ds with
    | nil =>
      obtain rfl : n = 0 := hD.len.symm
      exact behind18_nil (deep + 1) p c a w
    | cons d r =>
      obtain ⟨m, rfl⟩ : ∃ m, n = m + 1 := ⟨r.length, hD.len.symm⟩
      cases hg : goodB d
      · exact behind18_bad (deep + 1) p m c d r a w hD hg
      · obtain ⟨c', rfl⟩ : ∃ c', c = c' + 1 := ⟨c - 1, by have := hD.cap; omega⟩
        obtain ⟨b, o, _, _, _, rfl, _, _⟩ := hD.head
        by_cases hk : d.kind = 3
        · exact behind18_list deep b o m c' d r a w (by omega) (by omega) (ih (a + 1) (by omega) (by omega)) hD hg hk
        · exact behind18_atom (deep + 1) b o m c' d r a w hD hg (by simpa using hk)
end Go.Proofs.YtbcanodijcglpaaDoor
