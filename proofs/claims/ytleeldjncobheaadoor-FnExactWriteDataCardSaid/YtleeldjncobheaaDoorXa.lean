import Derived.Test.YtleeldjncobheaaDoorX9
namespace Go.Proofs.YtleeldjncobheaaDoor
open Go.RowKit Ch1
theorem By.litAt (w : World) (box : Obj) (y : Int) (h0 : 0 ≤ y) (h1 : y < 256) : By ((w.alloc box).alloc (.cells #[.int .u8 y] 5)).drew (some ⟨w.heap.size + 1, 0, none⟩) 1 1 [y] := by
  have := By.lit (w.alloc box) y h0 h1
  simp only [World.size_alloc] at this
  exact this.below (Below.refl _ _).drew
theorem own_lt {w : World} {B : Nat} {v : Value} {xs : List Int} (h : Ow w B v xs) : ∀ k, v.ownBlock = some k → k < w.heap.size := by
  obtain ⟨_, ⟨rfl, _⟩ | ⟨g, cap, cur, rfl, hg, hh, _⟩⟩ := h
  · intro k hk; cases hk
  · intro k hk; cases hk; exact (Array.getElem?_eq_some_iff.1 hh).1
/-- The box of a local struct stands while an own row grows. -/
theorem box_stays {w w1 : World} {B : Nat} {v : Value} {xs : List Int} (h : Ow w B v xs) (box : Array Value) (t : TypeId) (o2 : Obj) (hg : ((w.alloc (.cells box t)).alloc o2).drew.grownBy w1 v.ownBlock) (i : Nat) : w1.cell? ⟨w.heap.size, i, none⟩ = box[i]? := by
  have hne : some w.heap.size ≠ v.ownBlock := by
    intro e
    have := own_lt h _ e.symm
    omega
  have e1 : w1.heap[w.heap.size]? = ((w.alloc (.cells box t)).alloc o2).drew.heap[w.heap.size]? := hg.block _ (by show w.heap.size < ((w.alloc (.cells box t)).alloc o2).heap.size; simp; omega) hne
  rw [World.cell?_of_block (w := ((w.alloc (.cells box t)).alloc o2).drew) (a := ⟨w.heap.size, i, none⟩) e1]
  simp
/-- What the induction says of writeDatum. -/
def Wd19 (k : Nat) : Prop := ∀ (v : Value) (p : Option Addr) (n c : Nat) (ds r : List Dt) (acc : List Int) (w0 w : World), Da w0 p n c ds → Below w0.heap.size w0 w → Ow w w0.heap.size v acc → Tab w0 → skip k ds = some r → acc.length + 130 * n ≤ 1000000 →
  Calls Tryd.prog 30 #[v, .slice p n c] w fun e w' => WD w0 w' e (acc ++ txt k ds) r
set_option maxHeartbeats 2000000 in
theorem wd19_list (k : Nat) (ih : Wd19 k) (v : Value) (b o m c : Nat) (d : Dt) (r rEnd : List Dt) (acc : List Int) (w0 w : World) (hD : Da w0 (some ⟨b, o, none⟩) (m + 1) (c + 1) (d :: r)) (hb : Below w0.heap.size w0 w) (ho : Ow w w0.heap.size v acc) (ht : Tab w0) (hl : acc.length + 130 * (m + 1) ≤ 1000000) (hg : goodB d = true) (hk : d.kind = 3) (hsk : skipN (skip k) d.count.toNat r = some rEnd) :
    Calls Tryd.prog 30 #[v, .slice (some ⟨b, o, none⟩) (m + 1) (c + 1)] w fun e w' => WD w0 w' e (acc ++ txt (k + 1) (d :: r)) rEnd := by
  have HT : Hid (acc ++ txt (k + 1) (d :: r) = acc ++ [40] ++ elems (skip k) (txt k) d.count.toNat r ++ [41]) := by unfold Hid; rw [txt_list k d r hk]; simp
  have hcnt := good_nonneg hg
  have HS : Hid (skipN (skip k) d.count.toNat r = some rEnd) := hsk
  have hrl : r.length = m := by have := hD.len; simpa using this
  have HBD : Hid (∀ j q, skipN (skip k) j r = some q → (elems (skip k) (txt k) j r).length + 130 * q.length ≤ 130 * m) := by
    intro j q hq
    have := elems_bound (txt_bound k) _ _ _ hq
    rw [hrl] at this; exact this
  obtain ⟨p1, hp1, hR⟩ := hD.rest
  have HR : Hid (Da w0 p1 m c r) := hR
  obtain ⟨b', o', tp, tn, tc, e, hbl, he⟩ := hD.head
  cases e
  have hcap : m + 1 ≤ c + 1 := hD.cap
  have hbig : c + 1 ≤ 9223372036854775807 := by have := hD.big; unfold maxLen at this; omega
  have hhi := he.hi
  have he' := he.below hbl hb
  have e0 := he'.c0
  have e1 := he'.c1
  have e2 := he'.c2
  have e3 := he'.c3
  rw [hk] at e0
  have hlt1 : b < w.heap.size := Nat.lt_of_lt_of_le hbl hb.size
  have h1m : (1 : Int) ≤ (m : Int) + 1 := by omega
  have HO : Hid (Ow w w0.heap.size v acc) := ho
  have HB : Hid (Below w0.heap.size w0 w) := hb
  have HTB : Hid (Tab w0) := ht
  have hsz := hb.size
  clear hD he he' hR hg hk hb ho ht hsk hrl
  go_enter Tryd.func30, Tryd.ntmps30
  go_wp2
  go_region
  go_wp2_with (at_builtin; refine app_law _ rfl (.tmp 38) (.tmp 39) rfl w0.heap.size v acc [40] (by simp [Act.eval]) (by exact HO.out.below (below2 w _ _).drew) (w.heap.size + 1) 0 1 1 (by simp [Act.eval]) (By.litAt w _ 40 (by omega) (by omega)) (by omega) (by simp; omega) ?_; intro v1 w1 ho1 hb1 hgr; have HO1 : Hid (Ow w1 w0.heap.size v1 (acc ++ [40])) := ho1; have HB1 : Hid (Below w0.heap.size w0 w1) := (((HB.out.alloc hsz _).alloc (by simp; omega) _).drew).trans hb1; have e3 := box_stays HO.out _ _ _ hgr 3; simp at e3; clear ho1 hb1 hgr)
  go_loopw [0, 7, 43] (fun ov rv iv wr => ∃ (j : Nat) (q : List Dt) (p' : Option Addr) (n' c' : Nat), (j : Int) ≤ d.count ∧ iv = .int .i64 j ∧ rv = .slice p' n' c' ∧ Hid (skipN (skip k) j r = some q) ∧ Hid (Da w0 p' n' c' q) ∧ Hid (Ow wr w0.heap.size ov (acc ++ [40] ++ elems (skip k) (txt k) j r)) ∧ Hid (Below w0.heap.size w0 wr)) (fun _ _ iv _ => (d.count - intOf iv).toNat)
  case atStart => exact ⟨0, r, p1, m, c, hcnt, rfl, rfl, rfl, HR, by unfold Hid; rw [elems, List.append_nil]; exact HO1.out, HB1⟩
  case round =>
    clear HO1 HB1 HR HO HB hp1
    obtain ⟨j, q, p', n', c', hj, rfl, rfl, hs, hDa, hO, hb⟩ := hrel
    have hbd := HBD.out j q hs.out
    have hql : Hid (q.length = n') := hDa.out.len
    rw [hql.out] at hbd
    by_cases hlt : (j : Int) < d.count
    · obtain ⟨q1, hq1⟩ := skipN_le HS.out (show j + 1 ≤ d.count.toNat by omega)
      obtain ⟨q0, hq0, hqk⟩ := skipN_succ_some hq1
      rw [hs.out] at hq0
      cases hq0
      have HQ1 : Hid (skipN (skip k) (j + 1) r = some q1) := hq1
      have HQK : Hid (skip k q = some q1) := hqk
      have HE1 : Hid (elems (skip k) (txt k) (j + 1) r = elems (skip k) (txt k) j r ++ ((if j = 0 then [] else [32]) ++ txt k q)) := elems_succ _ _ _ _ _ hs.out
      clear hq1 hqk
      generalize elems (skip k) (txt k) j r = el at hO HE1 hbd
      have hsz2 := hb.out.size
      cases j with
      | zero =>
        go_wp2_with (go_at_call 30; refine (ih _ p' n' c' q q1 (acc ++ [40] ++ el) w0 _ hDa.out hb.out hO.out HTB.out HQK.out (by simp; omega)).mono ?_; rintro e w2 ⟨v2, p2, n2, c2, rfl, ho2, hd2, hb2⟩; have HO2 : Hid (Ow w2 w0.heap.size v2 (acc ++ [40] ++ el ++ txt k q)) := ho2; have HD2 : Hid (Da w0 p2 n2 c2 q1) := hd2; have HB2 : Hid (Below w0.heap.size w0 w2) := hb2; clear ho2 hd2 hb2)
        refine ⟨⟨1, q1, p2, n2, c2, by omega, rfl, rfl, HQ1, HD2, ?_, HB2⟩, by simp [intOf]; omega⟩
        have e5 := HE1.out
        simp only [if_true, List.nil_append] at e5
        rw [show (1 : Nat) = 0 + 1 from rfl, e5, ← List.append_assoc]
        exact HO2
      | succ j =>
        go_wp2_with (first | (at_builtin; refine app_law _ rfl (.tmp 48) (.tmp 49) rfl w0.heap.size u0 (acc ++ [40] ++ el) [32] (by simp [Act.eval]) (by exact hO.out.below (below1 _ _)) wr.heap.size 0 1 1 (by simp [Act.eval]) (By.lit wr 32 (by omega) (by omega)) (by simp; omega) (by simp; omega) ?_; intro v3 w3 ho hg _; have HO3 : Hid (Ow w3 w0.heap.size v3 (acc ++ [40] ++ el ++ [32])) := ho; have HB3 : Hid (Below w0.heap.size w0 w3) := (hb.out.alloc hsz2 _).trans hg; clear ho hg) | (go_at_call 30; refine (ih v3 p' n' c' q q1 (acc ++ [40] ++ el ++ [32]) w0 _ hDa.out HB3.out HO3.out HTB.out HQK.out (by simp; omega)).mono ?_; rintro e w2 ⟨v2, p2, n2, c2, rfl, ho2, hd2, hb2⟩; have HO2 : Hid (Ow w2 w0.heap.size v2 (acc ++ [40] ++ el ++ [32] ++ txt k q)) := ho2; have HD2 : Hid (Da w0 p2 n2 c2 q1) := hd2; have HB2 : Hid (Below w0.heap.size w0 w2) := hb2; clear ho2 hd2 hb2))
        refine ⟨⟨j + 1 + 1, q1, p2, n2, c2, by omega, by go_num, rfl, HQ1, HD2, ?_, HB2⟩, by simp [intOf]; omega⟩
        have e5 := HE1.out
        simp only [Nat.add_eq_zero_iff, Nat.one_ne_zero, and_false, if_false] at e5
        rw [e5, ← List.append_assoc, ← List.append_assoc]
        exact HO2
    · have HK : Hid ((j : Int) = d.count) := by unfold Hid; omega
      have hst : Hid (d.count.toNat = j) := by unfold Hid; rw [← HK.out]; simp
      have HT2 : Hid (acc ++ txt (k + 1) (d :: r) = acc ++ [40] ++ elems (skip k) (txt k) j r ++ [41]) := by unfold Hid; rw [HT.out, hst.out]
      have HQE : Hid (q = rEnd) := by
        have h1 := HS.out
        rw [hst.out, hs.out] at h1
        cases h1; rfl
      generalize elems (skip k) (txt k) j r = el at hO HT2 hbd
      have hsz2 := hb.out.size
      go_wp2_with (at_builtin; refine app_law _ rfl (.tmp 58) (.tmp 59) rfl w0.heap.size u0 (acc ++ [40] ++ el) [41] (by simp [Act.eval]) (by exact hO.out.below (below1 _ _)) wr.heap.size 0 1 1 (by simp [Act.eval]) (By.lit wr 41 (by omega) (by omega)) (by simp; omega) (by simp; omega) ?_; intro v3 w3 ho hg _; have HO3 : Hid (Ow w3 w0.heap.size v3 (acc ++ [40] ++ el ++ [41])) := ho; have HB3 : Hid (Below w0.heap.size w0 w3) := (hb.out.alloc hsz2 _).trans hg; clear ho hg)
      go_ret2
      rw [HT2.out, ← HQE.out]
      exact ⟨v3, p', n', c', rfl, HO3.out, hDa.out, HB3.out⟩
theorem wd19 : ∀ k, Wd19 k := by
  intro k
  induction k with
  | zero =>
    intro v p n c ds r acc w0 w hD hb ho ht hs hl
    obtain ⟨d, q, rfl, hg, ⟨hk, rfl⟩ | ⟨k', e, _⟩⟩ := skip_some hs
    · obtain ⟨m, rfl⟩ : ∃ m, n = m + 1 := ⟨r.length, hD.len.symm⟩
      obtain ⟨c', rfl⟩ : ∃ c', c = c' + 1 := ⟨c - 1, by have := hD.cap; omega⟩
      obtain ⟨b, o, _, _, _, rfl, _, _⟩ := hD.head
      rcases good_kinds hg with h0 | h0 | h0 | h0
      · exact wd19_int 0 v b o m c' d r acc w0 w hD hb ho ht (by omega) hg h0
      · exact wd19_bool 0 v b o m c' d r acc w0 w hD hb ho (by omega) h0
      · exact wd19_sym 0 v b o m c' d r acc w0 w hD hb ho (by omega) hg h0
      · exact absurd h0 hk
    · omega
  | succ k ih =>
    intro v p n c ds r acc w0 w hD hb ho ht hs hl
    obtain ⟨d, q, rfl, hg, hcase⟩ := skip_some hs
    obtain ⟨m, rfl⟩ : ∃ m, n = m + 1 := ⟨q.length, hD.len.symm⟩
    obtain ⟨c', rfl⟩ : ∃ c', c = c' + 1 := ⟨c - 1, by have := hD.cap; omega⟩
    obtain ⟨b, o, _, _, _, rfl, _, _⟩ := hD.head
    rcases hcase with ⟨hk, rfl⟩ | ⟨k', e, hk, hss⟩
    · rcases good_kinds hg with h0 | h0 | h0 | h0
      · exact wd19_int _ v b o m c' d r acc w0 w hD hb ho ht (by omega) hg h0
      · exact wd19_bool _ v b o m c' d r acc w0 w hD hb ho (by omega) h0
      · exact wd19_sym _ v b o m c' d r acc w0 w hD hb ho (by omega) hg h0
      · exact absurd h0 hk
    · obtain rfl : k = k' := by omega
      exact wd19_list k ih v b o m c' d q r acc w0 w hD hb ho ht hl hg hk hss
/-- What impl.WriteData answers. -/
def OwT (w w' : World) (e : Ending) (xs : List Int) : Prop := ∃ v, e = .returned v ∧ Ow w' w.heap.size v xs ∧ Below w.heap.size w w'
end Go.Proofs.YtleeldjncobheaaDoor
