import Derived.Test.YtleeldjncobheaaDoorX8
namespace Go.Proofs.YtleeldjncobheaaDoor
open Go.RowKit Ch1
set_option maxHeartbeats 1000000 in
theorem wd19_int (k : Nat) (v : Value) (b o m c : Nat) (d : Dt) (r : List Dt) (acc : List Int) (w0 w : World) (hD : Da w0 (some ⟨b, o, none⟩) (m + 1) (c + 1) (d :: r)) (hb : Below w0.heap.size w0 w) (ho : Ow w w0.heap.size v acc) (ht : Tab w0) (hl : acc.length ≤ 1000000) (hg : goodB d = true) (hk : d.kind = 0) :
    Calls Tryd.prog 30 #[v, .slice (some ⟨b, o, none⟩) (m + 1) (c + 1)] w fun e w' => WD w0 w' e (acc ++ txt k (d :: r)) r := by
  have HT : Hid (txt k (d :: r) = itoaZ d.n) := txt_int k d r hk
  have hs := good_small hg hk
  obtain ⟨p1, hp1, hR⟩ := hD.rest
  have HR : Hid (Da w0 p1 m c r) := hR
  obtain ⟨b', o', tp, tn, tc, e, hbl, he⟩ := hD.head
  cases e
  have hcap : m + 1 ≤ c + 1 := hD.cap
  have hbig : c + 1 ≤ 9223372036854775807 := by have := hD.big; unfold maxLen at this; omega
  have he' := he.below hbl hb
  have e0 := he'.c0
  have e1 := he'.c1
  have e2 := he'.c2
  have e3 := he'.c3
  rw [hk] at e0
  have hlt1 : b < w.heap.size := Nat.lt_of_lt_of_le hbl hb.size
  have h1m : (1 : Int) ≤ (m : Int) + 1 := by omega
  have HO : Hid (Ow w w0.heap.size v acc) := ho
  have HB : Hid (Below w0.heap.size w0 w) := hb
  have HTB : Hid (Tab w0) := ht
  clear hD he he' hR hg hk hb ho ht
  go_enter Tryd.func30, Tryd.ntmps30
  go_wp2
  go_region
  go_wp2_with (go_at_call 48; refine (appendInt d.n (by omega) (by omega) v acc w0 _ HTB.out (by exact (HB.out.alloc HB.out.size _).drew) (by exact HO.out.below (below1 w _).drew) hl).mono ?_; rintro e w1 ⟨v1, rfl, ho1, hb1⟩)
  go_ret2
  rw [HT.out]
  exact ⟨v1, p1, m, c, rfl, ho1, HR.out, (HB.out.alloc HB.out.size _).drew.trans hb1⟩
set_option maxHeartbeats 1000000 in
theorem wd19_bool (k : Nat) (v : Value) (b o m c : Nat) (d : Dt) (r : List Dt) (acc : List Int) (w0 w : World) (hD : Da w0 (some ⟨b, o, none⟩) (m + 1) (c + 1) (d :: r)) (hb : Below w0.heap.size w0 w) (ho : Ow w w0.heap.size v acc) (hl : acc.length ≤ 1000000) (hk : d.kind = 1) :
    Calls Tryd.prog 30 #[v, .slice (some ⟨b, o, none⟩) (m + 1) (c + 1)] w fun e w' => WD w0 w' e (acc ++ txt k (d :: r)) r := by
  have HT : Hid (txt k (d :: r) = boolT d.n) := txt_bool k d r hk
  obtain ⟨p1, hp1, hR⟩ := hD.rest
  have HR : Hid (Da w0 p1 m c r) := hR
  obtain ⟨b', o', tp, tn, tc, e, hbl, he⟩ := hD.head
  cases e
  have hcap : m + 1 ≤ c + 1 := hD.cap
  have hbig : c + 1 ≤ 9223372036854775807 := by have := hD.big; unfold maxLen at this; omega
  have he' := he.below hbl hb
  have e0 := he'.c0
  have e1 := he'.c1
  have e2 := he'.c2
  have e3 := he'.c3
  rw [hk] at e0
  have hlt1 : b < w.heap.size := Nat.lt_of_lt_of_le hbl hb.size
  have h1m : (1 : Int) ≤ (m : Int) + 1 := by omega
  have HO : Hid (Ow w w0.heap.size v acc) := ho
  have HB : Hid (Below w0.heap.size w0 w) := hb
  obtain ⟨str, hstr⟩ : ∃ s : ByteArray, s = ⟨(if d.n = 1 then #[35, 116] else #[35, 102])⟩ := ⟨_, rfl⟩
  have HST : Hid (nums str.data.toList = boolT d.n) := by
    unfold Hid boolT; rw [hstr]; split <;> rfl
  have hsl : str.size = 2 := by rw [hstr]; split <;> rfl
  have hsl' : str.size ≤ 2 := by omega
  have HCALL : Hid (∀ W : World, Calls Tryd.prog 49 #[.int .i64 d.n] W fun e w' => e = .returned (.string str) ∧ w' = W) := by
    intro W; rw [hstr]; exact bool30 d.n W
  have hsz := hb.size
  clear hD he he' hR hk hb ho hstr hsl
  go_enter Tryd.func30, Tryd.ntmps30
  go_wp2
  go_region
  go_wp2_with (first | (go_at_call 49; refine (HCALL.out _).mono ?_; rintro e w1 ⟨rfl, hw1⟩; have hw2 := hw1.symm; clear hw1; subst hw2) | (at_builtin; refine appS_law _ rfl (.tmp 25) (.tmp 28) rfl w0.heap.size v acc (boolT d.n) (by simp [Act.eval]) (by exact HO.out.below (below1 w _).drew) str (by simp [Act.eval]) HST.out (by omega) (by simp; omega) ?_; intro v1 w1 ho1 hb1; have HO1 : Hid (Ow w1 w0.heap.size v1 (acc ++ boolT d.n)) := ho1; have HB1 : Hid (Below w0.heap.size w0 w1) := (HB.out.alloc hsz _).drew.trans hb1; clear ho1 hb1))
  go_ret2
  rw [HT.out]
  exact ⟨v1, p1, m, c, rfl, HO1.out, HR.out, HB1.out⟩
set_option maxHeartbeats 1000000 in
theorem wd19_sym (k : Nat) (v : Value) (b o m c : Nat) (d : Dt) (r : List Dt) (acc : List Int) (w0 w : World) (hD : Da w0 (some ⟨b, o, none⟩) (m + 1) (c + 1) (d :: r)) (hb : Below w0.heap.size w0 w) (ho : Ow w w0.heap.size v acc) (hl : acc.length ≤ 1000000) (hg : goodB d = true) (hk : d.kind = 2) :
    Calls Tryd.prog 30 #[v, .slice (some ⟨b, o, none⟩) (m + 1) (c + 1)] w fun e w' => WD w0 w' e (acc ++ txt k (d :: r)) r := by
  have HT : Hid (txt k (d :: r) = d.text) := txt_sym k d r hk
  have hs := good_text hg hk
  obtain ⟨p1, hp1, hR⟩ := hD.rest
  have HR : Hid (Da w0 p1 m c r) := hR
  obtain ⟨b', o', tp, tn, tc, e, hbl, he⟩ := hD.head
  cases e
  have hcap : m + 1 ≤ c + 1 := hD.cap
  have hbig : c + 1 ≤ 9223372036854775807 := by have := hD.big; unfold maxLen at this; omega
  have he' := he.below hbl hb
  have hln := he.by_.len
  obtain ⟨tb, to, rfl, _⟩ := he.by_.cells (by omega)
  have HY : Hid (By w (some ⟨tb, to, none⟩) tn tc d.text) := he'.by_
  have htn : tn ≤ 100 := by omega
  have e0 := he'.c0
  have e1 := he'.c1
  have e2 := he'.c2
  have e3 := he'.c3
  rw [hk] at e0
  have hlt1 : b < w.heap.size := Nat.lt_of_lt_of_le hbl hb.size
  have h1m : (1 : Int) ≤ (m : Int) + 1 := by omega
  have HO : Hid (Ow w w0.heap.size v acc) := ho
  have HB : Hid (Below w0.heap.size w0 w) := hb
  have hsz := hb.size
  clear hD he he' hR hg hk hb ho hs hln
  go_enter Tryd.func30, Tryd.ntmps30
  go_wp2
  go_region
  go_wp2_with (at_builtin; refine app_law _ rfl (.tmp 33) (.tmp 35) rfl w0.heap.size v acc d.text (by simp [Act.eval]) (by exact HO.out.below (below1 w _).drew) tb to tn tc (by simp [Act.eval]) (by exact HY.out.below (below1 w _).drew) (by omega) (by simp; omega) ?_; intro v1 w1 ho1 hb1 _; have HO1 : Hid (Ow w1 w0.heap.size v1 (acc ++ d.text)) := ho1; have HB1 : Hid (Below w0.heap.size w0 w1) := (HB.out.alloc hsz _).drew.trans hb1; clear ho1 hb1)
  go_ret2
  rw [HT.out]
  exact ⟨v1, p1, m, c, rfl, HO1.out, HR.out, HB1.out⟩
end Go.Proofs.YtleeldjncobheaaDoor
