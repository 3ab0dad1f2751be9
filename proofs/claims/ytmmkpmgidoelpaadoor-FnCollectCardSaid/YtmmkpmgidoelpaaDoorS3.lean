import Derived.Test.YtmmkpmgidoelpaaDoorS2
namespace Go.Proofs.YtmmkpmgidoelpaaDoor
open Go.RowKit Ch1 Ch2s
theorem small_ofS {n c : Nat} (h1 : n ≤ c) (h2 : c ≤ maxLen) : n ≤ 9223372036854775807 := by unfold maxLen at h2; omega
/-- Names that lie in w and read as ns. -/
structure Nm (w : World) (p : Option Addr) (n c : Nat) (ns : List (List Int)) : Prop where
  len : ns.length = n
  cap : n ≤ c
  big : c ≤ maxLen
  cells : 0 < n → ∃ b o, p = some ⟨b, o, none⟩ ∧ b < w.heap.size ∧ ∀ i, i < n → ∃ q m d, w.cell? ⟨b, o + i, none⟩ = some (.slice q m d) ∧ By w q m d (ns.getD i [])
theorem Nm.below {w w' : World} {p : Option Addr} {n c : Nat} {ns : List (List Int)} (h : Nm w p n c ns) (hb : Below w.heap.size w w') : Nm w' p n c ns := by
  refine ⟨h.len, h.cap, h.big, fun hn => ?_⟩
  obtain ⟨b, o, e, hlt, hc⟩ := h.cells hn
  refine ⟨b, o, e, Nat.lt_of_lt_of_le hlt hb.size, fun i hi => ?_⟩
  obtain ⟨q, m, d, h0, h1⟩ := hc i hi
  exact ⟨q, m, d, by rw [hb.cell (p := ⟨b, o + i, none⟩) hlt]; exact h0, h1.below hb⟩
/-- The text of a symbol. -/
def symZ (ns : List (List Int)) (k : Int) : List Int := if k < ns.length then ns.getD k.toNat [] else [115, 121, 109] ++ itoaZ k
/-- What does not turn while words are shown. -/
structure Cx (w0 : World) (p : Option Addr) (n c : Nat) (top : Int) (ws : List Int) (np : Option Addr) (nn nc : Nat) (ns : List (List Int)) : Prop where
  is : Hp.Is w0 p n c ws
  good : Hp.Ch2.GoodH ws top
  nm : Nm w0 np nn nc ns
  nl : ∀ i, (ns.getD i []).length ≤ 1048576
  tab : Tab w0
abbrev ShowP (w0 : World) (b : Nat) (p : Option Addr) (n c : Nat) (top : Int) (np : Option Addr) (nn nc : Nat) (zs : List Int) (w w' : World) : Prop := ShP b w0.heap.size (.slice p n c) top (.slice np nn nc) zs w w'
theorem small_itoa (k : Int) (h0 : -9223372036854775808 ≤ k) (h1 : k ≤ 9223372036854775807) : (⟨(Lib.itoa k).toArray⟩ : ByteArray).size ≤ 1000 := by
  show (Lib.itoa k).toArray.size ≤ 1000
  rw [List.size_toArray]
  have : (Lib.itoa k).length = (itoaZ k).length := by unfold itoaZ; rw [nums_length]
  rw [this]
  by_cases h : k < 0
  · rw [itoa_neg k h, List.length_cons]
    have := dec_len k.natAbs (by omega)
    omega
  · rw [itoa_pos k h]
    have := dec_len k.toNat (by omega)
    omega
section
variable {w0 : World} {p : Option Addr} {n c : Nat} {top : Int} {ws : List Int} {np : Option Addr} {nn nc : Nat} {ns : List (List Int)} (b : Nat)
set_option maxRecDepth 20000 in
set_option maxHeartbeats 2000000 in
theorem symbol_yes (hC : Cx w0 p n c top ws np nn nc ns) (k : Int) (v : Value) (xs : List Int) (w : World) (hW : Sh w b w0.heap.size (.slice p n c) top (.slice np nn nc) v xs) (hb : Below w0.heap.size w0 w) (hx : xs.length ≤ 1000) (h0 : 0 ≤ k) (hlt : k < nn) :
    Calls Tryd.prog 44 #[.pointer (some ⟨b, 0, none⟩), .int .i64 k] w fun e w' => e = .returned (.tuple #[]) ∧ ShowP w0 b p n c top np nn nc (putT (symZ ns k) xs) w w' := by
  obtain ⟨j, rfl⟩ := Int.eq_ofNat_of_zero_le h0
  have HZ : Hid (symZ ns (j : Int) = ns.getD j []) := by unfold Hid symZ; rw [if_pos (by have := hC.nm.len; omega)]; rfl
  obtain ⟨nb, no, rfl, _, hcell⟩ := (hC.nm.below hb).cells (by omega)
  obtain ⟨q, m, d, e0, hy⟩ := hcell j (by omega)
  have HY : Hid (By w q m d (ns.getD j [])) := hy
  have HM : Hid (m ≤ 1048576) := by have h1 := hy.len; have h2 := hC.nl j; unfold Hid; omega
  have HB : Hid (w0.heap.size ≤ w.heap.size) := hb.size
  have HW : Hid (Sh w b w0.heap.size (.slice p n c) top (.slice (some ⟨nb, no, none⟩) nn nc) v xs) := hW
  have c2 := hW.cells.2.2.1
  have hs := small_ofS hC.nm.cap hC.nm.big
  have hlt' : j < nn := by omega
  clear hW hy hcell hC hb
  go_enter Tryd.func44, Tryd.ntmps44
  go_wp2_with fail
  refine (puts_c b _ _ _ _ v xs (ns.getD j []) q m d _ HW.out HY.out hx HM.out HB.out).mono ?_
  rintro e w1 ⟨rfl, hp1⟩
  have HP : Hid (ShowP w0 b p n c top (some ⟨nb, no, none⟩) nn nc (putT (symZ ns (j : Int)) xs) w w1) := by unfold Hid; rw [HZ.out]; exact hp1
  clear hp1
  go_wp2
  refine bodyPost_ret (results_none rfl _ _ _) rfl ⟨rfl, HP.out⟩
set_option maxRecDepth 20000 in
set_option maxHeartbeats 2000000 in
theorem symbol_no (hC : Cx w0 p n c top ws np nn nc ns) (k : Int) (v : Value) (xs : List Int) (w : World) (hW : Sh w b w0.heap.size (.slice p n c) top (.slice np nn nc) v xs) (hb : Below w0.heap.size w0 w) (hx : xs.length ≤ 1000) (h0 : 0 ≤ k) (h1 : k ≤ 9223372036854775807) (hlt : ¬ k < nn) :
    Calls Tryd.prog 44 #[.pointer (some ⟨b, 0, none⟩), .int .i64 k] w fun e w' => e = .returned (.tuple #[]) ∧ ShowP w0 b p n c top np nn nc (putT (symZ ns k) xs) w w' := by
  have HZ : Hid (symZ ns k = nums ((⟨#[115, 121, 109]⟩ : ByteArray) ++ ⟨(Lib.itoa k).toArray⟩).data.toList) := by
    unfold Hid symZ; rw [if_neg (by have := hC.nm.len; omega)]
    unfold itoaZ nums
    simp
  have HSM := small_itoa k (by omega) h1
  have HT : Hid (Tab w0) := hC.tab
  have HB0 : Hid (Below w0.heap.size w0 w) := hb
  have HB : Hid (w0.heap.size ≤ w.heap.size) := hb.size
  have HW : Hid (Sh w b w0.heap.size (.slice p n c) top (.slice np nn nc) v xs) := hW
  have c2 := hW.cells.2.2.1
  have hs := small_ofS hC.nm.cap hC.nm.big
  have hd : decide (k < (nn : Int)) = false := decide_eq_false hlt
  clear hW hC hb hlt
  generalize hsz : (⟨(Lib.itoa k).toArray⟩ : ByteArray) = si at HZ HSM
  have HSI : Hid ((⟨(Lib.itoa k).toArray⟩ : ByteArray) = si) := hsz
  have hcat : ((⟨#[115, 121, 109]⟩ : ByteArray) ++ si).size ≤ 1048576 := by rw [ByteArray.size_append]; show 3 + si.size ≤ _; omega
  clear hsz
  go_enter Tryd.func44, Tryd.ntmps44
  go_wp2_with fail
  refine (itoa_c k (by omega) h1 w0 _ HT.out HB0.out).mono ?_
  rintro e w1 ⟨rfl, hb1⟩
  rw [HSI.out]
  have HB1 : Hid (Below w.heap.size w w1) := hb1
  obtain ⟨cc, w2, hr, hy, hb2⟩ := conv_str 9 Tryd.underlying9 w1 (⟨#[115, 121, 109]⟩ ++ si) hcat
  have HB2 : Hid (Below w.heap.size w w2) := hb1.trans (hb2.mono hb1.size)
  have HY : Hid (By w2 (some ⟨w1.heap.size, 0, none⟩) (3 + si.size) cc (nums ((⟨#[115, 121, 109]⟩ : ByteArray) ++ si).data.toList)) := by unfold Hid; rw [ByteArray.size_append] at hy; exact hy
  clear hb1 hb2 hy
  go_wp2_with fail
  refine (puts_c b _ _ _ _ v xs _ _ _ cc _ (HW.out.below HB2.out) HY.out hx (by omega) (Nat.le_trans HB.out HB2.out.size)).mono ?_
  rintro e w3 ⟨rfl, hp3⟩
  have HP : Hid (ShowP w0 b p n c top np nn nc (putT (symZ ns k) xs) w w3) := by unfold Hid; rw [HZ.out]; exact ShP.trans (Sk.of_below HB2.out HB.out) hp3
  clear hp3
  go_wp2
  go_end0
  exact ⟨rfl, HP.out⟩
end
end Go.Proofs.YtmmkpmgidoelpaaDoor
