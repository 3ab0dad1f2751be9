import Derived.Test.YtkkmoaidbmnolaaGreatDoorDp
import Derived.Test.YtkkmoaidbmnolaaGreatDoorQ1
import Derived.Lib.ConvBytes
namespace Go.Proofs.YtkkmoaidbmnolaaGreatDoor
open Go.RowKit Ch1
/-- What an image must be for the program. -/
def RdIm (xs : List Int) (m : Md) : Prop := xs.take 4 = [83, 76, 65, 49] ∧ ∃ r, rdMd (xs.drop 4) = some (m, r) ∧ rdN 4 r = some (crcZ (xs.take (xs.length - r.length)), []) ∧ GoodM m
theorem MdV.sr {m : Md} {v : Value} {b : Nat} {wX w1 w2 : World} (h : MdV m v wX w1) (hs : Sr b w1 w2) (hb : b < wX.heap.size) : MdV m v wX w2 := by
  obtain ⟨p, c, q, d, L, F, s, t, M, e, hLm, hFm, hO, hU, hP, hQ, hM⟩ := h
  have hsM : b < M := by
    have h0 := s_mono hP.up 0 L.length
    rw [Nat.zero_add] at h0
    have := hP.lo
    omega
  exact ⟨p, c, q, d, L, F, s, t, M, e, hLm, hFm, owns_sr hO hs hb, owns_sr hU hs hb, hP.keep daP_pcs (Agr.of_sr hs hb) hs.size, hQ.keep fnP_pcs (Agr.of_sr hs hsM) hs.size, hM⟩
theorem conv_by {w : World} {p : Option Addr} {n c : Nat} {xs : List Int} (h : By w p n c xs) (hn : 0 < n) : (convert 22 9 (.slice p n c)).run Tryz.prog w = .ok (.string (strOfNums xs)) w := by
  obtain ⟨b, o, rfl, hc⟩ := h.cells hn
  obtain rfl := h.len
  exact run_convert_bytes_arg (P := Tryz.prog) w 22 5 Tryz.underlying22 Tryz.underlying5 b o xs.length c xs rfl (fun i hi => hc i hi) 9 Tryz.underlying9
theorem nums_strI {xs : List Int} (h : Rg xs) : nums (xs.map fun n => UInt8.ofNat n.toNat) = xs := by
  unfold nums
  rw [List.map_map]
  conv => rhs; rw [← List.map_id xs]
  apply List.map_congr_left
  intro x hx
  obtain ⟨h0, h1⟩ := h x hx
  simp
  omega
theorem mark_yes : ((strOfNums [83, 76, 65, 49]).toList == [83, 76, 65, 49]) = true := by rw [ByteArray.toList_eq, strOfNums_data]; decide
theorem mark_no {ys : List Int} (hr : Rg ys) (h : ys ≠ [83, 76, 65, 49]) : ((strOfNums ys).toList == [83, 76, 65, 49]) = false := by
  rw [beq_eq_false_iff_ne]
  intro e
  rw [ByteArray.toList_eq, strOfNums_data] at e
  have e2 := congrArg nums e
  rw [nums_strI hr] at e2
  exact h e2
theorem rdL_len {α : Type} {r : List Int → Option (α × List Int)} (hs : ∀ xs a rest, r xs = some (a, rest) → rest.length ≤ xs.length) : ∀ k xs l rest, rdL r k xs = some (l, rest) → rest.length ≤ xs.length
  | 0, xs, l, rest, h => by rw [rdL] at h; cases h; exact Nat.le_refl _
  | k + 1, xs, l, rest, h => by
    rw [rdL] at h
    obtain ⟨⟨a, r1⟩, h1, h2⟩ := Option.bind_eq_some_iff.1 h
    obtain ⟨⟨q, r2⟩, h3, h4⟩ := Option.map_eq_some_iff.1 h2
    cases h4
    exact Nat.le_trans (rdL_len hs k r1 q r2 h3) (hs xs a r1 h1)
theorem rdMd_len {xs rest : List Int} {m : Md} (h : rdMd xs = some (m, rest)) : rest.length ≤ xs.length := by
  unfold rdMd rdMc at h
  obtain ⟨⟨a, r⟩, h1, h2⟩ := Option.bind_eq_some_iff.1 h
  obtain ⟨⟨n, r2⟩, h3, h4⟩ := Option.bind_eq_some_iff.1 h2
  obtain ⟨⟨f, r3⟩, h5, h6⟩ := Option.map_eq_some_iff.1 h4
  cases h6
  obtain ⟨⟨g, q1⟩, k1, k2⟩ := Option.bind_eq_some_iff.1 h1
  obtain ⟨⟨k, q2⟩, k3, k4⟩ := Option.bind_eq_some_iff.1 k2
  obtain ⟨⟨c, q3⟩, k5, k6⟩ := Option.map_eq_some_iff.1 k4
  cases k6
  exact Nat.le_trans (rdL_len (fun _ _ _ => rdFn_len) _ _ _ _ h5) (Nat.le_trans (rdN_len h3) (Nat.le_trans (rdL_len (fun _ _ _ => rdCst_len) _ _ _ _ k5) (Nat.le_trans (rdN_len k3) (rdN_len k1))))
theorem crcZ_rng {xs : List Int} (hx : ∀ i, 0 ≤ xs.getD i 0 ∧ xs.getD i 0 < 256) : 0 ≤ crcZ xs ∧ crcZ xs < 4294967296 := by
  have h := crcL_rng xs hx xs.length
  unfold crcZ
  exact xor32_rng _ _ h.1 h.2 (by decide) (by decide)
/-- What readImage answers. -/
def RiP (xs : List Int) (w w' : World) (e : Ending) : Prop :=
  (∃ m v wX, RdIm xs m ∧ MdOk m ∧ e = .returned v ∧ w.heap.size ≤ wX.heap.size ∧ MdV m v wX w' ∧ Below w.heap.size w w') ∨ ((∀ m, ¬ RdIm xs m) ∧ e = .panicked [{ v := .iface 51 (.agg #[.int .i64 5, .int .i64 0]), recovered := false }] ∧ Below w.heap.size w w')
set_option maxRecDepth 20000 in
set_option maxHeartbeats 8000000 in
theorem readImage_c (p : Option Addr) (n c : Nat) (xs : List Int) (w : World) (h : By w p n c xs) (hn : n ≤ 1048576) (hT : Tb w) :
    Calls Tryz.prog 17 #[.slice p n c] w fun e w' => RiP xs w w' e := by
  have HB : Hid (By w p n c xs) := h
  have HT : Hid (Tb w) := hT
  clear h hT
  go_enter Tryz.func17, Tryz.ntmps17
  obtain ⟨W, hW⟩ : ∃ W, W = (w.alloc (.cells #[.slice none 0 0, .int .i64 0, .slice none 0 0] 26)).alloc (.cells #[.slice p n c] 67) := ⟨_, rfl⟩
  have HL : Hid (xs.length = n) := HB.out.len
  have hbW : Below w.heap.size w W := by rw [hW]; exact below2 _ _ _
  have HBW : Hid (Below w.heap.size w W) := hbW
  have HX : Hid (W.heap[w.heap.size]? = some (.cells #[.slice none 0 0, .int .i64 0, .slice none 0 0] 26)) := by
    unfold Hid; rw [hW]; exact ((below1 _ _).block _ (by simp)).trans (Go.Deep.blk_alloc_new _ _)
  have HR : Hid (RdE W (w.heap.size + 1) xs) := by
    refine ⟨p, n, c, HL.out.symm, ⟨?_, HB.out.below hbW, fun a ha h0 => by have := HB.out.old a ha h0; omega⟩⟩
    rw [hW]
    have := Go.Deep.blk_alloc_new (w.alloc (.cells #[.slice none 0 0, .int .i64 0, .slice none 0 0] 26)) (.cells #[.slice p n c] 67)
    simpa using this
  clear hbW
  go_wp2_with fail
  rw [← hW]
  clear hW
  obtain ⟨rb, hrb⟩ : ∃ rb, rb = w.heap.size + 1 := ⟨_, rfl⟩
  rw [← hrb] at HR ⊢
  have HRB : Hid (rb = w.heap.size + 1) := hrb
  have hrbw : w.heap.size < rb := by omega
  clear hrb
  refine (take_c rb 4 xs W HR.out (by have := HL.out; omega)).mono ?_
  rintro e w1 (⟨ys, r1, v, hr, rfl, ⟨q, d, rfl, hby⟩, hR1, hs1⟩ | ⟨hr, rfl, hs1⟩)
  rotate_left
  · refine ⟨rfl, Or.inr ⟨fun m hm => ?_, rfl, HBW.out.trans (hs1.below (by omega) HBW.out.size)⟩⟩
    have h4 := congrArg List.length hm.1
    rw [List.length_take] at h4
    split at hr
    · cases hr
    · simp at h4; omega
  have hcv := conv_by hby (by omega)
  split at hr
  rotate_left
  · cases hr
  rename_i h4
  simp only [Option.some.injEq, Prod.mk.injEq] at hr
  obtain ⟨hy, hr1⟩ := hr
  have hrg : Rg ys := rg_of hby.rng
  have HS1 : Hid (Sr rb W w1) := hs1
  have HR1 : Hid (RdE w1 rb r1) := hR1
  have HB1 : Hid (Below w.heap.size w w1) := HBW.out.trans (hs1.below (by omega) HBW.out.size)
  have HX1 : Hid (w1.heap[w.heap.size]? = some (.cells #[.slice none 0 0, .int .i64 0, .slice none 0 0] 26)) := (hs1.block _ (Array.getElem?_eq_some_iff.1 HX.out).1 (by omega)).trans HX.out
  have HR1E : Hid (xs.drop 4 = r1) := hr1
  have hl1 : r1.length ≤ 1048576 := by rw [← hr1, List.length_drop]; have := HL.out; omega
  by_cases hmk : ys = [83, 76, 65, 49]
  rotate_left
  · have hq := mark_no hrg hmk
    go_wp2_with fail
    refine (need_no _ _).mono ?_
    rintro e w2 ⟨rfl, rfl⟩
    exact ⟨rfl, Or.inr ⟨fun m hm => hmk (hy.symm.trans hm.1), rfl, HB1.out⟩⟩
  have HMK : Hid (xs.take 4 = [83, 76, 65, 49]) := hy.trans hmk
  subst hmk
  have hq := mark_yes
  clear hby hs1 hR1 hr1 hy hrg HX HR
  go_wp2_with fail
  refine (need_yes _ _).mono ?_
  rintro e w2 ⟨rfl, hw2⟩
  have hw2' := hw2.symm
  clear hw2
  subst hw2'
  clear hq hcv
  go_wp2_with fail
  refine (moduleR_c rb r1 w1 HR1.out hl1).mono ?_
  rintro e w2 (⟨m, r2, v, hr, rfl, hmv, hR2, hs2⟩ | ⟨hr, rfl, hs2⟩)
  rotate_left
  · refine ⟨rfl, Or.inr ⟨fun m hm => ?_, rfl, HB1.out.trans (hs2.below (by omega) HB1.out.size)⟩⟩
    obtain ⟨_, r, h1, _⟩ := hm
    rw [HR1E.out, hr] at h1
    cases h1
  obtain ⟨hrg2, hmd, hinv⟩ := rdMd_inv r1 m r2 HR1.out.rg hr
  obtain ⟨cp, cn, cc, fp, fn, fc, rfl, hmo, hfit⟩ := hmv.mo hmd
  have HE2 : Hid (rdMd (xs.drop 4) = some (m, r2)) := by unfold Hid; rw [HR1E.out]; exact hr
  have HMD : Hid (MdOk m) := hmd
  obtain ⟨W2, hW2⟩ : ∃ W2, W2 = w2.alloc (.cells #[.slice cp cn cc, .int .i64 m.globals, .slice fp fn fc] 26) := ⟨_, rfl⟩
  have hbW2 : Below w2.heap.size w2 W2 := by rw [hW2]; exact below1 _ _
  have HY2 : Hid (W2.heap[w2.heap.size]? = some (.cells #[.slice cp cn cc, .int .i64 m.globals, .slice fp fn fc] 26)) := by unfold Hid; rw [hW2]; exact Go.Deep.blk_alloc_new _ _
  have hlt1 : rb < w1.heap.size := HR1.out.lt
  have HMV : Hid (MdV m (.agg #[.slice cp cn cc, .int .i64 m.globals, .slice fp fn fc]) w1 W2) := hmv.sr (Sr.of_below hbW2) hlt1
  have HMO : Hid (Mo W2 cp cn cc fp fn fc m) := hmo.below hbW2
  have HFT : Hid (Fits cn fn m) := hfit
  have HR2 : Hid (RdE W2 rb r2) := hR2.below hbW2
  have HS2 : Hid (Sr rb W W2) := (HS1.out.trans hs2).trans (Sr.of_below hbW2)
  have HB2 : Hid (Below w.heap.size w W2) := (HB1.out.trans (hs2.below (by omega) HB1.out.size)).trans (hbW2.mono (Nat.le_trans HB1.out.size hs2.size))
  have HX2 : Hid (W2.heap[w.heap.size]? = some (.cells #[.slice none 0 0, .int .i64 0, .slice none 0 0] 26)) := (hbW2.block _ (Nat.lt_of_lt_of_le (Array.getElem?_eq_some_iff.1 HX1.out).1 hs2.size)).trans ((hs2.block _ (Array.getElem?_eq_some_iff.1 HX1.out).1 (by omega)).trans HX1.out)
  have hl2 : r2.length ≤ r1.length := rdMd_len hr
  have hn12 : n = 4 + r1.length := by rw [← HR1E.out, List.length_drop]; have := HL.out; omega
  obtain ⟨p2, n2, c2, hn2, hrd2⟩ := HR2.out
  obtain ⟨k0, kf0⟩ := hrd2.cell
  rw [hW2] at k0 kf0
  have hcap := HB.out.cap
  obtain ⟨K, hK⟩ : ∃ K : Nat, (n : Int) - (n2 : Int) = K := ⟨n - n2, by omega⟩
  have hKc : K ≤ c := by omega
  have hKn : K ≤ n := by omega
  have HKE : Hid (K = n - n2) := by unfold Hid; omega
  have HN2 : Hid (n2 = r2.length) := hn2
  have hn2m : n2 ≤ 1048576 := by omega
  have HRD2 := Hid.mkD hrd2
  clear hr hmv hR2 hs2 hrg2 hmd hmo hfit HX1 HR1 hn12 hn2 hl2 hrd2
  go_wp2_with fail
  rw [← hW2]
  clear hW2
  refine (implCrc_c p K c (xs.take K) W2 ((HB.out.below HB2.out).takeD hKn)).mono ?_
  rintro e w3 ⟨rfl, hw3⟩
  have hw3' := hw3.symm
  clear hw3
  subst hw3'
  obtain ⟨sm, hsm⟩ : ∃ sm, crcZ (xs.take K) = sm := ⟨_, rfl⟩
  rw [hsm]
  have HSM : Hid (crcZ (xs.take K) = sm) := hsm
  have hsr : 0 ≤ sm ∧ sm < 4294967296 := by rw [← hsm]; exact crcZ_rng ((HB.out.takeD hKn).rng)
  obtain ⟨hs0, hs1⟩ := hsr
  clear hsm k0 kf0
  go_wp2_with fail
  have HLX : Hid (xs.take (xs.length - r2.length) = xs.take K) := by unfold Hid; rw [HKE.out, HL.out, HN2.out]
  refine (number_c rb 4 r2 W2 HR2.out (by have := HN2.out; omega) (by omega)).mono ?_
  rintro e w3 (⟨z, r3, v, hr, rfl, rfl, hR3, hs3⟩ | ⟨hr, rfl, hs3⟩)
  rotate_left
  · refine ⟨rfl, Or.inr ⟨fun m' hm => ?_, rfl, HB2.out.trans (hs3.below (by omega) HB2.out.size)⟩⟩
    obtain ⟨_, r, h1, h2, _⟩ := hm
    rw [HE2.out] at h1
    cases h1
    rw [hr] at h2
    cases h2
  have hzr := rdN_four HR2.out.rg hr
  have HE3 : Hid (rdN 4 r2 = some (z, r3)) := hr
  have HB3 : Hid (Below w.heap.size w w3) := HB2.out.trans (hs3.below (by omega) HB2.out.size)
  have HX3 : Hid (w3.heap[w.heap.size]? = some (.cells #[.slice none 0 0, .int .i64 0, .slice none 0 0] 26)) := (hs3.block _ (Array.getElem?_eq_some_iff.1 HX2.out).1 (by omega)).trans HX2.out
  have hY2lt := (Array.getElem?_eq_some_iff.1 HY2.out).1
  have hne : w2.heap.size ≠ rb := by have := HR2.out.lt; have := hlt1; intro e; have h9 := HRD2.out.blk; rw [← e, HY2.out] at h9; cases h9
  have HY3 : Hid (w3.heap[w2.heap.size]? = some (.cells #[.slice cp cn cc, .int .i64 m.globals, .slice fp fn fc] 26)) := (hs3.block _ hY2lt hne).trans HY2.out
  have HMV3 : Hid (MdV m (.agg #[.slice cp cn cc, .int .i64 m.globals, .slice fp fn fc]) w1 w3) := HMV.out.sr hs3 hlt1
  have HR3 : Hid (RdE w3 rb r3) := hR3
  obtain ⟨z0, z1⟩ := hzr
  by_cases hzs : z = sm
  rotate_left
  · have hq : (z == sm) = false := by simpa using hzs
    have hq2 : decide (z = sm) = false := decide_eq_false hzs
    clear hr hR3 hs3
    go_wp2_with fail
    refine (need_no _ _).mono ?_
    rintro e w4 ⟨rfl, rfl⟩
    refine ⟨rfl, Or.inr ⟨fun m' hm => ?_, rfl, HB3.out⟩⟩
    obtain ⟨_, r, h1, h2, _⟩ := hm
    rw [HE2.out] at h1
    cases h1
    rw [HE3.out] at h2
    simp only [Option.some.injEq, Prod.mk.injEq] at h2
    exact hzs (h2.1.trans ((congrArg crcZ HLX.out).trans HSM.out))
  have hq : (z == sm) = true := by simpa using hzs
  have HZS : Hid (z = sm) := hzs
  clear hr hR3 hs3 hzs
  go_wp2_with fail
  refine (need_yes _ _).mono ?_
  rintro e w4 ⟨rfl, hw4⟩
  have hw4' := hw4.symm
  clear hw4
  subst hw4'
  clear hq
  obtain ⟨p3, n3, c3, hn3, hrd3⟩ := HR3.out
  obtain ⟨k0, kf0⟩ := hrd3.cell
  have HN3 : Hid (n3 = r3.length) := hn3
  have hn3m : n3 ≤ 1048576 := by have h8 := rdN_len HE3.out; have := HN2.out; omega
  have HRD3 := Hid.mkD hrd3
  clear hn3 hrd3
  by_cases hz3 : n3 = 0
  rotate_left
  · have hq : ((n3 : Int) == 0) = false := by simpa using hz3
    go_wp2_with fail
    refine (need_no _ _).mono ?_
    rintro e w4 ⟨rfl, rfl⟩
    refine ⟨rfl, Or.inr ⟨fun m' hm => ?_, rfl, HB3.out⟩⟩
    obtain ⟨_, r, h1, h2, _⟩ := hm
    rw [HE2.out] at h1
    cases h1
    rw [HE3.out] at h2
    simp only [Option.some.injEq, Prod.mk.injEq] at h2
    have h3 := HN3.out
    rw [h2.2] at h3
    exact hz3 h3
  have hq : ((n3 : Int) == 0) = true := by simpa using hz3
  have HR3E : Hid (r3 = []) := List.length_eq_zero_iff.1 (by rw [← HN3.out]; exact hz3)
  go_wp2_with fail
  refine (need_yes _ _).mono ?_
  rintro e w4 ⟨rfl, hw4⟩
  have hw4' := hw4.symm
  clear hw4
  subst hw4'
  clear hq k0 kf0 hz3
  obtain ⟨y0, y1, y2, yf0, yf1, yf2⟩ := cells3 HY3.out
  go_wp2_with fail
  obtain ⟨cp', cn', cc', fp', fn', fc', e', hmo, hfit⟩ := HMV3.out.mo HMD.out
  cases e'
  refine (implValidModule_c cp cn cc fp fn fc m w3 hmo hfit (HT.out.below HB3.out)).mono ?_
  rintro e w4 ⟨b, rfl, hbb, hb4⟩
  have HB4 : Hid (Below w.heap.size w w4) := HB3.out.trans (hb4.mono HB3.out.size)
  have HY4 : Hid (w4.heap[w2.heap.size]? = some (.cells #[.slice cp cn cc, .int .i64 m.globals, .slice fp fn fc] 26)) := (hb4.block _ (Array.getElem?_eq_some_iff.1 HY3.out).1).trans HY3.out
  have HX4 : Hid (w4.heap[w.heap.size]? = some (.cells #[.slice none 0 0, .int .i64 0, .slice none 0 0] 26)) := (hb4.block _ (Array.getElem?_eq_some_iff.1 HX3.out).1).trans HX3.out
  have HMV4 : Hid (MdV m (.agg #[.slice cp cn cc, .int .i64 m.globals, .slice fp fn fc]) w1 w4) := HMV3.out.sr (Sr.of_below hb4) hlt1
  clear hb4 hmo hfit y0 y1 y2 yf0 yf1 yf2
  by_cases hg : GoodM m
  rotate_left
  · obtain rfl : b = false := by
      cases b with
      | false => rfl
      | true => exact absurd (hbb.1 rfl) hg
    clear hbb
    go_wp2_with fail
    refine (need_no _ _).mono ?_
    rintro e w5 ⟨rfl, rfl⟩
    refine ⟨rfl, Or.inr ⟨fun m' hm => ?_, rfl, HB4.out⟩⟩
    obtain ⟨_, r, h1, _, h3⟩ := hm
    rw [HE2.out] at h1
    cases h1
    exact hg h3
  obtain rfl : b = true := hbb.2 hg
  have HIM : Hid (RdIm xs m) := ⟨HMK.out, r2, HE2.out, by rw [HE3.out, HR3E.out, HZS.out, ← HSM.out, HLX.out], hg⟩
  clear hbb hg
  go_wp2_with fail
  refine (need_yes _ _).mono ?_
  rintro e w5 ⟨rfl, hw5⟩
  have hw5' := hw5.symm
  clear hw5
  subst hw5'
  obtain ⟨y0, y1, y2, yf0, yf1, yf2⟩ := cells3 HY4.out
  obtain ⟨x0, x1, x2, xf0, xf1, xf2⟩ := cells3 HX4.out
  go_wp2_with fail
  have ha : Sr w.heap.size w4 (((w4.setCell ⟨w.heap.size, 0, none⟩ (.slice cp cn cc)).setCell ⟨w.heap.size, 1, none⟩ (.int .i64 m.globals)).setCell ⟨w.heap.size, 2, none⟩ (.slice fp fn fc)) := ((Sr.set _ _ _ _).trans (Sr.set _ _ _ _)).trans (Sr.set _ _ _ _)
  exact bodyPost_ret (v := .agg #[.slice cp cn cc, .int .i64 m.globals, .slice fp fn fc]) (by simp [results, Tryz.results17, go_sem, x0, x1, x2]) rfl (Or.inl ⟨m, _, w1, HIM.out, HMD.out, rfl, by omega, HMV4.out.sr ha (by omega), HB4.out.trans (ha.below (Nat.le_refl _) HB4.out.size)⟩)
end Go.Proofs.YtkkmoaidbmnolaaGreatDoor
