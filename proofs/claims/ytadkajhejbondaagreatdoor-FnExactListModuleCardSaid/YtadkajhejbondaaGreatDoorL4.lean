import Derived.Test.YtadkajhejbondaaGreatDoorL2
import Derived.Deep.Cut
namespace Go.Proofs.YtadkajhejbondaaGreatDoor
open Go.RowKit Ch1
def itoaB (n : Int) : ByteArray := ⟨(Lib.itoa n).toArray⟩
def boxB (b : Bool) : ByteArray := if b then ⟨#[98, 111, 120]⟩ else ⟨#[97, 110, 121]⟩
/-- The words of a function's line. -/
def fnWs (n : Int) (f : Fn) : List ByteArray := [⟨#[102, 117, 110, 99]⟩, itoaB n, itoaB f.params] ++ f.free.map boxB
theorem OwS.new3 (w : World) (B : Nat) (hB : B ≤ w.heap.size) (a b c : ByteArray) : OwS (w.alloc (.cells #[.string a, .string b, .string c] 9)) B (.slice (some ⟨w.heap.size, 0, none⟩) 3 3) [a, b, c] := by
  refine ⟨rfl, Or.inr ⟨w.heap.size, 3, #[.string a, .string b, .string c], rfl, hB, ?_, Nat.le_refl _, by unfold maxLen; omega, rfl, rfl⟩⟩
  have e : (w.alloc (.cells #[.string a, .string b, .string c] 9)).heap = w.heap.push (.cells #[.string a, .string b, .string c] 9) := rfl
  rw [e]; simp
theorem OwS.new2 (w : World) (B : Nat) (hB : B ≤ w.heap.size) (a b : ByteArray) : OwS (w.alloc (.cells #[.string a, .string b] 9)) B (.slice (some ⟨w.heap.size, 0, none⟩) 2 2) [a, b] := by
  refine ⟨rfl, Or.inr ⟨w.heap.size, 2, #[.string a, .string b], rfl, hB, ?_, Nat.le_refl _, by unfold maxLen; omega, rfl, rfl⟩⟩
  have e : (w.alloc (.cells #[.string a, .string b] 9)).heap = w.heap.push (.cells #[.string a, .string b] 9) := rfl
  rw [e]; simp
theorem OwS.drew {w : World} {B : Nat} {v : Value} {ss : List ByteArray} (h : OwS w B v ss) : OwS w.drew B v ss := h
set_option maxRecDepth 20000 in
set_option maxHeartbeats 8000000 in
theorem funcWords_c (n : Int) (hn0 : 0 ≤ n) (hn1 : n ≤ 1000000) (f : Fn) (fp : Option Addr) (fl fc : Nat) (cp : Option Addr) (cl cc : Nat) (w0 w : World) (ht : Tab w0) (hb : Below w0.heap.size w0 w) (hF : Bo w fp fl fc f.free) (hp0 : 0 ≤ f.params) (hp1 : f.params ≤ 20) (hfl : fl ≤ 1048576) :
    Calls Tryz.prog 26 #[.int .i64 n, .agg #[.int .i64 f.params, .slice fp fl fc, .slice cp cl cc]] w fun e w' => ∃ v, e = .returned v ∧ OwS w' w.heap.size v (fnWs n f) ∧ Below w.heap.size w w' := by
  have HF : Hid (Bo w fp fl fc f.free) := hF
  have HFL : Hid (f.free.length = fl) := hF.len
  have HT : Hid (Tab w0) := ht
  have HB : Hid (Below w0.heap.size w0 w) := hb
  have HX : Hid (B3 (w.alloc (.cells #[.int .i64 f.params, .slice fp fl fc, .slice cp cl cc] 48)) w.heap.size (.int .i64 f.params) (.slice fp fl fc) (.slice cp cl cc)) := B3.new w _ _ _ _
  clear hF ht hb
  obtain ⟨pr, hpr⟩ : ∃ pr, f.params = pr := ⟨_, rfl⟩
  have HPR : Hid (f.params = pr) := hpr
  rw [hpr] at HX hp0 hp1 ⊢
  clear hpr
  go_enter Tryz.func26, Tryz.ntmps26
  go_wp2_with fail
  go_cut [5] from 8 (fun v wc => OwS wc w.heap.size v [⟨#[102, 117, 110, 99]⟩, itoaB n, itoaB pr] ∧ Below (w.heap.size + 1) (w.alloc (.cells #[.int .i64 pr, .slice fp fl fc, .slice cp cl cc] 48)) wc)
  case first =>
    have x0 := HX.out.c0
    go_region_with (go_at_call 24; first | (refine (itoa_c n (by omega) (by omega) w0 _ HT.out ?y1).mono ?_; (case y1 => exact HB.out.trans ((below_drewM (below1 _ _)).mono HB.out.size)); rintro e w2 ⟨rfl, hb2⟩; have HB2 : Hid (Below (w.alloc (.cells #[.int .i64 pr, .slice fp fl fc, .slice cp cl cc] 48)).heap.size (w.alloc (.cells #[.int .i64 pr, .slice fp fl fc, .slice cp cl cc] 48)) w2) := (below_drewM (Below.refl _ _)).trans hb2; have HW2 : Hid (Below w0.heap.size w0 w2) := HB.out.trans (((below1 _ _).trans (HB2.out.mono (by simp))).mono HB.out.size); have x1 := (HX.out.below HB2.out).c0; clear hb2) | (refine (itoa_c pr (by omega) (by omega) w0 _ HT.out HW2.out).mono ?_; rintro e w3 ⟨rfl, hb3⟩; have HB3 : Hid (Below (w.alloc (.cells #[.int .i64 pr, .slice fp fl fc, .slice cp cl cc] 48)).heap.size (w.alloc (.cells #[.int .i64 pr, .slice fp fl fc, .slice cp cl cc] 48)) w3) := HB2.out.trans (hb3.mono HB2.out.size); have hs3 := HB3.out.size; clear hb3))
    all_goals go_wp2_with fail
    all_goals go_meet
    all_goals first
      | exact ⟨OwS.new3 w3 _ (by simp at hs3; omega) _ _ _, (HB3.out.mono (by simp)).trans ((below1 _ _).mono (by simpa using hs3))⟩
      | exact ⟨(OwS.new3 w3 _ (by simp at hs3; omega) _ _ _).drew, (HB3.out.mono (by simp)).trans (below_drewM ((below1 _ _).mono (by simpa using hs3)))⟩
  case rest =>
    obtain ⟨hos, hbc⟩ := hcut
    have HOS : Hid (OwS wc w.heap.size u5 [⟨#[102, 117, 110, 99]⟩, itoaB n, itoaB pr]) := hos
    have HBC : Hid (Below (w.heap.size + 1) (w.alloc (.cells #[.int .i64 pr, .slice fp fl fc, .slice cp cl cc] 48)) wc) := hbc
    have HXC : Hid (B3 wc w.heap.size (.int .i64 pr) (.slice fp fl fc) (.slice cp cl cc)) := HX.out.below (by simpa using hbc)
    have x1 := HXC.out.c1
    clear hos hbc
    go_wp2
    go_loopw [5, 17] (fun sv iv wr => ∃ i : Nat, i ≤ fl ∧ iv = .int .i64 i ∧ Hid (OwS wr w.heap.size sv ([⟨#[102, 117, 110, 99]⟩, itoaB n, itoaB pr] ++ (f.free.take i).map boxB)) ∧ Hid (Below w.heap.size w wr)) (fun _ iv _ => fl - (intOf iv).toNat)
    case atStart => exact ⟨0, Nat.zero_le _, rfl, by unfold Hid; simpa using HOS.out, (below1 _ _).trans (HBC.out.mono (by omega))⟩
    case round =>
      clear HOS HBC HXC x1
      obtain ⟨i, hi, rfl, hO, hBB⟩ := hrel
      have hsz := hBB.out.size
      by_cases hlt : i < fl
      · obtain ⟨b, o, rfl, hbl, gg⟩ := (HF.out.below hBB.out).cells (by omega)
        have e0 := gg i hlt
        clear gg
        have HTK : Hid ([⟨#[102, 117, 110, 99]⟩, itoaB n, itoaB pr] ++ (f.free.take (i + 1)).map boxB = ([⟨#[102, 117, 110, 99]⟩, itoaB n, itoaB pr] ++ (f.free.take i).map boxB) ++ [boxB (f.free.getD i false)]) := by
          unfold Hid
          have hil : i < f.free.length := by rw [HFL.out]; exact hlt
          have e : f.free.getD i false = f.free[i] := by simp [List.getD, List.getElem?_eq_getElem hil]
          rw [e, List.take_add_one, List.getElem?_eq_getElem hil, Option.toList_some, List.map_append, List.map_cons, List.map_nil, List.append_assoc]
        have hln : ([⟨#[102, 117, 110, 99]⟩, itoaB n, itoaB pr] ++ (f.free.take i).map boxB).length ≤ 1000000000 := by simp; omega
        generalize [⟨#[102, 117, 110, 99]⟩, itoaB n, itoaB pr] ++ (f.free.take i).map boxB = acc at hO HTK hln
        generalize f.free.getD i false = bv at e0 HTK
        cases bv
        · go_wp2_with (at_builtin; refine appStr_law _ rfl (.tmp 25) (.tmp 26) rfl w.heap.size _ acc ⟨#[97, 110, 121]⟩ (by simp [Act.eval]) hO.out (by simp [Act.eval]) hln hsz ?_; intro v' w1 ho hg; have HO1 : Hid (OwS w1 w.heap.size v' (acc ++ [⟨#[97, 110, 121]⟩])) := ho; have HB1 : Hid (Below w.heap.size w w1) := hBB.out.trans hg; clear ho hg)
          exact ⟨⟨i + 1, by omega, by go_num, by unfold Hid; rw [HTK.out]; exact HO1.out, HB1⟩, by simp [intOf]; omega⟩
        · go_wp2_with (at_builtin; refine appStr_law _ rfl (.tmp 22) (.tmp 23) rfl w.heap.size _ acc ⟨#[98, 111, 120]⟩ (by simp [Act.eval]) hO.out (by simp [Act.eval]) hln hsz ?_; intro v' w1 ho hg; have HO1 : Hid (OwS w1 w.heap.size v' (acc ++ [⟨#[98, 111, 120]⟩])) := ho; have HB1 : Hid (Below w.heap.size w w1) := hBB.out.trans hg; clear ho hg)
          exact ⟨⟨i + 1, by omega, by go_num, by unfold Hid; rw [HTK.out]; exact HO1.out, HB1⟩, by simp [intOf]; omega⟩
      · obtain rfl : i = fl := by omega
        go_wp2
        go_ret
        refine ⟨_, rfl, ?_, hBB.out⟩
        have := hO.out
        rw [List.take_of_length_le (by rw [HFL.out]; exact Nat.le_refl _)] at this
        unfold fnWs
        rw [HPR.out]
        exact this
end Go.Proofs.YtadkajhejbondaaGreatDoor
namespace Go.Proofs.YtadkajhejbondaaGreatDoor
open Go.RowKit Ch1
/-- Both tables, as far as listings read them. -/
structure TbL (w : World) : Prop where
  tb : Tb w
  wd : ∀ op, op < 18 → w.cell? ⟨0, op * 9, none⟩ = some (.string (wordB op))
  plt : 1 < w.heap.size
  pn : ∀ p, p < 22 → w.cell? ⟨1, p * 5, none⟩ = some (.string (primB p))
theorem TbL.below {w w' : World} (h : TbL w) (hb : Below w.heap.size w w') : TbL w' :=
  ⟨h.tb.below hb, fun op ho => by rw [hb.cell (p := ⟨0, op * 9, none⟩) h.tb.lt]; exact h.wd op ho, Nat.lt_of_lt_of_le h.plt hb.size, fun p hp => by rw [hb.cell (p := ⟨1, p * 5, none⟩) h.plt]; exact h.pn p hp⟩
/-- The words of an instruction's line. -/
def inWs (at_ : Int) (j : Nat) (a b : Int) : List ByteArray := ([⟨#[32, 32]⟩ ++ itoaB at_, wordB j] ++ (if j = 14 then [primB a.toNat] else if hasA j = true then [itoaB a] else [])) ++ (if j = 8 then [itoaB b] else [])
theorem useA_ten : ∀ j, j < 18 → (useA j = 10 ↔ j = 14) := by decide
theorem useA_has : ∀ j, j < 18 → (useA j = 0 ↔ hasA j = false) := by decide
theorem useB_has : ∀ j, j < 18 → (useB j = 0 ↔ ¬ j = 8) := by decide
theorem OwS.mono {w : World} {B B' : Nat} {v : Value} {ss : List ByteArray} (h : OwS w B v ss) (hB : B' ≤ B) : OwS w B' v ss := by
  obtain ⟨h1, h2 | ⟨g, cap, cur, hv, hg, r⟩⟩ := h
  · exact ⟨h1, Or.inl h2⟩
  · exact ⟨h1, Or.inr ⟨g, cap, cur, hv, Nat.le_trans hB hg, r⟩⟩
set_option maxRecDepth 20000 in
set_option maxHeartbeats 8000000 in
theorem insWords_c (at_ : Int) (hat0 : 0 ≤ at_) (hat1 : at_ ≤ 1000000) (j : Nat) (a b : Int) (hj : j < 18) (ha0 : 0 ≤ a) (ha1 : a ≤ 1000000000) (hb0 : 0 ≤ b) (hb1 : b ≤ 1000000000) (h14 : j = 14 → a < 22) (w0 w : World) (ht : Tab w0) (hT : TbL w0) (hb : Below w0.heap.size w0 w) :
    Calls Tryz.prog 27 #[.int .i64 at_, .agg #[.int .i64 j, .int .i64 a, .int .i64 b]] w fun e w' => ∃ v, e = .returned v ∧ OwS w' w.heap.size v (inWs at_ j a b) ∧ Below w.heap.size w w' := by
  have HT : Hid (Tab w0) := ht
  have HB : Hid (Below w0.heap.size w0 w) := hb
  have hTw := hT.below hb
  have HTW : Hid (TbL w) := hTw
  obtain ⟨v0, v3, v4, v5, v6, v7, v8, hr⟩ := hTw.tb.row j hj
  have hv0 : v0 = wordB j := by
    have h1 := hr.c0
    rw [hTw.wd j hj] at h1
    cases h1; rfl
  subst hv0
  have t0 : ∀ o1, (w.alloc o1).cell? ⟨0, j * 9, none⟩ = some (.string (wordB j)) := fun o1 => (hr.below hTw.tb.lt (below1 w o1)).c0
  have t1 : ∀ o1, (w.alloc o1).cell? ⟨0, j * 9 + 1, none⟩ = some (.int .u8 (useA j)) := fun o1 => (hr.below hTw.tb.lt (below1 w o1)).c1
  have t2 : ∀ o1, (w.alloc o1).cell? ⟨0, j * 9 + 2, none⟩ = some (.int .u8 (useB j)) := fun o1 => (hr.below hTw.tb.lt (below1 w o1)).c2
  have t3 : ∀ o1, (w.alloc o1).cell? ⟨0, j * 9 + 3, none⟩ = some (.int .u16 v3) := fun o1 => (hr.below hTw.tb.lt (below1 w o1)).c3
  have t4 : ∀ o1, (w.alloc o1).cell? ⟨0, j * 9 + 4, none⟩ = some (.int .u16 v4) := fun o1 => (hr.below hTw.tb.lt (below1 w o1)).c4
  have t5 : ∀ o1, (w.alloc o1).cell? ⟨0, j * 9 + 5, none⟩ = some (.int .u16 v5) := fun o1 => (hr.below hTw.tb.lt (below1 w o1)).c5
  have t6 : ∀ o1, (w.alloc o1).cell? ⟨0, j * 9 + 6, none⟩ = some (.int .u16 v6) := fun o1 => (hr.below hTw.tb.lt (below1 w o1)).c6
  have t7 : ∀ o1, (w.alloc o1).cell? ⟨0, j * 9 + 7, none⟩ = some (.bool v7) := fun o1 => (hr.below hTw.tb.lt (below1 w o1)).c7
  have t8 : ∀ o1, (w.alloc o1).cell? ⟨0, j * 9 + 8, none⟩ = some (.bool v8) := fun o1 => (hr.below hTw.tb.lt (below1 w o1)).c8
  have HA1 : Hid (useA j = 10 ↔ j = 14) := useA_ten j hj
  have HA2 : Hid (useA j = 0 ↔ hasA j = false) := useA_has j hj
  have HA3 : Hid (useB j = 0 ↔ ¬ j = 8) := useB_has j hj
  have d3 : (j : Int) < 18 := by omega
  obtain ⟨ua, hua⟩ : ∃ u, useA j = u := ⟨_, rfl⟩
  obtain ⟨ub, hub⟩ : ∃ u, useB j = u := ⟨_, rfl⟩
  rw [hua] at t1 HA1 HA2
  rw [hub] at t2 HA3
  clear hr hTw hT ht hb hua hub
  go_enter Tryz.func27, Tryz.ntmps27
  go_wp2_with fail
  clear t0 t1 t2 t3 t4 t5 t6 t7 t8
  obtain ⟨W1, hW1⟩ : ∃ W1, W1 = (w.alloc (.cells #[.int .i64 j, .int .i64 a, .int .i64 b] 50)).alloc (.cells #[.string (wordB j), .int .u8 ua, .int .u8 ub, .int .u16 v3, .int .u16 v4, .int .u16 v5, .int .u16 v6, .bool v7, .bool v8] 96) := ⟨_, rfl⟩
  have HBW : Hid (Below w.heap.size w W1) := by unfold Hid; rw [hW1]; exact below2 _ _ _
  have HX : Hid (B3 W1 w.heap.size (.int .i64 j) (.int .i64 a) (.int .i64 b)) := by unfold Hid; rw [hW1]; exact (B3.new w _ _ _ _).below (below1 _ _)
  have hs1 : W1.heap.size = w.heap.size + 2 := by rw [hW1]; simp
  have r0 : W1.cell? ⟨w.heap.size + 1, 0, none⟩ = some (.string (wordB j)) := by rw [hW1]; simp [go_sem]
  have r1 : W1.cell? ⟨w.heap.size + 1, 1, none⟩ = some (.int .u8 ua) := by rw [hW1]; simp [go_sem]
  have r2 : W1.cell? ⟨w.heap.size + 1, 2, none⟩ = some (.int .u8 ub) := by rw [hW1]; simp [go_sem]
  rw [← hW1]
  clear hW1
  go_cut [6] from 11 (fun v wc => OwS wc W1.heap.size v [⟨#[32, 32]⟩ ++ itoaB at_, wordB j] ∧ Below W1.heap.size W1 wc)
  case first =>
    have hil := Lib.itoa_length_le at_ (by omega) (by omega)
    have hil2 : (⟨#[32, 32]⟩ ++ ⟨(Lib.itoa at_).toArray⟩ : ByteArray).size ≤ 30 := by simp [ByteArray.size]; omega
    have hil3 : (⟨(Lib.itoa at_).toArray⟩ : ByteArray).size ≤ 30 := by simp [ByteArray.size]; omega
    go_region_with (go_at_call 24; refine (itoa_c at_ (by omega) (by omega) w0 _ HT.out ?y1).mono ?_; (case y1 => exact HB.out.trans ((below_drewM HBW.out).mono HB.out.size)); rintro e w2 ⟨rfl, hb2⟩; have HB2 : Hid (Below W1.heap.size W1 w2) := (below_drewM (Below.refl _ _)).trans hb2; have r3 := HB2.out.cell (p := ⟨w.heap.size + 1, 0, none⟩) (by simp [hs1]); rw [r0] at r3; have hs2 := HB2.out.size; clear hb2)
    all_goals go_wp2_with fail
    all_goals go_meet
    all_goals first
      | exact ⟨OwS.new2 w2 _ (by omega) _ _, HB2.out.trans ((below1 _ _).mono hs2)⟩
      | exact ⟨(OwS.new2 w2 _ (by omega) _ _).drew, HB2.out.trans (below_drewM ((below1 _ _).mono hs2))⟩
  case rest =>
    obtain ⟨hos, hbc⟩ := hcut
    have HOS : Hid (OwS wc W1.heap.size u6 [⟨#[32, 32]⟩ ++ itoaB at_, wordB j]) := hos
    have HBC : Hid (Below W1.heap.size W1 wc) := hbc
    have HWC : Hid (Below w.heap.size w wc) := HBW.out.trans (hbc.mono HBW.out.size)
    have HXC : Hid (B3 wc w.heap.size (.int .i64 j) (.int .i64 a) (.int .i64 b)) := HX.out.below hbc
    have s1 := hbc.cell (p := ⟨w.heap.size + 1, 1, none⟩) (by simp [hs1])
    have s2 := hbc.cell (p := ⟨w.heap.size + 1, 2, none⟩) (by simp [hs1])
    rw [r1] at s1
    rw [r2] at s2
    have hsz := HWC.out.size
    have z1 := HXC.out.c1
    have z2 := HXC.out.c2
    have hlt1 : w.heap.size + 1 < wc.heap.size := by have := hbc.size; omega
    clear hos hbc r0 r1 r2
    have hwc1 := HBC.out.size
    have e10 : (ua == 10) = decide (j = 14) := by rw [Bool.eq_iff_iff]; simp [HA1.out]
    have eb0 : (ub != 0) = decide (j = 8) := by
      have := HA3.out
      by_cases h8 : j = 8
      · simp [h8] at this; simp [h8, this]
      · simp [h8] at this; simp [h8, this]
    by_cases c14 : j = 14
    · obtain ⟨p, hp⟩ : ∃ p : Nat, a = p := ⟨a.toNat, by omega⟩
      subst hp
      have hp22 : p < 22 := by have := h14 c14; omega
      have pn := (HTW.out.below HWC.out).pn p hp22
      have c8 : ¬ j = 8 := by omega
      have d1 : (ua == 10) = true := by rw [e10]; simp [c14]
      have d2 : (ub != 0) = false := by rw [eb0]; simp [c8]
      have HW : Hid (inWs at_ j p b = [⟨#[32, 32]⟩ ++ itoaB at_, wordB j] ++ [primB p]) := by unfold Hid inWs; rw [if_pos c14, if_neg c8]; simp
      clear e10 eb0 HA1 HA2 HA3 c14 c8 h14
      go_wp2_with (at_builtin; refine appStr_law _ rfl (.tmp 20) (.tmp 26) rfl W1.heap.size _ [⟨#[32, 32]⟩ ++ itoaB at_, wordB j] (primB p) (by simp [Act.eval]) HOS.out (by simp [Act.eval]) (by simp) hwc1 ?_; intro v' w3 ho hg; have HO3 : Hid (OwS w3 W1.heap.size v' ([⟨#[32, 32]⟩ ++ itoaB at_, wordB j] ++ [primB p])) := ho; have HB3 : Hid (Below W1.heap.size wc w3) := hg; have y1 := hg.cell (p := ⟨w.heap.size + 1, 1, none⟩) (by simp [hs1]); have y2 := hg.cell (p := ⟨w.heap.size + 1, 2, none⟩) (by simp [hs1]); rw [s1] at y1; rw [s2] at y2; clear ho hg)
      go_ret
      exact ⟨_, rfl, by rw [HW.out]; exact HO3.out.mono (by omega), HWC.out.trans (HB3.out.mono (by omega))⟩
    · have d1 : (ua == 10) = false := by rw [e10]; simp [c14]
      by_cases cA : hasA j = true
      · have hua0 : ¬ ua = 0 := fun h => by rw [HA2.out.1 h] at cA; cases cA
        have d0 : (ua != 0) = true := by simpa using hua0
        by_cases c8 : j = 8
        · have d2 : (ub != 0) = true := by rw [eb0]; simp [c8]
          have HW : Hid (inWs at_ j a b = ([⟨#[32, 32]⟩ ++ itoaB at_, wordB j] ++ [itoaB a]) ++ [itoaB b]) := by unfold Hid inWs; rw [if_neg c14, if_pos cA, if_pos c8]
          clear e10 eb0 HA1 HA2 HA3 c14 c8 h14 cA
          go_wp2_with (first | (go_at_call 24; first | (refine (itoa_c a (by omega) (by omega) w0 _ HT.out (HB.out.trans (HWC.out.mono HB.out.size))).mono ?_; rintro e w3 ⟨rfl, hb3⟩; have HB3 : Hid (Below wc.heap.size wc w3) := hb3; have HO3 : Hid (OwS w3 W1.heap.size u6 [⟨#[32, 32]⟩ ++ itoaB at_, wordB j]) := HOS.out.below hb3; have hs3 := hb3.size; have y1 := hb3.cell (p := ⟨w.heap.size + 1, 1, none⟩) hlt1; have y2 := hb3.cell (p := ⟨w.heap.size + 1, 2, none⟩) hlt1; have yz := (HXC.out.below hb3).c2; rw [s1] at y1; rw [s2] at y2; clear hb3) | (refine (itoa_c b (by omega) (by omega) w0 _ HT.out (HB.out.trans ((HWC.out.trans ((HB3.out.mono (by omega)).trans (HB4.out.mono (by omega)))).mono HB.out.size))).mono ?_; rintro e w5 ⟨rfl, hb5⟩; have HB5 : Hid (Below w4.heap.size w4 w5) := hb5; have HO5 : Hid (OwS w5 W1.heap.size _ ([⟨#[32, 32]⟩ ++ itoaB at_, wordB j] ++ [itoaB a])) := HO4.out.below hb5; have hs5 := hb5.size; clear hb5)) | (at_builtin; first | (refine appStr_law w3 rfl (.tmp 31) (.tmp 35) rfl W1.heap.size _ [⟨#[32, 32]⟩ ++ itoaB at_, wordB j] (itoaB a) (by simp [Act.eval]) HO3.out (by simp [Act.eval]) (by simp) (by omega) ?_; intro v' w4 ho hg; have HO4 : Hid (OwS w4 W1.heap.size v' ([⟨#[32, 32]⟩ ++ itoaB at_, wordB j] ++ [itoaB a])) := ho; have HB4 : Hid (Below W1.heap.size w3 w4) := hg; have hs4 := hg.size; have y3 := hg.cell (p := ⟨w.heap.size + 1, 2, none⟩) (by simp [hs1]); have y4 := hg.cell (p := ⟨w.heap.size, 2, none⟩) (by simp [hs1]); rw [y2] at y3; rw [yz] at y4; clear ho hg) | (refine appStr_law w5 rfl (.tmp 40) (.tmp 44) rfl W1.heap.size _ ([⟨#[32, 32]⟩ ++ itoaB at_, wordB j] ++ [itoaB a]) (itoaB b) (by simp [Act.eval]) HO5.out (by simp [Act.eval]) (by simp) (by omega) ?_; intro v'' w6 ho hg; have HO6 : Hid (OwS w6 W1.heap.size v'' (([⟨#[32, 32]⟩ ++ itoaB at_, wordB j] ++ [itoaB a]) ++ [itoaB b])) := ho; have HB6 : Hid (Below W1.heap.size w5 w6) := hg; clear ho hg)))
          go_ret
          exact ⟨_, rfl, by rw [HW.out]; exact HO6.out.mono (by omega), HWC.out.trans ((HB3.out.mono (by omega)).trans ((HB4.out.mono (by omega)).trans ((HB5.out.mono (by omega)).trans (HB6.out.mono (by omega)))))⟩
        · have d2 : (ub != 0) = false := by rw [eb0]; simp [c8]
          have HW : Hid (inWs at_ j a b = [⟨#[32, 32]⟩ ++ itoaB at_, wordB j] ++ [itoaB a]) := by unfold Hid inWs; rw [if_neg c14, if_pos cA, if_neg c8]; simp
          clear e10 eb0 HA1 HA2 HA3 c14 c8 h14 cA
          go_wp2_with (first | (go_at_call 24; refine (itoa_c a (by omega) (by omega) w0 _ HT.out (HB.out.trans (HWC.out.mono HB.out.size))).mono ?_; rintro e w3 ⟨rfl, hb3⟩; have HB3 : Hid (Below wc.heap.size wc w3) := hb3; have HO3 : Hid (OwS w3 W1.heap.size u6 [⟨#[32, 32]⟩ ++ itoaB at_, wordB j]) := HOS.out.below hb3; have hs3 := hb3.size; have y2 := hb3.cell (p := ⟨w.heap.size + 1, 2, none⟩) hlt1; rw [s2] at y2; clear hb3) | (at_builtin; refine appStr_law w3 rfl (.tmp 31) (.tmp 35) rfl W1.heap.size _ [⟨#[32, 32]⟩ ++ itoaB at_, wordB j] (itoaB a) (by simp [Act.eval]) HO3.out (by simp [Act.eval]) (by simp) (by omega) ?_; intro v' w4 ho hg; have HO4 : Hid (OwS w4 W1.heap.size v' ([⟨#[32, 32]⟩ ++ itoaB at_, wordB j] ++ [itoaB a])) := ho; have HB4 : Hid (Below W1.heap.size w3 w4) := hg; have y3 := hg.cell (p := ⟨w.heap.size + 1, 2, none⟩) (by simp [hs1]); rw [y2] at y3; clear ho hg))
          go_ret
          exact ⟨_, rfl, by rw [HW.out]; exact HO4.out.mono (by omega), HWC.out.trans ((HB3.out.mono (by omega)).trans (HB4.out.mono (by omega)))⟩
      · have hA' : hasA j = false := by simpa using cA
        have hua0 : ua = 0 := HA2.out.2 hA'
        have c8 : ¬ j = 8 := fun h => by subst h; cases hA'
        have d2 : (ub != 0) = false := by rw [eb0]; simp [c8]
        have HW : Hid (inWs at_ j a b = [⟨#[32, 32]⟩ ++ itoaB at_, wordB j]) := by unfold Hid inWs; rw [if_neg c14, if_neg cA, if_neg c8]; simp
        clear e10 eb0 HA1 HA2 HA3 c14 c8 h14 cA hA' d1
        subst hua0
        go_wp2
        go_ret
        exact ⟨_, rfl, by rw [HW.out]; exact HOS.out.mono (by omega), HWC.out⟩
end Go.Proofs.YtadkajhejbondaaGreatDoor
