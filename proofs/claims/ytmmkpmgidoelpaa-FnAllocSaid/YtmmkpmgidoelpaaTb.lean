import Derived.Test.YtmmkpmgidoelpaaTa
import Derived.Test.YtmmkpmgidoelpaaT8
import Derived.Test.YtmmkpmgidoelpaaT9
import Derived.Deep.RegionHeld
namespace Go.Proofs.Ytmmkpmgidoelpaa
open Go.RowKit Ch2
theorem AlRes.bad {ws fs ys : List Int} {top k t v c : Int} (h : AlRes ws top k fs ys t v c) (hc : c ≠ 0) : ys = [] := by
  rcases h with ⟨_, h, _⟩ | ⟨_, _, h, _⟩ | ⟨_, _, _, _, _, h⟩
  · exact h
  · exact h
  · exact absurd h hc
theorem AlRes.ok {ws fs ys : List Int} {top k t v : Int} (h : AlRes ws top k fs ys t v 0) : AlOk ws top k fs ∧ top + 1 + fs.length ≤ ws.length ∧ ys = putO ws top.toNat (4 * fs.length + k) fs ∧ t = top + 1 + fs.length ∧ v = 4 * top + 1 := by
  rcases h with ⟨_, _, _, _, h1⟩ | ⟨_, _, _, _, _, h1⟩ | ⟨h1, h2, h3, h4, h5, _⟩
  · cases h1
  · cases h1
  · exact ⟨h1, h2, h3, h4, h5⟩
/-- The same fields make an object of the greater heap too. -/
theorem AlOk.again {ws fs ys : List Int} {top k : Int} (h : AlOk ws top k fs) (hL : Laid ws top k fs ys) : AlOk ys (top + 1 + fs.length) k fs :=
  ⟨hL.good, h.cnt, h.fn, fun i hi => WordOk.up (by have := h.good.lo; omega) hL.same (h.words i hi)⟩
theorem Laid.goodR {ws fs ys : List Int} {top k : Int} (h : Laid ws top k fs ys) (h0 : 0 ≤ top) : GoodR ys (top + 1 + fs.length) [4 * top + 1] := by
  refine ⟨h.good, by simp, fun i hi => ?_⟩
  have hi0 : i = 0 := by simpa using hi
  subst hi0
  refine Or.inr (Or.inr (Or.inl ⟨by show (4 * top + 1) % 4 = 1; omega, by show 0 ≤ 4 * top + 1; omega, ?_⟩))
  show St ys (top + 1 + fs.length).toNat ((4 * top + 1) / 4).toNat
  rw [show ((4 * top + 1) / 4).toNat = top.toNat by omega]
  exact h.st
theorem Is.pre {w : World} {p : Option Addr} {n c m : Nat} {xs : List Int} (h : Is w p n c xs) (hm : m ≤ n) : Is w p m c (xs.take m) := by
  refine ⟨by have := h.len; simp; omega, Nat.le_trans hm h.cap, h.big, fun i => ?_, fun h0 => ?_⟩
  · rw [take_getD]; split
    · exact h.rng i
    · omega
  · obtain ⟨b, o, e, hl, hc⟩ := h.cells (by omega)
    exact ⟨b, o, e, hl, fun i hi => by rw [take_getD, if_pos hi]; exact hc i (by omega)⟩
theorem one_row (w : World) (x : Int) (hx : -9223372036854775808 ≤ x ∧ x ≤ 9223372036854775807) : Is (w.alloc (.cells #[.int .i64 x] 3)) (some ⟨w.heap.size, 0, none⟩) 1 1 [x] := by
  have hbk : (w.alloc (.cells #[.int .i64 x] 3)).heap[w.heap.size]? = some (.cells #[.int .i64 x] 3) := new_blk _ _ rfl
  refine ⟨rfl, Nat.le_refl _, by unfold maxLen; omega, fun i => ?_, fun _ => ⟨_, 0, rfl, by simp, fun i hi => ?_⟩⟩
  · match i with
    | 0 => exact hx
    | i + 1 => simp [List.getD]
  · obtain rfl : i = 0 := by omega
    exact one_cell hbk
set_option maxRecDepth 20000 in
set_option maxHeartbeats 8000000 in
theorem lawAlloc (cp : Option Addr) (cn cc : Nat) (cs : List Int) (w : World) (h : Bz w cp cn cs) (hcc : cn ≤ cc) (hcm : cc ≤ 9223372036854775807) :
    Calls Try.prog 3 #[.slice cp cn cc] w fun e w' => e = .returned (.bool true) ∧ Below w.heap.size w w' := by
  have HB0 : Hid (Bz w cp cn cs) := h
  clear h
  by_cases hbig : 1048576 < cn
  · have hd : decide ((1048576 : Int) < (cn : Int)) = true := decide_eq_true (by omega)
    go_enter Try.func3, Try.ntmps3
    go_wp2_with fail
    go_ret
    exact ⟨rfl, Below.refl _ _⟩
  have hd : decide ((1048576 : Int) < (cn : Int)) = false := decide_eq_false (by omega)
  obtain ⟨bs, hbs⟩ : ∃ bs, bs = cs.take 500 := ⟨_, rfl⟩
  have HBS : Hid (bs = cs.take 500) := hbs
  clear hbs
  go_enter Try.func3, Try.ntmps3
  go_wp2_with fail
  clear hd
  refine (drawAlloc_c cp cn cc cs bs HBS.out w HB0.out hcc hcm).mono ?_
  rintro e w1 ⟨p, n, c, ws, top, kind, fq, m, fc, fs, rfl, hdr, hi1, hf1, hn1, ht1, ht2, hk1, hk2, hm1, hb1⟩
  have HDR : Hid (DrawR bs ws top kind fs) := hdr
  obtain ⟨W1, hW1⟩ : ∃ W1, W1 = w1.alloc (.cells #[.slice p n c, .int .i64 top] 25) := ⟨_, rfl⟩
  have hbW1 : Below w1.heap.size w1 W1 := by rw [hW1]; exact below1 _ _
  have HX1 : Hid (Bx W1 w1.heap.size p n c top) := by unfold Hid; rw [hW1]; exact Bx.new _ _ _ _ _ _
  have HI1 : Hid (Is W1 p n c ws) := hi1.below hbW1
  have HF1 : Hid (Is W1 fq m fc fs) := hf1.below hbW1
  have HB1 : Hid (Below w.heap.size w W1) := hb1.trans (hbW1.mono hb1.size)
  clear hdr hi1 hf1 hb1 hbW1
  go_wp2_with fail
  rw [← hW1]
  clear hW1
  refine (specAlloc_c p n c top kind ws fq m fc fs W1 HI1.out (by omega) (by omega) HF1.out).mono ?_
  rintro e w2 ⟨p2, n2, c2, ys, top', word, code, rfl, hres, hi2, _, hb2⟩
  have HRES : Hid (AlRes ws top kind fs ys top' word code) := hres
  obtain ⟨W2, hW2⟩ : ∃ W2, W2 = w2.alloc (.cells #[.slice p2 n2 c2, .int .i64 top'] 25) := ⟨_, rfl⟩
  have hbW2 : Below w2.heap.size w2 W2 := by rw [hW2]; exact below1 _ _
  have hbC2 : Below W1.heap.size W1 W2 := hb2.trans (hbW2.mono hb2.size)
  have HX2 : Hid (Bx W2 w1.heap.size p n c top) := HX1.out.below hbC2
  have HI2 : Hid (Is W2 p n c ws) := HI1.out.below hbC2
  have HF2 : Hid (Is W2 fq m fc fs) := HF1.out.below hbC2
  have HB2 : Hid (Below w.heap.size w W2) := HB1.out.trans (hbC2.mono HB1.out.size)
  have HBZ2 : Hid (Bz W2 cp cn cs) := HB0.out.below HB2.out
  clear hres hi2 hb2 hbW2 hbC2 HX1 HI1 HF1 HB1
  go_wp2_with fail
  rw [← hW2]
  clear hW2
  refine (drawAlloc_c cp cn cc cs bs HBS.out W2 HBZ2.out hcc hcm).mono ?_
  rintro e w3 ⟨p3, n3, c3, ws3, top3, kind3, fq3, m3, fc3, fs3, rfl, hdr, hi3, hf3, _, _, _, _, _, _, hb3⟩
  obtain ⟨e1, e2, e3, e4⟩ := HDR.out.one hdr
  subst e1 e2 e3 e4
  obtain rfl : n = n3 := by rw [← HI2.out.len, hi3.len]
  obtain rfl : m = m3 := by rw [← HF2.out.len, hf3.len]
  obtain ⟨W3, hW3⟩ : ∃ W3, W3 = w3.alloc (.cells #[.slice p3 n c3, .int .i64 top] 25) := ⟨_, rfl⟩
  have hbW3 : Below w3.heap.size w3 W3 := by rw [hW3]; exact below1 _ _
  have hbC3 : Below W2.heap.size W2 W3 := hb3.trans (hbW3.mono hb3.size)
  have HX3 : Hid (Bx W3 w1.heap.size p n c top) := HX2.out.below hbC3
  have HI3 : Hid (Is W3 p n c ws) := HI2.out.below hbC3
  have HJ3 : Hid (Is W3 p3 n c3 ws) := hi3.below hbW3
  have HF3 : Hid (Is W3 fq3 m fc3 fs) := hf3.below hbW3
  have HB3 : Hid (Below w.heap.size w W3) := HB2.out.trans (hbC3.mono HB2.out.size)
  clear hdr hi3 hf3 hb3 hbW3 hbC3 HX2 HI2 HF2 HB2 HBZ2
  go_wp2_with fail
  rw [← hW3]
  clear hW3
  refine (implAlloc_c p3 n c3 top kind ws fq3 m fc3 fs W3 HJ3.out (by omega) (by omega) HF3.out).mono ?_
  rintro e w4 ⟨p4, n4, c4, ys4, top4, word4, code4, rfl, hres, hi4, _, hb4⟩
  obtain ⟨e1, e2, e3, e4⟩ := HRES.out.one hres
  subst e1 e2 e3 e4
  obtain ⟨W4, hW4⟩ : ∃ W4, W4 = w4.alloc (.cells #[.slice p4 n4 c4, .int .i64 top'] 25) := ⟨_, rfl⟩
  have hbW4 : Below w4.heap.size w4 W4 := by rw [hW4]; exact below1 _ _
  have hbC4 : Below W3.heap.size W3 W4 := hb4.trans (hbW4.mono hb4.size)
  have HX4 : Hid (Bx W4 w1.heap.size p n c top) := HX3.out.below hbC4
  have HG4 : Hid (Bx W4 w4.heap.size p4 n4 c4 top') := by unfold Hid; rw [hW4]; exact Bx.new _ _ _ _ _ _
  have HI4 : Hid (Is W4 p n c ws) := HI3.out.below hbC4
  have HJ4 : Hid (Is W4 p4 n4 c4 ys) := hi4.below hbW4
  have HF4 : Hid (Is W4 fq3 m fc3 fs) := HF3.out.below hbC4
  have HB4 : Hid (Below w.heap.size w W4) := HB3.out.trans (hbC4.mono HB3.out.size)
  clear hres hi4 hb4 hbW4 hbC4 HX3 HI3 HJ3 HF3 HB3
  have hcc0 : (code != code) = false := by simp
  by_cases hc0 : code = 0
  · subst hc0
    obtain ⟨hok, hfit, hyse, htop, hword⟩ := HRES.out.ok
    have hlo := hok.good.lo
    have hLd := hok.laid hfit
    rw [← hyse] at hLd
    have HOK : Hid (AlOk ws top kind fs) := hok
    have HLD : Hid (Laid ws top kind fs ys) := hLd
    have hwl := HI4.out.len
    have hfl := HF4.out.len
    have hyl : ys.length = ws.length := by rw [hyse]; exact putO_len (by omega)
    obtain rfl : n4 = n := by rw [← HJ4.out.len, hyl, hwl]
    obtain ⟨T, rfl⟩ : ∃ T : Nat, top = T := ⟨top.toNat, by omega⟩
    have HFIT : Hid (T + 1 + m ≤ n4) := by unfold Hid; omega
    have HTP : Hid (top' = (T : Int) + 1 + (m : Int)) := by unfold Hid; rw [htop, hfl]
    have hWd : word = 4 * (T : Int) + 1 := hword
    have hfe := HTP.out
    subst hfe
    have HLY : Hid (ys.length = n4) := HJ4.out.len
    have HFL : Hid (fs.length = m) := hfl
    have HWL : Hid (ws.length = n4) := hwl
    have HGR : Hid (GoodR ys ((T : Int) + 1 + (m : Int)) [word]) := by
      have hg := hLd.good
      rw [← htop] at hg
      refine ⟨hg, by simp, fun i hi => ?_⟩
      have hi0 : i = 0 := by simpa using hi
      subst hi0
      refine Or.inr (Or.inr (Or.inl ⟨by show word % 4 = 1; omega, by show 0 ≤ word; omega, ?_⟩))
      have hst := hLd.st
      rw [← htop] at hst
      show St ys ((T : Int) + 1 + (m : Int)).toNat (word / 4).toNat
      rw [show (word / 4).toNat = ((T : Nat) : Int).toNat by omega]
      exact hst
    obtain ⟨pb, po, rfl, _, _⟩ := HI4.out.cells (by have := HFIT.out; omega)
    obtain ⟨gb, go, rfl, _, _⟩ := HJ4.out.cells (by have := HFIT.out; omega)
    have x0 := HX4.out.c0
    have x1 := HX4.out.c1
    have hcapp := HI4.out.cap
    have hcapg := HJ4.out.cap
    have hcs1 := HI4.out.small.2
    have hcs2 := HJ4.out.small.2
    have SK : Hid (∀ wx, Below W4.heap.size W4 wx → (wx.cell? ⟨w1.heap.size, 0, none⟩ = some (.slice (some ⟨pb, po, none⟩) n4 c) ∧ wx.cell? ⟨w1.heap.size, 1, none⟩ = some (.int .i64 (T : Int))) ∧ wx.cell? ⟨w4.heap.size, 0, none⟩ = some (.slice (some ⟨gb, go, none⟩) n4 c4) ∧ wx.cell? ⟨w4.heap.size, 1, none⟩ = some (.int .i64 ((T : Int) + 1 + (m : Int)))) := fun wx hb => ⟨⟨(HX4.out.below hb).c0, (HX4.out.below hb).c1⟩, (HG4.out.below hb).c0, (HG4.out.below hb).c1⟩
    have hwb : -9223372036854775808 ≤ word ∧ word ≤ 9223372036854775807 := by omega
    have hTc : (T : Int) ≤ (c : Int) := by have := HFIT.out; omega
    have hTd : (T : Int) ≤ (c4 : Int) := by have := HFIT.out; omega
    have hTc' : T ≤ c := by omega
    have hTd' : T ≤ c4 := by omega
    have hww : (word != word) = false := by simp
    have fw1 : IntKind.i64.wrap ((T : Int) + 1) = (T : Int) + 1 := by rw [IntKind.wrap_i64]; omega
    have fw2 : IntKind.i64.wrap ((T : Int) + 1 + (m : Int)) = (T : Int) + 1 + (m : Int) := by rw [IntKind.wrap_i64]; omega
    have fz : (0 : Int) ≤ (T : Int) := by omega
    have ftn : ((T : Int)).toNat = T := by omega
    have hee : (((T : Int) + 1 + (m : Int)) != ((T : Int) + 1 + (m : Int))) = false := by simp
    have hnn : ((n4 : Int) != (n4 : Int)) = false := by simp
    clear hok hfit hyse htop hword hlo hLd hwl hfl hyl hWd
    go_wp2_with fail
    rw [← hW4]
    clear hW4
    go_cut [101] from 58 (fun v wc => v = .bool false ∧ Below W4.heap.size W4 wc)
    case first =>
      have HCUR : Hid (Below W4.heap.size W4 W4.drew) := below_drew (Below.refl _ _)
      go_region_held (fun wx => (wx.cell? ⟨w1.heap.size, 0, none⟩ = some (.slice (some ⟨pb, po, none⟩) n4 c) ∧ wx.cell? ⟨w1.heap.size, 1, none⟩ = some (.int .i64 (T : Int))) ∧ wx.cell? ⟨w4.heap.size, 0, none⟩ = some (.slice (some ⟨gb, go, none⟩) n4 c4) ∧ wx.cell? ⟨w4.heap.size, 1, none⟩ = some (.int .i64 ((T : Int) + 1 + (m : Int)))) (first | exact SK.out _ HCUR.out | exact SK.out _ (HCUR.out.trans ((below1 _ _).mono HCUR.out.size))) (first
        | (go_at_call 7; refine (sameN_c (some ⟨gb, go, none⟩) (some ⟨pb, po, none⟩) T c4 c (ys.take T) (ws.take T) _ ?y1 ?y2 ?y3).mono ?_; (case y1 => exact (HJ4.out.below HCUR.out).pre (by have := HFIT.out; omega)); (case y2 => exact (HI4.out.below HCUR.out).pre (by have := HFIT.out; omega)); (case y3 => exact (fun i hi => by rw [take_getD, take_getD, if_pos hi, if_pos hi]; exact HLD.out.same i (by simpa using hi))); rintro e wx ⟨rfl, hb⟩; have HCUR := Hid.mk' (HCUR.out.trans (hb.mono HCUR.out.size)); clear hb)
        | (go_at_call 8; refine (specValidHeap_c (some ⟨gb, go, none⟩) n4 c4 ((T : Int) + 1 + (m : Int)) ys _ 1 1 [word] _ ?z1 (by omega) (by omega) (one_row _ word hwb)).mono ?_; (case z1 => exact HJ4.out.below (HCUR.out.trans ((below1 _ _).mono HCUR.out.size))); rintro e wx ⟨b, rfl, hbb, hb⟩; obtain rfl : b = true := hbb.2 HGR.out; have HCUR := Hid.mk' ((HCUR.out.trans ((below1 _ _).mono HCUR.out.size)).trans (hb.mono (HCUR.out.trans ((below1 _ _).mono HCUR.out.size)).size)); clear hbb hb))
      all_goals go_wp2_with fail
      all_goals go_meet
      all_goals exact ⟨rfl, HCUR.out⟩
    case rest =>
      obtain ⟨rfl, hbc⟩ := hcut
      rename World => w5
      have HBC : Hid (Below W4.heap.size W4 w5) := hbc
      have HG5 : Hid (Bx w5 w4.heap.size (some ⟨gb, go, none⟩) n4 c4 ((T : Int) + 1 + (m : Int))) := HG4.out.below hbc
      have HJ5 : Hid (Is w5 (some ⟨gb, go, none⟩) n4 c4 ys) := HJ4.out.below hbc
      have HF5 : Hid (Is w5 fq3 m fc3 fs) := HF4.out.below hbc
      have HB5 : Hid (Below w.heap.size w w5) := HB4.out.trans (hbc.mono HB4.out.size)
      have hWE : word = 4 * (T : Int) + 1 := HRES.out.ok.2.2.2.2
      have HWE : Hid (word = 4 * (T : Int) + 1) := hWE
      have hTn : (T : Int) ≤ 20001 := by have := HFIT.out; omega
      have g0 := HG5.out.c0
      have g1 := HG5.out.c1
      clear hbc x0 x1 SK hww hee fw1 fw2 HX4 HI4 HJ4 HF4 HB4 HG4 hnn
      go_wp2_with fail
      refine (implAlloc_c (some ⟨gb, go, none⟩) n4 c4 ((T : Int) + 1 + (m : Int)) kind ys fq3 m fc3 fs w5 HJ5.out (by omega) (by omega) HF5.out).mono ?_
      rintro e w6 ⟨p6, n6, c6, us, top6, v6, code6, rfl, hres, hi6, _, hb6⟩
      have HR6 : Hid (AlRes ys ((T : Int) + 1 + (m : Int)) kind fs us top6 v6 code6) := hres
      obtain ⟨W6, hW6⟩ : ∃ W6, W6 = w6.alloc (.cells #[.slice p6 n6 c6, .int .i64 top6] 25) := ⟨_, rfl⟩
      have hbW6 : Below w6.heap.size w6 W6 := by rw [hW6]; exact below1 _ _
      have hbC6 : Below w5.heap.size w5 W6 := hb6.trans (hbW6.mono hb6.size)
      have HG6 : Hid (Bx W6 w4.heap.size (some ⟨gb, go, none⟩) n4 c4 ((T : Int) + 1 + (m : Int))) := HG5.out.below hbC6
      have HT6 : Hid (Bx W6 w6.heap.size p6 n6 c6 top6) := by unfold Hid; rw [hW6]; exact Bx.new _ _ _ _ _ _
      have HJ6 : Hid (Is W6 (some ⟨gb, go, none⟩) n4 c4 ys) := HJ5.out.below hbC6
      have HI6 : Hid (Is W6 p6 n6 c6 us) := hi6.below hbW6
      have HB6 : Hid (Below w.heap.size w W6) := HB5.out.trans (hbC6.mono HB5.out.size)
      have HOK2 : Hid (AlOk ys ((T : Int) + 1 + (m : Int)) kind fs) := by have := HOK.out.again HLD.out; rw [HFL.out] at this; exact this
      clear hres hi6 hb6 hbW6 hbC6 g0 g1 HG5 HJ5 HF5 HB5
      by_cases hc6 : code6 = 0
      · subst hc6
        obtain ⟨_, hfit2, huse, htop6, hv6⟩ := HR6.out.ok
        rw [HFL.out, HLY.out] at hfit2
        rw [HFL.out] at htop6
        have hLd2 := HOK2.out.laid (by rw [HFL.out, HLY.out]; exact hfit2)
        rw [← huse] at hLd2
        have HL2 : Hid (Laid ys ((T : Int) + 1 + (m : Int)) kind fs us) := hLd2
        have hb8 : n6 = n4 := by rw [← HI6.out.len, huse, putO_len (by rw [HFL.out, HLY.out]; omega)]; exact HLY.out
        subst hb8
        have HGR2 : Hid (GoodR us top6 [v6]) := by
          have := hLd2.goodR (by omega)
          rw [HFL.out, ← htop6, ← hv6] at this
          exact this
        have HSH1 : Hid (Shp us [v6] ys [word]) := by
          have := laid_shp (ws := ws) (top := (T : Int)) HOK.out.good HOK.out.words HLD.out hLd2 (fun i hi => ?_) (by omega) (by omega) (by omega)
          · rw [← hv6, ← HWE.out] at this
            exact this
          · rw [hLd2.same i (by omega)]
            exact HLD.out.same i hi
        have HSH2 : Hid (Shp ys [word] ys [word]) := self_shp HGR.out
        have HSH3 : Hid (¬ Shp ys [word, word] us [v6, word]) := not_shp (by have := HWE.out; omega) (by have := HWE.out; omega)
        have hvw : (v6 != word) = true := by
          have := HWE.out
          simp; omega
        have hvb : -100000 ≤ v6 ∧ v6 ≤ 100000 := by have := HFIT.out; omega
        have hwb2 : -100000 ≤ word ∧ word ≤ 100000 := by have := HFIT.out; have := HWE.out; omega
        have htb : 0 ≤ top6 ∧ top6 ≤ 100000 := by have := HFIT.out; omega
        obtain ⟨htb0, htb1⟩ := htb
        have hx0 := HG6.out.c0
        have hx1 := HG6.out.c1
        have hx0' : ∀ o1, (W6.alloc o1).cell? ⟨w4.heap.size, 0, none⟩ = some (.slice (some ⟨gb, go, none⟩) n6 c4) := fun o1 => (HG6.out.below (below1 _ _)).c0
        have hx1' : ∀ o1, (W6.alloc o1).cell? ⟨w4.heap.size, 1, none⟩ = some (.int .i64 ((T : Int) + 1 + (m : Int))) := fun o1 => (HG6.out.below (below1 _ _)).c1
        rw [hW6] at hx0 hx1 hx0' hx1'
        have HR1 := Hid.mk' ((one_row W6 v6 (by omega)).below (below1 _ (.cells #[.int .i64 word] 3)))
        have HR2 := Hid.mk' (one_row (W6.alloc (.cells #[.int .i64 v6] 3)) word (by omega))
        have HB2 := Hid.mk' (below2 W6 (.cells #[.int .i64 v6] 3) (.cells #[.int .i64 word] 3))
        have HC1 := Hid.mk' (implSameShape_c p6 n6 c6 top6 us (some ⟨W6.heap.size, 0, none⟩) 1 1 [v6] (some ⟨gb, go, none⟩) n6 c4 ((T : Int) + 1 + (m : Int)) ys _ 1 1 [word] _ (HI6.out.below HB2.out) (by omega) (by omega) HR1.out (HJ6.out.below HB2.out) (by omega) (by omega) HR2.out)
        have hs6 : W6.heap.size = w6.heap.size + 1 := by rw [hW6]; simp
        rw [show (W6.alloc (.cells #[.int .i64 v6] 3)).heap.size = w6.heap.size + 1 + 1 by simp [hs6], hs6, hW6] at HC1
        clear hfit2 huse htop6 hv6 hLd2 hWE hs6
        go_wp2_with fail
        refine HC1.out.mono ?_
        rintro e w7 ⟨b1, rfl, hbb1, hbw7⟩
        obtain rfl : b1 = true := hbb1.2 ⟨HGR2.out, HGR.out, HSH1.out⟩
        rw [← hW6] at hbw7
        have hb67 : Below W6.heap.size W6 w7 := HB2.out.trans (hbw7.mono HB2.out.size)
        have HG7 : Hid (Bx w7 w4.heap.size (some ⟨gb, go, none⟩) n6 c4 ((T : Int) + 1 + (m : Int))) := HG6.out.below hb67
        have HT7 : Hid (Bx w7 w6.heap.size p6 n6 c6 top6) := HT6.out.below hb67
        have HJ7 : Hid (Is w7 (some ⟨gb, go, none⟩) n6 c4 ys) := HJ6.out.below hb67
        have HI7 : Hid (Is w7 p6 n6 c6 us) := HI6.out.below hb67
        have HB7 : Hid (Below w.heap.size w w7) := HB6.out.trans (hb67.mono HB6.out.size)
        clear hbb1 hbw7 hb67 hx0 hx1 hx0' hx1' HC1 HR1 HR2 HB2 hvw
        have hx0 := HG7.out.c0
        have hx1 := HG7.out.c1
        have hx0' : ∀ o1, (w7.alloc o1).cell? ⟨w4.heap.size, 0, none⟩ = some (.slice (some ⟨gb, go, none⟩) n6 c4) := fun o1 => (HG7.out.below (below1 _ _)).c0
        have hx1' : ∀ o1, (w7.alloc o1).cell? ⟨w4.heap.size, 1, none⟩ = some (.int .i64 ((T : Int) + 1 + (m : Int))) := fun o1 => (HG7.out.below (below1 _ _)).c1
        have HR1 := Hid.mk' ((one_row w7 word (by omega)).below (below1 _ (.cells #[.int .i64 word] 3)))
        have HR2 := Hid.mk' (one_row (w7.alloc (.cells #[.int .i64 word] 3)) word (by omega))
        have HB2 := Hid.mk' (below2 w7 (.cells #[.int .i64 word] 3) (.cells #[.int .i64 word] 3))
        have HC1 := Hid.mk' (implSameShape_c (some ⟨gb, go, none⟩) n6 c4 ((T : Int) + 1 + (m : Int)) ys (some ⟨w7.heap.size, 0, none⟩) 1 1 [word] (some ⟨gb, go, none⟩) n6 c4 ((T : Int) + 1 + (m : Int)) ys _ 1 1 [word] _ (HJ7.out.below HB2.out) (by omega) (by omega) HR1.out (HJ7.out.below HB2.out) (by omega) (by omega) HR2.out)
        rw [show (w7.alloc (.cells #[.int .i64 word] 3)).heap.size = w7.heap.size + 1 by simp] at HC1
        go_wp2_with fail
        refine HC1.out.mono ?_
        rintro e w8 ⟨b2, rfl, hbb2, hbw8⟩
        obtain rfl : b2 = true := hbb2.2 ⟨HGR.out, HGR.out, HSH2.out⟩
        have hb78 : Below w7.heap.size w7 w8 := HB2.out.trans (hbw8.mono HB2.out.size)
        have HG8 : Hid (Bx w8 w4.heap.size (some ⟨gb, go, none⟩) n6 c4 ((T : Int) + 1 + (m : Int))) := HG7.out.below hb78
        have HT8 : Hid (Bx w8 w6.heap.size p6 n6 c6 top6) := HT7.out.below hb78
        have HJ8 : Hid (Is w8 (some ⟨gb, go, none⟩) n6 c4 ys) := HJ7.out.below hb78
        have HI8 : Hid (Is w8 p6 n6 c6 us) := HI7.out.below hb78
        have HB8 : Hid (Below w.heap.size w w8) := HB7.out.trans (hb78.mono HB7.out.size)
        clear hbb2 hbw8 hb78 hx0 hx1 hx0' hx1' HC1 HR1 HR2 HB2
        have hx0 := HG8.out.c0
        have hx1 := HG8.out.c1
        have hy0' : ∀ o1, (w8.alloc o1).cell? ⟨w6.heap.size, 0, none⟩ = some (.slice p6 n6 c6) := fun o1 => (HT8.out.below (below1 _ _)).c0
        have hy1' : ∀ o1, (w8.alloc o1).cell? ⟨w6.heap.size, 1, none⟩ = some (.int .i64 top6) := fun o1 => (HT8.out.below (below1 _ _)).c1
        have HR1 := Hid.mk' ((two_row w8 word word hwb2 hwb2).below (below1 _ (.cells #[.int .i64 v6, .int .i64 word] 3)))
        have HR2 := Hid.mk' (two_row (w8.alloc (.cells #[.int .i64 word, .int .i64 word] 3)) v6 word hvb hwb2)
        have HB2 := Hid.mk' (below2 w8 (.cells #[.int .i64 word, .int .i64 word] 3) (.cells #[.int .i64 v6, .int .i64 word] 3))
        have HC1 := Hid.mk' (implSameShape_c (some ⟨gb, go, none⟩) n6 c4 ((T : Int) + 1 + (m : Int)) ys (some ⟨w8.heap.size, 0, none⟩) 2 2 [word, word] p6 n6 c6 top6 us _ 2 2 [v6, word] _ (HJ8.out.below HB2.out) (by omega) (by omega) HR1.out (HI8.out.below HB2.out) (by omega) (by omega) HR2.out)
        rw [show (w8.alloc (.cells #[.int .i64 word, .int .i64 word] 3)).heap.size = w8.heap.size + 1 by simp] at HC1
        go_wp2_with fail
        refine HC1.out.mono ?_
        rintro e w9 ⟨b3, rfl, hbb3, hbw9⟩
        obtain rfl : b3 = false := by
          cases b3 with
          | false => rfl
          | true => exact absurd (hbb3.1 rfl).2.2 HSH3.out
        have HB9 : Hid (Below w.heap.size w w9) := HB8.out.trans ((HB2.out.trans (hbw9.mono HB2.out.size)).mono HB8.out.size)
        clear hbb3 hbw9 hx0 hx1 hy0' hy1' HC1 HR1 HR2 HB2
        go_wp2_with fail
        go_ret
        exact ⟨rfl, HB9.out⟩
      · have hb1 : (code6 != 0) = true := by simpa using hc6
        have h13 : code6 = 13 ∧ (n4 : Int) < (T : Int) + 1 + (m : Int) + 1 + (m : Int) := by
          rcases HR6.out with ⟨h1, _⟩ | ⟨_, h1, _, _, _, h2⟩ | ⟨_, _, _, _, _, h2⟩
          · exact absurd HOK2.out h1
          · rw [HLY.out, HFL.out] at h1
            exact ⟨h2, h1⟩
          · exact absurd h2 hc6
        obtain ⟨h13a, h13b⟩ := h13
        have hb2 : (code6 == 13) = true := by simp [h13a]
        have hb3 : decide ((n4 : Int) < (T : Int) + 1 + (m : Int) + 1 + (m : Int)) = true := decide_eq_true h13b
        have t0 := HG6.out.c1
        have t1 := HG6.out.c0
        rw [hW6] at t0 t1
        clear h13a hc6
        go_wp2_with fail
        go_ret
        exact ⟨rfl, by rw [← hW6]; exact HB6.out⟩
  · have hb1 : (code != 0) = true := by simpa using hc0
    obtain rfl := HRES.out.bad hc0
    obtain rfl : n4 = 0 := by have := HJ4.out.len; simpa using this.symm
    have g0 := HG4.out.c0
    rw [hW4] at g0
    go_wp2_with fail
    go_ret
    exact ⟨rfl, by rw [← hW4]; exact HB4.out⟩
end Go.Proofs.Ytmmkpmgidoelpaa
