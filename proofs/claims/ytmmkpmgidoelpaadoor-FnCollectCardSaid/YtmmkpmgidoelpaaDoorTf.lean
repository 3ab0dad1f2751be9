import Derived.Test.YtmmkpmgidoelpaaDoorTd
import Derived.Test.YtmmkpmgidoelpaaDoorY3
import Derived.Test.YtmmkpmgidoelpaaDoorZ6
import Derived.Test.YtmmkpmgidoelpaaDoorZ7
import Derived.Test.YtmmkpmgidoelpaaDoorTa
import Derived.Test.YtmmkpmgidoelpaaDoorCf
import Derived.Test.YtmmkpmgidoelpaaDoorTh
import Derived.Deep.RegionHeld
import Derived.Lib.SmallJoins
namespace Go.Proofs.YtmmkpmgidoelpaaDoor.Hp
open Go.RowKit Ch2
/-- What lies about behind both collections: the heap h, the heap h2, the collected heap g, each in its variable, and their roots. -/
structure Abt (w : World) (bh b2 bg : Nat) (p p4 p5 : Option Addr) (n c c4 c5 : Nat) (top : Int) (T : Nat) (ws ys : List Int) (q q4 q5 : Option Addr) (m d d4 d5 : Nat) (rs zs : List Int) : Prop where
  x : Bx w bh p n c top
  y : Bx w b2 p4 n c4 top
  g : Bx w bg p5 n c5 (T : Int)
  i : Is w p n c ws
  r : Is w q m d rs
  j : Is w p4 n c4 ws
  q : Is w q4 m d4 rs
  k : Is w p5 n c5 ys
  o : Is w q5 m d5 zs
theorem Abt.below {w w' : World} {bh b2 bg : Nat} {p p4 p5 : Option Addr} {n c c4 c5 : Nat} {top : Int} {T : Nat} {ws ys : List Int} {q q4 q5 : Option Addr} {m d d4 d5 : Nat} {rs zs : List Int} (h : Abt w bh b2 bg p p4 p5 n c c4 c5 top T ws ys q q4 q5 m d d4 d5 rs zs) (hb : Below w.heap.size w w') : Abt w' bh b2 bg p p4 p5 n c c4 c5 top T ws ys q q4 q5 m d d4 d5 rs zs :=
  ⟨h.x.below hb, h.y.below hb, h.g.below hb, h.i.below hb, h.r.below hb, h.j.below hb, h.q.below hb, h.k.below hb, h.o.below hb⟩
set_option maxRecDepth 20000 in
set_option maxHeartbeats 8000000 in
theorem lawCollect (cp : Option Addr) (cn cc : Nat) (cs : List Int) (w : World) (h : Bz w cp cn cs) (hcc : cn ≤ cc) (hcm : cc ≤ 9223372036854775807) (hT : Tab w) :
    Calls Tryd.prog 3 #[.slice cp cn cc] w fun e w' => e = .returned (.bool true) ∧ Below w.heap.size w w' := by
  have HB0 : Hid (Bz w cp cn cs) := h
  have HT0 : Hid (Tab w) := hT
  clear h hT
  by_cases hbig : 1048576 < cn
  · have hd : decide ((1048576 : Int) < (cn : Int)) = true := decide_eq_true (by omega)
    go_enter Tryd.func3, Tryd.ntmps3
    go_wp2_with fail
    go_ret
    exact ⟨rfl, Below.refl _ _⟩
  have hd : decide ((1048576 : Int) < (cn : Int)) = false := decide_eq_false (by omega)
  obtain ⟨bs, hbs⟩ : ∃ bs, bs = cs.take 500 := ⟨_, rfl⟩
  have HBS : Hid (bs = cs.take 500) := hbs
  clear hbs
  go_enter Tryd.func3, Tryd.ntmps3
  go_wp2_with fail
  clear hd
  refine (drawCollect_c cp cn cc cs bs HBS.out w HB0.out hcc hcm).mono ?_
  rintro e w1 ⟨p, n, c, ws, top, q, m, d, rs, rfl, hdr, hi1, hr1, hn1, ht1, ht2, hm1, hb1⟩
  have HDR : Hid (DcR bs ws top rs) := hdr
  obtain ⟨W1, hW1⟩ : ∃ W1, W1 = w1.alloc (.cells #[.slice p n c, .int .i64 top] 25) := ⟨_, rfl⟩
  have hbW1 : Below w1.heap.size w1 W1 := by rw [hW1]; exact below1 _ _
  have HX1 : Hid (Bx W1 w1.heap.size p n c top) := by unfold Hid; rw [hW1]; exact Bx.new _ _ _ _ _ _
  have HI1 : Hid (Is W1 p n c ws) := hi1.below hbW1
  have HR1 : Hid (Is W1 q m d rs) := hr1.below hbW1
  have HB1 : Hid (Below w.heap.size w W1) := hb1.trans (hbW1.mono hb1.size)
  clear hdr hi1 hr1 hb1 hbW1
  go_wp2_with fail
  rw [← hW1]
  clear hW1
  refine (specValidHeap_c p n c top ws q m d rs W1 HI1.out (by omega) (by omega) HR1.out).mono ?_
  rintro e w2 ⟨b, rfl, hbb, hb2⟩
  have HX2 : Hid (Bx w2 w1.heap.size p n c top) := HX1.out.below hb2
  have HI2 : Hid (Is w2 p n c ws) := HI1.out.below hb2
  have HR2 : Hid (Is w2 q m d rs) := HR1.out.below hb2
  have HB2 : Hid (Below w.heap.size w w2) := HB1.out.trans (hb2.mono HB1.out.size)
  clear hb2 HX1 HI1 HR1 HB1
  by_cases hg : GoodR ws top rs
  case neg =>
    obtain rfl : b = false := by
      cases b with
      | false => rfl
      | true => exact absurd (hbb.1 rfl) hg
    clear hbb hg
    go_wp2_with fail
    go_ret
    exact ⟨rfl, HB2.out⟩
  obtain rfl : b = true := hbb.2 hg
  have HG : Hid (GoodR ws top rs) := hg
  have x0 := HX2.out.c0
  have x1 := HX2.out.c1
  clear hbb hg
  go_wp2_with fail
  clear x0 x1
  refine (specCollect_c p n c top ws q m d rs w2 HI2.out (by omega) (by omega) HR2.out (by omega)).mono ?_
  rintro e w3 ⟨p3, n3, c3, ys, t3, q3, m3, d3, zs, code, rfl, hres, hi3, hz3, -, hb3⟩
  have HRES : Hid (CoRes ws top rs ys t3 zs code) := hres
  obtain ⟨hyl, ⟨T, rfl, hTl⟩, hzl⟩ := hres.top HG.out
  obtain ⟨s, hF, hts, hzs, rfl⟩ := hres.fin HG.out
  have HF : Hid (Fin ws rs top s ys) := hF
  have HZS : Hid (zs = rs.map (mvd s.mv)) := hzs
  have HGY : Hid (GoodR ys (T : Int) zs) := by unfold Hid; rw [hts, hzs]; exact hF.goodR
  have HSH : Hid (Shp ws rs ys zs) := by unfold Hid; rw [hzs]; exact hF.shp
  obtain rfl : n3 = n := by rw [← hi3.len, hyl, HI2.out.len]
  obtain rfl : m3 = m := by rw [← hz3.len, hzl, HR2.out.len]
  have hTn : T ≤ n3 := by rw [HI2.out.len] at hTl; exact hTl
  obtain ⟨W3, hW3⟩ : ∃ W3, W3 = w3.alloc (.cells #[.slice p3 n3 c3, .int .i64 (T : Int)] 25) := ⟨_, rfl⟩
  have hbW3 : Below w3.heap.size w3 W3 := by rw [hW3]; exact below1 _ _
  have hbC3 : Below w2.heap.size w2 W3 := hb3.trans (hbW3.mono hb3.size)
  have HX3 : Hid (Bx W3 w1.heap.size p n3 c top) := HX2.out.below hbC3
  have HM3 : Hid (Bx W3 w3.heap.size p3 n3 c3 (T : Int)) := by unfold Hid; rw [hW3]; exact Bx.new _ _ _ _ _ _
  have HI3 : Hid (Is W3 p n3 c ws) := HI2.out.below hbC3
  have HR3 : Hid (Is W3 q m3 d rs) := HR2.out.below hbC3
  have HB3 : Hid (Below w.heap.size w W3) := HB2.out.trans (hbC3.mono HB2.out.size)
  have HBZ3 : Hid (Bz W3 cp cn cs) := HB0.out.below HB3.out
  clear hres hi3 hz3 hb3 hbW3 hbC3 HX2 HI2 HR2 HB2 hF hzs hts hyl hzl hTl
  go_wp2_with fail
  rw [← hW3]
  clear hW3
  refine (drawCollect_c cp cn cc cs bs HBS.out W3 HBZ3.out hcc hcm).mono ?_
  rintro e w4 ⟨p4, n4, c4, ws4, top4, q4, m4, d4, rs4, rfl, hdr, hi4, hr4, -, -, -, -, hb4⟩
  obtain ⟨e1, e2, e3⟩ := HDR.out.one hdr
  subst e1 e2 e3
  obtain rfl : n4 = n3 := by rw [← HI3.out.len, hi4.len]
  obtain rfl : m4 = m3 := by rw [← HR3.out.len, hr4.len]
  obtain ⟨W4, hW4⟩ : ∃ W4, W4 = w4.alloc (.cells #[.slice p4 n4 c4, .int .i64 top] 25) := ⟨_, rfl⟩
  have hbW4 : Below w4.heap.size w4 W4 := by rw [hW4]; exact below1 _ _
  have hbC4 : Below W3.heap.size W3 W4 := hb4.trans (hbW4.mono hb4.size)
  have HX4 : Hid (Bx W4 w1.heap.size p n4 c top) := HX3.out.below hbC4
  have HM4 : Hid (Bx W4 w3.heap.size p3 n4 c3 (T : Int)) := HM3.out.below hbC4
  have HY4 : Hid (Bx W4 w4.heap.size p4 n4 c4 top) := by unfold Hid; rw [hW4]; exact Bx.new _ _ _ _ _ _
  have HI4 : Hid (Is W4 p n4 c ws) := HI3.out.below hbC4
  have HR4 : Hid (Is W4 q m4 d rs) := HR3.out.below hbC4
  have HJ4 : Hid (Is W4 p4 n4 c4 ws) := hi4.below hbW4
  have HQ4 : Hid (Is W4 q4 m4 d4 rs) := hr4.below hbW4
  have HB4 : Hid (Below w.heap.size w W4) := HB3.out.trans (hbC4.mono HB3.out.size)
  clear hdr hi4 hr4 hb4 hbW4 hbC4 HX3 HM3 HI3 HR3 HB3 HBZ3
  go_wp2_with fail
  rw [← hW4]
  clear hW4
  refine (implCollect_c p4 n4 c4 top ws q4 m4 d4 rs W4 HJ4.out (by omega) (by omega) HQ4.out).mono ?_
  rintro e w5 ⟨p5, n5, c5, ys5, t5, q5, m5, d5, zs5, code5, rfl, hres, hi5, hz5, -, hb5⟩
  obtain ⟨e1, e2, e3, e4⟩ := HRES.out.one hres
  subst e1 e2 e3 e4
  obtain rfl : n5 = n4 := by rw [← hi5.len, (HRES.out.top HG.out).1, HI4.out.len]
  obtain rfl : m5 = m4 := by rw [← hz5.len, (HRES.out.top HG.out).2.2, HR4.out.len]
  obtain ⟨W5, hW5⟩ : ∃ W5, W5 = w5.alloc (.cells #[.slice p5 n5 c5, .int .i64 (T : Int)] 25) := ⟨_, rfl⟩
  have hbW5 : Below w5.heap.size w5 W5 := by rw [hW5]; exact below1 _ _
  have hbC5 : Below W4.heap.size W4 W5 := hb5.trans (hbW5.mono hb5.size)
  have HX5 : Hid (Bx W5 w1.heap.size p n5 c top) := HX4.out.below hbC5
  have HM5 : Hid (Bx W5 w3.heap.size p3 n5 c3 (T : Int)) := HM4.out.below hbC5
  have HY5 : Hid (Bx W5 w4.heap.size p4 n5 c4 top) := HY4.out.below hbC5
  have HG5 : Hid (Bx W5 w5.heap.size p5 n5 c5 (T : Int)) := by unfold Hid; rw [hW5]; exact Bx.new _ _ _ _ _ _
  have HI5 : Hid (Is W5 p n5 c ws) := HI4.out.below hbC5
  have HR5 : Hid (Is W5 q m5 d rs) := HR4.out.below hbC5
  have HJ5 : Hid (Is W5 p4 n5 c4 ws) := HJ4.out.below hbC5
  have HQ5 : Hid (Is W5 q4 m5 d4 rs) := HQ4.out.below hbC5
  have HK5 : Hid (Is W5 p5 n5 c5 ys) := hi5.below hbW5
  have HO5 : Hid (Is W5 q5 m5 d5 zs) := hz5.below hbW5
  have HB5 : Hid (Below w.heap.size w W5) := HB4.out.trans (hbC5.mono HB4.out.size)
  clear hres hi5 hz5 hb5 hbW5 hbC5 HX4 HM4 HY4 HI4 HR4 HJ4 HQ4 HB4
  have hnn : ((n5 : Int) != (n5 : Int)) = false := by simp
  have hmm : ((m5 : Int) != (m5 : Int)) = false := by simp
  have htt : ((T : Int) != (T : Int)) = false := by simp
  go_wp2_with fail
  rw [← hW5]
  clear hW5
  refine (specValidHeap_c p5 n5 c5 (T : Int) ys q5 m5 d5 zs W5 HK5.out (by omega) (by omega) HO5.out).mono ?_
  rintro e w6 ⟨b, rfl, hbb, hb6⟩
  obtain rfl : b = true := hbb.2 HGY.out
  have HX6 : Hid (Bx w6 w1.heap.size p n5 c top) := HX5.out.below hb6
  have HM6 : Hid (Bx w6 w3.heap.size p3 n5 c3 (T : Int)) := HM5.out.below hb6
  have HY6 : Hid (Bx w6 w4.heap.size p4 n5 c4 top) := HY5.out.below hb6
  have HG6 : Hid (Bx w6 w5.heap.size p5 n5 c5 (T : Int)) := HG5.out.below hb6
  have HI6 : Hid (Is w6 p n5 c ws) := HI5.out.below hb6
  have HR6 : Hid (Is w6 q m5 d rs) := HR5.out.below hb6
  have HJ6 : Hid (Is w6 p4 n5 c4 ws) := HJ5.out.below hb6
  have HQ6 : Hid (Is w6 q4 m5 d4 rs) := HQ5.out.below hb6
  have HK6 : Hid (Is w6 p5 n5 c5 ys) := HK5.out.below hb6
  have HO6 : Hid (Is w6 q5 m5 d5 zs) := HO5.out.below hb6
  have HB6 : Hid (Below w.heap.size w w6) := HB5.out.trans (hb6.mono HB5.out.size)
  clear hbb hb6 HX5 HM5 HY5 HG5 HI5 HR5 HJ5 HQ5 HK5 HO5 HB5
  have x0 := HX6.out.c0
  have x1 := HX6.out.c1
  have m0 := HM6.out.c0
  have m1 := HM6.out.c1
  have y0 := HY6.out.c0
  have y1 := HY6.out.c1
  have g0 := HG6.out.c0
  have g1 := HG6.out.c1
  go_wp2_with fail
  obtain ⟨bh, hbh⟩ : ∃ bh, bh = w1.heap.size := ⟨_, rfl⟩
  obtain ⟨b2, hb2⟩ : ∃ b2, b2 = w4.heap.size := ⟨_, rfl⟩
  obtain ⟨bg, hbg⟩ : ∃ bg, bg = w5.heap.size := ⟨_, rfl⟩
  have HA6 : Hid (Abt w6 bh b2 bg p p4 p5 n5 c c4 c5 top T ws ys q q4 q5 m5 d d4 d5 rs zs) := by
    unfold Hid; rw [hbh, hb2, hbg]; exact ⟨HX6.out, HY6.out, HG6.out, HI6.out, HR6.out, HJ6.out, HQ6.out, HK6.out, HO6.out⟩
  rw [← hbh, ← hb2, ← hbg]
  clear hbh hb2 hbg x0 x1 m0 m1 y0 y1 g0 g1 HX6 HY6 HG6 HI6 HR6 HJ6 HQ6 HK6 HO6 HM6
  refine (implSameShape_c p4 n5 c4 top ws q4 m5 d4 rs p5 n5 c5 (T : Int) ys q5 m5 d5 zs w6 HA6.out.j (by omega) (by omega) HA6.out.q HA6.out.k (by omega) (by omega) HA6.out.o).mono ?_
  rintro e w7 ⟨b, rfl, hbb, hb7⟩
  obtain rfl : b = true := hbb.2 ⟨HG.out, HGY.out, HSH.out⟩
  have HA7 := Hid.mk' (HA6.out.below hb7)
  have HB7 : Hid (Below w.heap.size w w7) := HB6.out.trans (hb7.mono HB6.out.size)
  clear hbb hb7 HA6 HB6
  have x0 := HA7.out.x.c0
  have x1 := HA7.out.x.c1
  have g0 := HA7.out.g.c0
  have g1 := HA7.out.g.c1
  go_wp2_with fail
  clear x0 x1 g0 g1
  refine (specSameShape_c p n5 c top ws q m5 d rs p5 n5 c5 (T : Int) ys q5 m5 d5 zs w7 HA7.out.i (by omega) (by omega) HA7.out.r HA7.out.k (by omega) (by omega) HA7.out.o (by omega) (by omega)).mono ?_
  rintro e w8 ⟨b, rfl, hbb, hb8⟩
  obtain rfl : b = true := hbb.2 ⟨HG.out, HGY.out, HSH.out⟩
  have HA8 := Hid.mk' (HA7.out.below hb8)
  have HB8 : Hid (Below w.heap.size w w8) := HB7.out.trans (hb8.mono HB7.out.size)
  clear hbb hb8 HA7 HB7
  have g0 := HA8.out.g.c0
  have g1 := HA8.out.g.c1
  go_wp2_with fail
  clear g0 g1
  refine (implCollect_c p5 n5 c5 (T : Int) ys q5 m5 d5 zs w8 HA8.out.k (by omega) (by omega) HA8.out.o).mono ?_
  rintro e w9 ⟨p9, n9, c9, ys9, t9, q9, m9, d9, zs9, code9, rfl, hres, hi9, hz9, -, hb9⟩
  obtain ⟨-, -, rfl, rfl, rfl, rfl⟩ := CoRes.again HG.out HRES.out hres
  obtain rfl : n9 = n5 := by rw [← hi9.len, ← HA8.out.k.len]
  obtain rfl : m9 = m5 := by rw [← hz9.len, ← HA8.out.o.len]
  obtain ⟨W9, hW9⟩ : ∃ W9, W9 = w9.alloc (.cells #[.slice p9 n9 c9, .int .i64 (T : Int)] 25) := ⟨_, rfl⟩
  have hbW9 : Below w9.heap.size w9 W9 := by rw [hW9]; exact below1 _ _
  have hbC9 : Below w8.heap.size w8 W9 := hb9.trans (hbW9.mono hb9.size)
  have HA9 := Hid.mk' (HA8.out.below hbC9)
  have HB9 : Hid (Below w.heap.size w W9) := HB8.out.trans (hbC9.mono HB8.out.size)
  have HN9 : Hid (Bx W9 w9.heap.size p9 n9 c9 (T : Int)) := by unfold Hid; rw [hW9]; exact Bx.new _ _ _ _ _ _
  have HK9 : Hid (Is W9 p9 n9 c9 ys9) := hi9.below hbW9
  have HO9 : Hid (Is W9 q9 m9 d9 zs9) := hz9.below hbW9
  have g0 := HA9.out.g.c0
  have g1 := HA9.out.g.c1
  rw [hW9] at g0 g1
  clear hres hi9 hz9 hb9 hbW9 hbC9 HA8 HB8
  go_wp2_with fail
  rw [← hW9]
  clear hW9 g0 g1
  refine (sameN_c p9 p5 n9 c9 c5 ys9 ys9 W9 HK9.out HA9.out.k (fun _ _ => rfl)).mono ?_
  rintro e w10 ⟨rfl, hb10⟩
  have HA10 := Hid.mk' (HA9.out.below hb10)
  have HB10 : Hid (Below w.heap.size w w10) := HB9.out.trans (hb10.mono HB9.out.size)
  have HN10 : Hid (Bx w10 w9.heap.size p9 n9 c9 (T : Int)) := HN9.out.below hb10
  have HO10 : Hid (Is w10 q9 m9 d9 zs9) := HO9.out.below hb10
  clear hb10 HA9 HB9 HN9 HO9 HK9
  go_wp2_with fail
  refine (sameN_c q9 q5 m9 d9 d5 zs9 zs9 w10 HO10.out HA10.out.o (fun _ _ => rfl)).mono ?_
  rintro e w11 ⟨rfl, hb11⟩
  have HA11 := Hid.mk' (HA10.out.below hb11)
  have HB11 : Hid (Below w.heap.size w w11) := HB10.out.trans (hb11.mono HB10.out.size)
  have HN11 : Hid (Bx w11 w9.heap.size p9 n9 c9 (T : Int)) := HN10.out.below hb11
  have g0 := HA11.out.g.c0
  have g1 := HA11.out.g.c1
  have n0 := HN11.out.c0
  have n1 := HN11.out.c1
  clear hb11 HA10 HB10 HN10 HO10
  have kc := fun (w : World) (C : Array Value) (n c : Nat) => Lib.run_convert_bytes_const (P := Tryd.prog) w 22 5 C n c Tryd.underlying22 Tryd.underlying5
  have kc2 := fun (C D : Array Value) (n c : Nat) (k : Nat × Nat) => Go.Joins.run_convert_bytes_const_at (P := Tryd.prog) (w11.alloc (.cells D 5 k)) 22 5 C n c (w11.heap.size + 1) (by simp) Tryd.underlying22 Tryd.underlying5
  obtain ⟨W12, hW12⟩ : ∃ W12, W12 = ((w11.alloc (.cells #[.int .u8 97] 5 (1, 2))).alloc (.cells #[.int .u8 98, .int .u8 99] 5 (2, 3))).alloc (.cells #[.slice (some ⟨w11.heap.size, 0, none⟩) 1 1, .slice (some ⟨w11.heap.size + 1, 0, none⟩) 2 2] 22) := ⟨_, rfl⟩
  have hbW12 : Below w11.heap.size w11 W12 := by rw [hW12]; exact below3 _ _ _ _
  have HNM : Hid (Nm W12 (some ⟨w11.heap.size + 1 + 1, 0, none⟩) 2 2 nmZ) := by unfold Hid; rw [hW12]; exact names_nm w11
  have HA12 := Hid.mk' (HA11.out.below hbW12)
  have HB12 : Hid (Below w.heap.size w W12) := HB11.out.trans (hbW12.mono HB11.out.size)
  have HTB : Hid (Tab W12) := HT0.out.low HB12.out
  go_wp2_with fail
  rw [← hW12]
  obtain ⟨nb, hnb⟩ : ∃ nb, nb = w11.heap.size + 1 + 1 := ⟨_, rfl⟩
  rw [← hnb] at HNM ⊢
  clear hW12 hnb kc kc2 g0 g1 n0 n1 hbW12 HA11 HB11 HN11 hnn hmm htt
  go_loopw [17] (fun iv wr => ∃ i : Nat, i ≤ m9 ∧ iv = .int .i64 i ∧ Hid (Below W12.heap.size W12 wr)) (fun iv _ => m9 - (intOf iv).toNat)
  case atStart => exact ⟨0, Nat.zero_le _, rfl, Below.refl _ _⟩
  case round =>
    obtain ⟨i, hi, rfl, hB⟩ := hrel
    by_cases hlt : i < m9
    · have HA := Hid.mk' (HA12.out.below hB.out)
      have HNr : Hid (Nm wr (some ⟨nb, 0, none⟩) 2 2 nmZ) := HNM.out.below hB.out
      have HTr : Hid (Tab wr) := HTB.out.low hB.out
      have hrl := HA.out.q.len
      have hzl := HA.out.o.len
      obtain ⟨qb, qo, rfl, hqb, hq⟩ := HA.out.q.cells (by omega)
      obtain ⟨ob, oo, rfl, hob, ho⟩ := HA.out.o.cells (by omega)
      have hq := hq i hlt
      have ho := ho i hlt
      have hxr := HA.out.q.rng i
      have hyr := HA.out.o.rng i
      have hgx : GoodR ws top [rs.getD i 0] := GoodR.single HG.out (by omega)
      have hgy : GoodR ys9 (T : Int) [zs9.getD i 0] := GoodR.single HGY.out (by omega)
      have hsw : swZ nmZ ys9 (zs9.getD i 0) = swZ nmZ ws (rs.getD i 0) := by rw [HZS.out]; exact HF.out.shown nmZ (by omega)
      have hpos : 0 < (swZ nmZ ws (rs.getD i 0)).length := swZ_pos hgx
      generalize rs.getD i 0 = x at hq hxr hgx hsw hpos
      generalize zs9.getD i 0 = y at ho hyr hgy hsw
      obtain ⟨sh, hsh⟩ : ∃ sh, swZ nmZ ws x = sh := ⟨_, rfl⟩
      rw [hsh] at hsw hpos
      obtain ⟨L, hL⟩ : ∃ L, sh.length = L := ⟨_, rfl⟩
      rw [hL] at hpos
      have HSH1 : Hid (swZ nmZ ws x = sh) := hsh
      have HSH2 : Hid (swZ nmZ ys9 y = sh) := hsw
      have HL : Hid (sh.length = L) := hL
      have HGX : Hid (GoodR ws top [x]) := hgx
      have HGYY : Hid (GoodR ys9 (T : Int) [y]) := hgy
      have hL0 : ((L : Int) == 0) = false := by simp; omega
      have SK : Hid (∀ wx, Below wr.heap.size wr wx → ((wx.cell? ⟨b2, 0, none⟩ = some (.slice p4 n9 c4) ∧ wx.cell? ⟨b2, 1, none⟩ = some (.int .i64 top)) ∧ (wx.cell? ⟨bg, 0, none⟩ = some (.slice p5 n9 c5) ∧ wx.cell? ⟨bg, 1, none⟩ = some (.int .i64 (T : Int)))) ∧ wx.cell? ⟨qb, qo + i, none⟩ = some (.int .i64 x) ∧ wx.cell? ⟨ob, oo + i, none⟩ = some (.int .i64 y)) :=
        fun wx hb => ⟨⟨⟨(HA.out.y.below hb).c0, (HA.out.y.below hb).c1⟩, (HA.out.g.below hb).c0, (HA.out.g.below hb).c1⟩, by rw [hb.cell (p := ⟨qb, qo + i, none⟩) hqb]; exact hq, by rw [hb.cell (p := ⟨ob, oo + i, none⟩) hob]; exact ho⟩
      clear hgx hgy hsw hsh hL hq ho hqb hob
      go_wp2_with fail
      have HCUR : Hid (Below wr.heap.size wr wr.drew) := below_drew (Below.refl _ _)
      go_region_held (fun wx => ((wx.cell? ⟨b2, 0, none⟩ = some (.slice p4 n9 c4) ∧ wx.cell? ⟨b2, 1, none⟩ = some (.int .i64 top)) ∧ (wx.cell? ⟨bg, 0, none⟩ = some (.slice p5 n9 c5) ∧ wx.cell? ⟨bg, 1, none⟩ = some (.int .i64 (T : Int)))) ∧ wx.cell? ⟨qb, qo + i, none⟩ = some (.int .i64 x) ∧ wx.cell? ⟨ob, oo + i, none⟩ = some (.int .i64 y)) (exact SK.out _ HCUR.out) (first
        | (go_at_call 12; with_reducible (refine (implShowWord_c p4 n9 c4 top x ws (some ⟨nb, 0, none⟩) 2 2 nmZ _ ?y1 (by omega) (by omega) hxr ?y2 nmZ_len ?y3).mono ?_); (case y1 => exact HA.out.j.below HCUR.out); (case y2 => exact HNr.out.below HCUR.out); (case y3 => exact HTr.out.low HCUR.out); intro e wx hs; obtain ⟨pa, ca, rfl, hby, hb⟩ := SwP.some hs HGX.out nmZ_rg HSH1.out HL.out; have HVA := Hid.mk' hby; have HCUR := Hid.mk' (HCUR.out.trans (hb.mono HCUR.out.size)); clear hby hb hs)
        | (go_at_call 12; with_reducible (refine (implShowWord_c p5 n9 c5 (T : Int) y ys9 (some ⟨nb, 0, none⟩) 2 2 nmZ _ ?z1 (by omega) (by omega) hyr ?z2 nmZ_len ?z3).mono ?_); (case z1 => exact HA.out.k.below HCUR.out); (case z2 => exact HNr.out.below HCUR.out); (case z3 => exact HTr.out.low HCUR.out); intro e wx hs; obtain ⟨pb, cb, rfl, hby, hb⟩ := SwP.some hs HGYY.out nmZ_rg HSH2.out HL.out; have HVB := Hid.mk' hby; have HVA := Hid.mk' (HVA.out.below hb); have HCUR := Hid.mk' (HCUR.out.trans (hb.mono HCUR.out.size)); clear hby hb hs)
        | (go_at_call 11; refine (sameB_c _ _ L _ _ sh _ HVA.out HVB.out).mono ?_; rintro e wx ⟨rfl, hb⟩; have HVA := Hid.mk' (HVA.out.below hb); have HCUR := Hid.mk' (HCUR.out.trans (hb.mono HCUR.out.size)); clear hb))
      all_goals go_wp2_with fail
      all_goals exact ⟨⟨i + 1, by omega, by go_num, hB.out.trans (HCUR.out.mono hB.out.size)⟩, by simp [intOf]; omega⟩
    · obtain rfl : i = m9 := by omega
      go_wp2_with fail
      go_ret
      exact ⟨rfl, HB12.out.trans (hB.out.mono HB12.out.size)⟩
end Go.Proofs.YtmmkpmgidoelpaaDoor.Hp
