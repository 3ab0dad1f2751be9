import Derived.Test.YtkkmoaidbmnolaaGreatDoorEv
import Derived.Test.YtkkmoaidbmnolaaGreatDoorE9
import Derived.Deep.CutBlock
namespace Go.Proofs.YtkkmoaidbmnolaaGreatDoor
open Go.RowKit Ch1
/-- At the heads of the loops, and behind them. -/
def ScI (w : World) (B cn : Nat) (g : Int) (r2 : List Int) (bad2 : Bool) (gk : Nat) (iv : Value) (wr : World) : Prop :=
  ∃ i q cc vals rest bad, i + gk = cn ∧ iv = .int .i64 i ∧ Hid (Sc w B cn g r2 bad2 i q cc vals rest bad wr)
def ScX (w : World) (B cn : Nat) (g : Int) (r2 : List Int) (bad2 : Bool) (wr : World) : Prop :=
  ∃ i q cc vals rest bad, i ≤ cn ∧ Hid (Sc w B cn g r2 bad2 i q cc vals rest bad wr) ∧ Hid (bad = false → i = cn)
def SdI (b k : Nat) (r3 : List Int) (bad3 : Bool) (wO : World) (gk : Nat) (dvv iv : Value) (wq : World) : Prop :=
  ∃ j pd cd dv rest bad, j + gk = k ∧ dvv = .slice pd j cd ∧ iv = .int .i64 j ∧ Hid (Sd b k r3 bad3 wO j pd cd dv rest bad wq)
def SdX (b k : Nat) (r3 : List Int) (bad3 : Bool) (wO : World) (dvv : Value) (wq : World) : Prop :=
  ∃ j pd cd dv rest bad, j ≤ k ∧ dvv = .slice pd j cd ∧ Hid (Sd b k r3 bad3 wO j pd cd dv rest bad wq) ∧ Hid (bad = false → j = k)
def SfI (w : World) (B M fn : Nat) (g : Int) (r5 : List Int) (bad5 : Bool) (i : Nat) (q : Option Addr) (cc : Nat) (vals : List Value) (K : List (List Dt) → Prop) (gk : Nat) (iv : Value) (wr : World) : Prop :=
  ∃ j q2 d2 fv rest bad, j + gk = fn ∧ iv = .int .i64 j ∧ Hid (Sf w B M fn g r5 bad5 i q cc vals K j q2 d2 fv rest bad wr)
def SfX (w : World) (B M fn : Nat) (g : Int) (r5 : List Int) (bad5 : Bool) (i : Nat) (q : Option Addr) (cc : Nat) (vals : List Value) (K : List (List Dt) → Prop) (wr : World) : Prop :=
  ∃ j q2 d2 fv rest bad, j ≤ fn ∧ Hid (Sf w B M fn g r5 bad5 i q cc vals K j q2 d2 fv rest bad wr) ∧ Hid (bad = false → j = fn)
def SgI (b k : Nat) (par : Int) (r3 : List Int) (bad3 : Bool) (wO : World) (gk : Nat) (iv : Value) (wq : World) : Prop :=
  ∃ j fp fc bs rest bad, j + gk = k ∧ iv = .int .i64 j ∧ Hid (Sg b k par r3 bad3 wO j fp fc bs rest bad wq)
def SgX (b k : Nat) (par : Int) (r3 : List Int) (bad3 : Bool) (wO : World) (wq : World) : Prop :=
  ∃ j fp fc bs rest bad, j ≤ k ∧ Hid (Sg b k par r3 bad3 wO j fp fc bs rest bad wq) ∧ Hid (bad = false → j = k)
def SiI (b k : Nat) (par : Int) (fp : Option Addr) (fn fc : Nat) (bs : List Bool) (r3 : List Int) (bad3 : Bool) (wO : World) (gk : Nat) (iv : Value) (wq : World) : Prop :=
  ∃ j cp cc is rest bad, j + gk = k ∧ iv = .int .i64 j ∧ Hid (Si b k par fp fn fc bs r3 bad3 wO j cp cc is rest bad wq)
def SiX (b k : Nat) (par : Int) (fp : Option Addr) (fn fc : Nat) (bs : List Bool) (r3 : List Int) (bad3 : Bool) (wO : World) (wq : World) : Prop :=
  ∃ j cp cc is rest bad, j ≤ k ∧ Hid (Si b k par fp fn fc bs r3 bad3 wO j cp cc is rest bad wq) ∧ Hid (bad = false → j = k)
theorem MdV.same {m : Md} {q q2 : Option Addr} {i cc j d2 : Nat} {wB wr : World} (h : MdV m (.agg #[.slice q i cc, .int .i64 m.globals, .slice q2 j d2]) wB wr) (hok : MdOk m) : Mo wr q i cc q2 j d2 m := by
  obtain ⟨cp1, cn1, cc1, fp1, fn1, fc1, he, hMo, hFi⟩ := h.mo hok
  cases he
  exact hMo
/-- What is no image of a good module is not what is written of it. -/
theorem enc_no {xs : List Int} {m : Md} {w w' : World} {e : Ending} (h : EmP m w w' e) (hno : ¬ (GoodM m ∧ xs = imZ m)) (h0 : 0 < xs.length) (hr : Rg (imZ m)) : ∃ v ys, e = .returned v ∧ (convert 22 9 v).run Tryz.prog w' = .ok (.string (strOfNums ys)) w' ∧ Rg ys ∧ ys ≠ xs ∧ Below w.heap.size w w' := by
  obtain ⟨⟨hn, rfl⟩ | ⟨hg, v, rfl, ho⟩, hb⟩ := h
  · refine ⟨_, [], rfl, ?_, fun x hx => (by cases hx), fun e => (by subst e; exact absurd h0 (Nat.lt_irrefl 0)), hb⟩
    rw [run_convert_bytes_nil (P := Tryz.prog) w' 22 5 Tryz.underlying22 Tryz.underlying5 _ _ 9 Tryz.underlying9]
    rfl
  · obtain ⟨tp, tc, rfl, hby, _⟩ := ho.by_ (rg_getD hr)
    exact ⟨_, imZ m, rfl, conv_by hby (by unfold imZ bdZ; simp), hr, fun e => hno ⟨hg, e.symm⟩, hb⟩
theorem str_ne {xs ys : List Int} (hx : Rg xs) (hy : Rg ys) (h : ys ≠ xs) : ((strOfNums ys).toList == (strOfNums xs).toList) = false := by
  rw [beq_eq_false_iff_ne]
  intro e
  rw [ByteArray.toList_eq, ByteArray.toList_eq, strOfNums_data, strOfNums_data] at e
  have e2 := congrArg nums e
  rw [nums_strI hy, nums_strI hx] at e2
  exact h e2
set_option maxRecDepth 20000 in
set_option maxHeartbeats 8000000 in
theorem specDecode_long (p : Option Addr) (n c : Nat) (xs : List Int) (w : World) (h : By w p n c xs) (hn : n ≤ 1048576) (h4 : 4 ≤ n) :
    Calls Tryz.prog 4 #[.slice p n c] w fun e w' => SpP xs w w' e := by
  have HY := Hid.mkD h
  clear h
  obtain ⟨W, hW⟩ : ∃ W, W = ((w.alloc (.cells #[.slice none 0 0, .int .i64 0, .slice none 0 0] 26)).alloc (.cells #[.slice p n c, .int .i64 4, .bool false] 37)).alloc (.cells #[.slice none 0 0, .int .i64 0, .slice none 0 0] 26) := ⟨_, rfl⟩
  have hsz : W.heap.size = w.heap.size + 3 := by rw [hW]; simp
  have HBW : Hid (Below w.heap.size w W) := by unfold Hid; rw [hW]; exact below3 w _ _ _
  have HZ : Hid (W.heap[w.heap.size]? = some (.cells #[.slice none 0 0, .int .i64 0, .slice none 0 0] 26)) := by unfold Hid; rw [hW]; exact (alloc3 w _ _ _).1
  have HM : Hid (W.heap[w.heap.size + 1 + 1]? = some (.cells #[.slice none 0 0, .int .i64 0, .slice none 0 0] 26)) := by unfold Hid; rw [hW]; exact (alloc3 w _ _ _).2.2
  have HR : Hid (RsE W (w.heap.size + 1) (xs.drop 4) false) := by
    refine ⟨p, n, c, xs, 4, ⟨by rw [hW]; exact (alloc3 w _ _ _).2.1, HY.out.below HBW.out, fun a ha h0 => ?_, h4, hn⟩, rfl⟩
    have := HY.out.old a ha h0
    omega
  go_enter Tryz.func4, Tryz.ntmps4
  go_wp2_with fail
  rw [← hW]
  clear hW
  refine (l4num_u (w.heap.size + 1) 2 _ false _ HR.out (Or.inr rfl)).mono ?_
  rintro e w1 ⟨g, r1, bad1, rfl, hg, hs1, hR1, hgood1, hbad1⟩
  have HS1 : Hid (Sr (w.heap.size + 1) W w1) := hs1
  have HM1 : Hid (w1.heap[w.heap.size + 1 + 1]? = some (.cells #[.slice none 0 0, .int .i64 0, .slice none 0 0] 26)) := (hs1.block _ (by omega) (by omega)).trans HM.out
  have HR1 : Hid (RsE w1 (w.heap.size + 1) r1 bad1) := hR1
  have HG1 := Hid.mkD hgood1
  have HA1 := Hid.mkD hbad1
  obtain ⟨m0, m1, m2, mf0, mf1, mf2⟩ := cells3 HM1.out
  have h1s := hs1.size
  clear hs1 hR1 hgood1 hbad1
  go_wp2_with fail
  refine (l4num_u (w.heap.size + 1) 2 r1 bad1 _ (HR1.out.later (by omega) _ _) (Or.inr rfl)).mono ?_
  rintro e w2 ⟨cn, r2, bad2, rfl, hcn, hs2, hR2, hgood2, hbad2⟩
  have HG2 := Hid.mkD hgood2
  have HA2 := Hid.mkD hbad2
  have h2s := hs2.size
  rw [set_size] at h2s
  have HB2 : Hid (Below w.heap.size w w2) := ((HBW.out.trans (HS1.out.below (by omega) (by omega))).setCell (by simp only; omega) _).trans (hs2.below (by omega) (by rw [set_size]; omega))
  have HZ2 : Hid (w2.heap[w.heap.size]? = some (.cells #[.slice none 0 0, .int .i64 0, .slice none 0 0] 26)) :=
    ((hs2.block w.heap.size (by rw [set_size]; omega) (by omega)).trans (Below.heap_setCell _ _ _ _ (by simp only; omega))).trans ((HS1.out.block w.heap.size (by omega) (by omega)).trans HZ.out)
  have HC0 : Hid (Sc w w2.heap.size cn g r2 bad2 0 none 0 [] r2 bad2 w2) := ⟨(hs2.block _ (by rw [set_size]; omega) (by omega)).trans (set_one HM1.out _), ⟨rfl, Or.inl ⟨rfl, rfl⟩⟩, hR2, ⟨HB2.out, HZ2.out, by omega⟩, Nat.le_refl _, by omega, fun hb => ⟨hb, [], fun _ => w2.heap.size, rfl, rfl, OwL.nil _ _ _ (Nat.le_refl _), by simp⟩, fun hb => Or.inl hb⟩
  have hw2 : w.heap.size + 3 ≤ w2.heap.size := by omega
  clear hs2 hR2 hgood2 hbad2 m0 m1 m2 mf0 mf1 mf2 HB2 HZ2 HM1 HS1 HR1 HBW HZ HM HR h1s h2s hsz
  go_upto_block 0 with fail
  go_cut [7, 8, 9, 10] from 28 (fun _ _ _ _ wc => ScX w w2.heap.size cn g r2 bad2 wc)
  case first =>
    go_wp2_with fail
    go_loopg [7] cn (fun gk iv wr => ScI w w2.heap.size cn g r2 bad2 gk iv wr)
    case atStart => exact ⟨0, none, 0, [], r2, bad2, by omega, rfl, HC0⟩
    case round =>
      obtain ⟨wO, rfl⟩ : ∃ x : World, x = wr := ⟨wr, rfl⟩
      obtain ⟨i, q, cc, vals, rest, bad, hik, rfl, hC⟩ := hrel
      obtain ⟨p', n', c', xs', k', hRs, hrest⟩ := hC.out.rd
      obtain ⟨y0, y1, y2, yf0, yf1, yf2⟩ := cells3 hRs.blk
      clear hRs hrest
      have hsO := hC.out.siz
      by_cases hgo : i < cn ∧ bad = false
      · obtain ⟨hlt, rfl⟩ := hgo
        go_wp2_with fail
        refine (l4num_u (w.heap.size + 1) 2 rest false _ hC.out.rd (Or.inr rfl)).mono ?_
        rintro e w3 ⟨k, r3, bad3, rfl, hk, hs3, hR3, hgood3, hbad3⟩
        have HG3 := Hid.mkD hgood3
        have HA3 := Hid.mkD hbad3
        have HD0 : Hid (Sd (w.heap.size + 1) k r3 bad3 wO 0 none 0 [] r3 bad3 w3) := ⟨⟨rfl, Or.inl ⟨rfl, rfl⟩⟩, hR3, hs3, fun hb => ⟨hb, [], fun _ => wO.heap.size, rfl, rfl, OwD.nil _ _ hs3.size, by simp⟩, fun hb => Or.inl hb⟩
        clear hs3 hR3 hgood3 hbad3 y0 y1 y2 yf0 yf1 yf2
        have hbO : w.heap.size + 1 < wO.heap.size := by omega
        go_upto_block 2 with fail
        go_cut [8, 10] from 28 to 64 (fun dv _ wc => SdX (w.heap.size + 1) k r3 bad3 wO dv wc)
        case first =>
          go_wp2_with fail
          go_loopg [8, 10] k (fun gj dvv iv wq => SdI (w.heap.size + 1) k r3 bad3 wO gj dvv iv wq)
          case atStart => exact ⟨0, none, 0, [], r3, bad3, by omega, rfl, rfl, HD0⟩
          case round =>
            obtain ⟨j, pd, cd, dv, rest', bad', hjk, rfl, rfl, hD⟩ := hrel
            obtain ⟨p'', n'', c'', xs'', k'', hRs, hrest⟩ := hD.out.rd
            obtain ⟨y0, y1, y2, yf0, yf1, yf2⟩ := cells3 hRs.blk
            clear hRs hrest
            by_cases hgo2 : j < k ∧ bad' = false
            · obtain ⟨hlt2, rfl⟩ := hgo2
              go_wp2_with fail
              refine (l4datum_u (w.heap.size + 1) rest' false _ hD.out.rd).mono ?_
              rintro e w4 ⟨d, dq, dm, dc, r4, bad4, rfl, hs4, hR4, hgood4, hbad4⟩
              have HS4 := Hid.mkD hs4
              have HR4 := Hid.mkD hR4
              have HG4 := Hid.mkD hgood4
              have HA4 := Hid.mkD hbad4
              have HO4 := Hid.mkD (owns_sr hD.out.own hs4 hbO)
              have hw4 := Nat.le_trans hD.out.sr.size hs4.size
              clear hs4 hR4 hgood4 hbad4 y0 y1 y2 yf0 yf1 yf2
              go_wp2_with (at_builtin; refine appW_law _ rfl (.tmp 54) (.tmp 57) 39 41 rfl _ 4 48 Tryz.underlying39 infoD rfl (by decide) wO.heap.size (.slice pd j cd) j dv (by simp [Act.eval]) HO4.out #[.int .i64 d.kind, .int .i64 d.n, .slice dq dm dc, .int .i64 d.count] rfl (by simp [Value.oneCell']) (by simp [Act.eval]) (by unfold maxLen; omega) (by omega) hw4 ?_; intro v5 w5 ho5 hb5 hbt5; obtain ⟨p5, c5, rfl, hD5⟩ := hD.out.step hbO hlt2 HS4.out HR4.out (fun hb => ⟨rfl, (HG4.out hb).2⟩) HA4.out ho5 hb5 hbt5; have HD5 := Hid.mkD hD5; clear ho5 hb5 hbt5 hD5)
              go_roundg (k - (j + 1))
              case measure => omega
              case rel => exact ⟨j + 1, p5, c5, _, r4, bad4, by omega, rfl, by go_num, HD5⟩
            · have HX : Hid (bad' = false → j = k) := fun hb => by
                have : ¬ j < k := fun hl => hgo2 ⟨hl, hb⟩
                omega
              by_cases hlt2 : j < k
              · obtain rfl : bad' = true := by
                  cases bad'
                  · exact absurd ⟨hlt2, rfl⟩ hgo2
                  · rfl
                clear hgo2
                go_wp2_with fail
                go_meet
                case rel => exact ⟨j, pd, cd, dv, rest', true, by omega, rfl, hD, HX⟩
              · clear hgo2
                go_wp2_with fail
                go_meet
                case rel => exact ⟨j, pd, cd, dv, rest', bad', by omega, rfl, hD, HX⟩
        case rest =>
          obtain ⟨j, pd, cd, dv, r4, bad4, hjk, rfl, hD, hX⟩ := hcut
          have HMq := Hid.mkD ((hD.out.sr.block _ (by omega) (by omega)).trans hC.out.mx)
          have HOq := Hid.mkD (owns_sr hC.out.own hD.out.sr (show w.heap.size + 1 < w2.heap.size by omega))
          have hwq := Nat.le_trans hsO hD.out.sr.size
          have hlm := (Array.getElem?_eq_some_iff.1 HMq.out).1
          obtain ⟨m0, m1, m2, mf0, mf1, mf2⟩ := cells3 HMq.out
          have mm0 := fun o1 => cell_keepD (below1 wc o1) hlm m0
          go_wp2_with (at_builtin; refine appW_law _ rfl (.tmp 60) (.tmp 62) 23 39 rfl _ 1 24 Tryz.underlying23 infoC rfl (by decide) w2.heap.size (.slice q i cc) i vals (by simp [Act.eval]) HOq.out #[.slice pd j cd] rfl (by simp [Value.oneCell']) (by simp [Act.eval]) (by unfold maxLen; omega) (by omega) hwq ?_; intro v5 w5 ho5 hb5 hbt5; obtain ⟨p5, c5, rfl, hC5⟩ := hC.out.step hlt (fun hb => ⟨rfl, (HG3.out hb).2⟩) HA3.out hD.out hX.out ho5 hb5 hbt5; have HC5 := Hid.mkD hC5; have HM5 := Hid.mkD ((hb5.block _ (by omega)).trans HMq.out); obtain ⟨v0, v1, v2, vf0, vf1, vf2⟩ := cells3 HM5.out; clear ho5 hb5 hbt5 hC5)
          go_roundg (cn - (i + 1))
          case measure => omega
          case rel => exact ⟨i + 1, p5, c5, _, r4, bad4, by omega, by go_num, HC5⟩
      · have HX : Hid (bad = false → i = cn) := fun hb => by
          have : ¬ i < cn := fun hl => hgo ⟨hl, hb⟩
          omega
        by_cases hlt : i < cn
        · obtain rfl : bad = true := by
            cases bad
            · exact absurd ⟨hlt, rfl⟩ hgo
            · rfl
          clear hgo
          go_wp2_with fail
          go_meet
          case rel => exact ⟨i, q, cc, vals, rest, true, by omega, hC, HX⟩
        · clear hgo
          go_wp2_with fail
          go_meet
          case rel => exact ⟨i, q, cc, vals, rest, bad, by omega, hC, HX⟩
  case rest =>
    obtain ⟨i, q, cc, vals, r4, bad4, hi, hC, hX⟩ := hcut
    have HO := Hid.mkD (hC.out.out hX.out (fun hb => ⟨rfl, (HG1.out hb).2⟩) HA1.out HG2.out HA2.out)
    go_wp2_with fail
    refine (l4num_u (w.heap.size + 1) 2 r4 bad4 _ hC.out.rd (Or.inr rfl)).mono ?_
    rintro e w5 ⟨fn, r5, bad5, rfl, hfn, hs5, hR5, hgood5, hbad5⟩
    have HG5 := Hid.mkD hgood5
    have HA5 := Hid.mkD hbad5
    have HF0 := Hid.mkD (hC.out.funcs (zs := xs.drop 4) hs5 HO.out.1 hR5 hgood5)
    have hw5 : w2.heap.size ≤ w5.heap.size := HF0.out.lm
    clear hs5 hR5 hgood5 hbad5
    go_upto_block 4 with fail
    go_cut [11, 12, 13, 14, 15, 16, 17, 18, 19] from 67 (fun _ _ _ _ _ _ _ _ _ wd => SfX w w2.heap.size w5.heap.size fn g r5 bad5 i q cc vals (fun cs => rsMc (xs.drop 4) = some (((g : Int), cs), r4)) wd)
    case first =>
      go_wp2_with fail
      go_loopg [11] fn (fun gk iv wr => SfI w w2.heap.size w5.heap.size fn g r5 bad5 i q cc vals (fun cs => rsMc (xs.drop 4) = some (((g : Int), cs), r4)) gk iv wr)
      case atStart => exact ⟨0, none, 0, [], r5, bad5, by omega, rfl, HF0⟩
      case round =>
        obtain ⟨wO, rfl⟩ : ∃ x : World, x = wr := ⟨wr, rfl⟩
        obtain ⟨j, q2, d2, fv, rest, bad, hjk, rfl, hF⟩ := hrel
        obtain ⟨p', n', c', xs', k', hRs, hrest⟩ := hF.out.rd
        obtain ⟨y0, y1, y2, yf0, yf1, yf2⟩ := cells3 hRs.blk
        clear hRs hrest
        have hsO := hF.out.siz
        by_cases hgo : j < fn ∧ bad = false
        · obtain ⟨hlt, rfl⟩ := hgo
          obtain ⟨W1, hW1⟩ : ∃ W1, W1 = wO.alloc (.cells #[.int .i64 0, .slice none 0 0, .slice none 0 0] 46) := ⟨_, rfl⟩
          have HX1 : Hid (W1.heap[wO.heap.size]? = some (.cells #[.int .i64 0, .slice none 0 0, .slice none 0 0] 46)) := by unfold Hid; rw [hW1]; exact Go.Deep.blk_alloc_new _ _
          have HB1 : Hid (Below wO.heap.size wO W1) := by unfold Hid; rw [hW1]; exact below1 _ _
          have hW1s : W1.heap.size = wO.heap.size + 1 := by rw [hW1]; simp
          have hbO : w.heap.size + 1 < wO.heap.size := by omega
          go_wp2_with fail
          rw [← hW1]
          clear hW1
          refine (l4num_u (w.heap.size + 1) 1 rest false _ (hF.out.rd.below HB1.out) (Or.inl rfl)).mono ?_
          rintro e w6 ⟨par, r6, bad6, rfl, hpar, hs6, hR6, hgood6, hbad6⟩
          have HG6 := Hid.mkD hgood6
          have HA6 := Hid.mkD hbad6
          have HR6 := Hid.mkD hR6
          have HS6 := Hid.mkD ((Sr.of_below HB1.out).trans hs6)
          have HX6 := Hid.mkD ((hs6.block wO.heap.size (by omega) (by omega)).trans HX1.out)
          have h6s := (Array.getElem?_eq_some_iff.1 HX6.out).1
          obtain ⟨x0, x1, x2, xf0, xf1, xf2⟩ := cells3 HX6.out
          clear hs6 hR6 hgood6 hbad6 y0 y1 y2 yf0 yf1 yf2 HX1 HB1 hW1s
          go_wp2_with fail
          refine (l4num_u (w.heap.size + 1) 1 r6 bad6 _ (HR6.out.later (by omega) _ _) (Or.inl rfl)).mono ?_
          rintro e w7 ⟨k1, r7, bad7, rfl, hk1, hs7, hR7, hgood7, hbad7⟩
          have HG7 := Hid.mkD hgood7
          have HA7 := Hid.mkD hbad7
          have HGG : Hid (Sg (w.heap.size + 1) k1 par r7 bad7 wO 0 none 0 [] r7 bad7 w7) := ⟨(hs7.block _ (by rw [set_size]; exact h6s) (by omega)).trans (set_zero HX6.out _), ⟨rfl, Or.inl ⟨rfl, rfl⟩⟩, rfl, hR7, (HS6.out.later (Nat.le_refl _) _ _).trans hs7, fun hb => ⟨hb, by simp⟩, fun hb => Or.inl hb⟩
          clear hs7 hR7 hgood7 hbad7 x0 x1 x2 xf0 xf1 xf2 HR6 HS6 HX6 h6s
          go_upto_block 6 with fail
          go_cut [14, 15] from 67 to 139 (fun _ _ wc => SgX (w.heap.size + 1) k1 par r7 bad7 wO wc)
          case first =>
            go_wp2_with fail
            go_loopg [14] k1 (fun gj iv wq => SgI (w.heap.size + 1) k1 par r7 bad7 wO gj iv wq)
            case atStart => exact ⟨0, none, 0, [], r7, bad7, by omega, rfl, HGG⟩
            case round =>
              obtain ⟨jj, fp, fc, bs, rest', bad', hjj, rfl, hG⟩ := hrel
              obtain ⟨p'', n'', c'', xs'', k'', hRs, hrest⟩ := hG.out.rd
              obtain ⟨y0, y1, y2, yf0, yf1, yf2⟩ := cells3 hRs.blk
              clear hRs hrest
              by_cases hgo2 : jj < k1 ∧ bad' = false
              · obtain ⟨hlt2, rfl⟩ := hgo2
                go_wp2_with fail
                refine (l4num_u (w.heap.size + 1) 1 rest' false _ hG.out.rd (Or.inl rfl)).mono ?_
                rintro e w8 ⟨z, r8, bad8, rfl, hz, hs8, hR8, hgood8, hbad8⟩
                have HS8 := Hid.mkD hs8
                have HR8 := Hid.mkD hR8
                have HG8 := Hid.mkD hgood8
                have HA8 := Hid.mkD hbad8
                have HO8 := Hid.mkD (owns_sr hG.out.own hs8 hbO)
                have hw8 := Nat.le_trans hG.out.sr.size hs8.size
                have hlf := (Array.getElem?_eq_some_iff.1 hG.out.fx).1
                have HX8 := Hid.mkD ((hs8.block _ hlf (by omega)).trans hG.out.fx)
                have hl8 := (Array.getElem?_eq_some_iff.1 HX8.out).1
                obtain ⟨x0, x1, x2, xf0, xf1, xf2⟩ := cells3 HX8.out
                have xx1 := fun o1 => cell_keepD (below1 w8 o1) hl8 x1
                clear hs8 hR8 hgood8 hbad8 y0 y1 y2 yf0 yf1 yf2
                go_wp2_with (at_builtin; refine appW_law _ rfl (.tmp 99) (.tmp 102) 43 4 rfl _ 1 1 Tryz.underlying43 infoBo rfl (by decide) wO.heap.size (.slice fp jj fc) jj (bs.map Value.bool) (by simp [Act.eval]) HO8.out #[.bool ((z : Int) == 1)] rfl (by simp [Value.oneCell']) (by simp [Act.eval]) (by unfold maxLen; omega) (by omega) hw8 ?_; intro v9 w9 ho9 hb9 hbt9; obtain ⟨p9, c9, rfl, hx9, hG9⟩ := hG.out.step hbO hlt2 HS8.out HR8.out (fun hb => ⟨rfl, (HG8.out hb).2⟩) HA8.out rfl ho9 hb9 hbt9; have HG9 := Hid.mkD hG9; obtain ⟨v0, v1, v2, vf0, vf1, vf2⟩ := cells3 hx9; clear ho9 hb9 hbt9 hG9 hx9)
                go_roundg (k1 - (jj + 1))
                case measure => omega
                case rel => exact ⟨jj + 1, p9, c9, _, r8, bad8, by omega, by go_num, HG9⟩
              · have HX : Hid (bad' = false → jj = k1) := fun hb => by
                  have : ¬ jj < k1 := fun hl => hgo2 ⟨hl, hb⟩
                  omega
                by_cases hlt9 : jj < k1
                · obtain rfl : bad' = true := by
                    cases bad'
                    · exact absurd ⟨hlt9, rfl⟩ hgo2
                    · rfl
                  clear hgo2
                  go_wp2_with fail
                  go_meet
                  case rel => exact ⟨jj, fp, fc, bs, rest', true, by omega, hG, HX⟩
                · clear hgo2
                  go_wp2_with fail
                  go_meet
                  case rel => exact ⟨jj, fp, fc, bs, rest', bad', by omega, hG, HX⟩
          case rest =>
            obtain ⟨wG, rfl⟩ : ∃ x : World, x = wc := ⟨wc, rfl⟩
            obtain ⟨m1, fp, fc, bs, r8, bad8, hm1, hG, hXG⟩ := hcut
            go_wp2_with fail
            refine (l4num_u (w.heap.size + 1) 2 r8 bad8 _ hG.out.rd (Or.inr rfl)).mono ?_
            rintro e w9 ⟨k2, r9, bad9, rfl, hk2, hs9, hR9, hgood9, hbad9⟩
            have HG9 := Hid.mkD hgood9
            have HA9 := Hid.mkD hbad9
            have HI0 : Hid (Si (w.heap.size + 1) k2 par fp m1 fc bs r9 bad9 wO 0 none 0 [] r9 bad9 w9) := ⟨(hs9.block _ (Array.getElem?_eq_some_iff.1 hG.out.fx).1 (by omega)).trans hG.out.fx, owns_sr hG.out.own hs9 hbO, hG.out.len, ⟨rfl, Or.inl ⟨rfl, rfl⟩⟩, rfl, hR9, hG.out.sr.trans hs9, fun hb => ⟨hb, by simp⟩, fun hb => Or.inl hb⟩
            clear hs9 hR9 hgood9 hbad9
            go_upto_block 8 with fail
            go_cut [16, 17, 18, 19] from 67 to 139 (fun _ _ _ _ wc => SiX (w.heap.size + 1) k2 par fp m1 fc bs r9 bad9 wO wc)
            case first =>
              go_wp2_with fail
              go_loopg [16] k2 (fun gj iv wq => SiI (w.heap.size + 1) k2 par fp m1 fc bs r9 bad9 wO gj iv wq)
              case atStart => exact ⟨0, none, 0, [], r9, bad9, by omega, rfl, HI0⟩
              case round =>
                obtain ⟨jj, cp, c2, is, rest', bad', hjj, rfl, hI⟩ := hrel
                obtain ⟨p'', n'', c'', xs'', k'', hRs, hrest⟩ := hI.out.rd
                obtain ⟨y0, y1, y2, yf0, yf1, yf2⟩ := cells3 hRs.blk
                clear hRs hrest
                by_cases hgo2 : jj < k2 ∧ bad' = false
                · obtain ⟨hlt2, rfl⟩ := hgo2
                  go_wp2_with fail
                  refine (l4num_u (w.heap.size + 1) 1 rest' false _ hI.out.rd (Or.inl rfl)).mono ?_
                  rintro e wa ⟨za, ra, bada, rfl, hza, hsa, hRa, hgooda, hbada⟩
                  have HSa := Hid.mkD hsa
                  have HRa := Hid.mkD hRa
                  have HGa := Hid.mkD hgooda
                  have HAa := Hid.mkD hbada
                  clear hsa hRa hgooda hbada y0 y1 y2 yf0 yf1 yf2
                  go_wp2_with fail
                  refine (l4num_u (w.heap.size + 1) 2 ra bada _ HRa.out (Or.inr rfl)).mono ?_
                  rintro e wb ⟨zb, rb, badb, rfl, hzb, hsb, hRb, hgoodb, hbadb⟩
                  have HSb := Hid.mkD (HSa.out.trans hsb)
                  have HRb := Hid.mkD hRb
                  have HGb := Hid.mkD hgoodb
                  have HAb := Hid.mkD hbadb
                  clear hsb hRb hgoodb hbadb
                  go_wp2_with fail
                  refine (l4num_u (w.heap.size + 1) 1 rb badb _ HRb.out (Or.inl rfl)).mono ?_
                  rintro e w8 ⟨zd, r8', bad8', rfl, hzd, hsd, hRd, hgoodd, hbadd⟩
                  have HS8 := Hid.mkD (HSb.out.trans hsd)
                  have HR8 := Hid.mkD hRd
                  have HT := Hid.mkD (three (fun hb => ⟨rfl, (HGa.out hb).2⟩) HAa.out HGb.out HAb.out hgoodd hbadd)
                  have HO8 := Hid.mkD (owns_sr hI.out.own HS8.out hbO)
                  have hw8 := Nat.le_trans hI.out.sr.size HS8.out.size
                  have hlf := (Array.getElem?_eq_some_iff.1 hI.out.fx).1
                  have HX8 := Hid.mkD ((HS8.out.block _ hlf (by omega)).trans hI.out.fx)
                  have hl8 := (Array.getElem?_eq_some_iff.1 HX8.out).1
                  obtain ⟨x0, x1, x2, xf0, xf1, xf2⟩ := cells3 HX8.out
                  have xx2 := fun o1 => cell_keepD (below1 w8 o1) hl8 x2
                  clear hsd hRd hgoodd hbadd
                  go_wp2_with (at_builtin; refine appW_law _ rfl (.tmp 126) (.tmp 131) 44 48 rfl _ 3 24 Tryz.underlying44 infoIn rfl (by decide) wO.heap.size (.slice cp jj c2) jj (iCells is) (by simp [Act.eval]) HO8.out #[.int .i64 za, .int .i64 zb, .int .i64 zd] rfl (by simp [Value.oneCell']) (by simp [Act.eval]) (by unfold maxLen; omega) (by omega) hw8 ?_; intro v9 wf ho9 hb9 hbt9; obtain ⟨p9, c9, rfl, hx9, hI9⟩ := hI.out.step (d := ⟨za, zb, zd⟩) hbO hlt2 HS8.out HR8.out HT.out.1 HT.out.2 ho9 hb9 hbt9; have HI9 := Hid.mkD hI9; obtain ⟨v0, v1, v2, vf0, vf1, vf2⟩ := cells3 hx9; clear ho9 hb9 hbt9 hI9 hx9)
                  go_roundg (k2 - (jj + 1))
                  case measure => omega
                  case rel => exact ⟨jj + 1, p9, c9, _, r8', bad8', by omega, by go_num, HI9⟩
                · have HX : Hid (bad' = false → jj = k2) := fun hb => by
                    have : ¬ jj < k2 := fun hl => hgo2 ⟨hl, hb⟩
                    omega
                  by_cases hlt9 : jj < k2
                  · obtain rfl : bad' = true := by
                      cases bad'
                      · exact absurd ⟨hlt9, rfl⟩ hgo2
                      · rfl
                    clear hgo2
                    go_wp2_with fail
                    go_meet
                    case rel => exact ⟨jj, cp, c2, is, rest', true, by omega, hI, HX⟩
                  · clear hgo2
                    go_wp2_with fail
                    go_meet
                    case rel => exact ⟨jj, cp, c2, is, rest', bad', by omega, hI, HX⟩
            case rest =>
              obtain ⟨m2, cp, c2, is, rA, badA, hm2, hI, hXI⟩ := hcut
              have HMq := Hid.mkD ((hI.out.sr.block _ (by omega) (by omega)).trans hF.out.mx)
              have HOq := Hid.mkD (owns_sr hF.out.own hI.out.sr (show w.heap.size + 1 < w2.heap.size by omega))
              have hwq := Nat.le_trans (Nat.le_trans hw5 hsO) hI.out.sr.size
              have hlm := (Array.getElem?_eq_some_iff.1 HMq.out).1
              obtain ⟨m0, m1', m2', mf0, mf1, mf2⟩ := cells3 HMq.out
              obtain ⟨x0, x1, x2, xf0, xf1, xf2⟩ := cells3 hI.out.fx
              have mm0 := fun o1 => cell_keepD (below1 wc o1) hlm m2'
              go_wp2_with (at_builtin; refine appW_law _ rfl (.tmp 135) (.tmp 137) 24 46 rfl _ 3 56 Tryz.underlying24 infoF rfl (by decide) w2.heap.size (.slice q2 j d2) j fv (by simp [Act.eval]) HOq.out #[.int .i64 par, .slice fp m1 fc, .slice cp m2 c2] rfl (by simp [Value.oneCell']) (by simp [Act.eval]) (by unfold maxLen; omega) (by omega) hwq ?_; intro v9 wf ho9 hb9 hbt9; obtain ⟨p9, c9, rfl, hx9, hF9⟩ := hF.out.step hlt (fun hb => ⟨rfl, (HG6.out hb).2⟩) HA6.out HG7.out HA7.out hG.out hXG.out HG9.out HA9.out hI.out hXI.out ho9 hb9 hbt9; have HF9 := Hid.mkD hF9; obtain ⟨v0, v1, v2, vf0, vf1, vf2⟩ := cells3 hx9; clear ho9 hb9 hbt9 hF9 hx9)
              go_roundg (fn - (j + 1))
              case measure => omega
              case rel => exact ⟨j + 1, p9, c9, _, rA, badA, by omega, by go_num, HF9⟩
        · have HX : Hid (bad = false → j = fn) := fun hb => by
            have : ¬ j < fn := fun hl => hgo ⟨hl, hb⟩
            omega
          by_cases hlt9 : j < fn
          · obtain rfl : bad = true := by
              cases bad
              · exact absurd ⟨hlt9, rfl⟩ hgo
              · rfl
            clear hgo
            go_wp2_with fail
            go_meet
            case rel => exact ⟨j, q2, d2, fv, rest, true, by omega, hF, HX⟩
          · clear hgo
            go_wp2_with fail
            go_meet
            case rel => exact ⟨j, q2, d2, fv, rest, bad, by omega, hF, HX⟩
    case rest =>
      obtain ⟨j, q2, d2, fv, rest, bad, hj, hF, hXF⟩ := hcut
      obtain ⟨p', n', c', xs', k', hRs, hrest⟩ := hF.out.rd
      obtain ⟨y0, y1, y2, yf0, yf1, yf2⟩ := cells3 hRs.blk
      obtain ⟨m0, m1, m2, mf0, mf1, mf2⟩ := cells3 hF.out.mx
      obtain ⟨z0, z1, z2, zf0, zf1, zf2⟩ := cells3 hF.out.ab.zero
      clear hRs hrest
      have HRG : Hid (Rg xs) := rg_of HY.out.rng
      cases bad
      · obtain rfl : j = fn := hXF.out rfl
        obtain ⟨cs, fs, hMd, hMV⟩ := hF.out.fin HG5.out
        have hok := rsMd_ok _ _ _ (fun x hx => HRG.out x (List.mem_of_mem_drop hx)) hMd
        obtain ⟨cp1, cn1, cc1, fp1, fn1, fc1, he, hMo, hFi⟩ := hMV.mo hok
        cases he
        have HMd := Hid.mkD hMd
        have HMV := Hid.mkD hMV
        have HOK := Hid.mkD hok
        have HMo := Hid.mkD hMo
        have HFi := Hid.mkD hFi
        have hcb := conv_by (HY.out.below (below_drewM hF.out.ab.bel)) (by omega)
        clear hMd hMV hok hMo hFi
        by_cases hG : GoodM ⟨cs, g, fs⟩ ∧ xs = imZ ⟨cs, g, fs⟩
        · have HGD := Hid.mkD hG
          have HLN : Hid (0 < xs.length) := by have := HY.out.len; unfold Hid; omega
          clear hG
          go_wp2_with fail
          go_region_with (go_at_call 14; refine (specEncode_c _ _ _ _ _ _ ⟨cs, g, fs⟩ _ (HMo.out.below (below_drewM (Below.refl _ _))) HFi.out).mono ?_; rintro e w6 ⟨⟨hn6, _⟩ | ⟨_, v6, rfl, ho6⟩, hb6⟩; (· exact absurd HGD.out.1 hn6); rw [← HGD.out.2] at ho6; obtain ⟨tp, tc, rfl, hby6, _⟩ := ho6.by_ (rg_getD HRG.out); have hcr := conv_by hby6 HLN.out; have hcb6 := conv_by (HY.out.below ((below_drewM hF.out.ab.bel).trans (hb6.mono hF.out.ab.bel.size))) (by omega); have HB6 := Hid.mkD ((below_drewM (Below.refl wc.heap.size wc)).trans hb6); obtain ⟨e0, e1, e2, ef0, ef1, ef2⟩ := (cells3 ((HB6.out.block _ (by have := hF.out.ab.siz; omega)).trans hF.out.ab.zero)); obtain ⟨f0, f1, f2, ff0, ff1, ff2⟩ := cells3 ((HB6.out.block _ (by have := hF.out.ab.siz; omega)).trans hF.out.mx); clear ho6 hby6 hb6)
          all_goals clear hcr hcb6 y0 y1 y2 yf0 yf1 yf2 m0 m1 m2 mf0 mf1 mf2 z0 z1 z2 zf0 zf1 zf2 hcb
          all_goals go_wp2_with fail
          all_goals exact bodyPost_ret (v := .tuple #[.agg #[.slice q i cc, .int .i64 (g : Int), .slice q2 j d2], .int .i64 0]) (by simp [results, Tryz.results4, go_sem, e0, e1, e2]) rfl (Or.inl ⟨⟨cs, g, fs⟩, q, i, cc, q2, j, d2, (rsMd_some HRG.out HMd.out).1 ⟨HGD.out.2, HGD.out.1⟩, rfl, (HMV.out.sr ((((Sr.of_below HB6.out).trans (Sr.set w.heap.size _ _ _)).trans (Sr.set w.heap.size _ _ _)).trans (Sr.set w.heap.size _ _ _)) (by omega)).same HOK.out, (((hF.out.ab.bel.trans (HB6.out.mono hF.out.ab.bel.size)).setCell (by simp) _).setCell (by simp) _).setCell (by simp) _⟩)
        · have HGD := Hid.mkD hG
          have HLN : Hid (0 < xs.length) := by have := HY.out.len; unfold Hid; omega
          have HRI : Hid (Rg (imZ ⟨cs, g, fs⟩)) := (bd_rg HMo.out).app (leZ_rg _ _)
          clear hG
          go_wp2_with fail
          go_region_with (go_at_call 14; refine (specEncode_c _ _ _ _ _ _ ⟨cs, g, fs⟩ _ (HMo.out.below (below_drewM (Below.refl _ _))) HFi.out).mono ?_; intro e w6 h6; obtain ⟨v6, ys, rfl, hcr, hry, hne, hb6⟩ := enc_no h6 HGD.out HLN.out HRI.out; have hsn := str_ne HRG.out hry hne; have hcb6 := conv_by (HY.out.below ((below_drewM hF.out.ab.bel).trans (hb6.mono hF.out.ab.bel.size))) (by omega); have HB6 := Hid.mkD ((below_drewM (Below.refl wc.heap.size wc)).trans hb6); obtain ⟨e0, e1, e2, ef0, ef1, ef2⟩ := (cells3 ((HB6.out.block _ (by have := hF.out.ab.siz; omega)).trans hF.out.ab.zero)); clear h6 hry hne hb6)
          all_goals clear hcr hcb6 y0 y1 y2 yf0 yf1 yf2 m0 m1 m2 mf0 mf1 mf2 z0 z1 z2 zf0 zf1 zf2 hcb
          all_goals go_wp2_with fail
          all_goals exact bodyPost_ret (v := .tuple #[.agg #[.slice none 0 0, .int .i64 0, .slice none 0 0], .int .i64 5]) (by simp [results, Tryz.results4, go_sem, e0, e1, e2]) rfl (Or.inr ⟨(rsMd_some HRG.out HMd.out).2 (fun hh => HGD.out ⟨hh.2, hh.1⟩), rfl, (((hF.out.ab.bel.trans (HB6.out.mono hF.out.ab.bel.size)).setCell (by simp) _).setCell (by simp) _).setCell (by simp) _⟩)
      · have HN : Hid (∀ m, ¬ RdIm xs m) := rsMd_none HRG.out (hF.out.non HG5.out HA5.out (fun hb => (HO.out.1 hb).elim fun L hL => hL.elim fun s hs => ⟨_, hs.2.2.2⟩) HO.out.2)
        have HBE := Hid.mkD hF.out.ab.bel
        clear HO m0 m1 m2 mf0 mf1 mf2
        go_wp2_with fail
        go_region
        all_goals go_wp2_with fail
        all_goals exact bodyPost_ret (v := .tuple #[.agg #[.slice none 0 0, .int .i64 0, .slice none 0 0], .int .i64 5]) (by simp [results, Tryz.results4, go_sem, z0, z1, z2]) rfl (Or.inr ⟨HN.out, rfl, below_drewM (((HBE.out.setCell (by simp) _).setCell (by simp) _).setCell (by simp) _)⟩)
end Go.Proofs.YtkkmoaidbmnolaaGreatDoor
