import Derived.Test.YtpfodinoeoejcaaC2
import Derived.Test.YtpfodinoeoejcaaH9
namespace Go.Proofs.Ytpfodinoeoejcaa
open Go.RowKit Ch2
/-- New places in a row of the call's own. -/
def Mv (w : World) (g T : Nat) (f : Nat → Int) : Prop := w.rowIs g 3 T (fun j => .int .i64 (f j))
theorem visits_take (ws : List Int) (s : Cs) (xs : List Int) (i : Nat) (h : i < xs.length) : visits ws s (xs.take (i + 1)) = visit ws (visits ws s (xs.take i)) (xs.getD i 0) := by
  unfold visits
  rw [List.take_add_one, List.getElem?_eq_getElem h, Option.toList_some, List.foldl_append]
  simp [List.getD, List.getElem?_eq_getElem h]
theorem visit_not {ws : List Int} {s : Cs} {x : Int} (h : ¬ (x % 4 = 1 ∧ s.mv (x / 4).toNat < 0)) : visit ws s x = s := by unfold visit; rw [if_neg h]
theorem visit_new {ws : List Int} {s : Cs} {x : Int} {m : Nat} (h1 : x % 4 = 1) (hm : (x / 4).toNat = m) (h2 : s.mv m < 0) : visit ws s x = ⟨fun q => if q = m then (s.top : Int) else s.mv q, s.top + (1 + cnt (ws.getD m 0)), s.ord ++ [m]⟩ := by
  unfold visit; rw [hm, if_pos ⟨h1, h2⟩]
theorem visit_len (ws : List Int) (s : Cs) (x : Int) : s.ord.length ≤ (visit ws s x).ord.length := by
  unfold visit; split
  · simp
  · exact Nat.le_refl _
theorem visits_len (ws : List Int) : ∀ (xs : List Int) (s : Cs), s.ord.length ≤ (visits ws s xs).ord.length
  | [], _ => Nat.le_refl _
  | x :: xs, s => Nat.le_trans (visit_len ws s x) (visits_len ws xs (visit ws s x))
/-- What the model's l2order answers. -/
def OrdP (ws rs : List Int) (T : Nat) (w w' : World) (e : Ending) : Prop := ∃ (K : Nat) (ov : Value), e = .returned (.tuple #[ov, .slice (some ⟨w.heap.size + 1, 0, none⟩) T T]) ∧ (stage ws rs K).ord.length = K ∧ Inv ws T (stage ws rs K) ∧ OwN w' (w.heap.size + 2) ov (stage ws rs K).ord ∧ Mv w' (w.heap.size + 1) T (stage ws rs K).mv ∧ Below w.heap.size w w'
/-- At the head of a round over words. -/
def OutR (ws rs : List Int) (T : Nat) (w : World) (p : Option Addr) (n c : Nat) (ov tv wv nv : Value) (wr : World) : Prop := ∃ (k : Nat) (s : Cs) (xs : List Int) (xp : Option Addr) (xl xc : Nat), k ≤ T ∧ k ≤ s.ord.length ∧ nv = .int .i64 k ∧ tv = .int .i64 (s.top : Int) ∧ wv = .slice xp xl xc ∧ Hid (Is w xp xl xc xs) ∧ Hid (∀ i, i < xl → WordOk ws T (xs.getD i 0)) ∧ Hid (visits ws s xs = stage ws rs k) ∧ Hid (Inv ws T s) ∧ Hid (OwN wr (w.heap.size + 2) ov s.ord) ∧ Hid (Mv wr (w.heap.size + 1) T s.mv) ∧ Hid (Bx wr w.heap.size p n c T) ∧ Hid (Below w.heap.size w wr)
/-- Inside: i words are gone through. -/
def InR (ws : List Int) (T : Nat) (w : World) (p : Option Addr) (n c : Nat) (s : Cs) (xs : List Int) (ov tv iv : Value) (wr : World) : Prop := ∃ (i : Nat) (s' : Cs), i ≤ xs.length ∧ iv = .int .i64 i ∧ tv = .int .i64 (s'.top : Int) ∧ s'.top ≤ T ∧ s'.ord.length ≤ T ∧ Hid (visits ws s (xs.take i) = s') ∧ Hid (Inv ws T s') ∧ Hid (OwN wr (w.heap.size + 2) ov s'.ord) ∧ Hid (Mv wr (w.heap.size + 1) T s'.mv) ∧ Hid (Bx wr w.heap.size p n c T) ∧ Hid (Below w.heap.size w wr)
set_option maxRecDepth 20000 in
set_option maxHeartbeats 8000000 in
theorem l2order_c (p : Option Addr) (n c T : Nat) (ws : List Int) (rp : Option Addr) (rn rc : Nat) (rs : List Int) (w : World) (hI : Is w p n c ws) (hR : Is w rp rn rc rs) (hG : GoodR ws T rs) :
    Calls Try.prog 55 #[.agg #[.slice p n c, .int .i64 T], .slice rp rn rc] w fun e w' => OrdP ws rs T w w' e := by
  have HI : Hid (Is w p n c ws) := hI
  have HR : Hid (Is w rp rn rc rs) := hR
  have HG : Hid (GoodR ws T rs) := hG
  have hlen : Hid (ws.length = n) := hI.len
  have hrl : Hid (rs.length = rn) := hR.len
  have HTN : Hid (((T : Nat) : Int).toNat = T) := by unfold Hid; simp
  have hn2 : n ≤ 20000 := by have := hG.good.size; rw [hI.len] at this; exact this
  have hT : T ≤ n := by have := hG.good.hi; rw [hI.len] at this; omega
  have hrn2 : rn ≤ 20000 := by have := hG.few; rw [hR.len] at this; exact this
  have HRW : Hid (∀ i, i < rn → WordOk ws T (rs.getD i 0)) := fun i hi => by
    have := hG.roots i (by rw [hR.len]; exact hi)
    rw [HTN.out] at this; exact this
  have HHD : Hid (∀ q, St ws T q → HeadOk ws T q) := (goodH_obj hG.good).1
  have HOBJ : Hid (∀ q, St ws T q → ObjOk ws T q) := (goodH_obj hG.good).2
  have HTL : Hid (∀ s, Inv ws T s → s.top ≤ T ∧ s.ord.length ≤ s.top) := fun s hs => hs.top_le (fun q hq => (HHD.out q hq).2)
  clear hI hR hG
  have hmk := run_make_row' (P := Try.prog) 29 3 (.int .i64 0) 8 Try.underlying29 info3 rfl .i64 .i64 T (by omega) (by omega)
  go_enter Try.func55, Try.ntmps55
  go_wp2
  clear hmk
  go_loopw [7] (fun i wr => ∃ k : Nat, k ≤ T ∧ i = .int .i64 k ∧ Hid (wr.rowIs (w.heap.size + 1) 3 T (fun j => .int .i64 (if j < k then -1 else 0))) ∧ Hid (Bx wr w.heap.size p n c T) ∧ Hid (Below w.heap.size w wr)) (fun i _ => T - (intOf i).toNat)
  case atStart =>
    refine ⟨0, Nat.zero_le _, rfl, ?_, (Bx.new w p n c T _).below (below1 _ _), below2 w _ _⟩
    have := World.rowIs_made (w.alloc (.cells #[.slice p n c, .int .i64 T] 31)) (.int .i64 0) T 3
    exact (by simpa using this : World.rowIs _ (w.heap.size + 1) 3 T (fun _ => .int .i64 0)).congr (fun j _ => by simp)
  case round =>
    obtain ⟨k, hk, rfl, hr, hX, hb⟩ := hrel
    by_cases hlt : k < T
    · have g2 := hr.out.cell hlt
      have g3 := hr.out.frozen k
      go_wp2
      refine ⟨⟨k + 1, by omega, by go_num, (hr.out.set k _).congr (fun j hj => ?_), hX.out.setCell (by simp) _, hb.out.setCell (by simp) _⟩, by simp [intOf]; omega⟩
      by_cases e : j = k
      · subst e; simp
      · by_cases e2 : j < k
        · simp [e, e2, show j < k + 1 by omega]
        · simp [e, e2, show ¬ j < k + 1 by omega]
    · obtain rfl : T = k := by omega
      have HMV : Hid (Mv wr (w.heap.size + 1) T cs0.mv) := hr.out.congr (fun j hj => by rw [if_pos hj]; rfl)
      clear hr
      go_wp2
      go_loopw [8, 9, 10, 11] (fun ov tv wv nv wr => OutR ws rs T w p n c ov tv wv nv wr) (fun _ _ _ nv _ => T + 1 - (intOf nv).toNat)
      case atStart =>
        exact ⟨0, cs0, rs, rp, rn, rc, Nat.zero_le _, Nat.zero_le _, rfl, rfl, rfl, HR, HRW, rfl, inv0 ws T, OwN.nil _ _, HMV, hX, hb⟩
      case round =>
        obtain ⟨kk, s, xs, xp, xl, xc, hkk, hkl, rfl, rfl, rfl, hXI, hXW, hVS, hINV, hOW, hMV, hBX, hB⟩ := hrel
        have hxl : Hid (xs.length = xl) := hXI.out.len
        have hxs := hXI.out.small.1
        have htl := HTL.out s hINV.out
        obtain ⟨htl1, htl2⟩ := htl
        go_wp2
        go_loopw [8, 9, 12] (fun ov tv iv wr => InR ws T w p n c s xs ov tv iv wr) (fun _ _ iv _ => xl - (intOf iv).toNat)
        case atStart =>
          exact ⟨0, s, Nat.zero_le _, rfl, rfl, htl1, by omega, rfl, hINV, hOW, hMV, hBX, hB⟩
        case round =>
          clear hOW hMV hBX hB hINV htl1 htl2
          obtain ⟨i, s', hi, rfl, rfl, htp, hol, hV, hINV, hOW, hMV, hBX, hB⟩ := hrel
          rw [hxl.out] at hi
          have c0 := hBX.out.c0
          have c1 := hBX.out.c1
          by_cases hlt2 : i < xl
          · obtain ⟨b, o, rfl, hbl, gg⟩ := hXI.out.cells (by omega)
            have g1 := gg i hlt2
            rw [← hB.out.cell (p := ⟨b, o + i, none⟩) hbl] at g1
            have hwk := hXW.out i hlt2
            have hrg := hXI.out.rng i
            clear gg
            have HVN : Hid (visits ws s (xs.take (i + 1)) = visit ws s' (xs.getD i 0)) := by unfold Hid; rw [visits_take ws s xs i (by rw [hxl.out]; exact hlt2), hV.out]
            have HIN : Hid (Inv ws T (visit ws s' (xs.getD i 0))) := hINV.out.visit hwk
            obtain ⟨x, hx⟩ : ∃ x, xs.getD i 0 = x := ⟨_, rfl⟩
            rw [hx] at g1 hwk hrg HVN HIN
            have HWK : Hid (WordOk ws T x) := hwk
            obtain ⟨hrg0, hrg1⟩ := hrg
            clear hx hwk
            by_cases k1 : x % 4 = 1
            · have hst : 0 ≤ x ∧ St ws T (x / 4).toNat := by rcases HWK.out with h' | h' | h' | h' <;> first | omega | exact ⟨h'.2.1, h'.2.2⟩
              obtain ⟨m, hmm⟩ : ∃ m : Nat, x / 4 = m := ⟨(x / 4).toNat, by omega⟩
              have hxm : (x / 4).toNat = m := by omega
              rw [hxm] at hst
              have hmT : m < T := hst.2.1
              have HSM : Hid (St ws T m) := hst.2
              have hx0 : 0 ≤ x := hst.1
              have hd := tdiv4 x hx0
              rw [hmm] at hd
              have r2 := hMV.out.cell hmT
              have r3 := hMV.out.frozen m
              obtain ⟨y, hy⟩ : ∃ y, s'.mv m = y := ⟨_, rfl⟩
              have HY : Hid (s'.mv m = y) := hy
              rw [hy] at r2
              have hylo : -1 ≤ y := by rw [← hy]; exact hINV.out.lo m
              clear hst
              by_cases hy0 : y < 0
              · have HNEW := visit_new (ws := ws) (s := s') k1 hxm (by rw [hy]; exact hy0)
                have HNE : Hid (visit ws s' x = ⟨fun q => if q = m then (s'.top : Int) else s'.mv q, s'.top + (1 + cnt (ws.getD m 0)), s'.ord ++ [m]⟩) := HNEW
                have hho := HHD.out m HSM.out
                obtain ⟨b2, o2, rfl, hbl2, gg2⟩ := HI.out.cells (by omega)
                have gh := gg2 m (by omega)
                rw [← hB.out.cell (p := ⟨b2, o2 + m, none⟩) hbl2] at gh
                have hh1 := head_cnt hho.1
                obtain ⟨cq, hcq⟩ : ∃ cq, cnt (ws.getD m 0) = cq := ⟨_, rfl⟩
                rw [hcq] at hh1 HNE
                have hsz : m + 1 + cq ≤ T := by have := hho.2; rw [hcq] at this; exact this
                generalize ws.getD m 0 = hd2 at gh hh1
                have hdq := tdiv4 hd2 hh1.1
                rw [← hh1.2.2.2] at hdq
                have hcq1 : cq ≤ 1000 := hh1.2.2.1
                have hd20 : 0 ≤ hd2 := hh1.1
                have hd21 : hd2 ≤ 10000 := by omega
                have HTT : Hid (s'.top + (1 + cq) ≤ T ∧ s'.ord.length + 1 ≤ T) := by
                  have := HTL.out _ HIN.out
                  rw [HNE.out] at this
                  simp only [List.length_append, List.length_singleton] at this
                  exact ⟨this.1, by omega⟩
                have hTT := HTT.out.1
                have HSET : Hid (Two (w.heap.size + 1) (w.heap.size + 1) wr (wr.setCell ⟨w.heap.size + 1, m, none⟩ (.int .i64 (s'.top : Int)))) := (Two.refl (w.heap.size + 1) (w.heap.size + 1) wr).set (a := ⟨w.heap.size + 1, m, none⟩) (Or.inl rfl) _
                have gh2 : (wr.setCell ⟨w.heap.size + 1, m, none⟩ (.int .i64 (s'.top : Int))).cell? ⟨b2, o2 + m, none⟩ = some (.int .i64 hd2) := by
                  rw [World.cell?_of_block (w := wr) (HSET.out.block b2 (by omega) (by omega))]; exact gh
                have HOW2 : Hid (OwN (wr.setCell ⟨w.heap.size + 1, m, none⟩ (.int .i64 (s'.top : Int))) (w.heap.size + 2) u8 s'.ord) := hOW.out.two HSET.out (by omega) (by omega)
                have HMV2 : Hid (Mv (wr.setCell ⟨w.heap.size + 1, m, none⟩ (.int .i64 (s'.top : Int))) (w.heap.size + 1) T (fun q => if q = m then (s'.top : Int) else s'.mv q)) := (hMV.out.set m _).congr (fun j hj => by
                  by_cases e : j = m
                  · simp [e]
                  · simp [e])
                have HBX2 : Hid (Bx (wr.setCell ⟨w.heap.size + 1, m, none⟩ (.int .i64 (s'.top : Int))) w.heap.size (some ⟨b2, o2, none⟩) n c T) := hBX.out.setCell (by simp) _
                have HB2 : Hid (Below w.heap.size w (wr.setCell ⟨w.heap.size + 1, m, none⟩ (.int .i64 (s'.top : Int)))) := hB.out.setCell (by simp) _
                have hwsz : w.heap.size + 2 ≤ (wr.setCell ⟨w.heap.size + 1, m, none⟩ (.int .i64 (s'.top : Int))).heap.size := by have := hMV.out.lt; rw [HSET.out.size]; exact this
                have e0 := HBX2.out.c0
                clear gg2 hho HNEW hh1 hTT
                go_wp2_with (first | (go_at_call 68; refine (l2tag_c x _).mono ?_; rintro e w2 ⟨rfl, hwx⟩; have hwy := hwx.symm; clear hwx; subst hwy; rw [k1]) | (at_builtin; refine appN_law (wr.setCell ⟨w.heap.size + 1, m, none⟩ (.int .i64 (s'.top : Int))) rfl (.tmp 64) (.tmp 67) rfl (w.heap.size + 2) _ s'.ord m (by simp [Act.eval]) HOW2.out (by simp [Act.eval]) (by omega) hwsz ?_; intro v' w2 hov hb2; have HOV : Hid (OwN w2 (w.heap.size + 2) v' (s'.ord ++ [m])) := hov; have HBB : Hid (Below (w.heap.size + 2) (wr.setCell ⟨w.heap.size + 1, m, none⟩ (.int .i64 (s'.top : Int))) w2) := hb2; clear hov hb2))
                have hb2 := HBB.out
                refine ⟨⟨i + 1, visit ws s' x, by rw [hxl.out]; omega, by go_num, by rw [HNE.out]; go_num, by rw [HNE.out]; exact HTT.out.1, by rw [HNE.out]; simp only [List.length_append, List.length_singleton]; exact HTT.out.2, HVN.out, HIN.out, by unfold Hid; rw [HNE.out]; exact HOV.out, ?_, ?_, HB2.out.trans (hb2.mono (by omega))⟩, by simp [intOf]; omega⟩
                · unfold Hid
                  rw [HNE.out]
                  exact HMV2.out.of_block (hb2.block _ (by omega))
                · refine ⟨?_, ?_, by have := hb2.size; omega⟩
                  · rw [hb2.cell (p := ⟨w.heap.size, 0, none⟩) (by simp)]; exact HBX2.out.c0
                  · rw [hb2.cell (p := ⟨w.heap.size, 1, none⟩) (by simp)]; exact HBX2.out.c1
              · have HNE : Hid (visit ws s' x = s') := visit_not (fun h => hy0 (by rw [← HY.out, ← hxm]; exact h.2))
                go_wp2_with (go_at_call 68; refine (l2tag_c x _).mono ?_; rintro e w2 ⟨rfl, hwx⟩; have hwy := hwx.symm; clear hwx; subst hwy; rw [k1])
                exact ⟨⟨i + 1, s', by rw [hxl.out]; omega, by go_num, rfl, htp, hol, by unfold Hid; rw [HVN.out, HNE.out], hINV, hOW, hMV, hBX, hB⟩, by simp [intOf]; omega⟩
            · have HNE : Hid (visit ws s' x = s') := visit_not (fun h => k1 h.1)
              obtain ⟨y, hy⟩ : ∃ y, x % 4 = y := ⟨_, rfl⟩
              have e0 : (y == 1) = false := by rw [← hy]; simpa using k1
              go_wp2_with (go_at_call 68; refine (l2tag_c x _).mono ?_; rintro e w2 ⟨rfl, hwx⟩; have hwy := hwx.symm; clear hwx; subst hwy; rw [hy])
              exact ⟨⟨i + 1, s', by rw [hxl.out]; omega, by go_num, rfl, htp, hol, by unfold Hid; rw [HVN.out, HNE.out], hINV, hOW, hMV, hBX, hB⟩, by simp [intOf]; omega⟩
          · obtain rfl : i = xl := by omega
            have HSK : Hid (stage ws rs kk = s') := by unfold Hid; rw [← hVS.out, ← hV.out, List.take_of_length_le (by rw [hxl.out]; exact Nat.le_refl _)]
            obtain ⟨op, oc, hov, ho1, ho2, hoc⟩ := hOW.out.form
            have HOV : Hid (u8 = .slice op s'.ord.length oc) := hov
            have HOC := hoc
            subst hov
            by_cases hdone : kk = s'.ord.length
            · have hde : ((kk : Int) == (s'.ord.length : Int)) = true := by simp; omega
              go_wp2
              refine bodyPost_ret (v := .tuple #[.slice op s'.ord.length oc, .slice (some ⟨w.heap.size + 1, 0, none⟩) T T]) (by simp [results, Try.results55, go_sem]) rfl ⟨kk, _, rfl, ?_, ?_, ?_, ?_, hB.out⟩
              · rw [HSK.out]; exact hdone.symm
              · rw [HSK.out]; exact hINV.out
              · rw [HSK.out]; exact hOW.out
              · rw [HSK.out]; exact hMV.out
            · have hde : ((kk : Int) == (s'.ord.length : Int)) = false := by simp; omega
              have hlen2 : s.ord.length ≤ s'.ord.length := by have := visits_len ws (xs.take i) s; rw [hV.out] at this; exact this
              have hkl2 : kk < s'.ord.length := by omega
              obtain ⟨og, rfl, hog1, hog2, hocc⟩ := hoc (by omega)
              have gO := hocc kk hkl2
              obtain ⟨q, hq⟩ : ∃ q, s'.ord.getD kk 0 = q := ⟨_, rfl⟩
              have HQ : Hid (s'.ord.getD kk 0 = q) := hq
              rw [hq] at gO
              have hqs : St ws T q := hINV.out.st q (by rw [← hq]; simp [List.getD, List.getElem?_eq_getElem hkl2])
              have HQS : Hid (St ws T q) := hqs
              have hqT : q < T := hqs.1
              have hho := HHD.out q hqs
              have HQO : Hid (ObjOk ws T q) := HOBJ.out q hqs
              obtain ⟨b2, o2, rfl, hbl2, gg2⟩ := HI.out.cells (by omega)
              have gh := gg2 q (by omega)
              rw [← hB.out.cell (p := ⟨b2, o2 + q, none⟩) hbl2] at gh
              have hh1 := head_cnt hho.1
              obtain ⟨cq, hcq⟩ : ∃ cq, cnt (ws.getD q 0) = cq := ⟨_, rfl⟩
              have HCQ : Hid (cnt (ws.getD q 0) = cq) := hcq
              rw [hcq] at hh1
              have hsz : q + 1 + cq ≤ T := by have := hho.2; rw [hcq] at this; exact this
              generalize ws.getD q 0 = hd2 at gh hh1
              have hdq := tdiv4 hd2 hh1.1
              rw [← hh1.2.2.2] at hdq
              have hcq1 : cq ≤ 1000 := hh1.2.2.1
              have hd20 : 0 ≤ hd2 := hh1.1
              have hd21 : hd2 ≤ 10000 := by omega
              have hcap := HI.out.cap
              have hcb := HI.out.small.2
              have f1 : (q : Int) < (n : Int) := by omega
              have f2 : (0 : Int) ≤ (q : Int) + 1 := by omega
              have f3 : (0 : Int) ≤ (q : Int) + 1 + (cq : Int) := by omega
              have f4 : (q : Int) + 1 ≤ (q : Int) + 1 + (cq : Int) := by omega
              have f5 : (q : Int) + 1 + (cq : Int) ≤ (c : Int) := by omega
              have fw1 : IntKind.i64.wrap ((q : Int) + 1) = (q : Int) + 1 := by rw [IntKind.wrap_i64]; omega
              have fw2 : IntKind.i64.wrap ((q : Int) + 1 + (cq : Int)) = (q : Int) + 1 + (cq : Int) := by rw [IntKind.wrap_i64]; omega
              have fn1 : ((q : Int) + 1).toNat = q + 1 := by omega
              have fn2 : ((q : Int) + 1 + (cq : Int)).toNat = q + 1 + cq := by omega
              have f6 : (kk : Int) < (s'.ord.length : Int) := by omega
              have NEXT : Hid (∀ (xp' : Option Addr) (xc' : Nat), cq ≤ xc' → xc' ≤ maxLen → (0 < cq → xp' = some ⟨b2, o2 + (q + 1), none⟩) → ∀ w2 : World, Below wr.heap.size wr w2 → OutR ws rs T w (some ⟨b2, o2, none⟩) n c (.slice (some ⟨og, 0, none⟩) s'.ord.length oc) (.int .i64 (s'.top : Int)) (.slice xp' cq xc') (.int .i64 ((kk : Int) + 1)) w2) := by
                intro xp' xc' h1 h2 h3 w2 hb2
                have hkT := hINV.out.top_le (fun q hq => (HHD.out q hq).2)
                refine ⟨kk + 1, s', flds ws q, xp', cq, xc', by omega, by omega, by go_num, rfl, rfl, ?_, fun t ht => ?_, ?_, hINV, hOW.out.below hb2, hMV.out.of_block (hb2.block _ hMV.out.lt), hBX.out.below hb2, hB.out.trans (hb2.mono hB.out.size)⟩
                · have := HI.out.sub (a := q) (m := cq) (q := xp') (c' := xc') (by omega) h1 h2 (fun b o e h0 => by cases e; exact h3 h0)
                  unfold Hid flds; rw [HCQ.out]; exact this
                · unfold flds; rw [HCQ.out, fld_getD ht]
                  exact HQO.out.2 _ (by omega) (by rw [HCQ.out]; omega)
                · unfold Hid
                  rw [stage, HSK.out, if_pos hkl2, HQ.out]
              clear hocc HOC hq hcq gg2 hho hqs
              have HCE : Hid (((q : Int) + 1 + hd2 / 4).toNat - (q + 1) = cq) := by have := hh1.2.2.2; unfold Hid; omega
              have hmx : c ≤ maxLen := HI.out.big
              clear hh1
              by_cases hcq2 : c = q + 1
              · subst hcq2
                have hcq0 : cq = 0 := by omega
                have HC0 : Hid (cq = 0) := hcq0
                subst hcq0
                go_wp2_with fail
                go_region
                all_goals go_wp2
                first | go_roundw | refine ⟨?rel, ?measure⟩
                case measure => simp [intOf]; omega
                case rel => exact NEXT.out (some ⟨b2, o2, none⟩) 0 (Nat.le_refl _) (Nat.zero_le _) (fun h => absurd h (Nat.lt_irrefl 0)) _ (below_drew (Below.refl _ _))
              · go_wp2_with fail
                go_region
                all_goals go_wp2
                exact ⟨NEXT.out _ _ (by omega) (by omega) (fun _ => rfl) _ (below_drew (Below.refl _ _)), by simp [intOf]; omega⟩
end Go.Proofs.Ytpfodinoeoejcaa
