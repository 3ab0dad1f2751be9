import Derived.Test.YtmmkpmgidoelpaaDoorT4
import Derived.Deep.RegionHeld
namespace Go.Proofs.YtmmkpmgidoelpaaDoor.Hp
open Go.RowKit Ch2
/-- The root that a byte chooses. -/
def rtF (wds : List Int) (v : Int) : Int := if ¬ v % 3 = 0 ∧ 8 < wds.length then wds.getD (8 + (v % ((wds.length : Int) - 8)).toNat) 0 else wds.getD (v % (wds.length : Int)).toNat 0
def rtN (bs wds : List Int) : Nat → Nat → List Int × Nat
  | 0, i => ([], i)
  | k + 1, i => ((rtN bs wds k i).1 ++ [rtF wds (nxV bs (rtN bs wds k i).2)], nxI bs (rtN bs wds k i).2)
theorem rtN_len (bs wds : List Int) (i : Nat) : ∀ k, (rtN bs wds k i).1.length = k
  | 0 => rfl
  | k + 1 => by rw [rtN]; simp [rtN_len bs wds i k]
theorem rtN_rng {bs wds : List Int} (h : ∀ j, -100000 ≤ wds.getD j 0 ∧ wds.getD j 0 ≤ 100000) (i : Nat) : ∀ k x, x ∈ (rtN bs wds k i).1 → -100000 ≤ x ∧ x ≤ 100000
  | 0, x, hx => by cases hx
  | k + 1, x, hx => by
    rw [rtN] at hx
    rcases List.mem_append.1 hx with hx | hx
    · exact rtN_rng h i k x hx
    · rw [List.mem_singleton.1 hx]; unfold rtF; split
      · exact h _
      · exact h _
/-- The roots that are drawn, and where the reader stands then. -/
def rootsF (bs wds : List Int) (i : Nat) : List Int × Nat := rtN bs wds (nxV bs i % 6).toNat (nxI bs i)
/-- What l7roots leaves. -/
def RtP (rb : Nat) (bp : Option Addr) (nb cb B : Nat) (bs wds : List Int) (i : Nat) (w w' : World) (e : Ending) : Prop := ∃ v, e = .returned v ∧ Fz w' w.heap.size v (rootsF bs wds i).1 ∧ Rz w' rb bp nb cb B bs (rootsF bs wds i).2 ∧ KpZ rb rb w w'
/-- At the head of its loop. -/
def RtI (rb : Nat) (bp : Option Addr) (nb cb B : Nat) (bs wds : List Int) (i0 cnt : Nat) (w : World) (fv jv : Value) (wr : World) : Prop := ∃ j : Nat, j ≤ cnt ∧ jv = .int .i64 j ∧ Hid (Fz wr w.heap.size fv (rtN bs wds j i0).1) ∧ Hid (Rz wr rb bp nb cb B bs (rtN bs wds j i0).2) ∧ Hid (KpZ rb rb w wr)
theorem RtI.step {rb : Nat} {bp : Option Addr} {nb cb B : Nat} {bs wds : List Int} {i0 cnt j : Nat} {w w5 w6 : World} {fv : Value} {g cap : Nat} {y : Int} (hj : j < cnt) (hl : (rtN bs wds j i0).1.length = j) (HF5 : Fz w5 w.heap.size fv (rtN bs wds j i0).1) (HR5 : Rz w5 rb bp nb cb B bs (rtN bs wds (j + 1) i0).2) (HK5 : KpZ rb rb w w5) (hrl : rb < w.heap.size)
    (hfr : Fr w6 g (j + 1) cap ((rtN bs wds j i0).1 ++ [y])) (hge : w.heap.size ≤ g) (hgr : w5.grownBy w6 fv.ownBlock) (hpk : (rtN bs wds (j + 1) i0).1 = (rtN bs wds j i0).1 ++ [y]) :
    RtI rb bp nb cb B bs wds i0 cnt w (.slice (some ⟨g, 0, none⟩) (j + 1) cap) (.int .i64 ((j : Int) + 1)) w6 := by
  have hs := HK5.size
  have hb : ∀ k, k < w.heap.size → w6.heap[k]? = w5.heap[k]? := fun k hk => hgr.block k (by omega) (fun e => by have := (HF5.lt k e.symm).1; omega)
  have hp := HR5.past
  refine ⟨j + 1, by omega, by simp, ?_, HR5.keep hgr.size (fun k hk => hb k (by omega)) (hb rb hrl), ⟨hgr.os.trans HK5.os, hgr.tape.trans HK5.tape, hgr.output.trans HK5.output, Nat.le_trans hs hgr.size, fun k hk e _ => (hb k hk).trans (HK5.block k hk e e)⟩⟩
  unfold Hid
  rw [hpk]
  exact Or.inr ⟨g, cap, by simp [hl], hge, by rw [List.length_append, List.length_singleton, hl]; exact hfr⟩
set_option maxRecDepth 20000 in
set_option maxHeartbeats 4000000 in
theorem l7roots_c (rb : Nat) (bp : Option Addr) (nb cb B : Nat) (bs wds : List Int) (i : Nat) (gw L cw : Nat) (w : World) (h : Rz w rb bp nb cb B bs i) (hw : Fr w gw L cw wds) (hne : gw ≠ rb) (hL0 : 8 ≤ L) (hL1 : L ≤ 23) (hbw : ∀ j, -100000 ≤ wds.getD j 0 ∧ wds.getD j 0 ≤ 100000) :
    Calls Tryd.prog 16 #[.pointer (some ⟨rb, 0, none⟩), .slice (some ⟨gw, 0, none⟩) L cw] w fun e w' => RtP rb bp nb cb B bs wds i w w' e := by
  have HRB : Hid (∀ i, 0 ≤ bs.getD i 0 ∧ bs.getD i 0 < 256) := h.by_.rng
  have HR : Hid (Rz w rb bp nb cb B bs i) := h
  have HW : Hid (Fr w gw L cw wds) := hw
  have HL : Hid (wds.length = L) := hw.len
  have HBW : Hid (∀ j, -100000 ≤ wds.getD j 0 ∧ wds.getD j 0 ≤ 100000) := hbw
  have hrl : rb < w.heap.size := h.lt
  have hgl : gw < w.heap.size := hw.lt
  have hn0 := nxV_rng h.by_.rng i
  obtain ⟨v0, hv0⟩ : ∃ v0 : Nat, nxV bs i = v0 := ⟨(nxV bs i).toNat, by omega⟩
  rw [hv0] at hn0
  have HV0 : Hid (nxV bs i = (v0 : Int)) := hv0
  clear h hw hv0 hbw
  obtain ⟨cnt, hcnt⟩ : ∃ cnt : Nat, cnt = v0 % 6 := ⟨_, rfl⟩
  have t0 : (v0 : Int).tmod 6 = (cnt : Int) := by rw [Int.tmod_eq_emod_of_nonneg (by omega)]; omega
  have hc5 : cnt ≤ 5 := by omega
  have HRF : Hid (rootsF bs wds i = rtN bs wds cnt (nxI bs i)) := by unfold Hid rootsF; rw [HV0.out]; congr 1; omega
  clear hcnt
  go_enter Tryd.func16, Tryd.ntmps16
  go_wp2_with fail
  refine (next_c rb bp nb cb B bs i w HR.out).mono ?_
  rintro e w1 ⟨rfl, hr1, hk1, hs1⟩
  rw [HV0.out]
  have HR1 : Hid (Rz w1 rb bp nb cb B bs (nxI bs i)) := hr1
  have HK1 : Hid (KpZ rb rb w w1) := hk1
  clear hr1 hk1 hs1
  go_wp2_with fail
  clear t0
  go_loopw [5, 7] (fun fv jv wr => RtI rb bp nb cb B bs wds (nxI bs i) cnt w fv jv wr) (fun _ jv _ => cnt - (intOf jv).toNat)
  case atStart => exact ⟨0, Nat.zero_le _, rfl, Or.inl ⟨rfl, rfl⟩, HR1.out, HK1.out⟩
  case round =>
    obtain ⟨j, hj, rfl, hF, hRd, hK⟩ := hrel
    by_cases hlt : j < cnt
    · go_wp2_with fail
      refine (next_c rb bp nb cb B bs _ wr hRd.out).mono ?_
      rintro e w5 ⟨rfl, hr5, hk5, hs5⟩
      have hvr := nxV_rng HRB.out (rtN bs wds j (nxI bs i)).2
      obtain ⟨x, hx⟩ : ∃ x : Nat, nxV bs (rtN bs wds j (nxI bs i)).2 = x := ⟨_, (Int.toNat_of_nonneg hvr.1).symm⟩
      have HX : Hid (nxV bs (rtN bs wds j (nxI bs i)).2 = (x : Int)) := hx
      rw [hx] at hvr
      have hxl : x < 256 := by omega
      have HR5 : Hid (Rz w5 rb bp nb cb B bs (rtN bs wds (j + 1) (nxI bs i)).2) := hr5
      have HK5 : Hid (KpZ rb rb w w5) := hK.out.trans hk5
      have HF5 : Hid (Fz w5 w.heap.size u5 (rtN bs wds j (nxI bs i)).1) := hF.out.keep (fun g e => hk5.block g (hF.out.lt g e).2 (by have := (hF.out.lt g e).1; omega) (by have := (hF.out.lt g e).1; omega))
      have HFL : Hid ((rtN bs wds j (nxI bs i)).1.length = j) := rtN_len _ _ _ _
      have HW5 : Hid (Fr w5 gw L cw wds) := HW.out.of_block (HK5.out.block _ hgl hne hne)
      have HS5 : Hid (w.heap.size ≤ w5.heap.size) := HK5.out.size
      rw [hx]
      clear hr5 hk5 hs5 hx hvr hF hRd hK
      obtain ⟨d, hd⟩ : ∃ d : Nat, d = x % 3 := ⟨_, rfl⟩
      have t2 : (x : Int).tmod 3 = (d : Int) := by rw [Int.tmod_eq_emod_of_nonneg (by omega), hd]; simp
      have hdd : d < 3 := by omega
      by_cases hit : 0 < d ∧ 8 < L
      · obtain ⟨hd0, hL8⟩ := hit
        obtain ⟨l8, hl8⟩ : ∃ l8 : Nat, l8 = L - 8 := ⟨_, rfl⟩
        obtain ⟨r, hr⟩ : ∃ r : Nat, r = x % l8 := ⟨_, rfl⟩
        have hrl8 : r < l8 := by rw [hr]; exact Nat.mod_lt _ (by omega)
        obtain ⟨ix, hix⟩ : ∃ ix : Nat, ix = 8 + r := ⟨_, rfl⟩
        have hixL : ix < L := by omega
        have t4 : (L : Int) - 8 = (l8 : Int) := by omega
        have t6 : (x : Int).tmod (l8 : Int) = (r : Int) := by rw [Int.tmod_eq_emod_of_nonneg (by omega), hr]; simp
        have t7 : (8 : Int) + (r : Int) = (ix : Int) := by omega
        have hb1 : decide ((0 : Int) < (d : Int)) = true := decide_eq_true (by omega)
        have hb2 : decide ((8 : Int) < (L : Int)) = true := decide_eq_true (by omega)
        have b5 : 0 < l8 := by omega
        have b6 : l8 ≤ 300 := by omega
        have b7 : r ≤ 300 := by omega
        have hbw := HBW.out ix
        obtain ⟨y, hy⟩ : ∃ y, wds.getD ix 0 = y := ⟨_, rfl⟩
        have g1 := (HW5.out.cell hixL).1
        rw [hy] at g1 hbw
        have HPK : Hid ((rtN bs wds (j + 1) (nxI bs i)).1 = (rtN bs wds j (nxI bs i)).1 ++ [y]) := by
          unfold Hid
          rw [rtN]
          show (rtN bs wds j (nxI bs i)).1 ++ [rtF wds (nxV bs (rtN bs wds j (nxI bs i)).2)] = _
          rw [HX.out, ← hy]
          have e : ((x : Int) % ((L : Int) - 8)).toNat = x % (L - 8) := by
            rw [show (L : Int) - 8 = ((L - 8 : Nat) : Int) by omega, ← Int.natCast_emod]
            exact Int.toNat_natCast _
          unfold rtF
          rw [HL.out, if_pos ⟨by omega, hL8⟩, e, hix, hr, hl8]
        clear hd hl8 hr hix hy
        go_wp2_with (at_builtin; refine appF_law w5 rfl (.tmp 27) (.tmp 37) rfl w.heap.size _ (rtN bs wds j (nxI bs i)).1 y (by simp [Act.eval]) HF5.out (by simp [Act.eval]) (by rw [HFL.out]; omega) HS5.out ?_; intro g cap w6 hf6 hg6 hgr6 hor6; rw [HFL.out] at hf6 ⊢; have HF6 := Hid.mk' hf6; have HGE6 := Hid.mk' hg6; have HG6 := Hid.mk' hgr6; clear hf6 hg6 hgr6 hor6)
        exact ⟨RtI.step hlt HFL.out HF5.out HR5.out HK5.out hrl HF6.out HGE6.out HG6.out HPK.out, by simp [intOf]; omega⟩
      · obtain ⟨a, ha⟩ : ∃ a : Nat, a = x % L := ⟨_, rfl⟩
        have haL : a < L := by rw [ha]; exact Nat.mod_lt _ (by omega)
        have t1 : (x : Int).tmod (L : Int) = (a : Int) := by rw [Int.tmod_eq_emod_of_nonneg (by omega), ha]; simp
        have hbw := HBW.out a
        obtain ⟨y, hy⟩ : ∃ y, wds.getD a 0 = y := ⟨_, rfl⟩
        have g1 := (HW5.out.cell haL).1
        rw [hy] at g1 hbw
        have HPK : Hid ((rtN bs wds (j + 1) (nxI bs i)).1 = (rtN bs wds j (nxI bs i)).1 ++ [y]) := by
          unfold Hid
          rw [rtN]
          show (rtN bs wds j (nxI bs i)).1 ++ [rtF wds (nxV bs (rtN bs wds j (nxI bs i)).2)] = _
          rw [HX.out, ← hy]
          unfold rtF
          rw [HL.out, if_neg (by omega), ha]
          congr 3
        have hit2 : 0 < d → ¬ 8 < L := fun h1 h2 => hit ⟨h1, h2⟩
        clear hd ha hy hit
        by_cases h0 : 0 < d
        · have hb1 : decide ((0 : Int) < (d : Int)) = true := decide_eq_true (by omega)
          have hb2 : decide ((8 : Int) < (L : Int)) = false := decide_eq_false (by have := hit2 h0; omega)
          go_wp2_with (at_builtin; refine appF_law w5 rfl (.tmp 39) (.tmp 47) rfl w.heap.size _ (rtN bs wds j (nxI bs i)).1 y (by simp [Act.eval]) HF5.out (by simp [Act.eval]) (by rw [HFL.out]; omega) HS5.out ?_; intro g cap w6 hf6 hg6 hgr6 hor6; rw [HFL.out] at hf6 ⊢; have HF6 := Hid.mk' hf6; have HGE6 := Hid.mk' hg6; have HG6 := Hid.mk' hgr6; clear hf6 hg6 hgr6 hor6)
          exact ⟨RtI.step hlt HFL.out HF5.out HR5.out HK5.out hrl HF6.out HGE6.out HG6.out HPK.out, by simp [intOf]; omega⟩
        · have hb1 : decide ((0 : Int) < (d : Int)) = false := decide_eq_false (by omega)
          go_wp2_with (at_builtin; refine appF_law w5 rfl (.tmp 39) (.tmp 47) rfl w.heap.size _ (rtN bs wds j (nxI bs i)).1 y (by simp [Act.eval]) HF5.out (by simp [Act.eval]) (by rw [HFL.out]; omega) HS5.out ?_; intro g cap w6 hf6 hg6 hgr6 hor6; rw [HFL.out] at hf6 ⊢; have HF6 := Hid.mk' hf6; have HGE6 := Hid.mk' hg6; have HG6 := Hid.mk' hgr6; clear hf6 hg6 hgr6 hor6)
          exact ⟨RtI.step hlt HFL.out HF5.out HR5.out HK5.out hrl HF6.out HGE6.out HG6.out HPK.out, by simp [intOf]; omega⟩
    · obtain rfl : j = cnt := by omega
      go_wp2_with fail
      go_ret
      exact ⟨_, rfl, by rw [HRF.out]; exact hF.out, by rw [HRF.out]; exact hRd.out, hK.out⟩
end Go.Proofs.YtmmkpmgidoelpaaDoor.Hp
namespace Go.Proofs.YtmmkpmgidoelpaaDoor.Hp
open Go.RowKit Ch2
theorem zero_cells (m : Nat) : Builtin.zeroCells #[Value.int .i64 0] m = (List.replicate m (Value.int .i64 0)).toArray := by
  apply Array.ext
  · simp [Builtin.zeroCells]
  · intro i h1 h2
    simp [Builtin.zeroCells, Nat.mod_one]
/-- append of so many zeros, onto a row with room. -/
theorem run_zeros_room (w : World) (ty : TypeId) (i : TypeInfo) (hi : Tryd.prog.info? 3 = some i) (hz : i.zero = some (.int .i64 0)) (hs : i.size = 1) (hby : i.bytes = 8) (g n cap m : Nat) (cur : Array Value) (hg : w.heap[g]? = some (.cells cur 3 (0, 0))) (hcs : cur.size = cap) (hroom : n + m ≤ cap) (hm : 0 < m) (hb : m ≤ 1000000) :
    (Builtin.append_ #[23, 3] ty #[.slice (some ⟨g, 0, none⟩) n cap, .int .i64 (m : Int)]).run Tryd.prog w = .ok (.slice (some ⟨g, 0, none⟩) (n + m) cap) (w.setRow g (cur.toList.take n ++ List.replicate m (Value.int .i64 0) ++ cur.toList.drop (n + m)).toArray) := by
  have hst := run_storeCells_at Tryd.prog g n 3 (List.replicate m (Value.int .i64 0)) 0 cur w hg (by simp; omega) (by intro v hv; rw [List.eq_of_mem_replicate hv]; rfl)
  simp only [Nat.add_zero, List.length_replicate] at hst
  have hw : IntKind.i64.wrap (m : Int) = (m : Int) := by rw [IntKind.wrap_i64]; omega
  have h0 : ¬ ((m : Int) < 0) := by omega
  have h48 : ¬ (281474976710656 < (m : Int) * 8) := by omega
  have hmz : m ≠ 0 := by omega
  simp [Builtin.append_, run_underlying Tryd.underlying23, run_underlying Tryd.underlying3, sizeOf, typeInfo, zeroValue, hi, hz, hs, hby, hw, h0, h48, hroom, hmz, Addr.add_lit, asInt, asIntOf, Value.cells, zero_cells, hst]
theorem run_zeros_grow (w : World) (ty : TypeId) (i : TypeInfo) (hi : Tryd.prog.info? 3 = some i) (hz : i.zero = some (.int .i64 0)) (hs : i.size = 1) (hby : i.bytes = 8) (g n cap m : Nat) (olds : List Value) (hlo : olds.length = n) (holds : ∀ j v, olds[j]? = some v → w.cell? ((⟨g, 0, none⟩ : Addr).add j) = some v) (hgr : cap < n + m) (hm : 0 < m) (hb : n + m ≤ 1000000) :
    (Builtin.append_ #[23, 3] ty #[.slice (some ⟨g, 0, none⟩) n cap, .int .i64 (m : Int)]).run Tryd.prog w = .ok (.slice (some ⟨w.heap.size, 0, none⟩) (n + m) (grownCap w (n + m) cap 3)) (w.drew.alloc (.cells (olds.toArray ++ (List.replicate m (Value.int .i64 0)).toArray ++ (List.replicate (grownCap w (n + m) cap 3 - (n + m)) (Value.int .i64 0)).toArray) 3)) := by
  have hfo := run_firstCells_some (P := Tryd.prog) w.drew 1 n ⟨g, 0, none⟩ n cap olds (by omega) (by simpa using holds)
  have hw : IntKind.i64.wrap (m : Int) = (m : Int) := by rw [IntKind.wrap_i64]; omega
  have h0 : ¬ ((m : Int) < 0) := by omega
  have h48 : ¬ (281474976710656 < (m : Int) * 8) := by omega
  have hmz : m ≠ 0 := by omega
  have hn : ¬ (n + m ≤ cap) := by omega
  have h63' : ¬ (9223372036854775807 < ((n : Int) + (m : Int))) := by omega
  have hfit := growslice_fits (bytes := 8) hgr (by omega)
  have h48' : ¬ (281474976710656 < Builtin.nextslicecap (n + m) cap * 8) := by omega
  simp [Builtin.append_, run_underlying Tryd.underlying23, run_underlying Tryd.underlying3, sizeOf, typeInfo, zeroValue, hi, hz, hs, hby, hw, h0, h48, hn, h63', h48', hmz, asInt, asIntOf, Value.cells, zero_cells, Question.forced, hfo, newRow, grownCap]
/-- append of so many zeros onto an own row. -/
theorem appZ0_law {ops : Array Oper} {rest : List Oper} {o : Oper} {a : Act} {Q : Exit → Act → World → Prop} (w : World) (hgd : o.guard = none) (s x : Operand)
    (ho : o.op = .call { callee := .builtin .append, args := #[s, x], argTypes := #[23, 3] }) (g n cap : Nat) (xs : List Int) (m : Nat) (hs : a.eval s = .slice (some ⟨g, 0, none⟩) n cap) (hx : a.eval x = .int .i64 (m : Int)) (hf : Fr w g n cap xs) (hm : 0 < m) (hb : n + m ≤ 1000000)
    (h : ∀ g' cap' w', Fr w' g' (n + m) cap' (xs ++ List.replicate m 0) → w.grownBy w' (some g) → (g' = g ∨ g' = w.heap.size) → wpList Tryd.prog ops Q rest (a.put o.dst (.slice (some ⟨g', 0, none⟩) (n + m) cap')) w') : wpList Tryd.prog ops Q (o :: rest) a w := by
  obtain ⟨i3, hi3, hz3, hs3, hb3⟩ := info3'
  have hown := hf.own (B := 0) (Nat.zero_le _)
  have hlen := hf.len
  obtain ⟨_, ⟨h1, _⟩ | ⟨g', cap', cur, e, hg, hh, h1, h2, h3, h4⟩⟩ := hown
  · cases h1
  cases e
  have hmap : xs.map (Value.int .i64) ++ List.replicate m (Value.int .i64 0) = (xs ++ List.replicate m 0).map (Value.int .i64) := by simp
  refine wpList_plain hgd fun _ hK => ?_
  unfold Oper.wp execOp
  by_cases hroom : n + m ≤ cap
  · have hr := run_zeros_room w o.type i3 hi3 hz3 hs3 hb3 g n cap m cur hh (by omega) hroom hm (by omega)
    simp only [ho, resolve, invoke, builtin, Sem.run_bind, Sem.run_pure, Result.andThen_ok, List.map_toArray, List.map_cons, List.map_nil, hs, hx, hr]
    refine hK _ _ (h g cap _ ?_ ⟨rfl, rfl, rfl, by simp, fun k _ hk => setRow_other w g k _ (fun e => hk (by rw [e]))⟩ (Or.inl rfl))
    have ho' : (w.setRow g (cur.toList.take n ++ List.replicate m (Value.int .i64 0) ++ cur.toList.drop (n + m)).toArray).ownsRow 0 3 1 (.slice (some ⟨g, 0, none⟩) (n + m) cap) (n + m) ((xs ++ List.replicate m 0).map (Value.int .i64)) := by
      refine ⟨by simp; omega, Or.inr ⟨g, cap, _, rfl, Nat.zero_le _, setRow_heap w g cur _ 3 _ hh, hroom, h2, ?_, ?_⟩⟩
      · simp only [List.size_toArray, List.length_append, List.length_take, List.length_drop, Array.length_toList, List.length_replicate]
        omega
      · rw [← hmap, ← h4]
        simp only [Nat.mul_one]
        have : (List.take n cur.toList ++ List.replicate m (Value.int .i64 0)).length = n + m := by simp; omega
        rw [← this]
        exact List.take_left
    obtain ⟨g2, c2, e2, _, hfr⟩ := Fr.of_owns ho' (by omega) (by simp; omega)
    cases e2
    exact hfr
  · have holds : ∀ j v, (xs.map (Value.int .i64))[j]? = some v → w.cell? ((⟨g, 0, none⟩ : Addr).add j) = some v := (hf.own (B := 0) (Nat.zero_le _)).cells (g := g) rfl
    have hr := run_zeros_grow w o.type i3 hi3 hz3 hs3 hb3 g n cap m (xs.map (Value.int .i64)) (by simp; omega) holds (by omega) hm hb
    simp only [ho, resolve, invoke, builtin, Sem.run_bind, Sem.run_pure, Result.andThen_ok, List.map_toArray, List.map_cons, List.map_nil, hs, hx, hr]
    have hge := grownCap_ge w (n + m) cap 3
    have hcm : grownCap w (n + m) cap 3 ≤ maxLen := grownCap_le_maxLen w (n + m) cap 3 (by unfold maxLen; omega)
    refine hK _ _ (h w.heap.size _ _ ?_ ⟨rfl, rfl, rfl, by simp, fun k hk _ => (below1 w.drew _).block k hk⟩ (Or.inr rfl))
    refine ⟨⟨fun j => .int .i64 ((xs ++ List.replicate m 0).getD j 0), ⟨_, Go.Deep.blk_alloc_new w.drew _, ?_, fun j hj => ?_⟩, fun j _ => rfl⟩, hge, hcm, by simp; omega⟩
    · simp only [Array.size_append, List.size_toArray, List.length_map, List.length_replicate]
      omega
    · have e : (xs.map (Value.int .i64)).toArray ++ (List.replicate m (Value.int .i64 0)).toArray ++ (List.replicate (grownCap w (n + m) cap 3 - (n + m)) (Value.int .i64 0)).toArray = ((xs ++ List.replicate m 0 ++ List.replicate (grownCap w (n + m) cap 3 - (n + m)) 0).map (Value.int .i64)).toArray := by simp
      rw [e]
      have hl : (xs ++ List.replicate m 0 ++ List.replicate (grownCap w (n + m) cap 3 - (n + m)) (0 : Int)).length = grownCap w (n + m) cap 3 := by simp; omega
      rw [List.getElem?_toArray, List.getElem?_map, List.getElem?_eq_getElem (by rw [hl]; exact hj)]
      refine congrArg (fun x : Int => some (Value.int .i64 x)) ?_
      by_cases hjn : j < n + m
      · rw [List.getElem_append_left (by simp; omega)]
        simp [List.getD, List.getElem?_eq_getElem (show j < (xs ++ List.replicate m (0 : Int)).length by simp; omega)]
      · have e1 : (xs ++ List.replicate m (0 : Int)).getD j 0 = 0 := by
          have : (xs ++ List.replicate m (0 : Int))[j]? = none := List.getElem?_eq_none (by simp; omega)
          unfold List.getD; rw [this]; rfl
        rw [e1, List.getElem_append_right (by simp; omega)]
        simp
end Go.Proofs.YtmmkpmgidoelpaaDoor.Hp
