import Derived.Test.YtbcanodijcglpaaDoorE5
namespace Go.Proofs.YtbcanodijcglpaaDoor
open Go.RowKit Ch1
theorem tdiv256 (y : Int) (h0 : 0 ≤ y) (h1 : y < 18446744073709551616) : IntKind.u64.wrap (y.tdiv 256) = y / 256 := by
  rw [Int.tdiv_eq_ediv_of_nonneg h0, IntKind.wrap_u64]; omega
theorem tmod256 (y : Int) (h0 : 0 ≤ y) : IntKind.u64.wrap (y.tmod 256) = y % 256 := by
  rw [Int.tmod_eq_emod_of_nonneg h0, IntKind.wrap_u64]; omega
/-- At the head of the loop over a number's bytes. -/
def LiI (w : World) (n : Nat) (u : Int) (uv ov iv : Value) (wr : World) : Prop := ∃ j : Nat, j ≤ n ∧ iv = .int .i64 j ∧ uv = .int .u64 (shZ j u) ∧ Hid (Ow wr w.heap.size ov (leZ j u)) ∧ Hid (Below w.heap.size w wr)
set_option maxRecDepth 20000 in
set_option maxHeartbeats 2000000 in
theorem little_c (v : Int) (n : Nat) (hn : n ≤ 8) (w : World) : Calls Tryd.prog 33 #[.int .i64 v, .int .i64 n] w fun e w' => ∃ r, e = .returned r ∧ Ow w' w.heap.size r (leZ n (v % 18446744073709551616)) ∧ Below w.heap.size w w' := by
  obtain ⟨u, hu⟩ : ∃ u, u = v % 18446744073709551616 := ⟨_, rfl⟩
  have HU : Hid (0 ≤ u ∧ u < 18446744073709551616) := ⟨by omega, by omega⟩
  have huw : IntKind.u64.wrap v = u := by rw [IntKind.wrap_u64, hu]
  rw [← hu]
  clear hu
  go_enter Tryd.func33, Tryd.ntmps33
  go_wp2
  go_loopw [5, 6, 7] (fun uv ov iv wr => LiI w n u uv ov iv wr) (fun _ _ iv _ => n - (intOf iv).toNat)
  case atStart => exact ⟨0, Nat.zero_le _, rfl, rfl, Ow.nil _ _, Below.refl _ _⟩
  case round =>
    obtain ⟨j, hj, rfl, rfl, hO, hB⟩ := hrel
    by_cases hlt : j < n
    · have hr := shZ_rng j u HU.out.1
      have hu1 := HU.out.2
      have HN : Hid (leZ (j + 1) u = leZ j u ++ [shZ j u % 256]) := leZ_snoc j u
      have HSH : Hid (shZ (j + 1) u = shZ j u / 256) := rfl
      have hl : (leZ j u).length ≤ 500000000 := by rw [leZ_len]; omega
      have t1 := tdiv256 (shZ j u) hr.1 (by omega)
      have t2 := tmod256 (shZ j u) hr.1
      have hs := hB.out.size
      obtain ⟨h0, h1⟩ := hr
      generalize shZ j u = y at HN HSH h0 h1 t1 t2
      generalize leZ j u = acc at hO HN hl
      go_wp2_with (at_builtin; refine app1_law _ rfl (.tmp 15) (.tmp 19) rfl w.heap.size _ acc (y % 256) (by omega) (by omega) (by simp [Act.eval]) hO.out (by simp [Act.eval]) hl hs ?_; intro v2 w2 ho2 hb2 _; have HO2 : Hid (Ow w2 w.heap.size v2 (acc ++ [y % 256])) := ho2; have HB2 : Hid (Below w.heap.size w w2) := hB.out.trans hb2; clear ho2 hb2)
      exact ⟨⟨j + 1, by omega, by go_num, by rw [HSH.out], by unfold Hid; rw [HN.out]; exact HO2.out, HB2⟩, by simp [intOf]; omega⟩
    · obtain rfl : j = n := by omega
      go_wp2
      go_ret
      exact ⟨_, rfl, hO.out, hB.out⟩
theorem little2_c (v : Int) (w : World) : Calls Tryd.prog 33 #[.int .i64 v, .int .i64 2] w fun e w' => Txt w w' e (leZ 2 v) := by
  refine (little_c v 2 (by omega) w).mono ?_
  rintro e w' ⟨r, rfl, ho, hb⟩
  rw [leZ_u2] at ho
  exact ho.txt (rng_of (leZ_rg _ _)) (by rw [leZ_len]; omega) hb
theorem little4_c (v : Int) (w : World) : Calls Tryd.prog 33 #[.int .i64 v, .int .i64 4] w fun e w' => Txt w w' e (leZ 4 v) := by
  refine (little_c v 4 (by omega) w).mono ?_
  rintro e w' ⟨r, rfl, ho, hb⟩
  rw [leZ_u4] at ho
  exact ho.txt (rng_of (leZ_rg _ _)) (by rw [leZ_len]; omega) hb
theorem little8_c (v : Int) (w : World) : Calls Tryd.prog 33 #[.int .i64 v, .int .i64 8] w fun e w' => Txt w w' e (leZ 8 v) := by
  refine (little_c v 8 (by omega) w).mono ?_
  rintro e w' ⟨r, rfl, ho, hb⟩
  rw [leZ_u8] at ho
  exact ho.txt (rng_of (leZ_rg _ _)) (by rw [leZ_len]; omega) hb
end Go.Proofs.YtbcanodijcglpaaDoor
namespace Go.Proofs.YtbcanodijcglpaaDoor
open Go.RowKit Ch1
theorem Ow.lit1 (w : World) (B : Nat) (x : Int) (hB : B ≤ w.heap.size) : Ow (w.alloc (.cells #[.int .u8 x] 5)) B (.slice (some ⟨w.heap.size, 0, none⟩) 1 1) [x] := Ow.lit w B [x] hB (by unfold maxLen; simp)
theorem dat0 (n count : Int) (text : List Int) : datZ ⟨0, n, text, count⟩ = [0] ++ leZ 8 n := by simp [datZ]
theorem dat1 (n count : Int) (text : List Int) : datZ ⟨1, n, text, count⟩ = [1] ++ [n % 256] := by simp [datZ]
theorem dat2 (n count : Int) (text : List Int) : datZ ⟨2, n, text, count⟩ = ([2] ++ [(text.length : Int) % 256]) ++ text := by simp [datZ]
theorem dat3 (n count : Int) (text : List Int) : datZ ⟨3, n, text, count⟩ = [3] ++ leZ 2 count := by simp [datZ]
set_option maxRecDepth 20000 in
set_option maxHeartbeats 4000000 in
theorem l4datum_c (d : Dt) (tp : Option Addr) (tn tc : Nat) (w : World) (hY : By w tp tn tc d.text) (hk : d.kind = 0 ∨ d.kind = 1 ∨ (d.kind = 2 ∧ 0 < d.text.length ∧ d.text.length ≤ 100) ∨ d.kind = 3) :
    Calls Tryd.prog 34 #[.agg #[.int .i64 d.kind, .int .i64 d.n, .slice tp tn tc, .int .i64 d.count]] w fun e w' => Txt w w' e (datZ d) := by
  have HRG : Hid (Rg (datZ d)) := datZ_rg (fun x hx => by
    obtain ⟨j, hj, e⟩ := List.getElem_of_mem hx
    have := hY.rng j
    simpa [List.getD, List.getElem?_eq_getElem hj, e] using this)
  have htl : d.text.length = tn := hY.len
  have HY : Hid (∀ w9, Below w.heap.size w w9 → By w9 tp tn tc d.text) := fun w9 h9 => hY.below h9
  clear hY
  obtain ⟨k, n, text, count⟩ := d
  simp only at hk htl HY HRG ⊢
  obtain ⟨kb, hkb⟩ : ∃ kb, k % 256 = kb := ⟨_, rfl⟩
  obtain ⟨db, hdb⟩ : ∃ db, db = w.heap.size := ⟨_, rfl⟩
  obtain ⟨W, hW0⟩ : ∃ W, W = (w.alloc (.cells #[.int .i64 k, .int .i64 n, .slice tp tn tc, .int .i64 count] 75)).alloc (.cells #[.int .u8 kb] 5) := ⟨_, rfl⟩
  have HWB : Hid (Below w.heap.size w W) := by unfold Hid; rw [hW0]; exact (below1 _ _).trans ((below1 _ _).mono (by simp))
  have HDB : Hid (W.heap[db]? = some (.cells #[.int .i64 k, .int .i64 n, .slice tp tn tc, .int .i64 count] 75)) := by
    unfold Hid; rw [hW0, hdb]; exact ((below1 _ _).block _ (by simp)).trans (Go.Deep.blk_alloc_new _ _)
  have HO0 : Hid (Ow W w.heap.size (.slice (some ⟨w.heap.size + 1, 0, none⟩) 1 1) [kb]) := by
    unfold Hid; rw [hW0]
    have := Ow.lit1 (w.alloc (.cells #[.int .i64 k, .int .i64 n, .slice tp tn tc, .int .i64 count] 75)) w.heap.size kb (by simp)
    simpa using this
  have hWs : W.heap.size = w.heap.size + 1 + 1 := by rw [hW0]; simp
  have HDU : Hid (∀ w9, Below W.heap.size W w9 → Below w.heap.size w w9 ∧ w9.heap[db]? = some (.cells #[.int .i64 k, .int .i64 n, .slice tp tn tc, .int .i64 count] 75)) := fun w9 h9 => ⟨HWB.out.trans (h9.mono (by omega)), (h9.block db (by omega)).trans HDB.out⟩
  obtain ⟨c0, c1, c2, c3⟩ := cells4_of_heap HDB.out
  rw [hW0, hdb] at c0 c1 c2 c3
  go_enter Tryd.func34, Tryd.ntmps34
  rcases hk with rfl | rfl | ⟨rfl, ht0, ht1⟩ | rfl
  · obtain rfl : kb = 0 := by omega
    go_wp2_with fail
    rw [← hW0]
    clear hW0 c0 c1 c2 c3
    refine (little8_c n _).mono ?_
    rintro e w1 ⟨b1, o1, c1, rfl, hy1, hb1⟩
    have HY1 : Hid (By w1 (some ⟨b1, o1, none⟩) (leZ 8 n).length c1 (leZ 8 n)) := hy1
    have HO1 : Hid (Ow w1 w.heap.size (.slice (some ⟨w.heap.size + 1, 0, none⟩) 1 1) [0]) := HO0.out.below hb1
    have HB1 : Hid (Below w.heap.size w w1) := (HDU.out _ hb1).1
    have hs1 := HB1.out.size
    have HL8 : Hid ((leZ 8 n).length = 8) := leZ_len _ _
    clear hy1 hb1
    go_wp2_with (at_builtin; refine app2_law _ rfl (.tmp 11) (.tmp 14) rfl w.heap.size _ [0] (leZ 8 n) (by simp [Act.eval]) HO1.out b1 o1 _ c1 (by simp [Act.eval]) HY1.out (by have := HL8.out; simp; omega) hs1 ?_; intro v2 w2 ho2 hb2 _; have HT : Hid (Txt w w2 (.returned v2) (datZ ⟨0, n, text, count⟩)) := (by unfold Hid; rw [dat0] at HRG ⊢; exact ho2.txt (rng_of HRG.out) (by simp) (HB1.out.trans hb2)); clear ho2 hb2)
    go_ret
    exact HT.out
  · obtain rfl : kb = 1 := by omega
    have HO1 : Hid (Ow ((w.alloc (.cells #[.int .i64 1, .int .i64 n, .slice tp tn tc, .int .i64 count] 75)).alloc (.cells #[.int .u8 1] 5)) w.heap.size (.slice (some ⟨w.heap.size + 1, 0, none⟩) 1 1) [1]) := by unfold Hid; rw [← hW0]; exact HO0.out
    have HB1 : Hid (Below w.heap.size w ((w.alloc (.cells #[.int .i64 1, .int .i64 n, .slice tp tn tc, .int .i64 count] 75)).alloc (.cells #[.int .u8 1] 5))) := by unfold Hid; rw [← hW0]; exact HWB.out
    go_wp2_with (at_builtin; refine app1_law _ rfl (.tmp 19) (.tmp 23) rfl w.heap.size (.slice (some ⟨w.heap.size + 1, 0, none⟩) 1 1) [1] (n % 256) (by omega) (by omega) (by simp [Act.eval]) HO1.out (by simp [Act.eval]) (by simp) (by simp; omega) ?_; intro v2 w2 ho2 hb2 _; have HT : Hid (Txt w w2 (.returned v2) (datZ ⟨1, n, text, count⟩)) := (by unfold Hid; rw [dat1] at HRG ⊢; exact ho2.txt (rng_of HRG.out) (by simp) (HB1.out.trans hb2)); clear ho2 hb2)
    go_ret
    exact HT.out
  · obtain rfl : kb = 2 := by omega
    have HYT : Hid (By W tp tn tc text) := HY.out _ HWB.out
    obtain ⟨tb, tof, htp, _⟩ := HYT.out.cells (by omega)
    subst htp
    go_wp2_with fail
    have hu8 : IntKind.u8.wrap (tn : Int) = tn := by rw [IntKind.wrap_u8]; omega
    have HBN : Hid (By ((((w.alloc (.cells #[.int .i64 2, .int .i64 n, .slice (some ⟨tb, tof, none⟩) tn tc, .int .i64 count] 75)).alloc (.cells #[.int .u8 2] 5)).alloc (.cells #[.int .u8 (tn : Int)] 5))) (some ⟨w.heap.size + 1 + 1, 0, none⟩) 1 1 [(tn : Int)]) := by
      have := By.lit ((w.alloc (.cells #[.int .i64 2, .int .i64 n, .slice (some ⟨tb, tof, none⟩) tn tc, .int .i64 count] 75)).alloc (.cells #[.int .u8 2] 5)) (tn : Int) (by omega) (by omega)
      unfold Hid; simpa using this
    have HA : Hid (Ow ((((w.alloc (.cells #[.int .i64 2, .int .i64 n, .slice (some ⟨tb, tof, none⟩) tn tc, .int .i64 count] 75)).alloc (.cells #[.int .u8 2] 5)).alloc (.cells #[.int .u8 (tn : Int)] 5))) w.heap.size (.slice (some ⟨w.heap.size + 1, 0, none⟩) 1 1) [2]) := by unfold Hid; rw [← hW0]; exact HO0.out.below (below1 _ _)
    have HWA : Hid (Below w.heap.size w ((((w.alloc (.cells #[.int .i64 2, .int .i64 n, .slice (some ⟨tb, tof, none⟩) tn tc, .int .i64 count] 75)).alloc (.cells #[.int .u8 2] 5)).alloc (.cells #[.int .u8 (tn : Int)] 5)))) := by unfold Hid; rw [← hW0]; exact HWB.out.trans ((below1 _ _).mono (by omega))
    have HDA : Hid ((((w.alloc (.cells #[.int .i64 2, .int .i64 n, .slice (some ⟨tb, tof, none⟩) tn tc, .int .i64 count] 75)).alloc (.cells #[.int .u8 2] 5)).alloc (.cells #[.int .u8 (tn : Int)] 5)).heap[w.heap.size]? = some (.cells #[.int .i64 2, .int .i64 n, .slice (some ⟨tb, tof, none⟩) tn tc, .int .i64 count] 75)) := by
      unfold Hid; rw [← hW0, (below1 _ _).block _ (by omega), ← hdb]; exact HDB.out
    go_region_law (first
      | (refine appR_law _ rfl (.tmp 28) (.tmp 33) rfl w.heap.size (.slice (some ⟨w.heap.size + 1, 0, none⟩) 1 1) [2] [(tn : Int)] (by simp [Act.eval]) (by exact HA.out) (w.heap.size + 1 + 1) 0 1 1 (by simp [Act.eval]) (by exact HBN.out.below (below_drewM (Below.refl _ _))) (by omega) (by simp) (by simp; omega) ?_; intro v3 w3 ho3 hb3 hbt3; obtain ⟨p3, n3, q3, rfl⟩ := ho3.form; have HO3 : Hid (Ow w3 w.heap.size (.slice p3 n3 q3) ([2] ++ [(tn : Int)])) := ho3; have HB3 : Hid (Below w.heap.size w w3) := HWA.out.trans ⟨hb3.os, hb3.tape, hb3.output, hb3.size, hb3.block⟩; have f2 := (cells4_of_heap ((hbt3 w.heap.size (by simp; omega) (by intro h; simp [Value.ownBlock] at h)).trans HDA.out)).2.2.1; have hs3 := HB3.out.size; clear ho3 hb3 hbt3)
      | (refine appR_law _ rfl (.tmp 34) (.tmp 36) rfl w.heap.size (.slice p3 n3 q3) ([2] ++ [(tn : Int)]) text (by simp [Act.eval]) (by exact HO3.out) tb tof tn tc (by simp [Act.eval]) (by exact HY.out _ HB3.out) (by omega) (by simp; omega) hs3 ?_; intro v4 w4 ho4 hb4 _; have HT : Hid (Txt w w4 (.returned v4) (datZ ⟨2, n, text, count⟩)) := (by unfold Hid; rw [dat2, htl, show ((tn : Int) % 256) = tn by omega] at HRG ⊢; exact ho4.txt (rng_of HRG.out) (by simp) (HB3.out.trans hb4)); clear ho4 hb4))
    all_goals go_wp2
    all_goals go_ret
    all_goals exact HT.out
  · obtain rfl : kb = 3 := by omega
    go_wp2_with fail
    rw [← hW0]
    clear hW0 c0 c1 c2 c3
    refine (little2_c count _).mono ?_
    rintro e w1 ⟨b1, o1, c1, rfl, hy1, hb1⟩
    have HY1 : Hid (By w1 (some ⟨b1, o1, none⟩) (leZ 2 count).length c1 (leZ 2 count)) := hy1
    have HO1 : Hid (Ow w1 w.heap.size (.slice (some ⟨w.heap.size + 1, 0, none⟩) 1 1) [3]) := HO0.out.below hb1
    have HB1 : Hid (Below w.heap.size w w1) := (HDU.out _ hb1).1
    have hs1 := HB1.out.size
    have HL8 : Hid ((leZ 2 count).length = 2) := leZ_len _ _
    clear hy1 hb1
    go_wp2_with (at_builtin; refine app2_law _ rfl (.tmp 38) (.tmp 41) rfl w.heap.size _ [3] (leZ 2 count) (by simp [Act.eval]) HO1.out b1 o1 _ c1 (by simp [Act.eval]) HY1.out (by have := HL8.out; simp; omega) hs1 ?_; intro v2 w2 ho2 hb2 _; have HT : Hid (Txt w w2 (.returned v2) (datZ ⟨3, n, text, count⟩)) := (by unfold Hid; rw [dat3] at HRG ⊢; exact ho2.txt (rng_of HRG.out) (by simp) (HB1.out.trans hb2)); clear ho2 hb2)
    go_ret
    exact HT.out
end Go.Proofs.YtbcanodijcglpaaDoor
