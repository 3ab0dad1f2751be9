import Derived.Test.YtkkmoaidbmnolaaGreatDoorE6
namespace Go.Proofs.YtkkmoaidbmnolaaGreatDoor
open Go.RowKit Ch1
theorem Ow.lit1 (w : World) (B : Nat) (x : Int) (hB : B ≤ w.heap.size) : Ow (w.alloc (.cells #[.int .u8 x] 5)) B (.slice (some ⟨w.heap.size, 0, none⟩) 1 1) [x] := Ow.lit w B [x] hB (by unfold maxLen; simp)
theorem dat0 (n count : Int) (text : List Int) : datZ ⟨0, n, text, count⟩ = [0] ++ leZ 8 n := by simp [datZ]
theorem dat1 (n count : Int) (text : List Int) : datZ ⟨1, n, text, count⟩ = [1] ++ [n % 256] := by simp [datZ]
theorem dat2 (n count : Int) (text : List Int) : datZ ⟨2, n, text, count⟩ = ([2] ++ [(text.length : Int) % 256]) ++ text := by simp [datZ]
theorem dat3 (n count : Int) (text : List Int) : datZ ⟨3, n, text, count⟩ = [3] ++ leZ 2 count := by simp [datZ]
set_option maxRecDepth 20000 in
set_option maxHeartbeats 4000000 in
theorem l4datum_c (d : Dt) (tp : Option Addr) (tn tc : Nat) (w : World) (hY : By w tp tn tc d.text) (hk : d.kind = 0 ∨ d.kind = 1 ∨ (d.kind = 2 ∧ 0 < d.text.length ∧ d.text.length ≤ 100) ∨ d.kind = 3) :
    Calls Tryz.prog 46 #[.agg #[.int .i64 d.kind, .int .i64 d.n, .slice tp tn tc, .int .i64 d.count]] w fun e w' => Txt w w' e (datZ d) := by
  have HRG : Hid (Rg (datZ d)) := datZ_rg (fun x hx => by
    obtain ⟨j, hj, e⟩ := List.getElem_of_mem hx
    have := hY.rng j
    simpa [List.getD, List.getElem?_eq_getElem hj, e] using this)
  have htl : d.text.length = tn := hY.len
  have HY : Hid (∀ w9, Below w.heap.size w w9 → By w9 tp tn tc d.text) := fun w9 h9 => hY.below h9
  clear hY
  obtain ⟨k, n, text, count⟩ := d
  simp only at hk htl HY HRG ⊢
  obtain ⟨kb, hkb⟩ : ∃ kb, k % 256 = kb := ⟨_, rfl⟩
  obtain ⟨db, hdb⟩ : ∃ db, db = w.heap.size := ⟨_, rfl⟩
  obtain ⟨W, hW0⟩ : ∃ W, W = (w.alloc (.cells #[.int .i64 k, .int .i64 n, .slice tp tn tc, .int .i64 count] 41)).alloc (.cells #[.int .u8 kb] 5) := ⟨_, rfl⟩
  have HWB : Hid (Below w.heap.size w W) := by unfold Hid; rw [hW0]; exact (below1 _ _).trans ((below1 _ _).mono (by simp))
  have HDB : Hid (W.heap[db]? = some (.cells #[.int .i64 k, .int .i64 n, .slice tp tn tc, .int .i64 count] 41)) := by
    unfold Hid; rw [hW0, hdb]; exact ((below1 _ _).block _ (by simp)).trans (Go.Deep.blk_alloc_new _ _)
  have HO0 : Hid (Ow W w.heap.size (.slice (some ⟨w.heap.size + 1, 0, none⟩) 1 1) [kb]) := by
    unfold Hid; rw [hW0]
    have := Ow.lit1 (w.alloc (.cells #[.int .i64 k, .int .i64 n, .slice tp tn tc, .int .i64 count] 41)) w.heap.size kb (by simp)
    simpa using this
  have hWs : W.heap.size = w.heap.size + 1 + 1 := by rw [hW0]; simp
  have HDU : Hid (∀ w9, Below W.heap.size W w9 → Below w.heap.size w w9 ∧ w9.heap[db]? = some (.cells #[.int .i64 k, .int .i64 n, .slice tp tn tc, .int .i64 count] 41)) := fun w9 h9 => ⟨HWB.out.trans (h9.mono (by omega)), (h9.block db (by omega)).trans HDB.out⟩
  obtain ⟨c0, c1, c2, c3⟩ := cells4_of_heap HDB.out
  rw [hW0, hdb] at c0 c1 c2 c3
  go_enter Tryz.func46, Tryz.ntmps46
  rcases hk with rfl | rfl | ⟨rfl, ht0, ht1⟩ | rfl
  · obtain rfl : kb = 0 := by omega
    go_wp2_with fail
    rw [← hW0]
    clear hW0 c0 c1 c2 c3
    refine (little8_c n _).mono ?_
    rintro e w1 ⟨b1, o1, c1, rfl, hy1, hb1⟩
    have HY1 : Hid (By w1 (some ⟨b1, o1, none⟩) (leZ 8 n).length c1 (leZ 8 n)) := hy1
    have HO1 : Hid (Ow w1 w.heap.size (.slice (some ⟨w.heap.size + 1, 0, none⟩) 1 1) [0]) := HO0.out.below hb1
    have HB1 : Hid (Below w.heap.size w w1) := (HDU.out _ hb1).1
    have hs1 := HB1.out.size
    have HL8 : Hid ((leZ 8 n).length = 8) := leZ_len _ _
    clear hy1 hb1
    go_wp2_with (at_builtin; refine app2_law _ rfl (.tmp 11) (.tmp 14) rfl w.heap.size _ [0] (leZ 8 n) (by simp [Act.eval]) HO1.out b1 o1 _ c1 (by simp [Act.eval]) HY1.out (by have := HL8.out; simp; omega) hs1 ?_; intro v2 w2 ho2 hb2 _; have HT : Hid (Txt w w2 (.returned v2) (datZ ⟨0, n, text, count⟩)) := (by unfold Hid; rw [dat0] at HRG ⊢; exact ho2.txt (rng_of HRG.out) (by simp) (HB1.out.trans hb2)); clear ho2 hb2)
    go_ret
    exact HT.out
  · obtain rfl : kb = 1 := by omega
    have HO1 : Hid (Ow ((w.alloc (.cells #[.int .i64 1, .int .i64 n, .slice tp tn tc, .int .i64 count] 41)).alloc (.cells #[.int .u8 1] 5)) w.heap.size (.slice (some ⟨w.heap.size + 1, 0, none⟩) 1 1) [1]) := by unfold Hid; rw [← hW0]; exact HO0.out
    have HB1 : Hid (Below w.heap.size w ((w.alloc (.cells #[.int .i64 1, .int .i64 n, .slice tp tn tc, .int .i64 count] 41)).alloc (.cells #[.int .u8 1] 5))) := by unfold Hid; rw [← hW0]; exact HWB.out
    go_wp2_with (at_builtin; refine app1_law _ rfl (.tmp 19) (.tmp 23) rfl w.heap.size (.slice (some ⟨w.heap.size + 1, 0, none⟩) 1 1) [1] (n % 256) (by omega) (by omega) (by simp [Act.eval]) HO1.out (by simp [Act.eval]) (by simp) (by simp; omega) ?_; intro v2 w2 ho2 hb2 _; have HT : Hid (Txt w w2 (.returned v2) (datZ ⟨1, n, text, count⟩)) := (by unfold Hid; rw [dat1] at HRG ⊢; exact ho2.txt (rng_of HRG.out) (by simp) (HB1.out.trans hb2)); clear ho2 hb2)
    go_ret
    exact HT.out
  · obtain rfl : kb = 2 := by omega
    have HYT : Hid (By W tp tn tc text) := HY.out _ HWB.out
    obtain ⟨tb, tof, htp, _⟩ := HYT.out.cells (by omega)
    subst htp
    go_wp2_with fail
    have hu8 : IntKind.u8.wrap (tn : Int) = tn := by rw [IntKind.wrap_u8]; omega
    have HBN : Hid (By ((((w.alloc (.cells #[.int .i64 2, .int .i64 n, .slice (some ⟨tb, tof, none⟩) tn tc, .int .i64 count] 41)).alloc (.cells #[.int .u8 2] 5)).alloc (.cells #[.int .u8 (tn : Int)] 5))) (some ⟨w.heap.size + 1 + 1, 0, none⟩) 1 1 [(tn : Int)]) := by
      have := By.lit ((w.alloc (.cells #[.int .i64 2, .int .i64 n, .slice (some ⟨tb, tof, none⟩) tn tc, .int .i64 count] 41)).alloc (.cells #[.int .u8 2] 5)) (tn : Int) (by omega) (by omega)
      unfold Hid; simpa using this
    have HA : Hid (Ow ((((w.alloc (.cells #[.int .i64 2, .int .i64 n, .slice (some ⟨tb, tof, none⟩) tn tc, .int .i64 count] 41)).alloc (.cells #[.int .u8 2] 5)).alloc (.cells #[.int .u8 (tn : Int)] 5))) w.heap.size (.slice (some ⟨w.heap.size + 1, 0, none⟩) 1 1) [2]) := by unfold Hid; rw [← hW0]; exact HO0.out.below (below1 _ _)
    have HWA : Hid (Below w.heap.size w ((((w.alloc (.cells #[.int .i64 2, .int .i64 n, .slice (some ⟨tb, tof, none⟩) tn tc, .int .i64 count] 41)).alloc (.cells #[.int .u8 2] 5)).alloc (.cells #[.int .u8 (tn : Int)] 5)))) := by unfold Hid; rw [← hW0]; exact HWB.out.trans ((below1 _ _).mono (by omega))
    have HDA : Hid ((((w.alloc (.cells #[.int .i64 2, .int .i64 n, .slice (some ⟨tb, tof, none⟩) tn tc, .int .i64 count] 41)).alloc (.cells #[.int .u8 2] 5)).alloc (.cells #[.int .u8 (tn : Int)] 5)).heap[w.heap.size]? = some (.cells #[.int .i64 2, .int .i64 n, .slice (some ⟨tb, tof, none⟩) tn tc, .int .i64 count] 41)) := by
      unfold Hid; rw [← hW0, (below1 _ _).block _ (by omega), ← hdb]; exact HDB.out
    go_region_law (first
      | (refine appR_law _ rfl (.tmp 28) (.tmp 33) rfl w.heap.size (.slice (some ⟨w.heap.size + 1, 0, none⟩) 1 1) [2] [(tn : Int)] (by simp [Act.eval]) (by exact HA.out) (w.heap.size + 1 + 1) 0 1 1 (by simp [Act.eval]) (by exact HBN.out.below (below_drewM (Below.refl _ _))) (by omega) (by simp) (by simp; omega) ?_; intro v3 w3 ho3 hb3 hbt3; obtain ⟨p3, n3, q3, rfl⟩ := ho3.form; have HO3 : Hid (Ow w3 w.heap.size (.slice p3 n3 q3) ([2] ++ [(tn : Int)])) := ho3; have HB3 : Hid (Below w.heap.size w w3) := HWA.out.trans ⟨hb3.os, hb3.tape, hb3.output, hb3.size, hb3.block⟩; have f2 := (cells4_of_heap ((hbt3 w.heap.size (by simp; omega) (by intro h; simp [Value.ownBlock] at h)).trans HDA.out)).2.2.1; have hs3 := HB3.out.size; clear ho3 hb3 hbt3)
      | (refine appR_law _ rfl (.tmp 34) (.tmp 36) rfl w.heap.size (.slice p3 n3 q3) ([2] ++ [(tn : Int)]) text (by simp [Act.eval]) (by exact HO3.out) tb tof tn tc (by simp [Act.eval]) (by exact HY.out _ HB3.out) (by omega) (by simp; omega) hs3 ?_; intro v4 w4 ho4 hb4 _; have HT : Hid (Txt w w4 (.returned v4) (datZ ⟨2, n, text, count⟩)) := (by unfold Hid; rw [dat2, htl, show ((tn : Int) % 256) = tn by omega] at HRG ⊢; exact ho4.txt (rng_of HRG.out) (by simp) (HB3.out.trans hb4)); clear ho4 hb4))
    all_goals go_wp2
    all_goals go_ret
    all_goals exact HT.out
  · obtain rfl : kb = 3 := by omega
    go_wp2_with fail
    rw [← hW0]
    clear hW0 c0 c1 c2 c3
    refine (little2_c count _).mono ?_
    rintro e w1 ⟨b1, o1, c1, rfl, hy1, hb1⟩
    have HY1 : Hid (By w1 (some ⟨b1, o1, none⟩) (leZ 2 count).length c1 (leZ 2 count)) := hy1
    have HO1 : Hid (Ow w1 w.heap.size (.slice (some ⟨w.heap.size + 1, 0, none⟩) 1 1) [3]) := HO0.out.below hb1
    have HB1 : Hid (Below w.heap.size w w1) := (HDU.out _ hb1).1
    have hs1 := HB1.out.size
    have HL8 : Hid ((leZ 2 count).length = 2) := leZ_len _ _
    clear hy1 hb1
    go_wp2_with (at_builtin; refine app2_law _ rfl (.tmp 38) (.tmp 41) rfl w.heap.size _ [3] (leZ 2 count) (by simp [Act.eval]) HO1.out b1 o1 _ c1 (by simp [Act.eval]) HY1.out (by have := HL8.out; simp; omega) hs1 ?_; intro v2 w2 ho2 hb2 _; have HT : Hid (Txt w w2 (.returned v2) (datZ ⟨3, n, text, count⟩)) := (by unfold Hid; rw [dat3] at HRG ⊢; exact ho2.txt (rng_of HRG.out) (by simp) (HB1.out.trans hb2)); clear ho2 hb2)
    go_ret
    exact HT.out
end Go.Proofs.YtkkmoaidbmnolaaGreatDoor
namespace Go.Proofs.YtkkmoaidbmnolaaGreatDoor
open Go.RowKit Ch1
/-- A function's block. -/
def Fq (fb : Nat) (f : Fn) (rp : Option Addr) (rl rc : Nat) (dp : Option Addr) (dl dc : Nat) (w : World) : Prop := w.heap[fb]? = some (.cells #[.int .i64 f.params, .slice rp rl rc, .slice dp dl dc] 46)
theorem Fq.b3 {fb : Nat} {f : Fn} {rp : Option Addr} {rl rc : Nat} {dp : Option Addr} {dl dc : Nat} {w : World} (h : Fq fb f rp rl rc dp dl dc w) : B3 w fb (.int .i64 f.params) (.slice rp rl rc) (.slice dp dl dc) := B3.of_heap h
theorem Fq.below {fb : Nat} {f : Fn} {rp : Option Addr} {rl rc : Nat} {dp : Option Addr} {dl dc : Nat} {w w' : World} (h : Fq fb f rp rl rc dp dl dc w) (hb : Below w.heap.size w w') : Fq fb f rp rl rc dp dl dc w' := (hb.block fb (Array.getElem?_eq_some_iff.1 h).1).trans h
theorem Fq.but {fb : Nat} {f : Fn} {rp : Option Addr} {rl rc : Nat} {dp : Option Addr} {dl dc : Nat} {w w' : World} {B : Nat} {v : Value} {xs : List Int} (h : Fq fb f rp rl rc dp dl dc w) (ho : Ow w B v xs) (hb : But w w' v) : Fq fb f rp rl rc dp dl dc w' := (hb fb (Array.getElem?_eq_some_iff.1 h).1 (own_ne ho h (by decide))).trans h
theorem By.two (w : World) (x y : Int) (hx0 : 0 ≤ x) (hx1 : x < 256) (hy0 : 0 ≤ y) (hy1 : y < 256) : By (w.alloc (.cells #[.int .u8 x, .int .u8 y] 5)) (some ⟨w.heap.size, 0, none⟩) 2 2 [x, y] := by
  have h := (Ow.lit w w.heap.size [x, y] (Nat.le_refl _) (by unfold maxLen; simp)).by_ (rng_of (fun z hz => by simp at hz; omega))
  obtain ⟨p, c, e, hy, _⟩ := h
  cases e
  exact hy
/-- append(v, x, y). -/
theorem app22_law (w : World) {ops : Array Oper} {rest : List Oper} {o : Oper} {a : Act} {Q : Exit → Act → World → Prop} (hgd : o.guard = none) (s x : Operand)
    (ho : o.op = .call { callee := .builtin .append, args := #[s, x], argTypes := #[22, 22] }) (B : Nat) (v : Value) (xs : List Int) (y z : Int) (h0 : 0 ≤ y ∧ y < 256) (h1 : 0 ≤ z ∧ z < 256) (hs : a.eval s = v) (hown : Ow w B v xs) (hx : a.eval x = .slice (some ⟨w.heap.size, 0, none⟩) 2 2)
    (hlen : xs.length ≤ 500000000) (hB : B ≤ w.heap.size)
    (h : ∀ v' w', Ow w' B v' (xs ++ [y, z]) → Below B w w' → But w w' v → wpList Tryz.prog ops Q rest (a.put o.dst v') w') : wpList Tryz.prog ops Q (o :: rest) a (w.alloc (.cells #[.int .u8 y, .int .u8 z] 5)) :=
  app_law _ hgd s x ho B v xs [y, z] hs (hown.below (below1 _ _)) w.heap.size 0 2 2 hx (By.two w y z h0.1 h0.2 h1.1 h1.2) (by omega) (by simp; omega) (fun v' w' k1 k2 k3 => h v' w' k1 (((below1 _ _).mono hB).trans k2) (fun k hk hne => (k3.block k (by simp; omega) hne).trans ((below1 w _).block k hk)))
/-- At the heads of the loops. -/
def LcI (B : Nat) (W : World) (n : Nat) (ls : List (List Dt)) (hd : List Int) (ov iv : Value) (wr : World) : Prop := ∃ i : Nat, i ≤ n ∧ iv = .int .i64 i ∧ Hid (Ow wr B ov (hd ++ ccZ ls i)) ∧ Hid (Below B W wr)
def LdI (B : Nat) (W : World) (n : Nat) (ds : List Dt) (hd : List Int) (ov iv : Value) (wr : World) : Prop := ∃ i : Nat, i ≤ n ∧ iv = .int .i64 i ∧ Hid (Ow wr B ov (hd ++ dsZ ds i)) ∧ Hid (Below B W wr)
def LfI (B : Nat) (W : World) (n : Nat) (fs : List Fn) (hd : List Int) (ov iv : Value) (wr : World) : Prop := ∃ i : Nat, i ≤ n ∧ iv = .int .i64 i ∧ Hid (Ow wr B ov (hd ++ ffZ fs i)) ∧ Hid (Below B W wr)
def LrI (B : Nat) (W : World) (fb : Nat) (f : Fn) (rp : Option Addr) (rl rc : Nat) (dp : Option Addr) (dl dc : Nat) (hd : List Int) (ov iv : Value) (wr : World) : Prop := ∃ i : Nat, i ≤ rl ∧ iv = .int .i64 i ∧ Hid (Ow wr B ov (hd ++ frZ f.free i)) ∧ Hid (Below B W wr) ∧ Hid (Fq fb f rp rl rc dp dl dc wr)
def LkI (B : Nat) (W : World) (fb : Nat) (f : Fn) (rp : Option Addr) (rl rc : Nat) (dp : Option Addr) (dl dc : Nat) (hd : List Int) (ov iv : Value) (wr : World) : Prop := ∃ i : Nat, i ≤ dl ∧ iv = .int .i64 i ∧ Hid (Ow wr B ov (hd ++ cdZ f.code i)) ∧ Hid (Below B W wr) ∧ Hid (Fq fb f rp rl rc dp dl dc wr)
set_option maxRecDepth 20000 in
set_option maxHeartbeats 16000000 in
theorem l4image_c (cp : Option Addr) (cn cc : Nat) (fp : Option Addr) (fn fc : Nat) (m : Md) (w : World) (hM : Mo w cp cn cc fp fn fc m) (hG : GoodM m) (hR : Rg (bdZ m)) :
    Calls Tryz.prog 26 #[.agg #[.slice cp cn cc, .int .i64 m.globals, .slice fp fn fc]] w fun e w' => ∃ v, e = .returned v ∧ Ow w' w.heap.size v (imZ m) ∧ Below w.heap.size w w' := by
  have HG : Hid (GoodM m) := hG
  have HRB : Hid (Rg (bdZ m)) := hR
  have HFL : Hid (m.funcs.length = fn) := hM.fs.len
  have HCL : Hid (m.consts.length = cn) := hM.cs.len
  have hcn5 : cn ≤ 500 := by have := hG.cs.few; rw [HCL.out] at this; exact this
  have hfn2 : fn ≤ 200 := by have := hG.f2; rw [HFL.out] at this; exact this
  obtain ⟨W, hW⟩ : ∃ W, W = w.alloc (.cells #[.slice cp cn cc, .int .i64 m.globals, .slice fp fn fc] 26) := ⟨_, rfl⟩
  have HX0 : Hid (B3 W w.heap.size (.slice cp cn cc) (.int .i64 m.globals) (.slice fp fn fc)) := by unfold Hid; rw [hW]; exact B3.new w _ _ _ _
  have HWB : Hid (Below w.heap.size w W) := by unfold Hid; rw [hW]; exact below1 _ _
  have hWs : W.heap.size = w.heap.size + 1 := by rw [hW]; simp
  have HMW : Hid (Mo W cp cn cc fp fn fc m) := hM.below HWB.out
  obtain ⟨B, hBB⟩ : ∃ B, B = W.heap.size := ⟨_, rfl⟩
  have HUP : Hid (∀ wr, Below B W wr → B3 wr w.heap.size (.slice cp cn cc) (.int .i64 m.globals) (.slice fp fn fc) ∧ B ≤ wr.heap.size ∧ Below W.heap.size W wr) := fun wr h => ⟨HX0.out.below (by rw [← hBB]; exact h), by rw [hBB]; rw [hBB] at h; exact h.size, by rw [← hBB]; exact h⟩
  have kc := fun (w : World) (C : Array Value) (n c : Nat) => Lib.run_convert_bytes_const (P := Tryz.prog) w 22 5 C n c Tryz.underlying22 Tryz.underlying5
  obtain ⟨W1, hW1⟩ : ∃ W1, W1 = W.alloc (.cells #[.int .u8 83, .int .u8 76, .int .u8 65, .int .u8 49] 5 (4, 5)) := ⟨_, rfl⟩
  have HB1 : Hid (Below B W W1) := by unfold Hid; rw [hW1, hBB]; exact below1 _ _
  have HY1 : Hid (By W1 (some ⟨w.heap.size + 1, 0, none⟩) 4 4 [83, 76, 65, 49]) := by unfold Hid; rw [hW1, ← hWs]; exact By.sla W
  have g1 : (W.alloc (.cells #[.int .u8 83, .int .u8 76, .int .u8 65, .int .u8 49] 5 (4, 5))).cell? ⟨w.heap.size, 1, none⟩ = some (.int .i64 m.globals) := by rw [← hW1]; exact (HUP.out _ HB1.out).1.c1
  clear hM hG hR
  go_enter Tryz.func26, Tryz.ntmps26
  go_wp2_with fail
  have HWS : Hid (W.heap.size = w.heap.size + 1) := hWs
  rw [← hW, ← hWs, kc]
  clear hWs
  go_wp2_with fail
  rw [← hW, ← hW1]
  clear hW hW1 g1 kc
  refine (little2_c m.globals _).mono ?_
  rintro e w2 ⟨b2, o2, c2, rfl, hy2, hb2⟩
  have HB2 : Hid (Below B W w2) := HB1.out.trans (hb2.mono (HUP.out _ HB1.out).2.1)
  have HY2 : Hid (By w2 (some ⟨b2, o2, none⟩) (leZ 2 m.globals).length c2 (leZ 2 m.globals)) := hy2
  have HY1' : Hid (By w2 (some ⟨w.heap.size + 1, 0, none⟩) 4 4 [83, 76, 65, 49]) := HY1.out.below hb2
  have hs2 := (HUP.out _ HB2.out).2.1
  have HL2 : Hid (∀ v, (leZ 2 v).length = 2) := leZ_len 2
  clear hy2 hb2 HY1
  go_wp2_with (first
    | (at_builtin; first
      | (refine appG_law _ rfl (.tmp 13) (.tmp 16) rfl (w.heap.size + 1) 0 4 [83, 76, 65, 49] (leZ 2 m.globals) (by simp [Act.eval]) HY1'.out b2 o2 _ c2 (by simp [Act.eval]) HY2.out (by have := HL2.out m.globals; omega) (by have := HL2.out m.globals; omega) ?_; intro v3 w3 ho3 hb3; have HO3 : Hid (Ow w3 B v3 ([83, 76, 65, 49] ++ leZ 2 m.globals)) := ho3.mono hs2; have HB3 : Hid (Below B W w3) := HB2.out.trans (hb3.mono hs2); have hs3 := (HUP.out _ HB3.out).2.1; have x0 := (HUP.out _ HB3.out).1.c0; clear ho3 hb3)
      | (refine app2_law _ rfl (.tmp 18) (.tmp 22) rfl B _ ([83, 76, 65, 49] ++ leZ 2 m.globals) (leZ 2 (cn : Int)) (by simp [Act.eval]) HO4.out b4 o4 _ c4 (by simp [Act.eval]) HY4.out (by have := HL2.out m.globals; have := HL2.out (cn : Int); simp; omega) hs4 ?_; intro v5 w5 ho5 hb5 _; have HO5 : Hid (Ow w5 B v5 (([83, 76, 65, 49] ++ leZ 2 m.globals) ++ leZ 2 (cn : Int))) := ho5; have HB5 : Hid (Below B W w5) := HB4.out.trans hb5; clear ho5 hb5))
    | (go_at_call 45; refine (little2_c (cn : Int) _).mono ?_; rintro e w4 ⟨b4, o4, c4, rfl, hy4, hb4⟩; have HB4 : Hid (Below B W w4) := HB3.out.trans (hb4.mono hs3); have HY4 : Hid (By w4 (some ⟨b4, o4, none⟩) (leZ 2 (cn : Int)).length c4 (leZ 2 (cn : Int))) := hy4; have HO4 : Hid (Ow w4 B _ ([83, 76, 65, 49] ++ leZ 2 m.globals)) := HO3.out.below hb4; have hs4 := (HUP.out _ HB4.out).2.1; clear hy4 hb4))
  have HE : Hid (bdZ m = (((([83, 76, 65, 49] ++ leZ 2 m.globals) ++ leZ 2 (cn : Int)) ++ ccZ m.consts cn) ++ leZ 2 (fn : Int)) ++ ffZ m.funcs fn) := by unfold Hid bdZ; rw [HCL.out, HFL.out]
  have hl5 : (([83, 76, 65, 49] ++ leZ 2 m.globals) ++ leZ 2 (cn : Int)).length = 8 := by simp [leZ_len]
  clear HB1 HB2 HY2 HY1' HO3 HB3 HY4 HO4 HB4 hs2 hs3 hs4 x0
  generalize (([83, 76, 65, 49] ++ leZ 2 m.globals) ++ leZ 2 (cn : Int) : List Int) = hd at HE hl5 HO5
  go_loopw [3, 4] (fun ov iv wr => LcI B W cn m.consts hd ov iv wr) (fun _ iv _ => cn - (intOf iv).toNat)
  case atStart => exact ⟨0, Nat.zero_le _, rfl, by unfold Hid; show Ow _ _ _ (hd ++ []); rw [List.append_nil]; exact HO5.out, HB5⟩
  case round =>
    clear HO5 HB5
    obtain ⟨i, hi, rfl, hO, hB⟩ := hrel
    obtain ⟨hX, hsr, hBW⟩ := HUP.out _ hB.out
    have x0 := hX.c0
    have x2 := hX.c2
    have hal : (hd ++ ccZ m.consts i).length ≤ 164000000 := by have := ccZ_len HG.out i (by rw [HCL.out]; exact hi); rw [List.length_append]; omega
    clear hX
    by_cases hlt : i < cn
    · clear x2
      obtain ⟨bb, o, rfl, hbl, gg⟩ := HMW.out.cs.cells (by omega)
      obtain ⟨q, n, c, ew, hew⟩ := gg i hlt
      have HEC : Hid (∀ w9, Below B W w9 → w9.cell? ⟨w.heap.size, 0, none⟩ = some (.slice (some ⟨bb, o, none⟩) cn cc) ∧ w9.cell? ⟨bb, o + i, none⟩ = some (.slice q n c) ∧ Da w9 q n c (m.consts.getD i [])) := fun w9 h9 => ⟨(HUP.out w9 h9).1.c0, by rw [(HUP.out w9 h9).2.2.cell (p := ⟨bb, o + i, none⟩) hbl]; exact ew, hew.below (HUP.out w9 h9).2.2⟩
      have hgd := cst_good HG.out (show i < m.consts.length by rw [HCL.out]; exact hlt)
      have hnl : (m.consts.getD i []).length = n := hew.len
      have HNL : Hid ((m.consts.getD i []).length = n) := hnl
      rw [hnl] at hgd
      have hn3 := hgd.1
      have HGD : Hid (∀ j, j < n → goodB ((m.consts.getD i []).getD j dt0) = true) := hgd.2
      have HX : Hid (hd ++ ccZ m.consts (i + 1) = ((hd ++ ccZ m.consts i) ++ leZ 2 (n : Int)) ++ dsZ (m.consts.getD i []) n) := by unfold Hid; rw [ccZ_succ]; unfold cstZ; rw [HNL.out]; simp
      have e0 := (HEC.out _ hB.out).2.1
      clear gg ew hew hgd hnl hBW
      generalize hd ++ ccZ m.consts i = acc at hO hal HX
      generalize m.consts.getD i [] = ds at HEC HNL HGD HX
      go_wp2_with (first
        | (at_builtin; refine app2_law _ rfl (.tmp 31) (.tmp 38) rfl B _ acc (leZ 2 (n : Int)) (by simp [Act.eval]) HO1.out b1 o1 _ c1 (by simp [Act.eval]) HY1.out (by have := HL2.out (n : Int); omega) hs1 ?_; intro v2 w2 ho2 hb2 _; have HO2 : Hid (Ow w2 B v2 (acc ++ leZ 2 (n : Int))) := ho2; have HB2 : Hid (Below B W w2) := HB1.out.trans hb2; clear ho2 hb2)
        | (go_at_call 45; refine (little2_c (n : Int) _).mono ?_; rintro e w1 ⟨b1, o1, c1, rfl, hy1, hb1⟩; have HB1 : Hid (Below B W w1) := hB.out.trans (hb1.mono hsr); have HY1 : Hid (By w1 (some ⟨b1, o1, none⟩) (leZ 2 (n : Int)).length c1 (leZ 2 (n : Int))) := hy1; have HO1 : Hid (Ow w1 B _ acc) := hO.out.below hb1; have hs1 := (HUP.out _ HB1.out).2.1; clear hy1 hb1))
      have hal2 : (acc ++ leZ 2 (n : Int)).length ≤ 164000002 := by rw [List.length_append, leZ_len]; omega
      clear hO hB HY1 HO1 HB1 hs1 x0 e0 hsr
      generalize acc ++ leZ 2 (n : Int) = ac2 at HO2 hal2 HX
      go_loopw [3, 5] (fun ov kv wr => LdI B W n ds ac2 ov kv wr) (fun _ kv _ => n - (intOf kv).toNat)
      case atStart => exact ⟨0, Nat.zero_le _, rfl, by unfold Hid; show Ow _ _ _ (ac2 ++ []); rw [List.append_nil]; exact HO2.out, HB2⟩
      case round =>
        clear HO2 HB2
        obtain ⟨k, hk, rfl, hO, hB⟩ := hrel
        obtain ⟨x0, e0, hda⟩ := HEC.out _ hB.out
        have hsr := (HUP.out _ hB.out).2.1
        by_cases hltk : k < n
        · obtain ⟨b3, o3, rfl, hbl3, gg⟩ := hda.cells (by omega)
          obtain ⟨tp, tn, tc, he⟩ := gg k hltk
          have d0 := he.c0
          have d1 := he.c1
          have d2 := he.c2
          have d3 := he.c3
          have HYT : Hid (By wr tp tn tc (ds.getD k dt0).text) := he.by_
          have HGK : Hid (goodB (ds.getD k dt0) = true) := HGD.out k hltk
          have HXK : Hid (ac2 ++ dsZ ds (k + 1) = (ac2 ++ dsZ ds k) ++ datZ (ds.getD k dt0)) := by unfold Hid; rw [dsZ_succ, List.append_assoc]
          have hak : (ac2 ++ dsZ ds k).length ≤ 165000000 := by have := dsZ_len HGD.out k hk; rw [List.length_append]; omega
          have hdl : (datZ (ds.getD k dt0)).length ≤ 109 := datZ_good HGK.out
          clear gg he hda
          generalize ac2 ++ dsZ ds k = ac3 at hO HXK hak
          generalize ds.getD k dt0 = d at d0 d1 d2 d3 HYT HGK HXK hdl
          go_wp2_with (first
            | (at_builtin; refine app2_law _ rfl (.tmp 50) (.tmp 59) rfl B _ ac3 (datZ d) (by simp [Act.eval]) HO4.out b4 o4 _ c4 (by simp [Act.eval]) HY4.out (by omega) hs4 ?_; intro v5 w5 ho5 hb5 _; have HO5 : Hid (Ow w5 B v5 (ac3 ++ datZ d)) := ho5; have HB5 : Hid (Below B W w5) := HB4.out.trans hb5; clear ho5 hb5)
            | (go_at_call 46; refine (l4datum_c d tp tn tc _ HYT.out (good_hk HGK.out)).mono ?_; rintro e w4 ⟨b4, o4, c4, rfl, hy4, hb4⟩; have HB4 : Hid (Below B W w4) := hB.out.trans (hb4.mono hsr); have HY4 : Hid (By w4 (some ⟨b4, o4, none⟩) (datZ d).length c4 (datZ d)) := hy4; have HO4 : Hid (Ow w4 B _ ac3) := hO.out.below hb4; have hs4 := (HUP.out _ HB4.out).2.1; clear hy4 hb4))
          exact ⟨⟨k + 1, by omega, by go_num, by unfold Hid; rw [HXK.out]; exact HO5.out, HB5⟩, by simp [intOf]; omega⟩
        · obtain rfl : k = n := by omega
          clear hda
          go_wp2
          exact ⟨⟨i + 1, by omega, by go_num, by unfold Hid; rw [HX.out]; exact hO.out, hB⟩, by simp [intOf]; omega⟩
    · obtain rfl : i = cn := by omega
      have HE2 : Hid (bdZ m = ((hd ++ ccZ m.consts i) ++ leZ 2 (fn : Int)) ++ ffZ m.funcs fn) := HE.out
      clear HE hBW
      generalize hd ++ ccZ m.consts i = acc at hO hal HE2
      go_wp2_with (first
        | (at_builtin; refine app2_law _ rfl (.tmp 61) (.tmp 65) rfl B _ acc (leZ 2 (fn : Int)) (by simp [Act.eval]) HO1.out b1 o1 _ c1 (by simp [Act.eval]) HY1.out (by have := HL2.out (fn : Int); omega) hs1 ?_; intro v2 w2 ho2 hb2 _; have HO2 : Hid (Ow w2 B v2 (acc ++ leZ 2 (fn : Int))) := ho2; have HB2 : Hid (Below B W w2) := HB1.out.trans hb2; clear ho2 hb2)
        | (go_at_call 45; refine (little2_c (fn : Int) _).mono ?_; rintro e w1 ⟨b1, o1, c1, rfl, hy1, hb1⟩; have HB1 : Hid (Below B W w1) := hB.out.trans (hb1.mono hsr); have HY1 : Hid (By w1 (some ⟨b1, o1, none⟩) (leZ 2 (fn : Int)).length c1 (leZ 2 (fn : Int))) := hy1; have HO1 : Hid (Ow w1 B _ acc) := hO.out.below hb1; have hs1 := (HUP.out _ HB1.out).2.1; clear hy1 hb1))
      have hal2 : (acc ++ leZ 2 (fn : Int)).length ≤ 164000002 := by rw [List.length_append, leZ_len]; omega
      clear hO hB HY1 HO1 HB1 hs1 x2 x0 hsr
      generalize acc ++ leZ 2 (fn : Int) = hd2 at HO2 hal2 HE2
      go_loopw [3, 6] (fun ov iv wr => LfI B W fn m.funcs hd2 ov iv wr) (fun _ iv _ => fn - (intOf iv).toNat)
      case atStart => exact ⟨0, Nat.zero_le _, rfl, by unfold Hid; show Ow _ _ _ (hd2 ++ []); rw [List.append_nil]; exact HO2.out, HB2⟩
      case round =>
        clear HO2 HB2
        obtain ⟨j, hj, rfl, hO, hB⟩ := hrel
        obtain ⟨hX, hsr, hBW⟩ := HUP.out _ hB.out
        have x2 := hX.c2
        have hal3 : (hd2 ++ ffZ m.funcs j).length ≤ 169000000 := by have := ffZ_len HG.out j (by rw [HFL.out]; exact hj); rw [List.length_append]; omega
        clear hX
        by_cases hlt2 : j < fn
        · obtain ⟨bb, o, rfl, hbl, gg⟩ := HMW.out.fs.cells (by omega)
          obtain ⟨rp, rl, rc, dp, dl, dc, hew⟩ := gg j hlt2
          have he := hew.below hbl hBW
          have e0 := he.c0
          have e1 := he.c1
          have e2 := he.c2
          have HFR : Hid (∀ w9, Below B W w9 → Bo w9 rp rl rc (m.funcs.getD j fn0).free) := fun w9 h9 => hew.free.below (HUP.out w9 h9).2.2
          have HCO : Hid (∀ w9, Below B W w9 → Ii w9 dp dl dc (m.funcs.getD j fn0).code) := fun w9 h9 => hew.code.below (HUP.out w9 h9).2.2
          have hff := fnFacts HG.out (show j < m.funcs.length by rw [HFL.out]; exact hlt2)
          have HRL : Hid ((m.funcs.getD j fn0).free.length = rl) := hew.free.len
          have HDL : Hid ((m.funcs.getD j fn0).code.length = dl) := hew.code.len
          have hrl : rl ≤ 50 := by rw [← hew.free.len]; exact hff.1
          have hdl : dl ≤ 5000 := by rw [← hew.code.len]; exact hff.2
          have HX : Hid (hd2 ++ ffZ m.funcs (j + 1) = ((((hd2 ++ ffZ m.funcs j) ++ [(m.funcs.getD j fn0).params % 256, (rl : Int)]) ++ frZ (m.funcs.getD j fn0).free rl) ++ leZ 2 (dl : Int)) ++ cdZ (m.funcs.getD j fn0).code dl) := by unfold Hid; rw [ffZ_succ]; unfold fcZ; rw [HRL.out, HDL.out, show ((rl : Int) % 256) = rl by omega]; simp
          clear gg hew he hff hBW hbl
          generalize hd2 ++ ffZ m.funcs j = acc3 at hO HX hal3
          generalize m.funcs.getD j fn0 = f at e0 HFR HCO HRL HDL HX
          obtain ⟨fb, hfb⟩ : ∃ fb, fb = wr.heap.size := ⟨_, rfl⟩
          obtain ⟨W2, hW2⟩ : ∃ W2, W2 = wr.alloc (.cells #[.int .i64 f.params, .slice rp rl rc, .slice dp dl dc] 46) := ⟨_, rfl⟩
          have HF2 : Hid (Fq fb f rp rl rc dp dl dc W2) := by unfold Hid Fq; rw [hW2, hfb]; exact Go.Deep.blk_alloc_new _ _
          have HR2 : Hid (Below wr.heap.size wr W2) := by unfold Hid; rw [hW2]; exact below1 _ _
          have HB2 : Hid (Below B W W2) := hB.out.trans (HR2.out.mono hsr)
          have hs2 := (HUP.out _ HB2.out).2.1
          have HO2 : Hid (Ow W2 B _ acc3) := hO.out.below HR2.out
          have hW2s : W2.heap.size = wr.heap.size + 1 := by rw [hW2]; simp
          have HOA : Hid (Ow (wr.alloc (.cells #[.int .i64 f.params, .slice rp rl rc, .slice dp dl dc] 46)) B _ acc3) := hO.out.below (below1 wr (.cells #[.int .i64 f.params, .slice rp rl rc, .slice dp dl dc] 46))
          have HBA : Hid (Below B W (wr.alloc (.cells #[.int .i64 f.params, .slice rp rl rc, .slice dp dl dc] 46))) := by unfold Hid; rw [← hW2]; exact HB2.out
          have HFA : Hid (Fq wr.heap.size f rp rl rc dp dl dc (wr.alloc (.cells #[.int .i64 f.params, .slice rp rl rc, .slice dp dl dc] 46))) := by unfold Hid; rw [← hW2, ← hfb]; exact HF2.out
          have hl1 : acc3.length ≤ 500000000 := by omega
          clear hO hB HR2 HO2 HF2 HB2 hW2 hW2s hs2 hfb
          go_wp2_with (at_builtin; refine app22_law _ rfl (.tmp 79) (.tmp 87) rfl B _ acc3 (f.params % 256) (rl : Int) ⟨by omega, by omega⟩ ⟨by omega, by omega⟩ (by simp [Act.eval]) HOA.out (by simp [Act.eval]) hl1 (by simp; omega) ?_; intro v3 w3 ho3 hb3 hbt3; have HO3 : Hid (Ow w3 B v3 (acc3 ++ [f.params % 256, (rl : Int)])) := ho3; have HB3 : Hid (Below B W w3) := HBA.out.trans hb3; have HF3 : Hid (Fq wr.heap.size f rp rl rc dp dl dc w3) := HFA.out.but HOA.out hbt3; clear ho3 hb3 hbt3)
          have ha4 : (acc3 ++ [f.params % 256, (rl : Int)]).length ≤ 169000002 := by simp; omega
          clear HOA HBA HFA e0 e1 e2 x2 hsr
          generalize acc3 ++ [f.params % 256, (rl : Int)] = acc4 at HO3 HX ha4
          generalize wr.heap.size = fb at HF3
          go_wp2
          go_loopw [3, 8] (fun ov kv wr => LrI B W fb f rp rl rc dp dl dc acc4 ov kv wr) (fun _ kv _ => rl - (intOf kv).toNat)
          case atStart => exact ⟨0, Nat.zero_le _, rfl, by unfold Hid; show Ow _ _ _ (acc4 ++ []); rw [List.append_nil]; exact HO3.out, HB3, HF3⟩
          case round =>
            clear HO3 HB3 HF3
            obtain ⟨k, hk, rfl, hO, hB, hF⟩ := hrel
            have hsr := (HUP.out _ hB.out).2.1
            have f1 := hF.out.b3.c1
            have hak : (acc4 ++ frZ f.free k).length ≤ 169000100 := by rw [List.length_append, frZ_len]; omega
            by_cases hltk : k < rl
            · obtain ⟨b3, o3, rfl, hbl3, gg⟩ := (HFR.out _ hB.out).cells (by omega)
              have d0 := gg k hltk
              have HXK : Hid (acc4 ++ frZ f.free (k + 1) = (acc4 ++ frZ f.free k) ++ [boxZ (f.free.getD k false)]) := by unfold Hid; rw [frZ_succ, List.append_assoc]
              clear gg hbl3
              generalize acc4 ++ frZ f.free k = ac5 at hO HXK hak
              generalize f.free.getD k false = bv at d0 HXK
              cases bv
              · go_wp2_with (at_builtin; refine app1_law _ rfl (.tmp 101) (.tmp 103) rfl B _ ac5 0 (by omega) (by omega) (by simp [Act.eval]) hO.out (by simp [Act.eval]) (by omega) hsr ?_; intro v5 w5 ho5 hb5 hbt5; have HO5 : Hid (Ow w5 B v5 (ac5 ++ [0])) := ho5; have HB5 : Hid (Below B W w5) := hB.out.trans hb5; have HF5 : Hid (Fq fb f (some ⟨b3, o3, none⟩) rl rc dp dl dc w5) := hF.out.but hO.out hbt5; clear ho5 hb5 hbt5)
                exact ⟨⟨k + 1, by omega, by go_num, by unfold Hid; rw [HXK.out]; exact HO5.out, HB5, HF5⟩, by simp [intOf]; omega⟩
              · go_wp2_with (at_builtin; refine app1_law _ rfl (.tmp 101) (.tmp 103) rfl B _ ac5 1 (by omega) (by omega) (by simp [Act.eval]) hO.out (by simp [Act.eval]) (by omega) hsr ?_; intro v5 w5 ho5 hb5 hbt5; have HO5 : Hid (Ow w5 B v5 (ac5 ++ [1])) := ho5; have HB5 : Hid (Below B W w5) := hB.out.trans hb5; have HF5 : Hid (Fq fb f (some ⟨b3, o3, none⟩) rl rc dp dl dc w5) := hF.out.but hO.out hbt5; clear ho5 hb5 hbt5)
                exact ⟨⟨k + 1, by omega, by go_num, by unfold Hid; rw [HXK.out]; exact HO5.out, HB5, HF5⟩, by simp [intOf]; omega⟩
            · obtain rfl : k = rl := by omega
              have f2 := hF.out.b3.c2
              have HX2 : Hid (hd2 ++ ffZ m.funcs (j + 1) = ((acc4 ++ frZ f.free k) ++ leZ 2 (dl : Int)) ++ cdZ f.code dl) := HX.out
              clear HX
              generalize acc4 ++ frZ f.free k = ac5 at hO HX2 hak
              go_wp2_with (first
                | (at_builtin; refine app2_law _ rfl (.tmp 105) (.tmp 109) rfl B _ ac5 (leZ 2 (dl : Int)) (by simp [Act.eval]) HO1.out b1 o1 _ c1 (by simp [Act.eval]) HY1.out (by have := HL2.out (dl : Int); omega) hs1 ?_; intro v6 w6 ho6 hb6 hbt6; have HO6 : Hid (Ow w6 B v6 (ac5 ++ leZ 2 (dl : Int))) := ho6; have HB6 : Hid (Below B W w6) := HB1.out.trans hb6; have HF6 : Hid (Fq fb f rp k rc dp dl dc w6) := HF1.out.but HO1.out hbt6; clear ho6 hb6 hbt6)
                | (go_at_call 45; refine (little2_c (dl : Int) _).mono ?_; rintro e w1 ⟨b1, o1, c1, rfl, hy1, hb1⟩; have HB1 : Hid (Below B W w1) := hB.out.trans (hb1.mono hsr); have HY1 : Hid (By w1 (some ⟨b1, o1, none⟩) (leZ 2 (dl : Int)).length c1 (leZ 2 (dl : Int))) := hy1; have HO1 : Hid (Ow w1 B _ ac5) := hO.out.below hb1; have HF1 : Hid (Fq fb f rp k rc dp dl dc w1) := hF.out.below hb1; have hs1 := (HUP.out _ HB1.out).2.1; clear hy1 hb1))
              have ha6 : (ac5 ++ leZ 2 (dl : Int)).length ≤ 169000102 := by rw [List.length_append, leZ_len]; omega
              clear hO hB hF HY1 HO1 HB1 HF1 hs1 f1 f2 hsr
              generalize ac5 ++ leZ 2 (dl : Int) = ac6 at HO6 HX2 ha6
              go_loopw [3, 10] (fun ov kv wr => LkI B W fb f rp k rc dp dl dc ac6 ov kv wr) (fun _ kv _ => dl - (intOf kv).toNat)
              case atStart => exact ⟨0, Nat.zero_le _, rfl, by unfold Hid; show Ow _ _ _ (ac6 ++ []); rw [List.append_nil]; exact HO6.out, HB6, HF6⟩
              case round =>
                clear HO6 HB6 HF6
                obtain ⟨z, hz, rfl, hO, hB, hF⟩ := hrel
                have hsr := (HUP.out _ hB.out).2.1
                have f2 := hF.out.b3.c2
                have haz : (ac6 ++ cdZ f.code z).length ≤ 169020102 := by rw [List.length_append, cdZ_len]; omega
                by_cases hltz : z < dl
                · obtain ⟨b3, o3, rfl, hbl3, gg⟩ := (HCO.out _ hB.out).cells (by omega)
                  have HII : Hid (∀ w9, Below B W w9 → w9.cell? ⟨b3, o3 + z * 3, none⟩ = some (.int .i64 (f.code.getD z in0).op) ∧ w9.cell? ⟨b3, o3 + z * 3 + 1, none⟩ = some (.int .i64 (f.code.getD z in0).a) ∧ w9.cell? ⟨b3, o3 + z * 3 + 2, none⟩ = some (.int .i64 (f.code.getD z in0).b)) := fun w9 h9 => by
                    obtain ⟨b4, o4, e4, _, g4⟩ := (HCO.out _ h9).cells (by omega)
                    cases e4
                    exact g4 z hltz
                  have HXK : Hid (ac6 ++ cdZ f.code (z + 1) = (((ac6 ++ cdZ f.code z) ++ [(f.code.getD z in0).op % 256]) ++ leZ 2 (f.code.getD z in0).a) ++ [(f.code.getD z in0).b % 256]) := by unfold Hid; rw [cdZ_succ]; simp [isZ]
                  clear gg hbl3
                  generalize ac6 ++ cdZ f.code z = ac7 at hO HXK haz
                  generalize (f.code.getD z in0).op = x0 at HII HXK
                  generalize (f.code.getD z in0).a = x1 at HII HXK
                  generalize (f.code.getD z in0).b = x2 at HII HXK
                  have d0 := (HII.out _ hB.out).1
                  go_wp2_with (first
                    | (at_builtin; first
                      | (refine app1_law _ rfl (.tmp 118) (.tmp 126) rfl B _ ac7 (x0 % 256) (by omega) (by omega) (by simp [Act.eval]) hO.out (by simp [Act.eval]) (by omega) hsr ?_; intro v1 w1 ho1 hb1 hbt1; have HO1 : Hid (Ow w1 B v1 (ac7 ++ [x0 % 256])) := ho1; have HB1 : Hid (Below B W w1) := hB.out.trans hb1; have HF1 : Hid (Fq fb f rp k rc (some ⟨b3, o3, none⟩) dl dc w1) := hF.out.but hO.out hbt1; have hs1 := (HUP.out _ HB1.out).2.1; have h12 := HF1.out.b3.c2; have h1d := (HII.out _ HB1.out).2.1; clear ho1 hb1 hbt1)
                      | (refine app2_law _ rfl (.tmp 128) (.tmp 135) rfl B _ (ac7 ++ [x0 % 256]) (leZ 2 x1) (by simp [Act.eval]) HO2.out b2 o2 _ c2 (by simp [Act.eval]) HY2.out (by have := HL2.out x1; simp; omega) hs2 ?_; intro v3 w3 ho3 hb3 hbt3; have HO3 : Hid (Ow w3 B v3 ((ac7 ++ [x0 % 256]) ++ leZ 2 x1)) := ho3; have HB3 : Hid (Below B W w3) := HB2.out.trans hb3; have HF3 : Hid (Fq fb f rp k rc (some ⟨b3, o3, none⟩) dl dc w3) := HF2.out.but HO2.out hbt3; have hs3 := (HUP.out _ HB3.out).2.1; have h32 := HF3.out.b3.c2; have h3d := (HII.out _ HB3.out).2.2; clear ho3 hb3 hbt3)
                      | (refine app1_law _ rfl (.tmp 137) (.tmp 145) rfl B _ ((ac7 ++ [x0 % 256]) ++ leZ 2 x1) (x2 % 256) (by omega) (by omega) (by simp [Act.eval]) HO3.out (by simp [Act.eval]) (by have := HL2.out x1; simp; omega) hs3 ?_; intro v4 w4 ho4 hb4 hbt4; have HO4 : Hid (Ow w4 B v4 (ac6 ++ cdZ f.code (z + 1))) := (by unfold Hid; rw [HXK.out]; exact ho4); have HB4 : Hid (Below B W w4) := HB3.out.trans hb4; have HF4 : Hid (Fq fb f rp k rc (some ⟨b3, o3, none⟩) dl dc w4) := HF3.out.but HO3.out hbt4; clear ho4 hb4 hbt4))
                    | (go_at_call 45; refine (little2_c x1 _).mono ?_; rintro e w2 ⟨b2, o2, c2, rfl, hy2, hb2⟩; have HB2 : Hid (Below B W w2) := HB1.out.trans (hb2.mono hs1); have HY2 : Hid (By w2 (some ⟨b2, o2, none⟩) (leZ 2 x1).length c2 (leZ 2 x1)) := hy2; have HO2 : Hid (Ow w2 B _ (ac7 ++ [x0 % 256])) := HO1.out.below hb2; have HF2 : Hid (Fq fb f rp k rc (some ⟨b3, o3, none⟩) dl dc w2) := HF1.out.below hb2; have hs2 := (HUP.out _ HB2.out).2.1; clear hy2 hb2))
                  exact ⟨⟨z + 1, by omega, by go_num, HO4, HB4, HF4⟩, by simp [intOf]; omega⟩
                · obtain rfl : z = dl := by omega
                  go_wp2
                  exact ⟨⟨j + 1, by omega, by go_num, by unfold Hid; rw [HX2.out]; exact hO.out, hB⟩, by simp [intOf]; omega⟩
        · obtain rfl : j = fn := by omega
          have HE3 : Hid (bdZ m = hd2 ++ ffZ m.funcs j) := HE2.out
          rw [← HE3.out] at hO hal3
          clear HE2 hBW
          obtain ⟨p5, q5, hv5, hy5, _⟩ := hO.out.by_ (rng_of HRB.out)
          subst hv5
          have HY5 : Hid (By wr p5 (bdZ m).length q5 (bdZ m)) := hy5
          have hcz := xor32_rng _ 4294967295 (crcL_rng (bdZ m) (rng_of HRB.out) (bdZ m).length).1 (crcL_rng (bdZ m) (rng_of HRB.out) (bdZ m).length).2 (by omega) (by omega)
          have hc0 : 0 ≤ crcZ (bdZ m) := hcz.1
          have hc1 : crcZ (bdZ m) < 4294967296 := hcz.2
          have HIM : Hid (imZ m = bdZ m ++ leZ 4 (crcZ (bdZ m))) := rfl
          have HL4 : Hid ((leZ 4 (crcZ (bdZ m))).length = 4) := leZ_len _ _
          clear hy5 hcz HE3
          generalize bdZ m = bd at hO hal3 HY5 hc0 hc1 HIM HL4 HRB
          go_wp2_with fail
          refine (specCrc_c p5 bd.length q5 bd _ HY5.out).mono ?_
          rintro e w6 ⟨rfl, hw6⟩
          have hw6' := hw6.symm
          clear hw6
          subst hw6'
          go_wp2_with fail
          refine (little4_c (crcZ bd) _).mono ?_
          rintro e w7 ⟨b7, o7, c7, rfl, hy7, hb7⟩
          have HB7 : Hid (Below B W w7) := hB.out.trans (hb7.mono hsr)
          have HY7 : Hid (By w7 (some ⟨b7, o7, none⟩) (leZ 4 (crcZ bd)).length c7 (leZ 4 (crcZ bd))) := hy7
          have HO7 : Hid (Ow w7 B _ bd) := hO.out.below hb7
          have hs7 := (HUP.out _ HB7.out).2.1
          clear hy7 hb7
          go_wp2_with (at_builtin; refine app2_law _ rfl (.tmp 147) (.tmp 151) rfl B _ bd (leZ 4 (crcZ bd)) (by simp [Act.eval]) HO7.out b7 o7 _ c7 (by simp [Act.eval]) HY7.out (by have := HL4.out; omega) hs7 ?_; intro v8 w8 ho8 hb8 _; have HO8 : Hid (Ow w8 B v8 (imZ m)) := (by unfold Hid; rw [HIM.out]; exact ho8); have HB8 : Hid (Below B W w8) := HB7.out.trans hb8; clear ho8 hb8)
          go_ret
          exact ⟨_, rfl, HO8.out.mono (by have := HWS.out; omega), HWB.out.trans (HB8.out.mono (by have := HWS.out; omega))⟩
end Go.Proofs.YtkkmoaidbmnolaaGreatDoor
namespace Go.Proofs.YtkkmoaidbmnolaaGreatDoor
open Go.RowKit Ch1
theorem text_rg {ds : List Dt} (h : RgD ds) (j : Nat) : Rg (ds.getD j dt0).text := by
  by_cases hj : j < ds.length
  · have e : ds.getD j dt0 = ds[j] := by simp [List.getD, List.getElem?_eq_getElem hj]
    rw [e]
    exact h _ (List.getElem_mem hj)
  · have e : ds.getD j dt0 = dt0 := by simp [List.getD, List.getElem?_eq_none (Nat.le_of_not_lt hj)]
    rw [e]
    intro x hx
    cases hx
theorem cstZ_rg {ds : List Dt} (h : RgD ds) : Rg (cstZ ds) := (leZ_rg _ _).app (Rg.flat (fun j => datZ_rg (text_rg h j)) _)
theorem bd_rg {w : World} {cp : Option Addr} {cn cc : Nat} {fp : Option Addr} {fn fc : Nat} {m : Md} (hM : Mo w cp cn cc fp fn fc m) : Rg (bdZ m) := by
  unfold bdZ
  refine ((((Rg.app (fun x hx => ?_) (leZ_rg _ _)).app (leZ_rg _ _)).app (Rg.flat (fun i => ?_) _)).app (leZ_rg _ _)).app (Rg.flat (fun i => fcZ_rg _) _)
  · simp at hx; omega
  · apply cstZ_rg
    by_cases hi : i < cn
    · obtain ⟨b, o, _, _, gg⟩ := hM.cs.cells (by omega)
      obtain ⟨q, n, c, _, hd⟩ := gg i hi
      exact hd.rg
    · have e : m.consts.getD i [] = [] := by simp [List.getD, List.getElem?_eq_none (show m.consts.length ≤ i by rw [hM.cs.len]; omega)]
      rw [e]
      intro d hd
      cases hd
theorem bd_len {m : Md} (h : GoodM m) : (bdZ m).length ≤ 180000000 := by
  have h1 := ccZ_len h m.consts.length (Nat.le_refl _)
  have h2 := h.cs.few
  have h3 := ffZ_len h m.funcs.length (Nat.le_refl _)
  have h4 := h.f2
  unfold bdZ
  simp only [List.length_append, leZ_len, List.length_cons, List.length_nil]
  omega
set_option maxRecDepth 20000 in
set_option maxHeartbeats 4000000 in
theorem specEncode_c (cp : Option Addr) (cn cc : Nat) (fp : Option Addr) (fn fc : Nat) (m : Md) (w : World) (hM : Mo w cp cn cc fp fn fc m) (hF : Fits cn fn m) :
    Calls Tryz.prog 14 #[.agg #[.slice cp cn cc, .int .i64 m.globals, .slice fp fn fc]] w fun e w' => EmP m w w' e := by
  have HM : Hid (Mo w cp cn cc fp fn fc m) := hM
  have HF : Hid (Fits cn fn m) := hF
  obtain ⟨W, hW⟩ : ∃ W, W = w.alloc (.cells #[.slice cp cn cc, .int .i64 m.globals, .slice fp fn fc] 26) := ⟨_, rfl⟩
  have HX0 : Hid (B3 W w.heap.size (.slice cp cn cc) (.int .i64 m.globals) (.slice fp fn fc)) := by unfold Hid; rw [hW]; exact B3.new w _ _ _ _
  have HWB : Hid (Below w.heap.size w W) := by unfold Hid; rw [hW]; exact below1 _ _
  have hWs : W.heap.size = w.heap.size + 1 := by rw [hW]; simp
  clear hM hF
  go_enter Tryz.func14, Tryz.ntmps14
  go_wp2_with fail
  rw [← hW]
  clear hW
  refine (specValidModule_c cp cn cc fp fn fc m _ (HM.out.below HWB.out) HF.out).mono ?_
  rintro e w1 ⟨r, rfl, hr, hb1⟩
  have HR : Hid (r = true ↔ GoodM m) := hr
  have HX1 : Hid (B3 w1 w.heap.size (.slice cp cn cc) (.int .i64 m.globals) (.slice fp fn fc)) := HX0.out.below hb1
  have HB1 : Hid (Below w.heap.size w w1) := HWB.out.trans (hb1.mono (by omega))
  clear hr hb1
  cases r
  · go_wp2
    go_ret
    exact ⟨Or.inl ⟨fun h => (by have := HR.out.2 h; cases this), rfl⟩, HB1.out⟩
  have HG : Hid (GoodM m) := HR.out.1 rfl
  have c0 := HX1.out.c0
  have c1 := HX1.out.c1
  have c2 := HX1.out.c2
  have hs1 := HB1.out.size
  go_wp2_with fail
  refine (l4image_c cp cn cc fp fn fc m _ (HM.out.below HB1.out) HG.out (bd_rg HM.out)).mono ?_
  rintro e w2 ⟨v, rfl, ho, hb2⟩
  have HO : Hid (Ow w2 w.heap.size v (imZ m)) := ho.mono hs1
  have HB2 : Hid (Below w.heap.size w w2) := HB1.out.trans (hb2.mono hs1)
  clear ho hb2
  go_wp2
  go_ret
  exact ⟨Or.inr ⟨HG.out, _, rfl, HO.out⟩, HB2.out⟩
end Go.Proofs.YtkkmoaidbmnolaaGreatDoor
