import Derived.Test.YtbcanodijcglpaaDoorM5
namespace Go.Proofs.YtbcanodijcglpaaDoor
open Go.RowKit Ch1
set_option maxHeartbeats 1000000 in
theorem eqFuncS_c (p1 p2 : Option Addr) (n c1 c2 : Nat) (fs : List Fn) (w : World) (h1 : Fu w p1 n c1 fs) (h2 : Fu w p2 n c2 fs) :
    Calls Tryd.prog 25 #[.slice p1 n c1, .slice p2 n c2] w fun e w' => e = .returned (.bool true) ∧ Below w.heap.size w w' := by
  have hbig := small_of h1.cap h1.big
  have H1 : Hid (Fu w p1 n c1 fs) := h1
  have H2 : Hid (Fu w p2 n c2 fs) := h2
  clear h1 h2
  go_enter Tryd.func25, Tryd.ntmps25
  go_wp2
  go_loopw [5] (fun i wr => ∃ k : Nat, k ≤ n ∧ i = .int .i64 k ∧ Hid (Below w.heap.size w wr)) (fun i _ => n - (intOf i).toNat)
  case atStart => exact ⟨0, Nat.zero_le _, rfl, Below.refl _ _⟩
  case round =>
    obtain ⟨k, hk, rfl, hb⟩ := hrel
    by_cases hlt : k < n
    · obtain ⟨b, o, rfl, hbl, g⟩ := H1.out.cells (by omega)
      obtain ⟨fp, fl, fc, cp, cl, cc, he⟩ := g k hlt
      obtain ⟨b', o', rfl, hbl', g'⟩ := H2.out.cells (by omega)
      obtain ⟨fp', fl', fc', cp', cl', cc', he'⟩ := g' k hlt
      have e1 := he.free.len
      have e2 := he'.free.len
      have e3 := he.code.len
      have e4 := he'.code.len
      obtain rfl : fl = fl' := by omega
      obtain rfl : cl = cl' := by omega
      clear g g' e1 e2 e3 e4
      replace he := he.below (w' := wr) hbl hb.out
      replace he' := he'.below (w' := wr) hbl' hb.out
      generalize fs.getD k fn0 = d at he he'
      have HY : Hid (Bo wr fp fl fc d.free) := he.free
      have HY' : Hid (Bo wr fp' fl fc' d.free) := he'.free
      have HZ : Hid (Ii wr cp cl cc d.code) := he.code
      have HZ' : Hid (Ii wr cp' cl cc' d.code) := he'.code
      have e0 := he.c0
      have e1 := he.c1
      have e2 := he.c2
      have f0 := he'.c0
      have f1 := he'.c1
      have f2 := he'.c2
      clear he he'
      go_wp2
      go_region_with (go_at_call 44; refine (eqFunc_c _ fp fp' fl fc fc' cp cp' cl cc cc' d.free d.code _ ?y1 ?y2 ?y3 ?y4).mono ?_; (case y1 => exact HY.out.below (below_drewN' (Below.refl _ _) _)); (case y2 => exact HY'.out.below (below_drewN' (Below.refl _ _) _)); (case y3 => exact HZ.out.below (below_drewN' (Below.refl _ _) _)); (case y4 => exact HZ'.out.below (below_drewN' (Below.refl _ _) _)); rintro e w1 ⟨rfl, hb1⟩)
      all_goals
        go_wp2
        exact ⟨⟨k + 1, by omega, by go_num, hb.out.trans ((Below.refl _ wr).drew.trans (hb1.mono hb.out.size))⟩, by simp [intOf]; omega⟩
    · go_wp2
      go_ret
      exact ⟨rfl, hb.out⟩
set_option maxHeartbeats 1000000 in
theorem eqDatumSS_c (p1 p2 : Option Addr) (n c1 c2 : Nat) (ls : List (List Dt)) (w : World) (h1 : Dd w p1 n c1 ls) (h2 : Dd w p2 n c2 ls) :
    Calls Tryd.prog 24 #[.slice p1 n c1, .slice p2 n c2] w fun e w' => e = .returned (.bool true) ∧ Below w.heap.size w w' := by
  have hbig := small_of h1.cap h1.big
  have H1 : Hid (Dd w p1 n c1 ls) := h1
  have H2 : Hid (Dd w p2 n c2 ls) := h2
  clear h1 h2
  go_enter Tryd.func24, Tryd.ntmps24
  go_wp2
  go_loopw [5] (fun i wr => ∃ k : Nat, k ≤ n ∧ i = .int .i64 k ∧ Hid (Below w.heap.size w wr)) (fun i _ => n - (intOf i).toNat)
  case atStart => exact ⟨0, Nat.zero_le _, rfl, Below.refl _ _⟩
  case round =>
    obtain ⟨k, hk, rfl, hb⟩ := hrel
    by_cases hlt : k < n
    · obtain ⟨b, o, rfl, hbl, g⟩ := (H1.out.below hb.out).cells (by omega)
      obtain ⟨q, m, d, e0, he⟩ := g k hlt
      obtain ⟨b', o', rfl, hbl', g'⟩ := (H2.out.below hb.out).cells (by omega)
      obtain ⟨q', m', d', f0, he'⟩ := g' k hlt
      have e1 := he.len
      have e2 := he'.len
      obtain rfl : m = m' := by omega
      clear g g' e1 e2
      generalize ls.getD k [] = x at he he'
      have HY : Hid (Da wr q m d x) := he
      have HY' : Hid (Da wr q' m d' x) := he'
      clear he he'
      go_wp2
      go_region_with (go_at_call 43; refine (eqDatumS9 q q' m d d' x _ ?y1 ?y2).mono ?_; (case y1 => exact HY.out.below (below_drewN' (Below.refl _ _) _)); (case y2 => exact HY'.out.below (below_drewN' (Below.refl _ _) _)); rintro e w1 ⟨rfl, hb1⟩)
      all_goals
        go_wp2
        exact ⟨⟨k + 1, by omega, by go_num, hb.out.trans ((Below.refl _ wr).drew.trans (hb1.mono hb.out.size))⟩, by simp [intOf]; omega⟩
    · go_wp2
      go_ret
      exact ⟨rfl, hb.out⟩
set_option maxHeartbeats 1000000 in
theorem eqModule_c (cp cp' : Option Addr) (cn cc cc' : Nat) (fp fp' : Option Addr) (fn fc fc' : Nat) (m : Md) (w : World) (h1 : Mo w cp cn cc fp fn fc m) (h2 : Mo w cp' cn cc' fp' fn fc' m) :
    Calls Tryd.prog 9 #[.agg #[.slice cp cn cc, .int .i64 m.globals, .slice fp fn fc], .agg #[.slice cp' cn cc', .int .i64 m.globals, .slice fp' fn fc']] w fun e w' => e = .returned (.bool true) ∧ Below w.heap.size w w' := by
  have H1 : Hid (Mo w cp cn cc fp fn fc m) := h1
  have H2 : Hid (Mo w cp' cn cc' fp' fn fc' m) := h2
  clear h1 h2
  go_enter Tryd.func9, Tryd.ntmps9
  go_wp2_with fail
  refine (eqDatumSS_c cp cp' cn cc cc' m.consts _ (by exact H1.out.cs.below (below2 w _ _)) (by exact H2.out.cs.below (below2 w _ _))).mono ?_
  rintro e w1 ⟨rfl, hb1⟩
  have HB1 : Hid (Below w.heap.size w w1) := (below2 w _ _).trans (hb1.mono (by simp; omega))
  have HA : Hid (B3 w1 w.heap.size (.slice cp cn cc) (.int .i64 m.globals) (.slice fp fn fc)) := ((B3.new w (.slice cp cn cc) (.int .i64 m.globals) (.slice fp fn fc) 32).below (below1 _ _)).below hb1
  have HX : Hid (B3 w1 (w.heap.size + 1) (.slice cp' cn cc') (.int .i64 m.globals) (.slice fp' fn fc')) := by
    have := (B3.new (w.alloc (.cells #[.slice cp cn cc, .int .i64 m.globals, .slice fp fn fc] 32)) (.slice cp' cn cc') (.int .i64 m.globals) (.slice fp' fn fc') 32).below hb1
    unfold Hid; simpa using this
  have a1 := HA.out.c1
  have a2 := HA.out.c2
  have x1 := HX.out.c1
  have x2 := HX.out.c2
  clear hb1
  go_wp2_with fail
  refine (eqFuncS_c fp fp' fn fc fc' m.funcs _ (H1.out.fs.below HB1.out) (H2.out.fs.below HB1.out)).mono ?_
  rintro e w2 ⟨rfl, hb2⟩
  have HB2 : Hid (Below w.heap.size w w2) := HB1.out.trans (hb2.mono HB1.out.size)
  clear hb2
  go_wp2
  go_ret
  exact ⟨rfl, HB2.out⟩
end Go.Proofs.YtbcanodijcglpaaDoor
