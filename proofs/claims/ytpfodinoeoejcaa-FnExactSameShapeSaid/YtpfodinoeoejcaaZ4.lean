import Derived.Test.YtpfodinoeoejcaaZ3
namespace Go.Proofs.Ytpfodinoeoejcaa
open Go.RowKit Ch2 Go.Maps
set_option maxRecDepth 20000 in
/-- Words of which one is no pointer. -/
theorem same_plain (z : Vz) (x y : Int) (L : List (Nat × Nat)) (w : World) (hS : Sm z L w) (h : ¬ (x % 4 = 1 ∧ y % 4 = 1)) :
    Calls Try.prog 60 (#[.int .i64 x, .int .i64 y] ++ z.caps) w (fun e w' => SmP z L (fun R => Rl R x y) w w' e) := by
  have HS : Hid (Sm z L w) := hS
  have HC : Hid (Cmp z.ws z.vs L L (x == y) (fun R => Rl R x y)) := Cmp.plain h
  have ha : (#[.int .i64 x, .int .i64 y] : Array Value) ++ z.caps = #[.int .i64 x, .int .i64 y, .pointer (some ⟨z.rb, 0, none⟩), .pointer (some ⟨z.bb, 0, none⟩), .pointer (some ⟨z.hb, 0, none⟩), .pointer (some ⟨z.gb, 0, none⟩), .pointer (some ⟨z.sb, 0, none⟩)] := rfl
  rw [ha]
  clear ha
  by_cases hx : x % 4 = 1
  · have hy : ¬ y % 4 = 1 := fun hy => h ⟨hx, hy⟩
    obtain ⟨k, hk⟩ : ∃ k, y % 4 = k := ⟨_, rfl⟩
    have e1 : (k != 1) = true := by rw [← hk]; simpa using hy
    clear h hy
    go_enter Try.func60, Try.ntmps60
    go_wp2_with (first | (go_at_call 61; refine (tagOf_c x _).mono ?_; rintro e w' ⟨rfl, hwx⟩; have hwy := hwx.symm; clear hwx; subst hwy; rw [hx]) | (go_at_call 61; refine (tagOf_c y _).mono ?_; rintro e w' ⟨rfl, hwx⟩; have hwy := hwx.symm; clear hwx; subst hwy; rw [hk]))
    go_ret
    exact ⟨_, L, rfl, HS.out, HC.out, KpZ.refl _ _ _, Nat.le_refl _⟩
  · obtain ⟨k, hk⟩ : ∃ k, x % 4 = k := ⟨_, rfl⟩
    have e1 : (k != 1) = true := by rw [← hk]; simpa using hx
    clear h hx
    go_enter Try.func60, Try.ntmps60
    go_wp2_with (go_at_call 61; refine (tagOf_c x _).mono ?_; rintro e w' ⟨rfl, hwx⟩; have hwy := hwx.symm; clear hwx; subst hwy; rw [hk])
    go_ret
    exact ⟨_, L, rfl, HS.out, HC.out, KpZ.refl _ _ _, Nat.le_refl _⟩
set_option maxRecDepth 20000 in
set_option maxHeartbeats 4000000 in
set_option maxRecDepth 20000 in
/-- The object was met before. -/
theorem same_known (z : Vz) (x y : Int) (p q k : Nat) (L : List (Nat × Nat)) (w : World) (hS : Sm z L w) (hx : x % 4 = 1) (hy : y % 4 = 1) (hp : x / 4 = p) (hq : y / 4 = q) (hp1 : p ≤ 20000) (hk : (p, k) ∈ L) :
    Calls Try.prog 60 (#[.int .i64 x, .int .i64 y] ++ z.caps) w (fun e w' => SmP z L (fun R => Rl R x y) w w' e) := by
  have HS : Hid (Sm z L w) := hS
  have HC : Hid (Cmp z.ws z.vs L L ((k : Int) == (q : Int)) (fun R => Rl R x y)) := Cmp.known hx hy (by omega) (by omega) hk
  have ha : (#[.int .i64 x, .int .i64 y] : Array Value) ++ z.caps = #[.int .i64 x, .int .i64 y, .pointer (some ⟨z.rb, 0, none⟩), .pointer (some ⟨z.bb, 0, none⟩), .pointer (some ⟨z.hb, 0, none⟩), .pointer (some ⟨z.gb, 0, none⟩), .pointer (some ⟨z.sb, 0, none⟩)] := rfl
  rw [ha]
  clear ha
  obtain ⟨D, hD, hM⟩ := hS.m1
  have HD : Hid (w.ownsMap Try.prog 3 (plainElem Try.prog 3) z.mb L.length D) := hD
  have HH : Hid (Maps.has D (.int .i64 (p : Int)) = true) := (hM.yes p k hk).1
  have HAT : Hid (D.atKey (.int .i64 (p : Int)) (.lit (.int .i64 0)) = .lit (.int .i64 (k : Int))) := (hM.yes p k hk).2
  have HKEY : Hid (keyOf Try.prog 3 (.int .i64 (p : Int)) = some (.int .i64 (p : Int))) := keyOf_int_mk Try.underlying3 (wfZ (by omega) (by omega))
  have cr := hS.cr
  clear hS hD hM hk
  go_enter Try.func60, Try.ntmps60
  go_wp2_with (first
    | (go_at_call 61; refine (tagOf_c x _).mono ?_; rintro e w' ⟨rfl, hwx⟩; have hwy := hwx.symm; clear hwx; subst hwy; rw [hx])
    | (go_at_call 61; refine (tagOf_c y _).mono ?_; rintro e w' ⟨rfl, hwx⟩; have hwy := hwx.symm; clear hwx; subst hwy; rw [hy])
    | (go_at_call 62; refine (numberOf_c x _).mono ?_; rintro e w' ⟨rfl, hwx⟩; have hwy := hwx.symm; clear hwx; subst hwy; rw [hp])
    | (go_at_call 62; refine (numberOf_c y _).mono ?_; rintro e w' ⟨rfl, hwx⟩; have hwy := hwx.symm; clear hwx; subst hwy; rw [hq])
    | (at_lookup; refine wpList_lookup_own_ok_int _ rfl _ _ 80 rfl 3 3 .i64 keyZ Try.underlying80 Try.underlying3 (zeroZ _) z.mb L.length D rfl HD.out _ _ rfl HKEY.out ?_; intro c hat hwc; rw [HAT.out] at hat; rw [HH.out]; obtain rfl : (k : Int) = c := by injection hat with h1; injection h1))
  go_ret
  exact ⟨_, L, rfl, HS.out, HC.out, KpZ.refl _ _ _, Nat.le_refl _⟩
set_option maxRecDepth 20000 in
set_option maxHeartbeats 4000000 in
set_option maxRecDepth 20000 in
/-- The other one was met before. -/
theorem same_taken (z : Vz) (x y : Int) (p q k : Nat) (L : List (Nat × Nat)) (w : World) (hS : Sm z L w) (hx : x % 4 = 1) (hy : y % 4 = 1) (hp : x / 4 = p) (hq : y / 4 = q) (hp1 : p ≤ 20000) (hq1 : q ≤ 20000) (hn : ∀ q, (p, q) ∉ L) (hk : (k, q) ∈ L) :
    Calls Try.prog 60 (#[.int .i64 x, .int .i64 y] ++ z.caps) w (fun e w' => SmP z L (fun R => Rl R x y) w w' e) := by
  have HS : Hid (Sm z L w) := hS
  have HC : Hid (Cmp z.ws z.vs L L false (fun R => Rl R x y)) := Cmp.taken hx (show (x / 4).toNat = p by omega) (show (y / 4).toNat = q by omega) hn hk
  have ha : (#[.int .i64 x, .int .i64 y] : Array Value) ++ z.caps = #[.int .i64 x, .int .i64 y, .pointer (some ⟨z.rb, 0, none⟩), .pointer (some ⟨z.bb, 0, none⟩), .pointer (some ⟨z.hb, 0, none⟩), .pointer (some ⟨z.gb, 0, none⟩), .pointer (some ⟨z.sb, 0, none⟩)] := rfl
  rw [ha]
  clear ha
  obtain ⟨D, hD, hM⟩ := hS.m1
  obtain ⟨E, hE, hN⟩ := hS.m2
  have HD : Hid (w.ownsMap Try.prog 3 (plainElem Try.prog 3) z.mb L.length D) := hD
  have HE : Hid (w.ownsMap Try.prog 3 (plainElem Try.prog 3) z.nb L.length E) := hE
  have HH : Hid (Maps.has D (.int .i64 (p : Int)) = false) := hM.no p hn
  have HJ : Hid (Maps.has E (.int .i64 (q : Int)) = true) := (hN.yes q k (by rw [List.mem_map]; exact ⟨(k, q), hk, rfl⟩)).1
  have HKEY : Hid (keyOf Try.prog 3 (.int .i64 (p : Int)) = some (.int .i64 (p : Int))) := keyOf_int_mk Try.underlying3 (wfZ (by omega) (by omega))
  have HKEQ : Hid (keyOf Try.prog 3 (.int .i64 (q : Int)) = some (.int .i64 (q : Int))) := keyOf_int_mk Try.underlying3 (wfZ (by omega) (by omega))
  have cr := hS.cr
  have cb := hS.cb
  clear hS hD hM hk hN hE hn
  go_enter Try.func60, Try.ntmps60
  go_wp2_with (first
    | (go_at_call 61; refine (tagOf_c x _).mono ?_; rintro e w' ⟨rfl, hwx⟩; have hwy := hwx.symm; clear hwx; subst hwy; rw [hx])
    | (go_at_call 61; refine (tagOf_c y _).mono ?_; rintro e w' ⟨rfl, hwx⟩; have hwy := hwx.symm; clear hwx; subst hwy; rw [hy])
    | (go_at_call 62; refine (numberOf_c x _).mono ?_; rintro e w' ⟨rfl, hwx⟩; have hwy := hwx.symm; clear hwx; subst hwy; rw [hp])
    | (go_at_call 62; refine (numberOf_c y _).mono ?_; rintro e w' ⟨rfl, hwx⟩; have hwy := hwx.symm; clear hwx; subst hwy; rw [hq])
    | (at_lookup; refine wpList_lookup_own_ok_int _ rfl _ _ 80 rfl 3 3 .i64 keyZ Try.underlying80 Try.underlying3 (zeroZ _) z.mb L.length D rfl HD.out _ _ rfl HKEY.out ?_; intro c hat hwc; rw [HH.out]; clear hat hwc)
    | (at_lookup; refine wpList_lookup_own_ok_int _ rfl _ _ 80 rfl 3 3 .i64 keyZ Try.underlying80 Try.underlying3 (zeroZ _) z.nb L.length E rfl HE.out _ _ rfl HKEQ.out ?_; intro c2 hat hwc; rw [HJ.out]; clear hat hwc))
  go_ret
  exact ⟨_, L, rfl, HS.out, HC.out, KpZ.refl _ _ _, Nat.le_refl _⟩
end Go.Proofs.Ytpfodinoeoejcaa
