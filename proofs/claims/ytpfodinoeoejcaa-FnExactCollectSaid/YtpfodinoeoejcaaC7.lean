import Derived.Test.YtpfodinoeoejcaaC6
import Derived.Test.YtpfodinoeoejcaaH7
import Derived.Maps.OwnSet
import Derived.Maps.OwnOps
import Derived.Maps.Views
namespace Go.Proofs.Ytpfodinoeoejcaa
open Go.RowKit Ch2 Go.Maps
theorem key3 : Keyed Try.prog 3 := int_keyed Try.underlying3
theorem zero3 (w : World) : (zeroValue 3).run Try.prog w = .ok (.int .i64 0) w := by kernel_rfl
/-- The map of new places, as read. -/
structure MapIs (D : DataW Unit) (mv : Nat → Int) : Prop where
  isMap : IsMap D
  has : ∀ p : Nat, Maps.has D (.int .i64 (p : Int)) = decide (0 ≤ mv p)
  at_ : ∀ p : Nat, 0 ≤ mv p → D.atKey (.int .i64 (p : Int)) (.lit (.int .i64 0)) = .lit (.int .i64 (mv p))
/-- A copier variable in block cb. -/
structure Cp (w : World) (cb mb g : Nat) (p : Option Addr) (n c T t N : Nat) (D : DataW Unit) : Prop where
  c0 : w.cell? ⟨cb, 0, none⟩ = some (.slice p n c)
  c1 : w.cell? ⟨cb, 1, none⟩ = some (.int .i64 (T : Int))
  to : BxO w cb 2 (some ⟨g, 0, none⟩) n n t
  c4 : w.cell? ⟨cb, 4, none⟩ = some (.map (some mb))
  own : w.ownsMap Try.prog 3 (plainElem Try.prog 3) mb N D
theorem wf64 {x : Int} (h0 : -9223372036854775808 ≤ x) (h1 : x ≤ 9223372036854775807) : (Lit.int .i64 x).wf = true := by
  simp [Lit.wf, IntKind.min, IntKind.max, IntKind.signed, IntKind.bits]; omega
set_option maxRecDepth 20000 in
set_option maxHeartbeats 4000000 in
theorem placeOf_old (cb mb g n c T t N m : Nat) (p : Option Addr) (D : DataW Unit) (mv : Nat → Int) (w : World) (hC : Cp w cb mb g p n c T t N D) (hM : MapIs D mv) (hm : m ≤ 20000) (h0 : 0 ≤ mv m) :
    Calls Try.prog 72 #[.pointer (some ⟨cb, 0, none⟩), .int .i64 (m : Int)] w fun e w' => e = .returned (.int .i64 (mv m)) ∧ w' = w := by
  have HC : Hid (Cp w cb mb g p n c T t N D) := hC
  have HH : Hid (Maps.has D (.int .i64 (m : Int)) = true) := by unfold Hid; rw [hM.has]; simpa using h0
  have HAT : Hid (D.atKey (.int .i64 (m : Int)) (.lit (.int .i64 0)) = .lit (.int .i64 (mv m))) := hM.at_ m h0
  have hkey : keyOf Try.prog 3 (.int .i64 (m : Int)) = some (.int .i64 (m : Int)) := keyOf_int_mk Try.underlying3 (wf64 (by omega) (by omega))
  have HKEY : Hid (keyOf Try.prog 3 (.int .i64 (m : Int)) = some (.int .i64 (m : Int))) := hkey
  have c4 := hC.c4
  clear hC hM hkey
  go_enter Try.func72, Try.ntmps72
  go_wp2_with (at_lookup; refine wpList_lookup_own_ok_int _ rfl _ _ 80 rfl 3 3 .i64 key3 Try.underlying80 Try.underlying3 (zero3 _) mb N D rfl HC.out.own _ _ rfl HKEY.out ?_; intro c hat hwc; rw [HAT.out] at hat; rw [HH.out]; obtain rfl : mv m = c := by injection hat with h1; injection h1)
  go_ret
  exact ⟨rfl, rfl⟩
end Go.Proofs.Ytpfodinoeoejcaa
