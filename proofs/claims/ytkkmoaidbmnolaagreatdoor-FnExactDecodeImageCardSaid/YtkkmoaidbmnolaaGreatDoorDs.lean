import Derived.Test.YtkkmoaidbmnolaaGreatDoorDh
import Derived.BigRegion
namespace Go.Proofs.YtkkmoaidbmnolaaGreatDoor
open Go.RowKit Ch1
/-- The specification's reader in block b. -/
structure Rs (w : World) (b : Nat) (p : Option Addr) (n c : Nat) (xs : List Int) (k : Nat) (bad : Bool) : Prop where
  blk : w.heap[b]? = some (.cells #[.slice p n c, .int .i64 (k : Int), .bool bad] 37)
  by_ : By w p n c xs
  far : ∀ a, p = some a → 0 < n → a.block < b
  le : k ≤ n
  sm : n ≤ 1048576
/-- The reader's place, whatever it is: what is left to be read. -/
def RsE (w : World) (b : Nat) (ys : List Int) (bad : Bool) : Prop := ∃ p n c xs k, Rs w b p n c xs k bad ∧ ys = xs.drop k
theorem Rs.lt {w : World} {b : Nat} {p : Option Addr} {n c : Nat} {xs : List Int} {k : Nat} {bad : Bool} (h : Rs w b p n c xs k bad) : b < w.heap.size := (Array.getElem?_eq_some_iff.1 h.blk).1
theorem Rs.below {w w' : World} {b : Nat} {p : Option Addr} {n c : Nat} {xs : List Int} {k : Nat} {bad : Bool} (h : Rs w b p n c xs k bad) (hb : Below w.heap.size w w') : Rs w' b p n c xs k bad := ⟨(hb.block b h.lt).trans h.blk, h.by_.below hb, h.far, h.le, h.sm⟩
theorem Rs.far' {w : World} {b : Nat} {p : Option Addr} {n c : Nat} {xs : List Int} {k : Nat} {bad : Bool} (h : Rs w b p n c xs k bad) : ∀ a, p = some a → 0 < n → a.block ≠ b := fun a ha h0 => by have := h.far a ha h0; omega
set_option maxRecDepth 20000 in
set_option maxHeartbeats 4000000 in
theorem l4num_yes (b : Nat) (p : Option Addr) (n c : Nat) (xs : List Int) (k j : Nat) (bad : Bool) (w : World) (h : Rs w b p n c xs k bad) (hj : k + j ≤ n) (hj8 : j ≤ 8) :
    Calls Tryz.prog 12 #[.pointer (some ⟨b, 0, none⟩), .int .i64 j] w fun e w' => e = .returned (.int .i64 (wrap64 (lnZ ((xs.drop k).take j)))) ∧ Rs w' b p n c xs (k + j) bad ∧ Sr b w w' := by
  have HR := Hid.mkD h
  obtain ⟨y0, y1, y2, yf0, yf1, yf2⟩ := cells3 h.blk
  have hsm := h.sm
  have hd : decide ((n : Int) < (k : Int) + (j : Int)) = false := decide_eq_false (by omega)
  clear h
  obtain ⟨ys, hys⟩ : ∃ ys, ys = (xs.drop k).take j := ⟨_, rfl⟩
  have HYS := Hid.mkD hys
  have HYL : Hid (ys.length = j) := by unfold Hid; rw [hys, List.length_take, List.length_drop, HR.out.by_.len]; omega
  have HYR : Hid (Rg ys) := by unfold Hid; rw [hys]; exact fun x hx => rg_of HR.out.by_.rng x (List.mem_of_mem_drop (List.mem_of_mem_take hx))
  have HYG : Hid (∀ i, i < j → ys.getD i 0 = xs.getD (k + i) 0) := by
    intro i hi
    rw [hys]
    simp [List.getD, List.getElem?_drop, hi]
  rw [← hys]
  clear hys
  go_enter Tryz.func12, Tryz.ntmps12
  go_wp2_with fail
  have fw : IntKind.i64.wrap ((k : Int) + (j : Int)) = (k : Int) + (j : Int) := by rw [IntKind.wrap_i64]; omega
  go_region
  all_goals go_wp2_with fail
  clear hd fw
  go_loopw [5, 6] (fun uv iv wr => ∃ i : Nat, i ≤ j ∧ iv = .int .i64 ((i : Int) - 1) ∧ uv = .int .u64 (lnZ (ys.drop i)) ∧ Hid (Below w.heap.size w wr)) (fun _ iv _ => (intOf iv + 1).toNat)
  case atStart => exact ⟨j, Nat.le_refl _, rfl, by rw [List.drop_of_length_le (by rw [HYL.out]; exact Nat.le_refl _)]; rfl, below_drewM (Below.refl _ _)⟩
  case round =>
    obtain ⟨i, hi, rfl, rfl, hB⟩ := hrel
    match i, hi with
    | 0, _ =>
      have hz : decide ((0 : Int) ≤ ((0 : Nat) : Int) - 1) = false := by decide
      have hR := HR.out.below hB.out
      obtain ⟨z0, z1, z2, zf0, zf1, zf2⟩ := cells3 hR.blk
      go_wp2_with fail
      go_ret
      refine ⟨rfl, ⟨?_, hR.by_.setCellD _ _ _ hR.far', hR.far, by omega, hR.sm⟩, (Sr.of_below hB.out).trans (Sr.set _ _ _ _)⟩
      rw [show ((k + j : Nat) : Int) = (k : Int) + (j : Int) by omega]
      exact set_one hR.blk _
    | i + 1, hi =>
      have hR := HR.out.below hB.out
      obtain ⟨z0, z1, z2, zf0, zf1, zf2⟩ := cells3 hR.blk
      have hle := hR.le
      obtain ⟨bb, bo, hpe, hcell⟩ := hR.by_.cells (by omega)
      have hcl := hcell (k + i) (by omega)
      have hyr := HYR.out (ys.getD i 0) (by have hil : i < ys.length := (by rw [HYL.out]; omega); simp [List.getD, List.getElem?_eq_getElem hil])
      have hnx : lnZ (ys.drop i) = ys.getD i 0 + 256 * lnZ (ys.drop (i + 1)) := by
        have hil : i < ys.length := by rw [HYL.out]; omega
        rw [List.drop_eq_getElem_cons hil]
        simp [lnZ, List.getD, List.getElem?_eq_getElem hil]
      have hub := lnZ_rg (ys.drop (i + 1)) (fun x hx => HYR.out x (List.mem_of_mem_drop hx))
      have hpw : ∀ m, m ≤ 7 → (256 : Int) ^ m ≤ 72057594037927936 := by decide
      have hub2 := hpw (ys.drop (i + 1)).length (by rw [List.length_drop, HYL.out]; omega)
      rw [HYG.out i (by omega)] at hnx hyr
      generalize xs.getD (k + i) 0 = y at hcl hnx hyr
      have HNX := Hid.mkD hnx
      generalize lnZ (ys.drop (i + 1)) = u at hub hub2 HNX
      obtain ⟨u0, u1⟩ := hub
      have u2 : u < 72057594037927936 := by omega
      subst hpe
      have fw1 : IntKind.i64.wrap ((k : Int) + (((i + 1 : Nat) : Int) - 1)) = ((k + i : Nat) : Int) := by rw [IntKind.wrap_i64]; omega
      have fw2 : IntKind.u64.wrap (u * 256) = u * 256 := by simp [IntKind.wrap, IntKind.signed, IntKind.bits]; omega
      have fw3 : IntKind.u64.wrap (u * 256 + y) = u * 256 + y := by simp [IntKind.wrap, IntKind.signed, IntKind.bits]; omega
      have hz : decide ((0 : Int) ≤ ((i + 1 : Nat) : Int) - 1) = true := decide_eq_true (by omega)
      clear hub2 u1 hpw hnx hcell hR
      go_wp2_with fail
      go_region
      all_goals go_wp2_with fail
      all_goals refine ⟨⟨i, by omega, ?_, ?_, below_drewM hB.out⟩, ?_⟩
      all_goals first
        | (refine congrArg (Value.int IntKind.u64) ?_; rw [HNX.out]; omega)
        | (refine congrArg (Value.int IntKind.i64) ?_; omega)
        | (simp [intOf])
set_option maxRecDepth 20000 in
set_option maxHeartbeats 4000000 in
theorem l4num_no (b : Nat) (p : Option Addr) (n c : Nat) (xs : List Int) (k j : Nat) (bad : Bool) (w : World) (h : Rs w b p n c xs k bad) (hj : n < k + j) (hj8 : j ≤ 8) :
    Calls Tryz.prog 12 #[.pointer (some ⟨b, 0, none⟩), .int .i64 j] w fun e w' => e = .returned (.int .i64 0) ∧ Rs w' b p n c xs k true ∧ Sr b w w' := by
  have HR := Hid.mkD h
  obtain ⟨y0, y1, y2, yf0, yf1, yf2⟩ := cells3 h.blk
  have hsm := h.sm
  have hle := h.le
  have hd : decide ((n : Int) < (k : Int) + (j : Int)) = true := decide_eq_true (by omega)
  clear h
  go_enter Tryz.func12, Tryz.ntmps12
  go_wp2_with fail
  have fw : IntKind.i64.wrap ((k : Int) + (j : Int)) = (k : Int) + (j : Int) := by rw [IntKind.wrap_i64]; omega
  go_region
  all_goals go_wp2_with fail
  all_goals go_ret
  have hk : Rs (w.setCell ⟨b, 2, none⟩ (.bool true)) b p n c xs k true := ⟨set_two HR.out.blk _, HR.out.by_.setCellD _ _ _ HR.out.far', HR.out.far, HR.out.le, HR.out.sm⟩
  all_goals exact ⟨rfl, hk.below (below_drewM (Below.refl _ _)), (Sr.set _ _ _ _).trans (Sr.of_below (below_drewM (Below.refl _ _)))⟩
/-- What the specification's reader answers: a value, or it has gone bad. -/
def RsP {α : Type} (b : Nat) (r : Option (α × List Int)) (bad : Bool) (V : α → Value → World → World → Prop) (w w' : World) (e : Ending) : Prop :=
  ∃ v, e = .returned v ∧ Sr b w w' ∧ ((∃ x rest, r = some (x, rest) ∧ V x v w w' ∧ RsE w' b rest bad) ∨ (r = none ∧ ∃ rest, RsE w' b rest true))
theorem l4num_c (b j : Nat) (ys : List Int) (bad : Bool) (w : World) (h : RsE w b ys bad) (hj8 : j ≤ 8) :
    Calls Tryz.prog 12 #[.pointer (some ⟨b, 0, none⟩), .int .i64 j] w fun e w' => ∃ z, e = .returned (.int .i64 z) ∧ Sr b w w' ∧ ((∃ rest, rdN j ys = some (z, rest) ∧ RsE w' b rest bad) ∨ (rdN j ys = none ∧ z = 0 ∧ RsE w' b ys true)) := by
  obtain ⟨p, n, c, xs, k, hR, rfl⟩ := h
  have hl := hR.by_.len
  have hle := hR.le
  by_cases hk : k + j ≤ n
  · refine (l4num_yes b p n c xs k j bad w hR hk hj8).mono ?_
    rintro e w' ⟨rfl, h1, h2⟩
    refine ⟨_, rfl, h2, Or.inl ⟨xs.drop (k + j), ?_, ⟨p, n, c, xs, k + j, h1, rfl⟩⟩⟩
    unfold rdN
    rw [if_pos (by rw [List.length_drop]; omega), List.drop_drop]
  · refine (l4num_no b p n c xs k j bad w hR (by omega) hj8).mono ?_
    rintro e w' ⟨rfl, h1, h2⟩
    refine ⟨_, rfl, h2, Or.inr ⟨?_, rfl, ⟨p, n, c, xs, k, h1, rfl⟩⟩⟩
    unfold rdN
    rw [if_neg (by rw [List.length_drop]; omega)]
end Go.Proofs.YtkkmoaidbmnolaaGreatDoor
