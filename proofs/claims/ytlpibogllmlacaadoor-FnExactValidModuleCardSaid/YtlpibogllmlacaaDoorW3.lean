import Derived.Test.YtlpibogllmlacaaDoorW2
import Derived.Lib.SlBytesConst
namespace Go.Proofs.YtlpibogllmlacaaDoor
open Go.RowKit Ch1
set_option maxHeartbeats 400000 in
theorem number53 (p : Option Addr) (n c : Nat) (xs : List Int) (w : World) (h : By w p n c xs) :
    Calls Tryd.prog 61 #[.slice p n c] w fun e w' => e = .returned (.bool (numB xs)) ∧ Below w.heap.size w w' := by
  have hW : Below w.heap.size w (w.alloc (.cells #[.int .u8 45] 5 (1, 2))) := (Below.refl _ w).alloc (Nat.le_refl _) _
  have h' := h.below hW
  obtain ⟨p', n', c', ys, htr, hbh⟩ := trimmed p n c xs _ h'
  have HT : Hid (Lib.trimPrefixV p n c xs [45] = .slice p' n' c') := htr
  have HH : Hid (Behind (w.alloc (.cells #[.int .u8 45] 5 (1, 2))) xs p' n' c' ys) := hbh
  have hl : Hid (ys.length = n') := hbh.by_.len
  have hbig : n' ≤ 9223372036854775807 := by have := hbh.by_.cap; have := hbh.by_.big; unfold maxLen at this; omega
  have hx : Hid (xs.length = n) := h.len
  have hnc : n ≤ c := h.cap
  have HP : Hid (Lib.BytesIn (w.alloc (.cells #[.int .u8 45] 5 (1, 2))) p n xs) := h'.cells
  have HQ : Hid (Lib.BytesIn (w.alloc (.cells #[.int .u8 45] 5 (1, 2))) (some ⟨w.heap.size, 0, none⟩) 1 [45]) :=
    (fun _ => ⟨w.heap.size, 0, rfl, fun i hi => by
      rw [World.cell?_alloc_mark]
      obtain rfl : i = 0 := by omega
      rfl⟩)
  clear htr hbh h h' hW
  have kc := fun (w : World) (C : Array Value) (n c : Nat) => Lib.run_convert_bytes_const (P := Tryd.prog) w 68 5 C n c Tryd.underlying68 Tryd.underlying5
  go_enter Tryd.func61, Tryd.ntmps61
  go_wp2_with fail
  refine (trimPrefix58 p (some ⟨w.heap.size, 0, none⟩) n c 1 1 xs [45] (w.alloc (.cells #[.int .u8 45] 5 (1, 2))) hx.out rfl hnc HP.out HQ.out).mono ?_
  rintro e w' ⟨rfl, hw'⟩
  have hw'' := hw'.symm
  clear hw'
  subst hw''
  rw [HT.out]
  clear kc HP HQ hx
  go_wp2
  go_loop [12] (fun i => ∃ k : Nat, k ≤ n' ∧ i = .int .i64 k ∧ Hid (∀ j, j < k → digB (ys.getD j 0) = true)) (fun i => n' - (intOf i).toNat)
  case atStart => exact ⟨0, Nat.zero_le _, rfl, fun j hj => absurd hj (Nat.not_lt_zero j)⟩
  case round =>
    obtain ⟨k, hk, rfl, hn⟩ := hrel
    by_cases hlt : k < n'
    · obtain ⟨b, o, rfl, g⟩ := HH.out.by_.cells (by omega)
      have gk := g k hlt
      clear g
      obtain ⟨bd, hbd⟩ : ∃ bd, digB (ys.getD k 0) = bd := ⟨_, rfl⟩
      generalize hxk : ys.getD k 0 = xk at gk hbd
      have HXK : Hid (ys.getD k 0 = xk) := hxk
      clear hxk
      cases bd
      · go_wp2_with (go_at_call 60; refine (digit52 xk _).mono ?_; rintro e w' ⟨rfl, rfl⟩; rw [hbd])
        go_ret
        exact ⟨ret_bool (numB_false HH.out.un (by rw [hl.out]; exact hlt) (by rw [HXK.out]; exact hbd)).symm, (Below.refl _ w).alloc (Nat.le_refl _) _⟩
      · go_wp2_with (go_at_call 60; refine (digit52 xk _).mono ?_; rintro e w' ⟨rfl, rfl⟩; rw [hbd])
        refine ⟨⟨k + 1, by omega, by go_num, fun j hj => ?_⟩, by simp [intOf]; omega⟩
        by_cases e : j < k
        · exact hn.out j e
        · rw [show j = k by omega, HXK.out]; exact hbd
    · have : k = n' := by omega
      subst this
      go_wp2
      go_ret
      exact ⟨ret_bool (by rw [numB_true HH.out.un (fun j hj => hn.out j (by rw [← hl.out]; exact hj)), hl.out]), (Below.refl _ w).alloc (Nat.le_refl _) _⟩
end Go.Proofs.YtlpibogllmlacaaDoor
