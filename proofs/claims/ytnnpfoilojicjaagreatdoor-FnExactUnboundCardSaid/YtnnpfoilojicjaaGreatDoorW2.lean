import Derived.Test.YtnnpfoilojicjaaGreatDoorW1
import Derived.Deep.QuietTactic
import Derived.BigQuiet
import Derived.Deep.OwnRows
namespace Go.Proofs.YtnnpfoilojicjaaGreatDoor
open Go.RowKit Ch1
theorem info5 : (Tryz.prog.info? 5).map (fun i => (i.zero, i.size, i.bytes)) = some (some (.int .u8 0), 1, 1) := by kernel_rfl
structure By (w : World) (p : Option Addr) (n c : Nat) (xs : List Int) : Prop where
 len : xs.length = n
 cap : n ≤ c
 big : c ≤ maxLen
 rng : ∀ i, 0 ≤ xs.getD i 0 ∧ xs.getD i 0 < 256
 cells : Lib.BytesIn w p n xs
 old : ∀ a, p = some a → 0 < n → a.block < w.heap.size
theorem By.below {w w' : World} {p : Option Addr} {n c : Nat} {xs : List Int} (h : By w p n c xs) (hb : Below w.heap.size w w') : By w' p n c xs := by
 refine ⟨h.len, h.cap, h.big, h.rng, fun hn => ?_, fun a ha hn => Nat.lt_of_lt_of_le (h.old a ha hn) hb.size⟩
 obtain ⟨b, o, e, hc⟩ := h.cells hn
 have ho := h.old _ e hn
 exact ⟨b, o, e, fun i hi => by rw [hb.cell (p := ⟨b, o + i, none⟩) ho]; exact hc i hi⟩
set_option maxHeartbeats 400000 in
theorem szByte28 (p : Option Addr) (n c : Nat) (left : Int) (w : World) (hn : n ≤ 9223372036854775807) (h0 : 0 ≤ left) (h1 : left ≤ 1048576) :
  Calls Tryz.prog 25 #[.slice p n c, .int .i64 left] w fun e w' => e = .returned (.int .i64 (if left - n < 0 then -1 else left - n)) ∧ w' = w := by
 by_cases h : left - n < 0
 ·rw [if_pos h]
  go_enter Tryz.func25, Tryz.ntmps25
  go_wp2
  go_ret
  exact ⟨rfl, rfl⟩
 ·rw [if_neg h]
  go_enter Tryz.func25, Tryz.ntmps25
  go_wp2
  go_ret
  exact ⟨rfl, rfl⟩
set_option maxHeartbeats 400000 in
theorem eqByte32 (p1 p2 : Option Addr) (n c1 c2 : Nat) (xs : List Int) (w : World) (h1 : By w p1 n c1 xs) (h2 : By w p2 n c2 xs) :
  Calls Tryz.prog 21 #[.slice p1 n c1, .slice p2 n c2] w fun e w' => e = .returned (.bool true) ∧ ∃ q, w' = w.drewN q := by
 have hbig : n ≤ 9223372036854775807 := by have := h1.cap; have := h1.big; unfold maxLen at this; omega
 have hc1 := h1.cells
 have hc2 := h2.cells
 clear h1 h2
 have HC1 : Hid (Lib.BytesIn w p1 n xs) := hc1
 have HC2 : Hid (Lib.BytesIn w p2 n xs) := hc2
 clear hc1 hc2
 go_enter Tryz.func21, Tryz.ntmps21
 go_wp2
 go_loopw [5] (fun i wr => ∃ k q : Nat, k ≤ n ∧ i = .int .i64 k ∧ wr = w.drewN q) (fun i _ => n - (intOf i).toNat)
 case atStart => exact ⟨0, 0, Nat.zero_le _, rfl, rfl⟩
 case round =>
  obtain ⟨k, q, hk, rfl, rfl⟩ := hrel
  by_cases hlt : k < n
  ·obtain ⟨b1, o1, rfl, g1⟩ := HC1.out (by omega)
   obtain ⟨b2, o2, rfl, g2⟩ := HC2.out (by omega)
   have g1 := g1 k hlt
   have g2 := g2 k hlt
   go_wp2
   go_quiet (fail)
   go_wp2
   exact ⟨⟨k + 1, q + nq, by omega, by go_num, rfl⟩, by simp [intOf]; omega⟩
  ·go_wp2
   go_ret
   exact ⟨rfl, q, rfl⟩
theorem all_getD {f : Int → Bool} {xs : List Int} (h : ∀ j, j < xs.length → f (xs.getD j 0) = true) : xs.all f = true := by
 rw [List.all_eq_true]
 intro x hx
 obtain ⟨j, hj, e⟩ := List.getElem_of_mem hx
 have := h j hj
 simpa [List.getD, List.getElem?_eq_getElem hj, e] using this
theorem not_all_getD {f : Int → Bool} {xs : List Int} {j : Nat} (hj : j < xs.length) (h : f (xs.getD j 0) = false) : xs.all f = false := by
 rw [Bool.eq_false_iff]
 intro ha
 rw [List.all_eq_true] at ha
 have := ha (xs.getD j 0) (by simp [List.getD, List.getElem?_eq_getElem hj])
 rw [h] at this; cases this
theorem head_getD {xs : List Int} (h : 0 < xs.length) : xs.head? = some (xs.getD 0 0) := by
 cases xs with
 | nil => simp at h
 | cons a r => rfl
theorem tail_getD (xs : List Int) (i : Nat) : xs.tail.getD i 0 = xs.getD (i + 1) 0 := by
 cases xs with
 | nil => rfl
 | cons a r => simp [List.getD]
theorem unsigned_minus {xs : List Int} (h : 0 < xs.length) (h45 : xs.getD 0 0 = 45) : unsigned xs = xs.tail := by
 unfold unsigned; rw [head_getD h, h45]; rfl
theorem unsigned_plain {xs : List Int} (h45 : ¬ (0 < xs.length ∧ xs.getD 0 0 = 45)) : unsigned xs = xs := by
 unfold unsigned
 cases xs with
 | nil => rfl
 | cons a r =>
  have : a ≠ 45 := fun e => h45 ⟨by simp, by simpa using e⟩
  simp [this]
theorem numB_true {xs ys : List Int} (hy : unsigned xs = ys) (h : ∀ j, j < ys.length → digB (ys.getD j 0) = true) : numB xs = decide (0 < ys.length) := by
 unfold numB; rw [hy, all_getD h]; simp
theorem numB_false {xs ys : List Int} (hy : unsigned xs = ys) {j : Nat} (hj : j < ys.length) (h : digB (ys.getD j 0) = false) : numB xs = false := by
 unfold numB; rw [hy, not_all_getD hj h]; simp
theorem numB_plain_true {xs : List Int} (h : ∀ j, j < xs.length → digB (xs.getD j 0) = true) : numB xs = decide (0 < xs.length) := by
 refine numB_true (unsigned_plain fun ⟨h0, h45⟩ => ?_) h
 have := h 0 h0
 rw [h45] at this; revert this; decide
theorem numB_plain_false {xs : List Int} (hp : ¬ (1 < xs.length ∧ xs.getD 0 0 = 45)) {j : Nat} (hj : j < xs.length) (h : digB (xs.getD j 0) = false) : numB xs = false := by
 by_cases h45 : xs.getD 0 0 = 45
 ·have h1 : xs.length = 1 := by have : ¬ 1 < xs.length := fun h => hp ⟨h, h45⟩; omega
  unfold numB
  rw [unsigned_minus (by omega) h45]
  simp [h1]
 ·exact numB_false (unsigned_plain fun h => h45 h.2) hj h
set_option maxHeartbeats 400000 in
theorem number49_plain (p : Option Addr) (n c : Nat) (xs : List Int) (w : World) (h : By w p n c xs) (hp : ¬ (1 < xs.length ∧ xs.getD 0 0 = 45)) :
  Calls Tryz.prog 128 #[.slice p n c] w fun e w' => e = .returned (.bool (numB xs)) ∧ w' = w := by
 have hbig : n ≤ 9223372036854775807 := by have := h.cap; have := h.big; unfold maxLen at this; omega
 have HB : Hid (By w p n c xs) := h
 have HP : Hid (¬ (1 < xs.length ∧ xs.getD 0 0 = 45)) := hp
 have hl : Hid (xs.length = n) := h.len
 clear h
 by_cases h1 : 1 < n
 ·obtain ⟨b, o, rfl, g⟩ := HB.out.cells (by omega)
  have g0 := g 0 (by omega)
  have hne : (xs.getD 0 0 == 45) = false := by
   rw [beq_eq_false_iff_ne]; intro e; exact hp ⟨by rw [hl.out]; exact h1, e⟩
  generalize hx0 : xs.getD 0 0 = x0 at g0 hne
  have HX : Hid (xs.getD 0 0 = x0) := hx0
  clear hx0 hp g
  rw [Nat.add_zero] at g0
  go_enter Tryz.func128, Tryz.ntmps128
  go_wp2
  go_loop [3] (fun i => ∃ k : Nat, k ≤ n ∧ i = .int .i64 k ∧ Hid (∀ j, j < k → digB (xs.getD j 0) = true)) (fun i => n - (intOf i).toNat)
  case atStart => exact ⟨0, Nat.zero_le _, rfl, fun j hj => absurd hj (Nat.not_lt_zero j)⟩
  case round =>
   obtain ⟨k, hk, rfl, hn⟩ := hrel
   by_cases hlt : k < n
   ·obtain ⟨b', o', e, g⟩ := HB.out.cells (by omega)
    cases e
    have gk := g k hlt
    clear g
    obtain ⟨bd, hbd⟩ : ∃ bd, digB (xs.getD k 0) = bd := ⟨_, rfl⟩
    generalize hxk : xs.getD k 0 = xk at gk hbd
    have HXK : Hid (xs.getD k 0 = xk) := hxk
    clear hxk
    cases bd
    ·go_wp2_with (go_at_call 127; refine (digit48 xk _).mono ?_; rintro e w' ⟨rfl, rfl⟩; rw [hbd])
     go_ret
     exact ⟨ret_bool (numB_plain_false HP.out (by rw [hl.out]; exact hlt) (by rw [HXK.out]; exact hbd)).symm, rfl⟩
    ·go_wp2_with (go_at_call 127; refine (digit48 xk _).mono ?_; rintro e w' ⟨rfl, rfl⟩; rw [hbd])
     refine ⟨⟨k + 1, by omega, by go_num, fun j hj => ?_⟩, by simp [intOf]; omega⟩
     by_cases e : j < k
     ·exact hn.out j e
     ·rw [show j = k by omega, HXK.out]; exact hbd
   ·have : k = n := by omega
    subst this
    go_wp2
    go_ret
    exact ⟨ret_bool (by rw [numB_plain_true (fun j hj => hn.out j (by rw [← hl.out]; exact hj)), hl.out]), rfl⟩
 ·go_enter Tryz.func128, Tryz.ntmps128
  go_wp2
  go_loop [3] (fun i => ∃ k : Nat, k ≤ n ∧ i = .int .i64 k ∧ Hid (∀ j, j < k → digB (xs.getD j 0) = true)) (fun i => n - (intOf i).toNat)
  case atStart => exact ⟨0, Nat.zero_le _, rfl, fun j hj => absurd hj (Nat.not_lt_zero j)⟩
  case round =>
   obtain ⟨k, hk, rfl, hn⟩ := hrel
   by_cases hlt : k < n
   ·obtain ⟨b', o', rfl, g⟩ := HB.out.cells (by omega)
    have gk := g k hlt
    clear g
    obtain ⟨bd, hbd⟩ : ∃ bd, digB (xs.getD k 0) = bd := ⟨_, rfl⟩
    generalize hxk : xs.getD k 0 = xk at gk hbd
    have HXK : Hid (xs.getD k 0 = xk) := hxk
    clear hxk
    cases bd
    ·go_wp2_with (go_at_call 127; refine (digit48 xk _).mono ?_; rintro e w' ⟨rfl, rfl⟩; rw [hbd])
     go_ret
     exact ⟨ret_bool (numB_plain_false HP.out (by rw [hl.out]; exact hlt) (by rw [HXK.out]; exact hbd)).symm, rfl⟩
    ·go_wp2_with (go_at_call 127; refine (digit48 xk _).mono ?_; rintro e w' ⟨rfl, rfl⟩; rw [hbd])
     refine ⟨⟨k + 1, by omega, by go_num, fun j hj => ?_⟩, by simp [intOf]; omega⟩
     by_cases e : j < k
     ·exact hn.out j e
     ·rw [show j = k by omega, HXK.out]; exact hbd
   ·have : k = n := by omega
    subst this
    go_wp2
    go_ret
    exact ⟨ret_bool (by rw [numB_plain_true (fun j hj => hn.out j (by rw [← hl.out]; exact hj)), hl.out]), rfl⟩
set_option maxHeartbeats 400000 in
theorem number49_minus (p : Option Addr) (n c : Nat) (xs : List Int) (w : World) (h : By w p n c xs) (h1 : 1 < n) (h45 : xs.getD 0 0 = 45) :
  Calls Tryz.prog 128 #[.slice p n c] w fun e w' => e = .returned (.bool (numB xs)) ∧ w' = w := by
 have hbig : n ≤ 9223372036854775807 := by have := h.cap; have := h.big; unfold maxLen at this; omega
 have hcb : c ≤ 9223372036854775807 := by have := h.big; unfold maxLen at this; omega
 have hcap : n ≤ c := h.cap
 obtain ⟨m, rfl⟩ : ∃ m, n = m + 1 := ⟨n - 1, by omega⟩
 obtain ⟨d, rfl⟩ : ∃ d, c = d + 1 := ⟨c - 1, by omega⟩
 have hd : 0 < d := by omega
 have HB : Hid (By w p (m + 1) (d + 1) xs) := h
 have hy : Hid (unsigned xs = xs.tail) := unsigned_minus (by rw [h.len]; omega) h45
 have hl : Hid (xs.tail.length = m) := by unfold Hid; rw [List.length_tail, h.len]; rfl
 obtain ⟨b, o, rfl, g⟩ := h.cells (by omega)
 have g0 := g 0 (by omega)
 rw [h45, Nat.add_zero] at g0
 clear h h45 g
 go_enter Tryz.func128, Tryz.ntmps128
 go_wp2
 go_loop [3] (fun i => ∃ k : Nat, k ≤ m ∧ i = .int .i64 k ∧ Hid (∀ j, j < k → digB (xs.tail.getD j 0) = true)) (fun i => m - (intOf i).toNat)
 case atStart => exact ⟨0, Nat.zero_le _, rfl, fun j hj => absurd hj (Nat.not_lt_zero j)⟩
 case round =>
  obtain ⟨k, hk, rfl, hn⟩ := hrel
  by_cases hlt : k < m
  ·obtain ⟨b', o', e, g⟩ := HB.out.cells (by omega)
   cases e
   have gk := g (k + 1) (by omega)
   rw [← tail_getD, show o + (k + 1) = o + 1 + k by omega] at gk
   clear g
   obtain ⟨bd, hbd⟩ : ∃ bd, digB (xs.tail.getD k 0) = bd := ⟨_, rfl⟩
   generalize hxk : xs.tail.getD k 0 = xk at gk hbd
   have HXK : Hid (xs.tail.getD k 0 = xk) := hxk
   clear hxk
   cases bd
   ·go_wp2_with (go_at_call 127; refine (digit48 xk _).mono ?_; rintro e w' ⟨rfl, rfl⟩; rw [hbd])
    go_ret
    exact ⟨ret_bool (numB_false hy.out (by rw [hl.out]; exact hlt) (by rw [HXK.out]; exact hbd)).symm, rfl⟩
   ·go_wp2_with (go_at_call 127; refine (digit48 xk _).mono ?_; rintro e w' ⟨rfl, rfl⟩; rw [hbd])
    refine ⟨⟨k + 1, by omega, by go_num, fun j hj => ?_⟩, by simp [intOf]; omega⟩
    by_cases e : j < k
    ·exact hn.out j e
    ·rw [show j = k by omega, HXK.out]; exact hbd
  ·have : k = m := by omega
   subst this
   go_wp2
   go_ret
   exact ⟨ret_bool (by rw [numB_true hy.out (fun j hj => hn.out j (by rw [← hl.out]; exact hj)), hl.out]), rfl⟩
theorem number49 (p : Option Addr) (n c : Nat) (xs : List Int) (w : World) (h : By w p n c xs) :
  Calls Tryz.prog 128 #[.slice p n c] w fun e w' => e = .returned (.bool (numB xs)) ∧ w' = w := by
 by_cases hp : 1 < xs.length ∧ xs.getD 0 0 = 45
 ·exact number49_minus p n c xs w h (by rw [← h.len]; exact hp.1) hp.2
 ·exact number49_plain p n c xs w h hp
theorem prefix45_yes {xs : List Int} (h : 0 < xs.length) (h45 : xs.getD 0 0 = 45) : Lib.hasPrefix (Lib.bytesOf xs) (Lib.bytesOf [45]) = true := by
 cases xs with
 | nil => simp at h
 | cons a r => simp at h45; subst h45; simp [Lib.hasPrefix, Lib.bytesOf]
theorem prefix45_no {xs : List Int} (hr : ∀ i, 0 ≤ xs.getD i 0 ∧ xs.getD i 0 < 256) (h45 : ¬ (0 < xs.length ∧ xs.getD 0 0 = 45)) : Lib.hasPrefix (Lib.bytesOf xs) (Lib.bytesOf [45]) = false := by
 cases xs with
 | nil => simp [Lib.hasPrefix, Lib.bytesOf]
 | cons a r =>
  have h0 := hr 0
  simp at h0
  have hne : a ≠ 45 := fun e => h45 ⟨by simp, by simpa using e⟩
  obtain ⟨m, rfl⟩ := Int.eq_ofNat_of_zero_le h0.1
  have hm : m < 256 := by omega
  have hm' : m ≠ 45 := by omega
  have hu : (45 : UInt8) ≠ UInt8.ofNat m := by
   intro e
   have := congrArg UInt8.toNat e
   simp at this
   omega
  simp [Lib.hasPrefix, Lib.bytesOf, List.isPrefixOf, hu]
theorem trim_no {p : Option Addr} {n c : Nat} {xs : List Int} (hr : ∀ i, 0 ≤ xs.getD i 0 ∧ xs.getD i 0 < 256) (h45 : ¬ (0 < xs.length ∧ xs.getD 0 0 = 45)) : Lib.trimPrefixV p n c xs [45] = .slice p n c := by
 unfold Lib.trimPrefixV
 split
 ·rename_i b o _ _ e
  cases e
  simp [Lib.bytesTrimPrefix, prefix45_no hr h45]
 ·rfl
theorem trim_yes {b o n c : Nat} {xs : List Int} (h : 0 < xs.length) (h45 : xs.getD 0 0 = 45) : Lib.trimPrefixV (some ⟨b, o, none⟩) n c xs [45] = Lib.sliceFrom b o n c 1 := by
 simp [Lib.trimPrefixV, Lib.bytesTrimPrefix, prefix45_yes h h45]
structure Behind (w : World) (xs : List Int) (p : Option Addr) (n c : Nat) (ys : List Int) : Prop where
 un : unsigned xs = ys
 by_ : By w p n c ys
theorem trimmed (p : Option Addr) (n c : Nat) (xs : List Int) (w : World) (h : By w p n c xs) : ∃ p' n' c' ys, Lib.trimPrefixV p n c xs [45] = .slice p' n' c' ∧ Behind w xs p' n' c' ys := by
 by_cases h45 : 0 < xs.length ∧ xs.getD 0 0 = 45
 ·obtain ⟨h0, h45⟩ := h45
  have hn : 0 < n := by rw [← h.len]; exact h0
  obtain ⟨b, o, rfl, g⟩ := h.cells hn
  have hold := h.old _ rfl hn
  refine ⟨_, _, _, xs.tail, by rw [trim_yes h0 h45, Lib.sliceFrom], unsigned_minus h0 h45, ?_⟩
  have hc := h.cap; have hb := h.big
  refine ⟨by rw [List.length_tail, h.len], by omega, by omega, fun i => by rw [tail_getD]; exact h.rng (i + 1), fun h1 => ?_, fun a ha h1 => ?_⟩
  ·have : ¬ c = 1 := by omega
   rw [if_neg this]
   exact ⟨b, o + 1, rfl, fun i hi => by rw [tail_getD, show o + 1 + i = o + (i + 1) by omega]; exact g (i + 1) (by omega)⟩
  ·have : ¬ c = 1 := by omega
   rw [if_neg this] at ha
   cases ha; exact hold
 ·exact ⟨p, n, c, xs, trim_no h.rng h45, unsigned_plain h45, h⟩
end Go.Proofs.YtnnpfoilojicjaaGreatDoor
