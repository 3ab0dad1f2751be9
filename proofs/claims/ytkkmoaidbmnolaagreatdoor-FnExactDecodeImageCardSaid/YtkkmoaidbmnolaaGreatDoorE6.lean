import Derived.Test.YtkkmoaidbmnolaaGreatDoorE3
import Derived.Test.YtkkmoaidbmnolaaGreatDoorQ1
import Derived.Lib.SlBytesConst
namespace Go.Proofs.YtkkmoaidbmnolaaGreatDoor
open Go.RowKit Ch1
end Go.Proofs.YtkkmoaidbmnolaaGreatDoor
namespace Go.Proofs.YtkkmoaidbmnolaaGreatDoor
open Go.RowKit Ch1
theorem flat_len {f : Nat → List Int} {n c : Nat} (h : ∀ i, i < n → (f i).length ≤ c) : ∀ k, k ≤ n → ((List.range k).flatMap f).length ≤ c * k
  | 0, _ => by simp
  | k + 1, hk => by
    have h1 := flat_len h k (by omega)
    have h2 := h k (by omega)
    rw [flat_succ, List.length_append, Nat.mul_succ]
    omega
theorem cst_good {m : Md} (h : GoodM m) {i : Nat} (hi : i < m.consts.length) : (m.consts.getD i []).length ≤ 3000 ∧ ∀ j, j < (m.consts.getD i []).length → goodB ((m.consts.getD i []).getD j dt0) = true := by
  refine ⟨?_, one_good ((oneB_iff _).1 (h.cs.one i hi))⟩
  have h1 := cSum_succ m.consts i hi
  have h2 := cSum_le m.consts (i + 1) (by omega)
  have h3 := h.cs.sum
  omega
theorem ccZ_len {m : Md} (h : GoodM m) (k : Nat) (hk : k ≤ m.consts.length) : (ccZ m.consts k).length ≤ 327002 * k := by
  refine flat_len (n := m.consts.length) (fun i hi => ?_) k hk
  have hg := cst_good h hi
  have := dsZ_len hg.2 _ (Nat.le_refl _)
  unfold cstZ
  rw [List.length_append, leZ_len]
  omega
theorem fcZ_len {f : Fn} (h1 : f.free.length ≤ 50) (h2 : f.code.length ≤ 5000) : (fcZ f).length ≤ 20054 := by
  unfold fcZ
  simp only [List.length_append, leZ_len, frZ_len, cdZ_len, List.length_cons, List.length_nil]
  omega
theorem ffZ_len {m : Md} (h : GoodM m) (k : Nat) (hk : k ≤ m.funcs.length) : (ffZ m.funcs k).length ≤ 20054 * k :=
  flat_len (n := m.funcs.length) (fun _ hi => fcZ_len (fnFacts h hi).1 (fnFacts h hi).2) k hk
/-- What both answer. -/
def EmP (m : Md) (w w' : World) (e : Ending) : Prop := ((¬ GoodM m ∧ e = .returned (.slice none 0 0)) ∨ (GoodM m ∧ ∃ v, e = .returned v ∧ Ow w' w.heap.size v (imZ m))) ∧ Below w.heap.size w w'
theorem By.sla (w : World) : By (w.alloc (.cells #[.int .u8 83, .int .u8 76, .int .u8 65, .int .u8 49] 5 (4, 5))) (some ⟨w.heap.size, 0, none⟩) 4 4 [83, 76, 65, 49] := by
  refine ⟨rfl, Nat.le_refl _, by unfold maxLen; omega, rng_of ?_, fun _ => ⟨w.heap.size, 0, rfl, fun i hi => ?_⟩, fun a ha _ => by cases ha; simp⟩
  · intro z hz; simp at hz; omega
  · rcases (show i = 0 ∨ i = 1 ∨ i = 2 ∨ i = 3 from by omega) with rfl | rfl | rfl | rfl <;> (rw [World.cell?_alloc_mark]; rfl)
theorem Rg.flat {f : Nat → List Int} (h : ∀ i, Rg (f i)) (k : Nat) : Rg ((List.range k).flatMap f) := fun x hx => by
  obtain ⟨i, _, hi⟩ := List.mem_flatMap.1 hx; exact h i x hi
theorem Rg.one (x : Int) : Rg [x % 256] := fun y hy => by simp at hy; omega
theorem fcZ_rg (f : Fn) : Rg (fcZ f) := by
  unfold fcZ
  refine ((Rg.app (fun x hx => ?_) (fun x hx => ?_)).app (leZ_rg _ _)).app (Rg.flat (fun i => ?_) _)
  · simp at hx; omega
  · unfold frZ at hx
    obtain ⟨i, _, rfl⟩ := List.mem_map.1 hx
    unfold boxZ; split <;> omega
  · unfold isZ
    exact Rg.app (fun x hx => by rcases List.mem_cons.1 hx with e | e; omega; exact leZ_rg _ _ x e) (Rg.one _)
theorem datZ_rg {d : Dt} (h : Rg d.text) : Rg (datZ d) := by
  intro x hx
  unfold datZ at hx
  rcases List.mem_cons.1 hx with e | e
  · omega
  · split at e
    · exact leZ_rg _ _ x e
    · split at e
      · simp at e; omega
      · split at e
        · rcases List.mem_cons.1 e with e2 | e2
          · omega
          · exact h x e2
        · exact leZ_rg _ _ x e
end Go.Proofs.YtkkmoaidbmnolaaGreatDoor
namespace Go.Proofs.YtkkmoaidbmnolaaGreatDoor
open Go.RowKit Ch1
theorem tdiv256 (y : Int) (h0 : 0 ≤ y) (h1 : y < 18446744073709551616) : IntKind.u64.wrap (y.tdiv 256) = y / 256 := by
  rw [Int.tdiv_eq_ediv_of_nonneg h0, IntKind.wrap_u64]; omega
theorem tmod256 (y : Int) (h0 : 0 ≤ y) : IntKind.u64.wrap (y.tmod 256) = y % 256 := by
  rw [Int.tmod_eq_emod_of_nonneg h0, IntKind.wrap_u64]; omega
/-- At the head of the loop over a number's bytes. -/
def LiI (w : World) (n : Nat) (u : Int) (uv ov iv : Value) (wr : World) : Prop := ∃ j : Nat, j ≤ n ∧ iv = .int .i64 j ∧ uv = .int .u64 (shZ j u) ∧ Hid (Ow wr w.heap.size ov (leZ j u)) ∧ Hid (Below w.heap.size w wr)
set_option maxRecDepth 20000 in
set_option maxHeartbeats 2000000 in
theorem little_c (v : Int) (n : Nat) (hn : n ≤ 8) (w : World) : Calls Tryz.prog 45 #[.int .i64 v, .int .i64 n] w fun e w' => ∃ r, e = .returned r ∧ Ow w' w.heap.size r (leZ n (v % 18446744073709551616)) ∧ Below w.heap.size w w' := by
  obtain ⟨u, hu⟩ : ∃ u, u = v % 18446744073709551616 := ⟨_, rfl⟩
  have HU : Hid (0 ≤ u ∧ u < 18446744073709551616) := ⟨by omega, by omega⟩
  have huw : IntKind.u64.wrap v = u := by rw [IntKind.wrap_u64, hu]
  rw [← hu]
  clear hu
  go_enter Tryz.func45, Tryz.ntmps45
  go_wp2
  go_loopw [5, 6, 7] (fun uv ov iv wr => LiI w n u uv ov iv wr) (fun _ _ iv _ => n - (intOf iv).toNat)
  case atStart => exact ⟨0, Nat.zero_le _, rfl, rfl, Ow.nil _ _, Below.refl _ _⟩
  case round =>
    obtain ⟨j, hj, rfl, rfl, hO, hB⟩ := hrel
    by_cases hlt : j < n
    · have hr := shZ_rng j u HU.out.1
      have hu1 := HU.out.2
      have HN : Hid (leZ (j + 1) u = leZ j u ++ [shZ j u % 256]) := leZ_snoc j u
      have HSH : Hid (shZ (j + 1) u = shZ j u / 256) := rfl
      have hl : (leZ j u).length ≤ 500000000 := by rw [leZ_len]; omega
      have t1 := tdiv256 (shZ j u) hr.1 (by omega)
      have t2 := tmod256 (shZ j u) hr.1
      have hs := hB.out.size
      obtain ⟨h0, h1⟩ := hr
      generalize shZ j u = y at HN HSH h0 h1 t1 t2
      generalize leZ j u = acc at hO HN hl
      go_wp2_with (at_builtin; refine app1_law _ rfl (.tmp 15) (.tmp 19) rfl w.heap.size _ acc (y % 256) (by omega) (by omega) (by simp [Act.eval]) hO.out (by simp [Act.eval]) hl hs ?_; intro v2 w2 ho2 hb2 _; have HO2 : Hid (Ow w2 w.heap.size v2 (acc ++ [y % 256])) := ho2; have HB2 : Hid (Below w.heap.size w w2) := hB.out.trans hb2; clear ho2 hb2)
      exact ⟨⟨j + 1, by omega, by go_num, by rw [HSH.out], by unfold Hid; rw [HN.out]; exact HO2.out, HB2⟩, by simp [intOf]; omega⟩
    · obtain rfl : j = n := by omega
      go_wp2
      go_ret
      exact ⟨_, rfl, hO.out, hB.out⟩
theorem little2_c (v : Int) (w : World) : Calls Tryz.prog 45 #[.int .i64 v, .int .i64 2] w fun e w' => Txt w w' e (leZ 2 v) := by
  refine (little_c v 2 (by omega) w).mono ?_
  rintro e w' ⟨r, rfl, ho, hb⟩
  rw [leZ_u2] at ho
  exact ho.txt (rng_of (leZ_rg _ _)) (by rw [leZ_len]; omega) hb
theorem little4_c (v : Int) (w : World) : Calls Tryz.prog 45 #[.int .i64 v, .int .i64 4] w fun e w' => Txt w w' e (leZ 4 v) := by
  refine (little_c v 4 (by omega) w).mono ?_
  rintro e w' ⟨r, rfl, ho, hb⟩
  rw [leZ_u4] at ho
  exact ho.txt (rng_of (leZ_rg _ _)) (by rw [leZ_len]; omega) hb
theorem little8_c (v : Int) (w : World) : Calls Tryz.prog 45 #[.int .i64 v, .int .i64 8] w fun e w' => Txt w w' e (leZ 8 v) := by
  refine (little_c v 8 (by omega) w).mono ?_
  rintro e w' ⟨r, rfl, ho, hb⟩
  rw [leZ_u8] at ho
  exact ho.txt (rng_of (leZ_rg _ _)) (by rw [leZ_len]; omega) hb
end Go.Proofs.YtkkmoaidbmnolaaGreatDoor
