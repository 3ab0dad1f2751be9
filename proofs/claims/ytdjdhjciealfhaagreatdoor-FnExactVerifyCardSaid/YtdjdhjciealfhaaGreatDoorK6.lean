import Derived.Test.YtdjdhjciealfhaaGreatDoorK3
import Derived.Test.YtdjdhjciealfhaaGreatDoorShelfV
import Derived.Laws.CopyOwn
import Derived.Deep.RegionLaw
import Derived.RegionTactic
namespace Go.Proofs.YtdjdhjciealfhaaGreatDoor
open Go.RowKit Ch1
namespace Vf
/-- Sets as they lie. -/
def Kv (xs : List Nat) : List Value := xs.map (fun v : Nat => Value.int .u16 (v : Int))
theorem Kv_app (xs ys : List Nat) : Kv (xs ++ ys) = Kv xs ++ Kv ys := by simp [Kv]
theorem Kv_len (xs : List Nat) : (Kv xs).length = xs.length := by simp [Kv]
theorem Kv_one (xs : List Nat) : ∀ v ∈ Kv xs, v.oneCell' = true := by simp [Kv, Value.oneCell']
def OwK (w : World) (B : Nat) (v : Value) (xs : List Nat) : Prop := w.ownsRow B 87 1 v xs.length (Kv xs)
theorem OwK.below {w w' : World} {B : Nat} {v : Value} {xs : List Nat} (h : OwK w B v xs) (hb : Below w.heap.size w w') : OwK w' B v xs := ownsRow_below h hb
theorem OwK.form {w : World} {B : Nat} {v : Value} {xs : List Nat} (h : OwK w B v xs) : ∃ p c, v = .slice p xs.length c := owns_form h
theorem OwK.nk {w : World} {B n c : Nat} {p : Option Addr} {xs : List Nat} (h : OwK w B (.slice p n c) xs) : Nk w p n c xs := by
  obtain ⟨p', c', e⟩ := owns_form h
  cases e
  obtain ⟨h1, h2, h3⟩ := owns_cells h
  refine ⟨rfl, h1, h2, fun h0 => ?_⟩
  obtain ⟨g, e, hg, hB, hc⟩ := h3 h0
  refine ⟨g, 0, e, hg, fun k hk => ?_⟩
  rw [Nat.zero_add, hc k (by omega)]
  simp [Kv, List.getD, List.getElem?_eq_getElem hk]
theorem infoK : (Tryz.prog.info? 87).map (fun i => (i.zero, i.size, i.bytes)) = some (some (.int .u16 0), 1, 2) := by kernel_rfl
theorem sizeK : (Tryz.prog.info? 87).map (·.size) = some 1 := by kernel_rfl
theorem OwK.nil (w : World) (B : Nat) : OwK w B (.slice none 0 0) [] := ⟨rfl, Or.inl ⟨rfl, rfl⟩⟩
theorem OwK.new (w : World) (x B : Nat) (hB : B ≤ w.heap.size) : OwK (w.alloc (.cells #[.int .u16 (x : Nat)] 87)) B (.slice (some ⟨w.heap.size, 0, none⟩) 1 1) [x] :=
  ⟨rfl, Or.inr ⟨w.heap.size, 1, _, rfl, hB, Go.Deep.blk_alloc_new _ _, Nat.le_refl _, by unfold maxLen; omega, rfl, rfl⟩⟩
/-- append(v, k). -/
theorem app1K_law (w : World) {ops : Array Oper} {rest : List Oper} {o : Oper} {a : Act} {Q : Exit → Act → World → Prop} (hgd : o.guard = none) (s x : Operand)
    (ho : o.op = .call { callee := .builtin .append, args := #[s, x], argTypes := #[133, 133] }) (B : Nat) (v : Value) (xs : List Nat) (k : Nat) (hs : a.eval s = v) (hown : OwK w B v xs) (hx : a.eval x = .slice (some ⟨w.heap.size, 0, none⟩) 1 1)
    (hlen : xs.length ≤ 1000000000) (hB : B ≤ w.heap.size)
    (h : ∀ v' w', OwK w' B v' (xs ++ [k]) → Below B w w' → But w w' v → wpList Tryz.prog ops Q rest (a.put o.dst v') w') : wpList Tryz.prog ops Q (o :: rest) a (w.alloc (.cells #[.int .u16 (k : Int)] 87)) := by
  refine appW_law w hgd s x 133 87 ho (.int .u16 0) 1 2 Tryz.underlying133 infoK rfl (by decide) B v xs.length (Kv xs) hs hown #[.int .u16 (k : Int)] rfl (by simp [Value.oneCell']) hx (by unfold maxLen; omega) (by omega) hB ?_
  intro v' w' k1 k2 k3
  refine h v' w' ?_ k2 k3
  unfold OwK
  rw [List.length_append, Kv_app]
  exact k1
/-- The row while it is filled: n of k. -/
def rpL (v k n : Nat) : List Value := Kv (List.replicate n v ++ List.replicate (k - n) 0)
theorem rpL_len {v k n : Nat} (h : n ≤ k) : (rpL v k n).length = k := by simp [rpL, Kv_len]; omega
theorem rpL_at {v k n i : Nat} (h : n ≤ k) (hi : i < k) : (rpL v k n)[i]? = some (.int .u16 ((if i < n then v else 0 : Nat) : Int)) := by
  unfold rpL Kv
  rw [List.getElem?_map]
  by_cases hn : i < n
  · rw [List.getElem?_append_left (by simp; exact hn)]
    simp [hn]
  · rw [List.getElem?_append_right (by simp; omega), List.length_replicate, List.getElem?_replicate, if_pos (by omega), if_neg hn]
    rfl
theorem rp_splice {v k n j : Nat} (h : n + j ≤ k) : splice (rpL v k n) n (Kv (List.replicate j v)) = rpL v k (n + j) := by
  apply List.ext_getElem?
  intro i
  have hl := rpL_len (v := v) (k := k) (n := n) (by omega)
  have hl2 := rpL_len (v := v) (k := k) (n := n + j) h
  have hk : (Kv (List.replicate j v)).length = j := by simp [Kv_len]
  by_cases hi : i < k
  · rw [rpL_at h hi]
    unfold splice
    by_cases h1 : i < n
    · rw [List.getElem?_append_left (by rw [List.length_take]; omega), List.getElem?_take, if_pos h1, rpL_at (by omega) hi, if_pos h1, if_pos (by omega)]
    · rw [List.getElem?_append_right (by rw [List.length_take]; omega), List.length_take, show min n (rpL v k n).length = n by omega]
      by_cases h2 : i < n + j
      · rw [List.getElem?_append_left (by omega), if_pos h2]
        unfold Kv
        rw [List.getElem?_map, List.getElem?_replicate, if_pos (by omega)]
        rfl
      · rw [List.getElem?_append_right (by omega), hk, List.getElem?_drop, show n + j + (i - n - j) = i by omega, rpL_at (by omega) hi, if_neg h1, if_neg h2]
  · rw [List.getElem?_eq_none (by rw [length_splice _ _ _ (by omega)]; omega), List.getElem?_eq_none (by omega)]
theorem rp_made (k : Nat) : (madeCells (Value.int .u16 0).cells (k * 1)).toList = Kv (List.replicate k 0) := by
  apply List.ext_getElem?
  intro i
  have hz : (Value.int .u16 0).cells = #[.int .u16 0] := rfl
  rw [hz]
  by_cases hi : i < k
  · simp [madeCells, Kv, hi, Nat.mod_one]
  · simp [madeCells, Kv, hi]
theorem own_full {w : World} {B n g : Nat} {e : TypeId} {xs : List Value} (h : w.ownsRow B e 1 (.slice (some ⟨g, 0, none⟩) n n) n xs) : w.heap[g]? = some (.cells xs.toArray e) := by
  obtain ⟨_, h | ⟨g', cap, cur, hv, _, hh, _, _, hsz, h4⟩⟩ := h
  · cases h.1
  · cases hv
    have hl : cur.toList.length = n * 1 := by simpa using hsz
    rw [hh]
    congr 2
    rw [← h4, ← hl, List.take_length]
theorem full_own {w : World} {B n g : Nat} {e : TypeId} {xs : List Value} (h : w.heap[g]? = some (.cells xs.toArray e)) (hB : B ≤ g) (hn : xs.length = n) (hm : n ≤ maxLen) : w.ownsRow B e 1 (.slice (some ⟨g, 0, none⟩) n n) n xs := by
  refine ⟨by omega, Or.inr ⟨g, n, xs.toArray, rfl, hB, h, Nat.le_refl _, hm, by simp [hn], ?_⟩⟩
  rw [List.toList_toArray, Nat.mul_one, ← hn, List.take_length]
/-- copy, as one step, whatever its lengths. -/
theorem run_copy_splice (w : World) (ty : TypeId) (dp sp : Option Addr) (dLen dCap sLen sCap : Nat)
    (g off : Nat) (cur : List Value) (hg : w.heap[g]? = some (.cells cur.toArray 87)) (cs : List Value) (hn : cs.length = Nat.min sLen dLen)
    (hpos : 0 < cs.length → dp = some ⟨g, off, none⟩ ∧ ∃ ad, sp = some ad ∧ ∀ j v, cs[j]? = some v → w.cell? (ad.add j) = some v)
    (hfit : off + cs.length ≤ cur.length) (h1 : ∀ v ∈ cs, v.oneCell' = true) (B : Nat) (w0 : World) (hb : Below B w0 w) (hBg : B ≤ g) :
    ∃ w', (Builtin.copy_ #[133, 133] ty #[.slice dp dLen dCap, .slice sp sLen sCap]).run Tryz.prog w = .ok (goInt cs.length) w' ∧ w'.heap[g]? = some (.cells (splice cur off cs).toArray 87) ∧ Below B w0 w' := by
  by_cases h0 : cs.length = 0
  · obtain rfl : cs = [] := List.eq_nil_of_length_eq_zero h0
    exact ⟨w, run_copy_none (P := Tryz.prog) w _ _ ty 87 dp sp dLen dCap sLen sCap Tryz.underlying133 sizeK (by simpa using hn.symm), by simpa [splice] using hg, hb⟩
  · obtain ⟨rfl, ad, rfl, hsrc⟩ := hpos (by omega)
    exact ⟨_, run_copy_row (P := Tryz.prog) w _ _ ty 87 g off dLen dCap ad sLen sCap cur.toArray 87 cs Tryz.underlying133 sizeK hg hn hsrc (by simpa using hfit) h1, by simpa [splice] using setRow_heap w g _ _ 87 _ hg, below_setRow hb hBg _⟩
theorem step_copyK {ops : Array Oper} {o : Oper} {a : Act} {w : World} {K : Act → World → Prop} {Q : Exit → Act → World → Prop} {E : Prop} (hgd : o.guard = none) (d s : Operand)
    (ho : o.op = .call { callee := .builtin .copy, args := #[d, s], argTypes := #[133, 133] })
    (dp sp : Option Addr) (dLen dCap sLen sCap : Nat) (hd : a.eval d = .slice dp dLen dCap) (hs : a.eval s = .slice sp sLen sCap)
    (g off : Nat) (cur : List Value) (hg : w.heap[g]? = some (.cells cur.toArray 87)) (cs : List Value) (hn : cs.length = Nat.min sLen dLen)
    (hpos : 0 < cs.length → dp = some ⟨g, off, none⟩ ∧ ∃ ad, sp = some ad ∧ ∀ j v, cs[j]? = some v → w.cell? (ad.add j) = some v)
    (hfit : off + cs.length ≤ cur.length) (h1 : ∀ v ∈ cs, v.oneCell' = true) (B : Nat) (w0 : World) (hb : Below B w0 w) (hBg : B ≤ g)
    (h : ∀ w', Hid (w'.heap[g]? = some (.cells (splice cur off cs).toArray 87)) → Hid (Below B w0 w') → K (a.put o.dst (goInt cs.length)) w') :
    if Region.wanted o (yielded ops a.tmps) = true then Oper.wp Tryz.prog o a w K Q else E :=
  step_copy_splice hgd d s 133 133 ho 87 Tryz.underlying133 sizeK dp sp dLen dCap sLen sCap hd hs g off cur 87 hg cs hn hpos hfit h1 B w0 hb hBg h
/-- At the head of Repeat's loop. -/
def Rp (S v k : Nat) (w : World) (nv : Value) (wr : World) : Prop := ∃ n : Nat, n ≤ k ∧ (0 < k → 0 < n) ∧ nv = .int .i64 (n : Nat) ∧ Hid (Below w.heap.size w wr) ∧ Hid (wr.heap[S]? = some (.cells (rpL v k n).toArray 87))
set_option maxRecDepth 20000 in
set_option maxHeartbeats 1000000 in
/-- slices.Repeat of one set. -/
theorem repeat_c (v k : Nat) (p : Option Addr) (w : World) (hx : Nk w p 1 1 [v]) (hk : k ≤ 1000) :
    Calls Tryz.prog 98 #[.slice p 1 1, .int .i64 (k : Nat)] w fun e w' => ∃ u, e = .returned u ∧ OwK w' w.heap.size u (List.replicate k v) ∧ Below w.heap.size w w' := by
  obtain ⟨b, o, rfl, hbl, hc⟩ := hx.cells (by omega)
  have x0 := hc 0 (by omega)
  rw [Nat.add_zero] at x0
  clear hc hx
  have HMU := mkD (bitsMul 1 k (by omega) (by omega) w)
  rw [Nat.one_mul, Nat.div_eq_of_lt (by omega), Nat.mod_eq_of_lt (by omega)] at HMU
  have dk : decide ((k : Int) < 0) = false := decide_eq_false (by omega)
  have dm : decide ((9223372036854775807 : Int) < (k : Int)) = false := decide_eq_false (by omega)
  obtain ⟨ii, hi1, hpr⟩ := Option.map_eq_some_iff.1 infoK
  simp only [Prod.mk.injEq] at hpr
  obtain ⟨hz, hs, hb⟩ := hpr
  have HI : Hid (Tryz.prog.info? 87 = some ii ∧ ii.zero = some (.int .u16 0) ∧ ii.size = 1 ∧ ii.bytes = 2) := ⟨hi1, hz, hs, hb⟩
  clear hi1 hz hs hb
  go_enter Tryz.func98, Tryz.ntmps98
  go_wp2_with fail
  refine HMU.out.mono ?_
  rintro e w2 ⟨rfl, hw2⟩
  have hw3 := hw2.symm
  clear hw2
  subst hw3
  have HX0 : Hid (w.cell? ⟨b, o, none⟩ = some (.int .u16 (v : Nat))) := x0
  clear HMU x0
  obtain ⟨j, hj⟩ : ∃ j, j = Nat.min 1 k := ⟨_, rfl⟩
  have HJ := mkD hj
  have hjk : j ≤ k := by rw [hj]; exact Nat.min_le_right _ _
  have hj1 : 0 < k → 0 < j := fun h => by rw [hj]; exact Nat.lt_min.2 ⟨by omega, h⟩
  have hj2 : j ≤ 1 := by rw [hj]; exact Nat.min_le_left _ _
  have HKL : Hid ((Kv (List.replicate j v)).length = j) := by unfold Hid; simp [Kv_len]
  have HR0 : Hid ((rpL v k 0).length = k) := rpL_len (Nat.zero_le _)
  clear hj
  go_wp2_with (first | (at_make; refine wpList_make_full _ rfl (.tmp 29) (.tmp 29) 133 rfl w.heap.size 87 ii _ 1 Tryz.underlying133 HI.out.1 HI.out.2.1 HI.out.2.2.1 .i64 .i64 k k k (by simp [Act.eval]) (by simp [Act.eval]) rfl rfl (by rw [HI.out.2.2.2]; omega) (by unfold maxLen; omega) (Nat.le_refl _) ?_; intro w3 ho hg; have HG : Hid (w3.heap[w.heap.size]? = some (.cells (rpL v k 0).toArray 87)) := (by have h := own_full ho; rw [rp_made] at h; exact h); have HB3 : Hid (Below w.heap.size w w3) := (Below.refl _ w).grown hg (Nat.le_refl _) (fun k h => by cases h); have HX3 : Hid (w3.cell? ⟨b, o, none⟩ = some (.int .u16 (v : Nat))) := (by unfold Hid; rw [HB3.out.cell (p := ⟨b, o, none⟩) hbl]; exact HX0.out); clear ho hg))
  obtain ⟨w4, hr4, hg4, hb4⟩ := run_copy_splice w3 3 (some ⟨w.heap.size, 0, none⟩) (some ⟨b, o, none⟩) k k 1 1 w.heap.size 0 (rpL v k 0) HG.out (Kv (List.replicate j v)) (by rw [HKL.out]; exact HJ.out) (fun h0 => by
    rw [HKL.out] at h0
    refine ⟨rfl, _, rfl, fun i u hu => ?_⟩
    have hi1 := (List.getElem?_eq_some_iff.1 hu).1
    rw [HKL.out] at hi1
    obtain rfl : i = 0 := by omega
    obtain rfl : j = 1 := by omega
    cases hu
    rw [Addr.add_mid]
    exact HX3.out) (by rw [HKL.out, HR0.out]; omega) (Kv_one _) w.heap.size w HB3.out (Nat.le_refl _)
  rw [hr4, HKL.out]
  have HG4 : Hid (w4.heap[w.heap.size]? = some (.cells (rpL v k j).toArray 87)) := by
    have h := hg4
    rw [rp_splice (by omega), Nat.zero_add] at h
    exact h
  have HB4 := mkD hb4
  clear hg4 hb4 hr4
  go_wp2_with fail
  go_loopw [8] (fun nv wr => Rp w.heap.size v k w nv wr) (fun nv _ => k - (intOf nv).toNat)
  case atStart => exact ⟨j, hjk, hj1, rfl, HB4, HG4⟩
  case round =>
    clear HB4 HG4 HB3 HG HX3 HX0 w3 w4 HJ HKL hj1 hj2 hjk HR0 HI
    obtain ⟨n, hn, hn0, rfl, hB, hG⟩ := hrel
    by_cases hlt : n < k
    · have hn1 := hn0 (by omega)
      obtain ⟨d, hd⟩ : ∃ d, d = Nat.min n (k - n) := ⟨_, rfl⟩
      have HD := mkD hd
      have hd1 : d ≤ n := by rw [hd]; exact Nat.min_le_left _ _
      have hd2 : d ≤ k - n := by rw [hd]; exact Nat.min_le_right _ _
      have hd3 : 0 < d := by rw [hd]; exact Nat.lt_min.2 ⟨hn1, by omega⟩
      have HKD : Hid ((Kv (List.replicate d v)).length = d) := by unfold Hid; simp [Kv_len]
      have HRN : Hid ((rpL v k n).length = k) := rpL_len hn
      have HSRC : Hid (∀ i u, (Kv (List.replicate d v))[i]? = some u → wr.cell? ⟨w.heap.size, i, none⟩ = some u) := fun i u hu => by
        have hi1 := (List.getElem?_eq_some_iff.1 hu).1
        rw [HKD.out] at hi1
        have h := rpL_at (v := v) (k := k) (n := n) (i := i) hn (by omega)
        rw [if_pos (by omega)] at h
        have e : u = .int .u16 (v : Nat) := by
          unfold Kv at hu
          rw [List.getElem?_map, List.getElem?_replicate, if_pos hi1] at hu
          cases hu
          rfl
        rw [e, ← h]
        simp [World.cell?, hG.out]
      have hkn : ¬ k = n := by omega
      have hwp : IntKind.i64.wrap ((n : Int) + (d : Int)) = (n : Int) + (d : Int) := by rw [IntKind.wrap_i64]; omega
      clear hd
      go_wp2_with fail
      go_region_law (refine step_copyK rfl (.tmp 41) (.tmp 44) rfl (some ⟨w.heap.size, n, none⟩) (some ⟨w.heap.size, 0, none⟩) (k - n) (k - n) n k (by simp [Act.eval, Act.put]) (by simp [Act.eval, Act.put]) w.heap.size n (rpL v k n) (by exact hG.out) (Kv (List.replicate d v)) ?z1 ?z2 ?z3 (Kv_one _) w.heap.size w ?z4 (Nat.le_refl _) ?_; (case z1 => rw [HKD.out]; exact HD.out); (case z2 => intro h0; refine ⟨rfl, _, rfl, fun i u hu => ?_⟩; rw [Addr.add_mid, Nat.zero_add]; exact HSRC.out i u hu); (case z3 => rw [HKD.out, HRN.out]; omega); (case z4 => exact below_drewM hB.out); intro w4 hg4 hb4; rw [HKD.out])
      all_goals simp only [Act.put, List.getElem_toArray, List.getElem_cons_succ, List.getElem_cons_zero, List.setIfInBounds_toArray, List.set_cons_succ, List.set_cons_zero]
      all_goals go_wp2
      all_goals exact ⟨⟨n + d, by omega, fun _ => by omega, by go_num, hb4, by have h := hg4.out; rw [rp_splice (by omega)] at h; exact h⟩, by simp [intOf]; omega⟩
    · obtain rfl : n = k := by omega
      have HOW : Hid (OwK wr w.heap.size (.slice (some ⟨w.heap.size, 0, none⟩) n n) (List.replicate n v)) := by
        have h := full_own (n := n) hG.out (Nat.le_refl _) (rpL_len (Nat.le_refl _)) (by unfold maxLen; omega)
        unfold Hid OwK
        have e : rpL v n n = Kv (List.replicate n v) := by unfold rpL; simp
        rw [e] at h
        rw [List.length_replicate]
        exact h
      go_wp2_with fail
      go_ret
      exact ⟨_, rfl, HOW.out, hB.out⟩
end Vf
end Go.Proofs.YtdjdhjciealfhaaGreatDoor
namespace Go.Proofs.YtdjdhjciealfhaaGreatDoor
open Go.RowKit Ch1
namespace Vf
/-- At the head of capturedKinds's loop. -/
def Ck (bs : List Bool) (n : Nat) (w : World) (ov iv : Value) (wr : World) : Prop := ∃ (i : Nat) (p : Option Addr) (c : Nat), i ≤ n ∧ iv = .int .i64 (i : Nat) ∧ ov = .slice p i c ∧ Hid (OwK wr w.heap.size (.slice p i c) ((bs.take i).map capK)) ∧ Hid (Below w.heap.size w wr)
theorem take_snoc (bs : List Bool) {i : Nat} (hi : i < bs.length) : (bs.take i).map capK ++ [capK (bs.getD i false)] = (bs.take (i + 1)).map capK := by
  rw [List.take_add_one, List.map_append, List.getElem?_eq_getElem hi]
  simp [List.getD, List.getElem?_eq_getElem hi]
set_option maxRecDepth 20000 in
set_option maxHeartbeats 2000000 in
theorem capturedKinds_c (p : Option Addr) (n c : Nat) (bs : List Bool) (w : World) (hb : Bo w p n c bs) (hn : n ≤ 1000) :
    Calls Tryz.prog 97 #[.slice p n c] w fun e w' => ∃ u, e = .returned u ∧ OwK w' w.heap.size u (bs.map capK) ∧ Below w.heap.size w w' := by
  have HBO := mkD hb
  have HL : Hid (bs.length = n) := hb.len
  have hcb := small_of hb.cap hb.big
  clear hb
  go_enter Tryz.func97, Tryz.ntmps97
  go_wp2_with fail
  go_loopw [3, 8] (fun ov iv wr => Ck bs n w ov iv wr) (fun _ iv _ => n - (intOf iv).toNat)
  case atStart => exact ⟨0, none, 0, Nat.zero_le _, rfl, rfl, OwK.nil _ _, Below.refl _ _⟩
  case round =>
    obtain ⟨i, op, oc, hi, rfl, rfl, hO, hB⟩ := hrel
    by_cases hlt : i < n
    · obtain ⟨b, o, rfl, hbl, hc⟩ := (HBO.out.below hB.out).cells (by omega)
      have x0 := hc i hlt
      obtain ⟨v, hv⟩ : ∃ v, v = bs.getD i false := ⟨_, rfl⟩
      rw [← hv] at x0
      have HV := mkD hv
      have HLT : Hid (((bs.take i).map capK).length = i) := by unfold Hid; rw [List.length_map, List.length_take, HL.out]; omega
      have HSN : Hid ((bs.take i).map capK ++ [capK v] = (bs.take (i + 1)).map capK) := by unfold Hid; rw [hv]; exact take_snoc bs (by rw [HL.out]; exact hlt)
      have HSL : Hid (((bs.take i).map capK ++ [capK v]).length = i + 1) := by unfold Hid; rw [List.length_append, HLT.out]; rfl
      have HCK := mkD (capturedKind_c v wr)
      have hws : w.heap.size ≤ wr.heap.size := hB.out.size
      clear hv hc
      go_wp2_with fail
      refine HCK.out.mono ?_
      rintro e w2 ⟨rfl, hw2⟩
      have hw3 := hw2.symm
      clear hw2
      subst hw3
      clear HCK x0
      go_wp2_with (at_builtin; refine app1K_law wr rfl (.tmp 12) (.tmp 15) rfl w.heap.size (.slice op i oc) ((bs.take i).map capK) (capK v) (by simp [Act.eval]) hO.out (by simp [Act.eval]) (by rw [HLT.out]; omega) hws ?_; intro v5 w5 ho5 hb5 hbt5; obtain ⟨p5, c5, hv5⟩ := ho5.form; rw [HSL.out] at hv5; subst hv5; rw [HSN.out] at ho5; have HO5 := mkD ho5; have HB5 := mkD hb5; clear ho5 hb5 hbt5)
      exact ⟨⟨i + 1, p5, c5, by omega, by go_num, rfl, HO5, hB.out.trans HB5.out⟩, by simp [intOf]; omega⟩
    · have HFIN : Hid (OwK wr w.heap.size (.slice op i oc) (bs.map capK)) := by
        have h := hO.out
        rw [List.take_of_length_le (by rw [HL.out]; omega)] at h
        exact h
      go_wp2_with fail
      go_ret
      exact ⟨_, rfl, HFIN.out, hB.out⟩
/-- The sets that are not empty. -/
def nz (l : List Nat) : List Nat := l.filter (fun v => v != 0)
theorem nz_snoc (l : List Nat) (v : Nat) : nz (l ++ [v]) = nz l ++ (if v = 0 then [] else [v]) := by
  unfold nz
  rw [List.filter_append]
  by_cases h : v = 0
  · simp [h]
  · simp [h]
theorem nz_len (l : List Nat) : (nz l).length ≤ l.length := List.length_filter_le _ _
theorem run_idx (a b c : Nat) (w : World) : (Instr.index 138 (.agg #[.int .u16 (a : Int), .int .u16 (b : Int), .int .u16 (c : Int)]) (.int .i64 0)).run Tryz.prog w = .ok (.int .u16 (a : Int)) w ∧ (Instr.index 138 (.agg #[.int .u16 (a : Int), .int .u16 (b : Int), .int .u16 (c : Int)]) (.int .i64 1)).run Tryz.prog w = .ok (.int .u16 (b : Int)) w ∧ (Instr.index 138 (.agg #[.int .u16 (a : Int), .int .u16 (b : Int), .int .u16 (c : Int)]) (.int .i64 2)).run Tryz.prog w = .ok (.int .u16 (c : Int)) w := by
  have hu := Tryz.underlying138
  obtain ⟨ii, hi1, hs⟩ := Option.map_eq_some_iff.1 sizeK
  refine ⟨?_, ?_, ?_⟩ <;> simp [Instr.index, asIntOf, Sem.run_bind, run_underlying hu, sizeOf, typeInfo, hi1, hs, part, isAgg, run_underlying Tryz.underlying87]
def Ls (x y z : Nat) (w : World) (ov iv : Value) (wr : World) : Prop := ∃ (i l : Nat) (p : Option Addr) (c : Nat), i ≤ 3 ∧ iv = .int .i64 (i : Nat) ∧ ov = .slice p l c ∧ l = (nz ([x, y, z].take i)).length ∧ Hid (OwK wr w.heap.size (.slice p l c) (nz ([x, y, z].take i))) ∧ Hid (Below w.heap.size w wr)
set_option maxRecDepth 20000 in
set_option maxHeartbeats 2000000 in
theorem list_c (x y z : Nat) (w : World) :
    Calls Tryz.prog 79 #[.agg #[.int .u16 (x : Nat), .int .u16 (y : Nat), .int .u16 (z : Nat)]] w fun e w' => ∃ u, e = .returned u ∧ OwK w' w.heap.size u (nz [x, y, z]) ∧ Below w.heap.size w w' := by
  go_enter Tryz.func79, Tryz.ntmps79
  go_wp2_with fail
  go_loopw [3, 7] (fun ov iv wr => Ls x y z w ov iv wr) (fun _ iv _ => 3 - (intOf iv).toNat)
  case atStart => exact ⟨0, 0, none, 0, Nat.zero_le _, rfl, rfl, rfl, OwK.nil _ _, below1 _ _⟩
  case round =>
    obtain ⟨i, l, op, oc, hi, rfl, rfl, hl, hO, hB⟩ := hrel
    have hws : w.heap.size ≤ wr.heap.size := hB.out.size
    by_cases hlt : i < 3
    · rcases (show i = 0 ∨ i = 1 ∨ i = 2 by omega) with h | h | h <;> subst h
      · have HLT : Hid ((nz ([x, y, z].take 0)).length = l) := hl.symm
        have hl3 : l ≤ 3 := by rw [hl]; exact Nat.le_trans (nz_len _) (by simp)
        have HSN : Hid (nz ([x, y, z].take (1)) = nz ([x, y, z].take 0) ++ (if x = 0 then [] else [x])) := nz_snoc ([x, y, z].take 0) x
        clear hl
        by_cases h0 : x = 0
        · have b0 : ((x : Int) != 0) = false := by simp; omega
          rw [if_pos h0, List.append_nil] at HSN
          clear h0
          go_wp2_with fail
          rw [(run_idx x y z wr).1]
          go_wp2_with fail
          exact ⟨⟨1, l, op, oc, by omega, by go_num, rfl, by rw [HSN.out]; exact HLT.out.symm, by unfold Hid; rw [HSN.out]; exact hO.out, hB⟩, by simp [intOf]⟩
        · have b0 : ((x : Int) != 0) = true := by simp; omega
          rw [if_neg h0] at HSN
          have HSL : Hid ((nz ([x, y, z].take 0) ++ [x]).length = l + 1) := by unfold Hid; rw [List.length_append, HLT.out]; rfl
          clear h0
          go_wp2_with fail
          rw [(run_idx x y z wr).1]
          go_wp2_with (at_builtin; refine app1K_law wr rfl (.tmp 12) (.tmp 14) rfl w.heap.size (.slice op l oc) (nz ([x, y, z].take 0)) x (by simp [Act.eval]) hO.out (by simp [Act.eval]) (by rw [HLT.out]; omega) hws ?_; intro v5 w5 ho5 hb5 hbt5; obtain ⟨p5, c5, hv5⟩ := ho5.form; rw [HSL.out] at hv5; subst hv5; have HO5 := mkD ho5; have HB5 := mkD hb5; clear ho5 hb5 hbt5)
          exact ⟨⟨1, l + 1, p5, c5, by omega, by go_num, rfl, by rw [HSN.out]; exact HSL.out.symm, by unfold Hid; rw [HSN.out]; exact HO5.out, hB.out.trans HB5.out⟩, by simp [intOf]⟩
      · have HLT : Hid ((nz ([x, y, z].take 1)).length = l) := hl.symm
        have hl3 : l ≤ 3 := by rw [hl]; exact Nat.le_trans (nz_len _) (by simp)
        have HSN : Hid (nz ([x, y, z].take (2)) = nz ([x, y, z].take 1) ++ (if y = 0 then [] else [y])) := nz_snoc ([x, y, z].take 1) y
        clear hl
        by_cases h0 : y = 0
        · have b0 : ((y : Int) != 0) = false := by simp; omega
          rw [if_pos h0, List.append_nil] at HSN
          clear h0
          go_wp2_with fail
          rw [(run_idx x y z wr).2.1]
          go_wp2_with fail
          exact ⟨⟨2, l, op, oc, by omega, by go_num, rfl, by rw [HSN.out]; exact HLT.out.symm, by unfold Hid; rw [HSN.out]; exact hO.out, hB⟩, by simp [intOf]⟩
        · have b0 : ((y : Int) != 0) = true := by simp; omega
          rw [if_neg h0] at HSN
          have HSL : Hid ((nz ([x, y, z].take 1) ++ [y]).length = l + 1) := by unfold Hid; rw [List.length_append, HLT.out]; rfl
          clear h0
          go_wp2_with fail
          rw [(run_idx x y z wr).2.1]
          go_wp2_with (at_builtin; refine app1K_law wr rfl (.tmp 12) (.tmp 14) rfl w.heap.size (.slice op l oc) (nz ([x, y, z].take 1)) y (by simp [Act.eval]) hO.out (by simp [Act.eval]) (by rw [HLT.out]; omega) hws ?_; intro v5 w5 ho5 hb5 hbt5; obtain ⟨p5, c5, hv5⟩ := ho5.form; rw [HSL.out] at hv5; subst hv5; have HO5 := mkD ho5; have HB5 := mkD hb5; clear ho5 hb5 hbt5)
          exact ⟨⟨2, l + 1, p5, c5, by omega, by go_num, rfl, by rw [HSN.out]; exact HSL.out.symm, by unfold Hid; rw [HSN.out]; exact HO5.out, hB.out.trans HB5.out⟩, by simp [intOf]⟩
      · have HLT : Hid ((nz ([x, y, z].take 2)).length = l) := hl.symm
        have hl3 : l ≤ 3 := by rw [hl]; exact Nat.le_trans (nz_len _) (by simp)
        have HSN : Hid (nz ([x, y, z].take (3)) = nz ([x, y, z].take 2) ++ (if z = 0 then [] else [z])) := nz_snoc ([x, y, z].take 2) z
        clear hl
        by_cases h0 : z = 0
        · have b0 : ((z : Int) != 0) = false := by simp; omega
          rw [if_pos h0, List.append_nil] at HSN
          clear h0
          go_wp2_with fail
          rw [(run_idx x y z wr).2.2]
          go_wp2_with fail
          exact ⟨⟨3, l, op, oc, by omega, by go_num, rfl, by rw [HSN.out]; exact HLT.out.symm, by unfold Hid; rw [HSN.out]; exact hO.out, hB⟩, by simp [intOf]⟩
        · have b0 : ((z : Int) != 0) = true := by simp; omega
          rw [if_neg h0] at HSN
          have HSL : Hid ((nz ([x, y, z].take 2) ++ [z]).length = l + 1) := by unfold Hid; rw [List.length_append, HLT.out]; rfl
          clear h0
          go_wp2_with fail
          rw [(run_idx x y z wr).2.2]
          go_wp2_with (at_builtin; refine app1K_law wr rfl (.tmp 12) (.tmp 14) rfl w.heap.size (.slice op l oc) (nz ([x, y, z].take 2)) z (by simp [Act.eval]) hO.out (by simp [Act.eval]) (by rw [HLT.out]; omega) hws ?_; intro v5 w5 ho5 hb5 hbt5; obtain ⟨p5, c5, hv5⟩ := ho5.form; rw [HSL.out] at hv5; subst hv5; have HO5 := mkD ho5; have HB5 := mkD hb5; clear ho5 hb5 hbt5)
          exact ⟨⟨3, l + 1, p5, c5, by omega, by go_num, rfl, by rw [HSN.out]; exact HSL.out.symm, by unfold Hid; rw [HSN.out]; exact HO5.out, hB.out.trans HB5.out⟩, by simp [intOf]⟩
    · obtain rfl : i = 3 := by omega
      clear hl
      go_wp2_with fail
      go_ret
      exact ⟨_, rfl, hO.out, hB.out⟩
end Vf
end Go.Proofs.YtdjdhjciealfhaaGreatDoor
