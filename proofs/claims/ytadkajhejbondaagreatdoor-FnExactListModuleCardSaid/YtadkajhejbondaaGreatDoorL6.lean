import Derived.Test.YtadkajhejbondaaGreatDoorL4
import Derived.Laws.BytesArg
namespace Go.Proofs.YtadkajhejbondaaGreatDoor
open Go.RowKit Ch1
theorem join_len : ∀ (ls : List (List UInt8)), (Lib.join ls [32]).length ≤ (ls.map (fun l => l.length + 1)).sum
  | [] => by simp [Lib.join, List.intercalate]
  | [x] => by simp [Lib.join, List.intercalate]
  | x :: y :: r => by
    have ih := join_len (y :: r)
    simp [Lib.join, List.intercalate] at ih ⊢
    omega
theorem lineZ_len (ss : List ByteArray) : (lineZ ss).length ≤ (ss.map (fun s => s.size + 1)).sum + 1 := by
  unfold lineZ
  rw [List.length_append, nums_length]
  have := join_len (ss.map (·.data.toList))
  simp only [List.map_map] at this
  have e : ((fun (l : List UInt8) => l.length + 1) ∘ fun (x : ByteArray) => x.data.toList) = fun s => s.size + 1 := by
    funext s; show s.data.toList.length + 1 = s.data.size + 1; rw [Array.length_toList]
  rw [e] at this
  simp
  omega
theorem lineZ_join (ss : List ByteArray) : (Lib.join (ss.map (·.data.toList)) [32]).length ≤ (ss.map (fun s => s.size + 1)).sum := by
  have := join_len (ss.map (·.data.toList))
  simp only [List.map_map] at this
  have e : ((fun (l : List UInt8) => l.length + 1) ∘ fun (x : ByteArray) => x.data.toList) = fun s => s.size + 1 := by
    funext s; show s.data.toList.length + 1 = s.data.size + 1; rw [Array.length_toList]
  rw [e] at this
  exact this
theorem itoaB_size (n : Int) (h0 : -9223372036854775808 ≤ n) (h1 : n ≤ 9223372036854775807) : (itoaB n).size ≤ 21 := by
  have := Lib.itoa_length_le n h0 h1
  simpa [itoaB, ByteArray.size] using this
theorem wordB_size : ∀ j, j < 18 → (wordB j).size ≤ 9 := by decide
theorem primB_size : ∀ p, p < 22 → (primB p).size ≤ 13 := by decide
def constB : ByteArray := ⟨#[99, 111, 110, 115, 116]⟩
def globB : ByteArray := ⟨#[103, 108, 111, 98, 97, 108, 115]⟩
/-- The words of a constant's line. -/
def cdWs (i : Int) (ds : List Dt) : List ByteArray := [constB, itoaB i, strOfNums (txt 100 ds)]
def csZ (ls : List (List Dt)) (k : Nat) : List Int := (List.range k).flatMap (fun i : Nat => lineZ (cdWs (i : Int) (ls.getD i [])))
def inZ (k : Nat) (x : In) : List Int := lineZ (inWs (k : Int) x.op.toNat x.a x.b)
def coZ (f : Fn) (k : Nat) : List Int := (List.range k).flatMap (fun i => inZ i (f.code.getD i in0))
def fsZ (fs : List Fn) (k : Nat) : List Int := (List.range k).flatMap (fun i : Nat => lineZ (fnWs (i : Int) (fs.getD i fn0)) ++ coZ (fs.getD i fn0) (fs.getD i fn0).code.length)
/-- The listing of a module. -/
def modZ (m : Md) : List Int := (lineZ [globB, itoaB m.globals] ++ csZ m.consts m.consts.length) ++ fsZ m.funcs m.funcs.length
theorem csZ_succ (ls : List (List Dt)) (k : Nat) : csZ ls (k + 1) = csZ ls k ++ lineZ (cdWs (k : Int) (ls.getD k [])) := by
  unfold csZ; rw [List.range_succ, List.flatMap_append]; simp
theorem coZ_succ (f : Fn) (k : Nat) : coZ f (k + 1) = coZ f k ++ inZ k (f.code.getD k in0) := by
  unfold coZ; rw [List.range_succ, List.flatMap_append]; simp
theorem fsZ_succ (fs : List Fn) (k : Nat) : fsZ fs (k + 1) = fsZ fs k ++ (lineZ (fnWs (k : Int) (fs.getD k fn0)) ++ coZ (fs.getD k fn0) (fs.getD k fn0).code.length) := by
  unfold fsZ; rw [List.range_succ, List.flatMap_append]; simp
theorem one_len {ds : List Dt} (h : oneB ds = true) : (txt 100 ds).length + 1 ≤ 130 * ds.length := by
  have := txt_bound 100 ds [] ((oneB_iff ds).1 h)
  simpa using this
theorem cdWs_sum (i : Nat) (ds : List Dt) (hi : i ≤ 1000000) (h : oneB ds = true) : ((cdWs (i : Int) ds).map (fun s => s.size + 1)).sum ≤ 130 * ds.length + 40 := by
  have h1 := one_len h
  have h2 := itoaB_size (i : Int) (by omega) (by omega)
  have h3 : constB.size = 5 := rfl
  simp [cdWs, strOfNums_size]
  omega
theorem csZ_len {ls : List (List Dt)} (h : ∀ i, i < ls.length → oneB (ls.getD i []) = true) : ∀ k, k ≤ ls.length → k ≤ 1000000 → (csZ ls k).length ≤ 130 * cSum ls k + 41 * k
  | 0, _, _ => by simp [csZ]
  | k + 1, hk, hk2 => by
    have ih := csZ_len h k (by omega) (by omega)
    have h1 := cdWs_sum k (ls.getD k []) (by omega) (h k (by omega))
    have h2 := lineZ_len (cdWs (k : Int) (ls.getD k []))
    rw [csZ_succ, List.length_append, cSum_succ ls k (by omega)]
    omega
theorem inWs_sum {at_ : Int} {j : Nat} {a b : Int} (hat0 : 0 ≤ at_) (hat1 : at_ ≤ 1000000) (hj : j < 18) (ha0 : 0 ≤ a) (ha1 : a ≤ 1000000000) (hb0 : 0 ≤ b) (hb1 : b ≤ 1000000000) (h14 : j = 14 → a < 22) : ((inWs at_ j a b).map (fun s => s.size + 1)).sum ≤ 90 := by
  have h1 := itoaB_size at_ (by omega) (by omega)
  have h2 := itoaB_size a (by omega) (by omega)
  have h3 := itoaB_size b (by omega) (by omega)
  have h4 := wordB_size j hj
  have h0 : (⟨#[32, 32]⟩ : ByteArray).size = 2 := rfl
  unfold inWs
  by_cases c14 : j = 14
  · have h5 := primB_size a.toNat (by have := h14 c14; omega)
    have c8 : ¬ j = 8 := by omega
    rw [if_pos c14, if_neg c8]
    simp; omega
  · rw [if_neg c14]
    by_cases cA : hasA j = true
    · rw [if_pos cA]
      by_cases c8 : j = 8
      · rw [if_pos c8]; simp; omega
      · rw [if_neg c8]; simp; omega
    · rw [if_neg cA]
      by_cases c8 : j = 8
      · rw [if_pos c8]; simp; omega
      · rw [if_neg c8]; simp; omega
theorem boxB_size (b : Bool) : (boxB b).size = 3 := by cases b <;> rfl
theorem fnWs_sum {n : Int} {f : Fn} (h0 : 0 ≤ n) (h1 : n ≤ 1000000) (hp0 : 0 ≤ f.params) (hp1 : f.params ≤ 20) (hf : f.free.length ≤ 50) : ((fnWs n f).map (fun s => s.size + 1)).sum ≤ 300 := by
  have a1 := itoaB_size n (by omega) (by omega)
  have a2 := itoaB_size f.params (by omega) (by omega)
  have a3 : ((f.free.map boxB).map (fun s => s.size + 1)).sum = 4 * f.free.length := by
    generalize f.free = l
    induction l with
    | nil => rfl
    | cons b r ih => simp [boxB_size] at ih ⊢; omega
  have a4 : (⟨#[102, 117, 110, 99]⟩ : ByteArray).size = 4 := rfl
  unfold fnWs
  rw [List.map_append, List.sum_append, a3]
  simp; omega
theorem bnd_le (m : Md) (f : Fn) (op : Int) (hc : m.consts.length ≤ 500) (hfr : f.free.length ≤ 50) (hco : f.code.length ≤ 5000) (hg : m.globals ≤ 200) : bnd m f op ≤ 5000 := by
  unfold bnd
  by_cases h0 : op = 0
  · rw [if_pos h0]; omega
  rw [if_neg h0]
  by_cases h1 : op = 1
  · rw [if_pos h1]; omega
  rw [if_neg h1]
  by_cases h2 : op = 2
  · rw [if_pos h2]; omega
  rw [if_neg h2]
  by_cases h3 : op = 3
  · rw [if_pos h3]; omega
  rw [if_neg h3]
  by_cases h4 : op = 4
  · rw [if_pos h4]; omega
  rw [if_neg h4]
  by_cases h5 : op = 5
  · rw [if_pos h5]; omega
  rw [if_neg h5]
  by_cases h9 : op = 9
  · rw [if_pos h9]; omega
  rw [if_neg h9]
  by_cases h10 : op = 10
  · rw [if_pos h10]; omega
  rw [if_neg h10]
  by_cases h12 : op = 12
  · rw [if_pos h12]; omega
  rw [if_neg h12]
  by_cases h13 : op = 13
  · rw [if_pos h13]; omega
  rw [if_neg h13]
  by_cases h14 : op = 14
  · rw [if_pos h14]; omega
  rw [if_neg h14]
  by_cases h15 : op = 15
  · rw [if_pos h15]; omega
  rw [if_neg h15]
  omega
/-- What an instruction of a well-formed module has. -/
theorem ins_facts {m : Md} {f : Fn} {x : In} (h : InsOk m f x) (hc : m.consts.length ≤ 500) (hfr : f.free.length ≤ 50) (hco : f.code.length ≤ 5000) (hg : m.globals ≤ 200) (hfn : m.funcs.length ≤ 200) (hff : ∀ i, i < m.funcs.length → (m.funcs.getD i fn0).free.length ≤ 50) : ∃ j : Nat, x.op = j ∧ j < 18 ∧ 0 ≤ x.a ∧ x.a ≤ 1000000000 ∧ 0 ≤ x.b ∧ x.b ≤ 1000000000 ∧ (j = 14 → x.a < 22) := by
  obtain ⟨h0, h1, h2⟩ := h
  refine ⟨x.op.toNat, by omega, by omega, ?_⟩
  rcases h2 with ⟨h3, h4, h5, h6⟩ | ⟨h3, h4, h5, h6⟩
  · have := hff x.a.toNat (by omega)
    refine ⟨by omega, by omega, by omega, by omega, fun h => by omega⟩
  · have hb := bnd_le m f x.op hc hfr hco hg
    refine ⟨h5, by omega, by omega, by omega, fun h => ?_⟩
    have h14 : x.op = 14 := by omega
    rw [h14] at h6
    simpa [bnd] using h6
theorem coZ_len {m : Md} {f : Fn} (h : ∀ k, k < f.code.length → InsOk m f (f.code.getD k in0)) (hc : m.consts.length ≤ 500) (hfr : f.free.length ≤ 50) (hco : f.code.length ≤ 5000) (hg : m.globals ≤ 200) (hfn : m.funcs.length ≤ 200) (hff : ∀ i, i < m.funcs.length → (m.funcs.getD i fn0).free.length ≤ 50) : ∀ k, k ≤ f.code.length → (coZ f k).length ≤ 91 * k
  | 0, _ => by simp [coZ]
  | k + 1, hk => by
    have ih := coZ_len h hc hfr hco hg hfn hff k (by omega)
    obtain ⟨j, e, hj, b1, b2, b3, b4, b5⟩ := ins_facts (h k (by omega)) hc hfr hco hg hfn hff
    have h1 := inWs_sum (at_ := (k : Int)) (j := j) (by omega) (by omega) hj b1 b2 b3 b4 b5
    have h2 := lineZ_len (inWs (k : Int) j (f.code.getD k in0).a (f.code.getD k in0).b)
    rw [coZ_succ, List.length_append]
    unfold inZ
    rw [e, Int.toNat_natCast]
    omega
end Go.Proofs.YtadkajhejbondaaGreatDoor
namespace Go.Proofs.YtadkajhejbondaaGreatDoor
open Go.RowKit Ch1
theorem fnFacts {m : Md} (h : GoodM m) {i : Nat} (hi : i < m.funcs.length) : (m.funcs.getD i fn0).free.length ≤ 50 ∧ (m.funcs.getD i fn0).code.length ≤ 5000 := by
  refine ⟨(h.sz.fn i hi).fr, ?_⟩
  have h1 := fSum_le m.funcs (i + 1) (by omega)
  have h2 := fSum_succ m.funcs i hi
  have := h.sz.sum
  omega
theorem fsZ_len {m : Md} (h : GoodM m) : ∀ k, k ≤ m.funcs.length → (fsZ m.funcs k).length ≤ 456000 * k
  | 0, _ => by simp [fsZ]
  | k + 1, hk => by
    have ih := fsZ_len h k (by omega)
    have hf := fnFacts h (show k < m.funcs.length by omega)
    have h200 := h.f2
    have h1 := coZ_len (h.cd k (by omega)) h.cs.few hf.1 hf.2 h.g1 h.f2 (fun i hi => (fnFacts h hi).1) (m.funcs.getD k fn0).code.length (Nat.le_refl _)
    have h2 := lineZ_len (fnWs (k : Int) (m.funcs.getD k fn0))
    have h3 := fnWs_sum (n := (k : Int)) (f := m.funcs.getD k fn0) (by omega) (by omega) (h.sz.fn k (by omega)).p0 (h.sz.fn k (by omega)).p1 hf.1
    have := hf.2
    rw [fsZ_succ, List.length_append, List.length_append]
    omega
theorem Tab.below {w w' : World} (h : Tab w) (hb : Below w.heap.size w w') : Tab w' := fun x hx => h x (hb.trans (hx.mono hb.size))
theorem Ow.drew {w : World} {B : Nat} {v : Value} {xs : List Int} (h : Ow w B v xs) : Ow w.drew B v xs := h
/-- string(v), v an own row of bytes. -/
theorem conv_own {w w' : World} {B : Nat} {v : Value} {xs : List Int} (h : Ow w B v xs) (hr : Rg xs) (hb : Below w.heap.size w w') : (convert 27 9 v).run Tryz.prog w' = .ok (.string (strOfNums xs)) w' := by
  obtain ⟨p, c, rfl, hy, _⟩ := (h.below hb).by_ (rng_of hr)
  by_cases h0 : 0 < xs.length
  · obtain ⟨b, o, rfl, hc⟩ := hy.cells h0
    exact run_convert_bytes_arg (P := Tryz.prog) w' 27 5 Tryz.underlying27 Tryz.underlying5 b o xs.length c xs rfl (fun i hi => hc i hi) 9 Tryz.underlying9
  · have hx : xs = [] := List.length_eq_zero_iff.1 (by omega)
    subst hx
    cases p with
    | none =>
      rw [run_convert_bytes_nil (P := Tryz.prog) w' 27 5 Tryz.underlying27 Tryz.underlying5 _ _ 9 Tryz.underlying9]
      rfl
    | some a =>
      obtain ⟨_, ⟨e, _⟩ | ⟨g, cap, cur, e, _⟩⟩ := h
      · cases e
      · cases e
        exact run_convert_bytes_arg (P := Tryz.prog) w' 27 5 Tryz.underlying27 Tryz.underlying5 g 0 0 c [] rfl (fun i hi => absurd hi (Nat.not_lt_zero i)) 9 Tryz.underlying9
/-- Every block but the row's own stands. -/
def But (w w' : World) (v : Value) : Prop := ∀ k, k < w.heap.size → some k ≠ v.ownBlock → w'.heap[k]? = w.heap[k]?
theorem appS2_law (w : World) {ops : Array Oper} {rest : List Oper} {o : Oper} {a : Act} {Q : Exit → Act → World → Prop} (hgd : o.guard = none) (s x : Operand)
    (ho : o.op = .call { callee := .builtin .append, args := #[s, x], argTypes := #[27, 9] }) (B : Nat) (v : Value) (xs ys : List Int) (hs : a.eval s = v) (hown : Ow w B v xs) (str : ByteArray) (hx : a.eval x = .string str)
    (hy : nums str.data.toList = ys) (hlen : xs.length + str.size ≤ 1000000000) (hB : B ≤ w.heap.size)
    (h : ∀ v' w', Ow w' B v' (xs ++ ys) → Below B w w' → But w w' v → wpList Tryz.prog ops Q rest (a.put o.dst v') w') : wpList Tryz.prog ops Q (o :: rest) a w := by
  obtain ⟨i5, hi5, hz5, hs5, hb5⟩ := info5'
  refine Lib.wpList_append_own_string w hgd s x 27 9 ho B 5 i5 Tryz.underlying27 Tryz.underlying9 hi5 hz5 hs5 hb5 v xs.length (xs.map (.int .u8)) hs hown str hx (by unfold maxLen; omega) (by omega) hB ?_
  intro v' w' h1 h2 _
  refine h v' w' (Ow.app h1 rfl ?_ rfl ?_) ((Below.refl _ w).grown h2 hB (own_block_ge hown)) (fun k hk hne => h2.block k hk hne)
  · rw [← hy, nums_length, Array.length_toList]; rfl
  · rw [← hy]; simp [Lib.strCells, nums]
set_option maxRecDepth 20000 in
set_option maxHeartbeats 2000000 in
theorem putLine_c2 (v : Value) (acc : List Int) (sv : Value) (ss : List ByteArray) (B B2 : Nat) (w : World) (hv : Ow w B v acc) (hs : OwS w B2 sv ss) (h0 : 0 < ss.length) (hB : B ≤ w.heap.size) (hl : acc.length ≤ 500000000) (hn : ss.length ≤ 1000000) (hj : (Lib.join (ss.map (·.data.toList)) [32]).length ≤ 100000000) :
    Calls Tryz.prog 23 #[v, sv] w fun e w' => ∃ v', e = .returned v' ∧ Ow w' B v' (acc ++ lineZ ss) ∧ Below B w w' ∧ But w w' v := by
  have HV : Hid (Ow w B v acc) := hv
  obtain ⟨g, c, rfl, hc, hg, hcells⟩ := hs.form h0
  have HC : Hid (∀ (j : Nat) x, ss[j]? = some x → w.cell? ⟨g, 0 + j, none⟩ = some (.string x)) := hcells
  have HLZ : Hid (nums (⟨(Lib.join (ss.map (·.data.toList)) [32]).toArray⟩ ++ ⟨#[10]⟩ : ByteArray).data.toList = lineZ ss) := by
    unfold Hid lineZ nums; simp
  have hsz : (⟨(Lib.join (ss.map (·.data.toList)) [32]).toArray⟩ ++ ⟨#[10]⟩ : ByteArray).size ≤ 100000001 := by
    simp [ByteArray.size]; omega
  clear hv hs hcells
  go_enter Tryz.func23, Tryz.ntmps23
  go_wp2_with fail
  refine (joinStr g 0 c ss ⟨#[32]⟩ _ HC.out hg (by omega) hc (by simpa using (by omega : (Lib.join (ss.map (·.data.toList)) [32]).length ≤ 140737488355328))).mono ?_
  rintro e w1 ⟨rfl, hb1⟩
  have HB1 : Hid (Below w.heap.size w w1) := hb1
  have HV1 : Hid (Ow w1 B v acc) := HV.out.below hb1
  have hB1 : B ≤ w1.heap.size := Nat.le_trans hB hb1.size
  clear hb1
  go_wp2_with (at_builtin; refine appS2_law _ rfl (.tmp 5) (.tmp 8) rfl B _ acc (lineZ ss) (by simp [Act.eval]) HV1.out (⟨(Lib.join (ss.map (·.data.toList)) [32]).toArray⟩ ++ ⟨#[10]⟩) (by simp [Act.eval]) HLZ.out (by omega) hB1 ?_; intro v' w2 ho hb2 hbt; have HO2 : Hid (Ow w2 B v' (acc ++ lineZ ss)) := ho; have HB2 : Hid (Below B w w2) := (HB1.out.mono hB).trans hb2; have HBT : Hid (But w w2 v) := fun k hk hne => (hbt k (Nat.lt_of_lt_of_le hk HB1.out.size) hne).trans (HB1.out.block k hk); clear ho hb2 hbt)
  go_ret
  exact ⟨_, rfl, HO2.out, HB2.out, HBT.out⟩
end Go.Proofs.YtadkajhejbondaaGreatDoor
