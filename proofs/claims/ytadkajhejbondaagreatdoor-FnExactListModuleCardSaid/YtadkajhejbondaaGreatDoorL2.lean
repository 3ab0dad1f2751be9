import Derived.Test.YtadkajhejbondaaGreatDoorL1
import Derived.Test.YtadkajhejbondaaGreatDoorXa
import Derived.Test.YtadkajhejbondaaGreatDoorMf
import Derived.Test.YtadkajhejbondaaGreatDoorShelfJ
namespace Go.Proofs.YtadkajhejbondaaGreatDoor
open Go.RowKit Ch1
/-- v is a slice of the call's own that holds the strings ss. -/
def OwS (w : World) (B : Nat) (v : Value) (ss : List ByteArray) : Prop := w.ownsRow B 9 1 v ss.length (ss.map Value.string)
theorem OwS.below {w w' : World} {B : Nat} {v : Value} {ss : List ByteArray} (h : OwS w B v ss) (hb : Below w.heap.size w w') : OwS w' B v ss := ownsRow_below h hb
theorem info9' : ∃ i, Tryz.prog.info? 9 = some i ∧ i.zero = some (.string ⟨#[]⟩) ∧ i.size = 1 ∧ i.bytes = 16 := by
  obtain ⟨i, hi, hpr⟩ := Option.map_eq_some_iff.1 (show (Tryz.prog.info? 9).map (fun i => (i.zero, i.size, i.bytes)) = some (some (.string ⟨#[]⟩), 1, 16) by kernel_rfl)
  simp only [Prod.mk.injEq] at hpr
  exact ⟨i, hi, hpr.1, hpr.2.1, hpr.2.2⟩
theorem one_new9 (w : World) (x : Value) : ∀ j u, ([x] : List Value)[j]? = some u → (w.alloc (.cells #[x] 9)).cell? ((⟨w.heap.size, 0, none⟩ : Addr).add j) = some u := by
  intro j u h
  have hj : j = 0 := by
    cases j with
    | zero => rfl
    | succ j => simp at h
  subst hj
  simp at h
  subst h
  have hb : (w.alloc (.cells #[x] 9)).heap[w.heap.size]? = some (.cells #[x] 9) := Go.Deep.blk_alloc_new _ _
  simp only [Addr.add, if_true, World.cell?]
  rw [hb]
  rfl
theorem ownS_block_ge {w : World} {B : Nat} {v : Value} {ss : List ByteArray} (h : OwS w B v ss) : ∀ k, v.ownBlock = some k → B ≤ k := by
  obtain ⟨_, ⟨rfl, _⟩ | ⟨g, cap, cur, rfl, hg, _⟩⟩ := h
  · intro k hk; cases hk
  · intro k hk; cases hk; exact hg
/-- append(v, s), s a string, onto an own row of strings. -/
theorem appStr_law (w : World) {ops : Array Oper} {rest : List Oper} {o : Oper} {a : Act} {Q : Exit → Act → World → Prop} (hgd : o.guard = none) (s x : Operand)
    (ho : o.op = .call { callee := .builtin .append, args := #[s, x], argTypes := #[62, 62] }) (B : Nat) (v : Value) (ss : List ByteArray) (str : ByteArray) (hs : a.eval s = v) (hown : OwS w B v ss) (hx : a.eval x = .slice (some ⟨w.heap.size, 0, none⟩) 1 1)
    (hlen : ss.length ≤ 1000000000) (hB : B ≤ w.heap.size)
    (h : ∀ v' w', OwS w' B v' (ss ++ [str]) → Below B w w' → wpList Tryz.prog ops Q rest (a.put o.dst v') w') : wpList Tryz.prog ops Q (o :: rest) a (w.alloc (.cells #[.string str] 9)) := by
  obtain ⟨i9, hi, hz, hs9, hb⟩ := info9'
  refine wpList_append_own _ hgd s x 62 ho B 9 i9 (.string ⟨#[]⟩) 1 16 Tryz.underlying62 hi hz hs9 hb rfl (by decide) v ss.length (ss.map Value.string) hs (ownsRow_below hown (below1 _ _)) ⟨w.heap.size, 0, none⟩ 1 1 [.string str] hx rfl (one_new9 _ _) (by simp [Value.oneCell']) (by unfold maxLen; omega) (by omega) (by simp; omega) ?_
  intro v' w' ho' hg _
  refine h v' w' ?_ ((below1 w _).mono hB |>.grown hg (by simp; omega) (ownS_block_ge hown))
  unfold OwS
  rw [List.length_append, List.map_append]
  exact ho'
theorem OwS.form {w : World} {B : Nat} {v : Value} {ss : List ByteArray} (h : OwS w B v ss) (h0 : 0 < ss.length) : ∃ g c, v = .slice (some ⟨g, 0, none⟩) ss.length c ∧ ss.length ≤ c ∧ g < w.heap.size ∧ ∀ (j : Nat) x, ss[j]? = some x → w.cell? ⟨g, 0 + j, none⟩ = some (.string x) := by
  obtain ⟨_, ⟨_, hn⟩ | ⟨g, cap, cur, rfl, hg, hh, h1, h2, h3, h4⟩⟩ := h
  · omega
  · refine ⟨g, cap, rfl, h1, (Array.getElem?_eq_some_iff.1 hh).1, fun j x hj => ?_⟩
    have hjl : j < ss.length := (List.getElem?_eq_some_iff.1 hj).1
    have e : (List.take (ss.length * 1) cur.toList)[j]? = (ss.map Value.string)[j]? := by rw [h4]
    rw [List.getElem?_take, if_pos (by omega), List.getElem?_map, hj] at e
    rw [Nat.zero_add]
    simp only [World.cell?, hh]
    simpa using e
theorem itoa_c (n : Int) (h0 : -9223372036854775808 ≤ n) (h1 : n ≤ 9223372036854775807) (w0 w : World) (ht : Tab w0) (hb : Below w0.heap.size w0 w) :
    Calls Tryz.prog 24 #[.int .i64 n] w fun e w' => e = .returned (.string ⟨(Lib.itoa n).toArray⟩) ∧ Below w.heap.size w w' := by
  refine (itoaC n h0 h1 w (ht.on hb).here).mono ?_
  rintro e w' ⟨rfl, k, os, rfl⟩
  exact ⟨rfl, Lib.below_grow _ _ (Nat.le_refl _) k os⟩
/-- A line of words. -/
def lineZ (ss : List ByteArray) : List Int := nums (Lib.join (ss.map (·.data.toList)) [32]) ++ [10]
set_option maxRecDepth 20000 in
set_option maxHeartbeats 2000000 in
theorem putLine_c (v : Value) (acc : List Int) (sv : Value) (ss : List ByteArray) (B B2 : Nat) (w : World) (hv : Ow w B v acc) (hs : OwS w B2 sv ss) (h0 : 0 < ss.length) (hB : B ≤ w.heap.size) (hl : acc.length ≤ 500000000) (hn : ss.length ≤ 1000000) (hj : (Lib.join (ss.map (·.data.toList)) [32]).length ≤ 100000000) :
    Calls Tryz.prog 23 #[v, sv] w fun e w' => ∃ v', e = .returned v' ∧ Ow w' B v' (acc ++ lineZ ss) ∧ Below B w w' := by
  have HV : Hid (Ow w B v acc) := hv
  obtain ⟨g, c, rfl, hc, hg, hcells⟩ := hs.form h0
  have HC : Hid (∀ (j : Nat) x, ss[j]? = some x → w.cell? ⟨g, 0 + j, none⟩ = some (.string x)) := hcells
  have HLZ : Hid (nums (⟨(Lib.join (ss.map (·.data.toList)) [32]).toArray⟩ ++ ⟨#[10]⟩ : ByteArray).data.toList = lineZ ss) := by
    unfold Hid lineZ nums; simp
  have hsz : (⟨(Lib.join (ss.map (·.data.toList)) [32]).toArray⟩ ++ ⟨#[10]⟩ : ByteArray).size ≤ 100000001 := by
    simp [ByteArray.size]; omega
  clear hv hs hcells
  go_enter Tryz.func23, Tryz.ntmps23
  go_wp2_with fail
  refine (joinStr g 0 c ss ⟨#[32]⟩ _ HC.out hg (by omega) hc (by simpa using (by omega : (Lib.join (ss.map (·.data.toList)) [32]).length ≤ 140737488355328))).mono ?_
  rintro e w1 ⟨rfl, hb1⟩
  have HB1 : Hid (Below w.heap.size w w1) := hb1
  have HV1 : Hid (Ow w1 B v acc) := HV.out.below hb1
  have hB1 : B ≤ w1.heap.size := Nat.le_trans hB hb1.size
  clear hb1
  go_wp2_with (at_builtin; refine appS_law _ rfl (.tmp 5) (.tmp 8) rfl B _ acc (lineZ ss) (by simp [Act.eval]) HV1.out (⟨(Lib.join (ss.map (·.data.toList)) [32]).toArray⟩ ++ ⟨#[10]⟩) (by simp [Act.eval]) HLZ.out (by omega) hB1 ?_; intro v' w2 ho hb2; have HO2 : Hid (Ow w2 B v' (acc ++ lineZ ss)) := ho; have HB2 : Hid (Below B w w2) := (HB1.out.mono hB).trans hb2; clear ho hb2)
  go_ret
  exact ⟨_, rfl, HO2.out, HB2.out⟩
end Go.Proofs.YtadkajhejbondaaGreatDoor
