import Derived.Test.YtkkmoaidbmnolaaGreatDoorD3
import Derived.Deep.LoopGhost
import Derived.Deep.AppendLies
namespace Go.Proofs.YtkkmoaidbmnolaaGreatDoor
open Go.RowKit Ch1
theorem owns_ge {w : World} {B n size : Nat} {e : TypeId} {v : Value} {xs : List Value} (h : w.ownsRow B e size v n xs) : ∀ k, v.ownBlock = some k → B ≤ k := by
  obtain ⟨_, ⟨rfl, _⟩ | ⟨g, cap, cur, rfl, hg, _⟩⟩ := h
  · intro k hk; cases hk
  · intro k hk; cases hk; exact hg
theorem owns_ne {w : World} {B n size : Nat} {e : TypeId} {v : Value} {xs : List Value} {fb : Nat} {a : Array Value} {t : TypeId} (h : w.ownsRow B e size v n xs) (hf : w.heap[fb]? = some (.cells a t)) (ht : t ≠ e) : some fb ≠ v.ownBlock := by
  intro e'
  obtain ⟨_, ⟨rfl, _⟩ | ⟨g, cap, cur, rfl, hg, hh, _⟩⟩ := h
  · cases e'
  · cases e'
    rw [hh] at hf
    cases hf
    exact ht rfl
theorem owns_of_heap {w w' : World} {B n size : Nat} {e : TypeId} {v : Value} {xs : List Value} (h : w.ownsRow B e size v n xs) (hk : ∀ k, v.ownBlock = some k → w'.heap[k]? = w.heap[k]?) : w'.ownsRow B e size v n xs := by
  obtain ⟨h1, h2 | ⟨g, cap, cur, rfl, hg, hh, r⟩⟩ := h
  · exact ⟨h1, Or.inl h2⟩
  · exact ⟨h1, Or.inr ⟨g, cap, cur, rfl, hg, by rw [hk g rfl]; exact hh, r⟩⟩
theorem owns_form {w : World} {B n size : Nat} {e : TypeId} {v : Value} {xs : List Value} (h : w.ownsRow B e size v n xs) : ∃ p c, v = .slice p n c := by
  obtain ⟨_, ⟨rfl, h0⟩ | ⟨g, cap, cur, rfl, _⟩⟩ := h
  · exact ⟨none, 0, by rw [h0]⟩
  · exact ⟨_, cap, rfl⟩
/-- append(v, x) onto an own row of whatever elements, x in a new block. -/
theorem appW_law (w : World) {ops : Array Oper} {rest : List Oper} {o : Oper} {a : Act} {Q : Exit → Act → World → Prop} (hgd : o.guard = none) (s x : Operand) (t e : TypeId)
    (ho : o.op = .call { callee := .builtin .append, args := #[s, x], argTypes := #[t, t] }) (z : Value) (size bytes : Nat) (ht : Tryz.prog.underlying t = some (.slice e)) (hi : (Tryz.prog.info? e).map (fun i => (i.zero, i.size, i.bytes)) = some (some z, size, bytes)) (hzs : z.cells.size = size) (hsz : 0 < size)
    (B : Nat) (v : Value) (n : Nat) (xs : List Value) (hs : a.eval s = v) (hown : w.ownsRow B e size v n xs) (arr : Array Value) (harr : arr.size = size) (h1 : ∀ u ∈ arr.toList, u.oneCell' = true) (hx : a.eval x = .slice (some ⟨w.heap.size, 0, none⟩) 1 1)
    (hlen : n + 1 ≤ maxLen) (hby : (n + 1) * bytes ≤ 140737488355328) (hB : B ≤ w.heap.size)
    (h : ∀ v' w', w'.ownsRow B e size v' (n + 1) (xs ++ arr.toList) → Below B w w' → But w w' v → wpList Tryz.prog ops Q rest (a.put o.dst v') w') : wpList Tryz.prog ops Q (o :: rest) a (w.alloc (.cells arr e)) := by
  obtain ⟨i, hi', hpr⟩ := Option.map_eq_some_iff.1 hi
  simp only [Prod.mk.injEq] at hpr
  have hnew : (w.alloc (.cells arr e)).heap[w.heap.size]? = some (.cells arr e) := Go.Deep.blk_alloc_new _ _
  refine wpList_append_own _ hgd s x t ho B e i z size bytes ht hi' hpr.1 hpr.2.1 hpr.2.2 hzs hsz v n xs hs (ownsRow_below hown (below1 _ _)) ⟨w.heap.size, 0, none⟩ 1 1 arr.toList hx (by rw [Array.length_toList, harr]; omega) (fun j u hu => World.news_of_block hnew j u hu) h1 hlen hby (Nat.le_trans hB (below1 _ _).size) ?_
  intro v' w' k1 k2 _
  exact h v' w' k1 (((below1 _ _).mono hB).trans ((Below.refl _ _).grown k2 (Nat.le_trans hB (below1 _ _).size) (owns_ge hown))) (fun k hk hne => (k2.block k (by simp; omega) hne).trans ((below1 w _).block k hk))
/-- The cells of data. -/
def dCells (l : List (Dt × Value)) : List Value := l.flatMap (fun p => [.int .i64 p.1.kind, .int .i64 p.1.n, p.2, .int .i64 p.1.count])
/-- Data in a row of the call's own, each text a row of its own, the texts' places ascending. -/
structure OwD (w : World) (B : Nat) (v : Value) (l : List (Dt × Value)) (s : Nat → Nat) : Prop where
  row : w.ownsRow B 41 4 v l.length (dCells l)
  lo : B ≤ s 0
  up : ∀ i, s i ≤ s (i + 1)
  hi : s l.length ≤ w.heap.size
  txt : ∀ (i : Nat) d t, l[i]? = some (d, t) → (∃ q m c, t = .slice q m c) ∧ Ow w (s i) t d.text ∧ ∀ k, t.ownBlock = some k → k < s (i + 1)
theorem OwD.nil (w : World) (B : Nat) (hB : B ≤ w.heap.size) : OwD w B (.slice none 0 0) [] (fun _ => B) :=
  ⟨⟨rfl, Or.inl ⟨rfl, rfl⟩⟩, Nat.le_refl _, fun _ => Nat.le_refl _, hB, fun i d t h => by simp at h⟩
theorem s_mono {s : Nat → Nat} (h : ∀ i, s i ≤ s (i + 1)) : ∀ i d, s i ≤ s (i + d)
  | _, 0 => Nat.le_refl _
  | i, d + 1 => Nat.le_trans (s_mono h i d) (h (i + d))
theorem OwD.keep {w w' : World} {B b : Nat} {v : Value} {l : List (Dt × Value)} {s : Nat → Nat} (h : OwD w B v l s) (hs : Sr b w w') (hb : b < B) : OwD w' B v l s := by
  refine ⟨owns_of_heap h.row (fun k hk => ?_), h.lo, h.up, Nat.le_trans h.hi hs.size, fun i d t e => ?_⟩
  · have h1 := owns_ge h.row k hk
    have h2 : k < w.heap.size := by
      obtain ⟨_, ⟨rfl, _⟩ | ⟨g, cap, cur, rfl, hg, hh, _⟩⟩ := h.row
      · cases hk
      · cases hk; exact (Array.getElem?_eq_some_iff.1 hh).1
    exact hs.block k h2 (by omega)
  · obtain ⟨h1, h2, h3⟩ := h.txt i d t e
    refine ⟨h1, owns_of_heap h2 (fun k hk => ?_), h3⟩
    have h4 := owns_ge h2 k hk
    have h5 := s_mono h.up 0 i
    rw [Nat.zero_add] at h5
    have h6 := h.lo
    have h7 := h3 k hk
    have h8 : s (i + 1) ≤ s l.length := by
      have hi : i < l.length := (List.getElem?_eq_some_iff.1 e).1
      have := s_mono h.up (i + 1) (l.length - (i + 1))
      rwa [show i + 1 + (l.length - (i + 1)) = l.length by omega] at this
    have h9 := h.hi
    exact hs.block k (by omega) (by omega)
theorem infoD : (Tryz.prog.info? 41).map (fun i => (i.zero, i.size, i.bytes)) = some (some (.agg #[.int .i64 0, .int .i64 0, .slice none 0 0, .int .i64 0]), 4, 48) := by kernel_rfl
theorem owns_lt {w : World} {B n size : Nat} {e : TypeId} {v : Value} {xs : List Value} (h : w.ownsRow B e size v n xs) : ∀ k, v.ownBlock = some k → k < w.heap.size ∧ ∃ cur, w.heap[k]? = some (.cells cur e) := by
  obtain ⟨_, ⟨rfl, _⟩ | ⟨g, cap, cur, rfl, hg, hh, _⟩⟩ := h
  · intro k hk; cases hk
  · intro k hk; cases hk; exact ⟨(Array.getElem?_eq_some_iff.1 hh).1, cur, hh⟩
theorem OwD.snoc {w w1 w2 : World} {B b : Nat} {v v' t : Value} {l : List (Dt × Value)} {s : Nat → Nat} {d : Dt} (h : OwD w B v l s) (hs : Sr b w w1) (hb : b < B) (ht : ∃ q m c, t = .slice q m c) (ho : Ow w1 w.heap.size t d.text)
    (hrow : w2.ownsRow B 41 4 v' (l.length + 1) (dCells l ++ [.int .i64 d.kind, .int .i64 d.n, t, .int .i64 d.count])) (hbt : But w1 w2 v) (hbel : Below B w1 w2) : ∃ s', OwD w2 B v' (l ++ [(d, t)]) s' := by
  have h1 := h.keep hs hb
  have hBw : B ≤ w.heap.size := by
    have := s_mono h.up 0 l.length
    rw [Nat.zero_add] at this
    have h2 := h.lo; have h3 := h.hi; omega
  have tx : ∀ {B' : Nat} {u : Value} {xs : List Int}, Ow w1 B' u xs → Ow w2 B' u xs := fun hu => owns_of_heap hu (fun k hk => by
    obtain ⟨hk1, cur, hk2⟩ := owns_lt hu k hk
    exact hbt k hk1 (owns_ne h1.row hk2 (by decide)))
  have hsl : ∀ i, i ≤ l.length → s i ≤ w.heap.size := fun i hi => by
    have := s_mono h.up i (l.length - i)
    rw [show i + (l.length - i) = l.length by omega] at this
    have := h.hi
    omega
  refine ⟨fun i => if i < l.length then s i else if i = l.length then w.heap.size else w1.heap.size, ?_, ?_, fun i => ?_, ?_, fun i d' t' e => ?_⟩
  · rw [List.length_append]
    have : dCells (l ++ [(d, t)]) = dCells l ++ [.int .i64 d.kind, .int .i64 d.n, t, .int .i64 d.count] := by unfold dCells; simp
    rw [this]
    exact hrow
  · show B ≤ if 0 < l.length then s 0 else if 0 = l.length then w.heap.size else w1.heap.size
    split
    · exact h.lo
    · split
      · exact hBw
      · omega
  · show (if i < l.length then s i else if i = l.length then w.heap.size else w1.heap.size) ≤ (if i + 1 < l.length then s (i + 1) else if i + 1 = l.length then w.heap.size else w1.heap.size)
    have hsz := hs.size
    by_cases c1 : i < l.length
    · rw [if_pos c1]
      by_cases c2 : i + 1 < l.length
      · rw [if_pos c2]; exact h.up i
      · rw [if_neg c2, if_pos (by omega)]; exact hsl i (by omega)
    · rw [if_neg c1, if_neg (show ¬ i + 1 < l.length by omega), if_neg (show ¬ i + 1 = l.length by omega)]
      split <;> omega
  · show (if (l ++ [(d, t)]).length < l.length then s (l ++ [(d, t)]).length else if (l ++ [(d, t)]).length = l.length then w.heap.size else w1.heap.size) ≤ w2.heap.size
    rw [List.length_append, if_neg (by simp), if_neg (by simp)]
    exact hbel.size
  · by_cases c1 : i < l.length
    · rw [List.getElem?_append_left c1] at e
      obtain ⟨g1, g2, g3⟩ := h1.txt i d' t' e
      refine ⟨g1, ?_, fun k hk => ?_⟩
      · simp only [if_pos c1]
        exact tx g2
      · have g4 := g3 k hk
        by_cases c2 : i + 1 < l.length
        · simp only [if_pos c2]; exact g4
        · simp only [if_neg c2]
          rw [if_pos (by omega)]
          have := hsl (i + 1) (by omega)
          omega
    · have hi : i = l.length := by
        have := (List.getElem?_eq_some_iff.1 e).1
        rw [List.length_append] at this
        simp at this
        omega
      subst hi
      rw [List.getElem?_append_right (Nat.le_refl _)] at e
      simp at e
      obtain ⟨rfl, rfl⟩ := e
      refine ⟨ht, ?_, fun k hk => ?_⟩
      · simp only [if_neg (Nat.lt_irrefl _), if_true]
        exact tx ho
      · have := (owns_lt ho k hk).1
        simp only [if_neg (show ¬ l.length + 1 < l.length by omega), if_neg (show ¬ l.length + 1 = l.length by omega)]
        exact this
/-- So many data. -/
def rdDs : Nat → List Int → Option (List Dt × List Int)
  | 0, xs => some ([], xs)
  | k + 1, xs => (rdD xs).bind (fun r => (rdDs k r.2).map (fun q => (r.1 :: q.1, q.2)))
def rdCst (xs : List Int) : Option (List Dt × List Int) := (rdN 2 xs).bind (fun r => rdDs r.1.toNat r.2)
end Go.Proofs.YtkkmoaidbmnolaaGreatDoor
namespace Go.Proofs.YtkkmoaidbmnolaaGreatDoor
open Go.RowKit Ch1
theorem rdN_two {xs rest : List Int} {z : Int} (hr : Rg xs) (h : rdN 2 xs = some (z, rest)) : 0 ≤ z ∧ z < 65536 := by
  unfold rdN at h
  split at h
  · simp only [Option.some.injEq, Prod.mk.injEq] at h
    have h1 := lnZ_rg (xs.take 2) (fun x hx => hr x (List.mem_of_mem_take hx))
    have hl : (xs.take 2).length = 2 := by rw [List.length_take]; omega
    rw [hl] at h1
    rw [← h.1, wrap64_small _ (by omega) (by omega)]
    omega
  · cases h
theorem rdD_len {xs rest : List Int} {d : Dt} (h : rdD xs = some (d, rest)) : rest.length ≤ xs.length := by
  unfold rdD at h
  obtain ⟨⟨z, r1⟩, h1, h2⟩ := Option.bind_eq_some_iff.1 h
  have g1 := rdN_len h1
  change rdR z r1 = some (d, rest) at h2
  unfold rdR at h2
  have key : ∀ (k : Nat) (f : Int → Dt), (rdN k r1).map (fun r => (f r.1, r.2)) = some (d, rest) → rest.length ≤ xs.length := by
    intro k f hk
    obtain ⟨⟨y, r2⟩, e1, e2⟩ := Option.map_eq_some_iff.1 hk
    have := rdN_len e1
    simp only [Prod.mk.injEq] at e2
    rw [← e2.2]
    omega
  split at h2
  · exact key 8 (fun x => ⟨0, x, [], 0⟩) h2
  · split at h2
    · exact key 1 (fun x => ⟨1, x, [], 0⟩) h2
    · split at h2
      · obtain ⟨⟨y, r2⟩, e1, e2⟩ := Option.bind_eq_some_iff.1 h2
        have g2 := rdN_len e1
        simp only at e2
        split at e2
        · simp only [Option.some.injEq, Prod.mk.injEq] at e2
          rw [← e2.2, List.length_drop]
          omega
        · cases e2
      · split at h2
        · exact key 2 (fun x => ⟨3, 0, [], x⟩) h2
        · simp only [Option.some.injEq, Prod.mk.injEq] at h2
          rw [← h2.2]
          exact g1
theorem Sr.grow {b : Nat} {u v w : World} (h : Sr b u v) (k : Below u.heap.size v w) : Sr b u w := ⟨Nat.le_trans h.size k.size, k.os.trans h.os, k.tape.trans h.tape, k.output.trans h.output, fun i h1 h2 => (k.block i h1).trans (h.block i h1 h2)⟩
/-- Data as a value of the call's own. -/
def DsV (ds : List Dt) (v : Value) (w w' : World) : Prop := ∃ l s, l.map (·.1) = ds ∧ OwD w' w.heap.size v l s
/-- At the head of the loop over a constant's data. -/
def CsI (b zn : Nat) (xs : List Int) (w : World) (dv iv : Value) (wr : World) : Prop :=
  ∃ (i : Nat) (p : Option Addr) (c : Nat) (l : List (Dt × Value)) (s : Nat → Nat) (rest : List Int), i ≤ zn ∧ iv = .int .i64 i ∧ dv = .slice p i c ∧ Hid (OwD wr w.heap.size (.slice p i c) l s) ∧ Hid (l.length = i) ∧ Hid (RdE wr b rest) ∧ Hid (Sr b w wr) ∧ Hid (rdDs zn xs = (rdDs (zn - i) rest).map (fun q => (l.map (·.1) ++ q.1, q.2))) ∧ rest.length ≤ 1048576
theorem rdDs_step {m : Nat} {rest r2 : List Int} {d : Dt} {pre : List Dt} (h : rdD rest = some (d, r2)) : (rdDs (m + 1) rest).map (fun q => (pre ++ q.1, q.2)) = (rdDs m r2).map (fun q => ((pre ++ [d]) ++ q.1, q.2)) := by
  rw [rdDs, h]
  show ((rdDs m r2).map (fun q => (d :: q.1, q.2))).map _ = _
  rw [Option.map_map]
  congr 1
  funext q
  simp
set_option maxRecDepth 20000 in
set_option maxHeartbeats 4000000 in
theorem constantR_c (b : Nat) (xs : List Int) (w : World) (hR : RdE w b xs) (hn : xs.length ≤ 1048576) :
    Calls Tryz.prog 52 #[.pointer (some ⟨b, 0, none⟩)] w fun e w' => ReP b (rdCst xs) DsV w w' e := by
  have HR : Hid (RdE w b xs) := hR
  have hbl := hR.lt
  clear hR
  go_enter Tryz.func52, Tryz.ntmps52
  go_wp2_with fail
  refine (number_c b 2 xs _ HR.out hn (by omega)).mono ?_
  rintro e w1 (⟨z, r1, v, hr, rfl, rfl, hR1, hs1⟩ | ⟨hr, rfl, hs1⟩)
  rotate_left
  · exact ⟨rfl, Or.inr ⟨by unfold rdCst; rw [hr]; rfl, rfl, hs1⟩⟩
  have hzr := rdN_two HR.out.rg hr
  have hr1 := Nat.le_trans (rdN_len hr) hn
  obtain ⟨zn, rfl⟩ := Int.eq_ofNat_of_zero_le hzr.1
  have HRE : Hid (rdCst xs = rdDs zn r1) := by unfold Hid rdCst; rw [hr]; rfl
  have HR1 : Hid (RdE w1 b r1) := hR1
  have HS1 : Hid (Sr b w w1) := hs1
  have hzn : zn < 65536 := by omega
  clear hr hR1 hs1 hzr
  go_wp2
  go_loopw [3, 6] (fun dv iv wr => CsI b zn r1 w dv iv wr) (fun _ iv _ => zn - (intOf iv).toNat)
  case atStart => exact ⟨0, none, 0, [], fun _ => w.heap.size, r1, Nat.zero_le _, rfl, rfl, OwD.nil _ _ HS1.out.size, rfl, HR1.out, HS1.out, by unfold Hid; simp, hr1⟩
  case round =>
    clear HR1 HS1
    obtain ⟨i, p, c, l, s, rest, hi, rfl, rfl, hO, hl, hRr, hSr, hE, hrl⟩ := hrel
    by_cases hlt : i < zn
    · go_wp2_with fail
      refine (datumR_c b rest _ hRr.out hrl).mono ?_
      rintro e w2 (⟨d, r2, v, hr, rfl, ⟨q, m, c2, rfl, ho2⟩, hR2, hs2⟩ | ⟨hr, rfl, hs2⟩)
      rotate_left
      · refine ⟨rfl, Or.inr ⟨?_, rfl, hSr.out.trans hs2⟩⟩
        rw [HRE.out, hE.out, show zn - i = (zn - (i + 1)) + 1 by omega, rdDs, hr]
        rfl
      have HO2 : Hid (Ow w2 wr.heap.size (.slice q m c2) d.text) := ho2
      have HR2 : Hid (RdE w2 b r2) := hR2
      have HS2 : Hid (Sr b wr w2) := hs2
      have HE2 : Hid (rdDs zn r1 = (rdDs (zn - (i + 1)) r2).map (fun q' => ((l ++ [(d, Value.slice q m c2)]).map (·.1) ++ q'.1, q'.2))) := by
        unfold Hid
        rw [hE.out, show zn - i = (zn - (i + 1)) + 1 by omega, rdDs_step hr]
        simp
      have HD2 : Hid (OwD w2 w.heap.size (.slice p i c) l s) := hO.out.keep hs2 hbl
      have hwl := Nat.le_trans hSr.out.size hs2.size
      have hl2 : r2.length ≤ 1048576 := Nat.le_trans (rdD_len hr) hrl
      clear hr ho2 hR2 hs2
      go_wp2_with (at_builtin; refine appW_law _ rfl (.tmp 8) (.tmp 11) 39 41 rfl _ 4 48 Tryz.underlying39 infoD rfl (by decide) w.heap.size (.slice p i c) i (dCells l) (by simp [Act.eval]) (by have h9 := HD2.out.row; rw [hl.out] at h9; exact h9) #[.int .i64 d.kind, .int .i64 d.n, .slice q m c2, .int .i64 d.count] rfl (by simp [Value.oneCell']) (by simp [Act.eval]) (by unfold maxLen; omega) (by omega) hwl ?_; intro v3 w3 ho3 hb3 hbt3; obtain ⟨p3, c3, rfl⟩ := owns_form ho3; have HSN : Hid (∃ s', OwD w3 w.heap.size (.slice p3 (i + 1) c3) (l ++ [(d, .slice q m c2)]) s') := hO.out.snoc HS2.out hbl ⟨q, m, c2, rfl⟩ HO2.out (by rw [hl.out]; exact ho3) hbt3 hb3; have HB3 : Hid (Below w.heap.size w2 w3) := hb3; clear ho3 hb3 hbt3)
      obtain ⟨s', hs'⟩ := HSN.out
      refine ⟨⟨i + 1, p3, c3, _, s', r2, by omega, by go_num, rfl, hs', ?_, ?_, ?_, HE2, hl2⟩, by simp [intOf]; omega⟩
      · unfold Hid; rw [List.length_append, hl.out]; rfl
      · exact HR2.out.keep (fun k hk => HB3.out.block k (by omega))
      · exact (hSr.out.trans HS2.out).grow HB3.out
    · obtain rfl : i = zn := by omega
      go_wp2
      go_ret
      refine Or.inl ⟨l.map (·.1), rest, _, ?_, rfl, ⟨l, s, rfl, hO.out⟩, hRr.out, hSr.out⟩
      rw [HRE.out, hE.out, Nat.sub_self]
      simp [rdDs]
end Go.Proofs.YtkkmoaidbmnolaaGreatDoor
