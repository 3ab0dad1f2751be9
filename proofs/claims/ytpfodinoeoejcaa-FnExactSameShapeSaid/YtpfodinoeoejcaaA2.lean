import Derived.Test.YtpfodinoeoejcaaA1
import Derived.Deep.RegionLaw
import Derived.RegionTactic
import Derived.BigRegion
namespace Go.Proofs.Ytpfodinoeoejcaa
open Go.RowKit Ch2
theorem below_drewA {B : Nat} {a w : World} (h : Below B a w) : Below B a w.drew := ⟨h.os, h.tape, h.output, h.size, h.block⟩
theorem infoSize3 : (Try.prog.info? 3).map (·.size) = some 1 := by kernel_rfl
/-- A variable of type Heap in block b that may be written. -/
structure BxW (w : World) (b : Nat) (p : Option Addr) (n c : Nat) (top : Int) : Prop where
  bx : Bx w b p n c top
  f0 : w.frozen? ⟨b, 0, none⟩ = false
  f1 : w.frozen? ⟨b, 1, none⟩ = false
/-- Only the blocks x and y have turned; none is new. -/
structure Two (x y : Nat) (w w' : World) : Prop where
  os : w'.os = w.os
  tape : w'.tape = w.tape
  output : w'.output = w.output
  size : w'.heap.size = w.heap.size
  block : ∀ k, k ≠ x → k ≠ y → w'.heap[k]? = w.heap[k]?
theorem Two.refl (x y : Nat) (w : World) : Two x y w w := ⟨rfl, rfl, rfl, rfl, fun _ _ _ => rfl⟩
theorem Two.set {x y : Nat} {w w' : World} (h : Two x y w w') {a : Addr} (ha : a.block = x ∨ a.block = y) (v : Value) : Two x y w (w'.setCell a v) :=
  ⟨h.os, h.tape, h.output, by simpa [World.setCell] using h.size, fun k h1 h2 => (Below.heap_setCell w' a v k (by rcases ha with e | e <;> rw [e] <;> assumption)).trans (h.block k h1 h2)⟩
theorem Two.drew {x y : Nat} {w w' : World} (h : Two x y w w') : Two x y w w'.drew := ⟨h.os, h.tape, h.output, h.size, h.block⟩
theorem Two.undrew {x y : Nat} {w w' : World} (h : Two x y w.drew w') : Two x y w w' := ⟨h.os, h.tape, h.output, h.size, h.block⟩
theorem Two.below {x y B : Nat} {w w' : World} (h : Two x y w w') (h1 : B ≤ x) (h2 : B ≤ y) : Below B w w' :=
  ⟨h.os, h.tape, h.output, by rw [h.size]; exact Nat.le_refl _, fun k hk => h.block k (by omega) (by omega)⟩
/-- copy as a step of a region that draws: only the row g turns. -/
theorem step_copy_two {ops : Array Oper} {o : Oper} {a : Act} {w : World} {K : Act → World → Prop} {Q : Exit → Act → World → Prop} {E : Prop} (hgd : o.guard = none) (d s : Operand)
    (ho : o.op = .call { callee := .builtin .copy, args := #[d, s], argTypes := #[29, 29] })
    (dp sp : Option Addr) (dLen dCap sLen sCap : Nat) (hd : a.eval d = .slice dp dLen dCap) (hs : a.eval s = .slice sp sLen sCap)
    (g off : Nat) (cur : List Value) (hg : w.heap[g]? = some (.cells cur.toArray 3 (0, 0))) (cs : List Value) (hn : cs.length = Nat.min sLen dLen)
    (hpos : 0 < cs.length → dp = some ⟨g, off, none⟩ ∧ ∃ ad, sp = some ad ∧ ∀ j v, cs[j]? = some v → w.cell? (ad.add j) = some v)
    (hfit : off + cs.length ≤ cur.length) (h1 : ∀ v ∈ cs, v.oneCell' = true)
    (h : ∀ w', Hid (w'.heap[g]? = some (.cells (splice cur off cs).toArray 3 (0, 0))) → Hid (Two g g w w') → K (a.put o.dst (goInt cs.length)) w') :
    if Region.wanted o (yielded ops a.tmps) = true then Oper.wp Try.prog o a w K Q else E := by
  have hw : Region.wanted o (yielded ops a.tmps) = true := by simp [Region.wanted, hgd]
  rw [if_pos hw]
  by_cases h0 : cs.length = 0
  · obtain rfl : cs = [] := List.eq_nil_of_length_eq_zero h0
    have hrun := run_copy_none (P := Try.prog) w 29 29 o.type 3 dp sp dLen dCap sLen sCap Try.underlying29 infoSize3 (by simpa using hn.symm)
    unfold Oper.wp
    simp [execOp, ho, resolve, invoke, builtin, hd, hs, hrun, Result.andThen]
    exact h w (show _ = _ by simpa [splice] using hg) (Two.refl _ _ _)
  · obtain ⟨rfl, ad, rfl, hsrc⟩ := hpos (by omega)
    have hrun := run_copy_row (P := Try.prog) w 29 29 o.type 3 g off dLen dCap ad sLen sCap cur.toArray 3 cs Try.underlying29 infoSize3 hg hn hsrc (by simpa using hfit) h1
    unfold Oper.wp
    simp [execOp, ho, resolve, invoke, builtin, hd, hs, hrun, Result.andThen]
    exact h _ (show _ = _ by simpa [splice] using setRow_heap w g _ _ 3 _ hg) ⟨rfl, rfl, rfl, by simp [World.setRow], fun k h1 _ => setRow_other w g k _ (by omega)⟩
theorem BxW.two {w w' : World} {b x y n c : Nat} {p : Option Addr} {top : Int} (h : BxW w b p n c top) (ht : Two x y w w') (h1 : b ≠ x) (h2 : b ≠ y) : BxW w' b p n c top := by
  have hq := ht.block b h1 h2
  refine ⟨⟨?_, ?_, by rw [ht.size]; exact h.bx.lt⟩, ?_, ?_⟩
  · rw [World.cell?_of_block (w := w) hq]; exact h.bx.c0
  · rw [World.cell?_of_block (w := w) hq]; exact h.bx.c1
  · rw [World.frozen?_of_block (w := w) hq]; exact h.f0
  · rw [World.frozen?_of_block (w := w) hq]; exact h.f1
theorem BxW.setTop {w : World} {b n c : Nat} {p : Option Addr} {top : Int} (h : BxW w b p n c top) (t : Int) : BxW (w.setCell ⟨b, 1, none⟩ (.int .i64 t)) b p n c t := by
  obtain ⟨⟨h0, h1, h2⟩, h3, h4⟩ := h
  refine ⟨⟨?_, ?_, by simpa [World.setCell] using h2⟩, ?_, ?_⟩
  · rw [World.cell?_setCell_other]
    · exact h0
    · intro e; cases e
  · exact World.cell?_setCell_same' w _ _ (by rw [h1]; rfl)
  · rw [World.frozen?_setCell]; exact h3
  · rw [World.frozen?_setCell]; exact h4
theorem BxW.below {w w' : World} {b n c : Nat} {p : Option Addr} {top : Int} (h : BxW w b p n c top) (hb : Below w.heap.size w w') : BxW w' b p n c top :=
  ⟨h.bx.below hb, by rw [hb.frozen (p := ⟨b, 0, none⟩) h.bx.lt]; exact h.f0, by rw [hb.frozen (p := ⟨b, 1, none⟩) h.bx.lt]; exact h.f1⟩
theorem BxW.new (w : World) (p : Option Addr) (n c : Nat) (top : Int) (t : TypeId) : BxW (w.alloc (.cells #[.slice p n c, .int .i64 top] t)) w.heap.size p n c top := by
  have hb : (w.alloc (.cells #[.slice p n c, .int .i64 top] t)).heap[w.heap.size]? = some (.cells #[.slice p n c, .int .i64 top] t) := Go.Deep.blk_alloc_new _ _
  exact ⟨Bx.new w p n c top t, by unfold World.frozen?; rw [hb]; rfl, by unfold World.frozen?; rw [hb]; rfl⟩
/-- What put leaves. -/
def PutP (hb g n cap T : Nat) (ws : List Int) (hd : Int) (fs : List Int) (w w' : World) (e : Ending) : Prop := e = .returned (.tuple #[]) ∧ BxW w' hb (some ⟨g, 0, none⟩) n cap ((T + 1 + fs.length : Nat) : Int) ∧ Fr w' g n cap (putO ws T hd fs) ∧ Two hb g w w'
set_option maxRecDepth 20000 in
set_option maxHeartbeats 4000000 in
theorem put_c (hb g n cap T m fc : Nat) (fp : Option Addr) (hd : Int) (ws fs : List Int) (w : World) (hX : BxW w hb (some ⟨g, 0, none⟩) n cap T) (hF : Fr w g n cap ws) (hne : hb ≠ g) (hI : Is w fp m fc fs) (hfg : ∀ b o, fp = some ⟨b, o, none⟩ → 0 < m → b ≠ g) (hfit : T + 1 + m ≤ n) (hn : n ≤ 1048576) :
    Calls Try.prog 53 #[.pointer (some ⟨hb, 0, none⟩), .int .i64 hd, .slice fp m fc] w fun e w' => PutP hb g n cap T ws hd fs w w' e := by
  have HX : Hid (BxW w hb (some ⟨g, 0, none⟩) n cap T) := hX
  have HF : Hid (Fr w g n cap ws) := hF
  have HI : Hid (Is w fp m fc fs) := hI
  have c0 := hX.bx.c0
  have c1 := hX.bx.c1
  have f1 := hX.f1
  have hTn : T < n := by omega
  obtain ⟨d0, d1⟩ := hF.cell hTn
  clear hX hF hI
  go_enter Try.func53, Try.ntmps53
  go_wp2
  go_region
  go_wp2
  have F1 : Hid (Fr (w.setCell ⟨g, T, none⟩ (.int .i64 hd)).drew g n cap (ws.set T hd)) := ((HF.out.set T hd (by rw [List.length_set]; exact HF.out.len) (fun i hi => by
    have := HF.out.len
    by_cases e : i = T
    · subst e; simp [List.getD, show i < ws.length by omega]
    · rw [if_neg e]; simp [List.getD, show ¬ T = i by omega]))).of_block rfl
  have B1 : Hid (BxW (w.setCell ⟨g, T, none⟩ (.int .i64 hd)).drew hb (some ⟨g, 0, none⟩) n cap T) := by
    have hq := Below.heap_setCell w ⟨g, T, none⟩ (.int .i64 hd) hb hne
    refine ⟨⟨?_, ?_, ?_⟩, ?_, ?_⟩
    · rw [World.cell?_of_block (w := w) hq]; exact HX.out.bx.c0
    · rw [World.cell?_of_block (w := w) hq]; exact HX.out.bx.c1
    · have := HX.out.bx.lt; simpa [World.setCell] using this
    · rw [World.frozen?_of_block (w := w) hq]; exact HX.out.f0
    · rw [World.frozen?_of_block (w := w) hq]; exact HX.out.f1
  have I1 : Hid (Is (w.setCell ⟨g, T, none⟩ (.int .i64 hd)).drew fp m fc fs) := by
    refine ⟨HI.out.len, HI.out.cap, HI.out.big, HI.out.rng, fun hm => ?_⟩
    obtain ⟨b, o, e, hlt, hc⟩ := HI.out.cells hm
    refine ⟨b, o, e, by simpa [World.setCell] using hlt, fun i hi => ?_⟩
    rw [World.cell?_of_block (w := w) (Below.heap_setCell w ⟨g, T, none⟩ (.int .i64 hd) b (hfg b o e hm))]
    exact hc i hi
  have W1 : Hid (Two hb g w (w.setCell ⟨g, T, none⟩ (.int .i64 hd)).drew) := ((Two.refl hb g w).set (Or.inr rfl) _).drew
  clear HX HF c0 c1 f1 d0 d1
  generalize (w.setCell ⟨g, T, none⟩ (.int .i64 hd)).drew = w1 at F1 B1 I1 W1
  have c0 := B1.out.bx.c0
  have c1 := B1.out.bx.c1
  obtain ⟨f, ⟨cur, hcur, hcs, hcf⟩, hf⟩ := F1.out.row
  have HCUR : Hid (w1.heap[g]? = some (.cells cur.toList.toArray 3 (0, 0))) := by unfold Hid; simpa using hcur
  have HCL : Hid (cur.toList.length = cap) := by unfold Hid; simpa using hcs
  obtain ⟨cs, hcsl⟩ : ∃ cs, cs = fs.map (Value.int .i64) := ⟨_, rfl⟩
  have HCS : Hid (cs = fs.map (Value.int .i64)) := hcsl
  have HCSL : Hid (cs.length = m) := by unfold Hid; rw [hcsl, List.length_map]; exact I1.out.len
  have HCAP : Hid (n ≤ cap) := F1.out.le
  obtain ⟨L, hL⟩ : ∃ L, L = cur.toList := ⟨_, rfl⟩
  rw [← hL] at HCUR HCL
  clear hcsl
  have f0 : (0 : Int) ≤ (T : Int) + 1 := by omega
  have fw : IntKind.i64.wrap ((T : Int) + 1) = (T : Int) + 1 := by rw [IntKind.wrap_i64]; omega
  have f2 : (T : Int) + 1 ≤ (n : Int) := by omega
  have f3 : T + 1 ≤ n := by omega
  have hone : Hid (∀ v ∈ cs, v.oneCell' = true) := by
    intro v hv
    rw [HCS.out] at hv
    obtain ⟨x, _, rfl⟩ := List.mem_map.1 hv
    rfl
  have hsrc : Hid (0 < m → ∃ ad, fp = some ad ∧ ∀ j v, cs[j]? = some v → w1.drew.cell? (ad.add j) = some v) := by
    intro hm
    obtain ⟨b, o, e, hlt, hc⟩ := I1.out.cells hm
    refine ⟨_, e, fun j v hj => ?_⟩
    have hjl : j < cs.length := (List.getElem?_eq_some_iff.1 hj).1
    rw [HCSL.out] at hjl
    have hjf : j < fs.length := by rw [I1.out.len]; exact hjl
    rw [HCS.out] at hj
    simp [List.getElem?_eq_getElem hjf] at hj
    subst hj
    unfold Addr.add
    have := hc j hjl
    rw [show fs.getD j 0 = fs[j] by simp [List.getD, List.getElem?_eq_getElem hjf]] at this
    split
    · rename_i h0; subst h0; exact this
    · exact this
  have hzt : (T : Int) + (1 + (m : Int)) = ((T + 1 + m : Nat) : Int) := by omega
  have FIN : Hid (∀ w2 : World, w2.heap[g]? = some (.cells (splice L (T + 1) cs).toArray 3 (0, 0)) → Two g g w1 w2 → BxW w2 hb (some ⟨g, 0, none⟩) n cap T → PutP hb g n cap T ws hd fs w (w2.setCell ⟨hb, 1, none⟩ (.int .i64 ((T : Int) + (1 + (m : Int))))) (.returned (.tuple #[]))) := by
    intro w2 hg2 ht2 hb2
    have hfl := I1.out.len
    have hwl : (ws.set T hd).length = n := F1.out.len
    have hwl2 : ws.length = n := by rw [List.length_set] at hwl; exact hwl
    have hLl := HCL.out
    have hcl := HCSL.out
    have hcn := HCAP.out
    refine ⟨rfl, ?_, ?_, ?_⟩
    · rw [hzt, ← hfl]; exact hb2.setTop _
    · refine Fr.setOther ⟨⟨fun j => (splice L (T + 1) cs).getD j .nilIface, ⟨_, hg2, ?_, fun i hi => ?_⟩, fun j hj => ?_⟩, hcn, F1.out.big, by rw [putO_len (by omega)]; exact hwl2⟩ (by exact fun e => hne e.symm) _
      · rw [List.size_toArray, length_splice _ _ _ (by omega)]; exact hLl
      · have : i < (splice L (T + 1) cs).length := by rw [length_splice _ _ _ (by omega), hLl]; exact hi
        simp [List.getD, List.getElem?_eq_getElem this]
      · rw [putO_getD (by omega)]
        unfold cellO splice
        show (L.take (T + 1) ++ (cs ++ L.drop (T + 1 + cs.length))).getD j .nilIface = _
        have hLj : ∀ i, i < n → L.getD i .nilIface = .int .i64 ((ws.set T hd).getD i 0) := fun i hi => by
          rw [hL]
          have := hcf i (by omega)
          rw [hf i hi] at this
          simp [List.getD, this]
        have htk : (L.take (T + 1)).length = T + 1 := by simp; omega
        by_cases hj1 : j < T + 1
        · have : (L.take (T + 1) ++ (cs ++ L.drop (T + 1 + cs.length))).getD j .nilIface = L.getD j .nilIface := by
            simp [List.getD, List.getElem?_append_left (show j < (L.take (T + 1)).length by omega), hj1]
          rw [this, hLj j hj]
          by_cases e : j = T
          · subst e; rw [if_pos rfl]; simp [List.getD, show j < ws.length by omega]
          · rw [if_neg e, if_neg (by omega)]; simp [List.getD, show ¬ T = j by omega]
        · rw [if_neg (by omega)]
          by_cases hj2 : j < T + 1 + m
          · rw [if_pos ⟨by omega, by omega⟩]
            have : (L.take (T + 1) ++ (cs ++ L.drop (T + 1 + cs.length))).getD j .nilIface = cs.getD (j - (T + 1)) .nilIface := by
              simp only [List.getD]
              rw [List.getElem?_append_right (by omega), htk, List.getElem?_append_left (by omega)]
            rw [this, HCS.out]
            have hjf : j - (T + 1) < fs.length := by omega
            simp [List.getD, List.getElem?_eq_getElem hjf]
          · rw [if_neg (by omega)]
            have : (L.take (T + 1) ++ (cs ++ L.drop (T + 1 + cs.length))).getD j .nilIface = L.getD j .nilIface := by
              simp only [List.getD]
              rw [List.getElem?_append_right (by omega), htk, List.getElem?_append_right (by omega), List.getElem?_drop, show T + 1 + cs.length + (j - (T + 1) - cs.length) = j by omega]
            rw [this, hLj j hj]
            simp [List.getD, show ¬ T = j by omega]
    · refine Two.set ⟨ht2.os.trans W1.out.os, ht2.tape.trans W1.out.tape, ht2.output.trans W1.out.output, ht2.size.trans W1.out.size, fun k h1 h2 => (ht2.block k h2 h2).trans (W1.out.block k h1 h2)⟩ (Or.inl rfl) _
  clear hcf hcs hcur hf hL hzt
  by_cases hcap : cap = T + 1
  · go_region_law (refine step_copy_two rfl (.tmp 25) (.tmp 26) rfl _ _ _ _ _ _ rfl rfl g (T + 1) L (by exact HCUR.out) cs ?z1 ?z2 ?z3 hone.out ?_; (case z1 => rw [HCSL.out]; exact (Nat.min_eq_left (by omega)).symm); (case z2 => intro h0; rw [HCSL.out] at h0; have := HCAP.out; omega); (case z3 => rw [HCSL.out, HCL.out]; have := HCAP.out; omega); intro w2 hg2 ht2; have HB2 : Hid (BxW w2 hb (some ⟨g, 0, none⟩) n cap T) := B1.out.two ht2.out.undrew hne hne; have e1 := HB2.out.bx.c1; have e2 := HB2.out.f1)
    all_goals go_wp2
    all_goals go_end0
    all_goals exact FIN.out w2 hg2.out ht2.out.undrew HB2.out
  · go_region_law (refine step_copy_two rfl (.tmp 25) (.tmp 26) rfl _ _ _ _ _ _ rfl rfl g (T + 1) L (by exact HCUR.out) cs ?z1 ?z2 ?z3 hone.out ?_; (case z1 => rw [HCSL.out]; exact (Nat.min_eq_left (by omega)).symm); (case z2 => intro h0; rw [HCSL.out] at h0; exact ⟨by simp, hsrc.out h0⟩); (case z3 => rw [HCSL.out, HCL.out]; have := HCAP.out; omega); intro w2 hg2 ht2; have HB2 : Hid (BxW w2 hb (some ⟨g, 0, none⟩) n cap T) := B1.out.two ht2.out.undrew hne hne; have e1 := HB2.out.bx.c1; have e2 := HB2.out.f1)
    all_goals go_wp2
    all_goals go_end0
    all_goals exact FIN.out w2 hg2.out ht2.out.undrew HB2.out
end Go.Proofs.Ytpfodinoeoejcaa
