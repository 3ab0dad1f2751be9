import Derived.Test.YtbcanodijcglpaaDoorMh
namespace Go.Proofs.YtbcanodijcglpaaDoor
open Go.ChangeShapes Go.WideShapes Go.ChangeAt Go.RowKit Go.Joins Ch1
theorem own : ownKnob Tryd.prog.godebug = none := by kernel_rfl
theorem laidOut : laidOutB Tryd.prog = true := by kernel_rfl
theorem cells45 : Tryd.prog.cellsOf 90 = 4 := by kernel_rfl
theorem cells3 : Tryd.prog.cellsOf 3 = 1 := by kernel_rfl
theorem cells43 : Tryd.prog.cellsOf 27 = 1 := by kernel_rfl
theorem cells5 : Tryd.prog.cellsOf 5 = 1 := by kernel_rfl
theorem cell_lt {w : World} {a : Addr} {v : Value} (h : w.cell? a = some v) : a.block < w.heap.size := by
  unfold World.cell? at h
  split at h
  · rename_i hh
    exact (Array.getElem?_eq_some_iff.1 hh).1
  · cases h
theorem wf_u8 {n : Int} (h : (Lit.int .u8 n).wf = true) : 0 ≤ n ∧ n < 256 := by
  simp [Lit.wf, IntKind.min, IntKind.max, IntKind.signed, IntKind.bits] at h
  exact ⟨by omega, by omega⟩
theorem wf_i64 {n : Int} (h : (Lit.int .i64 n).wf = true) : -9223372036854775808 ≤ n ∧ n ≤ 9223372036854775807 := by
  simp [Lit.wf, IntKind.min, IntKind.max, IntKind.signed, IntKind.bits] at h
  exact ⟨by omega, by omega⟩
theorem rng_ofM {xs : List Int} (h : ∀ n ∈ xs, 0 ≤ n ∧ n < 256) (i : Nat) : 0 ≤ xs.getD i 0 ∧ xs.getD i 0 < 256 := by
  by_cases hi : i < xs.length
  · exact h _ (by simp [List.getD, List.getElem?_eq_getElem hi])
  · simp [List.getD, List.getElem?_eq_none (Nat.le_of_not_lt hi)]
section
variable {H : Type} {enc : TypeId × Value → H} {W : World}
theorem open_bytes {fuel : Nat} {v : Value} {x : DataW H × List MemPlace} (h : DataW.trod enc Tryd.prog W 0 (fun _ => true) true fuel 27 [v] = some x) : ∃ p n c xs, v = .slice p n c ∧ By W p n c xs := by
  rcases open_ints Tryd.underlying27 Tryd.underlying5 cells5 h with ⟨hcs, _⟩ | ⟨a, len, cap, zs, hcs, _, hl, hm, hz, _, hcell, hwz⟩
  · simp at hcs
    subst hcs
    exact ⟨none, 0, 0, [], rfl, rfl, Nat.le_refl _, by unfold maxLen; omega, fun i => by simp, fun h => absurd h (Nat.lt_irrefl 0), fun a ha => by cases ha⟩
  · simp at hcs
    subst hcs
    have hz' : zs.length = cap := by simpa using hz
    have key : ∀ i, i < len → W.cell? (a.add i) = some (.int .u8 ((zs.take len).getD i 0)) := fun i hi => by
      rw [hcell i (by omega)]; simp [List.getD, hi]
    refine ⟨some a, len, cap, zs.take len, rfl, by rw [List.length_take]; omega, hl, hm, rng_ofM fun n hn => wf_u8 (hwz n (List.mem_of_mem_take hn)), Lib.BytesIn.of_cells key, fun a' ha hlen => ?_⟩
    cases ha
    have := cell_lt (key 0 hlen)
    simpa [Addr.add] using this
set_option maxRecDepth 100000 in
theorem open_datum {fuel : Nat} {cs : List Value} {x : DataW H × List MemPlace} (h : DataW.trod enc Tryd.prog W 0 (fun _ => true) true fuel 90 cs = some x) :
    ∃ (d : Dt) (p : Option Addr) (n c : Nat), cs = [.int .i64 d.kind, .int .i64 d.n, .slice p n c, .int .i64 d.count] ∧ By W p n c d.text ∧ -9223372036854775808 ≤ d.count ∧ d.count ≤ 9223372036854775807 := by
  obtain ⟨y0, y1, y2, y3, m, _, hlen, h0, h1, h2, h3⟩ := trod_struct4 Tryd.underlying90 h
  rw [cells45] at hlen
  match cs, hlen with
  | [c0, c1, c2, c3], _ =>
    simp only [cells3, cells43, List.drop_zero, List.take_succ_cons, List.take_zero, List.drop_succ_cons] at h0 h1 h2 h3
    obtain ⟨k, e0, _, _⟩ := DataW.trod_int Tryd.underlying3 h0
    obtain ⟨n, e1, _, _⟩ := DataW.trod_int Tryd.underlying3 h1
    obtain ⟨q, e3, _, wq⟩ := DataW.trod_int Tryd.underlying3 h3
    obtain ⟨p, tn, tc, xs, rfl, hb⟩ := open_bytes h2
    simp at e0 e1 e3
    subst e0 e1 e3
    exact ⟨⟨k, n, xs, q⟩, p, tn, tc, rfl, hb, (wf_i64 wq).1, (wf_i64 wq).2⟩
theorem open_data {fuel : Nat} {p : Option Addr} {len cap : Nat} {x : DataW H × List MemPlace} (h : DataW.trod enc Tryd.prog W 0 (fun _ => true) true fuel 61 [.slice p len cap] = some x) : ∃ ds, Da W p len cap ds := by
  rcases Go.Deep.open_slice Tryd.underlying61 h with ⟨hcs, _⟩ | ⟨a, len', cap', m, n, D, Pl, hcs, _, hl, hm, hmm, _, hx⟩
  · simp at hcs
    obtain ⟨rfl, rfl, rfl⟩ := hcs
    exact ⟨[], rfl, Nat.le_refl _, by unfold maxLen; omega, fun h => absurd h (Nat.lt_irrefl 0)⟩
  · simp at hcs
    obtain ⟨rfl, rfl, rfl⟩ := hcs
    simp at hmm
    subst hmm
    rw [cells45] at hx
    letI : Inhabited Dt := ⟨dt0⟩
    obtain ⟨f, hf⟩ := Go.Deep.choose_lt (n := len) (α := Dt) (p := fun i d => ∃ tp tn tc, W.cells? 0 (a.add (i * 4)) 4 = some [.int .i64 d.kind, .int .i64 d.n, .slice tp tn tc, .int .i64 d.count] ∧ By W tp tn tc d.text ∧ -9223372036854775808 ≤ d.count ∧ d.count ≤ 9223372036854775807) (fun i hi => by
      obtain ⟨cs', h1, h2⟩ := hx i (by omega)
      obtain ⟨d, tp, tn, tc, rfl, hb, hlo, hhi⟩ := open_datum h2
      exact ⟨d, tp, tn, tc, h1, hb, hlo, hhi⟩)
    refine ⟨(List.range len).map f, by simp, hl, hm, fun hpos => ?_⟩
    have h0 := (hf 0 hpos).choose_spec.choose_spec.choose_spec.1
    obtain ⟨_, _, hc0⟩ := World.cells?_some h0
    have hc00 := hc0 0 (by omega)
    simp [Addr.add] at hc00
    obtain ⟨b, o, spot⟩ := a
    have hspot : spot = none := by simpa using World.cell?_spot hc00
    subst hspot
    refine ⟨b, o, rfl, cell_lt hc00, fun i hi => ?_⟩
    obtain ⟨tp, tn, tc, h1, hb, hlo, hhi⟩ := hf i hi
    obtain ⟨_, _, hc⟩ := World.cells?_some h1
    have e : ((List.range len).map f).getD i dt0 = f i := by simp [List.getD, hi]
    rw [add_plain] at hc
    have q0 := hc 0 (by omega)
    have q1 := hc 1 (by omega)
    have q2 := hc 2 (by omega)
    have q3 := hc 3 (by omega)
    rw [add_plain] at q0 q1 q2 q3
    refine ⟨tp, tn, tc, ?_⟩
    rw [e]
    exact ⟨by simpa using q0, by simpa using q1, by simpa using q2, by simpa using q3, hb, hlo, hhi⟩
end

theorem cMod : Tryd.prog.cellsOf 25 = 3 := by kernel_rfl
theorem cFn : Tryd.prog.cellsOf 65 = 3 := by kernel_rfl
theorem cIns : Tryd.prog.cellsOf 104 = 3 := by kernel_rfl
theorem cDs : Tryd.prog.cellsOf 61 = 1 := by kernel_rfl
theorem cDss : Tryd.prog.cellsOf 22 = 1 := by kernel_rfl
theorem cFs : Tryd.prog.cellsOf 23 = 1 := by kernel_rfl
theorem cBs : Tryd.prog.cellsOf 49 = 1 := by kernel_rfl
theorem cIs : Tryd.prog.cellsOf 63 = 1 := by kernel_rfl
section
variable {H : Type} {enc : TypeId × Value → H} {W : World}
theorem open_slice1 {fuel : Nat} {t : TypeId} {e : TypeId} {v : Value} {x : DataW H × List MemPlace} (ht : Tryd.prog.underlying t = some (.slice e)) (h : DataW.trod enc Tryd.prog W 0 (fun _ => true) true fuel t [v] = some x) : ∃ p len cap, v = .slice p len cap := by
  rcases Go.Deep.open_slice ht h with ⟨hcs, _⟩ | ⟨a, len', cap', m, n, D, Pl, hcs, _⟩
  · simp at hcs; exact ⟨_, _, _, hcs⟩
  · simp at hcs; exact ⟨_, _, _, hcs⟩
theorem open_bools {fuel : Nat} {p : Option Addr} {len cap : Nat} {x : DataW H × List MemPlace} (h : DataW.trod enc Tryd.prog W 0 (fun _ => true) true fuel 49 [.slice p len cap] = some x) : ∃ bs, Bo W p len cap bs := by
  rcases Go.Deep.open_slice Tryd.underlying49 h with ⟨hcs, _⟩ | ⟨a, len', cap', m, n, D, Pl, hcs, _, hl, hm, hmm, _, hx⟩
  · simp at hcs
    obtain ⟨rfl, rfl, rfl⟩ := hcs
    exact ⟨[], rfl, Nat.le_refl _, by unfold maxLen; omega, fun h => absurd h (Nat.lt_irrefl 0)⟩
  · simp at hcs
    obtain ⟨rfl, rfl, rfl⟩ := hcs
    simp at hmm
    subst hmm
    rw [cBool] at hx
    obtain ⟨f, hf⟩ := Go.Deep.choose_lt (n := len) (α := Bool) (p := fun i d => W.cells? 0 (a.add (i * 1)) 1 = some [.bool d]) (fun i hi => by
      obtain ⟨cs', h1, h2⟩ := hx i (by omega)
      obtain ⟨b, rfl, _⟩ := DataW.trod_bool Tryd.underlying4 h2
      exact ⟨b, h1⟩)
    refine ⟨(List.range len).map f, by simp, hl, hm, fun hpos => ?_⟩
    obtain ⟨_, _, hc0⟩ := World.cells?_some (hf 0 hpos)
    have hc00 := hc0 0 (by omega)
    simp [Addr.add] at hc00
    obtain ⟨b, o, spot⟩ := a
    have hspot : spot = none := by simpa using World.cell?_spot hc00
    subst hspot
    refine ⟨b, o, rfl, cell_lt hc00, fun i hi => ?_⟩
    obtain ⟨_, _, hc⟩ := World.cells?_some (hf i hi)
    have e : ((List.range len).map f).getD i false = f i := by simp [List.getD, hi]
    rw [add_plain] at hc
    have q0 := hc 0 (by omega)
    rw [add_plain] at q0
    rw [e]
    simpa using q0
set_option maxRecDepth 100000 in
theorem open_in {fuel : Nat} {cs : List Value} {x : DataW H × List MemPlace} (h : DataW.trod enc Tryd.prog W 0 (fun _ => true) true fuel 104 cs = some x) : ∃ d : In, cs = [.int .i64 d.op, .int .i64 d.a, .int .i64 d.b] := by
  obtain ⟨y0, y1, y2, m, _, hlen, h0, h1, h2⟩ := Go.Deep.trod_struct3 Tryd.underlying104 h
  rw [cIns] at hlen
  match cs, hlen with
  | [c0, c1, c2], _ =>
    simp only [cells3, List.drop_zero, List.take_succ_cons, List.take_zero, List.drop_succ_cons] at h0 h1 h2
    obtain ⟨k, e0, _, _⟩ := DataW.trod_int Tryd.underlying3 h0
    obtain ⟨n, e1, _, _⟩ := DataW.trod_int Tryd.underlying3 h1
    obtain ⟨q, e2, _, _⟩ := DataW.trod_int Tryd.underlying3 h2
    simp at e0 e1 e2
    subst e0 e1 e2
    exact ⟨⟨k, n, q⟩, rfl⟩
theorem open_ins {fuel : Nat} {p : Option Addr} {len cap : Nat} {x : DataW H × List MemPlace} (h : DataW.trod enc Tryd.prog W 0 (fun _ => true) true fuel 63 [.slice p len cap] = some x) : ∃ xs, Ii W p len cap xs := by
  rcases Go.Deep.open_slice Tryd.underlying63 h with ⟨hcs, _⟩ | ⟨a, len', cap', m, n, D, Pl, hcs, _, hl, hm, hmm, _, hx⟩
  · simp at hcs
    obtain ⟨rfl, rfl, rfl⟩ := hcs
    exact ⟨[], rfl, Nat.le_refl _, by unfold maxLen; omega, fun h => absurd h (Nat.lt_irrefl 0)⟩
  · simp at hcs
    obtain ⟨rfl, rfl, rfl⟩ := hcs
    simp at hmm
    subst hmm
    rw [cIns] at hx
    letI : Inhabited In := ⟨in0⟩
    obtain ⟨f, hf⟩ := Go.Deep.choose_lt (n := len) (α := In) (p := fun i d => W.cells? 0 (a.add (i * 3)) 3 = some [.int .i64 d.op, .int .i64 d.a, .int .i64 d.b]) (fun i hi => by
      obtain ⟨cs', h1, h2⟩ := hx i (by omega)
      obtain ⟨d, rfl⟩ := open_in h2
      exact ⟨d, h1⟩)
    refine ⟨(List.range len).map f, by simp, hl, hm, fun hpos => ?_⟩
    obtain ⟨_, _, hc0⟩ := World.cells?_some (hf 0 hpos)
    have hc00 := hc0 0 (by omega)
    simp [Addr.add] at hc00
    obtain ⟨b, o, spot⟩ := a
    have hspot : spot = none := by simpa using World.cell?_spot hc00
    subst hspot
    refine ⟨b, o, rfl, cell_lt hc00, fun i hi => ?_⟩
    obtain ⟨_, _, hc⟩ := World.cells?_some (hf i hi)
    have e : ((List.range len).map f).getD i in0 = f i := by simp [List.getD, hi]
    rw [add_plain] at hc
    have q0 := hc 0 (by omega)
    have q1 := hc 1 (by omega)
    have q2 := hc 2 (by omega)
    rw [add_plain] at q0 q1 q2
    rw [e]
    exact ⟨by simpa using q0, by simpa using q1, by simpa using q2⟩
set_option maxRecDepth 100000 in
theorem open_fn {fuel : Nat} {cs : List Value} {x : DataW H × List MemPlace} (h : DataW.trod enc Tryd.prog W 0 (fun _ => true) true fuel 65 cs = some x) : ∃ (d : Fn) (fp : Option Addr) (fl fc : Nat) (cp : Option Addr) (cl cc : Nat), cs = [.int .i64 d.params, .slice fp fl fc, .slice cp cl cc] ∧ Bo W fp fl fc d.free ∧ Ii W cp cl cc d.code := by
  obtain ⟨y0, y1, y2, m, _, hlen, h0, h1, h2⟩ := Go.Deep.trod_struct3 Tryd.underlying65 h
  rw [cFn] at hlen
  match cs, hlen with
  | [c0, c1, c2], _ =>
    simp only [cells3, cBs, cIs, List.drop_zero, List.take_succ_cons, List.take_zero, List.drop_succ_cons] at h0 h1 h2
    obtain ⟨k, e0, _, _⟩ := DataW.trod_int Tryd.underlying3 h0
    obtain ⟨fp, fl, fc, rfl⟩ := open_slice1 Tryd.underlying49 h1
    obtain ⟨cp, cl, cc, rfl⟩ := open_slice1 Tryd.underlying63 h2
    obtain ⟨bs, hb⟩ := open_bools h1
    obtain ⟨xs, hi⟩ := open_ins h2
    simp at e0
    subst e0
    exact ⟨⟨k, bs, xs⟩, fp, fl, fc, cp, cl, cc, rfl, hb, hi⟩
theorem open_fns {fuel : Nat} {p : Option Addr} {len cap : Nat} {x : DataW H × List MemPlace} (h : DataW.trod enc Tryd.prog W 0 (fun _ => true) true fuel 23 [.slice p len cap] = some x) : ∃ fs, Fu W p len cap fs := by
  rcases Go.Deep.open_slice Tryd.underlying23 h with ⟨hcs, _⟩ | ⟨a, len', cap', m, n, D, Pl, hcs, _, hl, hm, hmm, _, hx⟩
  · simp at hcs
    obtain ⟨rfl, rfl, rfl⟩ := hcs
    exact ⟨[], rfl, Nat.le_refl _, by unfold maxLen; omega, fun h => absurd h (Nat.lt_irrefl 0)⟩
  · simp at hcs
    obtain ⟨rfl, rfl, rfl⟩ := hcs
    simp at hmm
    subst hmm
    rw [cFn] at hx
    letI : Inhabited Fn := ⟨fn0⟩
    obtain ⟨f, hf⟩ := Go.Deep.choose_lt (n := len) (α := Fn) (p := fun i d => ∃ fp fl fc cp cl cc, W.cells? 0 (a.add (i * 3)) 3 = some [.int .i64 d.params, .slice fp fl fc, .slice cp cl cc] ∧ Bo W fp fl fc d.free ∧ Ii W cp cl cc d.code) (fun i hi => by
      obtain ⟨cs', h1, h2⟩ := hx i (by omega)
      obtain ⟨d, fp, fl, fc, cp, cl, cc, rfl, hb, hi⟩ := open_fn h2
      exact ⟨d, fp, fl, fc, cp, cl, cc, h1, hb, hi⟩)
    refine ⟨(List.range len).map f, by simp, hl, hm, fun hpos => ?_⟩
    obtain ⟨_, _, _, _, _, _, h0, _⟩ := hf 0 hpos
    obtain ⟨_, _, hc0⟩ := World.cells?_some h0
    have hc00 := hc0 0 (by omega)
    simp [Addr.add] at hc00
    obtain ⟨b, o, spot⟩ := a
    have hspot : spot = none := by simpa using World.cell?_spot hc00
    subst hspot
    refine ⟨b, o, rfl, cell_lt hc00, fun i hi => ?_⟩
    obtain ⟨fp, fl, fc, cp, cl, cc, h1, hb, hi'⟩ := hf i hi
    obtain ⟨_, _, hc⟩ := World.cells?_some h1
    have e : ((List.range len).map f).getD i fn0 = f i := by simp [List.getD, hi]
    rw [add_plain] at hc
    have q0 := hc 0 (by omega)
    have q1 := hc 1 (by omega)
    have q2 := hc 2 (by omega)
    rw [add_plain] at q0 q1 q2
    refine ⟨fp, fl, fc, cp, cl, cc, ?_⟩
    rw [e]
    exact ⟨by simpa using q0, by simpa using q1, by simpa using q2, hb, hi'⟩
theorem open_dss {fuel : Nat} {p : Option Addr} {len cap : Nat} {x : DataW H × List MemPlace} (h : DataW.trod enc Tryd.prog W 0 (fun _ => true) true fuel 22 [.slice p len cap] = some x) : ∃ ls, Dd W p len cap ls := by
  rcases Go.Deep.open_slice Tryd.underlying22 h with ⟨hcs, _⟩ | ⟨a, len', cap', m, n, D, Pl, hcs, _, hl, hm, hmm, _, hx⟩
  · simp at hcs
    obtain ⟨rfl, rfl, rfl⟩ := hcs
    exact ⟨[], rfl, Nat.le_refl _, by unfold maxLen; omega, fun h => absurd h (Nat.lt_irrefl 0)⟩
  · simp at hcs
    obtain ⟨rfl, rfl, rfl⟩ := hcs
    simp at hmm
    subst hmm
    rw [cDs] at hx
    obtain ⟨f, hf⟩ := Go.Deep.choose_lt (n := len) (α := List Dt) (p := fun i d => ∃ q k c, W.cells? 0 (a.add (i * 1)) 1 = some [.slice q k c] ∧ Da W q k c d) (fun i hi => by
      obtain ⟨cs', h1, h2⟩ := hx i (by omega)
      obtain ⟨_, _, hc⟩ := World.cells?_some h1
      have hl1 : cs'.length = 1 := by first | assumption | (have := World.cells?_length h1; simpa using this)
      match cs', hl1 with
      | [v], _ =>
        obtain ⟨q, k, c, rfl⟩ := open_slice1 Tryd.underlying61 h2
        obtain ⟨ds, hd⟩ := open_data h2
        exact ⟨ds, q, k, c, h1, hd⟩)
    refine ⟨(List.range len).map f, by simp, hl, hm, fun hpos => ?_⟩
    obtain ⟨_, _, _, h0, _⟩ := hf 0 hpos
    obtain ⟨_, _, hc0⟩ := World.cells?_some h0
    have hc00 := hc0 0 (by omega)
    simp [Addr.add] at hc00
    obtain ⟨b, o, spot⟩ := a
    have hspot : spot = none := by simpa using World.cell?_spot hc00
    subst hspot
    refine ⟨b, o, rfl, cell_lt hc00, fun i hi => ?_⟩
    obtain ⟨q, k, c, h1, hd⟩ := hf i hi
    obtain ⟨_, _, hc⟩ := World.cells?_some h1
    have e : ((List.range len).map f).getD i [] = f i := by simp [List.getD, hi]
    rw [add_plain] at hc
    have q0 := hc 0 (by omega)
    rw [add_plain] at q0
    refine ⟨q, k, c, by simpa using q0, ?_⟩
    rw [e]
    exact hd
set_option maxRecDepth 100000 in
theorem open_module {fuel : Nat} {cs : List Value} {x : DataW H × List MemPlace} (h : DataW.trod enc Tryd.prog W 0 (fun _ => true) true fuel 25 cs = some x) : ∃ (m : Md) (cp : Option Addr) (cn cc : Nat) (fp : Option Addr) (fn fc : Nat), cs = [.slice cp cn cc, .int .i64 m.globals, .slice fp fn fc] ∧ Mo W cp cn cc fp fn fc m := by
  obtain ⟨y0, y1, y2, m, _, hlen, h0, h1, h2⟩ := Go.Deep.trod_struct3 Tryd.underlying25 h
  rw [cMod] at hlen
  match cs, hlen with
  | [c0, c1, c2], _ =>
    simp only [cells3, cDss, cFs, List.drop_zero, List.take_succ_cons, List.take_zero, List.drop_succ_cons] at h0 h1 h2
    obtain ⟨k, e1, _, _⟩ := DataW.trod_int Tryd.underlying3 h1
    obtain ⟨cp, cn, cc, rfl⟩ := open_slice1 Tryd.underlying22 h0
    obtain ⟨fp, fn, fc, rfl⟩ := open_slice1 Tryd.underlying23 h2
    obtain ⟨ls, hd⟩ := open_dss h0
    obtain ⟨fs, hf⟩ := open_fns h2
    simp at e1
    subst e1
    exact ⟨⟨ls, k, fs⟩, cp, cn, cc, fp, fn, fc, rfl, hd, hf⟩
end
end Go.Proofs.YtbcanodijcglpaaDoor
