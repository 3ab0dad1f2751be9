import Derived.Test.YtnnpfoilojicjaaGreatDoorO9
import Derived.Test.YtnnpfoilojicjaaGreatDoorWv
namespace Go.Proofs.YtnnpfoilojicjaaGreatDoor
open Go.RowKit Ch1
namespace Cp
theorem set_cell1P {w : World} {k : Nat} {a : Value} {t : TypeId} (e : w.heap[k]? = some (.cells #[a] t)) (v : Value) : (w.setCell ⟨k, 0, none⟩ v).heap[k]? = some (.cells #[v] t) := by simp [World.setCell, Array.getElem?_modify, e]
theorem PgI.rebase {c1 c2 : Cx} {N : Nat} {w2 w3 : World} {s : Sg} (h : PgI c1 N w2 s) (hb : Below c2.w0.heap.size c2.w0 w3) (hsz : c2.w0.heap.size = c1.w0.heap.size) (hk : ∀ k, c1.w0.heap.size ≤ k → w3.heap[k]? = w2.heap[k]?) (hwm : c1.w0.heap.size ≤ s.wm) : PgI c2 N w3 s := by
 have row : ∀ {n size : Nat} {e : TypeId} {v : Value} {xs : List Value}, w2.ownsRow c1.w0.heap.size e size v n xs → w3.ownsRow c2.w0.heap.size e size v n xs := fun hr => by
  rw [hsz]
  exact owns_of_heap hr (fun j hj => hk j (owns_ge hr j hj))
 refine ⟨hb, by rw [hsz]; exact h.pb0, (hk _ h.pb0).trans h.blk, ?_, ?_, by rw [hsz]; exact h.gm0, h.nd, fun v hv => ?_, row h.sco, row h.ubo, h.ubr, row h.fmo, h.len⟩
 ·obtain ⟨es, clk, h1, h2⟩ := h.wor
  exact ⟨es, clk, (hk _ hwm).trans h1, h2⟩
 ·obtain ⟨es, clk, h1, h2⟩ := h.glo
  exact ⟨es, clk, (hk _ h.gm0).trans h1, h2⟩
 ·obtain ⟨⟨n, g, bx, h1⟩, h2, h3⟩ := h.vrs v hv
  exact ⟨⟨n, g, bx, (hk _ h2).trans h1⟩, by rw [hsz]; exact h2, h3⟩
theorem rp_panic (ds : List Dt) (w w6 : World) (x : Value) (t0 t1 t4 t5 t6 t7 t8 t9 ta tb tc td : Value) (hU : unb ds = none) (hE : Eh w6) (hb : Below w.heap.size w w6) (k0 : w6.heap[w.heap.size]? = some (.cells #[x] 49)) (k1 : w6.heap[w.heap.size + 1]? = some (.cells #[.int .i64 0] 3)) :
  Leaves Tryz.prog Tryz.f18 #[t0, t1, .pointer (some ⟨w.heap.size, 0, none⟩), .pointer (some ⟨w.heap.size + 1, 0, none⟩), t4, t5, t6, t7, t8, t9, ta, tb, tc, td] (fun r w' => RpQ ds w w' r) [{ target := .fn (.func 30) #[.pointer (some ⟨w.heap.size, 0, none⟩), .pointer (some ⟨w.heap.size + 1, 0, none⟩)], args := #[] }] (.panicking [{ v := .iface 67 (.agg #[.int .i64 2, .int .i64 0]), recovered := false }]) w6 := by
 refine leaves_cons (f := 30) (args := #[.pointer (some ⟨w.heap.size, 0, none⟩), .pointer (some ⟨w.heap.size + 1, 0, none⟩)]) (by simp) (by simp [go_sem]) ?_
 refine (catch_faultP w.heap.size (w.heap.size + 1) _ _ w6 hE k0 k1).mono ?_
 rintro e u' w'' ⟨rfl, rfl, w2, hb2, hw''⟩
 have x0 := (hb2.block _ (Array.getElem?_eq_some_iff.1 k0).1).trans k0
 have x1 := (hb2.block _ (Array.getElem?_eq_some_iff.1 k1).1).trans k1
 have hb3 : Below w.heap.size w w2 := hb.trans (hb2.mono hb.size)
 have h0 := set_cell1P x0 (.pointer none)
 have h1 : w''.heap[w.heap.size + 1]? = some (.cells #[.int .i64 2] 3) := by rw [hw'']; exact set_cell1P ((set_keep _ (Nat.succ_ne_self _)).trans x1) _
 have h2 : w''.heap[w.heap.size]? = some (.cells #[.pointer none] 49) := by rw [hw'']; exact (set_keep _ (by omega)).trans h0
 have y0 := (cells1 h2).1
 have y1 := (cells1 h1).1
 have hbb : Below w.heap.size w w'' := by rw [hw'']; exact (hb3.setCell (p := ⟨w.heap.size, 0, none⟩) (Nat.le_refl _) _).setCell (p := ⟨w.heap.size + 1, 0, none⟩) (Nat.le_succ _) _
 have HF : Hid (RpQ ds w w'' (.returned (.tuple #[.pointer none, .int .i64 2]))) := by
  unfold Hid RpQ
  rw [hU]
  exact ⟨2, by decide, rfl, hbb⟩
 clear hw'' h0 h1 h2 hbb x0 x1 hb3 hb2
 simp [Leaves, settle, results, Tryz.results18, go_sem, y0, y1]
 exact HF.out
theorem rp_ret (ds : List Dt) (w w6 : World) (x : Value) (t0 t1 t4 t5 t6 t7 t8 t9 ta tb tc td : Value) (k0 : w6.heap[w.heap.size]? = some (.cells #[x] 49)) (k1 : w6.heap[w.heap.size + 1]? = some (.cells #[.int .i64 0] 3)) (hr : RpQ ds w ((w6.setCell ⟨w.heap.size, 0, none⟩ x).setCell ⟨w.heap.size + 1, 0, none⟩ (.int .i64 0)) (.returned (.tuple #[x, .int .i64 0]))) :
  Leaves Tryz.prog Tryz.f18 #[t0, t1, .pointer (some ⟨w.heap.size, 0, none⟩), .pointer (some ⟨w.heap.size + 1, 0, none⟩), t4, t5, t6, t7, t8, t9, ta, tb, tc, td] (fun r w' => RpQ ds w w' r) [{ target := .fn (.func 30) #[.pointer (some ⟨w.heap.size, 0, none⟩), .pointer (some ⟨w.heap.size + 1, 0, none⟩)], args := #[] }] .returning ((w6.setCell ⟨w.heap.size, 0, none⟩ x).setCell ⟨w.heap.size + 1, 0, none⟩ (.int .i64 0)) := by
 obtain ⟨w7, hw7⟩ : ∃ w7, w7 = (w6.setCell ⟨w.heap.size, 0, none⟩ x).setCell ⟨w.heap.size + 1, 0, none⟩ (.int .i64 0) := ⟨_, rfl⟩
 have h0 := set_cell1P k0 x
 have h1 : w7.heap[w.heap.size + 1]? = some (.cells #[.int .i64 0] 3) := by rw [hw7]; exact set_cell1P ((set_keep _ (Nat.succ_ne_self _)).trans k1) _
 have h2 : w7.heap[w.heap.size]? = some (.cells #[x] 49) := by rw [hw7]; exact (set_keep _ (by omega)).trans h0
 rw [← hw7] at hr ⊢
 have y0 := (cells1 h2).1
 have y1 := (cells1 h1).1
 have HF : Hid (RpQ ds w w7 (.returned (.tuple #[x, .int .i64 0]))) := hr
 clear hw7 h0 h1 h2 hr
 refine leaves_cons (f := 30) (args := #[.pointer (some ⟨w.heap.size, 0, none⟩), .pointer (some ⟨w.heap.size + 1, 0, none⟩)]) (by simp) (by simp [go_sem]) ?_
 refine (catch_idleP ⟨w.heap.size, 0, none⟩ ⟨w.heap.size + 1, 0, none⟩ _).mono ?_
 rintro e u' w'' ⟨rfl, rfl, rfl⟩
 simp [Leaves, settle, results, Tryz.results18, go_sem, y0, y1]
 exact HF.out
set_option maxRecDepth 20000 in
set_option maxHeartbeats 4000000 in
theorem readProgram_c (p : Option Addr) (n cc : Nat) (ds : List Dt) (w : World) (hD : Da w p n cc ds) (hT : TbP w) (hE : Eh w) :
  Calls Tryz.prog 18 #[.slice p n cc] w fun r w' => RpQ ds w w' r := by
 have hmf : ∀ (fn : Go.Fn) (first cap : Array Value) (w : World), (Instr.makeFunc fn first cap).run Tryz.prog w = .ok (.func fn first cap) w := fun _ _ _ _ => rfl
 obtain ⟨W, hW⟩ : ∃ W, W = (w.alloc (.cells #[.pointer none] 49)).alloc (.cells #[.int .i64 0] 3) := ⟨_, rfl⟩
 have hbW : Below w.heap.size w W := by rw [hW]; exact below2 _ _ _
 have hbx := boxes2 (w := w) (w1 := W) (a := .pointer none) (b := .int .i64 0) (t := 49) (u := 3) (by rw [← hW]; exact Below.refl _ _)
 have HV := mkC (valid8 p n cc ds W (hD.below hbW))
 have HBW := mkC hbW
 have HW := mkC hW
 have HBX : Hid (∀ w1, Below W.heap.size W w1 → w1.heap[w.heap.size]? = some (.cells #[.pointer none] 49) ∧ w1.heap[w.heap.size + 1]? = some (.cells #[.int .i64 0] 3)) := fun w1 hb => ⟨(hb.block _ (Array.getElem?_eq_some_iff.1 hbx.1).1).trans hbx.1, (hb.block _ (Array.getElem?_eq_some_iff.1 hbx.2).1).trans hbx.2⟩
 cases hv : validB ds with
 | false =>
  rw [hv] at HV
  have HU : Hid (unb ds = none) := by unfold Hid unb; rw [hv]; rfl
  clear hD hT hE hbW hbx hv hW
  go_enter_defers Tryz.func18, Tryz.ntmps18
  go_wp2_with fail
  rw [← HW.out]
  refine HV.out.mono ?_
  rintro e w1 ⟨rfl, hb1⟩
  obtain ⟨x0, x1⟩ := HBX.out w1 hb1
  have HB1 := mkC (HBW.out.trans (hb1.mono HBW.out.size))
  have z0 := (cells1 x0).1
  have zf := (cells1 x0).2
  have z1 := (cells1 x1).1
  have zg := (cells1 x1).2
  have HX0 := mkC x0
  have HX1 := mkC x1
  clear hb1 x0 x1
  go_wp2_with fail
  have h0 := set_cell1P HX0.out (.pointer none)
  have h1 : ((w1.setCell ⟨w.heap.size, 0, none⟩ (.pointer none)).setCell ⟨w.heap.size + 1, 0, none⟩ (.int .i64 1)).heap[w.heap.size + 1]? = some (.cells #[.int .i64 1] 3) := set_cell1P ((set_keep _ (Nat.succ_ne_self _)).trans HX1.out) _
  have h2 : ((w1.setCell ⟨w.heap.size, 0, none⟩ (.pointer none)).setCell ⟨w.heap.size + 1, 0, none⟩ (.int .i64 1)).heap[w.heap.size]? = some (.cells #[.pointer none] 49) := (set_keep _ (by omega)).trans h0
  have y0 := (cells1 h2).1
  have y1 := (cells1 h1).1
  have hbb : Below w.heap.size w ((w1.setCell ⟨w.heap.size, 0, none⟩ (.pointer none)).setCell ⟨w.heap.size + 1, 0, none⟩ (.int .i64 1)) := (HB1.out.setCell (p := ⟨w.heap.size, 0, none⟩) (Nat.le_refl _) _).setCell (p := ⟨w.heap.size + 1, 0, none⟩) (Nat.le_succ _) _
  have HF : Hid (RpQ ds w ((w1.setCell ⟨w.heap.size, 0, none⟩ (.pointer none)).setCell ⟨w.heap.size + 1, 0, none⟩ (.int .i64 1)) (.returned (.tuple #[.pointer none, .int .i64 1]))) := by
   unfold Hid RpQ
   rw [HU.out]
   exact ⟨1, by decide, rfl, hbb⟩
  simp [bodyPostD, Leaves, results, Tryz.results18, go_sem, y0, y1]
  exact HF.out
 | true =>
  rw [hv] at HV
  unfold validB at hv
  rw [Bool.and_eq_true, decide_eq_true_eq] at hv
  obtain ⟨hlen, hrow⟩ := hv
  obtain ⟨db, dof, hq⟩ : ∃ db dof, 0 < n → p = some ⟨db, dof, none⟩ := by
   by_cases h0 : 0 < n
   ·obtain ⟨b, o, e, _⟩ := hD.cells h0
    exact ⟨b, o, fun _ => e⟩
   ·exact ⟨0, 0, fun h => absurd h h0⟩
  have hn3 : n ≤ 3000 := by rw [← hD.len]; exact hlen
  have hda : Da w (some ⟨db, dof, none⟩) n cc ds := ⟨hD.len, hD.cap, hD.big, fun h0 => by
   obtain ⟨b, o, e, hr⟩ := hD.cells h0
   rw [hq h0] at e
   exact ⟨b, o, e, hr⟩⟩
  have hU : unb ds = pgR ds := by unfold unb validB; rw [decide_eq_true hlen, hrow]; rfl
  have HNP : Hid (∀ w1, Calls Tryz.prog 32 #[] w1 fun r w2 => ∃ s : Sg, r = .returned (.pointer (some ⟨w1.heap.size + 1, 0, none⟩)) ∧ s.pb = w1.heap.size + 1 ∧ PgI ⟨w1, none, 0, 0, []⟩ 0 w2 s ∧ s.gls = [] ∧ s.sc = [] ∧ s.ub = [] ∧ s.fmn = 0 ∧ Below w1.heap.size w1 w2 ∧ w1.heap.size ≤ s.wm) := fun w1 => by
   refine (newProgram_c (c := ⟨w1, none, 0, 0, []⟩) w1 (Below.refl _ _)).mono ?_
   rintro r w2 ⟨s, rfl, h1, h2, h3, h4, h5, h6, h7, h8⟩
   exact ⟨s, by rw [h7], h7, h1, h2, h3, h4, h5, h6, h8⟩
  have HRE : Hid (∀ w1 w2 s, Below W.heap.size W w1 → s.pb = w1.heap.size + 1 → PgI ⟨w1, none, 0, 0, []⟩ 0 w2 s → s.gls = [] → s.sc = [] → s.ub = [] → s.fmn = 0 → Below w1.heap.size w1 w2 → w1.heap.size ≤ s.wm → ∀ W3, W3 = w2.setCell ⟨w.heap.size, 0, none⟩ (.pointer (some ⟨w1.heap.size + 1, 0, none⟩)) → W3.cell? ⟨w.heap.size, 0, none⟩ = some (.pointer (some ⟨w1.heap.size + 1, 0, none⟩)) ∧ ∀ W4, Below W3.heap.size W3 W4 → Calls Tryz.prog 34 #[.slice p n cc] W4 fun r w5 => ∃ v, r = .returned v ∧ ∃ pp pn pc, v = .slice pp pn pc ∧ w5.cell? ⟨w.heap.size, 0, none⟩ = some (.pointer (some ⟨w1.heap.size + 1, 0, none⟩)) ∧ Calls Tryz.prog 33 #[.pointer (some ⟨w1.heap.size + 1, 0, none⟩), .slice pp pn pc] w5 fun r w6 => (∃ v, r = .returned v ∧ w6.heap[w.heap.size]? = some (.cells #[.pointer (some ⟨w1.heap.size + 1, 0, none⟩)] 49) ∧ w6.heap[w.heap.size + 1]? = some (.cells #[.int .i64 0] 3) ∧ RpQ ds w ((w6.setCell ⟨w.heap.size, 0, none⟩ (.pointer (some ⟨w1.heap.size + 1, 0, none⟩))).setCell ⟨w.heap.size + 1, 0, none⟩ (.int .i64 0)) (.returned (.tuple #[.pointer (some ⟨w1.heap.size + 1, 0, none⟩), .int .i64 0]))) ∨ (∃ ch, r = .panicked ch ∧ .panicked ch = gramE ∧ unb ds = none ∧ Eh w6 ∧ Below w.heap.size w w6 ∧ w6.heap[w.heap.size]? = some (.cells #[.pointer (some ⟨w1.heap.size + 1, 0, none⟩)] 49) ∧ w6.heap[w.heap.size + 1]? = some (.cells #[.int .i64 0] 3))) := by
   intro w1 w2 s hb1 hpb hpg hg hsc hub hfm hb2 hwm W3 hW3
   obtain ⟨x0, x1⟩ := HBX.out w1 hb1
   have hlt0 := (Array.getElem?_eq_some_iff.1 x0).1
   have hlt1 := (Array.getElem?_eq_some_iff.1 x1).1
   have hw1 : Below w.heap.size w w1 := hbW.trans (hb1.mono hbW.size)
   obtain ⟨wh, hwh⟩ : ∃ wh, wh = w1.setCell ⟨w.heap.size, 0, none⟩ (.pointer (some ⟨w1.heap.size + 1, 0, none⟩)) := ⟨_, rfl⟩
   have hwhs : wh.heap.size = w1.heap.size := by rw [hwh, set_size]
   have hbwh : Below w.heap.size w wh := by rw [hwh]; exact hw1.setCell (p := ⟨w.heap.size, 0, none⟩) (Nat.le_refl _) _
   have hbox0 : wh.heap[w.heap.size]? = some (.cells #[.pointer (some ⟨w1.heap.size + 1, 0, none⟩)] 49) := by rw [hwh]; exact set_cell1P x0 _
   have hbox1 : wh.heap[w.heap.size + 1]? = some (.cells #[.int .i64 0] 3) := by rw [hwh]; exact (set_keep _ (Nat.succ_ne_self _)).trans x1
   have hb3 : Below wh.heap.size wh W3 := by
    rw [hwh, hW3]
    refine ⟨hb2.os, hb2.tape, hb2.output, by rw [set_size, set_size]; exact hb2.size, fun k hk => ?_⟩
    rw [set_size] at hk
    by_cases e : k = w.heap.size
    ·subst e
     rw [set_cell1P x0, set_cell1P ((hb2.block _ hk).trans x0)]
    ·rw [set_keep _ e, set_keep _ e]
     exact hb2.block k hk
   obtain ⟨c, hc⟩ : ∃ c : Cx, c = ⟨wh, some ⟨db, dof, none⟩, n, cc, ds⟩ := ⟨_, rfl⟩
   have hw0 : c.w0 = wh := by rw [hc]
   have hds : c.ds = ds := by rw [hc]
   have hx : PgX c db dof := by rw [hc]; exact ⟨rfl, hda.below hbwh, hn3⟩
   have hpg3 : PgI c 0 W3 s := hpg.rebase (c2 := c) (by rw [hw0]; exact hb3) (by rw [hw0]; exact hwhs) (fun k hk => by rw [hW3]; exact set_keep _ (by have : w1.heap.size ≤ k := hk; omega)) hwm
   have boxes : ∀ w', Below wh.heap.size wh w' → w'.heap[w.heap.size]? = some (.cells #[.pointer (some ⟨w1.heap.size + 1, 0, none⟩)] 49) ∧ w'.heap[w.heap.size + 1]? = some (.cells #[.int .i64 0] 3) := fun w' hb => ⟨(hb.block _ (by rw [hwhs]; exact hlt0)).trans hbox0, (hb.block _ (by rw [hwhs]; exact hlt1)).trans hbox1⟩
   refine ⟨(cells1 (boxes W3 hb3).1).1, fun W4 hb4 => ?_⟩
   have hb4' : Below wh.heap.size wh W4 := hb3.trans (hb4.mono hb3.size)
   have q := partsOf_c (c := c) (db := db) (dof := dof) (fun _ => hx.dp) hx.da hx.dn (by rw [hds]; exact hrow) (.slice p n cc) (by rw [hc]; exact ⟨p, by simp, fun h0 => by rw [hq h0]; simp⟩) W4 (by rw [hw0]; exact hb4')
   refine q.mono ?_
   rintro r w5 ⟨pv, es, rfl, h1, h2, h3, h4⟩
   obtain ⟨pp, pc, hpv⟩ := owns_form h3.row
   have hrow3 := h3.row
   rw [hpv] at hrow3
   have hdn := hx.dn
   have hes : EsR c db dof (fun _ => True) 100 w5 pp es.length pc es := esr_own rfl hrow3 (fun x hx' => (h3.els x hx').weak (fun _ _ => trivial))
   have hb5 : Below wh.heap.size wh w5 := hb4'.trans (h4.mono hb4'.size)
   refine ⟨_, rfl, pp, es.length, pc, hpv, (cells1 (boxes w5 hb5).1).1, ?_⟩
   have hpg5 : PgI c 0 w5 s := ((hpg3.below hb4).1.below h4).1
   have q2 := read_c hx (exp_all hx (by rw [hw0]; exact hT.up hbwh) 100) w5 pp es.length pc es hpg5 hg hsc hub hfm hes h1 (by omega) (by rw [hds]; exact hrow)
   rw [hds, hpb] at q2
   refine q2.mono ?_
   intro r w6 hr
   cases e1 : pgR ds with
   | none =>
    rw [e1] at hr
    obtain ⟨rfl, hb6⟩ := hr
    rw [hw0] at hb6
    have hbw6 : Below w.heap.size w w6 := hbwh.trans (hb6.mono hbwh.size)
    exact Or.inr ⟨_, rfl, rfl, hU.trans e1, hE.below hbw6, hbw6, (boxes w6 hb6).1, (boxes w6 hb6).2⟩
   | some ns =>
    rw [e1] at hr
    obtain ⟨u, s', rfl, g1, g2, g3, _⟩ := hr
    have hb6 := g1.bel
    rw [hw0] at hb6
    have hbw6 : Below w.heap.size w w6 := hbwh.trans (hb6.mono hbwh.size)
    refine Or.inl ⟨_, rfl, (boxes w6 hb6).1, (boxes w6 hb6).2, ?_⟩
    have hset : ∀ k, k ≠ w.heap.size → k ≠ w.heap.size + 1 → ((w6.setCell ⟨w.heap.size, 0, none⟩ (.pointer (some ⟨w1.heap.size + 1, 0, none⟩))).setCell ⟨w.heap.size + 1, 0, none⟩ (.int .i64 0)).heap[k]? = w6.heap[k]? := fun k h1 h2 => (set_keep _ h2).trans (set_keep _ h1)
    unfold RpQ
    rw [hU, e1]
    obtain ⟨up, uc, huv⟩ := owns_form g1.ubo
    have hubo := g1.ubo
    have hblk := g1.blk
    rw [g2, hpb] at hblk
    rw [g3, hw0] at hubo
    rw [g3] at huv
    rw [huv] at hubo hblk
    refine ⟨w1.heap.size + 1, up, uc, (_, _, _, _, _), rfl, (hbw6.setCell (p := ⟨w.heap.size, 0, none⟩) (Nat.le_refl _) _).setCell (p := ⟨w.heap.size + 1, 0, none⟩) (Nat.le_succ _) _, (hset _ (by omega) (by omega)).trans hblk, owns_of_heap (owns_weak hubo (by rw [hwhs]; exact hw1.size)) (fun j hj => hset j ?_ ?_), fun x hx' => g1.ubr x (by rw [g3]; exact hx'), by have := g1.len.2.2.1; rw [g3] at this; exact this⟩
    ·have := owns_ge hubo j hj
     omega
    ·have := owns_ge hubo j hj
     omega
  clear hD hT hE hbW hbx hW hlen hrow hq hda hU
  go_enter_defers Tryz.func18, Tryz.ntmps18
  go_wp2_with fail
  rw [← HW.out]
  refine HV.out.mono ?_
  rintro e w1 ⟨rfl, hb1⟩
  have HB1 := mkC hb1
  have HN1 := mkC (HNP.out w1)
  clear hb1 HV HNP
  go_wp2_with fail
  refine HN1.out.mono ?_
  rintro e w2 ⟨s, rfl, hpb, hpg, hg, hsc, hub, hfm, hb2, hwm⟩
  obtain ⟨W3, hW3⟩ : ∃ W3, W3 = w2.setCell ⟨w.heap.size, 0, none⟩ (.pointer (some ⟨w1.heap.size + 1, 0, none⟩)) := ⟨_, rfl⟩
  obtain ⟨v0, hre⟩ := HRE.out w1 w2 s HB1.out hpb hpg hg hsc hub hfm hb2 hwm W3 hW3
  obtain ⟨x0, _⟩ := HBX.out w2 (HB1.out.trans (hb2.mono HB1.out.size))
  have z0 := (cells1 x0).1
  have zf := (cells1 x0).2
  have HR3 := mkC hre
  have HW3 := mkC hW3
  have HBD : Hid (Below W3.heap.size W3 W3.drew) := below_drewC (Below.refl _ _)
  clear hb2 hpb hpg hg hsc hub hfm hwm x0 HN1 HBX HRE hre hW3
  go_upto_region 5 with fail
  rw [← HW3.out]
  clear z0 zf
  go_wp2_with fail
  refine wp_region_any (by kernel_rfl) ?_
  change wpAny _ _ _ _ _ _ _ (World.drew _)
  refine wpAny_ready (rs := [0, 1]) (by kernel_rfl) (by simp) ?_
  refine AllReady.cons rfl (fun K hK => ?_) (AllReady.cons rfl (fun K hK => ?_) AllReady.nil)
  ·(go_simp; refine hK _ _ ?_; clear hK K)
   refine wpAny_ready (rs := [1]) (by kernel_rfl) (by simp) ?_
   refine AllReady.cons rfl (fun K hK => ?_) AllReady.nil
   (go_simp; refine hK _ _ ?_; clear hK K)
   refine wpAny_ready (rs := [2]) (by kernel_rfl) (by simp) ?_
   refine AllReady.cons rfl (fun K hK => ?_) AllReady.nil
   (refine step_callC _ rfl 34 _ _ rfl #[.slice p n cc] ?ha (inPartsP _) _ (HR3.out _ HBD.out) ?_; (case ha => first | (simp [Act.eval]; done) | (simp [Act.eval, Act.put]; done)); rintro v w5 ⟨pp, pn, pc, rfl, v1, hrd⟩; have HRD := mkC hrd; clear hrd; (try go_simp); refine hK _ _ ?_; clear hK K)
   refine wpAny_ready (rs := [3]) (by kernel_rfl) (by simp) ?_
   refine AllReady.cons rfl (fun K hK => ?_) AllReady.nil
   (refine step_callQ _ rfl 33 _ _ rfl #[.pointer (some ⟨w1.heap.size + 1, 0, none⟩), .slice pp pn pc] ?ha (inReadP _) _ _ HRD.out ?hq ?_; (case ha => first | (simp [Act.eval]; done) | (simp [Act.eval, Act.put]; done)); (case hq => intro ch w6 hh; obtain ⟨h1, h2, h3, h4, h5, h6⟩ := hh; cases h1; exact rp_panic ds w w6 _ _ _ _ _ _ _ _ _ _ _ _ _ h2 h3 h4 h5 h6); rintro v w6 ⟨k0, k1, hrp⟩; have HK0 := mkC k0; have HK1 := mkC k1; have HRP := mkC hrp; have m0 := (cells1 k0).1; have mf := (cells1 k0).2; have n0 := (cells1 k1).1; have nf := (cells1 k1).2; clear k0 k1 hrp; (try go_simp); refine hK _ _ ?_; clear hK K; refine wpAny_done (by kernel_rfl) ?_ _)
   (go_wp2_with fail; exact rp_ret ds w w6 _ _ _ _ _ _ _ _ _ _ _ _ _ HK0.out HK1.out HRP.out)
  ·(go_simp; refine hK _ _ ?_; clear hK K)
   refine wpAny_ready (rs := [0, 2]) (by kernel_rfl) (by simp) ?_
   refine AllReady.cons rfl (fun K hK => ?_) (AllReady.cons rfl (fun K hK => ?_) AllReady.nil)
   ·(go_simp; refine hK _ _ ?_; clear hK K)
    refine wpAny_ready (rs := [2]) (by kernel_rfl) (by simp) ?_
    refine AllReady.cons rfl (fun K hK => ?_) AllReady.nil
    (refine step_callC _ rfl 34 _ _ rfl #[.slice p n cc] ?ha (inPartsP _) _ (HR3.out _ HBD.out) ?_; (case ha => first | (simp [Act.eval]; done) | (simp [Act.eval, Act.put]; done)); rintro v w5 ⟨pp, pn, pc, rfl, v1, hrd⟩; have HRD := mkC hrd; clear hrd; (try go_simp); refine hK _ _ ?_; clear hK K)
    refine wpAny_ready (rs := [3]) (by kernel_rfl) (by simp) ?_
    refine AllReady.cons rfl (fun K hK => ?_) AllReady.nil
    (refine step_callQ _ rfl 33 _ _ rfl #[.pointer (some ⟨w1.heap.size + 1, 0, none⟩), .slice pp pn pc] ?ha (inReadP _) _ _ HRD.out ?hq ?_; (case ha => first | (simp [Act.eval]; done) | (simp [Act.eval, Act.put]; done)); (case hq => intro ch w6 hh; obtain ⟨h1, h2, h3, h4, h5, h6⟩ := hh; cases h1; exact rp_panic ds w w6 _ _ _ _ _ _ _ _ _ _ _ _ _ h2 h3 h4 h5 h6); rintro v w6 ⟨k0, k1, hrp⟩; have HK0 := mkC k0; have HK1 := mkC k1; have HRP := mkC hrp; have m0 := (cells1 k0).1; have mf := (cells1 k0).2; have n0 := (cells1 k1).1; have nf := (cells1 k1).2; clear k0 k1 hrp; (try go_simp); refine hK _ _ ?_; clear hK K; refine wpAny_done (by kernel_rfl) ?_ _)
    (go_wp2_with fail; exact rp_ret ds w w6 _ _ _ _ _ _ _ _ _ _ _ _ _ HK0.out HK1.out HRP.out)
   ·(refine step_callC _ rfl 34 _ _ rfl #[.slice p n cc] ?ha (inPartsP _) _ (HR3.out _ HBD.out) ?_; (case ha => first | (simp [Act.eval]; done) | (simp [Act.eval, Act.put]; done)); rintro v w5 ⟨pp, pn, pc, rfl, v1, hrd⟩; have HRD := mkC hrd; clear hrd; (try go_simp); refine hK _ _ ?_; clear hK K)
    refine wpAny_ready (rs := [0]) (by kernel_rfl) (by simp) ?_
    refine AllReady.cons rfl (fun K hK => ?_) AllReady.nil
    (go_simp; refine hK _ _ ?_; clear hK K)
    refine wpAny_ready (rs := [3]) (by kernel_rfl) (by simp) ?_
    refine AllReady.cons rfl (fun K hK => ?_) AllReady.nil
    (refine step_callQ _ rfl 33 _ _ rfl #[.pointer (some ⟨w1.heap.size + 1, 0, none⟩), .slice pp pn pc] ?ha (inReadP _) _ _ HRD.out ?hq ?_; (case ha => first | (simp [Act.eval]; done) | (simp [Act.eval, Act.put]; done)); (case hq => intro ch w6 hh; obtain ⟨h1, h2, h3, h4, h5, h6⟩ := hh; cases h1; exact rp_panic ds w w6 _ _ _ _ _ _ _ _ _ _ _ _ _ h2 h3 h4 h5 h6); rintro v w6 ⟨k0, k1, hrp⟩; have HK0 := mkC k0; have HK1 := mkC k1; have HRP := mkC hrp; have m0 := (cells1 k0).1; have mf := (cells1 k0).2; have n0 := (cells1 k1).1; have nf := (cells1 k1).2; clear k0 k1 hrp; (try go_simp); refine hK _ _ ?_; clear hK K; refine wpAny_done (by kernel_rfl) ?_ _)
    (go_wp2_with fail; exact rp_ret ds w w6 _ _ _ _ _ _ _ _ _ _ _ _ _ HK0.out HK1.out HRP.out)
end Cp
end Go.Proofs.YtnnpfoilojicjaaGreatDoor
