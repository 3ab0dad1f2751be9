import Derived.Test.YtmmkpmgidoelpaaDoorC6
import Derived.Test.YtmmkpmgidoelpaaDoorH7
import Derived.Maps.OwnSet
import Derived.Maps.OwnOps
import Derived.Maps.Views
import Derived.Test.YtmmkpmgidoelpaaDoorC1
namespace Go.Proofs.YtmmkpmgidoelpaaDoor.Hp
open Go.RowKit Ch2 Go.Maps
theorem key3 : Keyed Tryd.prog 3 := int_keyed Tryd.underlying3
theorem zero3 (w : World) : (zeroValue 3).run Tryd.prog w = .ok (.int .i64 0) w := by kernel_rfl
/-- The map of new places, as read. -/
structure MapIs (D : DataW Unit) (mv : Nat → Int) : Prop where
  isMap : IsMap D
  has : ∀ p : Nat, Maps.has D (.int .i64 (p : Int)) = decide (0 ≤ mv p)
  at_ : ∀ p : Nat, 0 ≤ mv p → D.atKey (.int .i64 (p : Int)) (.lit (.int .i64 0)) = .lit (.int .i64 (mv p))
/-- A copier variable in block cb. -/
structure Cp (w : World) (cb mb g : Nat) (p : Option Addr) (n c T t N : Nat) (D : DataW Unit) : Prop where
  c0 : w.cell? ⟨cb, 0, none⟩ = some (.slice p n c)
  c1 : w.cell? ⟨cb, 1, none⟩ = some (.int .i64 (T : Int))
  to : BxO w cb 2 (some ⟨g, 0, none⟩) n n t
  c4 : w.cell? ⟨cb, 4, none⟩ = some (.map (some mb))
  own : w.ownsMap Tryd.prog 3 (plainElem Tryd.prog 3) mb N D
theorem wf64 {x : Int} (h0 : -9223372036854775808 ≤ x) (h1 : x ≤ 9223372036854775807) : (Lit.int .i64 x).wf = true := by
  simp [Lit.wf, IntKind.min, IntKind.max, IntKind.signed, IntKind.bits]; omega
set_option maxRecDepth 20000 in
set_option maxHeartbeats 4000000 in
theorem placeOf_old (cb mb g n c T t N m : Nat) (p : Option Addr) (D : DataW Unit) (mv : Nat → Int) (w : World) (hC : Cp w cb mb g p n c T t N D) (hM : MapIs D mv) (hm : m ≤ 20000) (h0 : 0 ≤ mv m) :
    Calls Tryd.prog 39 #[.pointer (some ⟨cb, 0, none⟩), .int .i64 (m : Int)] w fun e w' => e = .returned (.int .i64 (mv m)) ∧ w' = w := by
  have HC : Hid (Cp w cb mb g p n c T t N D) := hC
  have HH : Hid (Maps.has D (.int .i64 (m : Int)) = true) := by unfold Hid; rw [hM.has]; simpa using h0
  have HAT : Hid (D.atKey (.int .i64 (m : Int)) (.lit (.int .i64 0)) = .lit (.int .i64 (mv m))) := hM.at_ m h0
  have hkey : keyOf Tryd.prog 3 (.int .i64 (m : Int)) = some (.int .i64 (m : Int)) := keyOf_int_mk Tryd.underlying3 (wf64 (by omega) (by omega))
  have HKEY : Hid (keyOf Tryd.prog 3 (.int .i64 (m : Int)) = some (.int .i64 (m : Int))) := hkey
  have c4 := hC.c4
  clear hC hM hkey
  go_enter Tryd.func39, Tryd.ntmps39
  go_wp2_with (at_lookup; refine wpList_lookup_own_ok_int _ rfl _ _ 50 rfl 3 3 .i64 key3 Tryd.underlying50 Tryd.underlying3 (zero3 _) mb N D rfl HC.out.own _ _ rfl HKEY.out ?_; intro c hat hwc; rw [HAT.out] at hat; rw [HH.out]; obtain rfl : mv m = c := by injection hat with h1; injection h1)
  go_ret
  exact ⟨rfl, rfl⟩
end Go.Proofs.YtmmkpmgidoelpaaDoor.Hp
namespace Go.Proofs.YtmmkpmgidoelpaaDoor.Hp
open Go.RowKit Ch2 Go.Maps
/-- Of the blocks that were there only x, y and z have turned. -/
structure Three (x y z : Nat) (w w' : World) : Prop where
  os : w'.os = w.os
  tape : w'.tape = w.tape
  output : w'.output = w.output
  size : w.heap.size ≤ w'.heap.size
  block : ∀ k, k < w.heap.size → k ≠ x → k ≠ y → k ≠ z → w'.heap[k]? = w.heap[k]?
theorem MapIs.put {D : DataW Unit} {mv : Nat → Int} (h : MapIs D mv) (m t : Nat) : MapIs (D.put (.int .i64 (m : Int)) (.lit (.int .i64 (t : Int)))) (fun q => if q = m then (t : Int) else mv q) := by
  have hkl : WideAt.IsKeyLit (.int .i64 (m : Int)) := by first | exact trivial | decide | simp [WideAt.IsKeyLit]
  refine ⟨h.isMap.put _ _, fun p => ?_, fun p hp => ?_⟩
  · by_cases e : p = m
    · subst e; rw [has_put_same h.isMap hkl]; simp
    · rw [has_put_other (by intro he; injection he with _ he; omega), h.has p]; simp [e]
  · by_cases e : p = m
    · subst e; rw [atKey_put_same h.isMap hkl]; simp
    · rw [atKey_put_other (by intro he; injection he with _ he; omega)]
      simp only [if_neg e] at hp ⊢
      exact h.at_ p hp
/-- What placeOf leaves where the object is new. -/
def PlP (cb mb g : Nat) (p : Option Addr) (n c T t N m cq : Nat) (ws xs : List Int) (D : DataW Unit) (w w' : World) (e : Ending) : Prop := e = .returned (.int .i64 (t : Int)) ∧ Cp w' cb mb g p n c T (t + 1 + cq) (N + 1) (D.put (.int .i64 (m : Int)) (.lit (.int .i64 (t : Int)))) ∧ Fr w' g n n (putO xs t (ws.getD m 0) (fld ws m cq)) ∧ Three cb mb g w w'
set_option maxRecDepth 20000 in
set_option maxHeartbeats 8000000 in
theorem placeOf_new (cb mb g n c T t N m cq : Nat) (p : Option Addr) (D : DataW Unit) (mv : Nat → Int) (ws xs : List Int) (w : World) (hC : Cp w cb mb g p n c T t N D) (hM : MapIs D mv) (hI : Is w p n c ws) (hF : Fr w g n n xs) (hmc : ws.getD m 0 / 4 = cq) (hcq : cq ≤ 1000) (hmn : m + 1 + cq ≤ n) (htn : t + 1 + cq ≤ n) (hn : n ≤ 20000) (h0 : mv m < 0) (hN : N ≤ 20000)
    (d1 : cb ≠ g) (d2 : cb ≠ mb) (d3 : g ≠ mb) (d4 : ∀ a, p = some a → a.block ≠ cb ∧ a.block ≠ g ∧ a.block ≠ mb) :
    Calls Tryd.prog 39 #[.pointer (some ⟨cb, 0, none⟩), .int .i64 (m : Int)] w fun e w' => PlP cb mb g p n c T t N m cq ws xs D w w' e := by
  have HC : Hid (Cp w cb mb g p n c T t N D) := hC
  have HI : Hid (Is w p n c ws) := hI
  have HF : Hid (Fr w g n n xs) := hF
  have HMC : Hid (ws.getD m 0 / 4 = cq) := hmc
  have HH : Hid (Maps.has D (.int .i64 (m : Int)) = false) := by unfold Hid; rw [hM.has]; simpa using h0
  have hkey : keyOf Tryd.prog 3 (.int .i64 (m : Int)) = some (.int .i64 (m : Int)) := keyOf_int_mk Tryd.underlying3 (wf64 (by omega) (by omega))
  have HKEY : Hid (keyOf Tryd.prog 3 (.int .i64 (m : Int)) = some (.int .i64 (m : Int))) := hkey
  have HWT : Hid ((Lit.int .i64 (t : Int)).wf = true) := wf64 (by omega) (by omega)
  obtain ⟨pb, po, rfl, hpl, hpc⟩ := hI.cells (by omega)
  obtain ⟨e1, e2, e3⟩ := d4 _ rfl
  simp only at e1 e2 e3
  have hcl := hC.to.lt
  have hgl := hF.lt
  have c4 := hC.c4
  have c3 := hC.to.c1
  clear hC hM hkey hI hF hmc h0 d4 hpc
  go_enter Tryd.func39, Tryd.ntmps39
  go_wp2_with (first | (at_lookup; refine wpList_lookup_own_ok_int _ rfl _ _ 50 rfl 3 3 .i64 key3 Tryd.underlying50 Tryd.underlying3 (zero3 _) mb N D rfl HC.out.own _ _ rfl HKEY.out ?_; intro cc hat hwc; rw [HH.out]; clear hat hwc) | (at_mapUpdate; refine wpList_mapUpdate_own _ rfl _ _ _ 50 rfl 3 3 key3 Tryd.underlying50 _ mb N D rfl HC.out.own (by unfold maxLen; omega) _ _ _ rfl rfl HKEY.out _ [] (plainElem_int Tryd.underlying3 HWT.out) ?_; intro w1 hown1 hgrow1; have HOW1 : Hid (w1.ownsMap Tryd.prog 3 (plainElem Tryd.prog 3) mb (N + 1) (D.put (.int .i64 (m : Int)) (.lit (.int .i64 (t : Int))))) := hown1; have HGR : Hid (w.grownBy w1 (some mb)) := hgrow1; clear hown1 hgrow1))
  have hbk : ∀ k, k < w.heap.size → k ≠ mb → w1.heap[k]? = w.heap[k]? := fun k hk hne => HGR.out.block k hk (fun e => hne (Option.some.inj e))
  have HBK : Hid (∀ k, k < w.heap.size → k ≠ mb → w1.heap[k]? = w.heap[k]?) := hbk
  have hs1 := HGR.out.size
  have HT1 : Hid (BxO w1 cb 2 (some ⟨g, 0, none⟩) n n t) := by
    have hq := hbk cb hcl d2
    have h := HC.out.to
    refine ⟨?_, ?_, by omega, ?_, ?_⟩
    · rw [World.cell?_of_block (w := w) hq]; exact h.c0
    · rw [World.cell?_of_block (w := w) hq]; exact h.c1
    · rw [World.frozen?_of_block (w := w) hq]; exact h.f0
    · rw [World.frozen?_of_block (w := w) hq]; exact h.f1
  have HF1 : Hid (Fr w1 g n n xs) := HF.out.of_block (hbk g hgl d3)
  have HI1 : Hid (Is w1 (some ⟨pb, po, none⟩) n c ws) := by
    have h := HI.out
    refine ⟨h.len, h.cap, h.big, h.rng, fun hp => ?_⟩
    obtain ⟨b', o', e, hl, hc⟩ := h.cells hp
    cases e
    exact ⟨pb, po, rfl, by omega, fun i hi => by rw [World.cell?_of_block (w := w) (hbk pb hpl e3)]; exact hc i hi⟩
  have q0 : w1.cell? ⟨cb, 0, none⟩ = some (.slice (some ⟨pb, po, none⟩) n c) := by rw [World.cell?_of_block (w := w) (hbk cb hcl d2)]; exact HC.out.c0
  have q1 : w1.cell? ⟨cb, 1, none⟩ = some (.int .i64 (T : Int)) := by rw [World.cell?_of_block (w := w) (hbk cb hcl d2)]; exact HC.out.c1
  have q4 : w1.cell? ⟨cb, 4, none⟩ = some (.map (some mb)) := by rw [World.cell?_of_block (w := w) (hbk cb hcl d2)]; exact HC.out.c4
  have q2 := HT1.out.c0
  have q3 := HT1.out.c1
  have gh : w1.cell? ⟨pb, po + m, none⟩ = some (.int .i64 (ws.getD m 0)) := by
    obtain ⟨b', o', e, _, hc⟩ := HI1.out.cells (by omega)
    cases e
    exact hc m (by omega)
  obtain ⟨hdr, hhdr⟩ : ∃ hdr, ws.getD m 0 = hdr := ⟨_, rfl⟩
  have HHDR : Hid (ws.getD m 0 = hdr) := hhdr
  rw [hhdr] at gh
  have f1 : (m : Int) < (n : Int) := by omega
  have hcl1 : cb < w1.heap.size := by omega
  have hgl1 : g < w1.heap.size := by omega
  have hpl1 : pb < w1.heap.size := by omega
  clear hbk c4 c3 hhdr
  have FIN : Hid (∀ w2 w3 : World, Below w1.heap.size w1 w2 → PutQ cb 2 g n n t xs hdr (fld ws m cq) w2 w3 (.returned (.tuple #[])) → PlP cb mb g (some ⟨pb, po, none⟩) n c T t N m cq ws xs D w w3 (.returned (.int .i64 (t : Int)))) := by
    intro w2 w3 hb hp
    obtain ⟨_, hbx, hfr, ht, hoth⟩ := hp
    have hfl : (fld ws m cq).length = cq := fld_len (by rw [HI.out.len]; omega)
    rw [hfl] at hbx
    have hs2 := hb.size
    have hk1 : ∀ k, k < w1.heap.size → k ≠ cb → k ≠ g → w3.heap[k]? = w1.heap[k]? := fun k hk h1 h2 => (ht.block k h1 h2).trans (hb.block k hk)
    have hc1 : w3.heap[mb]? = w1.heap[mb]? := by
      have hml : mb < w1.heap.size := by
        obtain ⟨_, _, hh, _⟩ := HOW1.out
        exact (Array.getElem?_eq_some_iff.1 hh).1
      exact hk1 mb hml (fun e => d2 e.symm) (fun e => d3 e.symm)
    refine ⟨rfl, ⟨?_, ?_, hbx, ?_, ?_⟩, by rw [HHDR.out]; exact hfr, ?_⟩
    · rw [hoth 0 (by omega), hb.cell (p := ⟨cb, 0, none⟩) hcl1]; exact q0
    · rw [hoth 1 (by omega), hb.cell (p := ⟨cb, 1, none⟩) hcl1]; exact q1
    · rw [hoth 4 (by omega), hb.cell (p := ⟨cb, 4, none⟩) hcl1]; exact q4
    · obtain ⟨es, st, hh, r⟩ := HOW1.out
      exact ⟨es, st, by rw [hc1]; exact hh, r⟩
    · exact ⟨ht.os.trans (hb.os.trans HGR.out.os), ht.tape.trans (hb.tape.trans HGR.out.tape), ht.output.trans (hb.output.trans HGR.out.output), by rw [ht.size]; omega, fun k hk h1 h2 h3 => (hk1 k (by omega) h1 h3).trans (HBK.out k hk h2)⟩
  go_region_with (first | (go_at_call 26; refine (fieldsAt_c _ n c m cq T ws _ ?y1 hmn (by omega) HMC.out hcq).mono ?_; (case y1 => exact HI1.out.below (below_drew (Below.refl _ _))); rintro e w2 ⟨fq, fc, rfl, hf1, hf2, hf3, hf4⟩; have HF12 : Hid (Below w1.heap.size w1 w2) := (below_drew (Below.refl _ _)).trans hf4; have HFI : Hid (Is w2 fq cq fc (fld ws m cq)) := (HI1.out.sub hmn hf1 hf2 hf3).below HF12.out; have HFQ : Hid (∀ b o, fq = some ⟨b, o, none⟩ → 0 < cq → b ≠ g) := (fun b o e h => by have := hf3 pb po rfl h; rw [this] at e; cases e; exact e2); have HT2 : Hid (BxO w2 cb 2 (some ⟨g, 0, none⟩) n n t) := HT1.out.below HF12.out; have gh2 := HF12.out.cell (p := ⟨pb, po + m, none⟩) hpl1; rw [gh] at gh2; have qq0 := HF12.out.cell (p := ⟨cb, 0, none⟩) hcl1; rw [q0] at qq0; have HFR2 : Hid (Fr w2 g n n xs) := HF1.out.below HF12.out; clear hf1 hf2 hf3 hf4) | (go_at_call 51; refine (putAt_c cb 2 g n n t cq _ _ hdr xs (fld ws m cq) _ HT2.out HFR2.out d1 HFI.out HFQ.out htn (by omega)).mono ?_; rintro e w3 hp3; obtain rfl := hp3.1; have HP3 : Hid (PutQ cb 2 g n n t xs hdr (fld ws m cq) w2 w3 (.returned (.tuple #[]))) := hp3; clear hp3))
  all_goals go_wp2
  all_goals go_ret
  all_goals exact FIN.out w2 w3 HF12.out HP3.out
end Go.Proofs.YtmmkpmgidoelpaaDoor.Hp
