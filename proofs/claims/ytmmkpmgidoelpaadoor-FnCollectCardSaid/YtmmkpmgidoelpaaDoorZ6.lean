import Derived.Test.YtmmkpmgidoelpaaDoorZ5
import Derived.Laws.EntriesVeiled
namespace Go.Proofs.YtmmkpmgidoelpaaDoor.Hp
open Go.RowKit Ch2 Go.Maps
/-- What both SameShapes answer. -/
def ShP (ws : List Int) (top : Int) (rs vs : List Int) (top' : Int) (os : List Int) (w w' : World) (e : Ending) : Prop := ∃ b, e = .returned (.bool b) ∧ (b = true ↔ GoodR ws top rs ∧ GoodR vs top' os ∧ Shp ws rs vs os) ∧ Below w.heap.size w w'
theorem new_blk (w : World) (o : Obj) {k : Nat} (h : k = w.heap.size) : (w.alloc o).heap[k]? = some o := by subst h; exact Go.Deep.blk_alloc_new _ _
theorem old_blk (w : World) (o : Obj) {k : Nat} (h : k < w.heap.size) : (w.alloc o).heap[k]? = w.heap[k]? := (below1 w o).block k h
theorem siz_blk (w : World) (o : Obj) : (w.alloc o).heap.size = w.heap.size + 1 := by simp
/-- Five blocks more. -/
theorem five (w : World) (a b c d e : Obj) : ∃ W, W = ((((w.alloc a).alloc b).alloc c).alloc d).alloc e ∧ W.heap.size = w.heap.size + 5 ∧ Below w.heap.size w W ∧ W.heap[w.heap.size]? = some a ∧ W.heap[w.heap.size + 1]? = some b ∧ W.heap[w.heap.size + 2]? = some c ∧ W.heap[w.heap.size + 3]? = some d ∧ W.heap[w.heap.size + 4]? = some e := by
  have s1 := siz_blk w a
  have s2 := siz_blk (w.alloc a) b
  have s3 := siz_blk ((w.alloc a).alloc b) c
  have s4 := siz_blk (((w.alloc a).alloc b).alloc c) d
  have s5 := siz_blk ((((w.alloc a).alloc b).alloc c).alloc d) e
  refine ⟨_, rfl, by omega, ?_, ?_, ?_, ?_, ?_, ?_⟩
  · exact ((below1 w a).trans ((below1 _ b).mono (by omega))).trans (((below1 _ c).mono (by omega)).trans (((below1 _ d).mono (by omega)).trans ((below1 _ e).mono (by omega))))
  · rw [old_blk _ _ (by omega), old_blk _ _ (by omega), old_blk _ _ (by omega), old_blk _ _ (by omega), new_blk _ _ rfl]
  · rw [old_blk _ _ (by omega), old_blk _ _ (by omega), old_blk _ _ (by omega), new_blk _ _ (by omega)]
  · rw [old_blk _ _ (by omega), old_blk _ _ (by omega), new_blk _ _ (by omega)]
  · rw [old_blk _ _ (by omega), new_blk _ _ (by omega)]
  · rw [new_blk _ _ (by omega)]
theorem one_cell {w : World} {k : Nat} {v : Value} {t : TypeId} (h : w.heap[k]? = some (.cells #[v] t)) : w.cell? ⟨k, 0, none⟩ = some v := by simp [World.cell?, h]
theorem map_made {w : World} {k : Nat} (h : w.heap[k]? = some (.map #[] 0)) : ∃ D : DataW Unit, w.ownsMap Tryd.prog 3 (plainElem Tryd.prog 3) k ([] : List (Nat × Nat)).length D ∧ MpL D [] := by
  obtain ⟨v, hv⟩ : ∃ v : World, v.heap.size = k := ⟨{ w with heap := w.heap.extract 0 k }, by
    have := (Array.getElem?_eq_some_iff.1 h).1
    simp; omega⟩
  have hm := World.ownsMap_made v Tryd.prog 3 (plainElem (H := Unit) Tryd.prog 3)
  rw [hv] at hm
  obtain ⟨es, st, hh, rr⟩ := hm
  refine ⟨.map [], ⟨es, st, ?_, rr⟩, ⟨⟨_, rfl⟩, fun p _ => rfl, fun p q hpq => by cases hpq⟩⟩
  rw [← hh, h, ← hv, new_blk v _ rfl]
set_option maxRecDepth 20000 in
set_option maxHeartbeats 4000000 in
theorem implSameShape_c (p : Option Addr) (n c : Nat) (top : Int) (ws : List Int) (rp : Option Addr) (rn rc : Nat) (rs : List Int) (p' : Option Addr) (n' c' : Nat) (top' : Int) (vs : List Int) (op : Option Addr) (on oc : Nat) (os : List Int) (w : World) (hI : Is w p n c ws) (ht0 : -9223372036854775808 ≤ top) (ht1 : top ≤ 9223372036854775807) (hR : Is w rp rn rc rs) (hI' : Is w p' n' c' vs) (ht0' : -9223372036854775808 ≤ top') (ht1' : top' ≤ 9223372036854775807) (hO : Is w op on oc os) :
    Calls Tryd.prog 8 #[.agg #[.slice p n c, .int .i64 top], .slice rp rn rc, .agg #[.slice p' n' c', .int .i64 top'], .slice op on oc] w fun e w' => ShP ws top rs vs top' os w w' e := by
  have HI : Hid (Is w p n c ws) := hI
  have HR : Hid (Is w rp rn rc rs) := hR
  have HI' : Hid (Is w p' n' c' vs) := hI'
  have HO : Hid (Is w op on oc os) := hO
  clear hI hR hI' hO
  obtain ⟨W, hW⟩ : ∃ W, W = (w.alloc (.cells #[.slice p n c, .int .i64 top] 25)).alloc (.cells #[.slice p' n' c', .int .i64 top'] 25) := ⟨_, rfl⟩
  have HB : Hid (Below w.heap.size w W) := by unfold Hid; rw [hW]; exact below2 w _ _
  have HA : Hid (Bx W w.heap.size p n c top) := by unfold Hid; rw [hW]; exact (Bx.new w p n c top _).below (below1 _ _)
  have HG : Hid (Bx W (w.heap.size + 1) p' n' c' top') := by
    have := Bx.new (w.alloc (.cells #[.slice p n c, .int .i64 top] 25)) p' n' c' top' 25
    unfold Hid; rw [hW]; simpa using this
  have HWs : Hid (W.heap.size = w.heap.size + 2) := by unfold Hid; rw [hW]; simp
  go_enter Tryd.func8, Tryd.ntmps8
  go_wp2_with fail
  rw [← hW]
  clear hW
  refine (implValidHeap_c p n c top ws rp rn rc rs W (HI.out.below HB.out) ht0 ht1 (HR.out.below HB.out)).mono ?_
  rintro e w1 ⟨b, rfl, hb, hb1⟩
  have HB1 : Hid (Below w.heap.size w w1) := HB.out.trans (hb1.mono HB.out.size)
  have HG1 : Hid (Bx w1 (w.heap.size + 1) p' n' c' top') := HG.out.below hb1
  have HA1 : Hid (Bx w1 w.heap.size p n c top) := HA.out.below hb1
  clear hb1
  cases b with
  | false =>
    have HN : Hid (¬ GoodR ws top rs) := fun h => by have := hb.2 h; cases this
    clear hb
    go_wp2_with fail
    go_ret
    exact ⟨false, rfl, ⟨fun h => (by cases h), fun h => absurd h.1 HN.out⟩, HB1.out⟩
  | true =>
    have HGR : Hid (GoodR ws top rs) := hb.1 rfl
    have g0 := HG1.out.c0
    have g1 := HG1.out.c1
    clear hb
    go_wp2_with fail
    refine (implValidHeap_c p' n' c' top' vs op on oc os w1 (HI'.out.below HB1.out) ht0' ht1' (HO.out.below HB1.out)).mono ?_
    rintro e w2 ⟨b, rfl, hb, hb2⟩
    have HB2 : Hid (Below w.heap.size w w2) := HB1.out.trans (hb2.mono HB1.out.size)
    have HG2 : Hid (Bx w2 (w.heap.size + 1) p' n' c' top') := HG1.out.below hb2
    have HA2 : Hid (Bx w2 w.heap.size p n c top) := HA1.out.below hb2
    clear hb2 g0 g1
    cases b with
    | false =>
      have HN : Hid (¬ GoodR vs top' os) := fun h => by have := hb.2 h; cases this
      clear hb
      go_wp2_with fail
      go_ret
      exact ⟨false, rfl, ⟨fun h => (by cases h), fun h => absurd h.2.1 HN.out⟩, HB2.out⟩
    | true =>
      have HGO : Hid (GoodR vs top' os) := hb.1 rfl
      have hmf : ∀ (fn : Fn) (first cap : Array Value) (w : World), (Instr.makeFunc fn first cap).run Tryd.prog w = .ok (.func fn first cap) w := fun _ _ _ _ => rfl
      have hmm := @run_makeMap Tryd.prog
      clear hb
      obtain ⟨T, rfl⟩ : ∃ T : Nat, top = T := ⟨top.toNat, by have := HGR.out.good.lo; omega⟩
      obtain ⟨T', rfl⟩ : ∃ T' : Nat, top' = T' := ⟨top'.toNat, by have := HGO.out.good.lo; omega⟩
      obtain ⟨z, hz⟩ : ∃ z : Vz, z = ⟨w2.heap.size + 2, w2.heap.size + 3, w.heap.size, w.heap.size + 1, w2.heap.size + 4, w2.heap.size, w2.heap.size + 1, p, n, c, T, ws, p', n', c', T', vs⟩ := ⟨_, rfl⟩
      obtain ⟨W5, hW5, hs5, hb5, a1, a2, a3, a4, a5⟩ := five w2 (.map #[] 0) (.map #[] 0) (.cells #[.map (some w2.heap.size)] 50) (.cells #[.map (some (w2.heap.size + 1))] 50) (.cells #[.func (.func 27) #[] z.caps] 57)
      have hlt1 : w.heap.size < w2.heap.size := HA2.out.lt
      have hlt2 : w.heap.size + 1 < w2.heap.size := HG2.out.lt
      have hIB : ∀ {q : Option Addr} {m k : Nat} {xs : List Int}, Is w q m k xs → Is W5 q m k xs ∧ ∀ a, 0 < m → q = some a → a.block < w2.heap.size := fun h => ⟨(h.below HB2.out).below hb5, fun a hm e => by
        obtain ⟨b, o, e', hl, _⟩ := h.cells hm
        rw [e'] at e; cases e
        have := HB2.out.size
        show b < _
        omega⟩
      have i1 := hIB HI.out
      have i2 := hIB HI'.out
      have i3 := hIB HR.out
      have i4 := hIB HO.out
      have hzc : z.caps = #[.pointer (some ⟨w2.heap.size + 2, 0, none⟩), .pointer (some ⟨w2.heap.size + 3, 0, none⟩), .pointer (some ⟨w.heap.size, 0, none⟩), .pointer (some ⟨w.heap.size + 1, 0, none⟩), .pointer (some ⟨w2.heap.size + 4, 0, none⟩)] := by rw [hz]; rfl
      have HOK : Hid z.Ok := by
        unfold Hid
        rw [hz]
        exact ⟨by simp, ⟨by simp, by simp⟩, ⟨by simp, by simp⟩, ⟨by simp; omega, by simp; omega⟩, ⟨by simp; omega, by simp; omega⟩, ⟨by simp, by simp⟩, fun a h0 e => by have := i1.2 a h0 e; exact ⟨by show a.block ≠ w2.heap.size; omega, by show a.block ≠ w2.heap.size + 1; omega⟩, fun a h0 e => by have := i2.2 a h0 e; exact ⟨by show a.block ≠ w2.heap.size; omega, by show a.block ≠ w2.heap.size + 1; omega⟩, HGR.out.good, HGO.out.good⟩
      have HSM : Hid (Sm z [] W5) := by
        unfold Hid
        have c5 := one_cell a5
        rw [hz] at c5 ⊢
        exact ⟨one_cell a3, one_cell a4, HA2.out.below hb5, HG2.out.below hb5, c5, ⟨by show w2.heap.size + 2 < _; omega, by show w2.heap.size + 3 < _; omega, by show w2.heap.size + 4 < _; omega, by show w2.heap.size < _; omega, by show w2.heap.size + 1 < _; omega⟩, i1.1, i2.1, map_made a1, map_made a2, ⟨by simp, by simp, fun a h => by cases h⟩⟩
      have HRW : Hid (∀ i, i < rs.length → WordOk z.ws z.T (rs.getD i 0)) := by
        unfold Hid; rw [hz]; intro i hi; have := HGR.out.roots i hi; simpa using this
      have HOW : Hid (∀ i, i < os.length → WordOk z.vs z.T' (os.getD i 0)) := by
        unfold Hid; rw [hz]; intro i hi; have := HGO.out.roots i hi; simpa using this
      have HBW : Hid (Below w.heap.size w W5) := HB2.out.trans (hb5.mono HB2.out.size)
      have HZF : Hid (z.mb = w2.heap.size ∧ z.nb = w2.heap.size + 1 ∧ z.ws = ws ∧ z.vs = vs ∧ z.T = T) := by unfold Hid; rw [hz]; exact ⟨rfl, rfl, rfl, rfl, rfl⟩
      have HI3 : Hid (Is W5 rp rn rc rs ∧ Is W5 op on oc os) := ⟨i3.1, i4.1⟩
      have HK3 : Hid ((∀ a, 0 < rn → rp = some a → a.block ≠ z.mb ∧ a.block ≠ z.nb) ∧ (∀ a, 0 < on → op = some a → a.block ≠ z.mb ∧ a.block ≠ z.nb)) := by
        unfold Hid; rw [HZF.out.1, HZF.out.2.1]
        exact ⟨fun a h0 e => by have := i3.2 a h0 e; exact ⟨by omega, by omega⟩, fun a h0 e => by have := i4.2 a h0 e; exact ⟨by omega, by omega⟩⟩
      have hsz := hs5
      have HS5 : Hid (w.heap.size ≤ w2.heap.size ∧ W5.heap.size = w2.heap.size + 5) := ⟨by omega, hs5⟩
      rw [hzc] at hW5
      have HW5 : Hid (W5 = (((((w2.alloc (.map #[] 0)).alloc (.map #[] 0)).alloc (.cells #[.map (some w2.heap.size)] 50)).alloc (.cells #[.map (some (w2.heap.size + 1))] 50)).alloc (.cells #[.func (.func 27) #[] #[.pointer (some ⟨w2.heap.size + 2, 0, none⟩), .pointer (some ⟨w2.heap.size + 3, 0, none⟩), .pointer (some ⟨w.heap.size, 0, none⟩), .pointer (some ⟨w.heap.size + 1, 0, none⟩), .pointer (some ⟨w2.heap.size + 4, 0, none⟩)]] 57))) := hW5
      have HZC : Hid (#[.pointer (some ⟨w2.heap.size + 2, 0, none⟩), .pointer (some ⟨w2.heap.size + 3, 0, none⟩), .pointer (some ⟨w.heap.size, 0, none⟩), .pointer (some ⟨w.heap.size + 1, 0, none⟩), .pointer (some ⟨w2.heap.size + 4, 0, none⟩)] = z.caps) := hzc.symm
      clear hIB i1 i2 i3 i4 hzc hz hb5 a1 a2 a3 a4 a5 hs5 hsz hW5 hlt1 hlt2
      have hfit := equalFunc_c z (T + 1) (same_c z HOK.out _) rp rn rc rs op on oc os [] W5 HSM.out HI3.out.1 HI3.out.2 HK3.out.1 HK3.out.2 HRW.out HOW.out (by rw [HZF.out.2.2.2.2]; simp)
      rw [← HZC.out, HW5.out] at hfit
      have HFIT := Hid.mk' hfit
      clear hfit
      go_wp2_with fail
      refine HFIT.out.mono ?_
      rintro e w6 ⟨b, L', rfl, hm6, hc6, hk6, _⟩
      rw [← HW5.out] at hk6
      rw [HZF.out.1, HZF.out.2.1] at hk6
      rw [HZF.out.2.2.1, HZF.out.2.2.2.1] at hc6
      have HE6 : Hid (b = true ↔ Shp ws rs vs os) := hc6.shp hm6.pb
      have HB6 : Hid (Below w.heap.size w w6) := HBW.out.trans (hk6.below (by have := HS5.out; omega) (by have := HS5.out; omega) (by have := HS5.out; omega))
      clear hm6 hc6 hk6
      go_wp2_with fail
      go_ret
      exact ⟨b, rfl, ⟨fun h => ⟨HGR.out, HGO.out, HE6.out.1 h⟩, fun h => HE6.out.2 h.2.2⟩, HB6.out⟩
end Go.Proofs.YtmmkpmgidoelpaaDoor.Hp
