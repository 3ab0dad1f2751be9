import Derived.Test.YtmmkpmgidoelpaaDoorCb
namespace Go.Proofs.YtmmkpmgidoelpaaDoor.Hp
open Go.RowKit Ch2 Go.Maps
theorem Inv.mv_le {ws : List Int} {T : Nat} {s : Cs} (h : Inv ws T s) (q : Nat) : s.mv q ≤ s.top := by
  rcases Int.lt_or_le (s.mv q) 0 with h0 | h0
  · omega
  · have hm := (h.mem q).1 h0
    obtain ⟨i, hi, e⟩ := List.getElem_of_mem hm
    have h1 := h.at_ i hi
    rw [show s.ord.getD i 0 = q by simp [List.getD, List.getElem?_eq_getElem hi, e]] at h1
    have h2 := offs_mono ws s.ord (s.ord.length - i) i (by omega)
    rw [show i + (s.ord.length - i) = s.ord.length by omega] at h2
    rw [h1, h.top]; omega
theorem visit_pre (ws : List Int) (s : Cs) (x : Int) : s.ord <+: (visit ws s x).ord := by
  unfold visit
  split
  · exact List.prefix_append _ _
  · exact List.prefix_refl _
theorem visits_pre (ws : List Int) : ∀ (xs : List Int) (s : Cs), s.ord <+: (visits ws s xs).ord
  | [], _ => List.prefix_refl _
  | x :: xs, s => (visit_pre ws s x).trans (visits_pre ws xs (visit ws s x))
theorem pre_getD {a b : List Nat} (h : a <+: b) {k : Nat} (hk : k < a.length) : b.getD k 0 = a.getD k 0 := by
  obtain ⟨t, rfl⟩ := h
  simp [List.getD, List.getElem?_append_left hk]
theorem pre_offs {ws : List Int} {a b : List Nat} (h : a <+: b) {k : Nat} (hk : k ≤ a.length) : offs ws b k = offs ws a k := by
  obtain ⟨t, rfl⟩ := h
  unfold offs
  rw [List.take_append_of_le_length hk]
theorem Cp.setOther {w : World} {cb mb g n c T t N r o : Nat} {p : Option Addr} {D : DataW Unit} (h : Cp w cb mb g p n c T t N D) (h1 : cb ≠ r) (h2 : mb ≠ r) (v : Value) : Cp (w.setCell ⟨r, o, none⟩ v) cb mb g p n c T t N D := by
  have hq := Below.heap_setCell w ⟨r, o, none⟩ v cb h1
  have hm := Below.heap_setCell w ⟨r, o, none⟩ v mb h2
  refine ⟨?_, ?_, ⟨?_, ?_, by have := h.to.lt; simpa [World.setCell] using this, ?_, ?_⟩, ?_, ?_⟩
  · rw [World.cell?_of_block (w := w) hq]; exact h.c0
  · rw [World.cell?_of_block (w := w) hq]; exact h.c1
  · rw [World.cell?_of_block (w := w) hq]; exact h.to.c0
  · rw [World.cell?_of_block (w := w) hq]; exact h.to.c1
  · rw [World.frozen?_of_block (w := w) hq]; exact h.to.f0
  · rw [World.frozen?_of_block (w := w) hq]; exact h.to.f1
  · rw [World.cell?_of_block (w := w) hq]; exact h.c4
  · obtain ⟨es, st, hh, rr⟩ := h.own
    exact ⟨es, st, by rw [hm]; exact hh, rr⟩
theorem Is.setOther {w : World} {p : Option Addr} {n c r o : Nat} {xs : List Int} (h : Is w p n c xs) (hp : 0 < n → ∀ a, p = some a → a.block ≠ r) (v : Value) : Is (w.setCell ⟨r, o, none⟩ v) p n c xs := by
  refine ⟨h.len, h.cap, h.big, h.rng, fun hn => ?_⟩
  obtain ⟨b, o', e, hlt, hc⟩ := h.cells hn
  exact ⟨b, o', e, by simpa [World.setCell] using hlt, fun i hi => by rw [World.cell?_of_block (w := w) (Below.heap_setCell w ⟨r, o, none⟩ v b (hp hn _ e))]; exact hc i hi⟩
theorem Three.set {x y z : Nat} {a w : World} (h : Three x y z a w) {p : Addr} (hp : p.block = x ∨ p.block = y ∨ p.block = z) (v : Value) : Three x y z a (w.setCell p v) :=
  ⟨h.os, h.tape, h.output, by have := h.size; simpa [World.setCell] using this, fun k hk h1 h2 h3 => (Below.heap_setCell w p v k (by rcases hp with e | e | e <;> rw [e] <;> assumption)).trans (h.block k hk h1 h2 h3)⟩
theorem Cp.drew {w : World} {cb mb g n c T t N : Nat} {p : Option Addr} {D : DataW Unit} (h : Cp w cb mb g p n c T t N D) : Cp w.drew cb mb g p n c T t N D := ⟨h.c0, h.c1, ⟨h.to.c0, h.to.c1, h.to.lt, h.to.f0, h.to.f1⟩, h.c4, h.own⟩
theorem Is.drew {w : World} {p : Option Addr} {n c : Nat} {xs : List Int} (h : Is w p n c xs) : Is w.drew p n c xs := ⟨h.len, h.cap, h.big, h.rng, h.cells⟩
theorem Cst.drew {w : World} {cb mb g n c T k i : Nat} {p : Option Addr} {ws xs : List Int} {s : Cs} {D : DataW Unit} (h : Cst w cb mb g p n c T ws s xs k i D) : Cst w.drew cb mb g p n c T ws s xs k i D := ⟨h.cp.drew, h.mp, h.fr.of_block rfl, h.pl, h.inv, h.src.drew⟩
theorem Cst.setOther {w : World} {cb mb g n c T k i r o : Nat} {p : Option Addr} {ws xs : List Int} {s : Cs} {D : DataW Unit} (h : Cst w cb mb g p n c T ws s xs k i D) (h1 : cb ≠ r) (h2 : mb ≠ r) (h3 : g ≠ r) (h4 : 0 < n → ∀ a, p = some a → a.block ≠ r) (v : Value) : Cst (w.setCell ⟨r, o, none⟩ v) cb mb g p n c T ws s xs k i D :=
  ⟨h.cp.setOther h1 h2 v, h.mp, h.fr.setOther h3 v, h.pl, h.inv, h.src.setOther h4 v⟩
/-- The words of us as they stand when i of them are gone through. -/
structure Gone (f : Nat → Int) (us zs : List Int) (i : Nat) : Prop where
  len : zs.length = us.length
  at_ : ∀ j, j < us.length → zs.getD j 0 = if j < i then mvd f (us.getD j 0) else us.getD j 0
  set : ∀ j, j < us.length → j < i → us.getD j 0 % 4 = 1 → 0 ≤ f (us.getD j 0 / 4).toNat
theorem mvd_same {f f' : Nat → Int} {x : Int} (h : x % 4 = 1 → f' (x / 4).toNat = f (x / 4).toNat) : mvd f' x = mvd f x := by
  unfold mvd
  by_cases e : x % 4 = 1
  · rw [if_pos e, if_pos e, h e]
  · rw [if_neg e, if_neg e]
theorem Gone.next {ws us zs ys : List Int} {s : Cs} {i : Nat} (h : Gone s.mv us zs i) (hi : i < us.length) (hl : ys.length = us.length) (hy : ∀ j, j < us.length → ys.getD j 0 = if j = i then mvd (visit ws s (us.getD i 0)).mv (us.getD i 0) else zs.getD j 0) : Gone (visit ws s (us.getD i 0)).mv us ys (i + 1) := by
  have hkp : ∀ j, j < us.length → j < i → us.getD j 0 % 4 = 1 → (visit ws s (us.getD i 0)).mv (us.getD j 0 / 4).toNat = s.mv (us.getD j 0 / 4).toNat := fun j hj h1 h2 => visit_keep (h.set j hj h1 h2) _
  refine ⟨hl, fun j hj => ?_, fun j hj h1 h2 => ?_⟩
  · rw [hy j hj]
    by_cases e : j = i
    · subst e; rw [if_pos rfl, if_pos (Nat.lt_succ_self _)]
    · rw [if_neg e, h.at_ j hj]
      by_cases e2 : j < i
      · rw [if_pos e2, if_pos (by omega)]
        exact (mvd_same (fun e3 => hkp j hj e2 e3)).symm
      · rw [if_neg e2, if_neg (by omega)]
  · by_cases e : j = i
    · subst e; exact visit_set h2
    · rw [hkp j hj (by omega) h2]; exact h.set j hj (by omega) h2
/-- The roots' move. -/
def JA (w0 : World) (B cb mb g r : Nat) (p : Option Addr) (n c T d : Nat) (ws rs : List Int) (i : Nat) (w : World) : Prop := ∃ xs D zs, Cst w cb mb g p n c T ws (visits ws cs0 (rs.take i)) xs 0 0 D ∧ Fr w r rs.length d zs ∧ Gone (visits ws cs0 (rs.take i)).mv rs zs i ∧ Below B w0 w
theorem JA_mov {w0 : World} {B cb mb g r : Nat} {p : Option Addr} {n c T d : Nat} {ws rs : List Int} (hG : GoodR ws (T : Int) rs) (hA : Apart cb mb g p n) (h1 : cb ≠ r) (h2 : mb ≠ r) (h3 : g ≠ r) (h4 : 0 < n → ∀ a, p = some a → a.block ≠ r) (hB1 : B ≤ cb) (hB2 : B ≤ mb) (hB3 : B ≤ g) (hB4 : B ≤ r) (hB : B ≤ w0.heap.size) : MovJ r 0 rs.length cb rs (JA w0 B cb mb g r p n c T d ws rs) := by
  have hword : ∀ i, i < rs.length → WordOk ws T (rs.getD i 0) := fun i hi => by have := hG.roots i hi; simpa using this
  refine ⟨fun i w hi hJ => ?_, fun i w hi hJ ht => ?_, fun i w hi hJ ht => ?_, fun i w hJ => ?_⟩
  · obtain ⟨xs, D, zs, hC, hF, hZ, hb⟩ := hJ
    have := (hF.cell hi).1
    rw [hZ.at_ i hi, if_neg (Nat.lt_irrefl i)] at this
    rw [Nat.zero_add]; exact this
  · obtain ⟨xs, D, zs, hC, hF, hZ, hb⟩ := hJ
    have hv : visit ws (visits ws cs0 (rs.take i)) (rs.getD i 0) = visits ws cs0 (rs.take i) := visit_not (fun h => ht h.1)
    refine ⟨xs, D, zs, ?_, hF, ?_, hb⟩
    · rw [visits_take ws cs0 rs i hi, hv]; exact hC
    · rw [visits_take ws cs0 rs i hi]
      refine hZ.next hi hZ.len (fun j hj => ?_)
      split
      · rename_i e
        subst e
        rw [hZ.at_ j hj, if_neg (Nat.lt_irrefl j)]
        unfold mvd; rw [if_neg ht]
      · rfl
  · obtain ⟨xs, D, zs, hC, hF, hZ, hb⟩ := hJ
    have hw := hword i hi
    have hnn : 0 ≤ rs.getD i 0 := by rcases hw with h' | h' | h' | h' <;> first | omega | exact h'.2.1
    obtain ⟨m, hm⟩ : ∃ m : Nat, rs.getD i 0 / 4 = m := ⟨(rs.getD i 0 / 4).toNat, by omega⟩
    refine ⟨m, hm, (place_c cb mb g n c T 0 0 m p ws xs _ D (rs.getD i 0) w hC hA hG.good hw ht hm (fun b hb h => by omega)).mono ?_⟩
    rintro e w' ⟨xs', D', rfl, hC', ht'⟩
    have hset : 0 ≤ (visit ws (visits ws cs0 (rs.take i)) (rs.getD i 0)).mv m := by have := visit_set (ws := ws) (s := visits ws cs0 (rs.take i)) ht; rw [hm] at this; simpa using this
    have hle := hC'.inv.mv_le m
    have htp := (top_fit hG.good hC'.inv).1
    have hT : T ≤ 20000 := by have := hG.good.hi; have := hG.good.size; omega
    obtain ⟨v, hv⟩ : ∃ v : Nat, (visit ws (visits ws cs0 (rs.take i)) (rs.getD i 0)).mv m = v := ⟨_, (Int.toNat_of_nonneg hset).symm⟩
    have hF' : Fr w' r rs.length d zs := hF.of_block (ht'.block r hF.lt (Ne.symm h1) (Ne.symm h2) (Ne.symm h3))
    have hmv : mvd (visit ws (visits ws cs0 (rs.take i)) (rs.getD i 0)).mv (rs.getD i 0) = 4 * (v : Int) + 1 := by
      unfold mvd; rw [if_pos ht, hm, ← hv]; simp
    have hb0 : B ≤ w.heap.size := Nat.le_trans hB hb.size
    refine ⟨v, by rw [hv], by omega, by rw [Nat.zero_add]; exact (hF'.cell hi).2, ⟨_, by rw [Nat.zero_add]; exact (hF'.cell hi).1⟩, xs', D', zs.set i (4 * (v : Int) + 1), ?_, ?_, ?_, ?_⟩
    · rw [visits_take ws cs0 rs i hi]; exact hC'.setOther h1 h2 h3 h4 _
    · rw [Nat.zero_add]
      have hzl := hZ.len
      refine hF'.set i _ (by rw [List.length_set]; exact hzl) (fun j hj => ?_)
      by_cases e : j = i
      · subst e; simp [List.getD, show j < zs.length by omega]
      · rw [if_neg e]; simp [List.getD, show ¬ i = j by omega]
    · rw [visits_take ws cs0 rs i hi]
      have hzl := hZ.len
      refine hZ.next hi (by rw [List.length_set]; exact hzl) (fun j hj => ?_)
      rw [hmv]
      by_cases e : j = i
      · subst e; simp [List.getD, show j < zs.length by omega]
      · rw [if_neg e]; simp [List.getD, show ¬ i = j by omega]
    · exact (hb.trans (ht'.below hB1 hB2 hB3 hb0)).setCell (by simpa using hB4) _
  · obtain ⟨xs, D, zs, hC, hF, hZ, hb⟩ := hJ
    exact ⟨xs, D, zs, hC.drew, hF.of_block rfl, hZ, below_drew hb⟩
/-- The move of an object's fields. -/
def JB (w0 : World) (cb mb g : Nat) (p : Option Addr) (n c T k : Nat) (ws us : List Int) (s : Cs) (i : Nat) (w : World) : Prop := ∃ xs D, Cst w cb mb g p n c T ws (visits ws s (us.take i)) xs k i D ∧ Three cb mb g w0 w
theorem JB_mov {w0 : World} {cb mb g : Nat} {p : Option Addr} {n c T k m : Nat} {ws us : List Int} {s : Cs} (hG : GoodH ws (T : Int)) (hn : n = ws.length) (hA : Apart cb mb g p n) (hk : k < s.ord.length) (hs : Inv ws T s) (hus : us = flds ws (s.ord.getD k 0)) (hm : m = cnt (ws.getD (s.ord.getD k 0) 0)) : MovJ g (offs ws s.ord k + 1) m cb us (JB w0 cb mb g p n c T k ws us s) := by
  have hst : St ws T (s.ord.getD k 0) := hs.st _ (by simp [List.getD, List.getElem?_eq_getElem hk])
  obtain ⟨hhd, hft⟩ := head_fit hG hst
  have hT : T ≤ n := by have := hG.hi; omega
  have hn2 : n ≤ 20000 := by have := hG.size; omega
  have hul : us.length = m := by rw [hus, hm]; exact fld_len (by omega)
  have hget : ∀ i, i < m → us.getD i 0 = ws.getD (s.ord.getD k 0 + (i + 1)) 0 := fun i hi => by
    rw [hus]; unfold flds; rw [fld_getD (by omega), show s.ord.getD k 0 + 1 + i = s.ord.getD k 0 + (i + 1) by omega]
  have hword : ∀ i, i < m → WordOk ws T (us.getD i 0) := fun i hi => by
    rw [hget i hi]
    have := hG.fields (p := s.ord.getD k 0) (by simpa using hst) (i := s.ord.getD k 0 + (i + 1)) (by omega) (by omega)
    simpa using this
  have hpre : ∀ i, (visits ws s (us.take i)).ord.getD k 0 = s.ord.getD k 0 ∧ offs ws (visits ws s (us.take i)).ord k = offs ws s.ord k ∧ k < (visits ws s (us.take i)).ord.length := fun i => by
    have h := visits_pre ws (us.take i) s
    exact ⟨pre_getD h hk, pre_offs h (Nat.le_of_lt hk), Nat.lt_of_lt_of_le hk h.length_le⟩
  have hpos : ∀ i w, i < m → JB w0 cb mb g p n c T k ws us s i w → offs ws s.ord k + 1 + i < n := fun i w hi hJ => by
    obtain ⟨xs, D, hC, _⟩ := hJ
    obtain ⟨e1, e2, e3⟩ := hpre i
    have := offs_in ws (visits ws s (us.take i)).ord e3 (b := i + 1) (by rw [e1]; omega)
    have htp := (top_fit hG hC.inv).1
    rw [hC.inv.top] at htp
    omega
  refine ⟨fun i w hi hJ => ?_, fun i w hi hJ ht => ?_, fun i w hi hJ ht => ?_, fun i w hJ => ?_⟩
  · have hps := hpos i w hi hJ
    obtain ⟨xs, D, hC, _⟩ := hJ
    obtain ⟨e1, e2, e3⟩ := hpre i
    have := (hC.fr.cell hps).1
    rw [show offs ws s.ord k + 1 + i = offs ws (visits ws s (us.take i)).ord k + (i + 1) by omega, hC.pl.obj k e3 (i + 1) (by rw [e1]; omega)] at this
    rw [show offs ws s.ord k + 1 + i = offs ws (visits ws s (us.take i)).ord k + (i + 1) by omega, this]
    unfold valP
    rw [if_neg (by omega), if_neg (by omega), e1, hget i hi]
  · obtain ⟨xs, D, hC, h3⟩ := hJ
    obtain ⟨e1, e2, e3⟩ := hpre i
    have hv : visit ws (visits ws s (us.take i)) (us.getD i 0) = visits ws s (us.take i) := visit_not (fun h => ht h.1)
    have htp := (top_fit hG hC.inv).1
    refine ⟨xs, D, ?_, h3⟩
    rw [visits_take ws s us i (by omega), hv]
    exact ⟨hC.cp, hC.mp, hC.fr, hC.pl.skip hC.inv (by omega) e3 (by rw [e1]; omega) (by rw [e1]; exact (hget i hi).symm) ht, hC.inv, hC.src⟩
  · have hps := hpos i w hi hJ
    obtain ⟨xs, D, hC, h3⟩ := hJ
    obtain ⟨e1, e2, e3⟩ := hpre i
    have hw := hword i hi
    have hnn : 0 ≤ us.getD i 0 := by rcases hw with h' | h' | h' | h' <;> first | omega | exact h'.2.1
    obtain ⟨q, hq⟩ : ∃ q : Nat, us.getD i 0 / 4 = q := ⟨(us.getD i 0 / 4).toNat, by omega⟩
    refine ⟨q, hq, (place_c cb mb g n c T k i q p ws xs _ D (us.getD i 0) w hC hA hG hw ht hq (fun b hb h => by omega)).mono ?_⟩
    rintro e w' ⟨xs', D', rfl, hC', ht'⟩
    have hset : 0 ≤ (visit ws (visits ws s (us.take i)) (us.getD i 0)).mv q := by have := visit_set (ws := ws) (s := visits ws s (us.take i)) ht; rw [hq] at this; simpa using this
    have hle := hC'.inv.mv_le q
    have htp := (top_fit hG hC'.inv).1
    obtain ⟨v, hv⟩ : ∃ v : Nat, (visit ws (visits ws s (us.take i)) (us.getD i 0)).mv q = v := ⟨_, (Int.toNat_of_nonneg hset).symm⟩
    obtain ⟨f1, f2, f3⟩ := hpre (i + 1)
    rw [visits_take ws s us i (by omega)] at f1 f2 f3
    have hmv : mvd (visit ws (visits ws s (us.take i)) (us.getD i 0)).mv (us.getD i 0) = 4 * (v : Int) + 1 := by
      unfold mvd; rw [if_pos ht, hq, ← hv]; simp
    have hxl := hC'.pl.len
    have hys : ∀ j, j < n → (xs'.set (offs ws s.ord k + 1 + i) (4 * (v : Int) + 1)).getD j 0 = if j = offs ws s.ord k + 1 + i then 4 * (v : Int) + 1 else xs'.getD j 0 := fun j hj => by
      by_cases e : j = offs ws s.ord k + 1 + i
      · subst e; simp [List.getD, show offs ws s.ord k + 1 + i < xs'.length by omega]
      · rw [if_neg e]; simp [List.getD, show ¬ offs ws s.ord k + 1 + i = j by omega]
    have hyl : (xs'.set (offs ws s.ord k + 1 + i) (4 * (v : Int) + 1)).length = n := by rw [List.length_set]; exact hxl
    obtain ⟨c1, c2⟩ := hC'.fr.cell hps
    refine ⟨v, by rw [hv], by omega, c2, ⟨_, c1⟩, xs'.set (offs ws s.ord k + 1 + i) (4 * (v : Int) + 1), D', ?_, (h3.trans ht').set (Or.inr (Or.inr rfl)) _⟩
    rw [visits_take ws s us i (by omega)]
    refine ⟨hC'.cp.setOther hA.d1 (Ne.symm hA.d3) _, hC'.mp, hC'.fr.set _ _ hyl hys, ?_, hC'.inv, hC'.src.setOther (fun h0 a ha => (hA.d4 h0 a ha).2.1) _⟩
    refine Pl.store (x := us.getD i 0) hC'.pl hC'.inv (by omega) f3 (by rw [f1]; omega) (by rw [f1]; exact (hget i hi).symm) (fun _ => by rw [hq]; simpa using hset) hyl (fun j hj => ?_)
    rw [hys j hj, hmv, show offs ws (visit ws (visits ws s (us.take i)) (us.getD i 0)).ord k + (i + 1) = offs ws s.ord k + 1 + i by omega]
  · obtain ⟨xs, D, hC, h3⟩ := hJ
    exact ⟨xs, D, hC.drew, ⟨h3.os, h3.tape, h3.output, h3.size, h3.block⟩⟩
end Go.Proofs.YtmmkpmgidoelpaaDoor.Hp
