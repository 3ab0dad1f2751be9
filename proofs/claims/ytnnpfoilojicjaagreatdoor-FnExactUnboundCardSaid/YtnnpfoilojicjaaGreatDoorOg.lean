import Derived.Test.YtnnpfoilojicjaaGreatDoorOa
import Derived.Test.YtnnpfoilojicjaaGreatDoorOb
import Derived.Lib.ConvBytes
import Derived.Test.YtnnpfoilojicjaaGreatDoorXc
import Derived.Test.YtnnpfoilojicjaaGreatDoorBl
namespace Go.Proofs.YtnnpfoilojicjaaGreatDoor
open Go.RowKit Ch1
namespace Cp
def Rb (w : World) (t : Nat) (xs : List Int) : Prop := ∃ zs fz, w.heap[t]? = some (.cells (xs.map (Value.int .u8) ++ zs).toArray 5 fz) ∧ xs.length + zs.length ≤ fz.1
theorem Rb.lt {w : World} {t : Nat} {xs : List Int} (h : Rb w t xs) : t < w.heap.size := by
 obtain ⟨_, _, h, _⟩ := h
 exact (Array.getElem?_eq_some_iff.1 h).1
theorem Rb.of_block {w w' : World} {t : Nat} {xs : List Int} (h : Rb w t xs) (e : w'.heap[t]? = w.heap[t]?) : Rb w' t xs := by
 obtain ⟨zs, fz, h1, h2⟩ := h
 exact ⟨zs, fz, e.trans h1, h2⟩
theorem Rb.below {w w' : World} {t : Nat} {xs : List Int} (h : Rb w t xs) (hb : Below w.heap.size w w') : Rb w' t xs := h.of_block (hb.block _ h.lt)
theorem Rb.ne {w : World} {B n size t : Nat} {e : TypeId} {v : Value} {xs : List Int} {ys : List Value} (h : Rb w t xs) (ho : w.ownsRow B e size v n ys) (he : e ≠ 5) : some t ≠ v.ownBlock := by
 intro e'
 obtain ⟨_, cur, hc⟩ := owns_lt ho t e'.symm
 obtain ⟨_, _, h1, _⟩ := h
 rw [h1] at hc
 injection hc with hc
 injection hc with _ h2 _
 exact he h2.symm
theorem conv_rb (w : World) (x : List Int) (hx : Rg x) (hl : x.length ≤ 1048576) : ∃ c w2, (convert 9 34 (.string (strOfNums x))).run Tryz.prog w = .ok (.slice (some ⟨w.heap.size, 0, none⟩) x.length c) w2 ∧ x.length ≤ c ∧ c ≤ maxLen ∧ Rb w2 w.heap.size x ∧ Below w.heap.size w w2 := by
 have hsz := strOfNums_size x
 have hr := Lib.run_convert_string_bytes (P := Tryz.prog) w 9 34 5 (strOfNums x) Tryz.underlying9 Tryz.underlying34 Tryz.underlying5
 rw [hsz] at hr
 refine ⟨_, _, hr, grownCap_ge _ _ _ _, grownCap_le_maxLen _ _ _ _ (by unfold maxLen; omega), ?_, rfl, rfl, rfl, by rw [Lib.bytesWorld_size]; omega, fun k hk => Lib.bytesWorld_at_old w 5 _ k hk⟩
 have e : Lib.bytesCells w 5 (strOfNums x) = (x.map (Value.int .u8) ++ List.replicate (grownCap w (strOfNums x).size 0 5 - (strOfNums x).size) (Value.int .u8 0)).toArray := by
  have hm : x.map ((fun b : UInt8 => Value.int .u8 (b.toNat : Int)) ∘ fun n : Int => UInt8.ofNat n.toNat) = x.map (Value.int .u8) := List.map_congr_left (fun a ha => by
   obtain ⟨h0, h1⟩ := hx a ha
   have h2 : (UInt8.ofNat a.toNat).toNat = a.toNat := UInt8.toNat_ofNat_of_lt' (by have : UInt8.size = 256 := rfl; omega)
   have h3 : ((a.toNat : Nat) : Int) = a := by omega
   simp only [Function.comp_apply, h2, h3])
  unfold Lib.bytesCells
  apply Array.ext'
  simp only [Array.toList_append, Array.toList_map, strOfNums_data, List.map_map, Array.toList_replicate, hm]
 have hn := Lib.bytesWorld_at_new w 5 (strOfNums x)
 rw [e] at hn
 exact ⟨_, _, hn, by simp⟩
structure Nb where
 t : Nat
 c : Nat
 x : List Int
def nbC (L : List Nb) : List Value := L.map (fun e => .slice (some ⟨e.t, 0, none⟩) e.x.length e.c)
structure OutI (B : Nat) (w : World) (v : Value) (L : List Nb) : Prop where
 row : w.ownsRow B 34 1 v L.length (nbC L)
 txt : ∀ e ∈ L, B ≤ e.t ∧ Rb w e.t e.x ∧ e.x.length ≤ e.c ∧ e.c ≤ maxLen
 nd : (L.map Nb.t).Nodup
theorem OutI.below {B : Nat} {w w' : World} {v : Value} {L : List Nb} (h : OutI B w v L) (hb : Below w.heap.size w w') : OutI B w' v L :=
 ⟨owns_below h.row hb, fun e he => ⟨(h.txt e he).1, (h.txt e he).2.1.below hb, (h.txt e he).2.2⟩, h.nd⟩
theorem OutI.weak {B B' : Nat} {w : World} {v : Value} {L : List Nb} (h : OutI B w v L) (hB : B' ≤ B) : OutI B' w v L :=
 ⟨owns_weak h.row hB, fun e he => ⟨Nat.le_trans hB (h.txt e he).1, (h.txt e he).2⟩, h.nd⟩
theorem OutI.step {B : Nat} {w w2 w4 : World} {v v' : Value} {L : List Nb} {c : Nat} {x : List Int} (h : OutI B w v L) (hB : B ≤ w.heap.size) (hb : Below w.heap.size w w2) (hr : Rb w2 w.heap.size x) (hc1 : x.length ≤ c) (hc2 : c ≤ maxLen)
  (ho : w4.ownsRow B 34 1 v' (L.length + 1) (nbC L ++ [.slice (some ⟨w.heap.size, 0, none⟩) x.length c])) (hbt : But w2 w4 v) : OutI B w4 v' (L ++ [⟨w.heap.size, c, x⟩]) := by
 have h2 := h.below hb
 have key : ∀ t xs, Rb w2 t xs → Rb w4 t xs := fun t xs hR => hR.of_block (hbt t hR.lt (hR.ne h2.row (by decide)))
 refine ⟨?_, fun e he => ?_, ?_⟩
 ·have e : nbC (L ++ [⟨w.heap.size, c, x⟩]) = nbC L ++ [.slice (some ⟨w.heap.size, 0, none⟩) x.length c] := by simp [nbC]
  rw [e, List.length_append]
  exact ho
 ·rcases List.mem_append.1 he with he | he
  ·exact ⟨(h2.txt e he).1, key _ _ (h2.txt e he).2.1, (h2.txt e he).2.2⟩
  ·rw [List.mem_singleton.1 he]
   exact ⟨hB, key _ _ hr, hc1, hc2⟩
 ·rw [List.map_append]
  refine List.nodup_append.2 ⟨h.nd, by simp, fun a ha b hb' => ?_⟩
  obtain ⟨e, he, rfl⟩ := List.mem_map.1 ha
  simp only [List.map_cons, List.map_nil, List.mem_singleton] at hb'
  have := (h.txt e he).2.1.lt
  omega
def UnI (ds : List Dt) (w w' : World) (e : Ending) : Prop := Below w.heap.size w w' ∧ ((unb ds = none ∧ e = .returned (.slice none 0 0)) ∨ ∃ ns v L, unb ds = some ns ∧ e = .returned v ∧ OutI w.heap.size w' v L ∧ L.map Nb.x = sortU ns ∧ L.length ≤ 1000000000)
theorem foldU_len : ∀ (ns l : List (List Int)), (ns.foldl insU l).length ≤ l.length + ns.length
 | [], l => by simp
 | x :: ns, l => by
  have h1 := foldU_len ns (insU l x)
  have h2 := insU_len l x
  rw [List.foldl_cons, List.length_cons]
  omega
theorem sortU_len (ns : List (List Int)) : (sortU ns).length ≤ ns.length := by
 have := foldU_len ns []
 unfold sortU
 simpa using this
theorem below_row {B g : Nat} {w : World} {d : Array (List UInt8)} {q : Nat} (hB : B ≤ g) : Below B w (Go.Sort.putRow encStr (Go.Sort.ahead w q) g 0 d) := by
 refine ⟨rfl, rfl, rfl, by simp, fun k hk => ?_⟩
 have : k ≠ g := by omega
 simp [Go.Sort.putRow, Go.Sort.mapBlock, Array.getElem?_modify, Ne.symm this]
theorem below_grow (w : World) (os : Array Obj) : Below w.heap.size w (Go.Sort.grow w os) := ⟨rfl, rfl, rfl, by simp, fun k hk => Go.Sort.heap_grow_old w os hk⟩
theorem sort_both (w1 : World) (B : Nat) (ns : List (List Int)) (up : Option Addr) (uc : Nat) (h : w1.ownsRow B 9 1 (.slice up ns.length uc) ns.length (stC ns)) (hr : ∀ z ∈ ns, Rg z) (hbig : ns.length ≤ 1000000000) :
  Calls Tryz.prog 19 #[.slice up ns.length uc] w1 fun e w2 => e = .returned (.tuple #[]) ∧ Below B w1 w2 ∧ (∀ k, k < w1.heap.size → some k ≠ (Value.slice up ns.length uc).ownBlock → w2.heap[k]? = w1.heap[k]?) ∧
   Calls Tryz.prog 20 #[.slice up ns.length uc] w2 fun e w3 => e = .returned (.slice up (sortU ns).length uc) ∧ Below B w2 w3 ∧ ∀ j, j < (sortU ns).length → ∃ g, up = some ⟨g, 0, none⟩ ∧ g < w3.heap.size ∧ w3.cell? ⟨g, j, none⟩ = some (.string (strOfNums ((sortU ns).getD j []))) := by
 by_cases h0 : ns = []
 ·subst h0
  refine (sortNone up uc w1).mono ?_
  rintro e w2 ⟨rfl, hw⟩
  subst hw
  refine ⟨rfl, Below.refl _ _, fun _ _ _ => rfl, (compNil up uc _).mono ?_⟩
  rintro e w3 ⟨rfl, hw⟩
  subst hw
  exact ⟨rfl, Below.refl _ _, fun j hj => absurd hj (Nat.not_lt_zero j)⟩
 ·have hpos : 0 < ns.length := List.length_pos_iff.2 h0
  obtain ⟨_, ⟨_, hz⟩ | ⟨g, cap, cur, hv, hg, hh, hc1, hc2, hc3, hc4⟩⟩ := h
  ·omega
  ·injection hv with e1 _ e3
   subst e1 e3
   have hglt := (Array.getElem?_eq_some_iff.1 hh).1
   have hH : Go.Sort.Holds encStr w1 g 0 (ns.map bz).toArray := fun j hj => by
    have hj' : j < ns.length := by simpa using hj
    have e : (List.take (ns.length * 1) cur.toList)[j]? = (stC ns)[j]? := by rw [hc4]
    rw [List.getElem?_take, if_pos (by omega)] at e
    refine ⟨?_, by simp [World.frozen?, hh]⟩
    rw [Nat.zero_add]
    have e2 : (ns.map bz).toArray[j]! = bz (ns[j]'hj') := by simp [getElem!_pos, hj']
    rw [e2, enc_bz]
    simp only [World.cell?, hh]
    rw [← Array.getElem?_toList, e]
    simp [stC, hj']
   have hlen : (ns.map bz).length = ns.length := by simp
   have q1 := sortStr g 0 uc (ns.map bz) w1 hH hglt (by rw [hlen]; omega)
   rw [hlen] at q1
   refine q1.mono ?_
   rintro e w2 ⟨rfl, q, os, hw2⟩
   obtain ⟨zs, hzs⟩ : ∃ zs, zs = (ns.map bz).mergeSort fun x y => decide (x ≤ y) := ⟨_, rfl⟩
   rw [← hzs] at hw2
   have hzl : zs.length = ns.length := by rw [hzs, List.length_mergeSort, hlen]
   have hbp : Below B w1 (Go.Sort.putRow encStr (Go.Sort.ahead w1 q) g 0 zs.toArray) := below_row hg
   have hb2 : Below B w1 w2 := by rw [hw2]; exact hbp.trans ((below_grow _ _).mono (Nat.le_trans (by omega) hbp.size))
   have hg2 : g < w2.heap.size := Nat.lt_of_lt_of_le hglt hb2.size
   have hH2 : Go.Sort.Holds encStr w2 g 0 zs.toArray := by
    rw [hw2]
    exact Go.Sort.holds_grow _ _ _ _ _ _ (by simpa using hglt) (Go.Sort.holds_putRow encStr _ g 0 (ns.map bz).toArray zs.toArray (Go.Sort.holds_ahead _ _ _ _ _ _ hH) (by simp [hzl]))
   refine ⟨rfl, hb2, fun k hk hne => ?_, ?_⟩
   ·have hkg : k ≠ g := fun e => hne (by rw [e]; rfl)
    rw [hw2, Go.Sort.heap_grow_old _ _ (by simpa using hk)]
    simp [Go.Sort.putRow, Go.Sort.mapBlock, Array.getElem?_modify, Ne.symm hkg]
   ·have q2 := compStr g 0 uc zs w2 hH2 (by omega) (by omega)
    rw [hzl] at q2
    refine q2.mono ?_
    rintro e w3 ⟨rfl, q', hw3⟩
    have hsc : Lib.compact zs = (sortU ns).map bz := by rw [hzs]; exact sort_compact hr
    rw [hsc] at hw3 ⊢
    have hm := sortU_len ns
    rw [List.length_map] at hw3 ⊢
    have hH3 : Go.Sort.Holds encStr w3 g 0 (List.map bz (sortU ns) ++ List.replicate (ns.length - (sortU ns).length) []).toArray := by
     rw [hw3]
     exact Go.Sort.holds_putRow encStr _ g 0 zs.toArray _ (Go.Sort.holds_ahead _ _ _ _ _ _ hH2) (by simp; omega)
    have hb3 : Below B w2 w3 := by rw [hw3]; exact below_row hg
    refine ⟨rfl, hb3, fun j hj => ⟨g, rfl, Nat.lt_of_lt_of_le hg2 hb3.size, ?_⟩⟩
    have h5 := (hH3 j (by simp; omega)).1
    rw [Nat.zero_add] at h5
    rw [h5]
    have e2 : (List.map bz (sortU ns) ++ List.replicate (ns.length - (sortU ns).length) []).toArray[j]! = bz ((sortU ns).getD j []) := by
     rw [getElem!_pos _ _ (by simp; omega)]
     simp [hj, List.getD_eq_getElem?_getD]
    rw [e2, enc_bz]
set_option maxRecDepth 20000 in
set_option maxHeartbeats 4000000 in
theorem implUnbound_c (p : Option Addr) (n cc : Nat) (ds : List Dt) (w : World) (hD : Da w p n cc ds) (hT : TbP w) (hE : Eh w) (hln : ∀ ns, unb ds = some ns → ∀ x ∈ sortU ns, x.length ≤ 100) :
  Calls Tryz.prog 7 #[.slice p n cc] w fun e w' => UnI ds w w' e := by
 have HRP := mkC (readProgram_c p n cc ds w hD hT hE)
 clear hD hT hE
 cases hU : unb ds with
 | none =>
  have HQ : Hid (∀ r w1, RpQ ds w w1 r → ∃ z : Int, z ≠ 0 ∧ r = .returned (.tuple #[.pointer none, .int .i64 z]) ∧ Below w.heap.size w w1) := fun r w1 h => by
   unfold RpQ at h
   rw [hU] at h
   exact h
  have HF : Hid (∀ w1 : World, Below w.heap.size w w1 → UnI ds w w1 (.returned (.slice none 0 0))) := fun w1 hb => ⟨hb, Or.inl ⟨hU, rfl⟩⟩
  clear hU hln
  go_enter Tryz.func7, Tryz.ntmps7
  go_wp2_with fail
  refine HRP.out.mono ?_
  intro e w1 h
  obtain ⟨z, hz, rfl, hb⟩ := HQ.out e w1 h
  have HB := mkC hb
  clear h hb
  have hz' : (z == 0) = false := by simp [hz]
  go_wp2_with fail
  go_ret
  exact HF.out w1 HB.out
 | some ns =>
  have HQ : Hid (∀ r w1, RpQ ds w w1 r → ∃ (pb : Nat) (up : Option Addr) (uc : Nat) (a : Value × Value × Value × Value × Value), r = .returned (.tuple #[.pointer (some ⟨pb, 0, none⟩), .int .i64 0]) ∧ Below w.heap.size w w1 ∧ w1.heap[pb]? = some (.cells #[a.1, a.2.1, a.2.2.1, a.2.2.2.1, .slice up ns.length uc, a.2.2.2.2] 59) ∧ w1.ownsRow w.heap.size 9 1 (.slice up ns.length uc) ns.length (stC ns) ∧ (∀ x ∈ ns, Rg x) ∧ ns.length ≤ 1000000000) := fun r w1 h => by
   unfold RpQ at h
   rw [hU] at h
   exact h
  have HLN := mkC (hln ns hU)
  obtain ⟨m, hm⟩ : ∃ m, m = (sortU ns).length := ⟨_, rfl⟩
  have HM := mkC hm
  have HF : Hid (∀ (w' : World) v L, Below w.heap.size w w' → OutI w.heap.size w' v L → L.map Nb.x = sortU ns → L.length ≤ 1000000000 → UnI ds w w' (.returned v)) := fun w' v L h1 h2 h3 h4 => ⟨h1, Or.inr ⟨ns, v, L, hU, rfl, h2, h3, h4⟩⟩
  clear hU hln hm
  go_enter Tryz.func7, Tryz.ntmps7
  go_wp2_with fail
  refine HRP.out.mono ?_
  intro e w1 h
  obtain ⟨pb, up, uc, a, rfl, hb1, hblk, hown, hrg, hbig⟩ := HQ.out e w1 h
  have hm1 : m ≤ 1000000000 := by rw [HM.out]; have := sortU_len ns; omega
  have HS := mkC (sort_both w1 w.heap.size ns up uc hown hrg hbig)
  have HRG : Hid (∀ x ∈ sortU ns, Rg x) := fun x hx => hrg x (((sortU_facts hrg).2 x).1 hx)
  have HKP : Hid (∀ w2 : World, (∀ k, k < w1.heap.size → some k ≠ (Value.slice up ns.length uc).ownBlock → w2.heap[k]? = w1.heap[k]?) → w2.cell? ⟨pb, 4, none⟩ = some (.slice up ns.length uc)) := fun w2 hk => (cells6 ((hk pb (Array.getElem?_eq_some_iff.1 hblk).1 (owns_ne hown hblk (by decide))).trans hblk)).2.2.2.2.1
  have q4 := (cells6 hblk).2.2.2.2.1
  have HB1 := mkC hb1
  clear h hb1 hblk hown hrg hbig HQ HRP
  go_wp2_with fail
  refine HS.out.mono ?_
  rintro e w2 ⟨rfl, hb2, hk2, hcm⟩
  have r4 := HKP.out w2 hk2
  have HB2 := mkC (HB1.out.trans hb2)
  have HCM := mkC hcm
  clear hb2 hk2 hcm HKP HS q4
  go_wp2_with fail
  refine HCM.out.mono ?_
  rintro e w3 ⟨rfl, hb3, hnm⟩
  rw [← HM.out]
  have HB3 := mkC (HB2.out.trans hb3)
  have HNM := mkC hnm
  clear hb3 hnm HCM r4
  go_wp2_with fail
  go_loopw [5, 26] (fun v5 i wr => ∃ (k : Nat) (vp : Option Addr) (vc : Nat) (L : List Nb), k ≤ m ∧ i = .int .i64 (k : Nat) ∧ v5 = .slice vp k vc ∧ Hid (Below w3.heap.size w3 wr) ∧ Hid (OutI w3.heap.size wr (.slice vp k vc) L ∧ L.map Nb.x = (sortU ns).take k ∧ L.length = k)) (fun _ i _ => m - (intOf i).toNat)
  case atStart => exact ⟨0, none, 0, [], Nat.zero_le _, rfl, rfl, Below.refl _ _, ⟨nil_own _ _ _ _, (fun e he => by cases he), by simp⟩, by simp, rfl⟩
  case round =>
   obtain ⟨k, vp, vc, L, hk, rfl, rfl, hb, hO⟩ := hrel
   by_cases hlt : k < m
   ·have hk' : k < (sortU ns).length := by rw [← HM.out]; exact hlt
    obtain ⟨g, rfl, hg, hcell⟩ := HNM.out k hk'
    obtain ⟨x, hx⟩ : ∃ x, x = (sortU ns).getD k [] := ⟨_, rfl⟩
    have hxm : x ∈ sortU ns := by
     rw [hx, List.getD_eq_getElem?_getD, List.getElem?_eq_getElem hk']
     exact List.getElem_mem hk'
    rw [← hx] at hcell
    have c0 := cell_keepC hb.out hg hcell
    obtain ⟨c, w5, hcv, hc1, hc2, hrb, hb5⟩ := conv_rb wr x (HRG.out x hxm) (by have := HLN.out x hxm; omega)
    have HOW := mkC (owns_below hO.out.1.row hb5)
    rw [hO.out.2.2] at HOW
    have hwr := hb.out.size
    have hw5 := hb5.size
    have HNX : Hid (∀ v' w4, w4.ownsRow w3.heap.size 34 1 v' (k + 1) (nbC L ++ [.slice (some ⟨wr.heap.size, 0, none⟩) x.length c]) → Below w3.heap.size w5 w4 → But w5 w4 (.slice vp k vc) → ∃ (k' : Nat) (vp' : Option Addr) (vc' : Nat) (L' : List Nb), k' = k + 1 ∧ v' = .slice vp' k' vc' ∧ Below w3.heap.size w3 w4 ∧ (OutI w3.heap.size w4 (.slice vp' k' vc') L' ∧ L'.map Nb.x = (sortU ns).take k' ∧ L'.length = k')) := fun v' w4 ho hb4 hbt => by
     obtain ⟨vp', vc', rfl⟩ := owns_form ho
     refine ⟨k + 1, vp', vc', L ++ [⟨wr.heap.size, c, x⟩], rfl, rfl, (hb.out.trans (hb5.mono hwr)).trans hb4, ?_, ?_, ?_⟩
     ·exact hO.out.1.step hwr hb5 hrb hc1 hc2 (by rw [hO.out.2.2]; exact ho) hbt
     ·rw [List.map_append, hO.out.2.1, List.take_add_one, List.getElem?_eq_getElem hk', hx, List.getD_eq_getElem?_getD, List.getElem?_eq_getElem hk']
      rfl
     ·rw [List.length_append, hO.out.2.2]
      rfl
    generalize strOfNums x = st at c0 hcv
    generalize x.length = xl at hcv HNX
    clear hrb hb5 hcell hxm hx hO hk' HNM hc1 hc2
    have hB5 : w3.heap.size ≤ w5.heap.size := by omega
    go_wp2_with (at_builtin; refine appW_at w5 rfl (.tmp 30) (.tmp 33) 24 34 rfl _ 1 24 Tryz.underlying24 infoSl rfl (by decide) w3.heap.size (.slice vp k vc) k (nbC L) (by simp [Act.eval]) HOW.out #[.slice (some ⟨wr.heap.size, 0, none⟩) xl c] rfl (by simp [Value.oneCell']) (by simp [Act.eval]) (by unfold maxLen; omega) (by omega) hB5 ?_; intro v' w4 ho hb4 hbt hloc hsz; have HFX := mkC (HNX.out v' w4 ho hb4 hbt); clear ho hb4 hbt hloc hsz)
    obtain ⟨k', vp', vc', L', rfl, rfl, h1, h2⟩ := HFX.out
    exact ⟨⟨k + 1, vp', vc', L', by omega, by go_num, rfl, h1, h2⟩, by simp [intOf]; omega⟩
   ·obtain rfl : k = m := by omega
    have HFIN : Hid (UnI ds w wr (.returned (.slice vp k vc))) := HF.out wr _ L (HB3.out.trans (hb.out.mono HB3.out.size)) (hO.out.1.weak HB3.out.size) (by rw [hO.out.2.1, HM.out, List.take_length]) (by rw [hO.out.2.2]; omega)
    clear hO
    go_wp2_with fail
    go_ret
    exact HFIN.out
structure Bs (w : World) (p : Option Addr) (n c : Nat) (ns : List (List Int)) : Prop where
 len : ns.length = n
 cap : n ≤ c
 big : c ≤ maxLen
 cells : 0 < n → ∃ b, p = some ⟨b, 0, none⟩ ∧ b < w.heap.size ∧ ∀ i, i < n → ∃ q m d, w.cell? ⟨b, i, none⟩ = some (.slice q m d) ∧ By w q m d (ns.getD i [])
theorem Bs.below {w w' : World} {p : Option Addr} {n c : Nat} {ns : List (List Int)} (h : Bs w p n c ns) (hb : Below w.heap.size w w') : Bs w' p n c ns := by
 refine ⟨h.len, h.cap, h.big, fun hn => ?_⟩
 obtain ⟨b, e, hlt, hc⟩ := h.cells hn
 refine ⟨b, e, Nat.lt_of_lt_of_le hlt hb.size, fun i hi => ?_⟩
 obtain ⟨q, m, d, h0, h1⟩ := hc i hi
 exact ⟨q, m, d, cell_keepC hb hlt h0, h1.below hb⟩
theorem Rb.cell {w : World} {t : Nat} {xs : List Int} (h : Rb w t xs) {j : Nat} (hj : j < xs.length) : w.cell? ⟨t, j, none⟩ = some (.int .u8 (xs.getD j 0)) ∧ w.frozen? ⟨t, j, none⟩ = false := by
 obtain ⟨zs, ⟨lo, hi⟩, h1, h2⟩ := h
 refine ⟨?_, ?_⟩
 ·simp [World.cell?, h1, List.getElem?_append, hj, List.getD_eq_getElem?_getD]
 ·simp only at h2
  simp only [World.frozen?, h1]
  simp
  omega
theorem Rb.by_ {w : World} {t c : Nat} {xs : List Int} (h : Rb w t xs) (hr : Rg xs) (h1 : xs.length ≤ c) (h2 : c ≤ maxLen) : By w (some ⟨t, 0, none⟩) xs.length c xs :=
 ⟨rfl, h1, h2, rng_of hr, fun _ => ⟨t, 0, rfl, fun i hi => by rw [Nat.zero_add]; exact (h.cell hi).1⟩, fun a ha _ => by cases ha; exact h.lt⟩
theorem nb_at {L : List Nb} {i : Nat} (hi : i < L.length) : (nbC L)[i]? = some (.slice (some ⟨(L[i]'hi).t, 0, none⟩) (L[i]'hi).x.length (L[i]'hi).c) ∧ (L.map Nb.x).getD i [] = (L[i]'hi).x := by
 refine ⟨?_, ?_⟩
 ·simp [nbC, hi]
 ·simp [List.getD_eq_getElem?_getD, hi]
theorem OutI.form {B : Nat} {w : World} {v : Value} {L : List Nb} (h : OutI B w v L) : ∃ p c, v = .slice p L.length c ∧ L.length ≤ c ∧ c ≤ maxLen ∧ (0 < L.length → ∃ b, p = some ⟨b, 0, none⟩ ∧ b < w.heap.size ∧ B ≤ b ∧ (∃ cur, w.heap[b]? = some (.cells cur 34)) ∧ ∀ i (hi : i < L.length), w.cell? ⟨b, i, none⟩ = some (.slice (some ⟨(L[i]'hi).t, 0, none⟩) (L[i]'hi).x.length (L[i]'hi).c)) := by
 obtain ⟨_, ⟨rfl, h0⟩ | ⟨g, cap, cur, rfl, hg, hh, h1, h2, h3, h4⟩⟩ := h.row
 ·exact ⟨none, 0, by rw [h0], by omega, by unfold maxLen; omega, fun h => absurd h (by omega)⟩
 ·refine ⟨_, cap, rfl, h1, h2, fun _ => ⟨g, rfl, (Array.getElem?_eq_some_iff.1 hh).1, hg, ⟨cur, hh⟩, fun i hi => ?_⟩⟩
  have e : (List.take (L.length * 1) cur.toList)[i]? = (nbC L)[i]? := by rw [h4]
  rw [List.getElem?_take, if_pos (by omega), (nb_at hi).1] at e
  rw [← e]
  simp [World.cell?, hh]
theorem OutI.bs {B : Nat} {w : World} {v : Value} {L : List Nb} (h : OutI B w v L) (hr : ∀ e ∈ L, Rg e.x) : ∃ p c, v = .slice p L.length c ∧ Bs w p L.length c (L.map Nb.x) := by
 obtain ⟨p, c, hv, h1, h2, h3⟩ := h.form
 refine ⟨p, c, hv, by simp, h1, h2, fun hn => ?_⟩
 obtain ⟨b, hp, hb, _, _, hc⟩ := h3 hn
 refine ⟨b, hp, hb, fun i hi => ⟨_, _, _, hc i hi, ?_⟩⟩
 have hm := List.getElem_mem hi
 obtain ⟨_, h4, h5, h6⟩ := h.txt _ hm
 rw [(nb_at hi).2]
 exact h4.by_ (hr _ hm) h5 h6
theorem OutS.bs {B : Nat} {w : World} {v : Value} {xs : List (Value × List Int)} (h : OutS B w v xs) : ∃ p c, v = .slice p xs.length c ∧ Bs w p xs.length c (xs.map Prod.snd) ∧ c ≤ maxLen := by
 obtain ⟨_, ⟨rfl, h0⟩ | ⟨g, cap, cur, rfl, hg, hh, h1, h2, h3, h4⟩⟩ := h.row
 ·exact ⟨none, 0, by rw [h0], ⟨by simp, by omega, by unfold maxLen; omega, fun h => absurd h (by omega)⟩, by unfold maxLen; omega⟩
 ·refine ⟨_, cap, rfl, ⟨by simp, h1, h2, fun _ => ⟨g, rfl, (Array.getElem?_eq_some_iff.1 hh).1, fun i hi => ?_⟩⟩, h2⟩
  have e : (List.take (xs.length * 1) cur.toList)[i]? = (xs.map Prod.fst)[i]? := by rw [h4]
  rw [List.getElem?_take, if_pos (by omega), List.getElem?_map, List.getElem?_eq_getElem hi] at e
  obtain ⟨h5, h6, _, _⟩ := h.txt _ (List.getElem_mem hi)
  obtain ⟨q, d, hq, hy, _⟩ := Ow.by_ h5 (rng_of h6)
  refine ⟨q, (xs[i]'hi).2.length, d, ?_, ?_⟩
  ·rw [← hq]
   simp only [World.cell?, hh]
   rw [← Array.getElem?_toList, e]
   rfl
  ·have e2 : (xs.map Prod.snd).getD i [] = (xs[i]'hi).2 := by simp [List.getD_eq_getElem?_getD, hi]
   rw [e2]
   exact hy
theorem OutI.within {B lo hi : Nat} {w w' : World} {v : Value} {L : List Nb} (h : OutI B w v L) (hw : Within lo hi w w') (hB : hi ≤ B) : OutI B w' v L :=
 ⟨owns_of_heap h.row (fun k hk => hw.block k (Or.inr (Nat.le_trans hB (owns_ge h.row k hk)))), fun e he => ⟨(h.txt e he).1, (h.txt e he).2.1.of_block (hw.block _ (Or.inr (Nat.le_trans hB (h.txt e he).1))), (h.txt e he).2.2⟩, h.nd⟩
set_option maxHeartbeats 1000000 in
theorem eqNames_c (p1 p2 : Option Addr) (n c1 c2 : Nat) (ns : List (List Int)) (w : World) (h1 : Bs w p1 n c1 ns) (h2 : Bs w p2 n c2 ns) (hbig : n ≤ 1000000000) :
  Calls Tryz.prog 8 #[.slice p1 n c1, .slice p2 n c2] w fun e w' => e = .returned (.bool true) ∧ Below w.heap.size w w' := by
 have H1 := mkC h1
 have H2 := mkC h2
 clear h1 h2
 go_enter Tryz.func8, Tryz.ntmps8
 go_wp2
 go_loopw [5] (fun i wr => ∃ k : Nat, k ≤ n ∧ i = .int .i64 k ∧ Hid (Below w.heap.size w wr)) (fun i _ => n - (intOf i).toNat)
 case atStart => exact ⟨0, Nat.zero_le _, rfl, Below.refl _ _⟩
 case round =>
  obtain ⟨k, hk, rfl, hb⟩ := hrel
  by_cases hlt : k < n
  ·obtain ⟨b, rfl, hbl, g⟩ := (H1.out.below hb.out).cells (by omega)
   obtain ⟨q, m, d, e0, he⟩ := g k hlt
   obtain ⟨b', rfl, hbl', g'⟩ := (H2.out.below hb.out).cells (by omega)
   obtain ⟨q', m', d', f0, he'⟩ := g' k hlt
   have e1 := he.len
   have e2 := he'.len
   obtain rfl : m = m' := by omega
   clear g g' e1 e2
   generalize ns.getD k [] = x at he he'
   have HY := mkC he
   have HY' := mkC he'
   clear he he'
   go_wp2
   go_region_with (go_at_call 21; refine (eqByte32 q q' m d d' x _ ?y1 ?y2).mono ?_; (case y1 => exact HY.out.below (below_drewN' (Below.refl _ _) _)); (case y2 => exact HY'.out.below (below_drewN' (Below.refl _ _) _)); rintro e w1 ⟨rfl, q1, hw1⟩; have HB1 : Hid (Below w.heap.size w w1) := (by rw [hw1]; exact below_drewN' (below_drewN' hb.out 1) q1); clear hw1)
   all_goals
    go_wp2
    exact ⟨⟨k + 1, by omega, by go_num, HB1.out⟩, by simp [intOf]; omega⟩
  ·go_wp2
   go_ret
   exact ⟨rfl, hb.out⟩
def mks (k n : Nat) : List Int := (List.range n).map (fun j => mk (((1 + k + j : Nat) : Int)))
theorem mks_len (k n : Nat) : (mks k n).length = n := by simp [mks]
theorem mks_succ (k j : Nat) : mks k (j + 1) = mks k j ++ [mk ((1 + k + j : Nat) : Int)] := by simp [mks, List.range_succ]
theorem mks_at {k n j : Nat} (hj : j < n) : (mks k n).getD j 0 = mk ((1 + k + j : Nat) : Int) := by simp [mks, List.getD_eq_getElem?_getD, hj]
theorem Rb.set {w : World} {t j : Nat} {xs : List Int} (h : Rb w t xs) (hj : j < xs.length) (y : Int) : Rb (w.setCell ⟨t, j, none⟩ (.int .u8 y)) t (xs.set j y) := by
 obtain ⟨zs, fz, h1, h2⟩ := h
 refine ⟨zs, fz, ?_, by simpa using h2⟩
 have e : (xs.map (Value.int .u8) ++ zs).toArray.setIfInBounds j (.int .u8 y) = ((xs.set j y).map (Value.int .u8) ++ zs).toArray := by
  rw [List.setIfInBounds_toArray, List.set_append_left _ _ (by simpa using hj), List.map_set]
 rw [← e]
 simp [World.setCell, Array.getElem?_modify, h1]
theorem Rb.mstep {w : World} {t k j : Nat} {xs : List Int} (h : Rb w t (mks k j ++ xs.drop j)) (hj : j < xs.length) : Rb (w.setCell ⟨t, j, none⟩ (.int .u8 (mk ((1 + k + j : Nat) : Int)))) t (mks k (j + 1) ++ xs.drop (j + 1)) := by
 have h1 := h.set (j := j) (by simp [mks_len]; omega) (mk ((1 + k + j : Nat) : Int))
 have e : (mks k j ++ xs.drop j).set j (mk ((1 + k + j : Nat) : Int)) = mks k (j + 1) ++ xs.drop (j + 1) := by
  rw [List.set_append_right _ _ (by rw [mks_len]; exact Nat.le_refl _), mks_len, Nat.sub_self, mks_succ, List.drop_eq_getElem_cons hj, List.set_cons_zero, List.append_assoc]
  rfl
 rw [e] at h1
 exact h1
set_option maxHeartbeats 2000000 in
theorem markRb (t n c k : Nat) (xs : List Int) (w : World) (h : Rb w t xs) (hn : n = xs.length) (hn2 : n ≤ 100) (hk : k ≤ 200000000000) :
  Calls Tryz.prog 23 #[.slice (some ⟨t, 0, none⟩) n c, .int .i64 ((1 + k : Nat) : Int)] w fun e w' => e = .returned (.int .i64 ((1 + (k + n) : Nat) : Int)) ∧ Rb w' t (mks k n) ∧ Within t (t + 1) w w' := by
 have HO := mkC h
 have HN := mkC hn
 clear h hn
 go_enter Tryz.func23, Tryz.ntmps23
 go_wp2
 go_loopw [1, 5] (fun kv i wr => ∃ (j z : Nat), j ≤ n ∧ i = .int .i64 (j : Nat) ∧ kv = .int .i64 (z : Nat) ∧ Hid (z = 1 + k + j) ∧ Hid (Rb wr t (mks k j ++ xs.drop j)) ∧ Hid (Within t (t + 1) w wr)) (fun _ i _ => n - (intOf i).toNat)
 case atStart => exact ⟨0, 1 + k, Nat.zero_le _, rfl, rfl, by unfold Hid; omega, by unfold Hid; simp [mks]; exact HO.out, Within.refl _ _ _⟩
 case round =>
  obtain ⟨j, z, hj, rfl, rfl, hz, hO, hW⟩ := hrel
  have hz1 : z ≤ 300000000000 := by rw [hz.out]; omega
  by_cases hlt : j < n
  ·have hjb : j < xs.length := by rw [← HN.out]; exact hlt
   obtain ⟨g2, g3⟩ := hO.out.cell (j := j) (by simp [mks_len]; omega)
   obtain ⟨y, hy⟩ : ∃ y, y = (mks k j ++ xs.drop j).getD j 0 := ⟨_, rfl⟩
   rw [← hy] at g2
   clear hy
   have HST : Hid (Rb (wr.setCell ⟨t, j, none⟩ (.int .u8 (mk (z : Int)))) t (mks k (j + 1) ++ xs.drop (j + 1))) := by unfold Hid; rw [hz.out]; exact Rb.mstep hO.out hjb
   go_wp2
   exact ⟨⟨j + 1, z + 1, by omega, by go_num, by go_num, by unfold Hid; rw [hz.out]; omega, HST.out, hW.out.set (Nat.le_refl _) (Nat.lt_succ_self _) _⟩, by simp [intOf]; omega⟩
  ·obtain rfl : j = n := by omega
   have HFIN : Hid (Rb wr t (mks k j)) := by have h1 := hO.out; rw [List.drop_eq_nil_of_le (by rw [← HN.out]; exact Nat.le_refl _), List.append_nil] at h1; exact h1
   go_wp2
   go_ret
   exact ⟨ret_int (by have := hz.out; omega), HFIN.out, hW.out⟩
def rwB (L : List Nb) (i : Nat) : Nb := L.getD i ⟨0, 0, []⟩
theorem rwB_at {L : List Nb} {i : Nat} (hi : i < L.length) : rwB L i = L[i]'hi := by
 unfold rwB
 rw [List.getD_eq_getElem?_getD, List.getElem?_eq_getElem hi]
 rfl
theorem rwB_mem {L : List Nb} {i : Nat} (hi : i < L.length) : rwB L i ∈ L := by
 rw [rwB_at hi]
 exact List.getElem_mem hi
def cntN (L : List Nb) : Nat → Nat
 | 0 => 0
 | k + 1 => cntN L k + (rwB L k).x.length
def FewN (L : List Nb) : Prop := L.length ≤ 1000000000 ∧ ∀ e ∈ L, e.x.length ≤ 100
theorem cntN_le {L : List Nb} (h : FewN L) : ∀ k, k ≤ L.length → cntN L k ≤ 100 * k
 | 0, _ => Nat.le_refl _
 | k + 1, hk => by
  have h1 := cntN_le h k (by omega)
  have h2 := h.2 _ (rwB_mem (show k < L.length by omega))
  show cntN L k + _ ≤ _
  omega
def mkN (L : List Nb) (k : Nat) : List Nb := (List.range L.length).map (fun i => if i < k then ⟨(rwB L i).t, (rwB L i).c, mks (cntN L i) (rwB L i).x.length⟩ else rwB L i)
theorem mkN_len (L : List Nb) (k : Nat) : (mkN L k).length = L.length := by simp [mkN]
theorem mkN_at {L : List Nb} {k i : Nat} (hi : i < L.length) : rwB (mkN L k) i = if i < k then ⟨(rwB L i).t, (rwB L i).c, mks (cntN L i) (rwB L i).x.length⟩ else rwB L i := by
 show (mkN L k).getD i _ = _
 rw [List.getD_eq_getElem?_getD]
 simp [mkN, hi]
theorem mkN_sh {L : List Nb} {k i : Nat} (hi : i < L.length) : (rwB (mkN L k) i).t = (rwB L i).t ∧ (rwB (mkN L k) i).c = (rwB L i).c ∧ (rwB (mkN L k) i).x.length = (rwB L i).x.length := by
 rw [mkN_at hi]
 split
 ·exact ⟨rfl, rfl, mks_len _ _⟩
 ·exact ⟨rfl, rfl, rfl⟩
theorem mem_rwB {L : List Nb} {e : Nb} (h : e ∈ L) : ∃ i, i < L.length ∧ rwB L i = e := by
 obtain ⟨i, hi, rfl⟩ := List.getElem_of_mem h
 exact ⟨i, hi, rwB_at hi⟩
theorem mkN_zero (L : List Nb) : mkN L 0 = L := by
 apply List.ext_getElem?
 intro i
 by_cases hi : i < L.length
 ·simp [mkN, hi, rwB, List.getD_eq_getElem?_getD]
 ·simp [mkN, hi]
theorem nbC_at {L : List Nb} {i : Nat} (hi : i < L.length) : (nbC L)[i]? = some (.slice (some ⟨(rwB L i).t, 0, none⟩) (rwB L i).x.length (rwB L i).c) := by
 rw [rwB_at hi]
 exact (nb_at hi).1
theorem nbC_mk (L : List Nb) (k : Nat) : nbC (mkN L k) = nbC L := by
 apply List.ext_getElem?
 intro i
 by_cases hi : i < L.length
 ·rw [nbC_at hi, nbC_at (by rw [mkN_len]; exact hi), (mkN_sh hi).1, (mkN_sh hi).2.1, (mkN_sh hi).2.2]
 ·rw [List.getElem?_eq_none (by simp [nbC, mkN_len]; omega), List.getElem?_eq_none (by simp [nbC]; omega)]
theorem mkN_t (L : List Nb) (k : Nat) : (mkN L k).map Nb.t = L.map Nb.t := by
 apply List.ext_getElem?
 intro i
 by_cases hi : i < L.length
 ·have hi' : i < (mkN L k).length := by rw [mkN_len]; exact hi
  rw [List.getElem?_map, List.getElem?_map, List.getElem?_eq_getElem hi, List.getElem?_eq_getElem hi', ← rwB_at hi, ← rwB_at hi']
  simp only [Option.map_some]
  rw [(mkN_sh hi).1]
 ·rw [List.getElem?_eq_none (by simp [mkN_len]; omega), List.getElem?_eq_none (by simp; omega)]
theorem t_ne {L : List Nb} (hd : (L.map Nb.t).Nodup) {i j : Nat} (hi : i < L.length) (hj : j < L.length) (hne : i ≠ j) : (rwB L i).t ≠ (rwB L j).t := by
 intro e
 apply hne
 have h1 : (L.map Nb.t)[i]'(by simpa using hi) = (rwB L i).t := by rw [rwB_at hi]; simp
 have h2 : (L.map Nb.t)[j]'(by simpa using hj) = (rwB L j).t := by rw [rwB_at hj]; simp
 exact (List.getElem_inj hd).1 (by rw [h1, h2, e])
theorem OutI.mark {B : Nat} {w w' : World} {v : Value} {L : List Nb} {k : Nat} (h : OutI B w v (mkN L k)) (hd : (L.map Nb.t).Nodup) (hk : k < L.length) (ho : Rb w' (rwB L k).t (mks (cntN L k) (rwB L k).x.length)) (hw : Within (rwB L k).t ((rwB L k).t + 1) w w') : OutI B w' v (mkN L (k + 1)) := by
 have hk' : k < (mkN L k).length := by rw [mkN_len]; exact hk
 have hrk := (h.txt _ (rwB_mem hk')).2.1
 rw [(mkN_sh hk).1] at hrk
 have hne := hrk.ne h.row (by decide)
 refine ⟨?_, fun e he => ?_, ?_⟩
 ·have h1 := owns_of_heap h.row (w' := w') (fun j hj => hw.block j (by
   have : j ≠ (rwB L k).t := fun e => hne (by rw [hj, e])
   omega))
  rw [nbC_mk, mkN_len] at h1 ⊢
  exact h1
 ·obtain ⟨i, hi, rfl⟩ := mem_rwB he
  rw [mkN_len] at hi
  have hi' : i < (mkN L k).length := by rw [mkN_len]; exact hi
  have h1 := h.txt _ (rwB_mem hi')
  refine ⟨by rw [(mkN_sh hi).1]; rw [(mkN_sh hi).1] at h1; exact h1.1, ?_, by rw [(mkN_sh hi).2.1, (mkN_sh hi).2.2]; rw [(mkN_sh hi).2.1, (mkN_sh hi).2.2] at h1; exact h1.2.2⟩
  by_cases hik : i = k
  ·subst hik
   rw [mkN_at hi, if_pos (by omega)]
   exact ho
  ·have e : rwB (mkN L (k + 1)) i = rwB (mkN L k) i := by
    rw [mkN_at hi, mkN_at hi]
    by_cases h2 : i < k
    ·rw [if_pos h2, if_pos (by omega)]
    ·rw [if_neg h2, if_neg (by omega)]
   rw [e]
   have hne2 : (rwB (mkN L k) i).t ≠ (rwB L k).t := by
    rw [(mkN_sh hi).1]
    exact t_ne hd hi hk hik
   exact h1.2.1.of_block (hw.block _ (by omega))
 ·rw [mkN_t]
  exact hd
theorem OutI.at_ {B : Nat} {w : World} {p : Option Addr} {n c : Nat} {L : List Nb} (h : OutI B w (.slice p n c) L) {i : Nat} (hi : i < L.length) : ∃ g, p = some ⟨g, 0, none⟩ ∧ g < w.heap.size ∧ w.cell? ⟨g, i, none⟩ = some (.slice (some ⟨(rwB L i).t, 0, none⟩) (rwB L i).x.length (rwB L i).c) := by
 obtain ⟨p', c', hv, _, _, h3⟩ := h.form
 cases hv
 obtain ⟨b, hp, hb, _, _, hc⟩ := h3 (by omega)
 exact ⟨b, hp, hb, by rw [rwB_at hi]; exact hc i hi⟩
set_option maxHeartbeats 2000000 in
theorem markNames_c (p : Option Addr) (n c B : Nat) (L : List Nb) (w : World) (h : OutI B w (.slice p n c) L) (hf : FewN L) (hn : n = L.length) :
  Calls Tryz.prog 11 #[.slice p n c, .int .i64 1] w fun e w' => e = .returned (.int .i64 ((1 + cntN L n : Nat) : Int)) ∧ OutI B w' (.slice p n c) (mkN L n) ∧ Below B w w' := by
 have H1 := mkC h
 have HD := mkC h.nd
 have HF := mkC hf
 have hn2 : n ≤ 1000000000 := by rw [hn]; exact hf.1
 have HN := mkC hn
 clear h hf hn
 go_enter Tryz.func11, Tryz.ntmps11
 go_wp2
 go_loopw [1, 5] (fun kv i wr => ∃ (j z : Nat), j ≤ n ∧ i = .int .i64 (j : Nat) ∧ kv = .int .i64 ((1 + z : Nat) : Int) ∧ Hid (z = cntN L j) ∧ Hid (OutI B wr (.slice p n c) (mkN L j)) ∧ Hid (Below B w wr)) (fun _ i _ => n - (intOf i).toNat)
 case atStart => exact ⟨0, 0, Nat.zero_le _, rfl, rfl, rfl, by unfold Hid; rw [mkN_zero]; exact H1.out, Below.refl _ _⟩
 case round =>
  obtain ⟨j, z, hj, rfl, rfl, hz, hR, hb⟩ := hrel
  have hz1 : z ≤ 100000000000 := by rw [hz.out]; have := cntN_le HF.out j (by rw [← HN.out]; exact hj); omega
  by_cases hlt : j < n
  ·have hk1 : j < L.length := by rw [← HN.out]; exact hlt
   have hk2 : j < (mkN L j).length := by rw [mkN_len]; exact hk1
   obtain ⟨g, rfl, _, e0⟩ := hR.out.at_ hk2
   obtain ⟨hBx, ho, _⟩ := hR.out.txt _ (rwB_mem hk2)
   have hsh : rwB (mkN L j) j = rwB L j := by rw [mkN_at hk1, if_neg (by omega)]
   rw [hsh] at e0 ho hBx
   have hx := HF.out.2 _ (rwB_mem hk1)
   have HMK := mkC (markRb (rwB L j).t (rwB L j).x.length (rwB L j).c z (rwB L j).x wr ho rfl hx (by omega))
   have HST : Hid (∀ w2, Rb w2 (rwB L j).t (mks z (rwB L j).x.length) → Within (rwB L j).t ((rwB L j).t + 1) wr w2 → OutI B w2 (.slice (some ⟨g, 0, none⟩) n c) (mkN L (j + 1)) ∧ Below B w w2) := fun w2 ho2 hw2 => ⟨hR.out.mark HD.out hk1 (by rw [← hz.out]; exact ho2) hw2, hb.out.trans (hw2.below hBx)⟩
   have HCN : Hid (z + (rwB L j).x.length = cntN L (j + 1)) := by unfold Hid; rw [hz.out]; rfl
   generalize (rwB L j).x.length = xl at e0 HMK HST HCN hx
   generalize (rwB L j).t = b at e0 HMK HST
   generalize (rwB L j).c = cb at e0 HMK
   clear ho hsh hBx
   go_wp2_with fail
   refine HMK.out.mono ?_
   rintro e w1 ⟨rfl, ho1, hw1⟩
   have HO1 := mkC ho1
   have HW1 := mkC hw1
   clear ho1 hw1
   go_wp2
   exact ⟨⟨j + 1, z + xl, by omega, by go_num, rfl, HCN.out, (HST.out _ HO1.out HW1.out).1, (HST.out _ HO1.out HW1.out).2⟩, by simp [intOf]; omega⟩
  ·obtain rfl : j = n := by omega
   go_wp2
   go_ret
   exact ⟨ret_int (by have := hz.out; omega), hR.out, hb.out⟩
set_option maxHeartbeats 2000000 in
theorem heldNames_c (p : Option Addr) (n c B : Nat) (L : List Nb) (w : World) (h : OutI B w (.slice p n c) (mkN L n)) (hf : FewN L) (hn : n = L.length) :
  Calls Tryz.prog 12 #[.slice p n c, .int .i64 1] w fun e w' => e = .returned (.int .i64 ((1 + cntN L n : Nat) : Int)) ∧ Below w.heap.size w w' := by
 have H1 := mkC h
 have HF := mkC hf
 have hn2 : n ≤ 1000000000 := by rw [hn]; exact hf.1
 have HN := mkC hn
 clear h hf hn
 go_enter Tryz.func12, Tryz.ntmps12
 go_wp2
 go_loopw [1, 5] (fun kv i wr => ∃ (j z : Nat), j ≤ n ∧ i = .int .i64 (j : Nat) ∧ kv = .int .i64 ((1 + z : Nat) : Int) ∧ Hid (z = cntN L j) ∧ Hid (Below w.heap.size w wr)) (fun _ i _ => n - (intOf i).toNat)
 case atStart => exact ⟨0, 0, Nat.zero_le _, rfl, rfl, rfl, Below.refl _ _⟩
 case round =>
  obtain ⟨j, z, hj, rfl, rfl, hz, hb⟩ := hrel
  have hz1 : z ≤ 100000000000 := by rw [hz.out]; have := cntN_le HF.out j (by rw [← HN.out]; exact hj); omega
  by_cases hlt : j < n
  ·have hk1 : j < L.length := by rw [← HN.out]; exact hlt
   have hk2 : j < (mkN L n).length := by rw [mkN_len]; exact hk1
   have hR := H1.out.below hb.out
   obtain ⟨g, rfl, _, e0⟩ := hR.at_ hk2
   have ho := (hR.txt _ (rwB_mem hk2)).2.1
   have hsh : rwB (mkN L n) j = ⟨(rwB L j).t, (rwB L j).c, mks (cntN L j) (rwB L j).x.length⟩ := by rw [mkN_at hk1, if_pos hlt]
   rw [hsh] at e0 ho
   simp only [mks_len] at e0 ho
   have hx := HF.out.2 _ (rwB_mem hk1)
   rw [← hz.out] at ho
   have HMK := mkC (held12 (rwB L j).t (rwB L j).x.length (rwB L j).c ((1 + z : Nat) : Int) wr (fun i hi => by
    have h1 := (ho.cell (j := i) (by rw [mks_len]; exact hi)).1
    rw [mks_at hi] at h1
    rw [h1]
    congr 4) (by omega) (by omega) (by omega))
   have HCN : Hid (z + (rwB L j).x.length = cntN L (j + 1)) := by unfold Hid; rw [hz.out]; rfl
   generalize (rwB L j).x.length = xl at e0 HMK HCN hx
   generalize (rwB L j).t = b at e0 HMK
   generalize (rwB L j).c = cb at e0 HMK
   clear ho hsh hR
   go_wp2_with fail
   refine HMK.out.mono ?_
   rintro e w1 ⟨rfl, hw1⟩
   have HB1 : Hid (Below w.heap.size w w1) := by unfold Hid; rw [hw1]; exact hb.out
   clear hw1
   have hneg : decide (((1 + z : Nat) : Int) + (xl : Int) < 0) = false := by simp; omega
   go_wp2
   exact ⟨⟨j + 1, z + xl, by omega, by go_num, (by congr 1; omega), HCN.out, HB1.out⟩, by simp [intOf]; omega⟩
  ·obtain rfl : j = n := by omega
   go_wp2
   go_ret
   exact ⟨ret_int (by have := hz.out; omega), hb.out⟩
theorem mk_belowC {w w' : World} {lo hi g n : Nat} (h : Mk w lo hi g n) (hb : Below w.heap.size w w') : Mk w' lo hi g n := by
 refine ⟨h.g1, h.g2, h.row.below hb, fun i hi => ?_⟩
 obtain ⟨t, tl, hc, r1, r2, r3, r4, r5⟩ := h.txts i hi
 exact ⟨t, tl, by rw [hb.cell (p := ⟨g, i * 4 + 2, none⟩) h.row.lt]; exact hc, r1, r2, r3, r4, r5.below hb⟩
def outN (ds : List Dt) : List (List Int) := match unb ds with
 | none => []
 | some ns => sortU ns
theorem UnP.out {ds : List Dt} {w w' : World} {e : Ending} (h : UnP ds w w' e) : ∃ sp sc, e = .returned (.slice sp (outN ds).length sc) ∧ Bs w' sp (outN ds).length sc (outN ds) ∧ Below w.heap.size w w' ∧ ∀ x ∈ outN ds, Rg x ∧ x.length ≤ 100 := by
 obtain ⟨hb, ⟨hu, rfl⟩ | ⟨ns, v, xs, hu, rfl, ho, hx⟩⟩ := h
 ·have e : outN ds = [] := by unfold outN; rw [hu]
  rw [e]
  exact ⟨none, 0, rfl, ⟨rfl, Nat.le_refl _, by unfold maxLen; omega, fun h => absurd h (Nat.lt_irrefl 0)⟩, hb, fun x hx => by cases hx⟩
 ·have e : outN ds = sortU ns := by unfold outN; rw [hu]
  rw [e, ← hx]
  obtain ⟨p, c, rfl, hbs, _⟩ := ho.bs
  rw [List.length_map]
  refine ⟨p, c, rfl, hbs, hb, fun x hx' => ?_⟩
  obtain ⟨y, hy, rfl⟩ := List.mem_map.1 hx'
  obtain ⟨_, h1, _, h2⟩ := ho.txt y hy
  exact ⟨h1, h2⟩
theorem UnI.out {ds : List Dt} {w w' : World} {e : Ending} (h : UnI ds w w' e) : ∃ gp gc L, e = .returned (.slice gp (outN ds).length gc) ∧ OutI w.heap.size w' (.slice gp (outN ds).length gc) L ∧ L.map Nb.x = outN ds ∧ L.length = (outN ds).length ∧ L.length ≤ 1000000000 ∧ Below w.heap.size w w' := by
 obtain ⟨hb, ⟨hu, rfl⟩ | ⟨ns, v, L, hu, rfl, ho, hx, hl⟩⟩ := h
 ·have e : outN ds = [] := by unfold outN; rw [hu]
  rw [e]
  exact ⟨none, 0, [], rfl, ⟨nil_own _ _ _ _, (fun e he => by cases he), by simp⟩, rfl, rfl, by simp, hb⟩
 ·have e : outN ds = sortU ns := by unfold outN; rw [hu]
  have hlen : L.length = (outN ds).length := by rw [e, ← hx, List.length_map]
  obtain ⟨p, c, hv, _⟩ := ho.form
  rw [hlen] at hv
  subst hv
  exact ⟨p, c, L, rfl, ho, by rw [e]; exact hx, hlen, hl, hb⟩
set_option maxHeartbeats 4000000 in
theorem lawUnbound (p : Option Addr) (n c : Nat) (ds : List Dt) (w : World) (hD : Da w p n c ds) (hT : TbP w) (hE : Eh w) :
  Calls Tryz.prog 3 #[.slice p n c] w fun e w' => e = .returned (.bool true) ∧ Below w.heap.size w w' := by
 have HD := mkC hD
 have HTB := mkC hT
 have HEH := mkC hE
 clear hD hT hE
 obtain ⟨NS, hNS⟩ : ∃ NS, NS = outN ds := ⟨_, rfl⟩
 obtain ⟨m, hm⟩ : ∃ m, m = NS.length := ⟨_, rfl⟩
 have HSP : Hid (∀ p' n' c' w', Da w' p' n' c' ds → Calls Tryz.prog 5 #[.slice p' n' c'] w' fun e w'' => ∃ sp sc, e = .returned (.slice sp m sc) ∧ Bs w'' sp m sc NS ∧ Below w'.heap.size w' w'' ∧ ∀ x ∈ NS, Rg x ∧ x.length ≤ 100) := fun p' n' c' w' h => (specUnbound_c p' n' c' ds w' h).mono (fun e w'' h' => by rw [hm, hNS]; exact h'.out)
 have HIM : Hid ((∀ x ∈ NS, Rg x ∧ x.length ≤ 100) → ∀ p' n' c' w', Below w.heap.size w w' → Da w' p' n' c' ds → Calls Tryz.prog 7 #[.slice p' n' c'] w' fun e w'' => ∃ gp gc L, e = .returned (.slice gp m gc) ∧ OutI w'.heap.size w'' (.slice gp m gc) L ∧ (∀ e ∈ L, Rg e.x) ∧ FewN L ∧ L.map Nb.x = NS ∧ L.length = m ∧ m ≤ 1000000000 ∧ Below w'.heap.size w' w'') := fun hx p' n' c' w' hb h => (implUnbound_c p' n' c' ds w' h (HTB.out.up hb) (HEH.out.below hb) (fun ns hu x hx' => (hx x (by rw [hNS]; unfold outN; rw [hu]; exact hx')).2)).mono (fun e w'' h' => by
  obtain ⟨gp, gc, L, he, h1, h2, h3, h4, h5⟩ := h'.out
  rw [← hNS] at he h1 h2 h3
  rw [← hm] at he h1 h3
  refine ⟨gp, gc, L, he, h1, fun e he' => (hx e.x ?_).1, ⟨h4, fun e he' => (hx e.x ?_).2⟩, h2, h3, by omega, h5⟩
  ·rw [← h2]; exact List.mem_map.2 ⟨e, he', rfl⟩
  ·rw [← h2]; exact List.mem_map.2 ⟨e, he', rfl⟩)
 clear HTB HEH hNS hm
 go_enter Tryz.func3, Tryz.ntmps3
 go_wp2_with fail
 refine (szDatumS5 p n c ds 1048576 _ HD.out (by omega) (by omega)).mono ?_
 rintro e w1 ⟨v, rfl, hv, hb1⟩
 have HB1 := mkC hb1
 have HV := mkC hv
 clear hv hb1
 by_cases hneg : v < 0
 ·go_wp2
  go_ret
  exact ⟨rfl, HB1.out⟩
 have hn : n ≤ 1048576 := by have := (HV.out (by omega)).1; omega
 have HT := mkC (HV.out (by omega)).2
 clear HV
 go_wp2_with fail
 refine (toDatumSR p n c ds _ (HD.out.below HB1.out) hn HT.out).mono ?_
 rintro e w2 ⟨rfl, _, hd2, hb2⟩
 have HB2 := mkC (HB1.out.trans (hb2.mono HB1.out.size))
 have HX2 := mkC hd2
 clear hb2 hd2
 go_wp2_with fail
 refine (HSP.out _ n n _ HX2.out).mono ?_
 rintro e w3 ⟨sp, sc, rfl, hys, hb3, hnx⟩
 have HB3 := mkC (HB2.out.trans (hb3.mono HB2.out.size))
 have HYS := mkC hys
 have HIU := mkC (HIM.out hnx)
 clear hb3 hys HX2 HSP HIM hnx
 go_wp2_with fail
 refine (toDatumSR p n c ds _ (HD.out.below HB3.out) hn HT.out).mono ?_
 rintro e w4 ⟨rfl, hrr, hd4, hb4⟩
 have HB4 := mkC (HB3.out.trans (hb4.mono HB3.out.size))
 have HB34 := mkC hb4
 have HX4 := mkC hd4
 have HMK := mkC (hrr.mk HT.out)
 clear hb4 hd4 hrr
 go_wp2_with fail
 refine (HIU.out _ n n _ HB4.out HX4.out).mono ?_
 rintro e w5 ⟨gp, gc, L, rfl, hgo, hgr, hgf, hgx, hgl, hmb, hb5⟩
 have HB45 := mkC hb5
 have HGO := mkC hgo
 have HGR := mkC hgr
 have HGF := mkC hgf
 have HGX : Hid (∀ W v, OutI w4.heap.size W (.slice gp m gc) L → v = W → Bs v gp m gc NS) := fun W v h e => by
  obtain ⟨p', c', hv, hbs⟩ := h.bs hgr
  rw [hgl, hgx] at hbs
  cases hv
  rw [e]
  exact hbs
 have HGL := mkC hgl
 have HB35 := mkC (HB34.out.trans (hb5.mono HB34.out.size))
 clear hb5 hgo hgr hgf hgx hgl
 go_wp2_with fail
 refine (eqNames_c gp sp m gc sc NS _ (HGX.out _ _ HGO.out rfl) (HYS.out.below HB35.out) hmb).mono ?_
 rintro e w6 ⟨rfl, hb6⟩
 have HB56 := mkC hb6
 clear hb6
 go_wp2_with fail
 have HB6 := mkC ((HB4.out.trans (HB45.out.mono HB4.out.size)).trans (HB56.out.mono (Nat.le_trans HB4.out.size HB45.out.size)))
 refine (toDatumSR p n c ds _ (HD.out.below HB6.out) hn HT.out).mono ?_
 rintro e w7 ⟨rfl, _, hd7, hb7⟩
 have HB67 := mkC hb7
 have HX7 := mkC hd7
 have HB57 := mkC (HB56.out.trans (hb7.mono HB56.out.size))
 have HB47 := mkC (HB45.out.trans (HB57.out.mono HB45.out.size))
 clear hb7 hd7
 go_wp2_with fail
 refine (eqDatumS9 _ _ n n n ds _ (HX4.out.below HB47.out) HX7.out).mono ?_
 rintro e w8 ⟨rfl, hb8⟩
 have HB58 := mkC (HB57.out.trans (hb8.mono HB57.out.size))
 have HB48 := mkC (HB45.out.trans (HB58.out.mono HB45.out.size))
 have HB38 := mkC (HB34.out.trans (HB48.out.mono HB34.out.size))
 clear hb8 HX7 HB67 HB57 HB47 HB56 HB6
 go_wp2_with fail
 refine (mark10 w3.heap.size n n w3.heap.size w4.heap.size _ (mk_belowC HMK.out HB48.out) hn).mono ?_
 rintro e w9 ⟨z, rfl, hz, hw9⟩
 have HW9 := mkC hw9
 have HB39 := mkC (HB38.out.trans (hw9.below (Nat.le_refl _)))
 have HGO9 := mkC ((HGO.out.below HB58.out).within hw9 (Nat.le_refl _))
 have hzd : decide (z < 0) = false := by simp; omega
 clear hw9
 go_wp2_with fail
 refine (eqNames_c gp sp m gc sc NS _ (HGX.out _ _ HGO9.out rfl) (HYS.out.below HB39.out) hmb).mono ?_
 rintro e w10 ⟨rfl, hb10⟩
 have HB910 := mkC hb10
 clear hb10
 have HB310 := mkC (HB39.out.trans (HB910.out.mono HB39.out.size))
 have HGO10 := mkC (HGO9.out.below HB910.out)
 go_wp2_with fail
 refine (markNames_c gp m gc w4.heap.size L _ HGO10.out HGF.out HGL.out.symm).mono ?_
 rintro e w11 ⟨rfl, hh11, hb11⟩
 have HH11 := mkC hh11
 have HB311 := mkC (HB310.out.trans (hb11.mono HB34.out.size))
 have hcn : cntN L m ≤ 100000000000 := by have := cntN_le HGF.out m (by rw [HGL.out]; exact Nat.le_refl _); omega
 clear hh11 hb11
 generalize hcc : cntN L m = cn at hcn
 have HCC := mkC hcc
 clear hcc
 go_wp2_with fail
 refine (heldNames_c gp m gc w4.heap.size L _ HH11.out HGF.out HGL.out.symm).mono ?_
 rw [HCC.out]
 rintro e w12 ⟨rfl, hb12⟩
 have HB312 := mkC (HB311.out.trans (hb12.mono HB311.out.size))
 clear hb12
 have HB12 := mkC (HB3.out.trans (HB312.out.mono HB3.out.size))
 have hq : decide (((1 + cn : Nat) : Int) < 0) = false := by simp; omega
 have hq2 : (((1 + cn : Nat) : Int) != ((1 + cn : Nat) : Int)) = false := by simp
 go_wp2_with fail
 refine (toDatumSR p n c ds _ (HD.out.below HB12.out) hn HT.out).mono ?_
 rintro e w13 ⟨rfl, _, hd13, hb13⟩
 have HX13 := mkC hd13
 have HB13 := mkC (HB12.out.trans (hb13.mono HB12.out.size))
 have HB313 := mkC (HB312.out.trans (hb13.mono HB312.out.size))
 clear hd13 hb13
 go_wp2_with fail
 refine (HIU.out _ n n _ HB13.out HX13.out).mono ?_
 rintro e w14 ⟨hp, hc, L2, rfl, hho, hhr, _, hhx, hhl, _, hb14⟩
 have HHY : Hid (Bs w14 hp m hc NS) := by
  obtain ⟨p', c', hv, hbs⟩ := hho.bs hhr
  rw [hhl, hhx] at hbs
  cases hv
  exact hbs
 have HB14 := mkC (HB13.out.trans (hb14.mono HB13.out.size))
 have HB314 := mkC (HB313.out.trans (hb14.mono HB313.out.size))
 clear hho hhr hhx hhl hb14
 go_wp2_with fail
 refine (eqNames_c hp sp m hc sc NS _ HHY.out (HYS.out.below HB314.out) hmb).mono ?_
 rintro e w15 ⟨rfl, hb15⟩
 have HB15 := mkC (HB14.out.trans (hb15.mono HB14.out.size))
 clear hb15
 go_wp2
 go_ret
 exact ⟨rfl, HB15.out⟩
end Cp
end Go.Proofs.YtnnpfoilojicjaaGreatDoor
