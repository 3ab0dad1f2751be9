import Derived.Test.YtpfodinoeoejcaaZ4
import Derived.Deep.RegionHeld
namespace Go.Proofs.Ytpfodinoeoejcaa
open Go.RowKit Ch2 Go.Maps
theorem Hid.mk' {p : Prop} (h : p) : Hid p := h
theorem grown_kp {x y k : Nat} {w w' : World} (h : w.grownBy w' (some k)) (hk : k = x ∨ k = y) : KpZ x y w w' :=
  ⟨h.os, h.tape, h.output, h.size, fun i hi h1 h2 => h.block i hi (fun e => by
    have := Option.some.inj e
    rcases hk with rfl | rfl
    · exact h1 this
    · exact h2 this)⟩
theorem flds_okZ {ws : List Int} {T p : Nat} (hG : GoodH ws T) (hp : St ws T p) : p + 1 + cnt (ws.getD p 0) ≤ ws.length ∧ headB (ws.getD p 0) = true ∧ ∀ i, i < (flds ws p).length → WordOk ws T ((flds ws p).getD i 0) := by
  have ht : ((T : Nat) : Int).toNat = T := by simp
  have hp' : St ws ((T : Nat) : Int).toNat p := by rw [ht]; exact hp
  have h1 := hG.heads p hp'
  rw [ht] at h1
  have h2 := hG.hi
  have hl : p + 1 + cnt (ws.getD p 0) ≤ ws.length := by have := h1.2; omega
  refine ⟨hl, h1.1, fun i hi => ?_⟩
  have hfl : (flds ws p).length = cnt (ws.getD p 0) := fld_len hl
  rw [hfl] at hi
  rw [flds_getD hl hi]
  have := hG.fields hp' (i := p + 1 + i) (by omega) (by omega)
  rw [ht] at this
  exact this
/-- The cells that the last statement reads. -/
def HdS (hb gb sb b1 o1 b2 o2 n1 n2 c1 c2 T1 T2 : Nat) (f : Value) (w' : World) : Prop := w'.cell? ⟨hb, 0, none⟩ = some (.slice (some ⟨b1, o1, none⟩) n1 c1) ∧ w'.cell? ⟨hb, 1, none⟩ = some (.int .i64 (T1 : Int)) ∧ w'.cell? ⟨gb, 0, none⟩ = some (.slice (some ⟨b2, o2, none⟩) n2 c2) ∧ w'.cell? ⟨gb, 1, none⟩ = some (.int .i64 (T2 : Int)) ∧ w'.cell? ⟨sb, 0, none⟩ = some f
theorem swap_app (L : List (Nat × Nat)) (p q : Nat) : (L ++ [(p, q)]).map Prod.swap = L.map Prod.swap ++ [(q, p)] := by simp
set_option maxRecDepth 20000 in
set_option maxHeartbeats 4000000 in
/-- Both objects are met for the first time. -/
theorem same_new (z : Vz) (hz : z.Ok) (d : Nat) (H : SameAt z d) (x y : Int) (p q : Nat) (L : List (Nat × Nat)) (w : World) (hS : Sm z L w) (hx : x % 4 = 1) (hy : y % 4 = 1) (hp : x / 4 = p) (hq : y / 4 = q) (sp : St z.ws z.T p) (sq' : St z.vs z.T' q) (hn : ∀ q, (p, q) ∉ L) (hn2 : ∀ p, (p, q) ∉ L) (hd : z.T - (L.length + 1) < d) :
    Calls Try.prog 60 (#[.int .i64 x, .int .i64 y] ++ z.caps) w (fun e w' => SmP z L (fun R => Rl R x y) w w' e) := by
  have HS : Hid (Sm z L w) := hS
  have HSA : Hid (SameAt z d) := H
  have HZ : Hid z.Ok := hz
  have HX : Hid (x % 4 = 1 ∧ y % 4 = 1 ∧ (x / 4).toNat = p ∧ (y / 4).toNat = q) := ⟨hx, hy, by omega, by omega⟩
  have ha : (#[.int .i64 x, .int .i64 y] : Array Value) ++ z.caps = #[.int .i64 x, .int .i64 y, .pointer (some ⟨z.rb, 0, none⟩), .pointer (some ⟨z.bb, 0, none⟩), .pointer (some ⟨z.hb, 0, none⟩), .pointer (some ⟨z.gb, 0, none⟩), .pointer (some ⟨z.sb, 0, none⟩)] := rfl
  rw [ha]
  clear ha
  have hTl : z.T ≤ z.ws.length := by have := hz.gw.hi; omega
  have hTl' : z.T' ≤ z.vs.length := by have := hz.gv.hi; omega
  have hsz := hz.gw.size
  have hsz' := hz.gv.size
  have hpT : p < z.T := sp.1
  have hqT : q < z.T' := sq'.1
  have hlT := (hS.pb.add hn hn2 hpT).len
  rw [List.length_append, List.length_singleton] at hlT
  obtain ⟨D, hD, hM⟩ := hS.m1
  obtain ⟨E, hE, hN⟩ := hS.m2
  have HD : Hid (w.ownsMap Try.prog 3 (plainElem Try.prog 3) z.mb L.length D) := hD
  have HE : Hid (w.ownsMap Try.prog 3 (plainElem Try.prog 3) z.nb L.length E) := hE
  have hn' : ∀ p', (q, p') ∉ L.map Prod.swap := fun p' hm => by
    obtain ⟨a, h1, h2⟩ := List.mem_map.1 hm
    obtain ⟨a1, a2⟩ := a
    simp only [Prod.swap, Prod.mk.injEq] at h2
    obtain ⟨rfl, rfl⟩ := h2
    exact hn2 _ h1
  have HH : Hid (Maps.has D (.int .i64 (p : Int)) = false) := hM.no p hn
  have HJ : Hid (Maps.has E (.int .i64 (q : Int)) = false) := hN.no q hn'
  have hkp : keyOf Try.prog 3 (.int .i64 (p : Int)) = some (.int .i64 (p : Int)) := keyOf_int_mk Try.underlying3 (wfZ (by omega) (by omega))
  have hkq : keyOf Try.prog 3 (.int .i64 (q : Int)) = some (.int .i64 (q : Int)) := keyOf_int_mk Try.underlying3 (wfZ (by omega) (by omega))
  have HKEY : Hid (keyOf Try.prog 3 (.int .i64 (p : Int)) = some (.int .i64 (p : Int))) := hkp
  have HKEQ : Hid (keyOf Try.prog 3 (.int .i64 (q : Int)) = some (.int .i64 (q : Int))) := hkq
  have hvp : plainElem (H := Unit) Try.prog 3 (.int .i64 (p : Int)) = some (.lit (.int .i64 (p : Int)), []) := plainElem_int Try.underlying3 (wfZ (by omega) (by omega))
  have hvq : plainElem (H := Unit) Try.prog 3 (.int .i64 (q : Int)) = some (.lit (.int .i64 (q : Int)), []) := plainElem_int Try.underlying3 (wfZ (by omega) (by omega))
  have hmx : L.length < maxLen := by unfold maxLen; omega
  obtain ⟨l1, l2, l3, l4, l5⟩ := hS.lr
  have PB : Hid (Pb z.T (L ++ [(p, q)])) := hS.pb.add hn hn2 hpT
  have hD0 : w.drew.ownsMap Try.prog 3 (plainElem Try.prog 3) z.mb L.length D := ownsMap_blk hD rfl
  have hE0 : w.drew.ownsMap Try.prog 3 (plainElem Try.prog 3) z.nb L.length E := ownsMap_blk hE rfl
  obtain ⟨w1, hr1, ho1, hg1⟩ := hD0.update keyZ Try.underlying80 hmx hkp hvq
  obtain ⟨w2, hr2, ho2, hg2⟩ := (ownsMap_blk hE0 (hg1.block z.nb l5 (fun e => hz.mn (Option.some.inj e).symm))).update keyZ Try.underlying80 hmx hkq hvp
  obtain ⟨v1, hs1, po1, pg1⟩ := hE0.update keyZ Try.underlying80 hmx hkq hvp
  obtain ⟨v2, hs2, po2, pg2⟩ := (ownsMap_blk hD0 (pg1.block z.mb l4 (fun e => hz.mn (Option.some.inj e)))).update keyZ Try.underlying80 hmx hkp hvq
  have k0 : KpZ z.mb z.nb w w.drew := KpZ.of_below (below_drew (Below.refl _ _))
  have K1 : Hid (KpZ z.mb z.nb w w2) := k0.trans ((grown_kp hg1 (Or.inl rfl)).trans (grown_kp hg2 (Or.inr rfl)))
  have K2 : Hid (KpZ z.mb z.nb w v2) := k0.trans ((grown_kp pg1 (Or.inr rfl)).trans (grown_kp pg2 (Or.inl rfl)))
  have F1 : Hid (Sm z (L ++ [(p, q)]) w2) := hS.keep hz K1.out ⟨_, by rw [List.length_append, List.length_singleton]; exact ownsMap_blk ho1 (hg2.block z.mb (Nat.lt_of_lt_of_le l4 hg1.size) (fun e => hz.mn (Option.some.inj e))), hM.put p q hn⟩ ⟨_, by rw [List.length_append, List.length_singleton]; exact ho2, by rw [swap_app]; exact hN.put q p hn'⟩ PB.out
  have F2 : Hid (Sm z (L ++ [(p, q)]) v2) := hS.keep hz K2.out ⟨_, by rw [List.length_append, List.length_singleton]; exact po2, hM.put p q hn⟩ ⟨_, by rw [List.length_append, List.length_singleton]; exact ownsMap_blk po1 (pg2.block z.nb (Nat.lt_of_lt_of_le l5 pg1.size) (fun e => hz.mn (Option.some.inj e).symm)), by rw [swap_app]; exact hN.put q p hn'⟩ PB.out
  have cr := hS.cr
  have cb := hS.cb
  have cb1 : w1.cell? ⟨z.bb, 0, none⟩ = some (.map (some z.nb)) := by
    rw [World.cell?_of_block (w := w.drew) (hg1.block z.bb l2 (fun e => hz.b.1 (Option.some.inj e)))]; exact cb
  have cr1 : v1.cell? ⟨z.rb, 0, none⟩ = some (.map (some z.mb)) := by
    rw [World.cell?_of_block (w := w.drew) (pg1.block z.rb l1 (fun e => hz.r.2 (Option.some.inj e)))]; exact cr
  have HDD : Hid (z.T - (L ++ [(p, q)]).length < d) := by unfold Hid; rw [List.length_append, List.length_singleton]; exact hd
  have HST : Hid (St z.ws z.T p ∧ St z.vs z.T' q) := ⟨sp, sq'⟩
  clear hS hD hE hM hN hD0 hE0 ho1 hg1 ho2 hg2 po1 pg1 po2 pg2 hkp hkq hvp hvq k0 hn hn2 hn' H hz hd sp sq'
  go_enter Try.func60, Try.ntmps60
  go_wp2_with (first
    | (go_at_call 61; refine (tagOf_c x _).mono ?_; rintro e w' ⟨rfl, hwx⟩; have hwy := hwx.symm; clear hwx; subst hwy; rw [hx])
    | (go_at_call 61; refine (tagOf_c y _).mono ?_; rintro e w' ⟨rfl, hwx⟩; have hwy := hwx.symm; clear hwx; subst hwy; rw [hy])
    | (go_at_call 62; refine (numberOf_c x _).mono ?_; rintro e w' ⟨rfl, hwx⟩; have hwy := hwx.symm; clear hwx; subst hwy; rw [hp])
    | (go_at_call 62; refine (numberOf_c y _).mono ?_; rintro e w' ⟨rfl, hwx⟩; have hwy := hwx.symm; clear hwx; subst hwy; rw [hq])
    | (at_lookup; refine wpList_lookup_own_ok_int _ rfl _ _ 80 rfl 3 3 .i64 keyZ Try.underlying80 Try.underlying3 (zeroZ _) z.mb L.length D rfl HD.out _ _ rfl HKEY.out ?_; intro c hat hwc; rw [HH.out]; clear hat hwc)
    | (at_lookup; refine wpList_lookup_own_ok_int _ rfl _ _ 80 rfl 3 3 .i64 keyZ Try.underlying80 Try.underlying3 (zeroZ _) z.nb L.length E rfl HE.out _ _ rfl HKEQ.out ?_; intro c2 hat hwc; rw [HJ.out]; clear hat hwc))
  go_cut [9] from 48 (fun v wc => v = .bool false ∧ Sm z (L ++ [(p, q)]) wc ∧ KpZ z.mb z.nb w wc)
  case first =>
    go_region
    all_goals go_wp2
    all_goals go_meet
    all_goals first | exact ⟨rfl, F1.out, K1.out⟩ | exact ⟨rfl, F2.out, K2.out⟩
  case rest =>
    obtain ⟨rfl, hSc, hKc⟩ := hcut
    have HSc : Hid (Sm z (L ++ [(p, q)]) wc) := hSc
    have HKc : Hid (KpZ z.mb z.nb w wc) := hKc
    clear hSc hKc hr1 hr2 hs1 hs2 K1 K2 F1 F2 cr cb cb1 cr1 HD HE HH HJ HKEY HKEQ hmx
    have ho1 := flds_okZ HZ.out.gw HST.out.1
    have ho2 := flds_okZ HZ.out.gv HST.out.2
    have hl1 := HSc.out.ih.len
    have hl2 := HSc.out.ig.len
    obtain ⟨b1, o1, e1, hb1, g1⟩ := HSc.out.ih.cells (by omega)
    obtain ⟨b2, o2, e2, hb2, g2⟩ := HSc.out.ig.cells (by omega)
    have q1 := g1 p (by omega)
    have q2 := g2 q (by omega)
    have c0 := HSc.out.bh.c0
    have c1 := HSc.out.bh.c1
    have d0 := HSc.out.bg.c0
    have d1 := HSc.out.bg.c1
    have cs := HSc.out.cs
    have hh1 := head_cnt ho1.2.1
    have hh2 := head_cnt ho2.2.1
    have HEP : Hid (z.p = some ⟨b1, o1, none⟩) := e1
    have HEQ : Hid (z.p' = some ⟨b2, o2, none⟩) := e2
    rw [e1] at c0
    rw [e2] at d0
    obtain ⟨n1, hn1⟩ : ∃ n1, z.n = n1 := ⟨_, rfl⟩
    obtain ⟨n2, hn2⟩ : ∃ n2, z.n' = n2 := ⟨_, rfl⟩
    have f1 : (p : Int) < (n1 : Int) := by omega
    have f2 : (q : Int) < (n2 : Int) := by omega
    rw [hn1] at c0
    rw [hn2] at d0
    have HN1 : Hid (z.n = n1) := hn1
    have HN2 : Hid (z.n' = n2) := hn2
    obtain ⟨k1, hk1⟩ : ∃ k, z.ws.getD p 0 = k := ⟨_, rfl⟩
    obtain ⟨k2, hk2⟩ : ∃ k, z.vs.getD q 0 = k := ⟨_, rfl⟩
    rw [hk1] at q1 hh1
    rw [hk2] at q2 hh2
    have HK1 : Hid (z.ws.getD p 0 = k1) := hk1
    have HK2 : Hid (z.vs.getD q 0 = k2) := hk2
    have HO1 : Hid (p + 1 + cnt (z.ws.getD p 0) ≤ z.ws.length ∧ q + 1 + cnt (z.vs.getD q 0) ≤ z.vs.length) := ⟨ho1.1, ho2.1⟩
    have HW1 : Hid ((∀ i, i < (flds z.ws p).length → WordOk z.ws z.T ((flds z.ws p).getD i 0)) ∧ ∀ i, i < (flds z.vs q).length → WordOk z.vs z.T' ((flds z.vs q).getD i 0)) := ⟨ho1.2.2, ho2.2.2⟩
    have HL : Hid (z.ws.length = n1 ∧ z.vs.length = n2) := ⟨by omega, by omega⟩
    obtain ⟨hh10, hh11, hh12, hh13⟩ := hh1
    obtain ⟨hh20, hh21, hh22, hh23⟩ := hh2
    have hn1b : n1 ≤ 20000 := by have := HL.out.1; omega
    have hn2b : n2 ≤ 20000 := by have := HL.out.2; omega
    clear ho1 ho2 hl1 hl2 g1 g2 hk1 hk2 hn1 hn2 e1 e2
    by_cases hk : k1 = k2
    · subst hk
      obtain ⟨cq, hcq⟩ : ∃ cq, cnt k1 = cq := ⟨_, rfl⟩
      rw [hcq] at hh12 hh13
      have HM1 : Hid (z.ws.getD p 0 / 4 = (cq : Int)) := by unfold Hid; rw [HK1.out]; omega
      have HM2 : Hid (z.vs.getD q 0 / 4 = (cq : Int)) := by unfold Hid; rw [HK2.out]; omega
      have HCQ : Hid (cnt (z.ws.getD p 0) = cq ∧ cnt (z.vs.getD q 0) = cq) := ⟨by rw [HK1.out]; exact hcq, by rw [HK2.out]; exact hcq⟩
      have hpn : p + 1 + cq ≤ n1 := by have := HO1.out.1; have := HCQ.out.1; have := HL.out.1; omega
      have hqn : q + 1 + cq ≤ n2 := by have := HO1.out.2; have := HCQ.out.2; have := HL.out.2; omega
      have HIh : Hid (Is wc (some ⟨b1, o1, none⟩) n1 z.c z.ws) := by have := HSc.out.ih; rw [HEP.out, HN1.out] at this; exact this
      have HIg : Hid (Is wc (some ⟨b2, o2, none⟩) n2 z.c' z.vs) := by have := HSc.out.ig; rw [HEQ.out, HN2.out] at this; exact this
      have HB1 : Hid (b1 ≠ z.mb ∧ b1 ≠ z.nb) := HZ.out.p _ (by rw [HN1.out]; omega) HEP.out
      have HB2 : Hid (b2 ≠ z.mb ∧ b2 ≠ z.nb) := HZ.out.p' _ (by rw [HN2.out]; omega) HEQ.out
      have HFL : Hid (fld z.ws p cq = flds z.ws p ∧ fld z.vs q cq = flds z.vs q) := by unfold flds; rw [HCQ.out.1, HCQ.out.2]; exact ⟨rfl, rfl⟩
      have hk0 : (k1 == k1) = true := by simp
      clear hcq
      have FIN : Hid (∀ (b : Bool) (L' : List (Nat × Nat)) (wx w' : World), Sm z L' w' → Cmp z.ws z.vs (L ++ [(p, q)]) L' b (Rls (flds z.ws p) (flds z.vs q)) → KpZ z.mb z.nb wx w' → Below wc.heap.size wc wx → (L ++ [(p, q)]).length ≤ L'.length → SmP z L (fun R => Rl R x y) w w' (.returned (.bool b))) := by
        intro b L' wx w' h1 h2 h3 h4 h5
        refine ⟨b, L', rfl, h1, Cmp.fields HX.out.1 HX.out.2.1 HX.out.2.2.1 HX.out.2.2.2 (by rw [HK1.out, HK2.out]) HO1.out.1 HO1.out.2 h2, HKc.out.trans ((KpZ.of_below h4).trans h3), ?_⟩
        rw [List.length_append, List.length_singleton] at h5; omega
      have SK : Hid (∀ w', (∀ k, k < wc.heap.size → k ≠ z.mb → k ≠ z.nb → w'.heap[k]? = wc.heap[k]?) → w'.cell? ⟨b1, o1 + p, none⟩ = some (.int .i64 k1) ∧ w'.cell? ⟨b2, o2 + q, none⟩ = some (.int .i64 k1) ∧ HdS z.hb z.gb z.sb b1 o1 b2 o2 n1 n2 z.c z.c' z.T z.T' (.func (.func 60) #[] z.caps) w') := by
        intro w' hw
        have zo := HZ.out
        refine ⟨?_, ?_, ?_, ?_, ?_, ?_, ?_⟩
        · rw [World.cell?_of_block (w := wc) (hw b1 hb1 HB1.out.1 HB1.out.2)]; exact q1
        · rw [World.cell?_of_block (w := wc) (hw b2 hb2 HB2.out.1 HB2.out.2)]; exact q2
        · rw [World.cell?_of_block (w := wc) (hw z.hb HSc.out.bh.lt zo.h.1 zo.h.2)]; exact c0
        · rw [World.cell?_of_block (w := wc) (hw z.hb HSc.out.bh.lt zo.h.1 zo.h.2)]; exact c1
        · rw [World.cell?_of_block (w := wc) (hw z.gb HSc.out.bg.lt zo.g.1 zo.g.2)]; exact d0
        · rw [World.cell?_of_block (w := wc) (hw z.gb HSc.out.bg.lt zo.g.1 zo.g.2)]; exact d1
        · rw [World.cell?_of_block (w := wc) (hw z.sb HSc.out.lr.2.2.1 zo.s.1 zo.s.2)]; exact cs
      have SK0 := Hid.mk' (SK.out wc.drew (fun _ _ _ _ => rfl))
      clear c0 c1 d0 d1 cs q1 q2
      go_wp2_with fail
      go_region_held (fun w' => w'.cell? ⟨b1, o1 + p, none⟩ = some (.int .i64 k1) ∧ w'.cell? ⟨b2, o2 + q, none⟩ = some (.int .i64 k1) ∧ w'.cell? ⟨z.hb, 0, none⟩ = some (.slice (some ⟨b1, o1, none⟩) n1 z.c) ∧ w'.cell? ⟨z.hb, 1, none⟩ = some (.int .i64 (z.T : Int)) ∧ w'.cell? ⟨z.gb, 0, none⟩ = some (.slice (some ⟨b2, o2, none⟩) n2 z.c') ∧ w'.cell? ⟨z.gb, 1, none⟩ = some (.int .i64 (z.T' : Int)) ∧ w'.cell? ⟨z.sb, 0, none⟩ = some (.func (.func 60) #[] z.caps)) (first | exact SK5.out | exact SKg.out | exact SKh.out | exact SK0.out) (first
        | (go_at_call 59; (fail_if_success (have hno := HBh)); refine (fieldsAt_c (some ⟨b1, o1, none⟩) n1 z.c p cq z.T z.ws _ ?y1 hpn (by omega) HM1.out hh12).mono ?_; (case y1 => exact HIh.out.below (below_drew (Below.refl _ _))); rintro e wh ⟨hq0, hc0, rfl, hf1, hf2, hf3, hf4⟩; have HBh : Hid (Below wc.heap.size wc wh) := (below_drew (Below.refl _ _)).trans hf4; have HFh : Hid (Is wh hq0 cq hc0 (fld z.ws p cq)) := (HIh.out.sub hpn hf1 hf2 hf3).below HBh.out; have HBgh := Hid.mk' hf4; have HQh : Hid (∀ a, 0 < cq → hq0 = some a → a.block = b1) := (fun a h0 e => by have := hf3 b1 o1 rfl h0; rw [this] at e; cases e; rfl); have HSh : Hid (Sm z (L ++ [(p, q)]) wh) := HSc.out.below HZ.out HBh.out; have SKh := Hid.mk' (SK.out wh (fun k hk _ _ => HBh.out.block k hk)); clear hf1 hf2 hf3 hf4)
        | (go_at_call 59; refine (fieldsAt_c (some ⟨b2, o2, none⟩) n2 z.c' q cq z.T' z.vs _ ?y2 hqn (by omega) HM2.out hh12).mono ?_; (case y2 => exact HIg.out.below HBh.out); rintro e wg ⟨gq0, gc0, rfl, hf1, hf2, hf3, hf4⟩; have HBg : Hid (Below wc.heap.size wc wg) := HBh.out.trans (hf4.mono HBh.out.size); have HFg : Hid (Is wg gq0 cq gc0 (fld z.vs q cq)) := (HIg.out.sub hqn hf1 hf2 hf3).below HBg.out; have HBhg := Hid.mk' hf4; have HQg : Hid (∀ a, 0 < cq → gq0 = some a → a.block = b2) := (fun a h0 e => by have := hf3 b2 o2 rfl h0; rw [this] at e; cases e; rfl); have HSg : Hid (Sm z (L ++ [(p, q)]) wg) := HSc.out.below HZ.out HBg.out; have SKg := Hid.mk' (SK.out wg (fun k hk _ _ => HBg.out.block k hk)); clear hf1 hf2 hf3 hf4)
        | (go_at_call 63; refine (equalFunc_c z d HSA.out hq0 cq hc0 (fld z.ws p cq) gq0 cq gc0 (fld z.vs q cq) (L ++ [(p, q)]) _ ?z1 ?z2 ?z3 ?z4 ?z5 ?z6 ?z7 HDD.out).mono ?_; (case z1 => exact HSg.out); (case z2 => exact (HFh.out.below HBhg.out)); (case z3 => exact HFg.out); (case z4 => exact (fun a h0 e => by rw [HQh.out a h0 e]; exact HB1.out)); (case z5 => exact (fun a h0 e => by rw [HQg.out a h0 e]; exact HB2.out)); (case z6 => rw [HFL.out.1]; exact HW1.out.1); (case z7 => rw [HFL.out.2]; exact HW1.out.2); rintro e w5 ⟨b, L', rfl, hm5, hc5, hk5, hl5⟩; rw [HFL.out.1, HFL.out.2] at hc5; have HFN : Hid (SmP z L (fun R => Rl R x y) w w5 (.returned (.bool b))) := FIN.out b L' wg w5 hm5 hc5 hk5 HBg.out hl5; have SK5 := Hid.mk' (SK.out w5 (fun k hk h1 h2 => (hk5.block k (Nat.lt_of_lt_of_le hk HBg.out.size) h1 h2).trans (HBg.out.block k hk))); clear hm5 hc5 hk5 hl5))
      all_goals go_wp2_with fail
      all_goals go_ret
      all_goals exact HFN.out
    · have hd : (k1 == k2) = false := by simpa using hk
      have HC : Hid (Cmp z.ws z.vs L (L ++ [(p, q)]) false (fun R => Rl R x y)) := Cmp.head HX.out.1 HX.out.2.2.1 HX.out.2.2.2 (by rw [HK1.out, HK2.out]; exact hk)
      go_wp2_with fail
      go_region
      all_goals go_wp2_with fail
      all_goals go_ret
      all_goals exact ⟨false, _, rfl, HSc.out.below HZ.out (below_drew (Below.refl _ _)), HC.out, HKc.out.trans (KpZ.of_below (below_drew (Below.refl _ _))), by simp⟩
theorem ptr_of {ws : List Int} {T : Nat} {x : Int} (h : WordOk ws T x) (h1 : x % 4 = 1) : 0 ≤ x ∧ St ws T (x / 4).toNat := by
  rcases h with h' | h' | h' | h' <;> first | omega | exact ⟨h'.2.1, h'.2.2⟩
/-- The comparing function. -/
theorem same_c (z : Vz) (hz : z.Ok) : ∀ d, SameAt z d
  | 0 => fun x y L w _ _ _ _ _ _ _ h => absurd h (Nat.not_lt_zero _)
  | d + 1 => fun x y L w hS ox oy _ _ _ _ hd => by
    by_cases hc : x % 4 = 1 ∧ y % 4 = 1
    · obtain ⟨hx, hy⟩ := hc
      obtain ⟨x0, sx⟩ := ptr_of ox hx
      obtain ⟨y0, sy⟩ := ptr_of oy hy
      obtain ⟨p, hp⟩ : ∃ p : Nat, x / 4 = p := ⟨(x / 4).toNat, by omega⟩
      obtain ⟨q, hq⟩ : ∃ q : Nat, y / 4 = q := ⟨(y / 4).toNat, by omega⟩
      rw [show (x / 4).toNat = p by omega] at sx
      rw [show (y / 4).toNat = q by omega] at sy
      have h1 := sx.1
      have h2 := sy.1
      have h3 := hz.gw.size
      have h4 := hz.gv.size
      have h5 := hz.gw.hi
      have h6 := hz.gv.hi
      by_cases hk : ∃ k, (p, k) ∈ L
      · obtain ⟨k, hk⟩ := hk
        exact same_known z x y p q k L w hS hx hy hp hq (by omega) hk
      · have hn : ∀ q, (p, q) ∉ L := fun q h => hk ⟨q, h⟩
        by_cases hk2 : ∃ k, (k, q) ∈ L
        · obtain ⟨k, hk2⟩ := hk2
          exact same_taken z x y p q k L w hS hx hy hp hq (by omega) (by omega) hn hk2
        · have hn2 : ∀ p, (p, q) ∉ L := fun p h => hk2 ⟨p, h⟩
          have hl := (hS.pb.add hn hn2 h1).len
          rw [List.length_append, List.length_singleton] at hl
          exact same_new z hz d (same_c z hz d) x y p q L w hS hx hy hp hq sx sy hn hn2 (by omega)
    · exact same_plain z x y L w hS hc
end Go.Proofs.Ytpfodinoeoejcaa
