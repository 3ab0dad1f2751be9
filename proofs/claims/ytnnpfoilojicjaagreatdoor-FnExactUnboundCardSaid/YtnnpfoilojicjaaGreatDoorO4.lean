import Derived.Test.YtnnpfoilojicjaaGreatDoorO1
import Derived.Test.YtnnpfoilojicjaaGreatDoorJk
namespace Go.Proofs.YtnnpfoilojicjaaGreatDoor
open Go.RowKit Ch1
namespace Cp
theorem words_rg (pb : Nat) : ∀ p ∈ wordsM pb, Rg p.1 := by
 intro p hp
 simp only [wordsM, List.mem_cons, List.not_mem_nil, or_false] at hp
 rcases hp with rfl | rfl | rfl | rfl | rfl | rfl | rfl | rfl | rfl | rfl <;> (unfold Rg; simp only; decide)
theorem words_none {pb : Nat} {x : List Int} (h1 : x ≠ wQuote) (h2 : x ≠ wIf) (h3 : x ≠ wLambda) (h4 : x ≠ wLet) (h5 : x ≠ wLetrec) (h6 : x ≠ wSet) (h7 : x ≠ wBegin) (h8 : x ≠ wAnd) (h9 : x ≠ wOr) (h10 : x ≠ wDefine) : findS (wordsM pb) x = none := by
 unfold findS
 rw [Option.map_eq_none_iff, List.find?_eq_none]
 intro p hp
 simp only [wordsM, List.mem_cons, List.not_mem_nil, or_false] at hp
 rcases hp with rfl | rfl | rfl | rfl | rfl | rfl | rfl | rfl | rfl | rfl <;> simp [Ne.symm h1, Ne.symm h2, Ne.symm h3, Ne.symm h4, Ne.symm h5, Ne.symm h6, Ne.symm h7, Ne.symm h8, Ne.symm h9, Ne.symm h10]
theorem lstQ_call {gl : List (List Int)} {k : Nat} {F : List (List Int) → List Dt → Option (List (List Int))} {sc : List (List Int)} {h : List Dt} {rest : List (List Dt)} (hh : isSy h = false ∨ bnd gl sc (nm h) = true) : lstR gl k F sc (h :: rest) = allO (F sc) (h :: rest) := by
 simp only [lstR]
 rw [if_neg]
 rintro ⟨h1, h2⟩
 rcases hh with hh | hh
 ·rw [h1] at hh; cases hh
 ·rw [h2] at hh; cases hh
theorem lstQ_spc {gl : List (List Int)} {k : Nat} {F : List (List Int) → List Dt → Option (List (List Int))} {sc : List (List Int)} {h : List Dt} {rest : List (List Dt)} (h1 : isSy h = true) (h2 : bnd gl sc (nm h) = false) : lstR gl k F sc (h :: rest) = spcR gl k F sc h rest := by
 simp only [lstR]
 rw [if_pos ⟨h1, h2⟩]
theorem spcQ {gl : List (List Int)} {k : Nat} {F : List (List Int) → List Dt → Option (List (List Int))} {sc : List (List Int)} {h : List Dt} {rest : List (List Dt)} (hp : primN (nm h) = none) : spcR gl k F sc h rest = if nm h = wQuote then (if rest.length = 1 then some [] else none)
  else if nm h = wIf then (if rest.length = 2 ∨ rest.length = 3 then allO (F sc) rest else none)
  else if nm h = wLambda then lamR k F sc rest
  else if nm h = wLet then letR k F sc false rest
  else if nm h = wLetrec then letR k F sc true rest
  else if nm h = wSet then setR gl F sc rest
  else if nm h = wBegin then (if rest = [] then none else allO (F sc) rest)
  else if nm h = wAnd then allO (F sc) rest
  else if nm h = wOr then allO (F sc) rest
  else if nm h = wDefine then none
  else allO (F sc) (h :: rest) := by
 unfold spcR
 rw [hp]
theorem spcQ_prim {gl : List (List Int)} {k : Nat} {F : List (List Int) → List Dt → Option (List (List Int))} {sc : List (List Int)} {h : List Dt} {rest : List (List Dt)} {ar : Nat} (hp : primN (nm h) = some ar) : spcR gl k F sc h rest = if rest.length = ar then allO (F sc) rest else none := by
 unfold spcR
 rw [hp]
set_option maxRecDepth 20000 in
set_option maxHeartbeats 4000000 in
theorem list_c2 {c : Cx} {db dof k : Nat} (hx : PgX c db dof) (ht : TbP c.w0) (hE : ExpC c db dof k) (S : Nat → Prop) (s : Sg) (N : Nat) (w : World) (p : Option Addr) (n cc : Nat) (es : List Pe) (h : PgI c N w s) (hes : EsR c db dof S k w p n cc es) (hn3 : n ≤ 3000) (hN : N + sumB k (Cp.at_ c (es.map (·.1))) ≤ 1000000000) :
  Calls Tryz.prog 160 #[.pointer (some ⟨s.pb, 0, none⟩), .slice p n cc] w fun r w' => RdQ c (N + sumB k (Cp.at_ c (es.map (·.1)))) s (lstR (s.gls.map (·.x)) k (rd (s.gls.map (·.x)) k) (s.sc.map (·.x)) (Cp.at_ c (es.map (·.1)))) w w' r (fun u _ => MkV u) := by
 cases es with
 | nil =>
  obtain rfl : n = 0 := hes.1.symm
  have HI := mkC h
  clear h hes hE hN
  go_enter Tryz.func160, Tryz.ntmps160
  go_wp2_with fail
  refine (needGrammar_f w).mono ?_
  rintro r w1 ⟨rfl, hw1⟩
  have hw1' := hw1.symm
  clear hw1
  subst hw1'
  exact ⟨rfl, rfl, HI.out.bel⟩
 | cons e es =>
  obtain ⟨m, rfl⟩ : ∃ m, n = m + 1 := ⟨es.length, by have := hes.1; simpa using this.symm⟩
  obtain ⟨g, o, cur, rfl, hg, hcl⟩ := hes.2.2.1 (by omega)
  obtain ⟨y0, y1⟩ := hcl 0 (by simp)
  simp only [List.getElem_cons_zero, Nat.zero_mul, Nat.add_zero] at y0 y1
  have hgl := (Array.getElem?_eq_some_iff.1 hg).1
  have hncc := hes.2.1
  obtain ⟨d, rfl⟩ : ∃ d, cc = d + 1 := ⟨cc - 1, by omega⟩
  have hpt := hes.2.2.2 e (List.mem_cons_self ..)
  obtain ⟨s0, n0, c0, hd0⟩ : ∃ so sn sc, e.2.1 = .slice (some ⟨db, so, none⟩) sn sc := ⟨_, _, _, hpt.ok.1⟩
  obtain ⟨q0, m0, d0, he0⟩ := hpt.row
  rw [hd0] at y0
  rw [he0] at y1
  have hrg := nm_rg hx hpt
  have hat : Cp.at_ c ((e :: es).map (·.1)) = c.ds.drop e.1 :: Cp.at_ c (es.map (·.1)) := rfl
  have hsum : sumB k (c.ds.drop e.1 :: Cp.at_ c (es.map (·.1))) = bud k (c.ds.drop e.1) + 10 + sumB k (Cp.at_ c (es.map (·.1))) := rfl
  have hbel : ∀ w1, Below w.heap.size w w1 → Below c.w0.heap.size c.w0 w1 := fun w1 hb => h.bel.trans (hb.mono h.bel.size)
  have hLi : ∀ mq, meanV s (nm (c.ds.drop e.1)) = .pointer mq → LiH c s w db g o s0 n0 c0 q0 m0 d0 (strOfNums (nm (c.ds.drop e.1))) mq := fun mq hmq => by
   refine ⟨hbel, y0, y1, hgl, fun w1 hb => ?_, fun w1 hb => ?_⟩
   ·have q := name_c hx w1 (hbel w1 hb) (hpt.below hb)
    rw [hd0, he0] at q
    exact q
   ·have q := meaning_c (nm (c.ds.drop e.1)) w1 (h.below hb).1 hrg (by omega)
    rw [hmq] at q
    exact q
  have hcall : ∀ w2, Below w.heap.size w w2 → Calls Tryz.prog 184 #[.pointer (some ⟨s.pb, 0, none⟩), .slice (some ⟨g, o, none⟩) (m + 1) (d + 1)] w2 fun r w' => RdQ c (N + sumB k (Cp.at_ c ((e :: es).map (·.1)))) s (allO (rd (s.gls.map (·.x)) k (s.sc.map (·.x))) (Cp.at_ c ((e :: es).map (·.1)))) w w' r (fun u _ => MkV u) := fun w2 hb => (call_c hE S s N w2 _ _ _ _ (h.below hb).1 (hes.below hb) hn3 hN).mono (fun r w' hr => hr.base (h.below hb).2)
  by_cases hsy : isSy (c.ds.drop e.1) = true
  ·have hne := nm_of_sy hpt.ok.2.1 hsy
   have t1 : ((strOfNums (nm (c.ds.drop e.1))).toList == []) = false := by
    rw [ByteArray.toList_eq, strOfNums_data]
    cases hq : nm (c.ds.drop e.1) with
    | nil => exact absurd hq hne
    | cons a r => rfl
   cases hb : s.bnd (nm (c.ds.drop e.1)) with
   | true =>
    obtain ⟨v, _, hmv⟩ := mean_yes hb
    rw [hat, lstQ_call (Or.inr hb), ← hat]
    exact listB_c _ m d (hLi _ hmv) t1 hcall
   | false =>
    have hl0 := hLi _ (mean_no hb)
    rw [hat, lstQ_spc hsy hb]
    obtain ⟨pq, hpq⟩ : ∃ pq, RsD g o m d pq := by
     by_cases hd : d = 0
     ·exact ⟨_, Or.inl ⟨hd, by omega, rfl⟩⟩
     ·exact ⟨_, Or.inr ⟨by omega, by omega, rfl⟩⟩
    have hrest : ∀ w2, Below w.heap.size w w2 → EsR c db dof S k w2 pq m d es := fun w2 hb2 => (hes.below hb2).tail (fun h0 => by
     rcases hpq with ⟨_, h2, _⟩ | ⟨_, _, h3⟩
     ·omega
     ·exact h3)
    have hlw : ∀ w2, Below w.heap.size w w2 → w2.cell? ⟨s.pb, 0, none⟩ = some (.map (some s.wm)) ∧ s.pb < w2.heap.size ∧ (Instr.lookup 54 (.map (some s.wm)) (.string (strOfNums (nm (c.ds.drop e.1)))) true).run Tryz.prog w2 = .ok (.tuple #[(findS (wordsM s.pb) (nm (c.ds.drop e.1))).getD .nilFunc, .bool (findS (wordsM s.pb) (nm (c.ds.drop e.1))).isSome]) w2 := fun w2 hb2 => by
     have q := (h.below hb2).1
     exact ⟨(cells6 q.blk).1, (Array.getElem?_eq_some_iff.1 q.blk).1, run_lookW q.wor (words_rg _) hrg⟩
    have hNr : N + sumB k (Cp.at_ c (es.map (·.1))) ≤ N + sumB k (c.ds.drop e.1 :: Cp.at_ c (es.map (·.1))) := by rw [hsum]; omega
    rw [hat] at hN hcall
    have hlen : (Cp.at_ c (es.map (·.1))).length = es.length := by simp [Cp.at_]
    by_cases w1 : nm (c.ds.drop e.1) = wQuote
    ·have hfw : findS (wordsM s.pb) wQuote = some (mtV s.pb 49) := rfl
     rw [w1] at hl0 hlw t1
     rw [hfw] at hlw
     rw [spcQ (by rw [w1]; rfl), w1, if_pos rfl]
     refine listQuote_c _ m d pq hpq hl0 t1 hlw (fun w2 hb2 => (quote_c S s N w2 pq m d es (h.below hb2).1 (hrest w2 hb2)).mono (fun r w' hr => ?_))
     rw [hlen]
     exact (hr.base (h.below hb2).2).mono (by rw [hsum]; omega)
    by_cases w2 : nm (c.ds.drop e.1) = wIf
    ·have hfw : findS (wordsM s.pb) wIf = some (mtV s.pb 50) := rfl
     rw [w2] at hl0 hlw t1
     rw [hfw] at hlw
     rw [spcQ (by rw [w2]; rfl), w2, if_neg (by decide), if_pos rfl]
     refine listIf_c _ m d pq hpq hl0 t1 hlw (fun w2 hb2 => (choice_c hE S s N w2 pq m d es (h.below hb2).1 (hrest w2 hb2) (by omega)).mono (fun r w' hr => ?_))
     rw [hlen]
     exact (hr.base (h.below hb2).2).mono hNr
    by_cases w3 : nm (c.ds.drop e.1) = wLambda
    ·have hfw : findS (wordsM s.pb) wLambda = some (mtV s.pb 51) := rfl
     rw [w3] at hl0 hlw t1
     rw [hfw] at hlw
     rw [spcQ (by rw [w3]; rfl), w3, if_neg (by decide), if_neg (by decide), if_pos rfl]
     refine listLambda_c _ m d pq hpq hl0 t1 hlw (fun w2 hb2 => (lambda_c hx hE S s N w2 pq m d es (h.below hb2).1 (hrest w2 hb2) (by omega) (by omega)).mono (fun r w' hr => ?_))
     exact (hr.base (h.below hb2).2).mono hNr
    by_cases w4 : nm (c.ds.drop e.1) = wLet
    ·have hfw : findS (wordsM s.pb) wLet = some (mtV s.pb 52) := rfl
     rw [w4] at hl0 hlw t1
     rw [hfw] at hlw
     rw [spcQ (by rw [w4]; rfl), w4, if_neg (by decide), if_neg (by decide), if_neg (by decide), if_pos rfl]
     refine listLet_c _ m d pq hpq hl0 t1 hlw (fun w2 hb2 => (let_c hx hE S s N w2 pq m d es (h.below hb2).1 (hrest w2 hb2) (by omega) (by omega)).mono (fun r w' hr => ?_))
     exact (hr.base (h.below hb2).2).mono hNr
    by_cases w5 : nm (c.ds.drop e.1) = wLetrec
    ·have hfw : findS (wordsM s.pb) wLetrec = some (mtV s.pb 53) := rfl
     rw [w5] at hl0 hlw t1
     rw [hfw] at hlw
     rw [spcQ (by rw [w5]; rfl), w5, if_neg (by decide), if_neg (by decide), if_neg (by decide), if_neg (by decide), if_pos rfl]
     refine listLetrec_c _ m d pq hpq hl0 t1 hlw (fun w2 hb2 => (letrec_c hx hE S s N w2 pq m d es (h.below hb2).1 (hrest w2 hb2) (by omega) (by omega)).mono (fun r w' hr => ?_))
     exact (hr.base (h.below hb2).2).mono hNr
    by_cases w6 : nm (c.ds.drop e.1) = wSet
    ·have hfw : findS (wordsM s.pb) wSet = some (mtV s.pb 54) := rfl
     rw [w6] at hl0 hlw t1
     rw [hfw] at hlw
     rw [spcQ (by rw [w6]; rfl), w6, if_neg (by decide), if_neg (by decide), if_neg (by decide), if_neg (by decide), if_neg (by decide), if_pos rfl]
     refine listSet_c _ m d pq hpq hl0 t1 hlw (fun w2 hb2 => (assignment_c hx hE S s N w2 pq m d es (h.below hb2).1 (hrest w2 hb2) (by omega)).mono (fun r w' hr => ?_))
     exact (hr.base (h.below hb2).2).mono hNr
    by_cases w7 : nm (c.ds.drop e.1) = wBegin
    ·have hfw : findS (wordsM s.pb) wBegin = some (mtV s.pb 55) := rfl
     rw [w7] at hl0 hlw t1
     rw [hfw] at hlw
     rw [spcQ (by rw [w7]; rfl), w7, if_neg (by decide), if_neg (by decide), if_neg (by decide), if_neg (by decide), if_neg (by decide), if_neg (by decide), if_pos rfl]
     refine listBegin_c _ m d pq hpq hl0 t1 hlw (fun w2 hb2 => (body_c hE S s N w2 pq m d es (h.below hb2).1 (hrest w2 hb2) (by omega) (by omega)).mono (fun r w' hr => ?_))
     simp only [at_nil]
     exact (hr.base (h.below hb2).2).mono hNr
    by_cases w8 : nm (c.ds.drop e.1) = wAnd
    ·have hfw : findS (wordsM s.pb) wAnd = some (mtV s.pb 56) := rfl
     rw [w8] at hl0 hlw t1
     rw [hfw] at hlw
     rw [spcQ (by rw [w8]; rfl), w8, if_neg (by decide), if_neg (by decide), if_neg (by decide), if_neg (by decide), if_neg (by decide), if_neg (by decide), if_neg (by decide), if_pos rfl]
     refine listAnd_c _ m d pq hpq hl0 t1 hlw (fun w2 hb2 => (and_c hE S s N w2 pq m d es (h.below hb2).1 (hrest w2 hb2) (by omega) (by omega)).mono (fun r w' hr => ?_))
     exact (hr.base (h.below hb2).2).mono hNr
    by_cases w9 : nm (c.ds.drop e.1) = wOr
    ·have hfw : findS (wordsM s.pb) wOr = some (mtV s.pb 57) := rfl
     rw [w9] at hl0 hlw t1
     rw [hfw] at hlw
     rw [spcQ (by rw [w9]; rfl), w9, if_neg (by decide), if_neg (by decide), if_neg (by decide), if_neg (by decide), if_neg (by decide), if_neg (by decide), if_neg (by decide), if_neg (by decide), if_pos rfl]
     refine listOr_c _ m d pq hpq hl0 t1 hlw (fun w2 hb2 => (or_c hE S s N w2 pq m d es (h.below hb2).1 (hrest w2 hb2) (by omega) (by omega)).mono (fun r w' hr => ?_))
     exact (hr.base (h.below hb2).2).mono hNr
    by_cases w10 : nm (c.ds.drop e.1) = wDefine
    ·have hfw : findS (wordsM s.pb) wDefine = some (mtV s.pb 58) := rfl
     rw [w10] at hl0 hlw t1
     rw [hfw] at hlw
     rw [spcQ (by rw [w10]; rfl), w10, if_neg (by decide), if_neg (by decide), if_neg (by decide), if_neg (by decide), if_neg (by decide), if_neg (by decide), if_neg (by decide), if_neg (by decide), if_neg (by decide), if_pos rfl]
     refine listDefine_c _ m d pq hpq hl0 t1 hlw (fun w2 hb2 => (misplaced_c s.pb pq m d w2 (hbel w2 hb2)).mono (fun r w' hr => hr))
    have hfn := words_none (pb := s.pb) w1 w2 w3 w4 w5 w6 w7 w8 w9 w10
    rw [hfn] at hlw
    rcases prim_dec (nm (c.ds.drop e.1)) with ⟨j, hj, hj1, hj2⟩ | hnp
    ·rw [spcQ_prim (po_some hj hj2 hj1), hlen]
     exact listPrim_c _ m d pq hpq hl0 t1 j (fun w2 hb2 => ⟨(hlw w2 hb2).1, (hlw w2 hb2).2.1, (hlw w2 hb2).2.2, primNumber_y _ w2 (ht.up (hbel w2 hb2)) hrg hj hj1 hj2⟩) (fun w2 hb2 => (primitive_c hE S s N w2 j hj pq m d es ht (h.below hb2).1 (hrest w2 hb2) (by omega) (by omega)).mono (fun r w' hr => (hr.base (h.below hb2).2).mono hNr))
    ·rw [spcQ (po_none hnp), if_neg w1, if_neg w2, if_neg w3, if_neg w4, if_neg w5, if_neg w6, if_neg w7, if_neg w8, if_neg w9, if_neg w10]
     exact listNone_c _ m d pq hpq hl0 t1 (fun w2 hb2 => ⟨(hlw w2 hb2).1, (hlw w2 hb2).2.1, (hlw w2 hb2).2.2, primNumber_n _ w2 (ht.up (hbel w2 hb2)) hrg hnp⟩) hcall
  ·have hnn : nm (c.ds.drop e.1) = [] := Classical.byContradiction (fun hne => hsy (sy_of_nm hpt.ok.2.1 hne))
   have t1 : ((strOfNums (nm (c.ds.drop e.1))).toList == []) = true := by rw [hnn, ByteArray.toList_eq, strOfNums_data]; rfl
   obtain ⟨mq, hmq⟩ := mean_ptr s (nm (c.ds.drop e.1))
   rw [hat, lstQ_call (Or.inl (by simpa using hsy)), ← hat]
   exact listA_c _ m d (hLi _ hmq) t1 hcall
theorem bud_pos {k : Nat} {l : List Dt} (h : Ok k l) : 1 ≤ bud k l := by
 have := sz_pos h
 unfold bud
 omega
set_option maxRecDepth 20000 in
set_option maxHeartbeats 2000000 in
theorem expression_l {c : Cx} {db dof k : Nat} (hx : PgX c db dof) (ht : TbP c.w0) (hE : ExpC c db dof k) {S : Nat → Prop} {s : Sg} {N : Nat} {e : Pe} (w : World) (h : PgI c N w s) (hp : Pt c db dof S w (k + 1) e) (hls : isLs (c.ds.drop e.1) = true) (hN : N + bud (k + 1) (c.ds.drop e.1) ≤ 1000000000) :
  Calls Tryz.prog 115 #[.pointer (some ⟨s.pb, 0, none⟩), .agg #[e.2.1, e.2.2]] w fun r w' => RdQ c (N + bud (k + 1) (c.ds.drop e.1)) s (rd (s.gls.map (·.x)) (k + 1) (s.sc.map (·.x)) (c.ds.drop e.1)) w w' r (fun u _ => MkV u) := by
 obtain ⟨so, sn, sc, hdv⟩ : ∃ so sn sc, e.2.1 = .slice (some ⟨db, so, none⟩) sn sc := ⟨_, _, _, hp.ok.1⟩
 obtain ⟨ep, eN, eC, els, hev, hels, hkid, hel3, _⟩ := hp.esr2 hx
 have hok := hp.ok.2.1
 rw [kidsOf_mono (Nat.le_succ k) hok] at hkid
 obtain ⟨W, hW⟩ : ∃ W, W = w.alloc (.cells #[.slice (some ⟨db, so, none⟩) sn sc, .slice ep eN eC] 102) := ⟨_, rfl⟩
 have hbW : Below w.heap.size w W := by rw [hW]; exact below1 _ _
 have hbc : Below c.w0.heap.size c.w0 W := h.bel.trans (hbW.mono h.bel.size)
 have hIL := isList_c hx W hbc (hp.below hbW)
 rw [hls, hdv, hev] at hIL
 rw [hdv, hev]
 have hrd : rd (s.gls.map (·.x)) (k + 1) (s.sc.map (·.x)) (c.ds.drop e.1) = lstR (s.gls.map (·.x)) k (rd (s.gls.map (·.x)) k) (s.sc.map (·.x)) (Cp.at_ c (els.map (·.1))) := by
  rw [hkid]
  simp only [rd]
  rw [if_pos hls]
 rw [hrd]
 have hbud := kids_bud hok hls
 rw [← hkid] at hbud
 have HLI : Hid (∀ w1, Below W.heap.size W w1 → Calls Tryz.prog 160 #[.pointer (some ⟨s.pb, 0, none⟩), .slice ep eN eC] w1 fun r w' => RdQ c (N + bud (k + 1) (c.ds.drop e.1)) s (lstR (s.gls.map (·.x)) k (rd (s.gls.map (·.x)) k) (s.sc.map (·.x)) (Cp.at_ c (els.map (·.1)))) w w' r (fun u _ => MkV u)) := fun w1 hb1 => by
  have hb2 := hbW.trans (hb1.mono hbW.size)
  have h1 := h.below hb2
  exact (list_c2 hx ht hE S s N w1 ep eN eC els h1.1 (hels.below hb2) hel3 (by omega)).mono (fun r w' hr => (hr.base h1.2).mono (by omega))
 have HBX : Hid (∀ w', Below W.heap.size W w' → w'.cell? ⟨w.heap.size, 0, none⟩ = some (.slice (some ⟨db, so, none⟩) sn sc) ∧ w'.cell? ⟨w.heap.size, 1, none⟩ = some (.slice ep eN eC)) := fun w' hb' => by
  rw [hW] at hb'
  exact box_keep hb'
 have HIL := mkC hIL
 have HW := mkC hW
 obtain ⟨B, hB⟩ : ∃ B, B = w.heap.size := ⟨_, rfl⟩
 rw [← hB] at HBX
 have HBB := mkC hB
 generalize lstR (s.gls.map (·.x)) k (rd (s.gls.map (·.x)) k) (s.sc.map (·.x)) (Cp.at_ c (els.map (·.1))) = ro at HLI
 generalize N + bud (k + 1) (c.ds.drop e.1) = NN at HLI
 clear h hp hls hdv hev hW hbW hbc hIL hels hkid hok hrd hbud hB hN
 go_enter Tryz.func115, Tryz.ntmps115
 go_wp2_with fail
 rw [← HW.out, ← HBB.out]
 refine HIL.out.mono ?_
 rintro r w2 ⟨rfl, hb2⟩
 obtain ⟨y0, y1⟩ := HBX.out w2 hb2
 have HL2 := mkC (HLI.out w2 hb2)
 clear hb2 HLI HIL
 go_wp2_with fail
 refine HL2.out.mono ?_
 intro r w3 hr
 cases ro with
 | none =>
  obtain ⟨rfl, hb3⟩ := hr
  exact ⟨rfl, rfl, hb3⟩
 | some ns =>
  obtain ⟨u2, s', rfl, ⟨f, b, cp, rfl⟩, h3⟩ := hr
  have HF : Hid (RdQ c NN s (some ns) w w3 (.returned (.func f b cp)) (fun u _ => MkV u)) := ⟨_, s', rfl, ⟨f, b, cp, rfl⟩, h3⟩
  clear h3
  go_wp2_with fail
  go_ret
  exact HF.out
theorem exp_all {c : Cx} {db dof : Nat} (hx : PgX c db dof) (ht : TbP c.w0) : ∀ k, ExpC c db dof k := by
 intro k
 induction k with
 | zero =>
  intro S s N w e h hp hN
  have hls := ok_zero hp.ok.2.1
  have hb := bud_pos hp.ok.2.1
  have e1 : rd (s.gls.map (·.x)) 0 (s.sc.map (·.x)) (c.ds.drop e.1) = atmR (s.gls.map (·.x)) (s.sc.map (·.x)) (c.ds.drop e.1) := by simp only [rd]; rw [hls]; rfl
  rw [e1]
  exact (expression_a hx w h hp hls (by omega)).mono (fun r w' hr => hr.mono (by omega))
 | succ k ih =>
  intro S s N w e h hp hN
  cases hls : isLs (c.ds.drop e.1) with
  | true => exact expression_l hx ht ih w h hp hls hN
  | false =>
   have hb := bud_pos hp.ok.2.1
   have e1 : rd (s.gls.map (·.x)) (k + 1) (s.sc.map (·.x)) (c.ds.drop e.1) = atmR (s.gls.map (·.x)) (s.sc.map (·.x)) (c.ds.drop e.1) := by simp only [rd]; rw [hls]; rfl
   rw [e1]
   exact (expression_a hx w h hp hls (by omega)).mono (fun r w' hr => hr.mono (by omega))
attribute [local go_sem] run_store_fn
def FmV (u : Value) : Prop := ∃ q f b cp, u = .agg #[.pointer q, .func f b cp]
theorem boxes3 {w w1 : World} {a b c d : Value} {t u : TypeId} (hb : Below ((w.alloc (.cells #[a, b] t)).alloc (.cells #[c, d] u)).heap.size ((w.alloc (.cells #[a, b] t)).alloc (.cells #[c, d] u)) w1) : w1.heap[w.heap.size]? = some (.cells #[a, b] t) ∧ w1.heap[w.heap.size + 1]? = some (.cells #[c, d] u) := by
 constructor
 ·refine (hb.block _ (by simp; omega)).trans ?_
  rw [(below1 (w.alloc (.cells #[a, b] t)) (.cells #[c, d] u)).block _ (by simp)]
  exact Go.Deep.blk_alloc_new _ _
 ·refine (hb.block _ (by simp)).trans ?_
  have h := Go.Deep.blk_alloc_new (w.alloc (.cells #[a, b] t)) (.cells #[c, d] u)
  rw [World.size_alloc] at h
  exact h
theorem cells2 {w : World} {k : Nat} {a b : Value} {t : TypeId} (h : w.heap[k]? = some (.cells #[a, b] t)) : w.cell? ⟨k, 0, none⟩ = some a ∧ w.cell? ⟨k, 1, none⟩ = some b ∧ ∀ o, w.frozen? ⟨k, o, none⟩ = false := by
 refine ⟨?_, ?_, fun o => ?_⟩ <;> simp [World.cell?, World.frozen?, h]
theorem glM_rg {c : Cx} {N : Nat} {w : World} {s : Sg} (h : PgI c N w s) : ∀ p ∈ glM s.gls, Rg p.1 := fun p hp => by
 obtain ⟨v, hv, rfl⟩ := List.mem_map.1 hp
 exact (h.vrs v (List.mem_append_left _ hv)).2.2
theorem gl_ptr (s : Sg) (x : List Int) : ∃ q, (findS (glM s.gls) x).getD (.pointer none) = .pointer q := by
 unfold findS
 cases e : (glM s.gls).find? (fun p => p.1 == x) with
 | none => exact ⟨none, rfl⟩
 | some p =>
  obtain ⟨v, _, rfl⟩ := List.mem_map.1 (List.mem_of_find?_eq_some e)
  exact ⟨_, rfl⟩
theorem form_end {c : Cx} {N0 N b : Nat} {s : Sg} {ns : List (List Int)} {w w1 w2 : World} {u : Value} {a0 a1 : Value} (h : RdQ c N s (some ns) w1 w2 (.returned u) (fun u _ => MkV u)) (h0 : PgI c N0 w s) (hf : FrP s s w w1) (hb1 : w1.heap[b]? = some (.cells #[a0, a1] 111)) (hbw : w.heap.size ≤ b) : w2.heap[b]? = some (.cells #[a0, a1] 111) ∧ ∀ w3, Below w2.heap.size w2 w3 → ∀ q f bd cp, RdQ c N s (some ns) w ((w3.setCell ⟨b, 0, none⟩ (.pointer q)).setCell ⟨b, 1, none⟩ (.func f bd cp)) (.returned (.agg #[.pointer q, .func f bd cp])) (fun u _ => FmV u) := by
 obtain ⟨u', s', _, _, h1, h2, h3, h4⟩ := h
 have hblt := (Array.getElem?_eq_some_iff.1 hb1).1
 have hnq : ¬ Fq s b := fun hq => by have := (h0.fq_lt hq).1; omega
 have hnq' : ¬ Fq s' b := fun hq => by
  rcases h2.foot b hq with h5 | h5
  ·exact hnq h5
  ·omega
 have hb2 := (h2.keep b hblt hnq).trans hb1
 refine ⟨hb2, fun w3 hb3 q f bd cp => ?_⟩
 have h5 := h1.below hb3
 have hc := h0.bel.size
 have hb3' := (hb3.block _ (Array.getElem?_eq_some_iff.1 hb2).1).trans hb2
 have hk : ∀ k, k ≠ b → ((w3.setCell ⟨b, 0, none⟩ (.pointer q)).setCell ⟨b, 1, none⟩ (.func f bd cp)).heap[k]? = w3.heap[k]? := fun k hk => (set_keep _ hk).trans (set_keep _ hk)
 have hbl : Below c.w0.heap.size w3 ((w3.setCell ⟨b, 0, none⟩ (.pointer q)).setCell ⟨b, 1, none⟩ (.func f bd cp)) := (Below.setCell (Below.refl _ _) (p := ⟨b, 0, none⟩) (Nat.le_trans hc hbw) _).setCell (p := ⟨b, 1, none⟩) (Nat.le_trans hc hbw) _
 refine ⟨_, s', rfl, ⟨q, f, bd, cp, rfl⟩, h5.1.same hbl (fun k _ hq => hk k (fun e => ?_)), ?_, h3, h4⟩
 ·subst e
  rcases hq with hq | hq
  ·exact hnq' hq
  ·exact h5.1.wm_ne hb3' hq
 ·have t := (hf.trans h2).trans h5.2
  exact ⟨by rw [set_size, set_size]; exact t.size, fun k hk' hn => (hk k (by omega)).trans (t.keep k hk' hn), t.foot⟩
theorem form_cells {w : World} {b : Nat} {a0 a1 : Value} {t : TypeId} (h : w.heap[b]? = some (.cells #[a0, a1] t)) (q : Option Addr) (f : Fn) (bd cp : Array Value) : ((w.setCell ⟨b, 0, none⟩ (.pointer q)).setCell ⟨b, 1, none⟩ (.func f bd cp)).cell? ⟨b, 0, none⟩ = some (.pointer q) ∧ ((w.setCell ⟨b, 0, none⟩ (.pointer q)).setCell ⟨b, 1, none⟩ (.func f bd cp)).cell? ⟨b, 1, none⟩ = some (.func f bd cp) := by
 have h1 : ((w.setCell ⟨b, 0, none⟩ (.pointer q)).setCell ⟨b, 1, none⟩ (.func f bd cp)).heap[b]? = some (.cells #[.pointer q, .func f bd cp] t) := by simp [World.setCell, Array.getElem?_modify, h]
 exact ⟨(cells2 h1).1, (cells2 h1).2.1⟩
set_option maxRecDepth 20000 in
set_option maxHeartbeats 4000000 in
theorem form_c {c : Cx} {db dof : Nat} (hx : PgX c db dof) (hE : ExpC c db dof 100) {S : Nat → Prop} {s : Sg} {N : Nat} {e : Pe} (w : World) (h : PgI c N w s) (hp : Pt c db dof S w 100 e) (hsc : s.sc = []) (hdf : isDf (c.ds.drop e.1) = true → okDf (c.ds.drop e.1) = true) (hN : N + bud 100 (c.ds.drop e.1) ≤ 1000000000) :
  Calls Tryz.prog 63 #[.pointer (some ⟨s.pb, 0, none⟩), .agg #[e.2.1, e.2.2]] w fun r w' => RdQ c (N + bud 100 (c.ds.drop e.1)) s (topR (s.gls.map (·.x)) (c.ds.drop e.1)) w w' r (fun u _ => FmV u) := by
 obtain ⟨so, sn, sc, hdv⟩ : ∃ so sn sc, e.2.1 = .slice (some ⟨db, so, none⟩) sn sc := ⟨_, _, _, hp.ok.1⟩
 obtain ⟨ep, eN, eC, els, hev, hels, hkid, hel3, _⟩ := hp.esr2 hx
 obtain ⟨W, hW⟩ : ∃ W, W = (w.alloc (.cells #[.slice (some ⟨db, so, none⟩) sn sc, .slice ep eN eC] 102)).alloc (.cells #[.pointer none, .nilFunc] 111) := ⟨_, rfl⟩
 have hbW : Below w.heap.size w W := by rw [hW]; exact below2 _ _ _
 have hbc : Below c.w0.heap.size c.w0 W := h.bel.trans (hbW.mono h.bel.size)
 have hcw : c.w0.heap.size ≤ w.heap.size := h.bel.size
 have hID := isDefinition_c hx W hbc (hp.below hbW)
 rw [hdv, hev] at hID
 have HBX : Hid (∀ w1, Below W.heap.size W w1 → w1.heap[w.heap.size]? = some (.cells #[.slice (some ⟨db, so, none⟩) sn sc, .slice ep eN eC] 102) ∧ w1.heap[w.heap.size + 1]? = some (.cells #[.pointer none, .nilFunc] 111)) := fun w1 hb => boxes3 (by rw [← hW]; exact hb)
 have HW := mkC hW
 have hgrow : ∀ w1, Below W.heap.size W w1 → Below w.heap.size w w1 := fun w1 hb => hbW.trans (hb.mono hbW.size)
 rw [hdv, hev]
 cases hd : isDf (c.ds.drop e.1) with
 | false =>
  rw [hd] at hID
  have htop : topR (s.gls.map (·.x)) (c.ds.drop e.1) = rd (s.gls.map (·.x)) 100 (s.sc.map (·.x)) (c.ds.drop e.1) := by
   unfold topR
   rw [hd, hsc]
   rfl
  rw [htop]
  have HEX : Hid (∀ w1, Below W.heap.size W w1 → Calls Tryz.prog 115 #[.pointer (some ⟨s.pb, 0, none⟩), .agg #[.slice (some ⟨db, so, none⟩) sn sc, .slice ep eN eC]] w1 fun r w2 => (r = gramE ∧ Below c.w0.heap.size c.w0 w2 ∧ rd (s.gls.map (·.x)) 100 (s.sc.map (·.x)) (c.ds.drop e.1) = none) ∨ ∃ f bd cp, r = .returned (.func f bd cp) ∧ w2.heap[w.heap.size + 1]? = some (.cells #[.pointer none, .nilFunc] 111) ∧ ∀ w3, Below w2.heap.size w2 w3 → ∀ q f bd cp, RdQ c (N + bud 100 (c.ds.drop e.1)) s (rd (s.gls.map (·.x)) 100 (s.sc.map (·.x)) (c.ds.drop e.1)) w ((w3.setCell ⟨w.heap.size + 1, 0, none⟩ (.pointer q)).setCell ⟨w.heap.size + 1, 1, none⟩ (.func f bd cp)) (.returned (.agg #[.pointer q, .func f bd cp])) (fun u _ => FmV u)) := fun w1 hb1 => by
   have h1 := h.below (hgrow w1 hb1)
   have q := hE S s N w1 e h1.1 (hp.below (hgrow w1 hb1)) hN
   rw [hdv, hev] at q
   refine q.mono ?_
   intro r w2 hr
   cases e1 : rd (s.gls.map (·.x)) 100 (s.sc.map (·.x)) (c.ds.drop e.1) with
   | none =>
    rw [e1] at hr
    exact Or.inl ⟨hr.1, hr.2, rfl⟩
   | some ns =>
    rw [e1] at hr
    obtain ⟨u, s', rfl, ⟨f, bd, cp, rfl⟩, hrest⟩ := hr
    have h2 := form_end (c := c) (N0 := N) (b := w.heap.size + 1) ⟨_, s', rfl, ⟨f, bd, cp, rfl⟩, hrest⟩ h h1.2 (HBX.out w1 hb1).2 (Nat.le_succ _)
    exact Or.inr ⟨f, bd, cp, rfl, h2.1, h2.2⟩
  have HID := mkC hID
  generalize rd (s.gls.map (·.x)) 100 (s.sc.map (·.x)) (c.ds.drop e.1) = ro at HEX
  generalize N + bud 100 (c.ds.drop e.1) = NN at HEX
  clear h hp hsc hdf hN hdv hev hels hkid hW hbW hbc hID hgrow hd htop
  go_enter Tryz.func63, Tryz.ntmps63
  go_wp2_with fail
  rw [← HW.out]
  refine HID.out.mono ?_
  rintro r w1 ⟨rfl, hb1⟩
  obtain ⟨x0, x1⟩ := HBX.out w1 hb1
  have z0 := (cells2 x0).1
  have z1 := (cells2 x0).2.1
  have HE1 := mkC (HEX.out w1 hb1)
  clear hb1 x0 x1 HEX HID
  go_wp2_with fail
  refine HE1.out.mono ?_
  rintro r w2 (⟨rfl, hb2, hno⟩ | ⟨f, bd, cp, rfl, hbk, hfin⟩)
  ·refine ⟨rfl, ?_⟩
   rw [hno]
   exact ⟨rfl, hb2⟩
  ·have v0 := (cells2 hbk).1
   have v1 := (cells2 hbk).2.1
   have vf := (cells2 hbk).2.2
   have HBK := mkC hbk
   have HF := mkC (hfin w2 (Below.refl _ _))
   clear hbk hfin HE1
   go_wp2_with fail
   have r0 := form_cells HBK.out none f bd cp
   exact bodyPost_ret (v := .agg #[.pointer none, .func f bd cp]) (by simp [results, Tryz.results63, go_sem, r0.1, r0.2]) rfl (HF.out none f bd cp)
 | true =>
  rw [hd] at hID
  have hok := hdf hd
  unfold okDf at hok
  rw [Bool.and_eq_true, decide_eq_true_eq] at hok
  have hlen : els.length = eN := hels.1
  have h3 : eN = 3 := by rw [← hlen, ← hok.1, ← hkid]; simp [Cp.at_]
  subst h3
  obtain ⟨x0, x1, x2, rfl⟩ : ∃ x0 x1 x2, els = [x0, x1, x2] := by
   match els, hlen with
   | [x0, x1, x2], _ => exact ⟨x0, x1, x2, rfl⟩
  have htop : topR (s.gls.map (·.x)) (c.ds.drop e.1) = rd (s.gls.map (·.x)) 100 (s.sc.map (·.x)) (c.ds.drop x2.1) := by
   unfold topR
   rw [hd, hsc, ← hkid]
   rfl
  rw [htop]
  obtain ⟨eg, eo, ecur, rfl, heg, hecl⟩ := hels.2.2.1 (by omega)
  have hegl := (Array.getElem?_eq_some_iff.1 heg).1
  have hecc := hels.2.1
  have hp1 := hels.2.2.2 x1 (by simp)
  have hp2 := (hels.2.2.2 x2 (by simp)).mono (k := 100) (by omega)
  obtain ⟨a10, a11⟩ := hecl 1 (by simp)
  obtain ⟨a20, a21⟩ := hecl 2 (by simp)
  obtain ⟨s1, n1, c1, hd1⟩ : ∃ so sn sc, x1.2.1 = .slice (some ⟨db, so, none⟩) sn sc := ⟨_, _, _, hp1.ok.1⟩
  obtain ⟨s2, n2, c2, hd2⟩ : ∃ so sn sc, x2.2.1 = .slice (some ⟨db, so, none⟩) sn sc := ⟨_, _, _, hp2.ok.1⟩
  obtain ⟨q1, m1, d1, he1⟩ := hp1.row
  obtain ⟨q2, m2, d2, he2⟩ := hp2.row
  have hrg := nm_rg hx hp1
  obtain ⟨gq, hgq⟩ := gl_ptr s (nm (c.ds.drop x1.1))
  have hbud2 : bud 100 (c.ds.drop x2.1) ≤ bud 100 (c.ds.drop e.1) := by
   have hls : isLs (c.ds.drop e.1) = true := by
    cases e2 : isLs (c.ds.drop e.1) with
    | true => rfl
    | false =>
     unfold kidsOf at hkid
     rw [e2] at hkid
     cases hkid
   have q := kids_sumK hp.ok.2.1 hls
   rw [← hkid] at q
   have q2 : sumS 100 (Cp.at_ c ([x0, x1, x2].map (·.1))) = sz 100 (c.ds.drop x0.1) + (sz 100 (c.ds.drop x1.1) + (sz 100 (c.ds.drop x2.1) + 0)) := rfl
   unfold bud
   omega
  obtain ⟨ro, hro⟩ : ∃ ro, ro = rd (s.gls.map (·.x)) 100 (s.sc.map (·.x)) (c.ds.drop x2.1) := ⟨_, rfl⟩
  obtain ⟨NN, hNN⟩ : ∃ NN, NN = N + bud 100 (c.ds.drop e.1) := ⟨_, rfl⟩
  /- ahead of the expression, and behind it -/
  obtain ⟨Ph, hPh⟩ : ∃ Ph : Bool → World → Prop, Ph = fun b W1 => if b = true then ∃ ns w2 w3 u, ro = some ns ∧ Below W.heap.size W w2 ∧ RdQ c NN s (some ns) w2 w3 (.returned u) (fun u _ => MkV u) ∧ Below w3.heap.size w3 W1 else Below W.heap.size W W1 := ⟨_, rfl⟩
  have hst : ∀ b W1, Ph b W1 → ∃ s', PgI c NN W1 s' ∧ FrP s s' w W1 ∧ SmP s s' ∧ W1.heap[w.heap.size + 1]? = some (.cells #[.pointer none, .nilFunc] 111) := fun b W1 hph => by
   rw [hPh] at hph
   cases b with
   | false =>
    have h1 := h.below (hgrow W1 hph)
    exact ⟨s, h1.1.mono (by omega), h1.2, SmP.refl s, (HBX.out W1 hph).2⟩
   | true =>
    obtain ⟨ns, w2, w3, u, _, hb2, hr, hb3⟩ := hph
    have hf := (h.below (hgrow w2 hb2)).2
    have hfe := (form_end hr h hf (HBX.out w2 hb2).2 (Nat.le_succ _)).1
    obtain ⟨_, s', _, _, g1, g2, g3, _⟩ := hr
    have h1 := g1.below hb3
    exact ⟨s', h1.1, (hf.trans g2).trans h1.2, g3, (hb3.block _ (Array.getElem?_eq_some_iff.1 hfe).1).trans hfe⟩
  have HFO : Hid (∀ b W1, Ph b W1 → W1.cell? ⟨s.pb, 1, none⟩ = some (.map (some s.gm)) ∧ s.pb < W1.heap.size ∧ W1.cell? ⟨w.heap.size, 1, none⟩ = some (.slice (some ⟨eg, eo, none⟩) 3 eC) ∧ w.heap.size < W1.heap.size ∧ W1.cell? ⟨eg, eo + 2, none⟩ = some (.slice (some ⟨db, s1, none⟩) n1 c1) ∧ W1.cell? ⟨eg, eo + 2 + 1, none⟩ = some (.slice q1 m1 d1) ∧ W1.cell? ⟨eg, eo + 2 * 2, none⟩ = some (.slice (some ⟨db, s2, none⟩) n2 c2) ∧ W1.cell? ⟨eg, eo + 2 * 2 + 1, none⟩ = some (.slice q2 m2 d2) ∧ eg < W1.heap.size ∧ (Instr.lookup 55 (.map (some s.gm)) (.string (strOfNums (nm (c.ds.drop x1.1)))) false).run Tryz.prog W1 = .ok (.pointer gq) W1 ∧ (W1.cell? ⟨w.heap.size + 1, 0, none⟩ = some (.pointer none) ∧ W1.cell? ⟨w.heap.size + 1, 1, none⟩ = some .nilFunc ∧ ∀ o, W1.frozen? ⟨w.heap.size + 1, o, none⟩ = false)) := fun b W1 hph => by
   obtain ⟨s', g1, g2, g3, hbx⟩ := hst b W1 hph
   have kb : ∀ {j : Nat} {cur : Array Value} {t : TypeId}, w.heap[j]? = some (Obj.cells cur t) → t ≠ 59 → t ≠ 107 → t ≠ 9 → t ≠ 111 → t ≠ 175 → W1.heap[j]? = w.heap[j]? := fun {j cur t} hj r1 r2 r3 r4 r5 => (g2.keepB h hj r1 r2 r3 r4 r5).trans hj.symm
   have hbox0 : W1.heap[w.heap.size]? = some (.cells #[.slice (some ⟨db, so, none⟩) sn sc, .slice (some ⟨eg, eo, none⟩) 3 eC] 102) := by
    rw [hPh] at hph
    cases b with
    | false => exact (HBX.out W1 hph).1
    | true =>
     obtain ⟨ns, w2, w3, u, _, hb2, ⟨_, s2', _, _, _, g2', _⟩, hb3⟩ := hph
     have q := g2'.keepB (h.below (hgrow w2 hb2)).1 (HBX.out w2 hb2).1 (by decide) (by decide) (by decide) (by decide) (by decide)
     exact (hb3.block _ (Array.getElem?_eq_some_iff.1 q).1).trans q
   have heg1 := kb heg (by decide) (by decide) (by decide) (by decide) (by decide)
   have hlk := run_lookG g1.glo (glM_rg g1) hrg
   rw [g3.gm, g3.gls, hgq] at hlk
   have hpb := g1.blk
   rw [g3.pb] at hpb
   simp only [List.getElem_cons_succ, List.getElem_cons_zero, Nat.one_mul] at a10 a11 a20 a21
   rw [hd1] at a10
   rw [he1] at a11
   rw [hd2] at a20
   rw [he2] at a21
   have e1 := (cells6 hpb).2.1
   rw [g3.gm] at e1
   exact ⟨e1, (Array.getElem?_eq_some_iff.1 hpb).1, (cells2 hbox0).2.1, (Array.getElem?_eq_some_iff.1 hbox0).1, by rw [World.cell?_of_block (w := w) heg1]; exact a10, by rw [World.cell?_of_block (w := w) heg1]; exact a11, by rw [World.cell?_of_block (w := w) heg1]; exact a20, by rw [World.cell?_of_block (w := w) heg1]; exact a21, by
    have : W1.heap[eg]? = some (.cells ecur 102) := heg1.trans heg
    exact (Array.getElem?_eq_some_iff.1 this).1, hlk, (cells2 hbx).1, (cells2 hbx).2.1, (cells2 hbx).2.2⟩
  have HSK2 : Hid (∀ W1, Ph true W1 → ∀ q f bd cp, (fun wx => (wx.cell? ⟨s.pb, 1, none⟩ = some (.map (some s.gm)) ∧ wx.cell? ⟨w.heap.size, 1, none⟩ = some (.slice (some ⟨eg, eo, none⟩) 3 eC)) ∧ (wx.cell? ⟨eg, eo + 2, none⟩ = some (.slice (some ⟨db, s1, none⟩) n1 c1) ∧ wx.cell? ⟨eg, eo + 2 + 1, none⟩ = some (.slice q1 m1 d1)) ∧ (wx.cell? ⟨eg, eo + 2 * 2, none⟩ = some (.slice (some ⟨db, s2, none⟩) n2 c2) ∧ wx.cell? ⟨eg, eo + 2 * 2 + 1, none⟩ = some (.slice q2 m2 d2)) ∧ (Instr.lookup 55 (.map (some s.gm)) (.string (strOfNums (nm (c.ds.drop x1.1)))) false).run Tryz.prog wx = .ok (.pointer gq) wx) ((W1.setCell ⟨w.heap.size + 1, 0, none⟩ (.pointer q)).setCell ⟨w.heap.size + 1, 1, none⟩ (.func f bd cp))) := fun W1 hph q f bd cp => by
   obtain ⟨k1, k2, k3, k4, k5, k6, k7, k8, k9, _⟩ := HFO.out true W1 hph
   obtain ⟨s', g1, g2, g3, hbx⟩ := hst true W1 hph
   have hk : ∀ k, k ≠ w.heap.size + 1 → ((W1.setCell ⟨w.heap.size + 1, 0, none⟩ (.pointer q)).setCell ⟨w.heap.size + 1, 1, none⟩ (.func f bd cp)).heap[k]? = W1.heap[k]? := fun k hk => (set_keep _ hk).trans (set_keep _ hk)
   have hpb : s.pb ≠ w.heap.size + 1 := fun e' => by
    have q1 := g1.blk
    rw [g3.pb, e', hbx] at q1
    cases q1
   have hgm : s.gm ≠ w.heap.size + 1 := fun e' => by
    obtain ⟨es, clk, q1, _⟩ := g1.glo
    rw [g3.gm, e', hbx] at q1
    cases q1
   have hcell : ∀ k o v, k ≠ w.heap.size + 1 → W1.cell? ⟨k, o, none⟩ = some v → ((W1.setCell ⟨w.heap.size + 1, 0, none⟩ (.pointer q)).setCell ⟨w.heap.size + 1, 1, none⟩ (.func f bd cp)).cell? ⟨k, o, none⟩ = some v := fun k o v hne hc => by rw [World.cell?_of_block (w := W1) (a := ⟨k, o, none⟩) (hk k hne)]; exact hc
   refine ⟨⟨hcell _ _ _ hpb k1, hcell _ _ _ (by omega) k3⟩, ⟨hcell _ _ _ (by omega) k5, hcell _ _ _ (by omega) k6⟩, ⟨hcell _ _ _ (by omega) k7, hcell _ _ _ (by omega) k8⟩, ?_⟩
   have hmp : MpS ((W1.setCell ⟨w.heap.size + 1, 0, none⟩ (.pointer q)).setCell ⟨w.heap.size + 1, 1, none⟩ (.func f bd cp)) s.gm (glM s.gls) := by
    obtain ⟨es, clk, q1, q2⟩ := g1.glo
    rw [g3.gm] at q1
    rw [g3.gls] at q2
    exact ⟨es, clk, (hk _ hgm).trans q1, q2⟩
   have hlk := run_lookG hmp (glM_rg h) hrg
   rw [hgq] at hlk
   exact hlk
  have HSK : Hid (∀ b W1, Ph b W1 → (fun wx => (wx.cell? ⟨s.pb, 1, none⟩ = some (.map (some s.gm)) ∧ wx.cell? ⟨w.heap.size, 1, none⟩ = some (.slice (some ⟨eg, eo, none⟩) 3 eC)) ∧ (wx.cell? ⟨eg, eo + 2, none⟩ = some (.slice (some ⟨db, s1, none⟩) n1 c1) ∧ wx.cell? ⟨eg, eo + 2 + 1, none⟩ = some (.slice q1 m1 d1)) ∧ (wx.cell? ⟨eg, eo + 2 * 2, none⟩ = some (.slice (some ⟨db, s2, none⟩) n2 c2) ∧ wx.cell? ⟨eg, eo + 2 * 2 + 1, none⟩ = some (.slice q2 m2 d2)) ∧ (Instr.lookup 55 (.map (some s.gm)) (.string (strOfNums (nm (c.ds.drop x1.1)))) false).run Tryz.prog wx = .ok (.pointer gq) wx) W1) := fun b W1 hph => by
   obtain ⟨k1, k2, k3, k4, k5, k6, k7, k8, k9, k10, _⟩ := HFO.out b W1 hph
   exact ⟨⟨k1, k3⟩, ⟨k5, k6⟩, ⟨k7, k8⟩, k10⟩
  have HNMC : Hid (∀ b W1, Ph b W1 → Calls Tryz.prog 61 #[.agg #[.slice (some ⟨db, s1, none⟩) n1 c1, .slice q1 m1 d1]] W1 fun r w' => ∃ v, r = .returned v ∧ v = .string (strOfNums (nm (c.ds.drop x1.1))) ∧ Ph b w') := fun b W1 hph => by
   obtain ⟨s', g1, g2, g3, _⟩ := hst b W1 hph
   have q := name_c hx W1 g1.bel (hp1.frp h g2)
   rw [hd1, he1] at q
   refine q.mono ?_
   rintro r w' ⟨rfl, hb'⟩
   refine ⟨_, rfl, rfl, ?_⟩
   rw [hPh] at hph ⊢
   cases b with
   | false => exact Below.trans hph (hb'.mono hph.size)
   | true =>
    obtain ⟨ns, w2, w3, u, g4, g5, g6, g7⟩ := hph
    exact ⟨ns, w2, w3, u, g4, g5, g6, g7.trans (hb'.mono g7.size)⟩
  have HEXC : Hid (∀ W1, Ph false W1 → Calls Tryz.prog 115 #[.pointer (some ⟨s.pb, 0, none⟩), .agg #[.slice (some ⟨db, s2, none⟩) n2 c2, .slice q2 m2 d2]] W1 fun r w' => (∃ v, r = .returned v ∧ ∃ f bd cp, v = .func f bd cp ∧ Ph true w') ∨ (∃ ch, r = .panicked ch ∧ .panicked ch = gramE ∧ ro = none ∧ Below c.w0.heap.size c.w0 w')) := fun W1 hph => by
   have hph' := hph
   rw [hPh] at hph'
   have hb1 : Below W.heap.size W W1 := hph'
   have h1 := h.below (hgrow W1 hb1)
   have q := hE S s N W1 x2 h1.1 (hp2.below (hgrow W1 hb1)) (by omega)
   rw [hd2, he2, ← hro] at q
   refine q.mono ?_
   intro r w' hr
   cases ero : ro with
   | none =>
    rw [ero] at hr
    obtain ⟨rfl, hb⟩ := hr
    exact Or.inr ⟨_, rfl, rfl, rfl, hb⟩
   | some ns =>
    rw [ero] at hr
    have hr2 := hr.mono (M := NN) (by rw [hNN]; omega)
    obtain ⟨u, s', rfl, ⟨f, bd, cp, rfl⟩, _⟩ := hr
    refine Or.inl ⟨_, rfl, f, bd, cp, rfl, ?_⟩
    rw [hPh]
    exact ⟨ns, W1, w', _, ero, hb1, hr2, Below.refl _ _⟩
  have HEND : Hid (∀ W1, Ph true W1 → (W1.heap[w.heap.size + 1]? = some (.cells #[.pointer none, .nilFunc] 111)) ∧ ∀ q f bd cp, RdQ c NN s ro w ((W1.setCell ⟨w.heap.size + 1, 0, none⟩ (.pointer q)).setCell ⟨w.heap.size + 1, 1, none⟩ (.func f bd cp)) (.returned (.agg #[.pointer q, .func f bd cp])) (fun u _ => FmV u)) := fun W1 hph => by
   obtain ⟨_, _, _, _, hbx⟩ := hst true W1 hph
   rw [hPh] at hph
   obtain ⟨ns, w2, w3, u, g4, g5, g6, g7⟩ := hph
   refine ⟨hbx, fun q f bd cp => ?_⟩
   rw [g4]
   exact (form_end g6 h (h.below (hgrow w2 g5)).2 (HBX.out w2 g5).2 (Nat.le_succ _)).2 W1 g7 q f bd cp
  have HP0 : Hid (∀ w1, Below W.heap.size W w1 → Ph false w1.drew ∧ Ph false w1) := fun w1 hb => by rw [hPh]; exact ⟨below_drewC hb, hb⟩
  rw [← hro, ← hNN]
  have HID := mkC hID
  generalize strOfNums (nm (c.ds.drop x1.1)) = st at HFO HNMC HSK HSK2
  clear h hp hsc hdf hN hdv hev hels hkid hW hbW hbc hID hgrow hd htop hst hPh hp1 hp2 hd1 hd2 he1 he2 hrg hgq hbud2 hro hNN heg hecl a10 a11 a20 a21 hok hlen HBX
  go_enter Tryz.func63, Tryz.ntmps63
  go_wp2_with fail
  rw [← HW.out]
  refine HID.out.mono ?_
  rintro r w1 ⟨rfl, hb1⟩
  obtain ⟨hP0, hP1⟩ := HP0.out w1 hb1
  obtain ⟨f0, f1, f2, f3, f4, f5, f6, f7, f8, _, f10, f11, f12⟩ := HFO.out false w1 hP1
  have HPH := mkC hP0
  clear hb1 hP0 hP1 HP0 HID
  go_upto_region 2 with fail
  go_wp2_with fail
  go_region_held (fun wx => (wx.cell? ⟨s.pb, 1, none⟩ = some (.map (some s.gm)) ∧ wx.cell? ⟨w.heap.size, 1, none⟩ = some (.slice (some ⟨eg, eo, none⟩) 3 eC)) ∧ (wx.cell? ⟨eg, eo + 2, none⟩ = some (.slice (some ⟨db, s1, none⟩) n1 c1) ∧ wx.cell? ⟨eg, eo + 2 + 1, none⟩ = some (.slice q1 m1 d1)) ∧ (wx.cell? ⟨eg, eo + 2 * 2, none⟩ = some (.slice (some ⟨db, s2, none⟩) n2 c2) ∧ wx.cell? ⟨eg, eo + 2 * 2 + 1, none⟩ = some (.slice q2 m2 d2)) ∧ (Instr.lookup 55 (.map (some s.gm)) (.string st) false).run Tryz.prog wx = .ok (.pointer gq) wx) (first | exact HSK.out _ _ HPH.out | exact HSK2.out _ HPH.out _ _ _ _) (first
   | (go_at_call 61; refine (HNMC.out _ _ HPH.out).mono ?_; rintro e w2 ⟨v, rfl, rfl, hph2⟩; have HPH := mkC hph2; obtain ⟨_, _, _, _, _, _, _, _, _, _, f10, f11, f12⟩ := HFO.out _ w2 hph2; clear hph2)
   | (go_at_call 115; refine (HEXC.out _ HPH.out).mono ?_; intro e w2 hh; rcases hh with hh | hh; rotate_left; (obtain ⟨ch, rfl, hch⟩ := hh; exact ⟨rfl, (by rw [hch.2.1]; exact ⟨hch.1, hch.2.2⟩)⟩); obtain ⟨v, rfl, f, bd, cp, rfl, hph2⟩ := hh; have HPH := mkC hph2; obtain ⟨_, _, _, _, _, _, _, _, _, _, f10, f11, f12⟩ := HFO.out _ w2 hph2; clear hph2))
  all_goals
   obtain ⟨hbk, hfin⟩ := HEND.out _ HPH.out
   have r0 := form_cells hbk gq f bd cp
   have HR0 := mkC r0
   have HF := mkC (hfin gq f bd cp)
   clear hbk hfin r0
   go_wp2_with fail
   have r1 := HR0.out
   exact bodyPost_ret (v := .agg #[.pointer gq, .func f bd cp]) (by simp [results, Tryz.results63, go_sem, r1.1, r1.2]) rfl HF.out
end Cp
end Go.Proofs.YtnnpfoilojicjaaGreatDoor
