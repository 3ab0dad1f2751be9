import Derived.Test.YtnnpfoilojicjaaGreatDoorJk
namespace Go.Proofs.YtnnpfoilojicjaaGreatDoor
open Go.RowKit Ch1
namespace Cp
theorem RdQ.base {c : Cx} {N : Nat} {s : Sg} {o : Option (List (List Int))} {w w2 w' : World} {r : Ending} {A : Value → World → Prop} (h : RdQ c N s o w2 w' r A) (hf : FrP s s w w2) : RdQ c N s o w w' r A := by
 cases o with
 | none => exact h
 | some ns =>
  obtain ⟨u, s', h1, h2, h3, h4, h5, h6⟩ := h
  exact ⟨u, s', h1, h2, h3, hf.trans h4, h5, h6⟩
structure LiH (c : Cx) (s : Sg) (w : World) (db g o s0 n0 c0 : Nat) (q0 : Option Addr) (m0 d0 : Nat) (st : ByteArray) (mq : Option Addr) : Prop where
 bc : ∀ w1, Below w.heap.size w w1 → Below c.w0.heap.size c.w0 w1
 y0 : w.cell? ⟨g, o, none⟩ = some (.slice (some ⟨db, s0, none⟩) n0 c0)
 y1 : w.cell? ⟨g, o + 1, none⟩ = some (.slice q0 m0 d0)
 gl : g < w.heap.size
 nm_ : ∀ w1, Below w.heap.size w w1 → Calls Tryz.prog 61 #[.agg #[.slice (some ⟨db, s0, none⟩) n0 c0, .slice q0 m0 d0]] w1 fun r w' => r = .returned (.string st) ∧ Below w1.heap.size w1 w'
 mn : ∀ w1, Below w.heap.size w w1 → Calls Tryz.prog 159 #[.pointer (some ⟨s.pb, 0, none⟩), .string st] w1 fun r w' => r = .returned (.pointer mq) ∧ Below w1.heap.size w1 w'
def RsD (g o n d : Nat) (pq : Option Addr) : Prop := (d = 0 ∧ n = 0 ∧ pq = some ⟨g, o, none⟩) ∨ (1 ≤ d ∧ n ≤ d ∧ pq = some ⟨g, o + 2, none⟩)
set_option maxRecDepth 20000 in
set_option maxHeartbeats 4000000 in
theorem listA_c {c : Cx} {NN : Nat} {s : Sg} {w : World} {db g o s0 n0 c0 : Nat} {q0 : Option Addr} {m0 d0 : Nat} {st : ByteArray} {mq : Option Addr} (ro : Option (List (List Int))) (n d : Nat) (H : LiH c s w db g o s0 n0 c0 q0 m0 d0 st mq) (t1 : (st.toList == []) = true) (HC : ∀ w2, Below w.heap.size w w2 → Calls Tryz.prog 184 #[.pointer (some ⟨s.pb, 0, none⟩), .slice (some ⟨g, o, none⟩) (n + 1) (d + 1)] w2 fun r w' => RdQ c NN s ro w w' r (fun u _ => MkV u)) :
  Calls Tryz.prog 160 #[.pointer (some ⟨s.pb, 0, none⟩), .slice (some ⟨g, o, none⟩) (n + 1) (d + 1)] w fun r w' => RdQ c NN s ro w w' r (fun u _ => MkV u) := by
 have HNM := mkC H.nm_
 have HCC : Hid (∀ w2, Below w.heap.size w w2 → Calls Tryz.prog 184 #[.pointer (some ⟨s.pb, 0, none⟩), .slice (some ⟨g, o, none⟩) (n + 1) (d + 1)] w2 fun r w' => RdQ c NN s ro w w' r (fun u _ => MkV u)) := HC
 have y0 := H.y0
 have y1 := H.y1
 have hgl := H.gl
 clear H HC
 go_enter Tryz.func160, Tryz.ntmps160
 go_wp2_with fail
 refine (needGrammar_t w).mono ?_
 rintro r w1 ⟨⟨u, rfl⟩, hw1⟩
 have hw1' := hw1.symm
 clear hw1
 subst hw1'
 go_wp2_with fail
 refine (HNM.out w (Below.refl _ _)).mono ?_
 rintro r w1 ⟨rfl, hb1⟩
 have HCX := mkC (HCC.out w1 hb1)
 clear hb1 HCC
 go_wp2_with fail
 refine HCX.out.mono ?_
 intro r w2 hr
 cases ro with
 | none =>
  obtain ⟨rfl, hb3⟩ := hr
  exact ⟨rfl, rfl, hb3⟩
 | some ns =>
  obtain ⟨u2, s', rfl, ⟨f, b, cp, rfl⟩, h3⟩ := hr
  have HF : Hid (RdQ c NN s (some ns) w w2 (.returned (.func f b cp)) (fun u _ => MkV u)) := ⟨_, s', rfl, ⟨f, b, cp, rfl⟩, h3⟩
  clear h3
  go_wp2_with fail
  go_ret
  exact HF.out
set_option maxRecDepth 20000 in
set_option maxHeartbeats 4000000 in
theorem listB_c {c : Cx} {NN : Nat} {s : Sg} {w : World} {db g o s0 n0 c0 : Nat} {q0 : Option Addr} {m0 d0 : Nat} {st : ByteArray} {ma : Addr} (ro : Option (List (List Int))) (n d : Nat) (H : LiH c s w db g o s0 n0 c0 q0 m0 d0 st (some ma)) (t1 : (st.toList == []) = false) (HC : ∀ w2, Below w.heap.size w w2 → Calls Tryz.prog 184 #[.pointer (some ⟨s.pb, 0, none⟩), .slice (some ⟨g, o, none⟩) (n + 1) (d + 1)] w2 fun r w' => RdQ c NN s ro w w' r (fun u _ => MkV u)) :
  Calls Tryz.prog 160 #[.pointer (some ⟨s.pb, 0, none⟩), .slice (some ⟨g, o, none⟩) (n + 1) (d + 1)] w fun r w' => RdQ c NN s ro w w' r (fun u _ => MkV u) := by
 have HNM := mkC H.nm_
 have HMN := mkC H.mn
 have HCC : Hid (∀ w2, Below w.heap.size w w2 → Calls Tryz.prog 184 #[.pointer (some ⟨s.pb, 0, none⟩), .slice (some ⟨g, o, none⟩) (n + 1) (d + 1)] w2 fun r w' => RdQ c NN s ro w w' r (fun u _ => MkV u)) := HC
 have y0 := H.y0
 have y1 := H.y1
 have hgl := H.gl
 clear H HC
 go_enter Tryz.func160, Tryz.ntmps160
 go_wp2_with fail
 refine (needGrammar_t w).mono ?_
 rintro r w1 ⟨⟨u, rfl⟩, hw1⟩
 have hw1' := hw1.symm
 clear hw1
 subst hw1'
 go_wp2_with fail
 refine (HNM.out w (Below.refl _ _)).mono ?_
 rintro r w1 ⟨rfl, hb1⟩
 have HMX := mkC (HMN.out w1 hb1)
 have HB1 := mkC hb1
 clear hb1 HMN HNM
 go_wp2_with fail
 refine HMX.out.mono ?_
 rintro r w2 ⟨rfl, hb2⟩
 have HCX := mkC (HCC.out w2 (HB1.out.trans (hb2.mono HB1.out.size)))
 clear hb2 HCC HMX
 go_wp2_with fail
 refine HCX.out.mono ?_
 intro r w3 hr
 cases ro with
 | none =>
  obtain ⟨rfl, hb3⟩ := hr
  exact ⟨rfl, rfl, hb3⟩
 | some ns =>
  obtain ⟨u2, s', rfl, ⟨f, b, cp, rfl⟩, h3⟩ := hr
  have HF : Hid (RdQ c NN s (some ns) w w3 (.returned (.func f b cp)) (fun u _ => MkV u)) := ⟨_, s', rfl, ⟨f, b, cp, rfl⟩, h3⟩
  clear h3
  go_wp2_with fail
  go_ret
  exact HF.out
set_option maxRecDepth 20000 in
set_option maxHeartbeats 4000000 in
theorem listQuote_c {c : Cx} {NN : Nat} {s : Sg} {w : World} {db g o s0 n0 c0 : Nat} {q0 : Option Addr} {m0 d0 : Nat} {st : ByteArray} (ro : Option (List (List Int))) (n d : Nat) (pq : Option Addr) (hd : RsD g o n d pq) (H : LiH c s w db g o s0 n0 c0 q0 m0 d0 st none) (t1 : (st.toList == []) = false) (hlk : ∀ w2, Below w.heap.size w w2 → w2.cell? ⟨s.pb, 0, none⟩ = some (.map (some s.wm)) ∧ s.pb < w2.heap.size ∧ (Instr.lookup 54 (.map (some s.wm)) (.string st) true).run Tryz.prog w2 = .ok (.tuple #[.func (.func 49) #[.pointer (some ⟨s.pb, 0, none⟩)] #[], .bool true]) w2) (HC : ∀ w2, Below w.heap.size w w2 → Calls Tryz.prog 49 #[.pointer (some ⟨s.pb, 0, none⟩), .slice pq n d] w2 fun r w' => RdQ c NN s ro w w' r (fun u _ => MkV u)) :
  Calls Tryz.prog 160 #[.pointer (some ⟨s.pb, 0, none⟩), .slice (some ⟨g, o, none⟩) (n + 1) (d + 1)] w fun r w' => RdQ c NN s ro w w' r (fun u _ => MkV u) := by
 have HNM := mkC H.nm_
 have HMN := mkC H.mn
 have HCC : Hid (∀ w2, Below w.heap.size w w2 → Calls Tryz.prog 49 #[.pointer (some ⟨s.pb, 0, none⟩), .slice pq n d] w2 fun r w' => RdQ c NN s ro w w' r (fun u _ => MkV u)) := HC
 have HLK := mkC hlk
 have y0 := H.y0
 have y1 := H.y1
 have hgl := H.gl
 clear H HC hlk
 have hn1 : (1 : Int) ≤ (n : Int) + 1 := by omega
 rcases hd with ⟨rfl, rfl, rfl⟩ | ⟨hd1, hnd, rfl⟩
 all_goals
  go_enter Tryz.func160, Tryz.ntmps160
  go_wp2_with fail
  refine (needGrammar_t w).mono ?_
  rintro r w1 ⟨⟨u, rfl⟩, hw1⟩
  have hw1' := hw1.symm
  clear hw1
  subst hw1'
  go_wp2_with fail
  refine (HNM.out w (Below.refl _ _)).mono ?_
  rintro r w1 ⟨rfl, hb1⟩
  have HMX := mkC (HMN.out w1 hb1)
  have HB1 := mkC hb1
  clear hb1 HMN HNM
  go_wp2_with fail
  refine HMX.out.mono ?_
  rintro r w2 ⟨rfl, hb2⟩
  have HB2 := mkC (HB1.out.trans (hb2.mono HB1.out.size))
  obtain ⟨k0, kl, klk⟩ := HLK.out w2 HB2.out
  have HCX := mkC (HCC.out w2 HB2.out)
  clear hb2 HCC HMX HLK
  go_wp2_with fail
  refine HCX.out.mono ?_
  intro r w3 hr
  cases ro with
  | none =>
   obtain ⟨rfl, hb3⟩ := hr
   exact ⟨rfl, rfl, hb3⟩
  | some ns =>
   obtain ⟨u2, s', rfl, ⟨f, b, cp, rfl⟩, h3⟩ := hr
   have HF : Hid (RdQ c NN s (some ns) w w3 (.returned (.func f b cp)) (fun u _ => MkV u)) := ⟨_, s', rfl, ⟨f, b, cp, rfl⟩, h3⟩
   clear h3
   go_wp2_with fail
   go_ret
   exact HF.out
set_option maxRecDepth 20000 in
set_option maxHeartbeats 4000000 in
theorem listIf_c {c : Cx} {NN : Nat} {s : Sg} {w : World} {db g o s0 n0 c0 : Nat} {q0 : Option Addr} {m0 d0 : Nat} {st : ByteArray} (ro : Option (List (List Int))) (n d : Nat) (pq : Option Addr) (hd : RsD g o n d pq) (H : LiH c s w db g o s0 n0 c0 q0 m0 d0 st none) (t1 : (st.toList == []) = false) (hlk : ∀ w2, Below w.heap.size w w2 → w2.cell? ⟨s.pb, 0, none⟩ = some (.map (some s.wm)) ∧ s.pb < w2.heap.size ∧ (Instr.lookup 54 (.map (some s.wm)) (.string st) true).run Tryz.prog w2 = .ok (.tuple #[.func (.func 50) #[.pointer (some ⟨s.pb, 0, none⟩)] #[], .bool true]) w2) (HC : ∀ w2, Below w.heap.size w w2 → Calls Tryz.prog 50 #[.pointer (some ⟨s.pb, 0, none⟩), .slice pq n d] w2 fun r w' => RdQ c NN s ro w w' r (fun u _ => MkV u)) :
  Calls Tryz.prog 160 #[.pointer (some ⟨s.pb, 0, none⟩), .slice (some ⟨g, o, none⟩) (n + 1) (d + 1)] w fun r w' => RdQ c NN s ro w w' r (fun u _ => MkV u) := by
 have HNM := mkC H.nm_
 have HMN := mkC H.mn
 have HCC : Hid (∀ w2, Below w.heap.size w w2 → Calls Tryz.prog 50 #[.pointer (some ⟨s.pb, 0, none⟩), .slice pq n d] w2 fun r w' => RdQ c NN s ro w w' r (fun u _ => MkV u)) := HC
 have HLK := mkC hlk
 have y0 := H.y0
 have y1 := H.y1
 have hgl := H.gl
 clear H HC hlk
 have hn1 : (1 : Int) ≤ (n : Int) + 1 := by omega
 rcases hd with ⟨rfl, rfl, rfl⟩ | ⟨hd1, hnd, rfl⟩
 all_goals
  go_enter Tryz.func160, Tryz.ntmps160
  go_wp2_with fail
  refine (needGrammar_t w).mono ?_
  rintro r w1 ⟨⟨u, rfl⟩, hw1⟩
  have hw1' := hw1.symm
  clear hw1
  subst hw1'
  go_wp2_with fail
  refine (HNM.out w (Below.refl _ _)).mono ?_
  rintro r w1 ⟨rfl, hb1⟩
  have HMX := mkC (HMN.out w1 hb1)
  have HB1 := mkC hb1
  clear hb1 HMN HNM
  go_wp2_with fail
  refine HMX.out.mono ?_
  rintro r w2 ⟨rfl, hb2⟩
  have HB2 := mkC (HB1.out.trans (hb2.mono HB1.out.size))
  obtain ⟨k0, kl, klk⟩ := HLK.out w2 HB2.out
  have HCX := mkC (HCC.out w2 HB2.out)
  clear hb2 HCC HMX HLK
  go_wp2_with fail
  refine HCX.out.mono ?_
  intro r w3 hr
  cases ro with
  | none =>
   obtain ⟨rfl, hb3⟩ := hr
   exact ⟨rfl, rfl, hb3⟩
  | some ns =>
   obtain ⟨u2, s', rfl, ⟨f, b, cp, rfl⟩, h3⟩ := hr
   have HF : Hid (RdQ c NN s (some ns) w w3 (.returned (.func f b cp)) (fun u _ => MkV u)) := ⟨_, s', rfl, ⟨f, b, cp, rfl⟩, h3⟩
   clear h3
   go_wp2_with fail
   go_ret
   exact HF.out
set_option maxRecDepth 20000 in
set_option maxHeartbeats 4000000 in
theorem listLambda_c {c : Cx} {NN : Nat} {s : Sg} {w : World} {db g o s0 n0 c0 : Nat} {q0 : Option Addr} {m0 d0 : Nat} {st : ByteArray} (ro : Option (List (List Int))) (n d : Nat) (pq : Option Addr) (hd : RsD g o n d pq) (H : LiH c s w db g o s0 n0 c0 q0 m0 d0 st none) (t1 : (st.toList == []) = false) (hlk : ∀ w2, Below w.heap.size w w2 → w2.cell? ⟨s.pb, 0, none⟩ = some (.map (some s.wm)) ∧ s.pb < w2.heap.size ∧ (Instr.lookup 54 (.map (some s.wm)) (.string st) true).run Tryz.prog w2 = .ok (.tuple #[.func (.func 51) #[.pointer (some ⟨s.pb, 0, none⟩)] #[], .bool true]) w2) (HC : ∀ w2, Below w.heap.size w w2 → Calls Tryz.prog 51 #[.pointer (some ⟨s.pb, 0, none⟩), .slice pq n d] w2 fun r w' => RdQ c NN s ro w w' r (fun u _ => MkV u)) :
  Calls Tryz.prog 160 #[.pointer (some ⟨s.pb, 0, none⟩), .slice (some ⟨g, o, none⟩) (n + 1) (d + 1)] w fun r w' => RdQ c NN s ro w w' r (fun u _ => MkV u) := by
 have HNM := mkC H.nm_
 have HMN := mkC H.mn
 have HCC : Hid (∀ w2, Below w.heap.size w w2 → Calls Tryz.prog 51 #[.pointer (some ⟨s.pb, 0, none⟩), .slice pq n d] w2 fun r w' => RdQ c NN s ro w w' r (fun u _ => MkV u)) := HC
 have HLK := mkC hlk
 have y0 := H.y0
 have y1 := H.y1
 have hgl := H.gl
 clear H HC hlk
 have hn1 : (1 : Int) ≤ (n : Int) + 1 := by omega
 rcases hd with ⟨rfl, rfl, rfl⟩ | ⟨hd1, hnd, rfl⟩
 all_goals
  go_enter Tryz.func160, Tryz.ntmps160
  go_wp2_with fail
  refine (needGrammar_t w).mono ?_
  rintro r w1 ⟨⟨u, rfl⟩, hw1⟩
  have hw1' := hw1.symm
  clear hw1
  subst hw1'
  go_wp2_with fail
  refine (HNM.out w (Below.refl _ _)).mono ?_
  rintro r w1 ⟨rfl, hb1⟩
  have HMX := mkC (HMN.out w1 hb1)
  have HB1 := mkC hb1
  clear hb1 HMN HNM
  go_wp2_with fail
  refine HMX.out.mono ?_
  rintro r w2 ⟨rfl, hb2⟩
  have HB2 := mkC (HB1.out.trans (hb2.mono HB1.out.size))
  obtain ⟨k0, kl, klk⟩ := HLK.out w2 HB2.out
  have HCX := mkC (HCC.out w2 HB2.out)
  clear hb2 HCC HMX HLK
  go_wp2_with fail
  refine HCX.out.mono ?_
  intro r w3 hr
  cases ro with
  | none =>
   obtain ⟨rfl, hb3⟩ := hr
   exact ⟨rfl, rfl, hb3⟩
  | some ns =>
   obtain ⟨u2, s', rfl, ⟨f, b, cp, rfl⟩, h3⟩ := hr
   have HF : Hid (RdQ c NN s (some ns) w w3 (.returned (.func f b cp)) (fun u _ => MkV u)) := ⟨_, s', rfl, ⟨f, b, cp, rfl⟩, h3⟩
   clear h3
   go_wp2_with fail
   go_ret
   exact HF.out
set_option maxRecDepth 20000 in
set_option maxHeartbeats 4000000 in
theorem listLet_c {c : Cx} {NN : Nat} {s : Sg} {w : World} {db g o s0 n0 c0 : Nat} {q0 : Option Addr} {m0 d0 : Nat} {st : ByteArray} (ro : Option (List (List Int))) (n d : Nat) (pq : Option Addr) (hd : RsD g o n d pq) (H : LiH c s w db g o s0 n0 c0 q0 m0 d0 st none) (t1 : (st.toList == []) = false) (hlk : ∀ w2, Below w.heap.size w w2 → w2.cell? ⟨s.pb, 0, none⟩ = some (.map (some s.wm)) ∧ s.pb < w2.heap.size ∧ (Instr.lookup 54 (.map (some s.wm)) (.string st) true).run Tryz.prog w2 = .ok (.tuple #[.func (.func 52) #[.pointer (some ⟨s.pb, 0, none⟩)] #[], .bool true]) w2) (HC : ∀ w2, Below w.heap.size w w2 → Calls Tryz.prog 52 #[.pointer (some ⟨s.pb, 0, none⟩), .slice pq n d] w2 fun r w' => RdQ c NN s ro w w' r (fun u _ => MkV u)) :
  Calls Tryz.prog 160 #[.pointer (some ⟨s.pb, 0, none⟩), .slice (some ⟨g, o, none⟩) (n + 1) (d + 1)] w fun r w' => RdQ c NN s ro w w' r (fun u _ => MkV u) := by
 have HNM := mkC H.nm_
 have HMN := mkC H.mn
 have HCC : Hid (∀ w2, Below w.heap.size w w2 → Calls Tryz.prog 52 #[.pointer (some ⟨s.pb, 0, none⟩), .slice pq n d] w2 fun r w' => RdQ c NN s ro w w' r (fun u _ => MkV u)) := HC
 have HLK := mkC hlk
 have y0 := H.y0
 have y1 := H.y1
 have hgl := H.gl
 clear H HC hlk
 have hn1 : (1 : Int) ≤ (n : Int) + 1 := by omega
 rcases hd with ⟨rfl, rfl, rfl⟩ | ⟨hd1, hnd, rfl⟩
 all_goals
  go_enter Tryz.func160, Tryz.ntmps160
  go_wp2_with fail
  refine (needGrammar_t w).mono ?_
  rintro r w1 ⟨⟨u, rfl⟩, hw1⟩
  have hw1' := hw1.symm
  clear hw1
  subst hw1'
  go_wp2_with fail
  refine (HNM.out w (Below.refl _ _)).mono ?_
  rintro r w1 ⟨rfl, hb1⟩
  have HMX := mkC (HMN.out w1 hb1)
  have HB1 := mkC hb1
  clear hb1 HMN HNM
  go_wp2_with fail
  refine HMX.out.mono ?_
  rintro r w2 ⟨rfl, hb2⟩
  have HB2 := mkC (HB1.out.trans (hb2.mono HB1.out.size))
  obtain ⟨k0, kl, klk⟩ := HLK.out w2 HB2.out
  have HCX := mkC (HCC.out w2 HB2.out)
  clear hb2 HCC HMX HLK
  go_wp2_with fail
  refine HCX.out.mono ?_
  intro r w3 hr
  cases ro with
  | none =>
   obtain ⟨rfl, hb3⟩ := hr
   exact ⟨rfl, rfl, hb3⟩
  | some ns =>
   obtain ⟨u2, s', rfl, ⟨f, b, cp, rfl⟩, h3⟩ := hr
   have HF : Hid (RdQ c NN s (some ns) w w3 (.returned (.func f b cp)) (fun u _ => MkV u)) := ⟨_, s', rfl, ⟨f, b, cp, rfl⟩, h3⟩
   clear h3
   go_wp2_with fail
   go_ret
   exact HF.out
set_option maxRecDepth 20000 in
set_option maxHeartbeats 4000000 in
theorem listLetrec_c {c : Cx} {NN : Nat} {s : Sg} {w : World} {db g o s0 n0 c0 : Nat} {q0 : Option Addr} {m0 d0 : Nat} {st : ByteArray} (ro : Option (List (List Int))) (n d : Nat) (pq : Option Addr) (hd : RsD g o n d pq) (H : LiH c s w db g o s0 n0 c0 q0 m0 d0 st none) (t1 : (st.toList == []) = false) (hlk : ∀ w2, Below w.heap.size w w2 → w2.cell? ⟨s.pb, 0, none⟩ = some (.map (some s.wm)) ∧ s.pb < w2.heap.size ∧ (Instr.lookup 54 (.map (some s.wm)) (.string st) true).run Tryz.prog w2 = .ok (.tuple #[.func (.func 53) #[.pointer (some ⟨s.pb, 0, none⟩)] #[], .bool true]) w2) (HC : ∀ w2, Below w.heap.size w w2 → Calls Tryz.prog 53 #[.pointer (some ⟨s.pb, 0, none⟩), .slice pq n d] w2 fun r w' => RdQ c NN s ro w w' r (fun u _ => MkV u)) :
  Calls Tryz.prog 160 #[.pointer (some ⟨s.pb, 0, none⟩), .slice (some ⟨g, o, none⟩) (n + 1) (d + 1)] w fun r w' => RdQ c NN s ro w w' r (fun u _ => MkV u) := by
 have HNM := mkC H.nm_
 have HMN := mkC H.mn
 have HCC : Hid (∀ w2, Below w.heap.size w w2 → Calls Tryz.prog 53 #[.pointer (some ⟨s.pb, 0, none⟩), .slice pq n d] w2 fun r w' => RdQ c NN s ro w w' r (fun u _ => MkV u)) := HC
 have HLK := mkC hlk
 have y0 := H.y0
 have y1 := H.y1
 have hgl := H.gl
 clear H HC hlk
 have hn1 : (1 : Int) ≤ (n : Int) + 1 := by omega
 rcases hd with ⟨rfl, rfl, rfl⟩ | ⟨hd1, hnd, rfl⟩
 all_goals
  go_enter Tryz.func160, Tryz.ntmps160
  go_wp2_with fail
  refine (needGrammar_t w).mono ?_
  rintro r w1 ⟨⟨u, rfl⟩, hw1⟩
  have hw1' := hw1.symm
  clear hw1
  subst hw1'
  go_wp2_with fail
  refine (HNM.out w (Below.refl _ _)).mono ?_
  rintro r w1 ⟨rfl, hb1⟩
  have HMX := mkC (HMN.out w1 hb1)
  have HB1 := mkC hb1
  clear hb1 HMN HNM
  go_wp2_with fail
  refine HMX.out.mono ?_
  rintro r w2 ⟨rfl, hb2⟩
  have HB2 := mkC (HB1.out.trans (hb2.mono HB1.out.size))
  obtain ⟨k0, kl, klk⟩ := HLK.out w2 HB2.out
  have HCX := mkC (HCC.out w2 HB2.out)
  clear hb2 HCC HMX HLK
  go_wp2_with fail
  refine HCX.out.mono ?_
  intro r w3 hr
  cases ro with
  | none =>
   obtain ⟨rfl, hb3⟩ := hr
   exact ⟨rfl, rfl, hb3⟩
  | some ns =>
   obtain ⟨u2, s', rfl, ⟨f, b, cp, rfl⟩, h3⟩ := hr
   have HF : Hid (RdQ c NN s (some ns) w w3 (.returned (.func f b cp)) (fun u _ => MkV u)) := ⟨_, s', rfl, ⟨f, b, cp, rfl⟩, h3⟩
   clear h3
   go_wp2_with fail
   go_ret
   exact HF.out
set_option maxRecDepth 20000 in
set_option maxHeartbeats 4000000 in
theorem listSet_c {c : Cx} {NN : Nat} {s : Sg} {w : World} {db g o s0 n0 c0 : Nat} {q0 : Option Addr} {m0 d0 : Nat} {st : ByteArray} (ro : Option (List (List Int))) (n d : Nat) (pq : Option Addr) (hd : RsD g o n d pq) (H : LiH c s w db g o s0 n0 c0 q0 m0 d0 st none) (t1 : (st.toList == []) = false) (hlk : ∀ w2, Below w.heap.size w w2 → w2.cell? ⟨s.pb, 0, none⟩ = some (.map (some s.wm)) ∧ s.pb < w2.heap.size ∧ (Instr.lookup 54 (.map (some s.wm)) (.string st) true).run Tryz.prog w2 = .ok (.tuple #[.func (.func 54) #[.pointer (some ⟨s.pb, 0, none⟩)] #[], .bool true]) w2) (HC : ∀ w2, Below w.heap.size w w2 → Calls Tryz.prog 54 #[.pointer (some ⟨s.pb, 0, none⟩), .slice pq n d] w2 fun r w' => RdQ c NN s ro w w' r (fun u _ => MkV u)) :
  Calls Tryz.prog 160 #[.pointer (some ⟨s.pb, 0, none⟩), .slice (some ⟨g, o, none⟩) (n + 1) (d + 1)] w fun r w' => RdQ c NN s ro w w' r (fun u _ => MkV u) := by
 have HNM := mkC H.nm_
 have HMN := mkC H.mn
 have HCC : Hid (∀ w2, Below w.heap.size w w2 → Calls Tryz.prog 54 #[.pointer (some ⟨s.pb, 0, none⟩), .slice pq n d] w2 fun r w' => RdQ c NN s ro w w' r (fun u _ => MkV u)) := HC
 have HLK := mkC hlk
 have y0 := H.y0
 have y1 := H.y1
 have hgl := H.gl
 clear H HC hlk
 have hn1 : (1 : Int) ≤ (n : Int) + 1 := by omega
 rcases hd with ⟨rfl, rfl, rfl⟩ | ⟨hd1, hnd, rfl⟩
 all_goals
  go_enter Tryz.func160, Tryz.ntmps160
  go_wp2_with fail
  refine (needGrammar_t w).mono ?_
  rintro r w1 ⟨⟨u, rfl⟩, hw1⟩
  have hw1' := hw1.symm
  clear hw1
  subst hw1'
  go_wp2_with fail
  refine (HNM.out w (Below.refl _ _)).mono ?_
  rintro r w1 ⟨rfl, hb1⟩
  have HMX := mkC (HMN.out w1 hb1)
  have HB1 := mkC hb1
  clear hb1 HMN HNM
  go_wp2_with fail
  refine HMX.out.mono ?_
  rintro r w2 ⟨rfl, hb2⟩
  have HB2 := mkC (HB1.out.trans (hb2.mono HB1.out.size))
  obtain ⟨k0, kl, klk⟩ := HLK.out w2 HB2.out
  have HCX := mkC (HCC.out w2 HB2.out)
  clear hb2 HCC HMX HLK
  go_wp2_with fail
  refine HCX.out.mono ?_
  intro r w3 hr
  cases ro with
  | none =>
   obtain ⟨rfl, hb3⟩ := hr
   exact ⟨rfl, rfl, hb3⟩
  | some ns =>
   obtain ⟨u2, s', rfl, ⟨f, b, cp, rfl⟩, h3⟩ := hr
   have HF : Hid (RdQ c NN s (some ns) w w3 (.returned (.func f b cp)) (fun u _ => MkV u)) := ⟨_, s', rfl, ⟨f, b, cp, rfl⟩, h3⟩
   clear h3
   go_wp2_with fail
   go_ret
   exact HF.out
set_option maxRecDepth 20000 in
set_option maxHeartbeats 4000000 in
theorem listBegin_c {c : Cx} {NN : Nat} {s : Sg} {w : World} {db g o s0 n0 c0 : Nat} {q0 : Option Addr} {m0 d0 : Nat} {st : ByteArray} (ro : Option (List (List Int))) (n d : Nat) (pq : Option Addr) (hd : RsD g o n d pq) (H : LiH c s w db g o s0 n0 c0 q0 m0 d0 st none) (t1 : (st.toList == []) = false) (hlk : ∀ w2, Below w.heap.size w w2 → w2.cell? ⟨s.pb, 0, none⟩ = some (.map (some s.wm)) ∧ s.pb < w2.heap.size ∧ (Instr.lookup 54 (.map (some s.wm)) (.string st) true).run Tryz.prog w2 = .ok (.tuple #[.func (.func 55) #[.pointer (some ⟨s.pb, 0, none⟩)] #[], .bool true]) w2) (HC : ∀ w2, Below w.heap.size w w2 → Calls Tryz.prog 55 #[.pointer (some ⟨s.pb, 0, none⟩), .slice pq n d] w2 fun r w' => RdQ c NN s ro w w' r (fun u _ => MkV u)) :
  Calls Tryz.prog 160 #[.pointer (some ⟨s.pb, 0, none⟩), .slice (some ⟨g, o, none⟩) (n + 1) (d + 1)] w fun r w' => RdQ c NN s ro w w' r (fun u _ => MkV u) := by
 have HNM := mkC H.nm_
 have HMN := mkC H.mn
 have HCC : Hid (∀ w2, Below w.heap.size w w2 → Calls Tryz.prog 55 #[.pointer (some ⟨s.pb, 0, none⟩), .slice pq n d] w2 fun r w' => RdQ c NN s ro w w' r (fun u _ => MkV u)) := HC
 have HLK := mkC hlk
 have y0 := H.y0
 have y1 := H.y1
 have hgl := H.gl
 clear H HC hlk
 have hn1 : (1 : Int) ≤ (n : Int) + 1 := by omega
 rcases hd with ⟨rfl, rfl, rfl⟩ | ⟨hd1, hnd, rfl⟩
 all_goals
  go_enter Tryz.func160, Tryz.ntmps160
  go_wp2_with fail
  refine (needGrammar_t w).mono ?_
  rintro r w1 ⟨⟨u, rfl⟩, hw1⟩
  have hw1' := hw1.symm
  clear hw1
  subst hw1'
  go_wp2_with fail
  refine (HNM.out w (Below.refl _ _)).mono ?_
  rintro r w1 ⟨rfl, hb1⟩
  have HMX := mkC (HMN.out w1 hb1)
  have HB1 := mkC hb1
  clear hb1 HMN HNM
  go_wp2_with fail
  refine HMX.out.mono ?_
  rintro r w2 ⟨rfl, hb2⟩
  have HB2 := mkC (HB1.out.trans (hb2.mono HB1.out.size))
  obtain ⟨k0, kl, klk⟩ := HLK.out w2 HB2.out
  have HCX := mkC (HCC.out w2 HB2.out)
  clear hb2 HCC HMX HLK
  go_wp2_with fail
  refine HCX.out.mono ?_
  intro r w3 hr
  cases ro with
  | none =>
   obtain ⟨rfl, hb3⟩ := hr
   exact ⟨rfl, rfl, hb3⟩
  | some ns =>
   obtain ⟨u2, s', rfl, ⟨f, b, cp, rfl⟩, h3⟩ := hr
   have HF : Hid (RdQ c NN s (some ns) w w3 (.returned (.func f b cp)) (fun u _ => MkV u)) := ⟨_, s', rfl, ⟨f, b, cp, rfl⟩, h3⟩
   clear h3
   go_wp2_with fail
   go_ret
   exact HF.out
set_option maxRecDepth 20000 in
set_option maxHeartbeats 4000000 in
theorem listAnd_c {c : Cx} {NN : Nat} {s : Sg} {w : World} {db g o s0 n0 c0 : Nat} {q0 : Option Addr} {m0 d0 : Nat} {st : ByteArray} (ro : Option (List (List Int))) (n d : Nat) (pq : Option Addr) (hd : RsD g o n d pq) (H : LiH c s w db g o s0 n0 c0 q0 m0 d0 st none) (t1 : (st.toList == []) = false) (hlk : ∀ w2, Below w.heap.size w w2 → w2.cell? ⟨s.pb, 0, none⟩ = some (.map (some s.wm)) ∧ s.pb < w2.heap.size ∧ (Instr.lookup 54 (.map (some s.wm)) (.string st) true).run Tryz.prog w2 = .ok (.tuple #[.func (.func 56) #[.pointer (some ⟨s.pb, 0, none⟩)] #[], .bool true]) w2) (HC : ∀ w2, Below w.heap.size w w2 → Calls Tryz.prog 56 #[.pointer (some ⟨s.pb, 0, none⟩), .slice pq n d] w2 fun r w' => RdQ c NN s ro w w' r (fun u _ => MkV u)) :
  Calls Tryz.prog 160 #[.pointer (some ⟨s.pb, 0, none⟩), .slice (some ⟨g, o, none⟩) (n + 1) (d + 1)] w fun r w' => RdQ c NN s ro w w' r (fun u _ => MkV u) := by
 have HNM := mkC H.nm_
 have HMN := mkC H.mn
 have HCC : Hid (∀ w2, Below w.heap.size w w2 → Calls Tryz.prog 56 #[.pointer (some ⟨s.pb, 0, none⟩), .slice pq n d] w2 fun r w' => RdQ c NN s ro w w' r (fun u _ => MkV u)) := HC
 have HLK := mkC hlk
 have y0 := H.y0
 have y1 := H.y1
 have hgl := H.gl
 clear H HC hlk
 have hn1 : (1 : Int) ≤ (n : Int) + 1 := by omega
 rcases hd with ⟨rfl, rfl, rfl⟩ | ⟨hd1, hnd, rfl⟩
 all_goals
  go_enter Tryz.func160, Tryz.ntmps160
  go_wp2_with fail
  refine (needGrammar_t w).mono ?_
  rintro r w1 ⟨⟨u, rfl⟩, hw1⟩
  have hw1' := hw1.symm
  clear hw1
  subst hw1'
  go_wp2_with fail
  refine (HNM.out w (Below.refl _ _)).mono ?_
  rintro r w1 ⟨rfl, hb1⟩
  have HMX := mkC (HMN.out w1 hb1)
  have HB1 := mkC hb1
  clear hb1 HMN HNM
  go_wp2_with fail
  refine HMX.out.mono ?_
  rintro r w2 ⟨rfl, hb2⟩
  have HB2 := mkC (HB1.out.trans (hb2.mono HB1.out.size))
  obtain ⟨k0, kl, klk⟩ := HLK.out w2 HB2.out
  have HCX := mkC (HCC.out w2 HB2.out)
  clear hb2 HCC HMX HLK
  go_wp2_with fail
  refine HCX.out.mono ?_
  intro r w3 hr
  cases ro with
  | none =>
   obtain ⟨rfl, hb3⟩ := hr
   exact ⟨rfl, rfl, hb3⟩
  | some ns =>
   obtain ⟨u2, s', rfl, ⟨f, b, cp, rfl⟩, h3⟩ := hr
   have HF : Hid (RdQ c NN s (some ns) w w3 (.returned (.func f b cp)) (fun u _ => MkV u)) := ⟨_, s', rfl, ⟨f, b, cp, rfl⟩, h3⟩
   clear h3
   go_wp2_with fail
   go_ret
   exact HF.out
set_option maxRecDepth 20000 in
set_option maxHeartbeats 4000000 in
theorem listOr_c {c : Cx} {NN : Nat} {s : Sg} {w : World} {db g o s0 n0 c0 : Nat} {q0 : Option Addr} {m0 d0 : Nat} {st : ByteArray} (ro : Option (List (List Int))) (n d : Nat) (pq : Option Addr) (hd : RsD g o n d pq) (H : LiH c s w db g o s0 n0 c0 q0 m0 d0 st none) (t1 : (st.toList == []) = false) (hlk : ∀ w2, Below w.heap.size w w2 → w2.cell? ⟨s.pb, 0, none⟩ = some (.map (some s.wm)) ∧ s.pb < w2.heap.size ∧ (Instr.lookup 54 (.map (some s.wm)) (.string st) true).run Tryz.prog w2 = .ok (.tuple #[.func (.func 57) #[.pointer (some ⟨s.pb, 0, none⟩)] #[], .bool true]) w2) (HC : ∀ w2, Below w.heap.size w w2 → Calls Tryz.prog 57 #[.pointer (some ⟨s.pb, 0, none⟩), .slice pq n d] w2 fun r w' => RdQ c NN s ro w w' r (fun u _ => MkV u)) :
  Calls Tryz.prog 160 #[.pointer (some ⟨s.pb, 0, none⟩), .slice (some ⟨g, o, none⟩) (n + 1) (d + 1)] w fun r w' => RdQ c NN s ro w w' r (fun u _ => MkV u) := by
 have HNM := mkC H.nm_
 have HMN := mkC H.mn
 have HCC : Hid (∀ w2, Below w.heap.size w w2 → Calls Tryz.prog 57 #[.pointer (some ⟨s.pb, 0, none⟩), .slice pq n d] w2 fun r w' => RdQ c NN s ro w w' r (fun u _ => MkV u)) := HC
 have HLK := mkC hlk
 have y0 := H.y0
 have y1 := H.y1
 have hgl := H.gl
 clear H HC hlk
 have hn1 : (1 : Int) ≤ (n : Int) + 1 := by omega
 rcases hd with ⟨rfl, rfl, rfl⟩ | ⟨hd1, hnd, rfl⟩
 all_goals
  go_enter Tryz.func160, Tryz.ntmps160
  go_wp2_with fail
  refine (needGrammar_t w).mono ?_
  rintro r w1 ⟨⟨u, rfl⟩, hw1⟩
  have hw1' := hw1.symm
  clear hw1
  subst hw1'
  go_wp2_with fail
  refine (HNM.out w (Below.refl _ _)).mono ?_
  rintro r w1 ⟨rfl, hb1⟩
  have HMX := mkC (HMN.out w1 hb1)
  have HB1 := mkC hb1
  clear hb1 HMN HNM
  go_wp2_with fail
  refine HMX.out.mono ?_
  rintro r w2 ⟨rfl, hb2⟩
  have HB2 := mkC (HB1.out.trans (hb2.mono HB1.out.size))
  obtain ⟨k0, kl, klk⟩ := HLK.out w2 HB2.out
  have HCX := mkC (HCC.out w2 HB2.out)
  clear hb2 HCC HMX HLK
  go_wp2_with fail
  refine HCX.out.mono ?_
  intro r w3 hr
  cases ro with
  | none =>
   obtain ⟨rfl, hb3⟩ := hr
   exact ⟨rfl, rfl, hb3⟩
  | some ns =>
   obtain ⟨u2, s', rfl, ⟨f, b, cp, rfl⟩, h3⟩ := hr
   have HF : Hid (RdQ c NN s (some ns) w w3 (.returned (.func f b cp)) (fun u _ => MkV u)) := ⟨_, s', rfl, ⟨f, b, cp, rfl⟩, h3⟩
   clear h3
   go_wp2_with fail
   go_ret
   exact HF.out
set_option maxRecDepth 20000 in
set_option maxHeartbeats 4000000 in
theorem listDefine_c {c : Cx} {NN : Nat} {s : Sg} {w : World} {db g o s0 n0 c0 : Nat} {q0 : Option Addr} {m0 d0 : Nat} {st : ByteArray} (ro : Option (List (List Int))) (n d : Nat) (pq : Option Addr) (hd : RsD g o n d pq) (H : LiH c s w db g o s0 n0 c0 q0 m0 d0 st none) (t1 : (st.toList == []) = false) (hlk : ∀ w2, Below w.heap.size w w2 → w2.cell? ⟨s.pb, 0, none⟩ = some (.map (some s.wm)) ∧ s.pb < w2.heap.size ∧ (Instr.lookup 54 (.map (some s.wm)) (.string st) true).run Tryz.prog w2 = .ok (.tuple #[.func (.func 58) #[.pointer (some ⟨s.pb, 0, none⟩)] #[], .bool true]) w2) (HC : ∀ w2, Below w.heap.size w w2 → Calls Tryz.prog 58 #[.pointer (some ⟨s.pb, 0, none⟩), .slice pq n d] w2 fun r w' => RdQ c NN s ro w w' r (fun u _ => MkV u)) :
  Calls Tryz.prog 160 #[.pointer (some ⟨s.pb, 0, none⟩), .slice (some ⟨g, o, none⟩) (n + 1) (d + 1)] w fun r w' => RdQ c NN s ro w w' r (fun u _ => MkV u) := by
 have HNM := mkC H.nm_
 have HMN := mkC H.mn
 have HCC : Hid (∀ w2, Below w.heap.size w w2 → Calls Tryz.prog 58 #[.pointer (some ⟨s.pb, 0, none⟩), .slice pq n d] w2 fun r w' => RdQ c NN s ro w w' r (fun u _ => MkV u)) := HC
 have HLK := mkC hlk
 have y0 := H.y0
 have y1 := H.y1
 have hgl := H.gl
 clear H HC hlk
 have hn1 : (1 : Int) ≤ (n : Int) + 1 := by omega
 rcases hd with ⟨rfl, rfl, rfl⟩ | ⟨hd1, hnd, rfl⟩
 all_goals
  go_enter Tryz.func160, Tryz.ntmps160
  go_wp2_with fail
  refine (needGrammar_t w).mono ?_
  rintro r w1 ⟨⟨u, rfl⟩, hw1⟩
  have hw1' := hw1.symm
  clear hw1
  subst hw1'
  go_wp2_with fail
  refine (HNM.out w (Below.refl _ _)).mono ?_
  rintro r w1 ⟨rfl, hb1⟩
  have HMX := mkC (HMN.out w1 hb1)
  have HB1 := mkC hb1
  clear hb1 HMN HNM
  go_wp2_with fail
  refine HMX.out.mono ?_
  rintro r w2 ⟨rfl, hb2⟩
  have HB2 := mkC (HB1.out.trans (hb2.mono HB1.out.size))
  obtain ⟨k0, kl, klk⟩ := HLK.out w2 HB2.out
  have HCX := mkC (HCC.out w2 HB2.out)
  clear hb2 HCC HMX HLK
  go_wp2_with fail
  refine HCX.out.mono ?_
  intro r w3 hr
  cases ro with
  | none =>
   obtain ⟨rfl, hb3⟩ := hr
   exact ⟨rfl, rfl, hb3⟩
  | some ns =>
   obtain ⟨u2, s', rfl, ⟨f, b, cp, rfl⟩, h3⟩ := hr
   have HF : Hid (RdQ c NN s (some ns) w w3 (.returned (.func f b cp)) (fun u _ => MkV u)) := ⟨_, s', rfl, ⟨f, b, cp, rfl⟩, h3⟩
   clear h3
   go_wp2_with fail
   go_ret
   exact HF.out
set_option maxRecDepth 20000 in
set_option maxHeartbeats 4000000 in
theorem listPrim_c {c : Cx} {NN : Nat} {s : Sg} {w : World} {db g o s0 n0 c0 : Nat} {q0 : Option Addr} {m0 d0 : Nat} {st : ByteArray} (ro : Option (List (List Int))) (n d : Nat) (pq : Option Addr) (hd : RsD g o n d pq) (H : LiH c s w db g o s0 n0 c0 q0 m0 d0 st none) (t1 : (st.toList == []) = false) (j : Nat) (hlk : ∀ w2, Below w.heap.size w w2 → w2.cell? ⟨s.pb, 0, none⟩ = some (.map (some s.wm)) ∧ s.pb < w2.heap.size ∧ (Instr.lookup 54 (.map (some s.wm)) (.string st) true).run Tryz.prog w2 = .ok (.tuple #[.nilFunc, .bool false]) w2 ∧ Calls Tryz.prog 185 #[.string st] w2 fun r w' => r = .returned (.tuple #[.int .i64 (j : Nat), .bool true]) ∧ w' = w2) (HC : ∀ w2, Below w.heap.size w w2 → Calls Tryz.prog 186 #[.pointer (some ⟨s.pb, 0, none⟩), .int .i64 (j : Nat), .slice pq n d] w2 fun r w' => RdQ c NN s ro w w' r (fun u _ => MkV u)) :
  Calls Tryz.prog 160 #[.pointer (some ⟨s.pb, 0, none⟩), .slice (some ⟨g, o, none⟩) (n + 1) (d + 1)] w fun r w' => RdQ c NN s ro w w' r (fun u _ => MkV u) := by
 have HNM := mkC H.nm_
 have HMN := mkC H.mn
 have HCC : Hid (∀ w2, Below w.heap.size w w2 → Calls Tryz.prog 186 #[.pointer (some ⟨s.pb, 0, none⟩), .int .i64 (j : Nat), .slice pq n d] w2 fun r w' => RdQ c NN s ro w w' r (fun u _ => MkV u)) := HC
 have HLK := mkC hlk
 have y0 := H.y0
 have y1 := H.y1
 have hgl := H.gl
 clear H HC hlk
 have hn1 : (1 : Int) ≤ (n : Int) + 1 := by omega
 rcases hd with ⟨rfl, rfl, rfl⟩ | ⟨hd1, hnd, rfl⟩
 all_goals
  go_enter Tryz.func160, Tryz.ntmps160
  go_wp2_with fail
  refine (needGrammar_t w).mono ?_
  rintro r w1 ⟨⟨u, rfl⟩, hw1⟩
  have hw1' := hw1.symm
  clear hw1
  subst hw1'
  go_wp2_with fail
  refine (HNM.out w (Below.refl _ _)).mono ?_
  rintro r w1 ⟨rfl, hb1⟩
  have HMX := mkC (HMN.out w1 hb1)
  have HB1 := mkC hb1
  clear hb1 HMN HNM
  go_wp2_with fail
  refine HMX.out.mono ?_
  rintro r w2 ⟨rfl, hb2⟩
  have HB2 := mkC (HB1.out.trans (hb2.mono HB1.out.size))
  obtain ⟨k0, kl, klk, kpn⟩ := HLK.out w2 HB2.out
  have HCX := mkC (HCC.out w2 HB2.out)
  clear hb2 HCC HMX HLK
  have HPN := mkC kpn
  clear kpn
  go_wp2_with fail
  refine HPN.out.mono ?_
  rintro r w3 ⟨rfl, hw3⟩
  have hw3' := hw3.symm
  clear hw3
  subst hw3'
  go_wp2_with fail
  refine HCX.out.mono ?_
  intro r w3 hr
  cases ro with
  | none =>
   obtain ⟨rfl, hb3⟩ := hr
   exact ⟨rfl, rfl, hb3⟩
  | some ns =>
   obtain ⟨u2, s', rfl, ⟨f, b, cp, rfl⟩, h3⟩ := hr
   have HF : Hid (RdQ c NN s (some ns) w w3 (.returned (.func f b cp)) (fun u _ => MkV u)) := ⟨_, s', rfl, ⟨f, b, cp, rfl⟩, h3⟩
   clear h3
   go_wp2_with fail
   go_ret
   exact HF.out
set_option maxRecDepth 20000 in
set_option maxHeartbeats 4000000 in
theorem listNone_c {c : Cx} {NN : Nat} {s : Sg} {w : World} {db g o s0 n0 c0 : Nat} {q0 : Option Addr} {m0 d0 : Nat} {st : ByteArray} (ro : Option (List (List Int))) (n d : Nat) (pq : Option Addr) (hd : RsD g o n d pq) (H : LiH c s w db g o s0 n0 c0 q0 m0 d0 st none) (t1 : (st.toList == []) = false) (hlk : ∀ w2, Below w.heap.size w w2 → w2.cell? ⟨s.pb, 0, none⟩ = some (.map (some s.wm)) ∧ s.pb < w2.heap.size ∧ (Instr.lookup 54 (.map (some s.wm)) (.string st) true).run Tryz.prog w2 = .ok (.tuple #[.nilFunc, .bool false]) w2 ∧ Calls Tryz.prog 185 #[.string st] w2 fun r w' => r = .returned (.tuple #[.int .i64 0, .bool false]) ∧ w' = w2) (HC : ∀ w2, Below w.heap.size w w2 → Calls Tryz.prog 184 #[.pointer (some ⟨s.pb, 0, none⟩), .slice (some ⟨g, o, none⟩) (n + 1) (d + 1)] w2 fun r w' => RdQ c NN s ro w w' r (fun u _ => MkV u)) :
  Calls Tryz.prog 160 #[.pointer (some ⟨s.pb, 0, none⟩), .slice (some ⟨g, o, none⟩) (n + 1) (d + 1)] w fun r w' => RdQ c NN s ro w w' r (fun u _ => MkV u) := by
 have HNM := mkC H.nm_
 have HMN := mkC H.mn
 have HCC : Hid (∀ w2, Below w.heap.size w w2 → Calls Tryz.prog 184 #[.pointer (some ⟨s.pb, 0, none⟩), .slice (some ⟨g, o, none⟩) (n + 1) (d + 1)] w2 fun r w' => RdQ c NN s ro w w' r (fun u _ => MkV u)) := HC
 have HLK := mkC hlk
 have y0 := H.y0
 have y1 := H.y1
 have hgl := H.gl
 clear H HC hlk
 have hn1 : (1 : Int) ≤ (n : Int) + 1 := by omega
 rcases hd with ⟨rfl, rfl, rfl⟩ | ⟨hd1, hnd, rfl⟩
 all_goals
  go_enter Tryz.func160, Tryz.ntmps160
  go_wp2_with fail
  refine (needGrammar_t w).mono ?_
  rintro r w1 ⟨⟨u, rfl⟩, hw1⟩
  have hw1' := hw1.symm
  clear hw1
  subst hw1'
  go_wp2_with fail
  refine (HNM.out w (Below.refl _ _)).mono ?_
  rintro r w1 ⟨rfl, hb1⟩
  have HMX := mkC (HMN.out w1 hb1)
  have HB1 := mkC hb1
  clear hb1 HMN HNM
  go_wp2_with fail
  refine HMX.out.mono ?_
  rintro r w2 ⟨rfl, hb2⟩
  have HB2 := mkC (HB1.out.trans (hb2.mono HB1.out.size))
  obtain ⟨k0, kl, klk, kpn⟩ := HLK.out w2 HB2.out
  have HCX := mkC (HCC.out w2 HB2.out)
  clear hb2 HCC HMX HLK
  have HPN := mkC kpn
  clear kpn
  go_wp2_with fail
  refine HPN.out.mono ?_
  rintro r w3 ⟨rfl, hw3⟩
  have hw3' := hw3.symm
  clear hw3
  subst hw3'
  go_wp2_with fail
  refine HCX.out.mono ?_
  intro r w3 hr
  cases ro with
  | none =>
   obtain ⟨rfl, hb3⟩ := hr
   exact ⟨rfl, rfl, hb3⟩
  | some ns =>
   obtain ⟨u2, s', rfl, ⟨f, b, cp, rfl⟩, h3⟩ := hr
   have HF : Hid (RdQ c NN s (some ns) w w3 (.returned (.func f b cp)) (fun u _ => MkV u)) := ⟨_, s', rfl, ⟨f, b, cp, rfl⟩, h3⟩
   clear h3
   go_wp2_with fail
   go_ret
   exact HF.out
end Cp
end Go.Proofs.YtnnpfoilojicjaaGreatDoor
