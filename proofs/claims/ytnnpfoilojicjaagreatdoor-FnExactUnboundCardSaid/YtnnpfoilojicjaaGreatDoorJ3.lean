import Derived.Test.YtnnpfoilojicjaaGreatDoorGx
import Derived.Test.YtnnpfoilojicjaaGreatDoorB3
namespace Go.Proofs.YtnnpfoilojicjaaGreatDoor
open Go.RowKit Ch1
namespace Cp
theorem str_lit {mx : List Int} (hr : Rg mx) {W : List Int} (hW : Rg W) {L : List UInt8} (hL : W.map (fun n => UInt8.ofNat n.toNat) = L) : ((strOfNums mx).toList == L) = decide (mx = W) := by
 have e : (strOfNums W).toList = L := by rw [ByteArray.toList_eq, strOfNums_data, hL]
 rw [← e]
 exact str_eqb hW hr
theorem owns_weak {w : World} {B B' n size : Nat} {e : TypeId} {v : Value} {xs : List Value} (h : w.ownsRow B e size v n xs) (hB : B' ≤ B) : w.ownsRow B' e size v n xs := by
 obtain ⟨h1, h2 | ⟨g, cap, cur, rfl, hg, r⟩⟩ := h
 ·exact ⟨h1, Or.inl h2⟩
 ·exact ⟨h1, Or.inr ⟨g, cap, cur, rfl, Nat.le_trans hB hg, r⟩⟩
theorem frmX_any : ∀ (f g : Nat) (l : List Dt), l.length ≤ f → l.length ≤ g → frmX f l = frmX g l := by
 intro f
 induction f with
 | zero =>
  intro g l h1 h2
  obtain rfl : l = [] := List.eq_nil_of_length_eq_zero (by omega)
  cases g <;> rfl
 | succ f ih =>
  intro g l h1 h2
  cases l with
  | nil => cases g <;> rfl
  | cons d r =>
   cases g with
   | zero => simp at h2
   | succ g =>
    simp only [frmX]
    cases e : skip 100 (d :: r) with
    | none => rfl
    | some r' =>
     obtain ⟨m, h3, h4, h5⟩ := skip_eats 100 _ _ e
     have h6 : r'.length ≤ r.length := by rw [h5, List.length_drop, List.length_cons]; omega
     simp only [List.length_cons] at h1 h2
     simp only
     rw [ih g r' (by omega) (by omega)]
theorem frm_some {l r : List Dt} (h : skip 100 l = some r) : frm l = l :: frm r := by
 obtain ⟨d, q, rfl, _, _⟩ := skip_some h
 obtain ⟨m, h3, h4, h5⟩ := skip_eats 100 _ _ h
 have h6 : r.length ≤ q.length := by rw [h5, List.length_drop, List.length_cons]; omega
 unfold frm
 rw [List.length_cons]
 simp only [frmX, h]
 rw [frmX_any q.length r.length r h6 (Nat.le_refl _)]
theorem infoPt : (Tryz.prog.info? 102).map (fun i => (i.zero, i.size, i.bytes)) = some (some (.agg #[.slice none 0 0, .slice none 0 0]), 2, 48) := by kernel_rfl
abbrev Pe := Nat × Value × Value
def peC (es : List Pe) : List Value := es.flatMap (fun e => [e.2.1, e.2.2])
theorem peC_app (a b : List Pe) : peC (a ++ b) = peC a ++ peC b := by simp [peC]
theorem peC_at (es : List Pe) (j : Nat) (hj : j < es.length) : (peC es)[j * 2]? = some (es[j]'hj).2.1 ∧ (peC es)[j * 2 + 1]? = some (es[j]'hj).2.2 := by
 induction es generalizing j with
 | nil => simp at hj
 | cons e es ih =>
  cases j with
  | zero => exact ⟨rfl, rfl⟩
  | succ j =>
   have h := ih j (by simpa using hj)
   have e1 : (j + 1) * 2 = j * 2 + 2 := by omega
   rw [e1]
   exact h
def dV (c : Cx) (db dof i m : Nat) : Value := .slice (some ⟨db, dof + i * 4, none⟩) m (c.dc - i)
def Pt (c : Cx) (db dof : Nat) (S : Nat → Prop) (w : World) : Nat → Pe → Prop
 | 0, e => e.2.1 = dV c db dof e.1 (sz 0 (c.ds.drop e.1)) ∧ Ok 0 (c.ds.drop e.1) ∧ e.1 < c.dn ∧ w.ownsRow 0 102 2 e.2.2 0 [] ∧ ∀ j, e.2.2.ownBlock = some j → S j
 | k + 1, e => e.2.1 = dV c db dof e.1 (sz (k + 1) (c.ds.drop e.1)) ∧ Ok (k + 1) (c.ds.drop e.1) ∧ e.1 < c.dn ∧ (∃ es : List Pe, w.ownsRow 0 102 2 e.2.2 es.length (peC es) ∧ at_ c (es.map (·.1)) = kidsOf k (c.ds.drop e.1) ∧ ∀ x ∈ es, Pt c db dof S w k x) ∧ ∀ j, e.2.2.ownBlock = some j → S j
theorem Pt.of {c : Cx} {db dof : Nat} {S S' : Nat → Prop} {w w' : World} (hS : ∀ k, S k → k < w.heap.size → S' k) (hk : ∀ k cur, S k → w.heap[k]? = some (.cells cur 102) → w'.heap[k]? = w.heap[k]?) : ∀ (k : Nat) (e : Pe), Pt c db dof S w k e → Pt c db dof S' w' k e := by
 have key : ∀ {n : Nat} {v : Value} {xs : List Value}, w.ownsRow 0 102 2 v n xs → (∀ j, v.ownBlock = some j → S j) → w'.ownsRow 0 102 2 v n xs ∧ ∀ j, v.ownBlock = some j → S' j := fun h hs => ⟨owns_of_heap h (fun j hj => by
  obtain ⟨_, cur, h2⟩ := owns_lt h j hj
  exact hk j cur (hs j hj) h2), fun j hj => hS j (hs j hj) (owns_lt h j hj).1⟩
 intro k
 induction k with
 | zero => exact fun e h => ⟨h.1, h.2.1, h.2.2.1, key h.2.2.2.1 h.2.2.2.2⟩
 | succ k ih =>
  intro e h
  obtain ⟨h1, h2, h3, ⟨es, h4, h5, h6⟩, h7⟩ := h
  exact ⟨h1, h2, h3, ⟨es, (key h4 h7).1, h5, fun x hx => ih x (h6 x hx)⟩, (key h4 h7).2⟩
theorem Pt.below {c : Cx} {db dof k : Nat} {S : Nat → Prop} {w w' : World} {e : Pe} (h : Pt c db dof S w k e) (hb : Below w.heap.size w w') : Pt c db dof S w' k e :=
 Pt.of (fun _ h _ => h) (fun j _ _ hj => hb.block j (Array.getElem?_eq_some_iff.1 hj).1) k e h
theorem Pt.weak {c : Cx} {db dof k : Nat} {S S' : Nat → Prop} {w : World} {e : Pe} (h : Pt c db dof S w k e) (hS : ∀ j, S j → S' j) : Pt c db dof S' w k e :=
 Pt.of (fun j h _ => hS j h) (fun _ _ _ _ => rfl) k e h
theorem Pt.ok {c : Cx} {db dof k : Nat} {S : Nat → Prop} {w : World} {e : Pe} (h : Pt c db dof S w k e) : e.2.1 = dV c db dof e.1 (sz k (c.ds.drop e.1)) ∧ Ok k (c.ds.drop e.1) ∧ e.1 < c.dn := by
 cases k with
 | zero => exact ⟨h.1, h.2.1, h.2.2.1⟩
 | succ k => exact ⟨h.1, h.2.1, h.2.2.1⟩
theorem Pt.els {c : Cx} {db dof k : Nat} {S : Nat → Prop} {w : World} {e : Pe} (h : Pt c db dof S w k e) : ∃ es : List Pe, w.ownsRow 0 102 2 e.2.2 es.length (peC es) ∧ at_ c (es.map (·.1)) = kidsOf k (c.ds.drop e.1) ∧ ∀ x ∈ es, Pt c db dof S w (k - 1) x := by
 cases k with
 | zero =>
  refine ⟨[], h.2.2.2.1, ?_, fun x hx => by cases hx⟩
  unfold kidsOf
  rw [if_neg (by rw [ok_zero h.2.1]; decide)]
  rfl
 | succ k =>
  obtain ⟨_, h2, _, ⟨es, h4, h5, h6⟩, _⟩ := h
  exact ⟨es, h4, by rw [h5, kidsOf_mono (Nat.le_succ k) h2], h6⟩
theorem Pt.row {c : Cx} {db dof k : Nat} {S : Nat → Prop} {w : World} {e : Pe} (h : Pt c db dof S w k e) : ∃ p n cc, e.2.2 = .slice p n cc := by
 obtain ⟨es, h1, _⟩ := h.els
 obtain ⟨p, cc, e⟩ := owns_form h1
 exact ⟨p, _, cc, e⟩
def Rs (c : Cx) (db dof j : Nat) (v : Value) : Prop := ∃ q, v = .slice q (c.dn - j) (c.dc - j) ∧ (j < c.dn → q = some ⟨db, dof + j * 4, none⟩)
structure EsI (c : Cx) (db dof b k : Nat) (w : World) (v : Value) (es : List Pe) : Prop where
 row : w.ownsRow b 102 2 v es.length (peC es)
 els : ∀ x ∈ es, Pt c db dof (fun j => b ≤ j ∧ v.ownBlock ≠ some j) w k x
theorem EsI.below {c : Cx} {db dof b k : Nat} {w w' : World} {v : Value} {es : List Pe} (h : EsI c db dof b k w v es) (hb : Below w.heap.size w w') : EsI c db dof b k w' v es := ⟨owns_below h.row hb, fun x hx => (h.els x hx).below hb⟩
theorem EsI.snoc {c : Cx} {db dof b k s : Nat} {w w' : World} {v v' : Value} {es : List Pe} {x : Pe} (h : EsI c db dof b k w v es) (hs : ∀ j, v.ownBlock = some j → j < s) (hbs : b ≤ s) (hx : Pt c db dof (fun j => s ≤ j) w k x) (hr : w'.ownsRow b 102 2 v' (es.length + 1) (peC es ++ [x.2.1, x.2.2])) (hbt : But w w' v) (hl : ∀ j, v'.ownBlock = some j → v.ownBlock = some j ∨ w.heap.size ≤ j) : EsI c db dof b k w' v' (es ++ [x]) := by
 refine ⟨by rw [List.length_append, peC_app]; exact hr, fun y hy => ?_⟩
 have h2 : Pt c db dof (fun j => b ≤ j ∧ v.ownBlock ≠ some j) w k y := by
  rcases List.mem_append.1 hy with h1 | h1
  ·exact h.els y h1
  ·rw [List.mem_singleton.1 h1]
   exact hx.weak (fun j hj => ⟨Nat.le_trans hbs hj, fun e => by have := hs j e; omega⟩)
 refine Pt.of (fun j hj hlt => ⟨hj.1, fun e => ?_⟩) (fun j cur hj hc => hbt j (Array.getElem?_eq_some_iff.1 hc).1 (fun e => hj.2 e.symm)) k y h2
 rcases hl j e with h3 | h3
 ·exact hj.2 h3
 ·omega
theorem EsI.set {c : Cx} {db dof b k a o : Nat} {w : World} {v x : Value} {es : List Pe} (h : EsI c db dof b k w v es) (ha : a < b) : EsI c db dof b k (w.setCell ⟨a, o, none⟩ x) v es :=
 ⟨owns_of_heap h.row (fun j hj => set_keep x (fun e => by have := owns_ge h.row j hj; omega)), fun y hy => Pt.of (fun _ h _ => h) (fun j _ hj _ => set_keep x (fun e => by have := hj.1; omega)) k y (h.els y hy)⟩
theorem EsI.pt {c : Cx} {db dof b k i : Nat} {w : World} {v dv : Value} {es : List Pe} (h : EsI c db dof b k w v es) (hd : dv = dV c db dof i (sz (k + 1) (c.ds.drop i))) (ho : Ok (k + 1) (c.ds.drop i)) (hi : i < c.dn) (ha : at_ c (es.map (·.1)) = kidsOf k (c.ds.drop i)) : Pt c db dof (fun j => b ≤ j) w (k + 1) (i, dv, v) :=
 ⟨hd, ho, hi, ⟨es, owns_weak h.row (Nat.zero_le _), ha, fun x hx => (h.els x hx).weak (fun _ hj => hj.1)⟩, fun j hj => owns_ge h.row j hj⟩
theorem dr_len {c : Cx} {k i : Nat} (ho : Ok k (c.ds.drop i)) : i < c.ds.length := by
 obtain ⟨d, q, e, _⟩ := ho.ne
 have := congrArg List.length e
 rw [List.length_drop, List.length_cons] at this
 omega
theorem Ok.end_ {c : Cx} {k i : Nat} (ho : Ok k (c.ds.drop i)) : ∃ j, skip k (c.ds.drop i) = some (c.ds.drop j) ∧ i < j ∧ j ≤ c.ds.length ∧ sz k (c.ds.drop i) = j - i := by
 have hi := dr_len ho
 obtain ⟨r, hr⟩ := ho
 obtain ⟨m, h1, h2, h3⟩ := skip_eats k _ _ hr
 rw [List.length_drop] at h2
 refine ⟨i + m, by rw [hr, h3, List.drop_drop], by omega, by omega, ?_⟩
 unfold sz
 rw [hr, h3]
 simp
 omega
def FpP (c : Cx) (db dof k i : Nat) (w w' : World) (e : Ending) : Prop := ∃ (ev rv : Value) (j : Nat), e = .returned (.tuple #[.agg #[dV c db dof i (sz k (c.ds.drop i)), ev], rv]) ∧ skip k (c.ds.drop i) = some (c.ds.drop j) ∧ i < j ∧ j ≤ c.dn ∧ Rs c db dof j rv ∧ Pt c db dof (fun j => w.heap.size ≤ j) w' k (i, dV c db dof i (sz k (c.ds.drop i)), ev) ∧ Below w.heap.size w w'
def FpC (c : Cx) (db dof k : Nat) : Prop := ∀ (w : World) (i : Nat), Below c.w0.heap.size c.w0 w → Ok k (c.ds.drop i) → Calls Tryz.prog 64 #[.slice (some ⟨db, dof + i * 4, none⟩) (c.dn - i) (c.dc - i)] w fun e w' => FpP c db dof k i w w' e
theorem kidL_snoc (k : Nat) : ∀ (t : Nat) (r q : List Dt), skipN (skip k) t r = some q → kidL k (t + 1) r = kidL k t r ++ [q]
 | 0, r, q, h => by
  simp only [skipN] at h
  cases h
  simp only [kidL, List.nil_append]
  cases skip k r <;> rfl
 | t + 1, r, q, h => by
  simp only [skipN] at h
  cases e : skip k r with
  | none => rw [e] at h; cases h
  | some r' =>
   rw [e] at h
   have ih := kidL_snoc k t r' q h
   rw [kidL, e]
   simp only
   rw [ih]
   conv => rhs; rw [kidL, e]
   rfl
def FpS (c : Cx) (db dof k i : Nat) (W1 : World) (t : Nat) (rv ev : Value) (w : World) : Prop := ∃ (j : Nat) (es : List Pe), j ≤ c.dn ∧ Rs c db dof j rv ∧ skipN (skip k) t (c.ds.drop (i + 1)) = some (c.ds.drop j) ∧ es.length = t ∧ at_ c (es.map (·.1)) = kidL k t (c.ds.drop (i + 1)) ∧ EsI c db dof W1.heap.size k w ev es ∧ Below W1.heap.size W1 w
def FpG (c : Cx) (db dof k i cnt jE : Nat) (w w' : World) (e : Ending) : Prop := ∃ (ev rv : Value) (es : List Pe), e = .returned (.tuple #[.agg #[dV c db dof i (jE - i), ev], rv]) ∧ Rs c db dof jE rv ∧ EsI c db dof w.heap.size k w' ev es ∧ at_ c (es.map (·.1)) = kidL k cnt (c.ds.drop (i + 1)) ∧ Below w.heap.size w w'
set_option maxRecDepth 20000 in
set_option maxHeartbeats 8000000 in
theorem firstPart_g {c : Cx} {db dof k i cnt jE : Nat} (hdp : c.dp = some ⟨db, dof, none⟩) (hda : Da c.w0 c.dp c.dn c.dc c.ds) (hn : c.dn ≤ 3000) (hF : 0 < cnt → FpC c db dof k) (hi : i < c.dn) (hcnt : (hd (c.ds.drop i)).count = (cnt : Int)) (hsk : skipN (skip k) cnt (c.ds.drop (i + 1)) = some (c.ds.drop jE)) (hj1 : i < jE) (hj2 : jE ≤ c.dn) (w : World) (hb : Below c.w0.heap.size c.w0 w) :
  Calls Tryz.prog 64 #[.slice (some ⟨db, dof + i * 4, none⟩) (c.dn - i) (c.dc - i)] w fun e w' => FpG c db dof k i cnt jE w w' e := by
 obtain ⟨m, hm⟩ : ∃ m, m = c.dn - i := ⟨_, rfl⟩
 obtain ⟨d, hd⟩ : ∃ d, d = c.dc - i := ⟨_, rfl⟩
 obtain ⟨o, ho⟩ : ∃ o, o = dof + i * 4 := ⟨_, rfl⟩
 have hcap := hda.cap
 have hm1 : 1 ≤ m := by omega
 have hmd : m ≤ d := by omega
 have hm3 : m ≤ 3000 := by omega
 obtain ⟨b', o', e', hlt, hcl⟩ := hda.cells (by omega)
 rw [hdp] at e'
 cases e'
 obtain ⟨tp, tn, tc, he⟩ := hcl i hi
 rw [hd_drop] at hcnt
 have k3 : ∀ w', Below c.w0.heap.size c.w0 w' → w'.cell? ⟨db, o + 3, none⟩ = some (.int .i64 (cnt : Int)) := fun w' h => by
  rw [h.cell (p := ⟨db, o + 3, none⟩) hlt, ho, he.c3, hcnt]
 have k3w := k3 w hb
 have hdbw : db < w.heap.size := Nat.lt_of_lt_of_le hlt hb.size
 rw [← hm, ← hd, ← ho]
 have HM := mkC hm
 have HD := mkC hd
 have HO := mkC ho
 have HF := mkC hF
 have HSK := mkC hsk
 obtain ⟨W1, hW1⟩ : ∃ W1, W1 = w.alloc (.cells #[.slice none 0 0, .slice none 0 0] 102) := ⟨_, rfl⟩
 have hbW : Below w.heap.size w W1 := by rw [hW1]; exact below1 _ _
 have HB0 : Hid (Below c.w0.heap.size c.w0 W1) := hb.trans (hbW.mono hb.size)
 have HBW := mkC hbW
 have hW1s : W1.heap.size = w.heap.size + 1 := by rw [hW1]; simp
 have HBL : Hid (W1.heap[w.heap.size]? = some (.cells #[.slice none 0 0, .slice none 0 0] 102)) := by unfold Hid; rw [hW1]; exact Go.Deep.blk_alloc_new _ _
 have HST : Hid (FpS c db dof k i W1 0 (.slice (if d = 1 then some ⟨db, o, none⟩ else some ⟨db, o + 4, none⟩) (m - 1) (d - 1)) (.slice none 0 0) W1) := by
  refine ⟨i + 1, [], by omega, ⟨_, by rw [HM.out, HD.out, Nat.sub_sub, Nat.sub_sub], fun h => ?_⟩, rfl, rfl, rfl, ⟨nil_own _ _ _ _, fun x hx => by cases hx⟩, Below.refl _ _⟩
  rw [if_neg (by omega), HO.out]
  congr 2
  omega
 have HLEN : Hid (c.ds.length = c.dn) := hda.len
 have hcn : cnt ≤ 3000 := by
  obtain ⟨x, h1, h2, _⟩ := skipN_eats (skip_eats k) _ _ _ hsk
  rw [List.length_drop, hda.len] at h2
  omega
 clear hm hd ho k3 hF hsk hcnt he hcl hbW hb hda hdp hcap
 go_enter Tryz.func64, Tryz.ntmps64
 go_upto_block 0 with fail
 rw [← hW1]
 have HW1 := mkC hW1
 obtain ⟨B, hB⟩ : ∃ B, B = w.heap.size := ⟨_, rfl⟩
 rw [← hB] at HBL hW1s ⊢
 have HBB := mkC hB
 have HW1s := mkC hW1s
 obtain ⟨q0, hq0⟩ : ∃ q0 : Option Addr, q0 = (if d = 1 then some ⟨db, o, none⟩ else some ⟨db, o + 4, none⟩) := ⟨_, rfl⟩
 rw [← hq0] at HST ⊢
 clear hW1 hB hW1s k3w hdbw hq0
 go_wp2_with fail
 go_loopw [4, 5, 14] (fun rv ev tv wr => ∃ t : Nat, t ≤ cnt ∧ tv = .int .i64 (t : Nat) ∧ Hid (FpS c db dof k i W1 t rv ev wr)) (fun _ _ tv _ => cnt - (intOf tv).toNat)
 case atStart => exact ⟨0, Nat.zero_le _, rfl, HST.out⟩
 case round =>
  obtain ⟨t, ht, rfl, hS⟩ := hrel
  obtain ⟨j, es, hj, ⟨q, rfl, hq⟩, hsk, hel, hat, hes, hbr⟩ := hS.out
  by_cases hlt : t < cnt
  ·obtain ⟨q2, hq2⟩ := skipN_le HSK.out (show t + 1 ≤ cnt by omega)
   obtain ⟨q3, hq3, hq4⟩ := skipN_succ_some hq2
   rw [hsk] at hq3
   cases hq3
   have hok : Ok k (c.ds.drop j) := ⟨_, hq4⟩
   have hjd : j < c.dn := by rw [← HLEN.out]; exact dr_len hok
   obtain rfl := hq hjd
   have HC := mkC (HF.out (by omega) wr j (HB0.out.trans (hbr.mono HB0.out.size)) hok)
   obtain ⟨en, ec, hev⟩ := owns_form hes.row
   subst hev
   rw [hel]
   have HES := mkC hes
   have HBR := mkC hbr
   have HATT := mkC hat
   have HSKT := mkC hsk
   have HQ2 := mkC hq2
   have HEL := mkC hel
   clear hS hq hsk hat hes hbr hq2 hok hel
   go_wp2_with fail
   refine HC.out.mono ?_
   rintro e w2 ⟨ev2, rv2, j2, rfl, hsk2, hjj, hj2', ⟨q5, rfl, hq5⟩, hpt2, hb2⟩
   obtain ⟨ep, eN, eC, hev2⟩ := hpt2.row
   have hev3 : ev2 = .slice ep eN eC := hev2
   subst hev3
   obtain ⟨sn, hsn⟩ : ∃ sn, sn = sz k (c.ds.drop j) := ⟨_, rfl⟩
   obtain ⟨sc, hsc⟩ : ∃ sc, sc = c.dc - j := ⟨_, rfl⟩
   obtain ⟨so, hso⟩ : ∃ so, so = dof + j * 4 := ⟨_, rfl⟩
   have hdv : dV c db dof j (sz k (c.ds.drop j)) = .slice (some ⟨db, so, none⟩) sn sc := by rw [hsn, hsc, hso]; rfl
   rw [hdv] at hpt2 ⊢
   obtain ⟨r2, hr2⟩ : ∃ r2, r2 = c.dn - j2 := ⟨_, rfl⟩
   obtain ⟨d2, hd2⟩ : ∃ d2, d2 = c.dc - j2 := ⟨_, rfl⟩
   rw [← hr2, ← hd2]
   obtain ⟨W3, hW3⟩ : ∃ W3, W3 = w2.alloc (.cells #[.slice (some ⟨db, so, none⟩) sn sc, .slice ep eN eC] 102) := ⟨_, rfl⟩
   have hb23 : Below w2.heap.size w2 W3 := by
    rw [hW3]
    exact below1 _ _
   have hbr3 : Below wr.heap.size wr W3 := hb2.trans (hb23.mono hb2.size)
   have hB3 : W1.heap.size ≤ W3.heap.size := Nat.le_trans HBR.out.size hbr3.size
   have HES3 := mkC (HES.out.below hbr3)
   have HR3 : Hid (W3.ownsRow W1.heap.size 102 2 (.slice en t ec) t (peC es)) := by
    unfold Hid
    have h1 := HES3.out.row
    rw [HEL.out] at h1
    exact h1
   have HNX : Hid (∀ v' w4, w4.ownsRow W1.heap.size 102 2 v' (t + 1) (peC es ++ [.slice (some ⟨db, so, none⟩) sn sc, .slice ep eN eC]) → Below W1.heap.size W3 w4 → But W3 w4 (.slice en t ec) → (∀ x, v'.ownBlock = some x → (Value.slice en t ec).ownBlock = some x ∨ W3.heap.size ≤ x) → FpS c db dof k i W1 (t + 1) (.slice q5 r2 d2) v' w4) := fun v' w4 h1 h2 h3 h4 => by
    have hptx : Pt c db dof (fun x => wr.heap.size ≤ x) W3 k (j, .slice (some ⟨db, so, none⟩) sn sc, .slice ep eN eC) := hpt2.below hb23
    have h5 := HES3.out.snoc (x := (j, .slice (some ⟨db, so, none⟩) sn sc, .slice ep eN eC)) (s := wr.heap.size) (fun x hx => (owns_lt HES.out.row x hx).1) HBR.out.size hptx (by rw [HEL.out]; exact h1) (by rw [HEL.out]; exact h3) (by rw [HEL.out]; exact h4)
    refine ⟨j2, es ++ [(j, .slice (some ⟨db, so, none⟩) sn sc, .slice ep eN eC)], hj2', ⟨q5, by rw [hr2, hd2], hq5⟩, ?_, by rw [List.length_append, HEL.out]; rfl, ?_, h5, (HBR.out.trans (hbr3.mono HBR.out.size)).trans h2⟩
    ·rw [HQ2.out]
     have h6 := hq4
     rw [hsk2] at h6
     exact h6.symm
    ·rw [kidL_snoc k t _ _ HSKT.out, ← HATT.out]
     simp [Cp.at_]
   have hs3 : w2.heap.size + 1 = W3.heap.size := by rw [hW3]; simp
   have HW3 := mkC hW3
   have HS3 := mkC hs3
   clear hW3 hs3 hsk2 hpt2 hb2 hb23 hbr3 hdv hsn hsc hso hr2 hd2 hq5 HC hev2
   go_wp2_with (at_builtin; rw [← HW3.out]; refine appW_at W3 rfl (.tmp 21) (.tmp 23) 71 102 rfl _ 2 48 Tryz.underlying71 infoPt rfl (by decide) W1.heap.size (.slice en t ec) t (peC es) (by simp [Act.eval]) HR3.out #[.slice (some ⟨db, so, none⟩) sn sc, .slice ep eN eC] rfl (by simp [Value.oneCell']) (by rw [← HS3.out]; simp [Act.eval]) (by unfold maxLen; omega) (by omega) hB3 ?_; intro v' w4 ho hb4 hbt hloc hsz; have HFX := mkC (HNX.out v' w4 ho hb4 hbt hloc); clear ho hb4 hbt hloc hsz)
   exact ⟨⟨t + 1, by omega, by go_num, HFX.out⟩, by simp [intOf]; omega⟩
  ·have htc : t = cnt := by omega
   subst htc
   have hjE : j = jE := by
    have h1 := hsk
    rw [HSK.out] at h1
    have h2 := congrArg List.length (Option.some.inj h1)
    rw [List.length_drop, List.length_drop, HLEN.out] at h2
    omega
   subst hjE
   obtain ⟨en, ec, hev⟩ := owns_form hes.row
   subst hev
   obtain ⟨r, hr⟩ : ∃ r, r = c.dn - j := ⟨_, rfl⟩
   obtain ⟨s, hs⟩ : ∃ s, s = j - i := ⟨_, rfl⟩
   obtain ⟨rd_, hrd⟩ : ∃ rd_, rd_ = c.dc - j := ⟨_, rfl⟩
   have hms : m = s + r := by have := HM.out; omega
   have hBlt : B < W1.heap.size := by rw [HW1s.out]; omega
   have hblr := (hbr.block B hBlt).trans HBL.out
   have c0 : wr.cell? ⟨B, 0, none⟩ = some (.slice none 0 0) := by simp [World.cell?, hblr]
   have c1 : wr.cell? ⟨B, 1, none⟩ = some (.slice none 0 0) := by simp [World.cell?, hblr]
   have cf : ∀ x, wr.frozen? ⟨B, x, none⟩ = false := fun x => by simp [World.frozen?, hblr]
   have HFIN : Hid (FpG c db dof k i t j w ((wr.setCell ⟨B, 0, none⟩ (.slice (some ⟨db, o, none⟩) s d)).setCell ⟨B, 1, none⟩ (.slice en es.length ec)) (.returned (.tuple #[.agg #[.slice (some ⟨db, o, none⟩) s d, .slice en es.length ec], .slice q r rd_]))) := by
    have hes2 := (hes.set (o := 0) (x := .slice (some ⟨db, o, none⟩) s d) hBlt).set (o := 1) (x := .slice en es.length ec) hBlt
    have hsz1 : w.heap.size ≤ W1.heap.size := HBW.out.size
    refine ⟨.slice en es.length ec, .slice q r rd_, es, by rw [hs, HO.out, HD.out]; rfl, ⟨q, by rw [hr, hrd], hq⟩, ⟨owns_weak hes2.row hsz1, fun x hx => (hes2.els x hx).weak (fun y hy => ⟨Nat.le_trans hsz1 hy.1, hy.2⟩)⟩, hat, ?_⟩
    exact Below.setCell (Below.setCell (HBW.out.trans (hbr.mono hsz1)) (p := ⟨B, 0, none⟩) (by rw [HBB.out]; exact Nat.le_refl _) _) (p := ⟨B, 1, none⟩) (by rw [HBB.out]; exact Nat.le_refl _) _
   obtain ⟨el, hel2⟩ : ∃ el, el = es.length := ⟨_, rfl⟩
   rw [← hr, ← hrd, ← hel2]
   rw [← hel2] at HFIN
   subst hms
   have hss : s ≤ d := by omega
   have hsr : ((s + r : Nat) : Int) - (r : Int) = (s : Int) := by omega
   have HZ : Hid (((wr.setCell ⟨B, 0, none⟩ (.slice (some ⟨db, o, none⟩) s d)).setCell ⟨B, 1, none⟩ (.slice en el ec)).cell? ⟨B, 0, none⟩ = some (.slice (some ⟨db, o, none⟩) s d) ∧ ((wr.setCell ⟨B, 0, none⟩ (.slice (some ⟨db, o, none⟩) s d)).setCell ⟨B, 1, none⟩ (.slice en el ec)).cell? ⟨B, 1, none⟩ = some (.slice en el ec)) := by
    constructor <;> simp [World.cell?, World.setCell, Array.getElem?_modify, hblr]
   clear hS hsk hat hes hbr hblr hr hs hrd hel hel2 hq
   go_wp2_with fail
   obtain ⟨W9, hW9⟩ : ∃ W9, W9 = (wr.setCell ⟨B, 0, none⟩ (.slice (some ⟨db, o, none⟩) s d)).setCell ⟨B, 1, none⟩ (.slice en el ec) := ⟨_, rfl⟩
   have z0 : W9.cell? ⟨B, 0, none⟩ = some (.slice (some ⟨db, o, none⟩) s d) := by rw [hW9]; exact HZ.out.1
   have z1 : W9.cell? ⟨B, 1, none⟩ = some (.slice en el ec) := by rw [hW9]; exact HZ.out.2
   rw [← hW9] at HFIN ⊢
   clear hW9
   refine bodyPost_ret (v := .tuple #[.agg #[.slice (some ⟨db, o, none⟩) s d, .slice en el ec], .slice q r rd_]) (by simp [results, Tryz.results64, go_sem, z0, z1]) rfl ?_
   exact HFIN.out
theorem atom_count {d : Dt} (h : goodB d = true) (h3 : d.kind ≠ 3) : d.count = 0 := by
 unfold goodB at h
 split at h
 ·simp at h; exact h.2
 ·split at h
  ·simp at h; exact h.2
  ·split at h
   ·simp at h; exact h.2
   ·first | cases h | (rw [if_neg h3] at h; cases h)
theorem firstPart_c {c : Cx} {db dof : Nat} (hdp : c.dp = some ⟨db, dof, none⟩) (hda : Da c.w0 c.dp c.dn c.dc c.ds) (hn : c.dn ≤ 3000) : ∀ k, FpC c db dof k := by
 have atom : ∀ (k i : Nat) (w : World), Below c.w0.heap.size c.w0 w → Ok k (c.ds.drop i) → isLs (c.ds.drop i) = false → Calls Tryz.prog 64 #[.slice (some ⟨db, dof + i * 4, none⟩) (c.dn - i) (c.dc - i)] w fun e w' => FpP c db dof k i w w' e := fun k i w hb ho hls => by
  obtain ⟨d, q, e1, hg⟩ := ho.ne
  have hi : i < c.dn := by rw [← hda.len]; exact dr_len ho
  have h3 : d.kind ≠ 3 := by unfold isLs hd at hls; rw [e1] at hls; simpa using hls
  have hcn : (hd (c.ds.drop i)).count = ((0 : Nat) : Int) := by unfold hd; rw [e1]; exact atom_count hg h3
  have e2 : q = c.ds.drop (i + 1) := by have h4 := congrArg List.tail e1; rw [List.tail_drop] at h4; exact h4.symm
  have hsk : skip k (c.ds.drop i) = some (c.ds.drop (i + 1)) := by rw [e1, skip_atom k d q hg h3, e2]
  have hsz : sz k (c.ds.drop i) = i + 1 - i := by
   obtain ⟨j, h5, h6, h7, h8⟩ := ho.end_
   rw [hsk] at h5
   have h9 := congrArg List.length (Option.some.inj h5)
   rw [List.length_drop, List.length_drop] at h9
   have := hda.len
   rw [h8]
   omega
  refine (firstPart_g (k := 0) (cnt := 0) (jE := i + 1) hdp hda hn (fun h => absurd h (by omega)) hi hcn rfl (by omega) (by omega) w hb).mono ?_
  rintro e w' ⟨ev, rv, es, rfl, hrs, hes, hat, hb'⟩
  have hes0 : es = [] := by
   have := congrArg List.length hat
   simp [at_, kidL] at this
   exact this
  subst hes0
  refine ⟨ev, rv, i + 1, by rw [hsz], hsk, by omega, by omega, hrs, ?_, hb'⟩
  cases k with
  | zero => exact ⟨rfl, ho, hi, owns_weak hes.row (Nat.zero_le _), fun j hj => owns_ge hes.row j hj⟩
  | succ k =>
   refine ⟨rfl, ho, hi, ⟨[], owns_weak hes.row (Nat.zero_le _), ?_, fun x hx => by cases hx⟩, fun j hj => owns_ge hes.row j hj⟩
   unfold kidsOf
   rw [if_neg (by rw [hls]; decide)]
   rfl
 intro k
 induction k with
 | zero => exact fun w i hb ho => atom 0 i w hb ho (ok_zero ho)
 | succ k ih =>
  intro w i hb ho
  cases hls : isLs (c.ds.drop i) with
  | false => exact atom (k + 1) i w hb ho hls
  | true =>
   have hi : i < c.dn := by rw [← hda.len]; exact dr_len ho
   obtain ⟨h0, ⟨q, hq⟩, hlen, hat0⟩ := kids_of ho hls
   obtain ⟨jE, hsk, hj1, hj2, hsz⟩ := ho.end_
   have et : (c.ds.drop i).tail = c.ds.drop (i + 1) := by rw [List.tail_drop]
   rw [et] at hq
   obtain ⟨d, q', e1, hg⟩ := ho.ne
   have h3 : d.kind = 3 := by unfold isLs hd at hls; rw [e1] at hls; simpa using hls
   have e2 : q' = c.ds.drop (i + 1) := by have h4 := congrArg List.tail e1; rw [List.tail_drop] at h4; exact h4.symm
   have hhd : hd (c.ds.drop i) = d := by unfold hd; rw [e1]; rfl
   have hsk2 : skipN (skip k) (hd (c.ds.drop i)).count.toNat (c.ds.drop (i + 1)) = some (c.ds.drop jE) := by
    have h5 := hsk
    rw [e1] at h5
    simp only [skip] at h5
    rw [if_pos hg, if_pos h3, e2] at h5
    rw [hhd]
    exact h5
   refine (firstPart_g (k := k) (cnt := (hd (c.ds.drop i)).count.toNat) (jE := jE) hdp hda hn (fun _ => ih) hi (by omega) hsk2 hj1 (by rw [← hda.len]; exact hj2) w hb).mono ?_
   rintro e w' ⟨ev, rv, es, rfl, hrs, hes, hat, hb'⟩
   refine ⟨ev, rv, jE, by rw [hsz], hsk, hj1, by rw [← hda.len]; exact hj2, hrs, ?_, hb'⟩
   refine hes.pt rfl ho hi ?_
   rw [hat]
   unfold kidsOf
   rw [if_pos hls, et]
def slN (v : Value) : Nat := match v with
 | .slice _ n _ => n
 | _ => 0
def PoS (c : Cx) (db dof : Nat) (w : World) (rv pv : Value) (w' : World) : Prop := ∃ (j : Nat) (es : List Pe), j ≤ c.dn ∧ Rs c db dof j rv ∧ rowOf (c.ds.drop j) = true ∧ frm c.ds = at_ c (es.map (·.1)) ++ frm (c.ds.drop j) ∧ es.length ≤ j ∧ EsI c db dof w.heap.size 100 w' pv es ∧ Below w.heap.size w w'
def PtsP (c : Cx) (db dof : Nat) (w w' : World) (e : Ending) : Prop := ∃ (pv : Value) (es : List Pe), e = .returned pv ∧ at_ c (es.map (·.1)) = frm c.ds ∧ es.length ≤ c.dn ∧ EsI c db dof w.heap.size 100 w' pv es ∧ Below w.heap.size w w'
set_option maxRecDepth 20000 in
set_option maxHeartbeats 8000000 in
theorem partsOf_c {c : Cx} {db dof : Nat} (hdp : 0 < c.dn → c.dp = some ⟨db, dof, none⟩) (hda : Da c.w0 c.dp c.dn c.dc c.ds) (hn : c.dn ≤ 3000) (hrow : rowOf c.ds = true) (rv : Value) (hrv : Rs c db dof 0 rv) (w : World) (hb : Below c.w0.heap.size c.w0 w) :
  Calls Tryz.prog 34 #[rv] w fun e w' => PtsP c db dof w w' e := by
 have HF : Hid (0 < c.dn → FpC c db dof 100) := fun h => firstPart_c (hdp h) hda hn 100
 have HLEN : Hid (c.ds.length = c.dn) := hda.len
 have HB := mkC hb
 have HST : Hid (PoS c db dof w rv (.slice none 0 0) w) := ⟨0, [], Nat.zero_le _, hrv, hrow, by simp [at_], Nat.le_refl _, ⟨nil_own _ _ _ _, fun x hx => by cases hx⟩, Below.refl _ _⟩
 clear hdp hda hrow hrv hb
 go_enter Tryz.func34, Tryz.ntmps34
 go_wp2_with fail
 go_loopw [0, 3] (fun rv pv wr => Hid (PoS c db dof w rv pv wr)) (fun rv _ _ => slN rv)
 case atStart => exact HST.out
 case round =>
  obtain ⟨j, es, hj, ⟨q, rfl, hq⟩, hro, hfr, hel, hes, hbr⟩ := hrel.out
  by_cases hlt : j < c.dn
  ·obtain ⟨q2, hq2, hq3⟩ := rowOf_next _ hro (fun e => by have := congrArg List.length e; rw [List.length_drop, HLEN.out] at this; simp at this; omega)
   have hok : Ok 100 (c.ds.drop j) := ⟨_, hq2⟩
   obtain rfl := hq hlt
   have HC := mkC (HF.out (by omega) wr j (HB.out.trans (hbr.mono HB.out.size)) hok)
   obtain ⟨en, ec, hev⟩ := owns_form hes.row
   subst hev
   obtain ⟨t, ht⟩ : ∃ t, t = es.length := ⟨_, rfl⟩
   rw [← ht]
   have HEL := mkC ht
   have HES := mkC hes
   have HBR := mkC hbr
   have HFR := mkC hfr
   have htb : t ≤ 3000 := by omega
   obtain ⟨r, hr⟩ : ∃ r, r = c.dn - j := ⟨_, rfl⟩
   have HR := mkC hr
   have hr0 : 0 < r := by omega
   rw [← hr] at HC ⊢
   clear hq hes hbr hfr hok ht hr hrel
   go_wp2_with fail
   refine HC.out.mono ?_
   rintro e w2 ⟨ev2, rv2, j2, rfl, hsk2, hjj, hj2', ⟨q5, rfl, hq5⟩, hpt2, hb2⟩
   obtain ⟨ep, eN, eC, hev2⟩ := hpt2.row
   have hev3 : ev2 = .slice ep eN eC := hev2
   subst hev3
   obtain ⟨sn, hsn⟩ : ∃ sn, sn = sz 100 (c.ds.drop j) := ⟨_, rfl⟩
   obtain ⟨sc, hsc⟩ : ∃ sc, sc = c.dc - j := ⟨_, rfl⟩
   obtain ⟨so, hso⟩ : ∃ so, so = dof + j * 4 := ⟨_, rfl⟩
   have hdv : dV c db dof j (sz 100 (c.ds.drop j)) = .slice (some ⟨db, so, none⟩) sn sc := by rw [hsn, hsc, hso]; rfl
   rw [hdv] at hpt2 ⊢
   obtain ⟨r2, hr2⟩ : ∃ r2, r2 = c.dn - j2 := ⟨_, rfl⟩
   obtain ⟨d2, hd2⟩ : ∃ d2, d2 = c.dc - j2 := ⟨_, rfl⟩
   rw [← hr2, ← hd2]
   obtain ⟨W3, hW3⟩ : ∃ W3, W3 = w2.alloc (.cells #[.slice (some ⟨db, so, none⟩) sn sc, .slice ep eN eC] 102) := ⟨_, rfl⟩
   have hb23 : Below w2.heap.size w2 W3 := by
    rw [hW3]
    exact below1 _ _
   have hbr3 : Below wr.heap.size wr W3 := hb2.trans (hb23.mono hb2.size)
   have hB3 : w.heap.size ≤ W3.heap.size := Nat.le_trans HBR.out.size hbr3.size
   have HES3 := mkC (HES.out.below hbr3)
   have HR3 : Hid (W3.ownsRow w.heap.size 102 2 (.slice en t ec) t (peC es)) := by
    unfold Hid
    have h1 := HES3.out.row
    rw [← HEL.out] at h1
    exact h1
   have HNX : Hid (∀ v' w4, w4.ownsRow w.heap.size 102 2 v' (t + 1) (peC es ++ [.slice (some ⟨db, so, none⟩) sn sc, .slice ep eN eC]) → Below w.heap.size W3 w4 → But W3 w4 (.slice en t ec) → (∀ x, v'.ownBlock = some x → (Value.slice en t ec).ownBlock = some x ∨ W3.heap.size ≤ x) → PoS c db dof w (.slice q5 r2 d2) v' w4 ∧ r2 < r) := fun v' w4 h1 h2 h3 h4 => by
    have hptx : Pt c db dof (fun x => wr.heap.size ≤ x) W3 100 (j, .slice (some ⟨db, so, none⟩) sn sc, .slice ep eN eC) := hpt2.below hb23
    have h5 := HES3.out.snoc (x := (j, .slice (some ⟨db, so, none⟩) sn sc, .slice ep eN eC)) (s := wr.heap.size) (fun x hx => (owns_lt HES.out.row x hx).1) HBR.out.size hptx (by rw [← HEL.out]; exact h1) (by rw [← HEL.out]; exact h3) (by rw [← HEL.out]; exact h4)
    have h6 : q2 = c.ds.drop j2 := by rw [hq2] at hsk2; exact Option.some.inj hsk2
    refine ⟨⟨j2, es ++ [(j, .slice (some ⟨db, so, none⟩) sn sc, .slice ep eN eC)], hj2', ⟨q5, by rw [hr2, hd2], hq5⟩, by rw [← h6]; exact hq3, ?_, ?_, h5, (HBR.out.trans (hbr3.mono HBR.out.size)).trans h2⟩, by rw [hr2, HR.out]; omega⟩
    ·rw [HFR.out, frm_some hq2, h6]
     simp [Cp.at_]
    ·rw [List.length_append]
     simp
     omega
   have hs3 : w2.heap.size + 1 = W3.heap.size := by rw [hW3]; simp
   have HW3 := mkC hW3
   have HS3 := mkC hs3
   clear hW3 hs3 hsk2 hpt2 hb2 hb23 hbr3 hdv hsn hsc hso hr2 hd2 hq5 HC hev2 hq2 hq3 hro
   go_wp2_with (at_builtin; rw [← HW3.out]; refine appW_at W3 rfl (.tmp 14) (.tmp 16) 71 102 rfl _ 2 48 Tryz.underlying71 infoPt rfl (by decide) w.heap.size (.slice en t ec) t (peC es) (by simp [Act.eval]) HR3.out #[.slice (some ⟨db, so, none⟩) sn sc, .slice ep eN eC] rfl (by simp [Value.oneCell']) (by rw [← HS3.out]; simp [Act.eval]) (by unfold maxLen; omega) (by omega) hB3 ?_; intro v' w4 ho hb4 hbt hloc hsz; have HFX := mkC (HNX.out v' w4 ho hb4 hbt hloc); clear ho hb4 hbt hloc hsz)
   exact ⟨HFX.out.1, HFX.out.2⟩
  ·have hjd : c.dn - j = 0 := by omega
   have HF2 : Hid (PtsP c db dof w wr (.returned u3)) := by
    refine ⟨u3, es, rfl, ?_, by omega, hes, hbr⟩
    rw [hfr, List.drop_eq_nil_of_le (by rw [HLEN.out]; omega)]
    exact (List.append_nil _).symm
   rw [hjd]
   clear hq hes hbr hfr hrel hro
   go_wp2_with fail
   go_ret
   exact HF2.out
structure PgX (c : Cx) (db dof : Nat) : Prop where
 dp : c.dp = some ⟨db, dof, none⟩
 da : Da c.w0 c.dp c.dn c.dc c.ds
 dn : c.dn ≤ 3000
def gramE : Ending := .panicked [{ v := .iface 67 (.agg #[.int .i64 2, .int .i64 0]), recovered := false }]
theorem conv_by {w : World} {p : Option Addr} {n cc : Nat} {xs : List Int} (h : By w p n cc xs) : (convert 34 9 (.slice p n cc)).run Tryz.prog w = .ok (.string (strOfNums xs)) w := by
 have hl := h.len
 by_cases h0 : 0 < n
 ·obtain ⟨b, o, e, hc⟩ := h.cells h0
  rw [e, ← hl]
  exact run_convert_bytes_arg (P := Tryz.prog) w 34 5 Tryz.underlying34 Tryz.underlying5 b o xs.length cc xs rfl (fun i hi => hc i (by rw [← hl]; exact hi)) 9 Tryz.underlying9
 ·obtain rfl : n = 0 := by omega
  obtain rfl : xs = [] := List.eq_nil_of_length_eq_zero hl
  cases p with
  | none => exact run_convert_bytes_nil (P := Tryz.prog) w 34 5 Tryz.underlying34 Tryz.underlying5 0 cc 9 Tryz.underlying9
  | some a =>
   have hl0 : (loadCells a 0).run Tryz.prog w = .ok (([] : List Int).map (Value.int .u8)).toArray w := by
    have := run_loadCells_list (P := Tryz.prog) w a (([] : List Int).map (Value.int .u8)) (fun j v hj => by simp at hj)
    simpa using this
   rw [run_convert_bytes_string w 34 9 5 _ 0 cc Tryz.underlying34 Tryz.underlying5 Tryz.underlying9, run_bytesToString w _ 0 cc [] hl0]
   rfl
theorem Pt.head {c : Cx} {db dof k : Nat} {S : Nat → Prop} {w : World} {e : Pe} (hx : PgX c db dof) (h : Pt c db dof S w k e) : ∃ (so sn sc : Nat) (tp : Option Addr) (tn tc : Nat), e.2.1 = .slice (some ⟨db, so, none⟩) sn sc ∧ 1 ≤ sn ∧ sn ≤ 3000 ∧ sn ≤ sc ∧ db < c.w0.heap.size ∧ ∀ w', Below c.w0.heap.size c.w0 w' → w'.cell? ⟨db, so, none⟩ = some (.int .i64 (hd (c.ds.drop e.1)).kind) ∧ w'.cell? ⟨db, so + 2, none⟩ = some (.slice tp tn tc) ∧ (convert 34 9 (.slice tp tn tc)).run Tryz.prog w' = .ok (.string (strOfNums (nm (c.ds.drop e.1)))) w' := by
 obtain ⟨h1, h2, h3⟩ := h.ok
 have hda := hx.da
 obtain ⟨b', o', e', hlt, hcl⟩ := hda.cells (by omega)
 rw [hx.dp] at e'
 cases e'
 obtain ⟨tp, tn, tc, he⟩ := hcl e.1 h3
 obtain ⟨j, _, h5, h6, h7⟩ := h2.end_
 have hcap := hda.cap
 have hlen := hda.len
 have hdn := hx.dn
 refine ⟨dof + e.1 * 4, sz k (c.ds.drop e.1), c.dc - e.1, tp, tn, tc, h1, by omega, by omega, by omega, hlt, fun w' hb => ?_⟩
 have hy := he.by_.below hb
 refine ⟨?_, ?_, ?_⟩
 ·rw [hb.cell (p := ⟨db, dof + e.1 * 4, none⟩) hlt, he.c0, hd_drop]
 ·rw [hb.cell (p := ⟨db, dof + e.1 * 4 + 2, none⟩) hlt, he.c2]
 ·unfold nm
  rw [hd_drop]
  exact conv_by hy
set_option maxHeartbeats 1000000 in
theorem name_c {c : Cx} {db dof k : Nat} {S : Nat → Prop} {e : Pe} (hx : PgX c db dof) (w : World) (hb : Below c.w0.heap.size c.w0 w) (h : Pt c db dof S w k e) : Calls Tryz.prog 61 #[.agg #[e.2.1, e.2.2]] w fun r w' => r = .returned (.string (strOfNums (nm (c.ds.drop e.1)))) ∧ Below w.heap.size w w' := by
 obtain ⟨so, sn, sc, tp, tn, tc, hdv, h1, h2, h3, hlt, hc⟩ := h.head hx
 obtain ⟨ep, eN, eC, hev⟩ := h.row
 rw [hdv, hev]
 have hdb : db < w.heap.size := Nat.lt_of_lt_of_le hlt hb.size
 obtain ⟨W, hW⟩ : ∃ W, W = w.alloc (.cells #[.slice (some ⟨db, so, none⟩) sn sc, .slice ep eN eC] 102) := ⟨_, rfl⟩
 have hbW : Below w.heap.size w W := by rw [hW]; exact below1 _ _
 have k2 := (hc w hb).2.1
 have kc := (hc W (hb.trans (hbW.mono hb.size))).2.2
 rw [hW] at kc
 have HB : Hid (Below w.heap.size w (w.alloc (.cells #[.slice (some ⟨db, so, none⟩) sn sc, .slice ep eN eC] 102))) := below1 _ _
 generalize strOfNums (nm (c.ds.drop e.1)) = s at kc
 clear hc hdv hev h hb hbW hW
 go_enter Tryz.func61, Tryz.ntmps61
 go_wp2_with fail
 go_ret
 exact ⟨rfl, HB.out⟩
set_option maxHeartbeats 1000000 in
theorem isList_c {c : Cx} {db dof k : Nat} {S : Nat → Prop} {e : Pe} (hx : PgX c db dof) (w : World) (hb : Below c.w0.heap.size c.w0 w) (h : Pt c db dof S w k e) : Calls Tryz.prog 97 #[.agg #[e.2.1, e.2.2]] w fun r w' => r = .returned (.bool (isLs (c.ds.drop e.1))) ∧ Below w.heap.size w w' := by
 obtain ⟨so, sn, sc, tp, tn, tc, hdv, h1, h2, h3, hlt, hc⟩ := h.head hx
 obtain ⟨ep, eN, eC, hev⟩ := h.row
 rw [hdv, hev]
 have hdb : db < w.heap.size := Nat.lt_of_lt_of_le hlt hb.size
 have k0 := (hc w hb).1
 have HK : Hid (isLs (c.ds.drop e.1) = ((hd (c.ds.drop e.1)).kind == 3)) := by unfold Hid isLs; rw [Bool.eq_iff_iff]; simp
 have HB : Hid (Below w.heap.size w (w.alloc (.cells #[.slice (some ⟨db, so, none⟩) sn sc, .slice ep eN eC] 102))) := below1 _ _
 generalize (hd (c.ds.drop e.1)).kind = kd at k0 HK
 rw [HK.out]
 clear hc hdv hev h hb HK
 go_enter Tryz.func97, Tryz.ntmps97
 go_wp2_with fail
 go_ret
 exact ⟨rfl, HB.out⟩
set_option maxHeartbeats 1000000 in
theorem needGrammar_t (w : World) : Calls Tryz.prog 60 #[.bool true] w fun r w' => (∃ u, r = .returned u) ∧ w' = w := by
 go_enter Tryz.func60, Tryz.ntmps60
 go_wp2_with fail
 go_end0
 exact ⟨⟨_, rfl⟩, rfl⟩
set_option maxHeartbeats 1000000 in
theorem needGrammar_f (w : World) : Calls Tryz.prog 60 #[.bool false] w fun r w' => r = gramE ∧ w' = w := by
 go_enter Tryz.func60, Tryz.ntmps60
 go_wp2_with fail
 exact ⟨rfl, rfl, rfl⟩
end Cp
end Go.Proofs.YtnnpfoilojicjaaGreatDoor
