import Derived.Test.YtkkmoaidbmnolaaGreatDoorDu
import Derived.Test.YtkkmoaidbmnolaaGreatDoorE3
namespace Go.Proofs.YtkkmoaidbmnolaaGreatDoor
open Go.RowKit Ch1
/-! ### what the pure writer has written is read -/
theorem rdN_fwd (k : Nat) (z : Int) (r : List Int) : rdN k (leZ k z ++ r) = some (wrap64 (lnZ (leZ k z)), r) := by
  have hl := leZ_len k z
  unfold rdN
  rw [if_pos (by rw [List.length_append, hl]; omega), List.take_append_of_le_length (by omega), List.take_of_length_le (by omega), List.drop_append_of_le_length (by omega), List.drop_of_length_le (by omega), List.nil_append]
theorem rdN1_fwd {z : Int} (h0 : 0 ≤ z) (h1 : z < 256) (r : List Int) : rdN 1 (z :: r) = some (z, r) := by
  have h := rdN_fwd 1 z r
  have e : wrap64 (lnZ (leZ 1 z)) = z := by simp only [leZ, lnZ]; unfold wrap64; omega
  rw [e, le1, show z % 256 = z by omega] at h
  exact h
theorem rdN2_fwd {z : Int} (h0 : 0 ≤ z) (h1 : z < 65536) (r : List Int) : rdN 2 (leZ 2 z ++ r) = some (z, r) := by
  rw [rdN_fwd]
  have e : wrap64 (lnZ (leZ 2 z)) = z := by simp only [leZ, lnZ]; unfold wrap64; omega
  rw [e]
theorem ln_le : ∀ (k : Nat) (v : Int), v = lnZ (leZ k v) + 256 ^ k * shZ k v
  | 0, v => by simp [leZ, lnZ, shZ]
  | k + 1, v => by
    have ih := ln_le k (v / 256)
    rw [shZ_head] at ih
    show v = (v % 256 + 256 * lnZ (leZ k (v / 256))) + 256 ^ (k + 1) * (shZ k v / 256)
    rw [Int.pow_succ, Int.mul_comm (256 ^ k) 256, Int.mul_assoc]
    generalize (256 : Int) ^ k * (shZ k v / 256) = t at ih ⊢
    omega
theorem rdN4_fwd {z : Int} (h0 : 0 ≤ z) (h1 : z < 4294967296) (r : List Int) : rdN 4 (leZ 4 z ++ r) = some (z, r) := by
  rw [rdN_fwd]
  have e1 := ln_le 4 z
  have e2 := lnZ_rg (leZ 4 z) (leZ_rg 4 z)
  rw [leZ_len] at e2
  rw [show (256 : Int) ^ 4 = 4294967296 from rfl] at e1 e2
  generalize lnZ (leZ 4 z) = L at e1 e2 ⊢
  generalize shZ 4 z = t at e1
  have e : wrap64 L = z := by unfold wrap64; omega
  rw [e]
theorem rdN8_fwd {z : Int} (h0 : -9223372036854775808 ≤ z) (h1 : z ≤ 9223372036854775807) (r : List Int) : rdN 8 (leZ 8 z ++ r) = some (z, r) := by
  rw [rdN_fwd]
  have e1 := ln_le 8 z
  have e2 := lnZ_rg (leZ 8 z) (leZ_rg 8 z)
  rw [leZ_len] at e2
  rw [show (256 : Int) ^ 8 = 18446744073709551616 from rfl] at e1 e2
  generalize lnZ (leZ 8 z) = L at e1 e2 ⊢
  generalize shZ 8 z = t at e1
  have e : wrap64 L = z := by unfold wrap64; omega
  rw [e]
theorem rdL_fwd {α : Type} {r : List Int → Option (α × List Int)} {wr : α → List Int} {P : α → Prop} (hs : ∀ a rest, P a → r (wr a ++ rest) = some (a, rest)) : ∀ (l : List α) (rest : List Int), (∀ a ∈ l, P a) → rdL r l.length (l.flatMap wr ++ rest) = some (l, rest)
  | [], rest, _ => rfl
  | a :: l, rest, h => by
    rw [List.flatMap_cons, List.append_assoc, List.length_cons, rdL, hs a _ (h a (by simp))]
    show (rdL r l.length (l.flatMap wr ++ rest)).map _ = _
    rw [rdL_fwd hs l rest (fun b hb => h b (List.mem_cons_of_mem _ hb))]
    rfl
/-- A datum that an image can hold. -/
def DtIm (d : Dt) : Prop := goodB d = true ∧ (d.kind = 3 → d.count < 65536)
theorem dtf0 (n : Int) (rest : List Int) : datZ ⟨0, n, [], 0⟩ ++ rest = 0 :: (leZ 8 n ++ rest) := by
  unfold datZ
  rw [if_pos rfl, List.cons_append]
  congr 1
theorem dtf1 (n : Int) (rest : List Int) : datZ ⟨1, n, [], 0⟩ ++ rest = 1 :: (n % 256 :: rest) := by
  unfold datZ
  rw [if_neg (show ¬ (1 : Int) = 0 by decide), if_pos rfl, List.cons_append]
  congr 1
theorem dtf2 (t rest : List Int) : datZ ⟨2, 0, t, 0⟩ ++ rest = 2 :: ((t.length : Int) % 256 :: (t ++ rest)) := by
  unfold datZ
  rw [if_neg (show ¬ (2 : Int) = 0 by decide), if_neg (show ¬ (2 : Int) = 1 by decide), if_pos rfl, List.cons_append, List.cons_append]
  congr 1
theorem dtf3 (c : Int) (rest : List Int) : datZ ⟨3, 0, [], c⟩ ++ rest = 3 :: (leZ 2 c ++ rest) := by
  unfold datZ
  rw [if_neg (show ¬ (3 : Int) = 0 by decide), if_neg (show ¬ (3 : Int) = 1 by decide), if_neg (show ¬ (3 : Int) = 2 by decide), List.cons_append]
  congr 1
theorem fwd0 (n : Int) (h0 : -9223372036854775808 ≤ n) (h1 : n ≤ 9223372036854775807) (rest : List Int) : rdD (datZ ⟨0, n, [], 0⟩ ++ rest) = some (⟨0, n, [], 0⟩, rest) ∧ rsD (datZ ⟨0, n, [], 0⟩ ++ rest) = some (⟨0, n, [], 0⟩, rest) := by
  have f1 := rdN1_fwd (z := 0) (by omega) (by omega) (leZ 8 n ++ rest)
  have f2 := rdN8_fwd h0 h1 rest
  rw [dtf0]
  generalize leZ 8 n ++ rest = ys at f1 f2 ⊢
  refine ⟨?_, ?_⟩
  · unfold rdD; rw [f1]; show rdR 0 _ = _; unfold rdR; rw [if_pos rfl, f2]; rfl
  · rw [rsD_of f1]; unfold rsR; rw [if_pos rfl, f2]; rfl
theorem fwd1 (n : Int) (h0 : 0 ≤ n) (h1 : n < 256) (rest : List Int) : rdD (datZ ⟨1, n, [], 0⟩ ++ rest) = some (⟨1, n, [], 0⟩, rest) ∧ rsD (datZ ⟨1, n, [], 0⟩ ++ rest) = some (⟨1, n, [], 0⟩, rest) := by
  have f2 := rdN1_fwd h0 h1 rest
  rw [dtf1, show n % 256 = n by omega]
  generalize n :: rest = ys at f2 ⊢
  have f1 := rdN1_fwd (z := 1) (by omega) (by omega) ys
  refine ⟨?_, ?_⟩
  · unfold rdD; rw [f1]; show rdR 1 _ = _; unfold rdR; rw [if_neg (by decide), if_pos rfl, f2]; rfl
  · rw [rsD_of f1]; unfold rsR; rw [if_neg (by decide), if_pos rfl, f2]; rfl
theorem sym_fwd (L : Int) (t us rest : List Int) (hle : L.toNat ≤ us.length) (ht : us.take L.toNat = t) (hd : us.drop L.toNat = rest) (ys zs : List Int) (f1 : rdN 1 zs = some (2, ys)) (f2 : rdN 1 ys = some (L, us)) : rdD zs = some (⟨2, 0, t, 0⟩, rest) ∧ rsD zs = some (⟨2, 0, t, 0⟩, rest) := by
  have key : (if L.toNat ≤ us.length then some ((⟨2, 0, us.take L.toNat, 0⟩ : Dt), us.drop L.toNat) else none) = some (⟨2, 0, t, 0⟩, rest) := by rw [if_pos hle, ht, hd]
  refine ⟨?_, ?_⟩
  · unfold rdD; rw [f1]; show rdR 2 ys = _; unfold rdR; rw [if_neg (by decide), if_neg (by decide), if_pos rfl, f2]; exact key
  · rw [rsD_of f1]; unfold rsR; rw [if_neg (by decide), if_neg (by decide), if_pos rfl, f2]; exact key
theorem fwd2 (t : List Int) (h : t.length < 256) (rest : List Int) : rdD (datZ ⟨2, 0, t, 0⟩ ++ rest) = some (⟨2, 0, t, 0⟩, rest) ∧ rsD (datZ ⟨2, 0, t, 0⟩ ++ rest) = some (⟨2, 0, t, 0⟩, rest) := by
  have e : (t.length : Int) % 256 = t.length := by omega
  rw [dtf2, e]
  have hn : ((t.length : Int)).toNat = t.length := Int.toNat_natCast _
  refine sym_fwd (t.length : Int) t (t ++ rest) rest ?_ ?_ ?_ ((t.length : Int) :: (t ++ rest)) _ (rdN1_fwd (by decide) (by decide) _) (rdN1_fwd (by omega) (by omega) _)
  · rw [hn, List.length_append]; omega
  · rw [hn, List.take_left]
  · rw [hn, List.drop_left]
theorem fwd3 (c : Int) (h0 : 0 ≤ c) (h1 : c < 65536) (rest : List Int) : rdD (datZ ⟨3, 0, [], c⟩ ++ rest) = some (⟨3, 0, [], c⟩, rest) ∧ rsD (datZ ⟨3, 0, [], c⟩ ++ rest) = some (⟨3, 0, [], c⟩, rest) := by
  have f2 := rdN2_fwd h0 h1 rest
  rw [dtf3]
  generalize leZ 2 c ++ rest = ys at f2 ⊢
  have f1 := rdN1_fwd (z := 3) (by omega) (by omega) ys
  refine ⟨?_, ?_⟩
  · unfold rdD; rw [f1]; show rdR 3 _ = _; unfold rdR; rw [if_neg (by decide), if_neg (by decide), if_neg (by decide), if_pos rfl, f2]; rfl
  · rw [rsD_of f1]; unfold rsR; rw [if_neg (by decide), if_neg (by decide), if_neg (by decide), f2]; rfl
theorem datum_fwd {d : Dt} (h : DtIm d) (rest : List Int) : rdD (datZ d ++ rest) = some (d, rest) ∧ rsD (datZ d ++ rest) = some (d, rest) := by
  obtain ⟨hg, hc⟩ := h
  obtain ⟨k, n, t, c⟩ := d
  simp only at hc
  unfold goodB at hg
  simp only at hg
  by_cases h0 : k = 0
  · subst h0
    rw [if_pos rfl] at hg
    unfold smallB at hg
    simp only [Bool.and_eq_true, decide_eq_true_eq] at hg
    obtain ⟨⟨⟨g1, g2⟩, g3⟩, rfl⟩ := hg
    obtain rfl := List.length_eq_zero_iff.1 g3
    exact fwd0 n (by omega) (by omega) rest
  rw [if_neg h0] at hg
  by_cases h1 : k = 1
  · subst h1
    rw [if_pos rfl] at hg
    simp only [Bool.and_eq_true, Bool.or_eq_true, decide_eq_true_eq] at hg
    obtain ⟨⟨g1, g3⟩, rfl⟩ := hg
    obtain rfl := List.length_eq_zero_iff.1 g3
    exact fwd1 n (by omega) (by omega) rest
  rw [if_neg h1] at hg
  by_cases h2 : k = 2
  · subst h2
    rw [if_pos rfl] at hg
    unfold symTextB at hg
    simp only [Bool.and_eq_true, decide_eq_true_eq] at hg
    obtain ⟨⟨rfl, ⟨⟨⟨g1, g2⟩, _⟩, _⟩, _⟩, rfl⟩ := hg
    exact fwd2 t (by omega) rest
  rw [if_neg h2] at hg
  by_cases h3 : k = 3
  · subst h3
    rw [if_pos rfl] at hg
    simp only [Bool.and_eq_true, decide_eq_true_eq] at hg
    obtain ⟨⟨rfl, g3⟩, g4⟩ := hg
    obtain rfl := List.length_eq_zero_iff.1 g3
    exact fwd3 c g4 (hc rfl) rest
  · rw [if_neg h3] at hg
    cases hg
end Go.Proofs.YtkkmoaidbmnolaaGreatDoor
namespace Go.Proofs.YtkkmoaidbmnolaaGreatDoor
open Go.RowKit Ch1
/-- The specification's pure readers. -/
def rsT (xs : List Int) : Option (Bool × List Int) := (rdN 1 xs).map (fun r => (decide (r.1 = 1), r.2))
def rsFree (xs : List Int) : Option ((Int × List Bool) × List Int) := (rdN 1 xs).bind (fun a => (rdN 1 a.2).bind (fun k => (rdL rsT k.1.toNat k.2).map (fun f => ((a.1, f.1), f.2))))
def rsFn (xs : List Int) : Option (Fn × List Int) := (rsFree xs).bind (fun f => (rdN 2 f.2).bind (fun k => (rdL rdI k.1.toNat k.2).map (fun c => (⟨f.1.1, f.1.2, c.1⟩, c.2))))
def rsCst (xs : List Int) : Option (List Dt × List Int) := (rdN 2 xs).bind (fun r => rdL rsD r.1.toNat r.2)
def rsMc (xs : List Int) : Option ((Int × List (List Dt)) × List Int) := (rdN 2 xs).bind (fun g => (rdN 2 g.2).bind (fun k => (rdL rsCst k.1.toNat k.2).map (fun c => ((g.1, c.1), c.2))))
def rsMd (xs : List Int) : Option (Md × List Int) := (rsMc xs).bind (fun c => (rdN 2 c.2).bind (fun n => (rdL rsFn n.1.toNat n.2).map (fun f => (⟨c.1.2, c.1.1, f.1⟩, f.2))))
/-- What fits into the bytes of an image. -/
structure InIm (x : In) : Prop where
  o0 : 0 ≤ x.op
  o1 : x.op < 256
  a0 : 0 ≤ x.a
  a1 : x.a < 65536
  b0 : 0 ≤ x.b
  b1 : x.b < 256
structure FnIm (f : Fn) : Prop where
  p0 : 0 ≤ f.params
  p1 : f.params < 256
  fr : f.free.length < 256
  co : f.code.length < 65536
  ins : ∀ x ∈ f.code, InIm x
structure MdIm (m : Md) : Prop where
  g0 : 0 ≤ m.globals
  g1 : m.globals < 65536
  cn : m.consts.length < 65536
  cs : ∀ ds ∈ m.consts, ds.length < 65536 ∧ ∀ d ∈ ds, DtIm d
  fn : m.funcs.length < 65536
  fs : ∀ f ∈ m.funcs, FnIm f
theorem rdI_fwd (x : In) (rest : List Int) (h : InIm x) : rdI (isZ x ++ rest) = some (x, rest) := by
  have e : isZ x ++ rest = x.op :: (leZ 2 x.a ++ (x.b :: rest)) := by
    have := h.o0; have := h.o1; have := h.b0; have := h.b1
    unfold isZ
    rw [show x.op % 256 = x.op by omega, show x.b % 256 = x.b by omega]
    simp
  rw [e]
  exact rdI_some (rdN1_fwd h.o0 h.o1 _) (rdN2_fwd h.a0 h.a1 _) (rdN1_fwd h.b0 h.b1 _)
theorem box_rng (b : Bool) : 0 ≤ boxZ b ∧ boxZ b < 256 ∧ boxZ b ≤ 1 ∧ decide (boxZ b = 1) = b := by cases b <;> decide
theorem rdT_fwd (b : Bool) (rest : List Int) : rdT ([boxZ b] ++ rest) = some (b, rest) ∧ rsT ([boxZ b] ++ rest) = some (b, rest) := by
  obtain ⟨h0, h1, h2, h3⟩ := box_rng b
  have f := rdN1_fwd h0 h1 rest
  refine ⟨?_, ?_⟩
  · show rdT (boxZ b :: rest) = _
    unfold rdT
    rw [f]
    show (if boxZ b ≤ 1 then some (decide (boxZ b = 1), rest) else none) = _
    rw [if_pos h2, h3]
  · show rsT (boxZ b :: rest) = _
    unfold rsT
    rw [f]
    show some (decide (boxZ b = 1), rest) = _
    rw [h3]
/-- A function's bytes. -/
theorem fcZ_eq (f : Fn) (h : FnIm f) (rest : List Int) : fcZ f ++ rest = f.params :: ((f.free.length : Int) :: (f.free.flatMap (fun b => [boxZ b]) ++ (leZ 2 f.code.length ++ (f.code.flatMap isZ ++ rest)))) := by
  have := h.p0; have := h.p1; have := h.fr
  unfold fcZ
  rw [frZ_all, cdZ_all, show f.params % 256 = f.params by omega, show (f.free.length : Int) % 256 = f.free.length by omega]
  simp
theorem fn_fwd {y1 y2 y3 y4 y5 rest : List Int} {f : Fn} (k1 : rdN 1 y1 = some (f.params, y2)) (k2 : rdN 1 y2 = some ((f.free.length : Int), y3)) (k3 : rdL rdT f.free.length y3 = some (f.free, y4)) (k4 : rdN 2 y4 = some ((f.code.length : Int), y5)) (k5 : rdL rdI f.code.length y5 = some (f.code, rest)) : rdFn y1 = some (f, rest) := by
  have e : rdFree y1 = some ((f.params, f.free), y4) := by
    unfold rdFree
    rw [k1, Option.bind_some, k2, Option.bind_some, rdTs_eq, Int.toNat_natCast, k3, Option.map_some]
  unfold rdFn
  rw [e, Option.bind_some, k4, Option.bind_some, rdIs_eq, Int.toNat_natCast, k5, Option.map_some]
theorem fn_fwdS {y1 y2 y3 y4 y5 rest : List Int} {f : Fn} (k1 : rdN 1 y1 = some (f.params, y2)) (k2 : rdN 1 y2 = some ((f.free.length : Int), y3)) (k3 : rdL rsT f.free.length y3 = some (f.free, y4)) (k4 : rdN 2 y4 = some ((f.code.length : Int), y5)) (k5 : rdL rdI f.code.length y5 = some (f.code, rest)) : rsFn y1 = some (f, rest) := by
  have e : rsFree y1 = some ((f.params, f.free), y4) := by
    unfold rsFree
    rw [k1, Option.bind_some, k2, Option.bind_some, Int.toNat_natCast, k3, Option.map_some]
  unfold rsFn
  rw [e, Option.bind_some, k4, Option.bind_some, Int.toNat_natCast, k5, Option.map_some]
theorem rdFn_fwd (f : Fn) (rest : List Int) (h : FnIm f) : rdFn (fcZ f ++ rest) = some (f, rest) ∧ rsFn (fcZ f ++ rest) = some (f, rest) := by
  have hfr := h.fr
  have hco := h.co
  rw [fcZ_eq f h]
  have k1 := rdN1_fwd h.p0 h.p1 ((f.free.length : Int) :: (f.free.flatMap (fun b => [boxZ b]) ++ (leZ 2 f.code.length ++ (f.code.flatMap isZ ++ rest))))
  have k2 := rdN1_fwd (z := (f.free.length : Int)) (by omega) (by omega) (f.free.flatMap (fun b => [boxZ b]) ++ (leZ 2 f.code.length ++ (f.code.flatMap isZ ++ rest)))
  have k4 := rdN2_fwd (z := (f.code.length : Int)) (by omega) (by omega) (f.code.flatMap isZ ++ rest)
  have k5 := rdL_fwd (r := rdI) (wr := isZ) (P := InIm) (fun x r hx => rdI_fwd x r hx) f.code rest h.ins
  exact ⟨fn_fwd k1 k2 (rdL_fwd (r := rdT) (wr := fun b => [boxZ b]) (P := fun _ => True) (fun b r _ => (rdT_fwd b r).1) f.free _ (fun _ _ => trivial)) k4 k5, fn_fwdS k1 k2 (rdL_fwd (r := rsT) (wr := fun b => [boxZ b]) (P := fun _ => True) (fun b r _ => (rdT_fwd b r).2) f.free _ (fun _ _ => trivial)) k4 k5⟩
theorem cst_fwd {y1 y2 rest : List Int} {ds : List Dt} (k1 : rdN 2 y1 = some ((ds.length : Int), y2)) (k2 : rdL rdD ds.length y2 = some (ds, rest)) : rdCst y1 = some (ds, rest) := by
  unfold rdCst
  rw [k1, Option.bind_some, rdDs_eq, Int.toNat_natCast, k2]
theorem cst_fwdS {y1 y2 rest : List Int} {ds : List Dt} (k1 : rdN 2 y1 = some ((ds.length : Int), y2)) (k2 : rdL rsD ds.length y2 = some (ds, rest)) : rsCst y1 = some (ds, rest) := by
  unfold rsCst
  rw [k1, Option.bind_some, Int.toNat_natCast, k2]
theorem rdCst_fwd (ds : List Dt) (rest : List Int) (h : ds.length < 65536 ∧ ∀ d ∈ ds, DtIm d) : rdCst (cstZ ds ++ rest) = some (ds, rest) ∧ rsCst (cstZ ds ++ rest) = some (ds, rest) := by
  have hl := h.1
  have e : cstZ ds ++ rest = leZ 2 ds.length ++ (ds.flatMap datZ ++ rest) := by unfold cstZ; rw [dsZ_all, List.append_assoc]
  rw [e]
  have k1 := rdN2_fwd (z := (ds.length : Int)) (by omega) (by omega) (ds.flatMap datZ ++ rest)
  exact ⟨cst_fwd k1 (rdL_fwd (r := rdD) (wr := datZ) (P := DtIm) (fun d r hd => (datum_fwd hd r).1) ds rest h.2), cst_fwdS k1 (rdL_fwd (r := rsD) (wr := datZ) (P := DtIm) (fun d r hd => (datum_fwd hd r).2) ds rest h.2)⟩
theorem md_fwd {y1 y2 y3 y4 y5 rest : List Int} {m : Md} (k1 : rdN 2 y1 = some (m.globals, y2)) (k2 : rdN 2 y2 = some ((m.consts.length : Int), y3)) (k3 : rdL rdCst m.consts.length y3 = some (m.consts, y4)) (k4 : rdN 2 y4 = some ((m.funcs.length : Int), y5)) (k5 : rdL rdFn m.funcs.length y5 = some (m.funcs, rest)) : rdMd y1 = some (m, rest) := by
  have e : rdMc y1 = some ((m.globals, m.consts), y4) := by
    unfold rdMc
    rw [k1, Option.bind_some, k2, Option.bind_some, Int.toNat_natCast, k3, Option.map_some]
  unfold rdMd
  rw [e, Option.bind_some, k4, Option.bind_some, Int.toNat_natCast, k5, Option.map_some]
theorem md_fwdS {y1 y2 y3 y4 y5 rest : List Int} {m : Md} (k1 : rdN 2 y1 = some (m.globals, y2)) (k2 : rdN 2 y2 = some ((m.consts.length : Int), y3)) (k3 : rdL rsCst m.consts.length y3 = some (m.consts, y4)) (k4 : rdN 2 y4 = some ((m.funcs.length : Int), y5)) (k5 : rdL rsFn m.funcs.length y5 = some (m.funcs, rest)) : rsMd y1 = some (m, rest) := by
  have e : rsMc y1 = some ((m.globals, m.consts), y4) := by
    unfold rsMc
    rw [k1, Option.bind_some, k2, Option.bind_some, Int.toNat_natCast, k3, Option.map_some]
  unfold rsMd
  rw [e, Option.bind_some, k4, Option.bind_some, Int.toNat_natCast, k5, Option.map_some]
theorem rdMd_fwd (m : Md) (rest : List Int) (h : MdIm m) : rdMd (bodZ m ++ rest) = some (m, rest) ∧ rsMd (bodZ m ++ rest) = some (m, rest) := by
  have hcn := h.cn
  have hfn := h.fn
  have e : bodZ m ++ rest = leZ 2 m.globals ++ (leZ 2 m.consts.length ++ (m.consts.flatMap cstZ ++ (leZ 2 m.funcs.length ++ (m.funcs.flatMap fcZ ++ rest)))) := by unfold bodZ; simp
  rw [e]
  have k1 := rdN2_fwd h.g0 h.g1 (leZ 2 m.consts.length ++ (m.consts.flatMap cstZ ++ (leZ 2 m.funcs.length ++ (m.funcs.flatMap fcZ ++ rest))))
  have k2 := rdN2_fwd (z := (m.consts.length : Int)) (by omega) (by omega) (m.consts.flatMap cstZ ++ (leZ 2 m.funcs.length ++ (m.funcs.flatMap fcZ ++ rest)))
  have k4 := rdN2_fwd (z := (m.funcs.length : Int)) (by omega) (by omega) (m.funcs.flatMap fcZ ++ rest)
  exact ⟨md_fwd k1 k2 (rdL_fwd (r := rdCst) (wr := cstZ) (P := fun ds => ds.length < 65536 ∧ ∀ d ∈ ds, DtIm d) (fun ds r hd => (rdCst_fwd ds r hd).1) m.consts _ h.cs) k4 (rdL_fwd (r := rdFn) (wr := fcZ) (P := FnIm) (fun f r hf => (rdFn_fwd f r hf).1) m.funcs rest h.fs), md_fwdS k1 k2 (rdL_fwd (r := rsCst) (wr := cstZ) (P := fun ds => ds.length < 65536 ∧ ∀ d ∈ ds, DtIm d) (fun ds r hd => (rdCst_fwd ds r hd).2) m.consts _ h.cs) k4 (rdL_fwd (r := rsFn) (wr := fcZ) (P := FnIm) (fun f r hf => (rdFn_fwd f r hf).2) m.funcs rest h.fs)⟩
end Go.Proofs.YtkkmoaidbmnolaaGreatDoor
namespace Go.Proofs.YtkkmoaidbmnolaaGreatDoor
open Go.RowKit Ch1
/-- The data ahead of what is left are good, and no list among them has more elements than there is room for. -/
def PreN (N : Nat) (l r : List Dt) (k : Nat) : Prop := ∃ pre, l = pre ++ r ∧ k ≤ pre.length ∧ ∀ d ∈ pre, goodB d = true ∧ (d.kind = 3 → d.count ≤ N)
theorem skipN_pre {N : Nat} {f : List Dt → Option (List Dt)} (hf : ∀ l r, f l = some r → l.length ≤ N → PreN N l r 1) : ∀ (k : Nat) (l r : List Dt), skipN f k l = some r → l.length ≤ N → PreN N l r k
  | 0, l, r, h, _ => by
    simp [skipN] at h
    subst h
    exact ⟨[], rfl, Nat.le_refl _, fun d hd => by cases hd⟩
  | k + 1, l, r, h, hl => by
    rw [skipN] at h
    cases e : f l with
    | none => rw [e] at h; cases h
    | some r' =>
      rw [e] at h
      obtain ⟨p1, e1, l1, g1⟩ := hf l r' e hl
      have hl' : r'.length ≤ N := by rw [e1, List.length_append] at hl; omega
      obtain ⟨p2, e2, l2, g2⟩ := skipN_pre hf k r' r h hl'
      refine ⟨p1 ++ p2, by rw [e1, e2, List.append_assoc], by rw [List.length_append]; omega, fun d hd => ?_⟩
      rcases List.mem_append.1 hd with hd | hd
      · exact g1 d hd
      · exact g2 d hd
theorem skip_pre {N : Nat} : ∀ (k : Nat) (l r : List Dt), skip k l = some r → l.length ≤ N → PreN N l r 1 := by
  intro k
  induction k using Nat.strongRecOn with
  | ind k ih =>
    intro l r h hl
    obtain ⟨d, q, rfl, hg, ⟨hne, rfl⟩ | ⟨k', rfl, h3, hs⟩⟩ := skip_some h
    · refine ⟨[d], rfl, Nat.le_refl _, fun d' hd => ?_⟩
      obtain rfl := List.mem_singleton.1 hd
      exact ⟨hg, fun h => absurd h hne⟩
    · obtain ⟨p, e, hk, g⟩ := skipN_pre (ih k' (by omega)) _ q r hs (by rw [List.length_cons] at hl; omega)
      refine ⟨d :: p, by rw [e]; rfl, by rw [List.length_cons]; omega, fun d' hd => ?_⟩
      rcases List.mem_cons.1 hd with rfl | hd
      · refine ⟨hg, fun _ => ?_⟩
        have hlp : p.length ≤ q.length := by rw [e, List.length_append]; omega
        rw [List.length_cons] at hl
        omega
      · exact g d' hd
theorem one_im {ds : List Dt} (h : skip 100 ds = some []) (hl : ds.length ≤ 3000) : ∀ d ∈ ds, DtIm d := by
  obtain ⟨p, e, _, g⟩ := skip_pre (N := 3000) 100 ds [] h hl
  rw [List.append_nil] at e
  subst e
  exact fun d hd => ⟨(g d hd).1, fun h3 => by have := (g d hd).2 h3; omega⟩
theorem ite_le {p : Prop} [Decidable p] {a b N : Int} (h1 : a ≤ N) (h2 : b ≤ N) : (if p then a else b) ≤ N := by
  split
  · exact h1
  · exact h2
theorem bnd_rng {m : Md} (h : GoodM m) {i : Nat} (hi : i < m.funcs.length) (op : Int) : bnd m (m.funcs.getD i fn0) op ≤ 5000 := by
  obtain ⟨f1, f2⟩ := fnFacts h hi
  have g1 := h.g1
  have c1 := h.cs.few
  have l1 : ((m.consts.length : Nat) : Int) ≤ 5000 := by omega
  have l2 : (((m.funcs.getD i fn0).free.length : Nat) : Int) ≤ 5000 := by omega
  have l3 : (((m.funcs.getD i fn0).code.length : Nat) : Int) ≤ 5000 := by omega
  have l4 : m.globals ≤ 5000 := by omega
  unfold bnd
  exact ite_le l1 (ite_le (by decide) (ite_le l2 (ite_le l4 (ite_le l4 (ite_le (by decide) (ite_le (by decide) (ite_le (by decide) (ite_le l3 (ite_le l3 (ite_le (by decide) (ite_le (by decide) (by decide))))))))))))
theorem GoodM.im {m : Md} (h : GoodM m) : MdIm m := by
  have hg0 := h.g0
  have hg1 := h.g1
  have hf2 := h.f2
  have hfew := h.cs.few
  refine ⟨hg0, by omega, by omega, fun ds hds => ?_, by omega, fun f hf => ?_⟩
  · obtain ⟨i, hi⟩ := List.getElem?_of_mem hds
    have hil : i < m.consts.length := (List.getElem?_eq_some_iff.1 hi).1
    have e : m.consts.getD i [] = ds := getD_of hi
    have h1 := h.cs.one i hil
    rw [e] at h1
    have h2 := cSum_succ m.consts i hil
    have h3 := cSum_le m.consts (i + 1) (by omega)
    have h4 := h.cs.sum
    rw [e] at h2
    exact ⟨by omega, one_im ((oneB_iff ds).1 h1) (by omega)⟩
  · obtain ⟨i, hi⟩ := List.getElem?_of_mem hf
    have hil : i < m.funcs.length := (List.getElem?_eq_some_iff.1 hi).1
    have e : m.funcs.getD i fn0 = f := getD_of hi
    obtain ⟨k1, k2⟩ := fnFacts h hil
    have ho := h.sz.fn i hil
    have hb := bnd_rng h hil
    rw [e] at k1 k2 ho hb
    refine ⟨ho.p0, by have := ho.p1; omega, by omega, by omega, fun x hx => ?_⟩
    obtain ⟨j, hj⟩ := List.getElem?_of_mem hx
    have hjl : j < f.code.length := (List.getElem?_eq_some_iff.1 hj).1
    have hc := h.cd i hil j (by rw [e]; exact hjl)
    rw [e, getD_of hj] at hc
    obtain ⟨o0, o1, ⟨_, a0, a1, b0⟩ | ⟨_, b0, a0, a1⟩⟩ := hc
    · have hal : x.a.toNat < m.funcs.length := by omega
      have := (fnFacts h hal).1
      exact ⟨o0, by omega, by omega, by omega, by omega, by omega⟩
    · have := hb x.op
      exact ⟨o0, by omega, a0, by omega, by omega, by omega⟩
theorem GoodM.kinds {m : Md} (h : GoodM m) : ∀ ds ∈ m.consts, ∀ d ∈ ds, d.kind ≤ 3 := fun ds hds d hd => by
  have := ((h.im.cs ds hds).2 d hd).1
  rcases good_kinds this with e | e | e | e <;> omega
/-- An image for the program is the image of a well-formed module. -/
theorem rdIm_iff {xs : List Int} (hr : Rg xs) (m : Md) : RdIm xs m ↔ xs = imZ m ∧ GoodM m := by
  constructor
  · rintro ⟨h4, r, h1, h2, hg⟩
    have hrd : Rg (xs.drop 4) := fun x hx => hr x (List.mem_of_mem_drop hx)
    obtain ⟨hrr, _, hinv⟩ := rdMd_inv _ _ _ hrd h1
    have e1 := hinv hg.kinds
    obtain ⟨e2, _⟩ := rdN_inv (by omega) hrr h2
    rw [List.append_nil] at e2
    have ex : xs = bdZ m ++ r := by
      rw [bdZ_bod, List.append_assoc, ← e1, ← h4, List.take_append_drop]
    have et : xs.take (xs.length - r.length) = bdZ m := by
      rw [ex, List.length_append, Nat.add_sub_cancel, List.take_left]
    rw [et] at e2
    refine ⟨?_, hg⟩
    unfold imZ
    rw [← e2]
    exact ex
  · rintro ⟨e, hg⟩
    have hrb : Rg (bdZ m) := fun x hx => hr x (by rw [e]; unfold imZ; exact List.mem_append_left _ hx)
    have hc := crcZ_rng (rg_getD hrb)
    have f := (rdMd_fwd m (leZ 4 (crcZ (bdZ m))) hg.im).1
    have e4 : xs = [83, 76, 65, 49] ++ (bodZ m ++ leZ 4 (crcZ (bdZ m))) := by rw [e]; unfold imZ; rw [← List.append_assoc, ← bdZ_bod]
    refine ⟨by rw [e4]; rfl, leZ 4 (crcZ (bdZ m)), ?_, ?_, hg⟩
    · have ed : xs.drop 4 = bodZ m ++ leZ 4 (crcZ (bdZ m)) := by rw [e4]; rfl
      rw [ed]
      exact f
    · have et : xs.take (xs.length - (leZ 4 (crcZ (bdZ m))).length) = bdZ m := by
        rw [e]; unfold imZ
        rw [List.length_append, Nat.add_sub_cancel, List.take_left]
      rw [et]
      have := rdN4_fwd hc.1 hc.2 []
      rw [List.append_nil] at this
      exact this
end Go.Proofs.YtkkmoaidbmnolaaGreatDoor
