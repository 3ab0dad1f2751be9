import Derived.Test.YtkkmoaidbmnolaaGreatDoorQ0
import Derived.Test.YtkkmoaidbmnolaaGreatDoorWd
import Derived.Test.YtkkmoaidbmnolaaGreatDoorD1
import Derived.Test.YtkkmoaidbmnolaaGreatDoorDr
namespace Go.Proofs.YtkkmoaidbmnolaaGreatDoor
open Go.RowKit Ch1
/-- The lowest n bytes of a number, the lowest first. -/
def leZ : Nat → Int → List Int
  | 0, _ => []
  | n + 1, v => (v % 256) :: leZ n (v / 256)
/-- A number without its lowest k bytes. -/
def shZ : Nat → Int → Int
  | 0, v => v
  | k + 1, v => shZ k v / 256
theorem shZ_head : ∀ (k : Nat) (v : Int), shZ k (v / 256) = shZ k v / 256
  | 0, _ => rfl
  | k + 1, v => by show shZ k (v / 256) / 256 = shZ k v / 256 / 256; rw [shZ_head k v]
theorem leZ_len : ∀ (n : Nat) (v : Int), (leZ n v).length = n
  | 0, _ => rfl
  | n + 1, v => by simp [leZ, leZ_len n]
theorem leZ_rg : ∀ (n : Nat) (v : Int), Rg (leZ n v)
  | 0, _ => fun x hx => by cases hx
  | n + 1, v => fun x hx => by
    unfold leZ at hx
    rcases List.mem_cons.1 hx with h | h
    · omega
    · exact leZ_rg n _ x h
theorem leZ_snoc : ∀ (k : Nat) (v : Int), leZ (k + 1) v = leZ k v ++ [shZ k v % 256]
  | 0, v => rfl
  | k + 1, v => by
    show (v % 256) :: leZ (k + 1) (v / 256) = (v % 256) :: leZ k (v / 256) ++ [shZ k v / 256 % 256]
    rw [leZ_snoc k (v / 256), shZ_head]
    rfl
theorem leZ_u2 (v : Int) : leZ 2 (v % 18446744073709551616) = leZ 2 v := by
  simp only [leZ, List.cons.injEq, and_true]
  omega
theorem leZ_u4 (v : Int) : leZ 4 (v % 18446744073709551616) = leZ 4 v := by
  simp only [leZ, List.cons.injEq, and_true]
  omega
theorem leZ_u8 (v : Int) : leZ 8 (v % 18446744073709551616) = leZ 8 v := by
  simp only [leZ, List.cons.injEq, and_true]
  omega
theorem shZ_rng (k : Nat) (v : Int) (h0 : 0 ≤ v) : 0 ≤ shZ k v ∧ shZ k v ≤ v := by
  induction k with
  | zero => exact ⟨h0, Int.le_refl _⟩
  | succ k ih => show 0 ≤ shZ k v / 256 ∧ shZ k v / 256 ≤ v; omega
/-- A datum's bytes. -/
def datZ (d : Dt) : List Int := (d.kind % 256) :: (if d.kind = 0 then leZ 8 d.n else if d.kind = 1 then [d.n % 256] else if d.kind = 2 then ((d.text.length : Int) % 256) :: d.text else leZ 2 d.count)
/-- The bytes of the first k data. -/
def dsZ (ds : List Dt) (k : Nat) : List Int := (List.range k).flatMap (fun i => datZ (ds.getD i dt0))
def cstZ (ds : List Dt) : List Int := leZ 2 ds.length ++ dsZ ds ds.length
def ccZ (ls : List (List Dt)) (k : Nat) : List Int := (List.range k).flatMap (fun i => cstZ (ls.getD i []))
def boxZ (b : Bool) : Int := if b then 1 else 0
def frZ (bs : List Bool) (k : Nat) : List Int := (List.range k).map (fun i => boxZ (bs.getD i false))
def isZ (x : In) : List Int := ((x.op % 256) :: leZ 2 x.a) ++ [x.b % 256]
def cdZ (xs : List In) (k : Nat) : List Int := (List.range k).flatMap (fun i => isZ (xs.getD i in0))
def fcZ (f : Fn) : List Int := ((([f.params % 256, (f.free.length : Int) % 256] ++ frZ f.free f.free.length) ++ leZ 2 f.code.length) ++ cdZ f.code f.code.length)
def ffZ (fs : List Fn) (k : Nat) : List Int := (List.range k).flatMap (fun i => fcZ (fs.getD i fn0))
/-- An image ahead of its checksum. -/
def bdZ (m : Md) : List Int := (((([83, 76, 65, 49] ++ leZ 2 m.globals) ++ leZ 2 m.consts.length) ++ ccZ m.consts m.consts.length) ++ leZ 2 m.funcs.length) ++ ffZ m.funcs m.funcs.length
/-- An image. -/
def imZ (m : Md) : List Int := bdZ m ++ leZ 4 (crcZ (bdZ m))
theorem flat_succ {α : Type} (f : Nat → List α) (k : Nat) : (List.range (k + 1)).flatMap f = (List.range k).flatMap f ++ f k := by rw [List.range_succ, List.flatMap_append]; simp
theorem dsZ_succ (ds : List Dt) (k : Nat) : dsZ ds (k + 1) = dsZ ds k ++ datZ (ds.getD k dt0) := flat_succ _ k
theorem ccZ_succ (ls : List (List Dt)) (k : Nat) : ccZ ls (k + 1) = ccZ ls k ++ cstZ (ls.getD k []) := flat_succ _ k
theorem cdZ_succ (xs : List In) (k : Nat) : cdZ xs (k + 1) = cdZ xs k ++ isZ (xs.getD k in0) := flat_succ _ k
theorem ffZ_succ (fs : List Fn) (k : Nat) : ffZ fs (k + 1) = ffZ fs k ++ fcZ (fs.getD k fn0) := flat_succ _ k
theorem frZ_succ (bs : List Bool) (k : Nat) : frZ bs (k + 1) = frZ bs k ++ [boxZ (bs.getD k false)] := by unfold frZ; rw [List.range_succ, List.map_append]; rfl
theorem frZ_len (bs : List Bool) (k : Nat) : (frZ bs k).length = k := by unfold frZ; simp
theorem isZ_len (x : In) : (isZ x).length = 4 := by unfold isZ; simp [leZ_len]
theorem cdZ_len (xs : List In) (k : Nat) : (cdZ xs k).length = 4 * k := by
  induction k with
  | zero => rfl
  | succ k ih => rw [cdZ_succ, List.length_append, ih, isZ_len]; omega
theorem datZ_len (d : Dt) : (datZ d).length ≤ 9 + d.text.length := by
  unfold datZ
  rw [List.length_cons]
  split
  · rw [leZ_len]; omega
  · split
    · simp; omega
    · split
      · simp; omega
      · rw [leZ_len]; omega
end Go.Proofs.YtkkmoaidbmnolaaGreatDoor
namespace Go.Proofs.YtkkmoaidbmnolaaGreatDoor
open Go.RowKit Ch1
/-! ### the pure reader and the pure writer -/
theorem range_getD {α : Type} (l : List α) (z : α) : (List.range l.length).map (fun i => l.getD i z) = l := by
  refine List.ext_getElem (by simp) (fun i h1 h2 => ?_)
  simp [List.getD, List.getElem?_eq_getElem h2]
theorem range_flat {α β : Type} (f : α → List β) (l : List α) (z : α) : (List.range l.length).flatMap (fun i => f (l.getD i z)) = l.flatMap f := by
  conv => rhs; rw [← range_getD l z]
  rw [List.flatMap_map]
theorem dsZ_all (ds : List Dt) : dsZ ds ds.length = ds.flatMap datZ := range_flat datZ ds dt0
theorem ccZ_all (ls : List (List Dt)) : ccZ ls ls.length = ls.flatMap cstZ := range_flat cstZ ls []
theorem cdZ_all (xs : List In) : cdZ xs xs.length = xs.flatMap isZ := range_flat isZ xs in0
theorem ffZ_all (fs : List Fn) : ffZ fs fs.length = fs.flatMap fcZ := range_flat fcZ fs fn0
theorem frZ_all (bs : List Bool) : frZ bs bs.length = bs.flatMap (fun b => [boxZ b]) := by
  unfold frZ
  conv => rhs; rw [← range_getD bs false]
  rw [List.flatMap_map, List.map_eq_flatMap]
theorem leZ_ln : ∀ (ys : List Int), Rg ys → leZ ys.length (lnZ ys) = ys
  | [], _ => rfl
  | x :: r, h => by
    have hx := h x (by simp)
    have hr := leZ_ln r (fun y hy => h y (List.mem_cons_of_mem _ hy))
    show ((x + 256 * lnZ r) % 256) :: leZ r.length ((x + 256 * lnZ r) / 256) = x :: r
    rw [show (x + 256 * lnZ r) % 256 = x by omega, show (x + 256 * lnZ r) / 256 = lnZ r by omega, hr]
theorem leZ_mod : ∀ (k : Nat) (v c : Int), leZ k (v + c * 256 ^ k) = leZ k v
  | 0, _, _ => rfl
  | k + 1, v, c => by
    show ((v + c * 256 ^ (k + 1)) % 256) :: leZ k ((v + c * 256 ^ (k + 1)) / 256) = (v % 256) :: leZ k (v / 256)
    have e : c * (256 : Int) ^ (k + 1) = (c * 256 ^ k) * 256 := by rw [Int.pow_succ, Int.mul_assoc]
    rw [e, Int.add_mul_emod_self_right, Int.add_mul_ediv_right _ _ (by decide), leZ_mod k (v / 256) c]
theorem leZ_wrap (k : Nat) (hk : k ≤ 8) (v : Int) : leZ k (wrap64 v) = leZ k v := by
  obtain ⟨c, hc⟩ : ∃ c : Int, wrap64 v = v + c * 18446744073709551616 := ⟨-((v + 9223372036854775808) / 18446744073709551616), by unfold wrap64; omega⟩
  have e : (18446744073709551616 : Int) = 256 ^ (8 - k) * 256 ^ k := by
    rw [← Int.pow_add, show 8 - k + k = 8 by omega]; rfl
  rw [hc, e, ← Int.mul_assoc, leZ_mod]
theorem rdN_inv {k : Nat} {xs r : List Int} {z : Int} (hk : k ≤ 8) (hr : Rg xs) (h : rdN k xs = some (z, r)) : xs = leZ k z ++ r ∧ Rg r := by
  unfold rdN at h
  split at h
  · simp only [Option.some.injEq, Prod.mk.injEq] at h
    obtain ⟨rfl, rfl⟩ := h
    refine ⟨?_, fun x hx => hr x (List.mem_of_mem_drop hx)⟩
    have hl : (xs.take k).length = k := by rw [List.length_take]; omega
    have := leZ_ln (xs.take k) (fun x hx => hr x (List.mem_of_mem_take hx))
    rw [hl] at this
    rw [leZ_wrap k hk, this, List.take_append_drop]
  · cases h
theorem rdN_four {xs rest : List Int} {z : Int} (hr : Rg xs) (h : rdN 4 xs = some (z, rest)) : 0 ≤ z ∧ z < 4294967296 := by
  unfold rdN at h
  split at h
  · simp only [Option.some.injEq, Prod.mk.injEq] at h
    have h1 := lnZ_rg (xs.take 4) (fun x hx => hr x (List.mem_of_mem_take hx))
    have hl : (xs.take 4).length = 4 := by rw [List.length_take]; omega
    rw [hl] at h1
    rw [← h.1, wrap64_small _ (by omega) (by omega)]
    omega
  · cases h
theorem le1 (z : Int) : leZ 1 z = [z % 256] := rfl
/-- A list of pieces is read back, if each piece is. -/
theorem rdL_inv {α : Type} {r : List Int → Option (α × List Int)} {P Q : α → Prop} {wr : α → List Int} (hs : ∀ xs a rest, Rg xs → r xs = some (a, rest) → Rg rest ∧ Q a ∧ (P a → xs = wr a ++ rest)) : ∀ k xs l rest, Rg xs → rdL r k xs = some (l, rest) → l.length = k ∧ Rg rest ∧ (∀ a ∈ l, Q a) ∧ ((∀ a ∈ l, P a) → xs = l.flatMap wr ++ rest)
  | 0, xs, l, rest, hr, h => by
    rw [rdL] at h
    cases h
    exact ⟨rfl, hr, fun a ha => (by cases ha), fun _ => rfl⟩
  | k + 1, xs, l, rest, hr, h => by
    rw [rdL] at h
    obtain ⟨⟨a, r1⟩, h1, h2⟩ := Option.bind_eq_some_iff.1 h
    obtain ⟨⟨q, r2⟩, h3, h4⟩ := Option.map_eq_some_iff.1 h2
    cases h4
    obtain ⟨g1, g2, g3⟩ := hs xs a r1 hr h1
    obtain ⟨e1, e2, e3, e4⟩ := rdL_inv hs k r1 q r2 g1 h3
    refine ⟨by simp [e1], e2, fun b hb => ?_, fun hp => ?_⟩
    · rcases List.mem_cons.1 hb with rfl | hb
      · exact g2
      · exact e3 b hb
    · rw [List.flatMap_cons, List.append_assoc, ← e4 (fun b hb => hp b (List.mem_cons_of_mem _ hb))]
      exact g3 (hp a (by simp))
theorem rdDs_eq : ∀ (k : Nat) (xs : List Int), rdDs k xs = rdL rdD k xs
  | 0, _ => rfl
  | k + 1, xs => by rw [rdDs, rdL]; congr 1; funext r; rw [rdDs_eq k]
theorem rdTs_eq : ∀ (k : Nat) (xs : List Int), rdTs k xs = rdL rdT k xs
  | 0, _ => rfl
  | k + 1, xs => by rw [rdTs, rdL]; congr 1; funext r; rw [rdTs_eq k]
theorem rdIs_eq : ∀ (k : Nat) (xs : List Int), rdIs k xs = rdL rdI k xs
  | 0, _ => rfl
  | k + 1, xs => by rw [rdIs, rdL]; congr 1; funext r; rw [rdIs_eq k]
theorem DtOk.plain (k n c : Int) (h0 : 0 ≤ c) (h1 : c < 65536) : DtOk ⟨k, n, [], c⟩ := ⟨fun x hx => (by cases hx), h0, h1, (by simp)⟩
theorem rdD_inv (xs : List Int) (d : Dt) (rest : List Int) (hr : Rg xs) (h : rdD xs = some (d, rest)) : Rg rest ∧ DtOk d ∧ (d.kind ≤ 3 → xs = datZ d ++ rest) := by
  unfold rdD at h
  obtain ⟨⟨z, r1⟩, h1, h2⟩ := Option.bind_eq_some_iff.1 h
  have hz := rdN_byte hr h1
  obtain ⟨e1, g1⟩ := rdN_inv (by omega) hr h1
  change rdR z r1 = some (d, rest) at h2
  unfold rdR at h2
  split at h2
  · rename_i hk
    obtain ⟨⟨y, r2⟩, k1, k2⟩ := Option.map_eq_some_iff.1 h2
    cases k2
    obtain ⟨e2, g2⟩ := rdN_inv (by omega) g1 k1
    refine ⟨g2, DtOk.plain _ _ _ (by omega) (by omega), fun _ => ?_⟩
    rw [e1, e2, hk, le1]
    rfl
  · split at h2
    · rename_i hk0 hk
      obtain ⟨⟨y, r2⟩, k1, k2⟩ := Option.map_eq_some_iff.1 h2
      cases k2
      obtain ⟨e2, g2⟩ := rdN_inv (by omega) g1 k1
      refine ⟨g2, DtOk.plain _ _ _ (by omega) (by omega), fun _ => ?_⟩
      rw [e1, e2, hk, le1, le1]
      rfl
    · split at h2
      · rename_i hk0 hk1 hk
        obtain ⟨⟨y, r2⟩, k1, k2⟩ := Option.bind_eq_some_iff.1 h2
        have hy := rdN_byte g1 k1
        obtain ⟨e2, g2⟩ := rdN_inv (by omega) g1 k1
        simp only at k2
        split at k2
        · rename_i hle
          cases k2
          have hl : (r2.take y.toNat).length = y.toNat := by rw [List.length_take]; omega
          refine ⟨fun x hx => g2 x (List.mem_of_mem_drop hx), ⟨fun x hx => g2 x (List.mem_of_mem_take hx), by show (0 : Int) ≤ 0; omega, by show (0 : Int) < 65536; omega, by show (r2.take y.toNat).length < 256; omega⟩, fun _ => ?_⟩
          rw [e1, e2, hk, le1, le1]
          show _ = ((2 : Int) % 256 :: ((((r2.take y.toNat).length : Nat) : Int) % 256) :: r2.take y.toNat) ++ r2.drop y.toNat
          rw [hl, show ((y.toNat : Nat) : Int) = y by omega]
          simp [List.take_append_drop]
        · cases k2
      · split at h2
        · rename_i hk0 hk1 hk2 hk
          obtain ⟨⟨y, r2⟩, k1, k2⟩ := Option.map_eq_some_iff.1 h2
          cases k2
          have hy := rdN_two g1 k1
          obtain ⟨e2, g2⟩ := rdN_inv (by omega) g1 k1
          refine ⟨g2, DtOk.plain _ _ _ hy.1 hy.2, fun _ => ?_⟩
          rw [e1, e2, hk, le1]
          rfl
        · cases h2
          refine ⟨g1, DtOk.plain _ _ _ (by omega) (by omega), fun hk => ?_⟩
          simp only at hk
          omega
theorem rdT_inv (xs : List Int) (b : Bool) (rest : List Int) (hr : Rg xs) (h : rdT xs = some (b, rest)) : Rg rest ∧ True ∧ (True → xs = [boxZ b] ++ rest) := by
  unfold rdT at h
  obtain ⟨⟨z, r1⟩, h1, h2⟩ := Option.bind_eq_some_iff.1 h
  have hz := rdN_byte hr h1
  obtain ⟨e1, g1⟩ := rdN_inv (by omega) hr h1
  simp only at h2
  split at h2
  · rename_i hle
    cases h2
    refine ⟨g1, trivial, fun _ => ?_⟩
    rw [e1, le1]
    have : z = 0 ∨ z = 1 := by omega
    rcases this with rfl | rfl <;> rfl
  · cases h2
theorem rdI_inv (xs : List Int) (d : In) (rest : List Int) (hr : Rg xs) (h : rdI xs = some (d, rest)) : Rg rest ∧ True ∧ (True → xs = isZ d ++ rest) := by
  unfold rdI at h
  obtain ⟨⟨a, r1⟩, h1, h2⟩ := Option.bind_eq_some_iff.1 h
  obtain ⟨⟨b, r2⟩, h3, h4⟩ := Option.bind_eq_some_iff.1 h2
  obtain ⟨⟨c, r3⟩, h5, h6⟩ := Option.map_eq_some_iff.1 h4
  cases h6
  obtain ⟨e1, g1⟩ := rdN_inv (by omega) hr h1
  obtain ⟨e2, g2⟩ := rdN_inv (by omega) g1 h3
  obtain ⟨e3, g3⟩ := rdN_inv (by omega) g2 h5
  refine ⟨g3, trivial, fun _ => ?_⟩
  rw [e1, e2, e3, le1, le1]
  unfold isZ
  simp
theorem rdFn_inv (xs : List Int) (f : Fn) (rest : List Int) (hr : Rg xs) (h : rdFn xs = some (f, rest)) : Rg rest ∧ FnRd f ∧ (True → xs = fcZ f ++ rest) := by
  unfold rdFn rdFree at h
  obtain ⟨⟨a, r⟩, h1, h2⟩ := Option.bind_eq_some_iff.1 h
  obtain ⟨⟨k, r2⟩, h3, h4⟩ := Option.bind_eq_some_iff.1 h2
  obtain ⟨⟨c, r3⟩, h5, h6⟩ := Option.map_eq_some_iff.1 h4
  cases h6
  obtain ⟨⟨p, q1⟩, k1, k2⟩ := Option.bind_eq_some_iff.1 h1
  obtain ⟨⟨n, q2⟩, k3, k4⟩ := Option.bind_eq_some_iff.1 k2
  obtain ⟨⟨t, q3⟩, k5, k6⟩ := Option.map_eq_some_iff.1 k4
  cases k6
  obtain ⟨e1, g1⟩ := rdN_inv (by omega) hr k1
  obtain ⟨e2, g2⟩ := rdN_inv (by omega) g1 k3
  have hnr := rdN_byte g1 k3
  rw [rdTs_eq] at k5
  obtain ⟨l1, g3, _, e3⟩ := rdL_inv (P := fun _ => True) (Q := fun _ => True) (wr := fun b => [boxZ b]) rdT_inv _ _ _ _ g2 k5
  obtain ⟨e4, g4⟩ := rdN_inv (by omega) g3 h3
  have hkr := rdN_two g3 h3
  rw [rdIs_eq] at h5
  obtain ⟨l2, g5, _, e5⟩ := rdL_inv (P := fun _ => True) (Q := fun _ => True) (wr := isZ) rdI_inv _ _ _ _ g4 h5
  refine ⟨g5, ⟨by show t.length < 256; omega, by show c.length < 65536; omega⟩, fun _ => ?_⟩
  have e3 := e3 (fun _ _ => trivial)
  have e5 := e5 (fun _ _ => trivial)
  rw [e1, e2, e3, e4, e5, le1, le1]
  unfold fcZ
  rw [frZ_all, cdZ_all, show ((t.length : Nat) : Int) = n by omega, show ((c.length : Nat) : Int) = k by omega]
  simp
theorem rdCst_inv (xs : List Int) (ds : List Dt) (rest : List Int) (hr : Rg xs) (h : rdCst xs = some (ds, rest)) : Rg rest ∧ (ds.length < 65536 ∧ ∀ d ∈ ds, DtOk d) ∧ ((∀ d ∈ ds, d.kind ≤ 3) → xs = cstZ ds ++ rest) := by
  unfold rdCst at h
  obtain ⟨⟨z, r1⟩, h1, h2⟩ := Option.bind_eq_some_iff.1 h
  have hz := rdN_two hr h1
  obtain ⟨e1, g1⟩ := rdN_inv (by omega) hr h1
  rw [rdDs_eq] at h2
  obtain ⟨l1, g2, q2, e2⟩ := rdL_inv (P := fun d : Dt => d.kind ≤ 3) (Q := DtOk) (wr := datZ) rdD_inv _ _ _ _ g1 h2
  refine ⟨g2, ⟨by simp only at l1; omega, q2⟩, fun hp => ?_⟩
  have e2 := e2 hp
  simp only at e2 l1
  rw [e1, e2]
  unfold cstZ
  rw [dsZ_all, show ((ds.length : Nat) : Int) = z by omega, List.append_assoc]
/-- What stands in an image between the mark and the checksum. -/
def bodZ (m : Md) : List Int := leZ 2 m.globals ++ (leZ 2 m.consts.length ++ (m.consts.flatMap cstZ ++ (leZ 2 m.funcs.length ++ m.funcs.flatMap fcZ)))
theorem bdZ_bod (m : Md) : bdZ m = [83, 76, 65, 49] ++ bodZ m := by
  unfold bdZ bodZ
  rw [ccZ_all, ffZ_all]
  simp
theorem rdMd_inv (xs : List Int) (m : Md) (rest : List Int) (hr : Rg xs) (h : rdMd xs = some (m, rest)) : Rg rest ∧ MdOk m ∧ ((∀ ds ∈ m.consts, ∀ d ∈ ds, d.kind ≤ 3) → xs = bodZ m ++ rest) := by
  unfold rdMd rdMc at h
  obtain ⟨⟨a, r⟩, h1, h2⟩ := Option.bind_eq_some_iff.1 h
  obtain ⟨⟨n, r2⟩, h3, h4⟩ := Option.bind_eq_some_iff.1 h2
  obtain ⟨⟨f, r3⟩, h5, h6⟩ := Option.map_eq_some_iff.1 h4
  cases h6
  obtain ⟨⟨g, q1⟩, k1, k2⟩ := Option.bind_eq_some_iff.1 h1
  obtain ⟨⟨k, q2⟩, k3, k4⟩ := Option.bind_eq_some_iff.1 k2
  obtain ⟨⟨c, q3⟩, k5, k6⟩ := Option.map_eq_some_iff.1 k4
  cases k6
  obtain ⟨e1, g1⟩ := rdN_inv (by omega) hr k1
  obtain ⟨e2, g2⟩ := rdN_inv (by omega) g1 k3
  have hkr := rdN_two g1 k3
  obtain ⟨l1, g3, qs, e3⟩ := rdL_inv (P := fun ds : List Dt => ∀ d ∈ ds, d.kind ≤ 3) (Q := fun ds : List Dt => ds.length < 65536 ∧ ∀ d ∈ ds, DtOk d) (wr := cstZ) rdCst_inv _ _ _ _ g2 k5
  obtain ⟨e4, g4⟩ := rdN_inv (by omega) g3 h3
  have hnr := rdN_two g3 h3
  obtain ⟨l2, g5, fq, e5⟩ := rdL_inv (P := fun _ => True) (Q := FnRd) (wr := fcZ) rdFn_inv _ _ _ _ g4 h5
  simp only at l1 l2 e2 e4
  refine ⟨g5, ⟨by show c.length < 65536; omega, qs, by show f.length < 65536; omega, fq⟩, fun hp => ?_⟩
  have e3 := e3 hp
  have e5 := e5 (fun _ _ => trivial)
  rw [e1, e2, e3, e4, e5]
  unfold bodZ
  rw [show ((c.length : Nat) : Int) = k by omega, show ((f.length : Nat) : Int) = n by omega]
  simp
end Go.Proofs.YtkkmoaidbmnolaaGreatDoor
