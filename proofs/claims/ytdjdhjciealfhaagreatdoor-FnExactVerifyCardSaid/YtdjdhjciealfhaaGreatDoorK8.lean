import Derived.Test.YtdjdhjciealfhaaGreatDoorK6
import Derived.Test.YtdjdhjciealfhaaGreatDoorK4
import Derived.Test.YtdjdhjciealfhaaGreatDoorMe
import Derived.Test.YtdjdhjciealfhaaGreatDoorU3
namespace Go.Proofs.YtdjdhjciealfhaaGreatDoor
open Go.RowKit Ch1
namespace Vf
/-! ### the program's tables -/
def tkT (op : Nat) : List Nat := if op = 4 ∨ op = 11 ∨ op = 13 then [255, 0, 0] else if op = 6 then [256, 0, 0] else if op = 7 then [256, 255, 0] else if op = 16 then [511, 0, 0] else [0, 0, 0]
def lvT (op : Nat) : Nat := if op = 3 ∨ op = 6 ∨ op = 9 then 255 else if op = 5 then 256 else if op = 8 then 64 else if op = 17 then 128 else 0
def enT (op : Nat) : Bool := decide (op = 10 ∨ op = 11 ∨ op = 12)
def jmT (op : Nat) : Bool := decide (op = 12 ∨ op = 13)
structure TvR (w : World) (op : Nat) : Prop where
  c3 : w.cell? ⟨0, op * 9 + 3, none⟩ = some (.int .u16 ((tkT op).getD 0 0 : Nat))
  c4 : w.cell? ⟨0, op * 9 + 4, none⟩ = some (.int .u16 ((tkT op).getD 1 0 : Nat))
  c5 : w.cell? ⟨0, op * 9 + 5, none⟩ = some (.int .u16 ((tkT op).getD 2 0 : Nat))
  c6 : w.cell? ⟨0, op * 9 + 6, none⟩ = some (.int .u16 (lvT op : Nat))
  c7 : w.cell? ⟨0, op * 9 + 7, none⟩ = some (.bool (enT op))
  c8 : w.cell? ⟨0, op * 9 + 8, none⟩ = some (.bool (jmT op))
structure TvP (w : World) (p : Nat) : Prop where
  c1 : w.cell? ⟨1, p * 5 + 1, none⟩ = some (.int .u16 ((pArgs p).getD 0 0 : Nat))
  c2 : w.cell? ⟨1, p * 5 + 2, none⟩ = some (.int .u16 ((pArgs p).getD 1 0 : Nat))
  c3 : w.cell? ⟨1, p * 5 + 3, none⟩ = some (.int .u16 ((pArgs p).getD 2 0 : Nat))
  c4 : w.cell? ⟨1, p * 5 + 4, none⟩ = some (.int .u16 (pRes p : Nat))
/-- Both tables, as Verify reads them. -/
structure TbV (w : World) : Prop where
  tb : Tb w
  lt : 1 < w.heap.size
  row : ∀ op, op < 18 → TvR w op
  pri : ∀ p, p < 22 → TvP w p
theorem TbV.below {w w' : World} (h : TbV w) (hb : Below w.heap.size w w') : TbV w' := by
  have k1 : ∀ {o : Nat} {v : Value}, w.cell? ⟨0, o, none⟩ = some v → w'.cell? ⟨0, o, none⟩ = some v := fun hv => cell_keepD hb h.tb.lt hv
  have k2 : ∀ {o : Nat} {v : Value}, w.cell? ⟨1, o, none⟩ = some v → w'.cell? ⟨1, o, none⟩ = some v := fun hv => cell_keepD hb h.lt hv
  exact ⟨h.tb.below hb, Nat.lt_of_lt_of_le h.lt hb.size, fun op ho => ⟨k1 (h.row op ho).c3, k1 (h.row op ho).c4, k1 (h.row op ho).c5, k1 (h.row op ho).c6, k1 (h.row op ho).c7, k1 (h.row op ho).c8⟩, fun p hp => ⟨k2 (h.pri p hp).c1, k2 (h.pri p hp).c2, k2 (h.pri p hp).c3, k2 (h.pri p hp).c4⟩⟩
theorem lefts_tab {m : Md} {f : Fn} {x : In} {s : List Nat} (h0 : 0 ≤ x.op) (h1 : x.op ≠ 0) (h2 : x.op ≠ 1) (h3 : x.op ≠ 2) (h4 : x.op ≠ 14) (h5 : x.op ≠ 15) : lefts m f x s = lvT x.op.toNat := by
  obtain ⟨op, a, b⟩ := x
  simp only at h0 h1 h2 h3 h4 h5
  obtain ⟨j, rfl⟩ := Int.eq_ofNat_of_zero_le h0
  unfold lefts lvT
  simp only [Int.toNat_natCast]
  by_cases a3 : j = 3
  · subst a3; rfl
  by_cases a5 : j = 5
  · subst a5; rfl
  by_cases a6 : j = 6
  · subst a6; rfl
  by_cases a8 : j = 8
  · subst a8; rfl
  by_cases a9 : j = 9
  · subst a9; rfl
  by_cases a17 : j = 17
  · subst a17; rfl
  rw [if_neg (by omega), if_neg (by omega), if_neg (by omega), if_neg (by omega), if_neg (by omega), if_neg (by omega), if_neg (by omega), if_neg (by omega), if_neg (by omega), if_neg (by omega), if_neg (by omega), if_neg (by omega), if_neg (by omega), if_neg (by omega), if_neg (by omega)]
/-- What leftBy asks. -/
structure LbAt (w : World) (cp : Option Addr) (cn cc : Nat) (rp : Option Addr) (rl rc : Nat) (m : Md) (f : Fn) (x : In) (s : List Nat) : Prop where
  ok : InsOk m f x
  cs : Dd w cp cn cc m.consts
  ne : ∀ i, i < m.consts.length → 0 < (m.consts.getD i []).length
  ct : ∀ i, i < m.consts.length → 0 ≤ ((m.consts.getD i []).getD 0 dt0).count
  fr : Bo w rp rl rc f.free
  tb : TbV w
  sl : s.length ≤ 200
set_option maxRecDepth 20000 in
set_option maxHeartbeats 4000000 in
/-- leftBy: what an instruction leaves. -/
theorem leftBy_c (cp : Option Addr) (cn cc : Nat) (g : Int) (fp : Option Addr) (fn fc : Nat) (k : Int) (rp : Option Addr) (rl rc : Nat) (dp : Option Addr) (dl dc : Nat) (m : Md) (f : Fn) (x : In) (s : List Nat) (w : World) (h : LbAt w cp cn cc rp rl rc m f x s) :
    Calls Tryz.prog 73 #[.agg #[.slice cp cn cc, .int .i64 g, .slice fp fn fc], .agg #[.int .i64 k, .slice rp rl rc, .slice dp dl dc], .agg #[.int .i64 x.op, .int .i64 x.a, .int .i64 x.b], .agg (stG true s.length (fun i => s.getD i 0)).toArray] w fun e w' => e = .returned (.int .u16 (lefts m f x s : Nat)) ∧ Below w.heap.size w w' := by
  obtain ⟨op, a, b⟩ := x
  obtain ⟨⟨h0, h1, h2⟩, hcs, hne, hct, hfr, htb, hsl⟩ := h
  simp only at h0 h1 h2 ⊢
  obtain ⟨W, hW⟩ : ∃ W, W = (((w.alloc (.cells #[.slice cp cn cc, .int .i64 g, .slice fp fn fc] 33)).alloc (.cells #[.int .i64 k, .slice rp rl rc, .slice dp dl dc] 48)).alloc (.cells #[.int .i64 op, .int .i64 a, .int .i64 b] 73)).alloc (.cells (stG true s.length (fun i => s.getD i 0)).toArray 90) := ⟨_, rfl⟩
  have HBW : Hid (Below w.heap.size w W) := by unfold Hid; rw [hW]; exact below4 w _ _ _ _
  have hl1 := stG_len true s.length (fun i => s.getD i 0)
  have HSB : Hid (Sb W (w.heap.size + 1 + 1 + 1) true s.length (fun i => s.getD i 0)) := by
    unfold Hid
    rw [hW]
    have := Sb.new (((w.alloc (.cells #[.slice cp cn cc, .int .i64 g, .slice fp fn fc] 33)).alloc (.cells #[.int .i64 k, .slice rp rl rc, .slice dp dl dc] 48)).alloc (.cells #[.int .i64 op, .int .i64 a, .int .i64 b] 73)) true s.length (fun i => s.getD i 0)
    rw [World.size_alloc, World.size_alloc, World.size_alloc] at this
    exact this
  obtain ⟨A, hA⟩ : ∃ A, A = stG true s.length (fun i => s.getD i 0) := ⟨_, rfl⟩
  rw [← hA] at hW hl1 ⊢
  clear hA
  by_cases c0 : op = 0
  · subst c0
    simp [bnd] at h2
    obtain ⟨j, rfl⟩ := Int.eq_ofNat_of_zero_le h2.2.1
    have hj : j < cn := by have := hcs.len; omega
    have hjl : j < m.consts.length := by have := hcs.len; omega
    have hne := hne j hjl
    obtain ⟨bb, o, rfl, hbl, g'⟩ := (hcs.below HBW.out).cells (by omega)
    obtain ⟨q, qn, qc, e1, hda⟩ := g' j hj
    obtain ⟨db, d0, rfl, hdl, gd⟩ := hda.cells (by rw [← hda.len]; exact hne)
    obtain ⟨tp, tn, tc, he⟩ := gd 0 (by rw [← hda.len]; exact hne)
    have hqn : 0 < qn := by rw [← hda.len]; exact hne
    have hcn := small_of hcs.cap hcs.big
    have hqs := small_of hda.cap hda.big
    obtain ⟨d, hd⟩ : ∃ d, d = (m.consts.getD j []).getD 0 dt0 := ⟨_, rfl⟩
    have HDD : Hid (d = (m.consts.getD j []).getD 0 dt0) := hd
    have HCT : Hid (0 ≤ d.count) := by unfold Hid; rw [hd]; exact hct j hjl
    rw [← hd] at he
    have x1 := e1
    have x2 := he.c0
    have x3 := he.c1
    have x4 := he.c2
    have x5 := he.c3
    rw [Nat.zero_mul, Nat.add_zero] at x2 x3 x4 x5
    rw [hW] at x1 x2 x3 x4 x5
    clear h2 hcs hne hfr htb hsl g' gd he hda hd e1 hct HSB
    go_enter Tryz.func73, Tryz.ntmps73
    go_wp2_with fail
    rw [← hW]
    refine (kindOf_c d tp tn tc HCT.out _).mono ?_
    rintro e w1 ⟨rfl, hb1⟩
    have HB : Hid (Below w.heap.size w w1) := HBW.out.trans (hb1.mono HBW.out.size)
    clear hb1 x1 x2 x3 x4 x5 hW
    go_wp2
    go_ret
    exact ⟨by rw [HDD.out]; simp [lefts], HB.out⟩
  have b0 : (op == 0) = false := by simp [c0]
  by_cases c1 : op = 1
  · subst c1
    simp [bnd] at h2
    obtain ⟨j, rfl⟩ := Int.eq_ofNat_of_zero_le h2.2.1
    have hj : j < 200 := by omega
    have s0 := HSB.out.slot hj
    obtain ⟨v, hv⟩ : ∃ v, v = s.getD j 0 := ⟨_, rfl⟩
    rw [← hv, hW] at s0
    have HV := mkD hv
    clear h2 hcs hne hfr htb hsl hct HSB hv c0
    go_enter Tryz.func73, Tryz.ntmps73
    go_wp2
    go_ret
    exact ⟨by rw [HV.out]; simp [lefts], by rw [← hW]; exact HBW.out⟩
  have b1 : (op == 1) = false := by simp [c1]
  by_cases c2 : op = 2
  · subst c2
    simp [bnd] at h2
    obtain ⟨j, rfl⟩ := Int.eq_ofNat_of_zero_le h2.2.1
    have hj : j < rl := by have := hfr.len; omega
    obtain ⟨bb, o, rfl, hbl, g'⟩ := (hfr.below HBW.out).cells (by omega)
    have hn := small_of hfr.cap hfr.big
    obtain ⟨v, hv⟩ : ∃ v, v = f.free.getD j false := ⟨_, rfl⟩
    have HV := mkD hv
    have x1 := g' j hj
    rw [← hv, hW] at x1
    clear h2 hcs hne hfr htb hsl hct HSB hv c0 c1 g'
    go_enter Tryz.func73, Tryz.ntmps73
    go_wp2_with fail
    refine (capturedKind_c v _).mono ?_
    rintro e w1 ⟨rfl, hw1⟩
    rw [← hW] at hw1
    subst hw1
    clear x1
    go_wp2
    go_ret
    exact ⟨by rw [HV.out]; simp [lefts], by rw [← hW]; exact HBW.out⟩
  have b2 : (op == 2) = false := by simp [c2]
  by_cases c14 : op = 14
  · subst c14
    simp [bnd] at h2
    obtain ⟨j, rfl⟩ := Int.eq_ofNat_of_zero_le h2.2.1
    have hj : j < 22 := by omega
    have x1 := ((htb.below HBW.out).pri j hj).c4
    rw [hW] at x1
    have hlt := htb.lt
    clear h2 hcs hne hfr htb hsl hct HSB c0 c1 c2
    go_enter Tryz.func73, Tryz.ntmps73
    go_wp2
    go_ret
    exact ⟨by simp [lefts], by rw [← hW]; exact HBW.out⟩
  have b14 : (op == 14) = false := by simp [c14]
  by_cases c15 : op = 15
  · subst c15
    have HLA := mkD (last_c (w.heap.size + 1 + 1 + 1) true s.length (fun i => s.getD i 0) W HSB.out hsl)
    rw [hW] at HLA
    have HLE : Hid ((if s.length = 0 then 0 else s.getD (s.length - 1) 0) = lefts m f ⟨15, a, b⟩ s) := by
      unfold Hid
      simp only [lefts]
      cases s <;> simp
    clear h2 hcs hne hfr htb hct c0 c1 c2 c14
    go_enter Tryz.func73, Tryz.ntmps73
    go_wp2_with fail
    refine HLA.out.mono ?_
    rintro e w1 ⟨rfl, hb1⟩
    rw [← hW] at hb1
    have HB : Hid (Below w.heap.size w w1) := HBW.out.trans (hb1.mono HBW.out.size)
    rw [HLE.out]
    clear hb1 hW HLA HLE
    go_wp2
    go_ret
    exact ⟨rfl, HB.out⟩
  have b15 : (op == 15) = false := by simp [c15]
  obtain ⟨j, rfl⟩ := Int.eq_ofNat_of_zero_le h0
  have hj : j < 18 := by omega
  have x1 := ((htb.below HBW.out).row j hj).c6
  have HLF := mkD (lefts_tab (m := m) (f := f) (x := ⟨(j : Int), a, b⟩) (s := s) h0 c0 c1 c2 c14 c15)
  simp only [Int.toNat_natCast] at HLF
  rw [hW, ← HLF.out] at x1
  obtain ⟨v, hv⟩ : ∃ v, v = lefts m f ⟨(j : Int), a, b⟩ s := ⟨_, rfl⟩
  rw [← hv] at x1 ⊢
  clear h2 hcs hne hfr htb hsl hct HSB c0 c1 c2 c14 c15 HLF hv
  go_enter Tryz.func73, Tryz.ntmps73
  go_wp2
  go_ret
  exact ⟨rfl, by rw [← hW]; exact HBW.out⟩
end Vf
end Go.Proofs.YtdjdhjciealfhaaGreatDoor
namespace Go.Proofs.YtdjdhjciealfhaaGreatDoor
open Go.RowKit Ch1
namespace Vf
theorem OwK.mono {w : World} {B B' : Nat} {v : Value} {xs : List Nat} (h : OwK w B v xs) (hB : B' ≤ B) : OwK w B' v xs := by
  obtain ⟨h1, h2 | ⟨g, cap, cur, e, hg, r⟩⟩ := h
  · exact ⟨h1, Or.inl h2⟩
  · exact ⟨h1, Or.inr ⟨g, cap, cur, e, Nat.le_trans hB hg, r⟩⟩
theorem nz_prim {p : Nat} (hp : p < 22) : nz [(pArgs p).getD 0 0, (pArgs p).getD 1 0, (pArgs p).getD 2 0] = pArgs p := by
  have : ∀ q : Fin 22, nz [(pArgs q.val).getD 0 0, (pArgs q.val).getD 1 0, (pArgs q.val).getD 2 0] = pArgs q.val := by decide
  exact this ⟨p, hp⟩
theorem nz_tab {m : Md} {x : In} {j : Nat} (hx : x.op = (j : Int)) (hj : j < 18) (h5 : j ≠ 5) (h8 : j ≠ 8) (h9 : j ≠ 9) (h10 : j ≠ 10) (h14 : j ≠ 14) (h15 : j ≠ 15) : nz [(tkT j).getD 0 0, (tkT j).getD 1 0, (tkT j).getD 2 0] = allow m x := by
  have hps : j = 0 ∨ j = 1 ∨ j = 2 ∨ j = 3 ∨ j = 4 ∨ j = 6 ∨ j = 7 ∨ j = 11 ∨ j = 12 ∨ j = 13 ∨ j = 16 ∨ j = 17 := by omega
  unfold allow
  rw [hx]
  rcases hps with h | h | h | h | h | h | h | h | h | h | h | h <;> subst h <;> simp [tkT, nz]
/-- What takenBy answers. -/
def TbP (m : Md) (x : In) (w w' : World) (e : Ending) : Prop := ∃ u, e = .returned u ∧ OwK w' w.heap.size u (allow m x) ∧ Below w.heap.size w w'
set_option maxRecDepth 20000 in
set_option maxHeartbeats 4000000 in
/-- takenBy: what an instruction may take. -/
theorem takenBy_c (cp : Option Addr) (cn cc : Nat) (g : Int) (fp : Option Addr) (fn fc : Nat) (m : Md) (f : Fn) (x : In) (w : World) (hx : InsOk m f x) (hfu : Fu w fp fn fc m.funcs) (hfr : ∀ i, i < m.funcs.length → (m.funcs.getD i fn0).free.length ≤ 1000) (htb : TbV w) :
    Calls Tryz.prog 75 #[.agg #[.slice cp cn cc, .int .i64 g, .slice fp fn fc], .agg #[.int .i64 x.op, .int .i64 x.a, .int .i64 x.b]] w fun e w' => TbP m x w w' e := by
  obtain ⟨op, a, b⟩ := x
  obtain ⟨h0, h1, h2⟩ := hx
  simp only at h0 h1 h2 ⊢
  obtain ⟨W, hW⟩ : ∃ W, W = (w.alloc (.cells #[.slice cp cn cc, .int .i64 g, .slice fp fn fc] 33)).alloc (.cells #[.int .i64 op, .int .i64 a, .int .i64 b] 73) := ⟨_, rfl⟩
  have HBW : Hid (Below w.heap.size w W) := by unfold Hid; rw [hW]; exact below2 w _ _
  have hws : w.heap.size ≤ W.heap.size := HBW.out.size
  by_cases c5 : op = 5
  · subst c5
    simp [bnd] at h2
    by_cases ha : a = 1
    · subst ha
      clear h2 hfu hfr htb
      go_enter Tryz.func75, Tryz.ntmps75
      go_wp2
      go_ret
      exact ⟨_, rfl, by simp [allow]; exact OwK.nil _ _, by rw [← hW]; exact HBW.out⟩
    · have ba : (a == 1) = false := by simp [ha]
      have HAL : Hid (allow m ⟨5, a, b⟩ = [255]) := by unfold Hid; simp [allow, ha]
      have HNW := mkD (OwK.new W 255 w.heap.size hws)
      have hWs : W.heap.size = w.heap.size + 1 + 1 := by rw [hW]; simp
      have HFB : Hid (Below w.heap.size w (W.alloc (.cells #[.int .u16 ((255 : Nat) : Int)] 87))) := HBW.out.trans ((below1 _ _).mono hws)
      rw [hWs] at HNW
      rw [hW] at HNW HFB
      clear h2 hfu hfr htb hWs
      go_enter Tryz.func75, Tryz.ntmps75
      go_wp2
      go_ret
      exact ⟨_, rfl, by rw [HAL.out]; exact HNW.out, HFB.out⟩
  have b5 : (op == 5) = false := by simp [c5]
  by_cases c8 : op = 8
  · subst c8
    simp at h2
    obtain ⟨ka, rfl⟩ := Int.eq_ofNat_of_zero_le (show 0 ≤ a by omega)
    have hkl : ka < m.funcs.length := by omega
    have hkf : ka < fn := by rw [← hfu.len]; exact hkl
    have hcf := small_of hfu.cap hfu.big
    obtain ⟨fb, fo, rfl, hfb, hfe⟩ := (hfu.below HBW.out).cells (by omega)
    obtain ⟨rp, rl, rc, dp, dl, dc, he⟩ := hfe ka hkf
    have g1 := he.c1
    have HCK := mkD (capturedKinds_c rp rl rc (m.funcs.getD ka fn0).free W he.free (by rw [← he.free.len]; exact hfr ka hkl))
    have HAL : Hid (allow m ⟨8, (ka : Int), b⟩ = (m.funcs.getD ka fn0).free.map capK) := by unfold Hid; simp [allow]
    rw [hW] at g1
    clear h2 hfu hfr htb hfe he
    go_enter Tryz.func75, Tryz.ntmps75
    go_wp2_with fail
    rw [← hW]
    refine HCK.out.mono ?_
    rintro e w1 ⟨u, rfl, ho, hb1⟩
    have HO := mkD (ho.mono hws)
    have HB : Hid (Below w.heap.size w w1) := HBW.out.trans (hb1.mono hws)
    clear ho hb1 g1 hW HCK
    go_wp2
    go_ret
    exact ⟨u, rfl, by rw [HAL.out]; exact HO.out, HB.out⟩
  have b8 : (op == 8) = false := by simp [c8]
  obtain ⟨ka, rfl⟩ := Int.eq_ofNat_of_zero_le (show 0 ≤ a by rcases h2 with h | h <;> omega)
  have hWs : W.heap.size = w.heap.size + 1 + 1 := by rw [hW]; simp
  by_cases c9 : op = 9 ∨ op = 10
  · have hk : ka < 21 := by rcases h2 with h | h; omega; have h3 := h.2.2.2; rcases c9 with e | e <;> subst e <;> simp [bnd] at h3 <;> omega
    have HAL : Hid (allow m ⟨op, (ka : Int), b⟩ = List.replicate (1 + ka) 255) := by unfold Hid allow; rcases c9 with e | e <;> subst e <;> simp
    have HRP := mkD (repeat_c 255 (1 + ka) (some ⟨W.heap.size, 0, none⟩) (W.alloc (.cells #[.int .u16 ((255 : Nat) : Int)] 87)) (OwK.new W 255 0 (Nat.zero_le _)).nk (by omega))
    have HBA : Hid (Below w.heap.size w (W.alloc (.cells #[.int .u16 ((255 : Nat) : Int)] 87))) := HBW.out.trans ((below1 _ _).mono hws)
    rw [hWs] at HRP
    rw [hW] at HRP HBA
    have hadd : 1 + (ka : Int) = ((1 + ka : Nat) : Int) := by omega
    have HADD := mkD hadd
    clear h2 hfu hfr htb hWs hadd
    rcases c9 with e | e
    · subst e
      go_enter Tryz.func75, Tryz.ntmps75
      go_wp2_with fail
      rw [HADD.out]
      refine HRP.out.mono ?_
      rintro e w1 ⟨u, rfl, ho, hb1⟩
      have HO := mkD (ho.mono HBA.out.size)
      have HB : Hid (Below w.heap.size w w1) := HBA.out.trans (hb1.mono HBA.out.size)
      clear ho hb1 HRP hW
      go_wp2
      go_ret
      exact ⟨u, rfl, by rw [HAL.out]; exact HO.out, HB.out⟩
    · subst e
      go_enter Tryz.func75, Tryz.ntmps75
      go_wp2_with fail
      rw [HADD.out]
      refine HRP.out.mono ?_
      rintro e w1 ⟨u, rfl, ho, hb1⟩
      have HO := mkD (ho.mono HBA.out.size)
      have HB : Hid (Below w.heap.size w w1) := HBA.out.trans (hb1.mono HBA.out.size)
      clear ho hb1 HRP hW
      go_wp2
      go_ret
      exact ⟨u, rfl, by rw [HAL.out]; exact HO.out, HB.out⟩
  have b9 : (op == 9) = false := by simp; omega
  have b10 : (op == 10) = false := by simp; omega
  by_cases c14 : op = 14
  · subst c14
    simp [bnd] at h2
    have hk : ka < 22 := by omega
    have HAL : Hid (allow m ⟨14, (ka : Int), b⟩ = List.replicate (pArgs ka).length 255) := by unfold Hid; simp [allow]
    have HBA : Hid (Below w.heap.size w (W.alloc (.cells #[.int .u16 255] 87))) := HBW.out.trans ((below1 _ _).mono hws)
    have HOA : Hid (OwK (W.alloc (.cells #[.int .u16 255] 87)) 0 (.slice (some ⟨W.heap.size, 0, none⟩) 1 1) [255]) := OwK.new W 255 0 (Nat.zero_le _)
    have HTV := mkD ((htb.below HBA.out).pri ka hk)
    have x1 := HTV.out.c1
    have x2 := HTV.out.c2
    have x3 := HTV.out.c3
    have hlt := htb.lt
    have HNZ := mkD (nz_prim hk)
    have hpl := (pArgs_rng hk).2
    obtain ⟨v1, hv1⟩ : ∃ v, v = (pArgs ka).getD 0 0 := ⟨_, rfl⟩
    obtain ⟨v2, hv2⟩ : ∃ v, v = (pArgs ka).getD 1 0 := ⟨_, rfl⟩
    obtain ⟨v3, hv3⟩ : ∃ v, v = (pArgs ka).getD 2 0 := ⟨_, rfl⟩
    rw [← hv1] at x1
    rw [← hv2] at x2
    rw [← hv3] at x3
    rw [← hv1, ← hv2, ← hv3] at HNZ
    have HLI := mkD (list_c v1 v2 v3 (W.alloc (.cells #[.int .u16 255] 87)))
    rw [HNZ.out] at HLI
    rw [hW] at x1 x2 x3 HBA HLI HOA
    clear h2 hfu hfr htb hWs HTV hv1 hv2 hv3 HNZ
    go_enter Tryz.func75, Tryz.ntmps75
    go_wp2_with fail
    refine HLI.out.mono ?_
    rintro e w1 ⟨u, rfl, ho, hb1⟩
    obtain ⟨pu, cu, hu⟩ := ho.form
    subst hu
    have HB : Hid (Below w.heap.size w w1) := HBA.out.trans (hb1.mono HBA.out.size)
    have HOB := mkD (HOA.out.below hb1).nk
    rw [← hW] at HOB
    have hWs : W.heap.size = w.heap.size + 1 + 1 := by rw [hW]; simp
    rw [hWs] at HOB
    have HRP := mkD (repeat_c 255 (pArgs ka).length _ w1 HOB.out (by omega))
    obtain ⟨np, hnp⟩ : ∃ np, np = (pArgs ka).length := ⟨_, rfl⟩
    rw [← hnp] at HRP HAL ⊢
    clear ho hb1 x1 x2 x3 HLI HOA HOB hW hpl hnp hWs
    go_wp2_with fail
    refine HRP.out.mono ?_
    rintro e w2 ⟨u2, rfl, ho2, hb2⟩
    have HO := mkD (ho2.mono HB.out.size)
    have HB2 : Hid (Below w.heap.size w w2) := HB.out.trans (hb2.mono HB.out.size)
    clear ho2 hb2 HRP
    go_wp2
    go_ret
    exact ⟨u2, rfl, by rw [HAL.out]; exact HO.out, HB2.out⟩
  have b14 : (op == 14) = false := by simp [c14]
  by_cases c15 : op = 15
  · subst c15
    simp [bnd] at h2
    have hk : ka < 201 := by omega
    have HAL : Hid (allow m ⟨15, (ka : Int), b⟩ = List.replicate ka 511 ++ [255]) := by unfold Hid; simp [allow]
    have HRP := mkD (repeat_c 511 ka (some ⟨W.heap.size, 0, none⟩) (W.alloc (.cells #[.int .u16 ((511 : Nat) : Int)] 87)) (OwK.new W 511 0 (Nat.zero_le _)).nk (by omega))
    have HBA : Hid (Below w.heap.size w (W.alloc (.cells #[.int .u16 ((511 : Nat) : Int)] 87))) := HBW.out.trans ((below1 _ _).mono hws)
    rw [hWs] at HRP
    rw [hW] at HRP HBA
    clear h2 hfu hfr htb hWs
    go_enter Tryz.func75, Tryz.ntmps75
    go_wp2_with fail
    refine HRP.out.mono ?_
    rintro e w1 ⟨u, rfl, ho, hb1⟩
    have HO := mkD (ho.mono HBA.out.size)
    have HB : Hid (Below w.heap.size w w1) := HBA.out.trans (hb1.mono HBA.out.size)
    have hw1 : w.heap.size ≤ w1.heap.size := HB.out.size
    have HRL : Hid ((List.replicate ka 511).length = ka) := by unfold Hid; simp
    clear ho hb1 HRP hW
    go_wp2_with (at_builtin; refine app1K_law w1 rfl (.tmp 47) (.tmp 48) rfl w.heap.size u (List.replicate ka 511) 255 (by simp [Act.eval]) HO.out (by simp [Act.eval]) (by rw [HRL.out]; omega) hw1 ?_; intro v5 w5 ho5 hb5 hbt5; have HO5 := mkD ho5; have HB5 := mkD hb5; clear ho5 hb5 hbt5)
    go_ret
    exact ⟨v5, rfl, by rw [HAL.out]; exact HO5.out, HB.out.trans HB5.out⟩
  have b15 : (op == 15) = false := by simp [c15]
  obtain ⟨j, rfl⟩ := Int.eq_ofNat_of_zero_le h0
  have hj : j < 18 := by omega
  have HNZ := mkD (nz_tab (m := m) (x := ⟨(j : Int), (ka : Int), b⟩) rfl hj (by omega) (by omega) (by omega) (by omega) (by omega) (by omega))
  have HTV := mkD ((htb.below HBW.out).row j hj)
  have x1 := HTV.out.c3
  have x2 := HTV.out.c4
  have x3 := HTV.out.c5
  have hlt := htb.tb.lt
  obtain ⟨v1, hv1⟩ : ∃ v, v = (tkT j).getD 0 0 := ⟨_, rfl⟩
  obtain ⟨v2, hv2⟩ : ∃ v, v = (tkT j).getD 1 0 := ⟨_, rfl⟩
  obtain ⟨v3, hv3⟩ : ∃ v, v = (tkT j).getD 2 0 := ⟨_, rfl⟩
  rw [← hv1] at x1
  rw [← hv2] at x2
  rw [← hv3] at x3
  rw [← hv1, ← hv2, ← hv3] at HNZ
  have HLI := mkD (list_c v1 v2 v3 W)
  rw [HNZ.out] at HLI
  rw [hW] at x1 x2 x3
  clear h2 hfu hfr htb hWs HTV hv1 hv2 hv3 HNZ c5 c8 c9 c14 c15
  go_enter Tryz.func75, Tryz.ntmps75
  go_wp2_with fail
  rw [← hW]
  refine HLI.out.mono ?_
  rintro e w1 ⟨u, rfl, ho, hb1⟩
  have HO := mkD (ho.mono hws)
  have HB : Hid (Below w.heap.size w w1) := HBW.out.trans (hb1.mono hws)
  clear ho hb1 x1 x2 x3 hW HLI
  go_wp2
  go_ret
  exact ⟨u, rfl, HO.out, HB.out⟩
end Vf
end Go.Proofs.YtdjdhjciealfhaaGreatDoor
