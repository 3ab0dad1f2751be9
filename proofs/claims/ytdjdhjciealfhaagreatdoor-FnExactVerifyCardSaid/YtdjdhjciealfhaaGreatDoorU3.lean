import Derived.Test.YtdjdhjciealfhaaGreatDoorUp
namespace Go.Proofs.YtdjdhjciealfhaaGreatDoor
open Go.RowKit Ch1
namespace Vf
/-- A slice of numbers. -/
structure Ni (w : World) (p : Option Addr) (n c : Nat) (xs : List Nat) : Prop where
  len : xs.length = n
  cap : n ≤ c
  big : c ≤ maxLen
  cells : 0 < n → ∃ b o, p = some ⟨b, o, none⟩ ∧ b < w.heap.size ∧ ∀ i, i < n → w.cell? ⟨b, o + i, none⟩ = some (.int .i64 (xs.getD i 0 : Nat))
theorem Ni.below {w w' : World} {p : Option Addr} {n c : Nat} {xs : List Nat} (h : Ni w p n c xs) (hb : Below w.heap.size w w') : Ni w' p n c xs := by
  refine ⟨h.len, h.cap, h.big, fun hn => ?_⟩
  obtain ⟨b, o, e, hlt, hc⟩ := h.cells hn
  exact ⟨b, o, e, Nat.lt_of_lt_of_le hlt hb.size, fun i hi => by rw [hb.cell (p := ⟨b, o + i, none⟩) hlt]; exact hc i hi⟩
theorem OwI.ni {w : World} {B n c : Nat} {p : Option Addr} {xs : List Nat} (h : OwI w B (.slice p n c) xs) : Ni w p n c xs := by
  obtain ⟨h1, h2, h3, h4⟩ := h.cell
  refine ⟨h1, h2, h3, fun h0 => ?_⟩
  obtain ⟨g, e, hg, _, hc⟩ := h4 h0
  exact ⟨g, 0, e, hg, fun i hi => by rw [Nat.zero_add]; exact hc i hi⟩
set_option maxRecDepth 20000 in
set_option maxHeartbeats 4000000 in
/-- How many slots an instruction takes. -/
theorem takes_c (m : Md) (f : Fn) (x : In) (hx : InsOk m f x) (w : World) : Calls Tryz.prog 35 #[.agg #[.int .i64 x.op, .int .i64 x.a, .int .i64 x.b]] w fun e w' => e = .returned (.int .i64 ((allow m x).length : Nat)) ∧ Below w.heap.size w w' := by
  obtain ⟨op, a, b⟩ := x
  obtain ⟨h0, h1, h2⟩ := hx
  simp only at h0 h1 h2 ⊢
  have hops : op = 0 ∨ op = 1 ∨ op = 2 ∨ op = 3 ∨ op = 4 ∨ op = 5 ∨ op = 6 ∨ op = 7 ∨ op = 8 ∨ op = 9 ∨ op = 10 ∨ op = 11 ∨ op = 12 ∨ op = 13 ∨ op = 14 ∨ op = 15 ∨ op = 16 ∨ op = 17 := by omega
  rcases hops with h | h | h | h | h | h | h | h | h | h | h | h | h | h | h | h | h | h <;> subst h
  · clear h2
    go_enter Tryz.func35, Tryz.ntmps35
    go_wp2
    go_ret
    exact ⟨by simp [allow], below1 _ _⟩
  · clear h2
    go_enter Tryz.func35, Tryz.ntmps35
    go_wp2
    go_ret
    exact ⟨by simp [allow], below1 _ _⟩
  · clear h2
    go_enter Tryz.func35, Tryz.ntmps35
    go_wp2
    go_ret
    exact ⟨by simp [allow], below1 _ _⟩
  · clear h2
    go_enter Tryz.func35, Tryz.ntmps35
    go_wp2
    go_ret
    exact ⟨by simp [allow], below1 _ _⟩
  · clear h2
    go_enter Tryz.func35, Tryz.ntmps35
    go_wp2
    go_ret
    exact ⟨by simp [allow], below1 _ _⟩
  · simp [bnd] at h2
    rcases (show a = 0 ∨ a = 1 by omega) with h | h <;> subst h
    · go_enter Tryz.func35, Tryz.ntmps35
      go_wp2
      go_ret
      exact ⟨by simp [allow], below1 _ _⟩
    · go_enter Tryz.func35, Tryz.ntmps35
      go_wp2
      go_ret
      exact ⟨by simp [allow], below1 _ _⟩
  · clear h2
    go_enter Tryz.func35, Tryz.ntmps35
    go_wp2
    go_ret
    exact ⟨by simp [allow], below1 _ _⟩
  · clear h2
    go_enter Tryz.func35, Tryz.ntmps35
    go_wp2
    go_ret
    exact ⟨by simp [allow], below1 _ _⟩
  · simp at h2
    obtain ⟨_, _, h3⟩ := h2
    have HB : Hid (b = ((allow m ⟨8, a, b⟩).length : Nat)) := by unfold Hid; rw [h3]; simp [allow]
    clear h3
    go_enter Tryz.func35, Tryz.ntmps35
    go_wp2
    go_ret
    exact ⟨by rw [← HB.out]; rfl, below1 _ _⟩
  · simp [bnd] at h2
    obtain ⟨k, rfl⟩ := Int.eq_ofNat_of_zero_le h2.2.1
    have hk : k < 201 := by omega
    clear h2
    go_enter Tryz.func35, Tryz.ntmps35
    go_wp2
    go_ret
    refine ⟨?_, below1 _ _⟩
    congr 2
    simp [allow]
    try omega
  · simp [bnd] at h2
    obtain ⟨k, rfl⟩ := Int.eq_ofNat_of_zero_le h2.2.1
    have hk : k < 201 := by omega
    clear h2
    go_enter Tryz.func35, Tryz.ntmps35
    go_wp2
    go_ret
    refine ⟨?_, below1 _ _⟩
    congr 2
    simp [allow]
    try omega
  · clear h2
    go_enter Tryz.func35, Tryz.ntmps35
    go_wp2
    go_ret
    exact ⟨by simp [allow], below1 _ _⟩
  · clear h2
    go_enter Tryz.func35, Tryz.ntmps35
    go_wp2
    go_ret
    exact ⟨by simp [allow], below1 _ _⟩
  · clear h2
    go_enter Tryz.func35, Tryz.ntmps35
    go_wp2
    go_ret
    exact ⟨by simp [allow], below1 _ _⟩
  · simp [bnd] at h2
    obtain ⟨k, rfl⟩ := Int.eq_ofNat_of_zero_le h2.2.1
    have hk : k < 22 := by omega
    clear h2
    go_enter Tryz.func35, Tryz.ntmps35
    go_wp2_with fail
    refine (l3prim_f k hk _).mono ?_
    rintro e w1 ⟨s, g, rfl, ho, hb⟩
    have HB : Hid (Below w.heap.size w w1) := ((below1 w _).trans (hb.mono (below1 w _).size))
    clear ho hb
    go_wp2
    go_ret
    exact ⟨by simp [allow], HB.out⟩
  · simp [bnd] at h2
    obtain ⟨k, rfl⟩ := Int.eq_ofNat_of_zero_le h2.2.1
    have hk : k < 201 := by omega
    clear h2
    go_enter Tryz.func35, Tryz.ntmps35
    go_wp2
    go_ret
    refine ⟨?_, below1 _ _⟩
    congr 2
    simp [allow]
    try omega
  · clear h2
    go_enter Tryz.func35, Tryz.ntmps35
    go_wp2
    go_ret
    exact ⟨by simp [allow], below1 _ _⟩
  · clear h2
    go_enter Tryz.func35, Tryz.ntmps35
    go_wp2
    go_ret
    exact ⟨by simp [allow], below1 _ _⟩
end Vf
end Go.Proofs.YtdjdhjciealfhaaGreatDoor
namespace Go.Proofs.YtdjdhjciealfhaaGreatDoor
open Go.RowKit Ch1
namespace Vf
theorem opsOf {op : Int} (h0 : 0 ≤ op) (h1 : op ≤ 17) : op = 0 ∨ op = 1 ∨ op = 2 ∨ op = 3 ∨ op = 4 ∨ op = 5 ∨ op = 6 ∨ op = 7 ∨ op = 8 ∨ op = 9 ∨ op = 10 ∨ op = 11 ∨ op = 12 ∨ op = 13 ∨ op = 14 ∨ op = 15 ∨ op = 16 ∨ op = 17 := by omega
/-- What is asked of an instruction's values when it is met with so many slots. -/
structure LvAt (w : World) (cp : Option Addr) (cn cc : Nat) (rp : Option Addr) (rl rc : Nat) (p : Option Addr) (n c : Nat) (m : Md) (f : Fn) (x : In) (s : List Nat) : Prop where
  ok : InsOk m f x
  cs : Dd w cp cn cc m.consts
  ne : x.op = 0 → 0 < (m.consts.getD x.a.toNat []).length
  fr : Bo w rp rl rc f.free
  st : Ni w p n c s
  lo : x.op = 1 → x.a.toNat < n
  sl : x.op = 15 → 0 < n
set_option maxRecDepth 20000 in
set_option maxHeartbeats 4000000 in
/-- What an instruction leaves. -/
theorem leaves_c (cp : Option Addr) (cn cc : Nat) (g : Int) (fp : Option Addr) (fn fc : Nat) (k : Int) (rp : Option Addr) (rl rc : Nat) (dp : Option Addr) (dl dc : Nat) (p : Option Addr) (n c : Nat) (m : Md) (f : Fn) (x : In) (s : List Nat) (w : World) (h : LvAt w cp cn cc rp rl rc p n c m f x s) :
    Calls Tryz.prog 85 #[.agg #[.slice cp cn cc, .int .i64 g, .slice fp fn fc], .agg #[.int .i64 k, .slice rp rl rc, .slice dp dl dc], .agg #[.int .i64 x.op, .int .i64 x.a, .int .i64 x.b], .slice p n c] w fun e w' => e = .returned (.int .i64 (lefts m f x s : Nat)) ∧ Below w.heap.size w w' := by
  obtain ⟨op, a, b⟩ := x
  obtain ⟨⟨h0, h1, h2⟩, hcs, hne, hfr, hst, hlo, hsl⟩ := h
  simp only at h0 h1 h2 hne hlo hsl ⊢
  rcases opsOf h0 h1 with h | h | h | h | h | h | h | h | h | h | h | h | h | h | h | h | h | h <;> subst h
  · simp [bnd] at h2
    obtain ⟨j, rfl⟩ := Int.eq_ofNat_of_zero_le h2.2.1
    have hj : j < cn := by have := hcs.len; omega
    have hne := hne rfl
    rw [Int.toNat_natCast] at hne
    obtain ⟨bb, o, rfl, hbl, g'⟩ := hcs.cells (by omega)
    obtain ⟨q, qn, qc, e1, hda⟩ := g' j hj
    obtain ⟨db, d0, rfl, hdl, gd⟩ := hda.cells (by rw [← hda.len]; exact hne)
    obtain ⟨tp, tn, tc, he⟩ := gd 0 (by rw [← hda.len]; exact hne)
    have hqn : 0 < qn := by rw [← hda.len]; exact hne
    have hcn := small_of hcs.cap hcs.big
    have hqs := small_of hda.cap hda.big
    obtain ⟨d, hd⟩ : ∃ d, d = (m.consts.getD j []).getD 0 dt0 := ⟨_, rfl⟩
    have HDD : Hid (d = (m.consts.getD j []).getD 0 dt0) := hd
    rw [← hd] at he
    have x1 : ∀ o1 o2 o3, (((w.alloc o1).alloc o2).alloc o3).cell? ⟨bb, o + j, none⟩ = some (.slice (some ⟨db, d0, none⟩) qn qc) := fun o1 o2 o3 => by
      rw [(below3 w o1 o2 o3).cell (p := ⟨bb, o + j, none⟩) hbl]; exact e1
    have x2 : ∀ o1 o2 o3, (((w.alloc o1).alloc o2).alloc o3).cell? ⟨db, d0, none⟩ = some (.int .i64 d.kind) := fun o1 o2 o3 => by
      rw [(below3 w o1 o2 o3).cell (p := ⟨db, d0, none⟩) hdl]; have := he.c0; rw [Nat.zero_mul, Nat.add_zero] at this; exact this
    have x3 : ∀ o1 o2 o3, (((w.alloc o1).alloc o2).alloc o3).cell? ⟨db, d0 + 1, none⟩ = some (.int .i64 d.n) := fun o1 o2 o3 => by
      rw [(below3 w o1 o2 o3).cell (p := ⟨db, d0 + 1, none⟩) hdl]; have := he.c1; rw [Nat.zero_mul, Nat.add_zero] at this; exact this
    have x4 : ∀ o1 o2 o3, (((w.alloc o1).alloc o2).alloc o3).cell? ⟨db, d0 + 2, none⟩ = some (.slice tp tn tc) := fun o1 o2 o3 => by
      rw [(below3 w o1 o2 o3).cell (p := ⟨db, d0 + 2, none⟩) hdl]; have := he.c2; rw [Nat.zero_mul, Nat.add_zero] at this; exact this
    have x5 : ∀ o1 o2 o3, (((w.alloc o1).alloc o2).alloc o3).cell? ⟨db, d0 + 3, none⟩ = some (.int .i64 d.count) := fun o1 o2 o3 => by
      rw [(below3 w o1 o2 o3).cell (p := ⟨db, d0 + 3, none⟩) hdl]; have := he.c3; rw [Nat.zero_mul, Nat.add_zero] at this; exact this
    clear h2 hcs hne hfr hst hlo hsl g' gd he hda hd e1
    go_enter Tryz.func85, Tryz.ntmps85
    go_wp2_with fail
    refine (datumKind_c d tp tn tc _).mono ?_
    rintro e w1 ⟨rfl, hb1⟩
    have HB : Hid (Below w.heap.size w w1) := (below3 w _ _ _).trans (hb1.mono (below3 w _ _ _).size)
    clear hb1 x1 x2 x3 x4 x5
    go_wp2
    go_ret
    exact ⟨by rw [HDD.out]; simp [lefts], HB.out⟩
  · simp [bnd] at h2
    obtain ⟨j, rfl⟩ := Int.eq_ofNat_of_zero_le h2.2.1
    have hj : j < n := by have := hlo rfl; omega
    obtain ⟨bb, o, rfl, hbl, g'⟩ := hst.cells (by omega)
    have hn := small_of hst.cap hst.big
    obtain ⟨v, hv⟩ : ∃ v, v = s.getD j 0 := ⟨_, rfl⟩
    have HV : Hid (v = s.getD j 0) := hv
    have g1 := g' j hj
    rw [← hv] at g1
    have x1 : ∀ o1 o2 o3, (((w.alloc o1).alloc o2).alloc o3).cell? ⟨bb, o + j, none⟩ = some (.int .i64 (v : Nat)) := fun o1 o2 o3 => by
      rw [(below3 w o1 o2 o3).cell (p := ⟨bb, o + j, none⟩) hbl]; exact g1
    clear h2 hcs hne hfr hst hlo hsl g' g1 hv
    go_enter Tryz.func85, Tryz.ntmps85
    go_wp2
    go_ret
    exact ⟨by rw [HV.out]; simp [lefts], below3 _ _ _ _⟩
  · simp [bnd] at h2
    obtain ⟨j, rfl⟩ := Int.eq_ofNat_of_zero_le h2.2.1
    have hj : j < rl := by have := hfr.len; omega
    obtain ⟨bb, o, rfl, hbl, g'⟩ := hfr.cells (by omega)
    have hn := small_of hfr.cap hfr.big
    obtain ⟨v, hv⟩ : ∃ v, v = f.free.getD j false := ⟨_, rfl⟩
    have HV : Hid (v = f.free.getD j false) := hv
    have g1 := g' j hj
    rw [← hv] at g1
    have x1 : ∀ o1 o2 o3, (((w.alloc o1).alloc o2).alloc o3).cell? ⟨bb, o + j, none⟩ = some (.bool v) := fun o1 o2 o3 => by
      rw [(below3 w o1 o2 o3).cell (p := ⟨bb, o + j, none⟩) hbl]; exact g1
    clear h2 hcs hne hfr hst hlo hsl g' g1 hv
    cases v
    · go_enter Tryz.func85, Tryz.ntmps85
      go_wp2
      go_ret
      exact ⟨by simp only [lefts, Int.toNat_natCast]; rw [← HV.out]; rfl, below3 _ _ _ _⟩
    · go_enter Tryz.func85, Tryz.ntmps85
      go_wp2
      go_ret
      exact ⟨by simp only [lefts, Int.toNat_natCast]; rw [← HV.out]; rfl, below3 _ _ _ _⟩
  · clear h2 hcs hne hfr hst hlo hsl
    go_enter Tryz.func85, Tryz.ntmps85
    go_wp2
    go_ret
    exact ⟨by simp [lefts], below3 _ _ _ _⟩
  · clear h2 hcs hne hfr hst hlo hsl
    go_enter Tryz.func85, Tryz.ntmps85
    go_wp2
    go_ret
    exact ⟨by simp [lefts], below3 _ _ _ _⟩
  · clear h2 hcs hne hfr hst hlo hsl
    go_enter Tryz.func85, Tryz.ntmps85
    go_wp2
    go_ret
    exact ⟨by simp [lefts], below3 _ _ _ _⟩
  · clear h2 hcs hne hfr hst hlo hsl
    go_enter Tryz.func85, Tryz.ntmps85
    go_wp2
    go_ret
    exact ⟨by simp [lefts], below3 _ _ _ _⟩
  · clear h2 hcs hne hfr hst hlo hsl
    go_enter Tryz.func85, Tryz.ntmps85
    go_wp2
    go_ret
    exact ⟨by simp [lefts], below3 _ _ _ _⟩
  · clear h2 hcs hne hfr hst hlo hsl
    go_enter Tryz.func85, Tryz.ntmps85
    go_wp2
    go_ret
    exact ⟨by simp [lefts], below3 _ _ _ _⟩
  · clear h2 hcs hne hfr hst hlo hsl
    go_enter Tryz.func85, Tryz.ntmps85
    go_wp2
    go_ret
    exact ⟨by simp [lefts], below3 _ _ _ _⟩
  · clear h2 hcs hne hfr hst hlo hsl
    go_enter Tryz.func85, Tryz.ntmps85
    go_wp2
    go_ret
    exact ⟨by simp [lefts], below3 _ _ _ _⟩
  · clear h2 hcs hne hfr hst hlo hsl
    go_enter Tryz.func85, Tryz.ntmps85
    go_wp2
    go_ret
    exact ⟨by simp [lefts], below3 _ _ _ _⟩
  · clear h2 hcs hne hfr hst hlo hsl
    go_enter Tryz.func85, Tryz.ntmps85
    go_wp2
    go_ret
    exact ⟨by simp [lefts], below3 _ _ _ _⟩
  · clear h2 hcs hne hfr hst hlo hsl
    go_enter Tryz.func85, Tryz.ntmps85
    go_wp2
    go_ret
    exact ⟨by simp [lefts], below3 _ _ _ _⟩
  · simp [bnd] at h2
    obtain ⟨j, rfl⟩ := Int.eq_ofNat_of_zero_le h2.2.1
    have hj : j < 22 := by omega
    clear h2 hcs hne hfr hst hlo hsl
    go_enter Tryz.func85, Tryz.ntmps85
    go_wp2_with fail
    refine (l3prim_f j hj _).mono ?_
    rintro e w1 ⟨s1, g1, rfl, ho, hb1⟩
    have HB : Hid (Below w.heap.size w w1) := (below3 w _ _ _).trans (hb1.mono (below3 w _ _ _).size)
    clear ho hb1
    go_wp2
    go_ret
    exact ⟨by simp [lefts], HB.out⟩
  · have hn0 := hsl rfl
    obtain ⟨bb, o, rfl, hbl, g'⟩ := hst.cells hn0
    have hn := small_of hst.cap hst.big
    obtain ⟨j, rfl⟩ : ∃ j, n = j + 1 := ⟨n - 1, by omega⟩
    obtain ⟨v, hv⟩ : ∃ v, v = s.getD j 0 := ⟨_, rfl⟩
    have HV : Hid (v = s.getD (s.length - 1) 0) := by unfold Hid; rw [hst.len]; exact hv
    have g1 := g' j (by omega)
    rw [← hv] at g1
    have x1 : ∀ o1 o2 o3, (((w.alloc o1).alloc o2).alloc o3).cell? ⟨bb, o + j, none⟩ = some (.int .i64 (v : Nat)) := fun o1 o2 o3 => by
      rw [(below3 w o1 o2 o3).cell (p := ⟨bb, o + j, none⟩) hbl]; exact g1
    clear h2 hcs hne hfr hst hlo hsl g' g1 hv hn0
    go_enter Tryz.func85, Tryz.ntmps85
    go_wp2
    go_ret
    exact ⟨by rw [HV.out]; simp [lefts], below3 _ _ _ _⟩
  · clear h2 hcs hne hfr hst hlo hsl
    go_enter Tryz.func85, Tryz.ntmps85
    go_wp2
    go_ret
    exact ⟨by simp [lefts], below3 _ _ _ _⟩
  · clear h2 hcs hne hfr hst hlo hsl
    go_enter Tryz.func85, Tryz.ntmps85
    go_wp2
    go_ret
    exact ⟨by simp [lefts], below3 _ _ _ _⟩
set_option maxRecDepth 20000 in
set_option maxHeartbeats 4000000 in
/-- Where an instruction leads. -/
theorem nexts_c (m : Md) (f : Fn) (x : In) (i : Nat) (hx : InsOk m f x) (hi : i < 1048576) (w : World) : Calls Tryz.prog 61 #[.agg #[.int .i64 x.op, .int .i64 x.a, .int .i64 x.b], .int .i64 (i : Int)] w fun e w' => ∃ v, e = .returned v ∧ OwI w' w.heap.size v (nexts x i) ∧ Below w.heap.size w w' := by
  obtain ⟨op, a, b⟩ := x
  obtain ⟨h0, h1, h2⟩ := hx
  simp only at h0 h1 h2 ⊢
  rcases opsOf h0 h1 with h | h | h | h | h | h | h | h | h | h | h | h | h | h | h | h | h | h <;> subst h
  · clear h2
    go_enter Tryz.func61, Tryz.ntmps61
    go_wp2
    go_ret
    exact ⟨_, rfl, OwI.new2 w _ [i + 1] (by simp) (by simp [maxLen]), below2 _ _ _⟩
  · clear h2
    go_enter Tryz.func61, Tryz.ntmps61
    go_wp2
    go_ret
    exact ⟨_, rfl, OwI.new2 w _ [i + 1] (by simp) (by simp [maxLen]), below2 _ _ _⟩
  · clear h2
    go_enter Tryz.func61, Tryz.ntmps61
    go_wp2
    go_ret
    exact ⟨_, rfl, OwI.new2 w _ [i + 1] (by simp) (by simp [maxLen]), below2 _ _ _⟩
  · clear h2
    go_enter Tryz.func61, Tryz.ntmps61
    go_wp2
    go_ret
    exact ⟨_, rfl, OwI.new2 w _ [i + 1] (by simp) (by simp [maxLen]), below2 _ _ _⟩
  · clear h2
    go_enter Tryz.func61, Tryz.ntmps61
    go_wp2
    go_ret
    exact ⟨_, rfl, OwI.new2 w _ [i + 1] (by simp) (by simp [maxLen]), below2 _ _ _⟩
  · clear h2
    go_enter Tryz.func61, Tryz.ntmps61
    go_wp2
    go_ret
    exact ⟨_, rfl, OwI.new2 w _ [i + 1] (by simp) (by simp [maxLen]), below2 _ _ _⟩
  · clear h2
    go_enter Tryz.func61, Tryz.ntmps61
    go_wp2
    go_ret
    exact ⟨_, rfl, OwI.new2 w _ [i + 1] (by simp) (by simp [maxLen]), below2 _ _ _⟩
  · clear h2
    go_enter Tryz.func61, Tryz.ntmps61
    go_wp2
    go_ret
    exact ⟨_, rfl, OwI.new2 w _ [i + 1] (by simp) (by simp [maxLen]), below2 _ _ _⟩
  · clear h2
    go_enter Tryz.func61, Tryz.ntmps61
    go_wp2
    go_ret
    exact ⟨_, rfl, OwI.new2 w _ [i + 1] (by simp) (by simp [maxLen]), below2 _ _ _⟩
  · clear h2
    go_enter Tryz.func61, Tryz.ntmps61
    go_wp2
    go_ret
    exact ⟨_, rfl, OwI.new2 w _ [i + 1] (by simp) (by simp [maxLen]), below2 _ _ _⟩
  · clear h2
    go_enter Tryz.func61, Tryz.ntmps61
    go_wp2
    go_ret
    exact ⟨_, rfl, by simp only [nexts]; exact ⟨rfl, Or.inl ⟨rfl, rfl⟩⟩, below1 _ _⟩
  · clear h2
    go_enter Tryz.func61, Tryz.ntmps61
    go_wp2
    go_ret
    exact ⟨_, rfl, by simp only [nexts]; exact ⟨rfl, Or.inl ⟨rfl, rfl⟩⟩, below1 _ _⟩
  · simp [bnd] at h2
    obtain ⟨j, rfl⟩ := Int.eq_ofNat_of_zero_le h2.2.1
    clear h2
    go_enter Tryz.func61, Tryz.ntmps61
    go_wp2
    go_ret
    exact ⟨_, rfl, OwI.new2 w _ [j] (by simp) (by simp [maxLen]), below2 _ _ _⟩
  · simp [bnd] at h2
    obtain ⟨j, rfl⟩ := Int.eq_ofNat_of_zero_le h2.2.1
    clear h2
    go_enter Tryz.func61, Tryz.ntmps61
    go_wp2
    go_ret
    exact ⟨_, rfl, OwI.new2 w _ [i + 1, j] (by simp) (by simp [maxLen]), below2 _ _ _⟩
  · clear h2
    go_enter Tryz.func61, Tryz.ntmps61
    go_wp2
    go_ret
    exact ⟨_, rfl, OwI.new2 w _ [i + 1] (by simp) (by simp [maxLen]), below2 _ _ _⟩
  · clear h2
    go_enter Tryz.func61, Tryz.ntmps61
    go_wp2
    go_ret
    exact ⟨_, rfl, OwI.new2 w _ [i + 1] (by simp) (by simp [maxLen]), below2 _ _ _⟩
  · clear h2
    go_enter Tryz.func61, Tryz.ntmps61
    go_wp2
    go_ret
    exact ⟨_, rfl, OwI.new2 w _ [i + 1] (by simp) (by simp [maxLen]), below2 _ _ _⟩
  · clear h2
    go_enter Tryz.func61, Tryz.ntmps61
    go_wp2
    go_ret
    exact ⟨_, rfl, OwI.new2 w _ [i + 1] (by simp) (by simp [maxLen]), below2 _ _ _⟩
end Vf
end Go.Proofs.YtdjdhjciealfhaaGreatDoor
