import Derived.Test.YtdjdhjciealfhaaGreatDoorKi
import Derived.Test.YtdjdhjciealfhaaGreatDoorK8
import Derived.Test.YtdjdhjciealfhaaGreatDoorU3
namespace Go.Proofs.YtdjdhjciealfhaaGreatDoor
open Go.RowKit Go.Shelf Ch1
attribute [local go_sem] Oper.semAt_some
namespace Vf
/-- What the function that waysOn makes has caught, as it lies from b on. -/
structure Wy (W : World) (b : Nat) (dp : Option Addr) (dl dc at_ op : Nat) : Prop where
  code : W.heap[b]? = some (.cells #[.slice dp dl dc] 46)
  at_ : W.heap[b + 1]? = some (.cells #[.int .i64 (at_ : Nat)] 3)
  row : ∃ cs : Array Value, W.heap[b + 1 + 1]? = some (.cells cs 140) ∧ cs[7]? = some (.bool (enT op)) ∧ cs[8]? = some (.bool (jmT op))
set_option maxRecDepth 20000 in
set_option maxHeartbeats 4000000 in
/-- waysOn: the function that gives the ways on. -/
theorem waysOn_c (dp : Option Addr) (dl dc at_ : Nat) (cs : List In) (w : World) (hco : Ii w dp dl dc cs) (hat : at_ < dl) (j : Nat) (hj : (cs.getD at_ in0).op = (j : Int)) (hj18 : j < 18) (htb : TbV w) :
    Calls Tryz.prog 47 #[.slice dp dl dc, .int .i64 (at_ : Nat)] w fun e w' => e = .returned (.func (.func 77) #[] #[.pointer (some ⟨w.heap.size + 1 + 1, 0, none⟩), .pointer (some ⟨w.heap.size + 1, 0, none⟩), .pointer (some ⟨w.heap.size, 0, none⟩)]) ∧ Wy w' w.heap.size dp dl dc at_ j ∧ Below w.heap.size w w' ∧ w'.heap.size = w.heap.size + 1 + 1 + 1 := by
  obtain ⟨W, hW⟩ : ∃ W, W = (w.alloc (.cells #[.slice dp dl dc] 46)).alloc (.cells #[.int .i64 (at_ : Nat)] 3) := ⟨_, rfl⟩
  have HBW : Hid (Below w.heap.size w W) := by unfold Hid; rw [hW]; exact below2 w _ _
  have hcs := small_of hco.cap hco.big
  obtain ⟨cb, co, rfl, hcb, hcc⟩ := (hco.below HBW.out).cells (by omega)
  obtain ⟨d0, _, _⟩ := hcc at_ hat
  rw [hj] at d0
  have HTB := mkD (htb.below HBW.out)
  obtain ⟨v0, v3, v4, v5, v6, v7, v8, hr⟩ := HTB.out.tb.row j hj18
  have hrow := HTB.out.row j hj18
  have t0 := hr.c0
  have t1 := hr.c1
  have t2 := hr.c2
  have t3 := hr.c3
  have t4 := hr.c4
  have t5 := hr.c5
  have t6 := hr.c6
  have t7 := hrow.c7
  have t8 := hrow.c8
  obtain ⟨en, hen⟩ : ∃ en, en = enT j := ⟨_, rfl⟩
  obtain ⟨jm, hjm⟩ : ∃ jm, jm = jmT j := ⟨_, rfl⟩
  rw [← hen] at t7
  rw [← hjm] at t8
  have HEN := mkD hen
  have HJM := mkD hjm
  have hlt := htb.tb.lt
  rw [hW] at d0 t0 t1 t2 t3 t4 t5 t6 t7 t8
  have hWs : W.heap.size = w.heap.size + 1 + 1 := by rw [hW]; simp
  have HFIN : Hid (Wy (W.alloc (.cells #[.string v0, .int .u8 (useA j), .int .u8 (useB j), .int .u16 v3, .int .u16 v4, .int .u16 v5, .int .u16 v6, .bool en, .bool jm] 140)) w.heap.size (some ⟨cb, co, none⟩) dl dc at_ j) := by
    have hrw := Go.Deep.blk_alloc_new W (.cells #[.string v0, .int .u8 (useA j), .int .u8 (useB j), .int .u16 v3, .int .u16 v4, .int .u16 v5, .int .u16 v6, .bool en, .bool jm] 140)
    rw [hWs] at hrw
    refine ⟨?_, ?_, ⟨_, hrw, by rw [← hen]; rfl, by rw [← hjm]; rfl⟩⟩
    · rw [(below1 W _).block _ (by omega), hW, (below1 _ _).block _ (by simp), Go.Deep.blk_alloc_new]
    · rw [(below1 W _).block _ (by omega), hW]
      have := Go.Deep.blk_alloc_new (w.alloc (.cells #[.slice (some ⟨cb, co, none⟩) dl dc] 46)) (.cells #[.int .i64 (at_ : Nat)] 3)
      rwa [World.size_alloc] at this
  have HBF : Hid (Below w.heap.size w (W.alloc (.cells #[.string v0, .int .u8 (useA j), .int .u8 (useB j), .int .u16 v3, .int .u16 v4, .int .u16 v5, .int .u16 v6, .bool en, .bool jm] 140))) := HBW.out.trans ((below1 _ _).mono HBW.out.size)
  have HSF : Hid ((W.alloc (.cells #[.string v0, .int .u8 (useA j), .int .u8 (useB j), .int .u16 v3, .int .u16 v4, .int .u16 v5, .int .u16 v6, .bool en, .bool jm] 140)).heap.size = w.heap.size + 1 + 1 + 1) := by unfold Hid; rw [World.size_alloc, hWs]
  clear hWs
  clear hco hcc hj htb HTB hr hrow hen hjm
  go_enter Tryz.func47, Tryz.ntmps47
  go_wp2_with fail
  go_ret
  rw [← hW]
  exact ⟨rfl, HFIN.out, HBF.out, HSF.out⟩
end Vf
end Go.Proofs.YtdjdhjciealfhaaGreatDoor
namespace Go.Proofs.YtdjdhjciealfhaaGreatDoor
open Go.RowKit Go.Shelf Ch1
attribute [local go_sem] Oper.semAt_some
namespace Vf
/-- Some blocks of cells stand. -/
def KpS (ks : List Nat) (W W' : World) : Prop := ∀ k ∈ ks, ∀ o : Obj, W.heap[k]? = some o → o.isCells = true → W'.heap[k]? = some o
theorem KpS.trans {ks : List Nat} {A B C : World} (h : KpS ks A B) (k : KpS ks B C) : KpS ks A C := fun i hi o ho hc => k i hi o (h i hi o ho hc) hc
theorem KpS.put {ks : List Nat} (W : World) (l : Nat) (o o' : Obj) (hl : W.heap[l]? = some o) (ho : o.isCells = false) : KpS ks W (W.putObj l o') := fun k _ o2 h2 hc => by
  have hne : k ≠ l := fun e => by rw [e, hl] at h2; cases h2; rw [ho] at hc; cases hc
  exact (World.putObj_heap_other hne).trans h2
theorem cell_at {w : World} {k i : Nat} {cs : Array Value} {t : TypeId} {v : Value} (h : w.heap[k]? = some (.cells cs t)) (hv : cs[i]? = some v) : w.cell? ⟨k, i, none⟩ = some v := by simp [World.cell?, h, hv]
theorem code_blk {w : World} {cb o : Nat} {v : Value} (h : w.cell? ⟨cb, o, none⟩ = some v) : ∃ ob : Obj, w.heap[cb]? = some ob ∧ ob.isCells = true := by
  unfold World.cell? at h
  cases hb : w.heap[cb]? with
  | none => simp [hb] at h
  | some ob =>
    refine ⟨ob, rfl, ?_⟩
    cases ob with
    | cells a b c => rfl
    | _ => simp [hb] at h
/-- The ways on, from the table. -/
theorem nexts_tab {x : In} {j ka at_ : Nat} (hx : x.op = (j : Int)) (ha : x.a = (ka : Int)) : nexts x at_ = (if enT j = true then [] else [at_ + 1]) ++ (if jmT j = true then [ka] else []) := by
  unfold nexts enT jmT
  rw [hx, ha]
  by_cases h10 : j = 10
  · subst h10; rfl
  by_cases h11 : j = 11
  · subst h11; rfl
  by_cases h12 : j = 12
  · subst h12; simp
  by_cases h13 : j = 13
  · subst h13; simp
  · rw [if_neg (by omega), if_neg (by omega), if_neg (by omega), if_neg (by simp; omega), if_neg (by simp; omega)]
    rfl
set_option maxRecDepth 20000 in
set_option maxHeartbeats 4000000 in
/-- The function that waysOn makes gives the ways on, one after the other. -/
theorem ways1_stops (n b cb co dl dc at_ j ka : Nat) (x : In) (w : World) (hw : Wy w b (some ⟨cb, co, none⟩) dl dc at_ j) (hx : x.op = (j : Int)) (ha : x.a = (ka : Int)) (hat : at_ < dl) (hdl : dl ≤ 1000000) (hc : w.cell? ⟨cb, co + at_ * 3 + 1, none⟩ = some (.int .i64 (ka : Nat))) :
    SeqStopsK Fence.wide n Tryz.prog 77 #[.pointer (some ⟨b + 1 + 1, 0, none⟩), .pointer (some ⟨b + 1, 0, none⟩), .pointer (some ⟨b, 0, none⟩)] (fun y : { y : Nat // y ∈ nexts x at_ } => #[.int .i64 (y.1 : Nat)]) (KpS [b, b + 1, b + 1 + 1, cb]) (fun xs => xs.map Subtype.val = nexts x at_) (fun _ => True) 2 w := by
  intro l J Jx W hB _ _ hY h0
  have HY := mkD hY
  have HNX := mkD (nexts_tab (at_ := at_) hx ha)
  obtain ⟨cs, hr, r7, r8⟩ := hw.row
  have blt : ∀ {k : Nat} {o : Obj}, w.heap[k]? = some o → W.heap[k]? = some o := fun hk => (hB.block _ (Array.getElem?_eq_some_iff.1 hk).1).trans hk
  have HR := mkD (blt hr)
  have HA := mkD (blt hw.at_)
  have HC := mkD (blt hw.code)
  obtain ⟨ob, hob, hoc⟩ := code_blk hc
  have HCB := mkD (blt hob)
  have HCC : Hid (W.cell? ⟨cb, co + at_ * 3 + 1, none⟩ = some (.int .i64 (ka : Nat))) := by
    unfold Hid
    have e : W.heap[cb]? = w.heap[cb]? := by rw [HCB.out, hob]
    simp only [World.cell?, e] at hc ⊢
    exact hc
  have HOC := mkD hoc
  obtain ⟨en, hen⟩ : ∃ en, en = enT j := ⟨_, rfl⟩
  obtain ⟨jm, hjm⟩ : ∃ jm, jm = jmT j := ⟨_, rfl⟩
  rw [← hen] at r7 HNX
  rw [← hjm] at r8 HNX
  have HM1 : Hid (en = false → at_ + 1 ∈ nexts x at_) := fun e => by rw [HNX.out, e]; simp
  have HM2 : Hid (jm = true → ka ∈ nexts x at_) := fun e => by rw [HNX.out, e]; simp
  have HR7 := mkD r7
  have HR8 := mkD r8
  clear hY hw hx ha hc hr blt hob hoc hen hjm hB r7 r8
  have e7 := cell_at HR.out HR7.out
  have e8 := cell_at HR.out HR8.out
  have eA : W.cell? ⟨b + 1, 0, none⟩ = some (.int .i64 (at_ : Nat)) := cell_at HA.out rfl
  have eC : W.cell? ⟨b, 0, none⟩ = some (.slice (some ⟨cb, co, none⟩) dl dc) := cell_at HC.out rfl
  have eD := HCC.out
  refine callsIn_of_wp Tryz.func77 rfl trivial ?_ rfl
  simp only [Tryz.ntmps77, List.size_toArray, List.length_cons, List.length_nil, Nat.reduceAdd, Nat.reduceSub, Array.replicate_succ, Array.replicate_zero, List.push_toArray, List.append_toArray, List.nil_append, List.cons_append]
  cases en
  · obtain ⟨fn, tmps, assign, body, hy, hR⟩ := HY.out [] ⟨at_ + 1, HM1.out rfl⟩ W h0 (by simp)
    have hy1 : (Instr.yield l #[Value.int .i64 ((at_ : Int) + 1)]).run Tryz.prog W = _ := hy
    clear hy
    gi_wp2
    refine ⟨fun h => (by cases h), hR.mono ?_⟩
    rintro e W2 (⟨rfl, hJ2, hk2⟩ | ⟨rfl, hJx2⟩)
    · have HK := mkD hk2
      clear hy1 hR hk2 e7 e8 eA eC eD
      have f8 := cell_at (HK.out (b + 1 + 1) (by simp) _ HR.out rfl) HR8.out
      have fA : W2.cell? ⟨b + 1, 0, none⟩ = some (.int .i64 (at_ : Nat)) := cell_at (HK.out (b + 1) (by simp) _ HA.out rfl) rfl
      have fC : W2.cell? ⟨b, 0, none⟩ = some (.slice (some ⟨cb, co, none⟩) dl dc) := cell_at (HK.out b (by simp) _ HC.out rfl) rfl
      have fD : W2.cell? ⟨cb, co + at_ * 3 + 1, none⟩ = some (.int .i64 (ka : Nat)) := by
        have e : W2.heap[cb]? = W.heap[cb]? := by rw [HK.out cb (by simp) _ HCB.out HOC.out, HCB.out]
        have h1 := HCC.out
        simp only [World.cell?, e] at h1 ⊢
        exact h1
      cases jm
      · gi_wp2
        go_end0
        exact ⟨⟨_, rfl⟩, Or.inl ⟨[⟨at_ + 1, HM1.out rfl⟩], HNX.out.symm, hJ2⟩⟩
      · obtain ⟨fn2, tmps2, assign2, body2, hy2, hR2⟩ := HY.out [⟨at_ + 1, HM1.out rfl⟩] ⟨ka, HM2.out rfl⟩ W2 hJ2 (by simp)
        gi_wp2
        refine ⟨fun h => (by cases h), hR2.mono ?_⟩
        rintro e W3 (⟨rfl, hJ3, _⟩ | ⟨rfl, hJx3⟩)
        · gi_wp2
          go_end0
          exact ⟨⟨_, rfl⟩, Or.inl ⟨[⟨at_ + 1, HM1.out rfl⟩, ⟨ka, HM2.out rfl⟩], HNX.out.symm, hJ3⟩⟩
        · gi_wp2
          go_end0
          exact ⟨⟨_, rfl⟩, Or.inr ⟨_, trivial, hJx3⟩⟩
    · gi_wp2
      refine bodyPost_ret (results_none rfl _ _ _) rfl ?_
      exact ⟨⟨_, rfl⟩, Or.inr ⟨_, trivial, hJx2⟩⟩
  · gi_wp2
    refine ⟨fun _ h => (by cases h), ?_⟩
    cases jm
    · gi_wp2
      go_end0
      exact ⟨⟨_, rfl⟩, Or.inl ⟨[], HNX.out.symm, h0⟩⟩
    · obtain ⟨fn2, tmps2, assign2, body2, hy2, hR2⟩ := HY.out [] ⟨ka, HM2.out rfl⟩ W h0 (by simp)
      gi_wp2
      refine ⟨fun h => (by cases h), hR2.mono ?_⟩
      rintro e W3 (⟨rfl, hJ3, _⟩ | ⟨rfl, hJx3⟩)
      · gi_wp2
        go_end0
        exact ⟨⟨_, rfl⟩, Or.inl ⟨[⟨ka, HM2.out rfl⟩], HNX.out.symm, hJ3⟩⟩
      · gi_wp2
        go_end0
        exact ⟨⟨_, rfl⟩, Or.inr ⟨_, trivial, hJx3⟩⟩
end Vf
end Go.Proofs.YtdjdhjciealfhaaGreatDoor
