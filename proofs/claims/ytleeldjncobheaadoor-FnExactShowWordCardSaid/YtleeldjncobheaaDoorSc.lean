import Derived.Test.YtleeldjncobheaaDoorSb
import Derived.Test.YtleeldjncobheaaDoorS7
namespace Go.Proofs.YtleeldjncobheaaDoor
open Go.RowKit Ch1 Ch2s
section
variable {w0 : World} {p : Option Addr} {n c : Nat} {top : Int} {ws : List Int} {np : Option Addr} {nn nc : Nat} {ns : List (List Int)}
theorem Nm.rg {w : World} (h : Nm w np nn nc ns) (i : Nat) : Rg (ns.getD i []) := by
  by_cases hi : i < nn
  · obtain ⟨b, o, _, _, g⟩ := h.cells (by omega)
    obtain ⟨q, m, d, _, hy⟩ := g i hi
    exact rg_of hy.rng
  · have e : ns.getD i [] = [] := by simp [List.getD, List.getElem?_eq_none (show ns.length ≤ i by rw [h.len]; omega)]
    rw [e]
    intro x hx
    cases hx
theorem itoaZ_len (k : Int) (h0 : -9223372036854775808 ≤ k) (h1 : k ≤ 9223372036854775807) : (itoaZ k).length ≤ 1000 := by
  have := small_itoa k h0 h1
  have e : (itoaZ k).length = (⟨(Lib.itoa k).toArray⟩ : ByteArray).size := by unfold itoaZ; rw [nums_length]; rfl
  omega
theorem leaf_len (hl : ∀ i, (ns.getD i []).length ≤ 1048576) (x : Int) (hx : -9223372036854775808 ≤ x ∧ x ≤ 9223372036854775807) : (leafT itoaZ (symZ ns) rareZ x).length ≤ 1048600 := by
  have h1 := itoaZ_len (x / 4) (by omega) (by omega)
  unfold leafT
  split
  · omega
  · split
    · unfold symZ
      split
      · have := hl (x / 4).toNat; omega
      · rw [List.length_append]; simp only [List.length_cons, List.length_nil]
        have h2 : (itoaZ (x / 4)).length ≤ 21 := by
          by_cases h : x / 4 < 0
          · rw [itoa_neg _ h, List.length_cons]
            have := dec_len (x / 4).natAbs (by omega)
            omega
          · rw [itoa_pos _ h]
            have := dec_len (x / 4).toNat (by omega)
            omega
        omega
    · unfold rareZ
      rw [nums_length, Array.length_toList]
      have := rareA_size (x / 4)
      have e : (rareA (x / 4)).data.size = (rareA (x / 4)).size := rfl
      omega
theorem leaf_rg (hn : ∀ i, Rg (ns.getD i [])) (x : Int) : Rg (leafT itoaZ (symZ ns) rareZ x) := by
  unfold leafT
  split
  · exact rg_nums _
  · split
    · unfold symZ
      split
      · exact hn _
      · exact (rgk _ (by decide)).app (rg_nums _)
    · exact rg_nums _
theorem shows_step (hC : Cx w0 p n c top ws np nn nc ns) (f : Nat) (hf10 : f ≤ 1001) (ih : ShowS w0 p n c top ws np nn nc ns f) : ShowS w0 p n c top ws np nn nc ns (f + 1) := by
  intro x q L d xs w hLx hO hb hwd hr hf hL
  have hle := fun x o (hx : -9223372036854775808 ≤ x ∧ x ≤ 9223372036854775807) => shS_le (R := fun x => -9223372036854775808 ≤ x ∧ x ≤ 9223372036854775807) itoaZ (symZ ns) rareZ ws hC.is.rng (C := 1048600) (by omega) (fun x hx => leaf_len hC.nl x hx) f x o hx
  by_cases hfull : 1000 ≤ L
  · rw [shS, if_pos (by omega)]
    exact shows_full x q L d xs w hO hb.size hfull hL
  · rw [shS, if_neg (by omega)]
    have hlt : L < 1000 := by omega
    rcases (show x % 4 = 0 ∨ x % 4 = 2 ∨ x % 4 = 3 ∨ x % 4 = 1 by omega) with h | h | h | h
    · rw [if_pos (by omega), leafT, if_pos h]
      exact shows_num x h hr q L d xs w hLx hO hb.size hlt
    · have h0 : 0 ≤ x := by rcases hwd with h | h | h | h <;> omega
      rw [if_pos (by omega), leafT, if_neg (by omega), if_pos h]
      by_cases hk : x / 4 < nn
      · exact shows_symY hC x h h0 hr.2 q L d xs w hLx hO hb hlt hk
      · exact shows_symN hC x h h0 hr.2 q L d xs w hLx hO hb hlt hk
    · have h3 : 3 ≤ x ∧ x ≤ 19 := by rcases hwd with h | h | h | h <;> omega
      rw [if_pos (by omega), leafT, if_neg (by omega), if_neg (by omega)]
      exact shows_rare x h h3.1 h3.2 q L d xs w hLx hO hb.size hlt
    · obtain ⟨a, ha, ha', _, hh, hO', hfw⟩ := obj_of hC.good hC.is.len h hwd
      have h0 : 0 ≤ x := by rcases hwd with h | h | h | h <;> omega
      have hhd := (Hp.Ch2.head_cnt hh).1
      have han : a < n := by have := hO'.ham; omega
      rw [if_neg (by omega), ha']
      rcases (show ws.getD a 0 % 4 = 2 ∨ ws.getD a 0 % 4 = 3 ∨ ws.getD a 0 % 4 = 1 ∨ ws.getD a 0 % 4 = 0 by omega) with k | k | k | k
      · rw [if_pos k]
        exact shows_proc hC.is x h h0 hr.2 a ha han hhd k q L d xs w hLx hO hb hlt
      · rw [if_neg (by omega), if_pos k]
        exact shows_box hC.is x h h0 hr.2 a ha han hhd k q L d xs w hLx hO hb hlt
      · rw [if_neg (by omega), if_neg (by omega), if_pos k]
        exact shows_vec hC f hf10 ih hle x h h0 hr.2 a _ ha hO' hhd k hfw q L d xs w hLx hO hb hf hlt
      · rw [if_neg (by omega), if_neg (by omega), if_neg (by omega)]
        have hc2 := Hp.Ch2.head_pair hh k
        rw [hc2] at hO' hfw
        exact shows_pair hC f hf10 ih hle x h h0 hr.2 a ha hO' hhd k (hfw 0 (by omega)) (hfw 1 (by omega)) q L d xs w hLx hO hb hf hlt
theorem shows_zero (x : Int) (q : Option Addr) (L d : Nat) (xs : List Int) (w : World) (hO : Ow w w0.heap.size (.slice q L d) xs) (hb : Below w0.heap.size w0 w) (hf : 1001 - L ≤ 0) (hL : L ≤ 2000000) :
    Calls Tryd.prog 35 #[.agg #[.slice p n c, .int .i64 top], .int .i64 x, .slice np nn nc, .slice q L d] w fun e w' => SP w0.heap.size xs w w' e :=
  shows_full x q L d xs w hO hb.size (by omega) hL
theorem shows_c (hC : Cx w0 p n c top ws np nn nc ns) : ∀ f, f ≤ 1001 → ShowS w0 p n c top ws np nn nc ns f
  | 0, _ => fun x q L d xs w _ hO hb _ _ hf hL => shows_zero x q L d xs w hO hb hf hL
  | f + 1, h => shows_step hC f (by omega) (shows_c hC f (by omega))
end
set_option maxHeartbeats 1000000 in
/-- l1copy of bytes that may be none. -/
theorem copyN_c (q : Option Addr) (m c : Nat) (ys : List Int) (w : World) (hy : By w q m c ys) (hm : m ≤ 1000000) :
    Calls Tryd.prog 36 #[.slice q m c] w fun e w' => ∃ v, e = .returned v ∧ Ow w' w.heap.size v ys ∧ Below w.heap.size w w' := by
  have HY : Hid (By w q m c ys) := hy
  clear hy
  go_enter Tryd.func36, Tryd.ntmps36
  go_wp2_with (at_builtin; refine appN_law _ rfl (.tmp 4) (.tmp 5) rfl w.heap.size (.slice none 0 0) [] ys (by simp [Act.eval]) (Ow.nil _ _) q m c (by simp [Act.eval]) HY.out (by simp; omega) (Nat.le_refl _) ?_; intro v' w' ho hg _; have HO2 : Hid (Ow w' w.heap.size v' ([] ++ ys)) := ho; have HG : Hid (Below w.heap.size w w') := hg; clear ho hg)
  go_ret
  exact ⟨_, rfl, HO2.out, HG.out⟩
theorem swZ_eq (ns : List (List Int)) (ws : List Int) (x : Int) : swZ ns ws x = (shS itoaZ (symZ ns) rareZ ws 1001 x []).take 1000 := by
  have := sh_fol itoaZ (symZ ns) rareZ ws 1001 x [] (by simp)
  simpa [swZ] using this
set_option maxRecDepth 20000 in
set_option maxHeartbeats 4000000 in
theorem specShowWord_c (p : Option Addr) (n c : Nat) (top x : Int) (ws : List Int) (np : Option Addr) (nn nc : Nat) (ns : List (List Int)) (w : World) (hI : Hp.Is w p n c ws) (ht0 : -9223372036854775808 ≤ top) (ht1 : top ≤ 9223372036854775807) (hx : -9223372036854775808 ≤ x ∧ x ≤ 9223372036854775807) (hN : Nm w np nn nc ns) (hl : ∀ i, (ns.getD i []).length ≤ 1048576) (hT : Tab w) :
    Calls Tryd.prog 16 #[.agg #[.slice p n c, .int .i64 top], .int .i64 x, .slice np nn nc] w fun e w' => SwP ns ws top x w w' e := by
  have HI : Hid (Hp.Is w p n c ws) := hI
  have HN : Hid (Nm w np nn nc ns) := hN
  have HL : Hid (∀ i, (ns.getD i []).length ≤ 1048576) := hl
  have HT : Hid (Tab w) := hT
  have HX : Hid (-9223372036854775808 ≤ x ∧ x ≤ 9223372036854775807) := hx
  have HRG : Hid (Rg (shS itoaZ (symZ ns) rareZ ws 1001 x [])) := shS_rg _ _ _ _ (leaf_rg hN.rg) _ _ _ (fun y hy => by cases hy)
  have HLE : Hid ((shS itoaZ (symZ ns) rareZ ws 1001 x []).length ≤ 1100000) := by
    have := shS_le (R := fun x => -9223372036854775808 ≤ x ∧ x ≤ 9223372036854775807) itoaZ (symZ ns) rareZ ws hI.rng (C := 1048600) (by omega) (fun x hx => leaf_len hl x hx) 1001 x [] hx
    simp only [List.length_nil] at this
    unfold Hid
    omega
  clear hI hN hl hT hx
  go_enter Tryd.func16, Tryd.ntmps16
  go_wp2_with fail
  refine (Hp.specValidHeap_c p n c top ws _ 1 1 [x] _ (HI.out.below (below2 w _ _)) ht0 ht1 (by simpa using Is_one (w.alloc _) x HX.out)).mono ?_
  rintro e w1 ⟨r, rfl, hr, hb1⟩
  have HB1 : Hid (Below w.heap.size w w1) := (below2 w _ _).trans (hb1.mono (by simp; omega))
  have HR : Hid (r = true ↔ Hp.Ch2.GoodR ws top [x]) := hr
  have hs1 := HB1.out.size
  have q0 : w1.cell? ⟨w.heap.size, 0, none⟩ = some (.slice p n c) := by rw [hb1.cell (p := ⟨w.heap.size, 0, none⟩) (by simp; omega)]; simp
  have q1 : w1.cell? ⟨w.heap.size, 1, none⟩ = some (.int .i64 top) := by rw [hb1.cell (p := ⟨w.heap.size, 1, none⟩) (by simp; omega)]; simp
  clear hr hb1
  cases r
  · go_wp2
    go_ret
    exact ⟨_, rfl, Or.inr ⟨fun h => (by have := HR.out.2 h; cases this), rfl⟩, HB1.out⟩
  have HG : Hid (Hp.Ch2.GoodR ws top [x]) := HR.out.1 rfl
  have HC : Hid (Cx w p n c top ws np nn nc ns) := ⟨HI.out, HG.out.good, HN.out, HL.out, HT.out⟩
  have HWD : Hid (Hp.Ch2.WordOk ws top.toNat x) := HG.out.roots 0 (by simp)
  go_wp2_with fail
  refine (shows_c HC.out 1001 (Nat.le_refl _) x none 0 0 [] _ rfl (Ow.nil _ _) HB1.out HWD.out HX.out (by omega) (by omega)).mono ?_
  rintro e w2 ⟨q2, L2, d2, rfl, hl2, ho2, hk2⟩
  have HB2 : Hid (Below w.heap.size w w2) := HB1.out.trans hk2.below
  obtain ⟨p2, c2, e2, hy2, _⟩ := ho2.by_ (rng_of HRG.out)
  cases e2
  have HY2 : Hid (By w2 q2 (shS itoaZ (symZ ns) rareZ ws 1001 x []).length d2 (shS itoaZ (symZ ns) rareZ ws 1001 x [])) := hy2
  have hcap := hy2.cap
  have hle := HLE.out
  have HZ : Hid (swZ ns ws x = (shS itoaZ (symZ ns) rareZ ws 1001 x []).take 1000) := swZ_eq ns ws x
  clear hl2 ho2 hk2 hy2 q0 q1
  generalize shS itoaZ (symZ ns) rareZ ws 1001 x [] = zs at *
  by_cases hbig : 1000 < zs.length
  · have hd : decide ((1000 : Int) < zs.length) = true := decide_eq_true (by omega)
    have HYT : Hid (By w2 q2 1000 d2 (zs.take 1000)) := HY2.out.take (by omega)
    have hc3 : 1000 ≤ d2 := by omega
    go_wp2_with fail
    refine (copyN_c q2 1000 d2 (zs.take 1000) _ HYT.out (by omega)).mono ?_
    rintro e w3 ⟨v3, rfl, ho3, hb3⟩
    have HO3 : Hid (Ow w3 w.heap.size v3 (swZ ns ws x)) := by unfold Hid; rw [HZ.out]; exact ho3.mono HB2.out.size
    have HB3 : Hid (Below w.heap.size w w3) := HB2.out.trans (hb3.mono HB2.out.size)
    clear ho3 hb3
    go_wp2
    go_ret
    exact ⟨_, rfl, Or.inl ⟨HG.out, HO3.out⟩, HB3.out⟩
  · have hd : decide ((1000 : Int) < zs.length) = false := decide_eq_false (by omega)
    go_wp2_with fail
    refine (copyN_c q2 zs.length d2 zs _ HY2.out (by omega)).mono ?_
    rintro e w3 ⟨v3, rfl, ho3, hb3⟩
    have HO3 : Hid (Ow w3 w.heap.size v3 (swZ ns ws x)) := by unfold Hid; rw [HZ.out, List.take_of_length_le (by omega)]; exact ho3.mono HB2.out.size
    have HB3 : Hid (Below w.heap.size w w3) := HB2.out.trans (hb3.mono HB2.out.size)
    clear ho3 hb3
    go_wp2
    go_ret
    exact ⟨_, rfl, Or.inl ⟨HG.out, HO3.out⟩, HB3.out⟩
end Go.Proofs.YtleeldjncobheaaDoor
