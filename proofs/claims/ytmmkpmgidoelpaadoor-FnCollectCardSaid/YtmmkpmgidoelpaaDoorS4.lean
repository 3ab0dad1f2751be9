import Derived.Test.YtmmkpmgidoelpaaDoorS3
namespace Go.Proofs.YtmmkpmgidoelpaaDoor
open Go.RowKit Ch1 Ch2s
/-- What a shower adds stays within the bound. -/
def Bnd (g : Int → List Int → List Int) : Prop := ∀ x o, o.length ≤ 1000 → o.length ≤ (g x o).length ∧ (g x o).length ≤ 1000
theorem vecI_bnd {g : Int → List Int → List Int} (hg : Bnd g) (ws : List Int) (p : Nat) : ∀ r i o, o.length ≤ 1000 → o.length ≤ (vecI g ws p r i o).length ∧ (vecI g ws p r i o).length ≤ 1000
  | 0, _, o, h => ⟨Nat.le_refl _, h⟩
  | r + 1, i, o, h => by
    rw [vecI]
    have h1 : o.length ≤ (if 0 < i then putT [32] o else o).length ∧ (if 0 < i then putT [32] o else o).length ≤ 1000 := by
      split
      · exact ⟨(putT_len [32] o h).2, (putT_len [32] o h).1⟩
      · exact ⟨Nat.le_refl _, h⟩
    have h2 := hg (ws.getD (p + 1 + i) 0) _ h1.2
    have h3 := vecI_bnd hg ws p r (i + 1) _ h2.2
    omega
theorem prI_bnd {g : Int → List Int → List Int} (hg : Bnd g) (ws : List Int) : ∀ f rest o, o.length ≤ 1000 → o.length ≤ (prI g ws f rest o).2.length ∧ (prI g ws f rest o).2.length ≤ 1000
  | 0, _, o, h => ⟨Nat.le_refl _, h⟩
  | f + 1, rest, o, h => by
    rw [prI]
    split
    · have h1 := putT_len [32] o h
      have h2 := hg (ws.getD ((rest / 4).toNat + 1) 0) _ h1.1
      have h3 := prI_bnd hg ws f (ws.getD ((rest / 4).toNat + 2) 0) _ h2.2
      omega
    · exact ⟨Nat.le_refl _, h⟩
theorem shI_bnd (num sym rare : Int → List Int) (ws : List Int) : ∀ f, Bnd (shI num sym rare ws f)
  | 0 => fun _ o h => ⟨Nat.le_refl _, h⟩
  | f + 1 => fun x o h => by
    have ih := shI_bnd num sym rare ws f
    have pt : ∀ t o, o.length ≤ 1000 → o.length ≤ (putT t o).length ∧ (putT t o).length ≤ 1000 := fun t o h => ⟨(putT_len t o h).2, (putT_len t o h).1⟩
    rw [shI]
    split
    · exact ⟨Nat.le_refl _, h⟩
    · split
      · exact pt _ _ h
      · split
        · exact pt _ _ h
        · split
          · exact pt _ _ h
          · split
            · have h1 := pt [35, 40] o h
              have h2 := vecI_bnd ih ws (x / 4).toNat (ws.getD (x / 4).toNat 0 / 4).toNat 0 _ h1.2
              have h3 := pt [41] _ h2.2
              omega
            · have h1 := pt [40] o h
              have h2 := ih (ws.getD ((x / 4).toNat + 1) 0) _ h1.2
              have h3 := prI_bnd ih ws 1001 (ws.getD ((x / 4).toNat + 2) 0) _ h2.2
              generalize prI (shI num sym rare ws f) ws 1001 (ws.getD ((x / 4).toNat + 2) 0) (shI num sym rare ws f (ws.getD ((x / 4).toNat + 1) 0) (putT [40] o)) = q at h3 ⊢
              split
              · have h4 := pt [32, 46, 32] q.2 h3.2
                have h5 := ih q.1 _ h4.2
                have h6 := pt [41] _ h5.2
                omega
              · have h6 := pt [41] _ h3.2
                omega
theorem putT_more (ts xs : List Int) (h : xs.length < 1000) (h0 : 0 < ts.length) : xs.length + 1 ≤ (putT ts xs).length := by
  unfold putT; rw [List.length_append, List.length_take]; omega
theorem By.litm (w : World) (ys : List Int) (k : Nat × Nat) (hr : Rg ys) (hl : ys.length ≤ 1000) : By (w.alloc (.cells (ys.map (Value.int .u8)).toArray 5 k)) (some ⟨w.heap.size, 0, none⟩) ys.length ys.length ys := by
  refine ⟨rfl, Nat.le_refl _, by unfold maxLen; omega, rng_of hr, fun _ => ⟨w.heap.size, 0, rfl, fun i hi => ?_⟩, fun a ha _ => by cases ha; simp⟩
  rw [World.cell?_alloc_mark]
  simp [List.getD, List.getElem?_eq_getElem hi]
/-- The contract of show at a depth. -/
def ShowC (w0 : World) (b : Nat) (p : Option Addr) (n c : Nat) (top : Int) (ws : List Int) (np : Option Addr) (nn nc : Nat) (ns : List (List Int)) (f : Nat) : Prop :=
  ∀ (x : Int) (v : Value) (xs : List Int) (w : World), Sh w b w0.heap.size (.slice p n c) top (.slice np nn nc) v xs → Below w0.heap.size w0 w → Hp.Ch2.WordOk ws top.toNat x → (-9223372036854775808 ≤ x ∧ x ≤ 9223372036854775807) → 1001 - xs.length ≤ f → xs.length ≤ 1000 →
    Calls Tryd.prog 31 #[.pointer (some ⟨b, 0, none⟩), .int .i64 x] w fun e w' => e = .returned (.tuple #[]) ∧ ShowP w0 b p n c top np nn nc (shI itoaZ (symZ ns) rareZ ws f x xs) w w'
/-- s.put([]byte("..")) of a constant. -/
theorem putk_c (b B : Nat) (hp : Value) (top : Int) (nm v : Value) (xs ys : List Int) (k : Nat × Nat) (arr : Array Value) (n nb : Nat) (w : World) (hnb : nb = w.heap.size) (ha : arr = (ys.map (Value.int .u8)).toArray) (hn : n = ys.length) (hr : Rg ys) (hl : ys.length ≤ 1000) (hW : Sh w b B hp top nm v xs) (hx : xs.length ≤ 1000) (hB : B ≤ w.heap.size) :
    Calls Tryd.prog 42 #[.pointer (some ⟨b, 0, none⟩), .slice (some ⟨nb, 0, none⟩) n n] (w.alloc (.cells arr 5 k)) fun e w' => e = .returned (.tuple #[]) ∧ ShP b B hp top nm (putT ys xs) w w' := by
  subst ha hn hnb
  refine (puts_c b B hp top nm v xs ys _ _ _ _ (hW.below (below1 _ _)) (By.litm w ys k hr hl) hx (by omega) (Nat.le_trans hB (below1 _ _).size)).mono ?_
  rintro e w' ⟨rfl, h⟩
  exact ⟨rfl, ShP.trans (Sk.of_below (below1 _ _) hB) h⟩
theorem rg1 (y : Int) (h : 0 ≤ y ∧ y < 256) : Rg [y] := fun x hx => by simp at hx; subst hx; exact h
section
variable {w0 : World} {p : Option Addr} {n c : Nat} {top : Int} {ws : List Int} {np : Option Addr} {nn nc : Nat} {ns : List (List Int)} (b : Nat)
/-- At the head of the loop over a vector's elements. -/
def VeI (w0 : World) (b : Nat) (p : Option Addr) (n c : Nat) (top : Int) (ws : List Int) (np : Option Addr) (nn nc : Nat) (g : Int → List Int → List Int) (a m : Nat) (out0 : List Int) (w : World) (iv : Value) (wr : World) : Prop :=
  ∃ (i : Nat) (out : List Int), i ≤ m ∧ iv = .int .i64 i ∧ Hid (ShowP w0 b p n c top np nn nc out w wr) ∧ Hid (vecI g ws a (m - i) i out = vecI g ws a m 0 out0) ∧ Hid (out0.length ≤ out.length ∧ out.length ≤ 1000)
set_option maxRecDepth 20000 in
set_option maxHeartbeats 4000000 in
theorem vector_c (f : Nat) (ih : ShowC w0 b p n c top ws np nn nc ns f) (q : Option Addr) (m c' a : Nat) (hI : Hp.Is w0 p n c ws) (hQ : Hp.Is w0 q m c' (Hp.fld ws a m)) (hm : m ≤ 1000) (hwd : ∀ i, i < m → Hp.Ch2.WordOk ws top.toNat (ws.getD (a + 1 + i) 0)) (v : Value) (xs : List Int) (w : World) (hW : Sh w b w0.heap.size (.slice p n c) top (.slice np nn nc) v xs) (hb : Below w0.heap.size w0 w) (hf : 1001 - xs.length ≤ f + 1) (hx : xs.length < 1000) :
    Calls Tryd.prog 45 #[.pointer (some ⟨b, 0, none⟩), .slice q m c'] w fun e w' => e = .returned (.tuple #[]) ∧ ShowP w0 b p n c top np nn nc (putT [41] (vecI (shI itoaZ (symZ ns) rareZ ws f) ws a m 0 (putT [35, 40] xs))) w w' := by
  have IH : Hid (ShowC w0 b p n c top ws np nn nc ns f) := ih
  have HG : Hid (Bnd (shI itoaZ (symZ ns) rareZ ws f)) := shI_bnd _ _ _ _ _
  obtain ⟨g, hg⟩ : ∃ g, g = shI itoaZ (symZ ns) rareZ ws f := ⟨_, rfl⟩
  have HGE : Hid (g = shI itoaZ (symZ ns) rareZ ws f) := hg
  rw [← hg] at HG ⊢
  have HRG : Hid (∀ i, -9223372036854775808 ≤ ws.getD i 0 ∧ ws.getD i 0 ≤ 9223372036854775807) := hI.rng
  have HQ : Hid (Hp.Is w0 q m c' (Hp.fld ws a m)) := hQ
  have HWD : Hid (∀ i, i < m → Hp.Ch2.WordOk ws top.toNat (ws.getD (a + 1 + i) 0)) := hwd
  have HB : Hid (Below w0.heap.size w0 w) := hb
  have HBS : Hid (w0.heap.size ≤ w.heap.size) := hb.size
  have HW : Hid (Sh w b w0.heap.size (.slice p n c) top (.slice np nn nc) v xs) := hW
  have hms : m ≤ 9223372036854775807 := by omega
  have h1 := putT_more [35, 40] xs hx (by simp)
  have h2 := putT_len [35, 40] xs (by omega)
  have kc := fun (w : World) (C : Array Value) (n c : Nat) => Lib.run_convert_bytes_const (P := Tryd.prog) w 22 5 C n c Tryd.underlying22 Tryd.underlying5
  clear hW hI hQ hwd hb ih hg
  obtain ⟨out0, ho0⟩ : ∃ o, o = putT [35, 40] xs := ⟨_, rfl⟩
  rw [← ho0] at h1 h2 ⊢
  have HO0 : Hid (out0 = putT [35, 40] xs) := ho0
  clear ho0
  go_enter Tryd.func45, Tryd.ntmps45
  go_wp2_with fail
  refine (putk_c b _ _ _ _ v xs [35, 40] _ _ 2 _ w rfl rfl rfl (fun x hx => by simp at hx; omega) (by simp) HW.out (by omega) HBS.out).mono ?_
  rintro e w1 ⟨rfl, hp1⟩
  rw [← HO0.out] at hp1
  have HP1 : Hid (ShowP w0 b p n c top np nn nc out0 w w1) := hp1
  clear hp1
  go_wp2
  go_loopw [12] (fun iv wr => VeI w0 b p n c top ws np nn nc g a m out0 w iv wr) (fun iv _ => m - (intOf iv).toNat)
  case atStart => exact ⟨0, out0, Nat.zero_le _, rfl, HP1.out, rfl, ⟨Nat.le_refl _, h2.1⟩⟩
  case round =>
    clear HP1
    obtain ⟨i, out, hi, rfl, hP, hE, hL⟩ := hrel
    have hl1 := hL.out.1
    have hl2 := hL.out.2
    have HBW : Hid (∀ w', Sk b w0.heap.size w w' → Below w0.heap.size w0 w') := fun w' hs => HB.out.trans hs.below
    by_cases hlt : i < m
    · obtain ⟨v1, hw1, hs1⟩ := hP.out
      have HW1 : Hid (Sh wr b w0.heap.size (.slice p n c) top (.slice np nn nc) v1 out) := hw1
      have HS1 : Hid (Sk b w0.heap.size w wr) := hs1
      obtain ⟨qb, qo, rfl, _, hqc⟩ := (HQ.out.below (HBW.out _ hs1)).cells (by omega)
      have ci := hqc i hlt
      rw [Hp.fld_getD hlt] at ci
      have HWI : Hid (Hp.Ch2.WordOk ws top.toNat (ws.getD (a + 1 + i) 0)) := HWD.out i hlt
      have HRI : Hid (-9223372036854775808 ≤ ws.getD (a + 1 + i) 0 ∧ ws.getD (a + 1 + i) 0 ≤ 9223372036854775807) := HRG.out _
      have HES : Hid (vecI g ws a (m - (i + 1)) (i + 1) (g (ws.getD (a + 1 + i) 0) (if 0 < i then putT [32] out else out)) = vecI g ws a m 0 out0) := by
        unfold Hid; rw [← hE.out, show m - i = (m - (i + 1)) + 1 by omega]; rfl
      obtain ⟨y, hy⟩ : ∃ y, y = ws.getD (a + 1 + i) 0 := ⟨_, rfl⟩
      rw [← hy] at ci HWI HRI HES
      have hBr := Nat.le_trans HBS.out hs1.below.size
      clear hw1 hs1 hqc hE hy hP hL
      by_cases h0 : i = 0
      · subst h0
        rw [if_neg (Nat.lt_irrefl 0)] at HES
        rw [Nat.add_zero] at ci
        go_wp2_with fail
        refine (IH.out y v1 out _ HW1.out (HBW.out _ HS1.out) HWI.out HRI.out (by omega) hl2).mono ?_
        rintro e w3 ⟨rfl, hp3⟩
        rw [← HGE.out] at hp3
        have HP3 : Hid (ShowP w0 b p n c top np nn nc (g y out) w w3) := ShP.trans HS1.out hp3
        have hbn := HG.out y out hl2
        clear hp3
        go_wp2
        exact ⟨⟨1, _, by omega, by go_num, HP3.out, HES.out, ⟨by omega, hbn.2⟩⟩, by simp [intOf]; omega⟩
      · have hpos : 0 < i := by omega
        rw [if_pos hpos] at HES
        have hposI : (0 : Int) < i := by omega
        have g1 := putT_len [32] out hl2
        go_wp2_with fail
        refine (putk_c b _ _ _ _ v1 out [32] _ _ 1 _ wr rfl rfl rfl (rg1 32 (by omega)) (by simp) HW1.out hl2 hBr).mono ?_
        rintro e w2 ⟨rfl, v2, hw2, hs2⟩
        have HW2 : Hid (Sh w2 b w0.heap.size (.slice p n c) top (.slice np nn nc) v2 (putT [32] out)) := hw2
        have HS2 : Hid (Sk b w0.heap.size w w2) := HS1.out.trans hs2
        clear hw2 hs2
        obtain ⟨o2, ho2⟩ : ∃ o, o = putT [32] out := ⟨_, rfl⟩
        rw [← ho2] at g1 HW2 HES
        clear ho2
        go_wp2_with fail
        refine (IH.out y v2 o2 _ HW2.out (HBW.out _ HS2.out) HWI.out HRI.out (by omega) g1.1).mono ?_
        rintro e w3 ⟨rfl, hp3⟩
        rw [← HGE.out] at hp3
        have HP3 : Hid (ShowP w0 b p n c top np nn nc (g y o2) w w3) := ShP.trans HS2.out hp3
        have hbn := HG.out y o2 g1.1
        clear hp3
        go_wp2
        exact ⟨⟨i + 1, _, by omega, by go_num, HP3.out, HES.out, ⟨by omega, hbn.2⟩⟩, by simp [intOf]; omega⟩
    · obtain rfl : i = m := by omega
      rw [Nat.sub_self] at hE
      obtain ⟨v1, hw1, hs1⟩ := hP.out
      have HW1 : Hid (Sh wr b w0.heap.size (.slice p n c) top (.slice np nn nc) v1 out) := hw1
      have HS1 : Hid (Sk b w0.heap.size w wr) := hs1
      have hBr := Nat.le_trans HBS.out hs1.below.size
      clear hw1 hs1 hP
      go_wp2_with fail
      refine (putk_c b _ _ _ _ v1 out [41] _ _ 1 _ wr rfl rfl rfl (rg1 41 (by omega)) (by simp) HW1.out hl2 hBr).mono ?_
      rintro e w2 ⟨rfl, hp2⟩
      have HP2 : Hid (ShowP w0 b p n c top np nn nc (putT [41] (vecI g ws a i 0 out0)) w w2) := by
        unfold Hid; rw [← hE.out]; exact ShP.trans HS1.out hp2
      clear hp2
      go_wp2
      go_end0
      exact ⟨rfl, HP2.out⟩
end
end Go.Proofs.YtmmkpmgidoelpaaDoor
