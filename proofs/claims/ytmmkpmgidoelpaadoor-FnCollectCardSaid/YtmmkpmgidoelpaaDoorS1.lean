import Derived.RowKit3
import Derived.Test.YtmmkpmgidoelpaaDoorSx
import Derived.Deep.Upon
import Derived.Lib.ConvBytes
/- Plain mathematics of shown words: no Go here. -/
namespace Go.Proofs.YtmmkpmgidoelpaaDoor
namespace Ch2s
/-- What the specification shows: 'g' shows a word behind a text; the elements of a vector from i on. -/
def vecS (g : Int → List Int → List Int) (ws : List Int) (p : Nat) : Nat → Nat → List Int → List Int
  | 0, _, out => out
  | r + 1, i, out => if 1000 ≤ out.length then out else vecS g ws p r (i + 1) (g (ws.getD (p + 1 + i) 0) (if 0 < i then out ++ [32] else out))
/-- Whether a word points to a pair. -/
def isPr (ws : List Int) (x : Int) : Bool := decide (x % 4 = 1) && decide (ws.getD (x / 4).toNat 0 % 4 = 0)
/-- The pairs behind a pair: where they end, and the text. -/
def prS (g : Int → List Int → List Int) (ws : List Int) : Nat → Int → List Int → Int × List Int
  | 0, rest, out => (rest, out)
  | f + 1, rest, out => if out.length < 1000 ∧ isPr ws rest = true then prS g ws f (ws.getD ((rest / 4).toNat + 2) 0) (g (ws.getD ((rest / 4).toNat + 1) 0) (out ++ [32])) else (rest, out)
/-- A word that is no object. -/
def leafT (num sym rare : Int → List Int) (w : Int) : List Int := if w % 4 = 0 then num (w / 4) else if w % 4 = 2 then sym (w / 4) else rare (w / 4)
def shS (num sym rare : Int → List Int) (ws : List Int) : Nat → Int → List Int → List Int
  | 0, _, out => out
  | f + 1, w, out =>
    if 1000 ≤ out.length then out
    else if w % 4 ≠ 1 then out ++ leafT num sym rare w
    else if ws.getD (w / 4).toNat 0 % 4 = 2 then out ++ [35, 112, 114, 111, 99]
    else if ws.getD (w / 4).toNat 0 % 4 = 3 then out ++ [35, 98, 111, 120]
    else if ws.getD (w / 4).toNat 0 % 4 = 1 then vecS (shS num sym rare ws f) ws (w / 4).toNat (ws.getD (w / 4).toNat 0 / 4).toNat 0 (out ++ [35, 40]) ++ [41]
    else
      (if (prS (shS num sym rare ws f) ws 1001 (ws.getD ((w / 4).toNat + 2) 0) (shS num sym rare ws f (ws.getD ((w / 4).toNat + 1) 0) (out ++ [40]))).1 ≠ 3 then shS num sym rare ws f (prS (shS num sym rare ws f) ws 1001 (ws.getD ((w / 4).toNat + 2) 0) (shS num sym rare ws f (ws.getD ((w / 4).toNat + 1) 0) (out ++ [40]))).1 ((prS (shS num sym rare ws f) ws 1001 (ws.getD ((w / 4).toNat + 2) 0) (shS num sym rare ws f (ws.getD ((w / 4).toNat + 1) 0) (out ++ [40]))).2 ++ [32, 46, 32]) else (prS (shS num sym rare ws f) ws 1001 (ws.getD ((w / 4).toNat + 2) 0) (shS num sym rare ws f (ws.getD ((w / 4).toNat + 1) 0) (out ++ [40]))).2) ++ [41]
/-- As much of a text as there is room for. -/
def putT (t out : List Int) : List Int := out ++ t.take (1000 - out.length)
def vecI (g : Int → List Int → List Int) (ws : List Int) (p : Nat) : Nat → Nat → List Int → List Int
  | 0, _, out => out
  | r + 1, i, out => vecI g ws p r (i + 1) (g (ws.getD (p + 1 + i) 0) (if 0 < i then putT [32] out else out))
def prI (g : Int → List Int → List Int) (ws : List Int) : Nat → Int → List Int → Int × List Int
  | 0, rest, out => (rest, out)
  | f + 1, rest, out => if out.length ≠ 1000 ∧ isPr ws rest = true then prI g ws f (ws.getD ((rest / 4).toNat + 2) 0) (g (ws.getD ((rest / 4).toNat + 1) 0) (putT [32] out)) else (rest, out)
def shI (num sym rare : Int → List Int) (ws : List Int) : Nat → Int → List Int → List Int
  | 0, _, out => out
  | f + 1, w, out =>
    if out.length = 1000 then out
    else if w % 4 ≠ 1 then putT (leafT num sym rare w) out
    else if ws.getD (w / 4).toNat 0 % 4 = 2 then putT [35, 112, 114, 111, 99] out
    else if ws.getD (w / 4).toNat 0 % 4 = 3 then putT [35, 98, 111, 120] out
    else if ws.getD (w / 4).toNat 0 % 4 = 1 then putT [41] (vecI (shI num sym rare ws f) ws (w / 4).toNat (ws.getD (w / 4).toNat 0 / 4).toNat 0 (putT [35, 40] out))
    else
      putT [41] (if (prI (shI num sym rare ws f) ws 1001 (ws.getD ((w / 4).toNat + 2) 0) (shI num sym rare ws f (ws.getD ((w / 4).toNat + 1) 0) (putT [40] out))).1 ≠ 3 then shI num sym rare ws f (prI (shI num sym rare ws f) ws 1001 (ws.getD ((w / 4).toNat + 2) 0) (shI num sym rare ws f (ws.getD ((w / 4).toNat + 1) 0) (putT [40] out))).1 (putT [32, 46, 32] (prI (shI num sym rare ws f) ws 1001 (ws.getD ((w / 4).toNat + 2) 0) (shI num sym rare ws f (ws.getD ((w / 4).toNat + 1) 0) (putT [40] out))).2) else (prI (shI num sym rare ws f) ws 1001 (ws.getD ((w / 4).toNat + 2) 0) (shI num sym rare ws f (ws.getD ((w / 4).toNat + 1) 0) (putT [40] out))).2)
theorem putT_take (t o : List Int) : putT t (o.take 1000) = (o ++ t).take 1000 := by
  unfold putT
  rw [List.take_append, List.length_take]
  by_cases h : o.length ≤ 1000
  · rw [Nat.min_eq_right h]
  · rw [Nat.min_eq_left (by omega), show 1000 - 1000 = 0 from rfl, show 1000 - o.length = 0 by omega]
/-- One shower follows the other. -/
def Fol (b : Nat) (g' g : Int → List Int → List Int) : Prop := ∀ w o, b ≤ o.length → g' w (o.take 1000) = (g w o).take 1000
def Grw (g : Int → List Int → List Int) : Prop := ∀ w o, o.length ≤ (g w o).length
theorem vec_fol {b : Nat} {g' g : Int → List Int → List Int} (ws : List Int) (p : Nat) (hg : Fol b g' g) (hw : Grw g) (hs : ∀ w o, 1000 ≤ o.length → g w o = o) :
    ∀ r i o, b ≤ o.length → vecI g' ws p r i (o.take 1000) = (vecS g ws p r i o).take 1000
  | 0, _, _, _ => rfl
  | r + 1, i, o, hb => by
    have ih := vec_fol ws p hg hw hs r (i + 1)
    have key : ∀ o2 : List Int, o.length ≤ o2.length → g' (ws.getD (p + 1 + i) 0) (o2.take 1000) = (g (ws.getD (p + 1 + i) 0) o2).take 1000 := fun o2 h => hg _ _ (by omega)
    have e : (if 0 < i then putT [32] (o.take 1000) else o.take 1000) = (if 0 < i then o ++ [32] else o).take 1000 := by
      split
      · exact putT_take _ _
      · rfl
    have hl : o.length ≤ (if 0 < i then o ++ [32] else o).length := by split <;> simp
    rw [vecI, e, key _ hl, ih _ (by have := hw (ws.getD (p + 1 + i) 0) (if 0 < i then o ++ [32] else o); omega)]
    by_cases hf : 1000 ≤ o.length
    · rw [vecS, if_pos hf]
      have hfull : ∀ r i o, 1000 ≤ o.length → vecS g ws p r i o = o := by
        intro r
        cases r with
        | zero => intro i o _; rfl
        | succ r => intro i o h; rw [vecS, if_pos h]
      have h2 : 1000 ≤ (if 0 < i then o ++ [32] else o).length := by omega
      rw [hs _ _ h2, hfull _ _ _ h2]
      split
      · rw [List.take_append, show 1000 - o.length = 0 by omega]; simp
      · rfl
    · rw [vecS, if_neg hf]
theorem pr_fol {b : Nat} {g' g : Int → List Int → List Int} (ws : List Int) (hg : Fol b g' g) (hw : Grw g) :
    ∀ f rest o, b ≤ o.length → (prI g' ws f rest (o.take 1000)).1 = (prS g ws f rest o).1 ∧ (prI g' ws f rest (o.take 1000)).2 = (prS g ws f rest o).2.take 1000 ∧ b ≤ (prS g ws f rest o).2.length
  | 0, _, _, hb => ⟨rfl, rfl, hb⟩
  | f + 1, rest, o, hb => by
    rw [prI, prS]
    have hc : ((o.take 1000).length ≠ 1000 ∧ isPr ws rest = true) ↔ (o.length < 1000 ∧ isPr ws rest = true) := by
      rw [List.length_take]; constructor <;> (rintro ⟨h1, h2⟩; exact ⟨by omega, h2⟩)
    by_cases h : o.length < 1000 ∧ isPr ws rest = true
    · rw [if_pos h, if_pos (hc.2 h), putT_take, hg _ _ (by simp; omega)]
      exact pr_fol ws hg hw f _ _ (by have := hw (ws.getD ((rest / 4).toNat + 1) 0) (o ++ [32]); simp only [List.length_append, List.length_cons, List.length_nil] at this; omega)
    · rw [if_neg h, if_neg (fun h2 => h (hc.1 h2))]
      exact ⟨rfl, rfl, hb⟩
theorem vec_grw {g : Int → List Int → List Int} (ws : List Int) (p : Nat) (hw : Grw g) : ∀ r i o, o.length ≤ (vecS g ws p r i o).length
  | 0, _, _ => Nat.le_refl _
  | r + 1, i, o => by
    rw [vecS]
    split
    · exact Nat.le_refl _
    · have h1 := vec_grw ws p hw r (i + 1) (g (ws.getD (p + 1 + i) 0) (if 0 < i then o ++ [32] else o))
      have h2 := hw (ws.getD (p + 1 + i) 0) (if 0 < i then o ++ [32] else o)
      have h3 : o.length ≤ (if 0 < i then o ++ [32] else o).length := by split <;> simp
      omega
theorem pr_grw {g : Int → List Int → List Int} (ws : List Int) (hw : Grw g) : ∀ f rest o, o.length ≤ (prS g ws f rest o).2.length
  | 0, _, _ => Nat.le_refl _
  | f + 1, rest, o => by
    rw [prS]
    split
    · have h1 := pr_grw ws hw f (ws.getD ((rest / 4).toNat + 2) 0) (g (ws.getD ((rest / 4).toNat + 1) 0) (o ++ [32]))
      have h2 := hw (ws.getD ((rest / 4).toNat + 1) 0) (o ++ [32])
      simp only [List.length_append, List.length_cons, List.length_nil] at h2
      omega
    · exact Nat.le_refl _
section
variable (num sym rare : Int → List Int) (ws : List Int)
theorem shS_grw : ∀ f, Grw (shS num sym rare ws f)
  | 0 => fun _ _ => Nat.le_refl _
  | f + 1 => fun w o => by
    have ih := shS_grw f
    rw [shS]
    split
    · exact Nat.le_refl _
    · split
      · simp
      · split
        · simp
        · split
          · simp
          · split
            · have := vec_grw ws (w / 4).toNat ih (ws.getD (w / 4).toNat 0 / 4).toNat 0 (o ++ [35, 40])
              simp only [List.length_append, List.length_cons, List.length_nil] at this ⊢
              omega
            · have h1 := ih (ws.getD ((w / 4).toNat + 1) 0) (o ++ [40])
              have h2 := pr_grw ws ih 1001 (ws.getD ((w / 4).toNat + 2) 0) (shS num sym rare ws f (ws.getD ((w / 4).toNat + 1) 0) (o ++ [40]))
              generalize prS (shS num sym rare ws f) ws 1001 (ws.getD ((w / 4).toNat + 2) 0) (shS num sym rare ws f (ws.getD ((w / 4).toNat + 1) 0) (o ++ [40])) = pr at h2 ⊢
              rw [List.length_append]
              split
              · have h3 := ih pr.1 (pr.2 ++ [32, 46, 32])
                simp only [List.length_append, List.length_cons, List.length_nil] at h3 h1 ⊢
                omega
              · simp only [List.length_append, List.length_cons, List.length_nil] at h1 ⊢
                omega
theorem shS_full (f : Nat) (w : Int) (o : List Int) (h : 1000 ≤ o.length) : shS num sym rare ws f w o = o := by
  cases f with
  | zero => rfl
  | succ f => rw [shS, if_pos h]
/-- The program's text is the specification's, cut. -/
theorem sh_fol : ∀ f, Fol (1001 - f) (shI num sym rare ws f) (shS num sym rare ws f)
  | 0 => fun w o hb => rfl
  | f + 1 => fun w o hb => by
    have ih := sh_fol f
    have hw := shS_grw num sym rare ws f
    rw [shI, shS]
    by_cases hf : 1000 ≤ o.length
    · rw [if_pos hf, if_pos (by rw [List.length_take]; omega)]
    · rw [if_neg hf, if_neg (by rw [List.length_take]; omega)]
      split
      · exact putT_take _ _
      · split
        · exact putT_take _ _
        · split
          · exact putT_take _ _
          · split
            · rw [putT_take, vec_fol ws (w / 4).toNat ih hw (fun w o h => shS_full num sym rare ws f w o h) _ _ _ (by simp; omega), putT_take]
            · have h1 : shI num sym rare ws f (ws.getD ((w / 4).toNat + 1) 0) (putT [40] (o.take 1000)) = (shS num sym rare ws f (ws.getD ((w / 4).toNat + 1) 0) (o ++ [40])).take 1000 := by
                rw [putT_take]; exact ih _ _ (by simp; omega)
              have h2 := pr_fol ws ih hw 1001 (ws.getD ((w / 4).toNat + 2) 0) (shS num sym rare ws f (ws.getD ((w / 4).toNat + 1) 0) (o ++ [40])) (by have := hw (ws.getD ((w / 4).toNat + 1) 0) (o ++ [40]); simp only [List.length_append, List.length_cons, List.length_nil] at this; omega)
              rw [h1]
              generalize prI (shI num sym rare ws f) ws 1001 (ws.getD ((w / 4).toNat + 2) 0) ((shS num sym rare ws f (ws.getD ((w / 4).toNat + 1) 0) (o ++ [40])).take 1000) = qi at h2 ⊢
              generalize prS (shS num sym rare ws f) ws 1001 (ws.getD ((w / 4).toNat + 2) 0) (shS num sym rare ws f (ws.getD ((w / 4).toNat + 1) 0) (o ++ [40])) = qs at h2 ⊢
              obtain ⟨e1, e2, e3⟩ := h2
              rw [e1, e2]
              split
              · rw [putT_take, ih _ _ (by simp; omega), putT_take]
              · rw [putT_take]
end
end Ch2s
end Go.Proofs.YtmmkpmgidoelpaaDoor
namespace Go.Proofs.YtmmkpmgidoelpaaDoor
open Go.RowKit Ch1 Ch2s
/-- append(v, x...) of nothing, in a region that draws. -/
theorem app0_law (w : World) {ops : Array Oper} {o : Oper} {a : Act} {K : Act → World → Prop} {Q : Exit → Act → World → Prop} {E : Prop} (hgd : o.guard = none) (s x : Operand)
    (ho : o.op = .call { callee := .builtin .append, args := #[s, x], argTypes := #[22, 22] }) (p : Option Addr) (n c : Nat) (hs : a.eval s = .slice p n c) (hle : n ≤ c) (q : Option Addr) (d : Nat) (hx : a.eval x = .slice q 0 d)
    (h : K (a.put o.dst (.slice p n c)) w) : if Region.wanted o (yielded ops a.tmps) = true then Oper.wp Tryd.prog o a w K Q else E := by
  obtain ⟨i5, hi5, _, _, _⟩ := info5'
  have hw : Region.wanted o (yielded ops a.tmps) = true := by simp [Region.wanted, hgd]
  have hsrc : Src Tryd.prog i5.size 22 (.slice q 0 d) 0 [] w := by
    cases q with
    | none => exact Src.ofNil w Tryd.underlying22 d
    | some ad => exact Src.ofSlice w Tryd.underlying22 ad 0 d [] (by simp) (fun j u hu => by simp at hu) (fun u hu => by cases hu)
  have hr := run_append_nothing (P := Tryd.prog) w 22 22 o.type 5 i5 Tryd.underlying22 hi5 p n c hle (.slice q 0 d) hsrc
  rw [if_pos hw]
  unfold Oper.wp execOp
  simp only [ho, resolve, invoke, builtin, Sem.run_bind, Sem.run_pure, Result.andThen_ok, List.map_toArray, List.map_cons, List.map_nil, hs, hx, hr]
  exact h
/-- The shower in block b, and what it has written. -/
structure Sh (w : World) (b B : Nat) (hp : Value) (top : Int) (nm v : Value) (xs : List Int) : Prop where
  blk : w.heap[b]? = some (.cells #[hp, .int .i64 top, nm, v] 62)
  ge : B ≤ b
  ow : Ow w B v xs
theorem Sh.lt {w : World} {b B : Nat} {hp : Value} {top : Int} {nm v : Value} {xs : List Int} (h : Sh w b B hp top nm v xs) : b < w.heap.size := (Array.getElem?_eq_some_iff.1 h.blk).1
theorem Sh.below {w w' : World} {b B : Nat} {hp : Value} {top : Int} {nm v : Value} {xs : List Int} (h : Sh w b B hp top nm v xs) (hb : Below w.heap.size w w') : Sh w' b B hp top nm v xs := ⟨(hb.block b h.lt).trans h.blk, h.ge, h.ow.below hb⟩
theorem Sh.cells {w : World} {b B : Nat} {hp : Value} {top : Int} {nm v : Value} {xs : List Int} (h : Sh w b B hp top nm v xs) : w.cell? ⟨b, 0, none⟩ = some hp ∧ w.cell? ⟨b, 1, none⟩ = some (.int .i64 top) ∧ w.cell? ⟨b, 2, none⟩ = some nm ∧ w.cell? ⟨b, 3, none⟩ = some v ∧ w.frozen? ⟨b, 3, none⟩ = false := by
  refine ⟨?_, ?_, ?_, ?_, ?_⟩ <;> simp [World.cell?, World.frozen?, h.blk]
/-- Only the shower and its row have turned. -/
structure Sk (b B : Nat) (w w' : World) : Prop where
  below : Below B w w'
  kept : ∀ (k : Nat) (arr : Array Value) (t : TypeId), w.heap[k]? = some (.cells arr t) → t ≠ 5 → k ≠ b → w'.heap[k]? = some (.cells arr t)
theorem Sk.refl (b B : Nat) (w : World) : Sk b B w w := ⟨Below.refl _ _, fun _ _ _ h _ _ => h⟩
theorem Sk.trans {b B : Nat} {u v w : World} (h : Sk b B u v) (k : Sk b B v w) : Sk b B u w := ⟨h.below.trans k.below, fun x arr t e h1 h2 => k.kept x arr t (h.kept x arr t e h1 h2) h1 h2⟩
theorem Sk.of_below {b B : Nat} {w w' : World} (h : Below w.heap.size w w') (hB : B ≤ w.heap.size) : Sk b B w w' := ⟨h.mono hB, fun k _ _ e _ _ => (h.block k (Array.getElem?_eq_some_iff.1 e).1).trans e⟩
def ShP (b B : Nat) (hp : Value) (top : Int) (nm : Value) (zs : List Int) (w w' : World) : Prop := ∃ v', Sh w' b B hp top nm v' zs ∧ Sk b B w w'
theorem ShP.trans {b B : Nat} {hp : Value} {top : Int} {nm : Value} {zs : List Int} {u w w' : World} (h : Sk b B u w) (k : ShP b B hp top nm zs w w') : ShP b B hp top nm zs u w' := by
  obtain ⟨v, h1, h2⟩ := k
  exact ⟨v, h1, h.trans h2⟩
/-- Behind 's.out = append(s.out, ..)'. -/
theorem Sh.put {w w' : World} {b B : Nat} {hp : Value} {top : Int} {nm v v' : Value} {xs ys : List Int} (h : Sh w b B hp top nm v xs) (ho : Ow w' B v' ys) (hb : Below B w w') (hbt : But w w' v) : Sh (w'.setCell ⟨b, 3, none⟩ v') b B hp top nm v' ys ∧ Sk b B w (w'.setCell ⟨b, 3, none⟩ v') ∧ w'.cell? ⟨b, 3, none⟩ = some v ∧ w'.frozen? ⟨b, 3, none⟩ = false := by
  have hne := own_ne h.ow h.blk (by decide)
  have e' : w'.heap[b]? = some (.cells #[hp, .int .i64 top, nm, v] 62) := (hbt b h.lt hne).trans h.blk
  refine ⟨⟨?_, h.ge, ho.of_heap fun k hk => Below.heap_setCell w' _ v' k ?_⟩, ⟨hb.setCell (by simpa using h.ge) _, fun k arr t e ht hk => ?_⟩, by simp [World.cell?, e'], by simp [World.frozen?, e']⟩
  · obtain ⟨hlt, e2⟩ := Array.getElem?_eq_some_iff.1 e'
    simp [World.setCell, Array.getElem_modify, e2, hlt]
  · intro hh
    simp only at hh
    subst hh
    exact own_ne ho e' (by decide) hk.symm
  · rw [Below.heap_setCell w' ⟨b, 3, none⟩ v' k (by simpa using hk)]
    exact (hbt k (Array.getElem?_eq_some_iff.1 e).1 (own_ne h.ow e ht)).trans e
theorem By.take {w : World} {p : Option Addr} {n c : Nat} {xs : List Int} (h : By w p n c xs) {m : Nat} (hm : m ≤ n) : By w p m c (xs.take m) := by
  refine ⟨by rw [List.length_take, h.len]; omega, Nat.le_trans hm h.cap, h.big, rng_of (fun x hx => rg_of h.rng x (List.mem_of_mem_take hx)), fun h0 => ?_, fun a ha h0 => h.old a ha (by omega)⟩
  obtain ⟨b, o, e, g⟩ := h.cells (by omega)
  exact ⟨b, o, e, fun i hi => by rw [g i (by omega)]; simp [List.getD, hi]⟩
theorem Ow.len {w : World} {B : Nat} {v : Value} {xs : List Int} (h : Ow w B v xs) : ∃ p c, v = .slice p xs.length c ∧ xs.length ≤ c := by
  obtain ⟨_, ⟨rfl, h0⟩ | ⟨g, cap, cur, rfl, hg, hh, h1, h2, h3, h4⟩⟩ := h
  · exact ⟨none, 0, by rw [h0], by omega⟩
  · exact ⟨_, cap, rfl, h1⟩
set_option maxRecDepth 20000 in
set_option maxHeartbeats 2000000 in
theorem put_some (b B : Nat) (hp : Value) (top : Int) (nm v : Value) (xs ts : List Int) (tb to tn tc m : Nat) (w : World) (hW : Sh w b B hp top nm v xs) (hT : By w (some ⟨tb, to, none⟩) tn tc ts) (hm : m = min tn (1000 - xs.length)) (h0 : 0 < m) (hx : xs.length ≤ 1000) (ht : tn ≤ 1048576) (hB : B ≤ w.heap.size) :
    Calls Tryd.prog 42 #[.pointer (some ⟨b, 0, none⟩), .slice (some ⟨tb, to, none⟩) tn tc] w fun e w' => e = .returned (.tuple #[]) ∧ ShP b B hp top nm (putT ts xs) w w' := by
  have hmt : m ≤ tn := by omega
  have HT : Hid (By w (some ⟨tb, to, none⟩) m tc (ts.take m)) := hT.take hmt
  have HP : Hid (putT ts xs = xs ++ ts.take m) := by
    unfold Hid putT
    congr 1
    have := hT.len
    rcases Nat.le_total tn (1000 - xs.length) with h | h
    · rw [hm, Nat.min_eq_left h, List.take_of_length_le (by omega), List.take_of_length_le (by omega)]
    · rw [hm, Nat.min_eq_right h]
  have hc := hT.cap
  obtain ⟨_, _, _, c3, f3⟩ := hW.cells
  have HW : Hid (Sh w b B hp top nm v xs) := hW
  obtain ⟨p0, k0, rfl, _⟩ := hW.ow.len
  have HL : Hid (xs.length = xs.length) := rfl
  obtain ⟨n0, hn0⟩ : ∃ n0, n0 = xs.length := ⟨_, rfl⟩
  rw [← hn0] at hm hx
  rw [← hn0] at c3
  rw [← hn0] at HW
  have HN : Hid (n0 = xs.length) := hn0
  clear hW hT hn0 HL
  have w1 : IntKind.i64.wrap (1000 - (n0 : Int)) = 1000 - n0 := by simp [IntKind.wrap, IntKind.bits, IntKind.signed]; omega
  have w2 : (min (tn : Int) (1000 - n0)) = m := by omega
  have w3 : (0 : Int) ≤ m := by omega
  have hmc : m ≤ tc := by omega
  have hlen : xs.length + m ≤ 1000000000 := by rw [← HN.out]; omega
  have HLEN : Hid (xs.length + m ≤ 1000000000) := hlen
  clear hlen
  clear hm
  go_enter Tryd.func42, Tryd.ntmps42
  go_wp2_with fail
  go_region_law (refine appR_law _ rfl (.tmp 8) (.tmp 19) rfl B (.slice p0 n0 k0) xs (ts.take m) (by simp [Act.eval, Act.put]) (by exact HW.out.ow) tb to m tc (by simp [Act.eval, Act.put]) (by exact HT.out.below (below_drewM (Below.refl _ _))) h0 HLEN.out (by exact hB) ?_; intro v3 w3 ho3 hb3 hbt3; obtain ⟨p3, n3, q3, rfl⟩ := ho3.form; obtain ⟨hw4, hs4, f1, f2⟩ := HW.out.put ho3 (w' := w3) ⟨hb3.os, hb3.tape, hb3.output, hb3.size, hb3.block⟩ hbt3; have HW4 : Hid (Sh (w3.setCell ⟨b, 3, none⟩ (.slice p3 n3 q3)) b B hp top nm (.slice p3 n3 q3) (xs ++ ts.take m)) := hw4; have HS4 : Hid (Sk b B w (w3.setCell ⟨b, 3, none⟩ (.slice p3 n3 q3))) := hs4; clear ho3 hb3 hbt3 hw4 hs4)
  all_goals go_wp2
  all_goals go_end0
  all_goals exact ⟨rfl, _, by rw [HP.out]; exact HW4.out, HS4.out⟩
set_option maxRecDepth 20000 in
set_option maxHeartbeats 2000000 in
theorem put_none (b B : Nat) (hp : Value) (top : Int) (nm v : Value) (xs ts : List Int) (tp : Option Addr) (tn tc : Nat) (w : World) (hW : Sh w b B hp top nm v xs) (hT : By w tp tn tc ts) (hm : min tn (1000 - xs.length) = 0) (hx : xs.length ≤ 1000) (ht : tn ≤ 1048576) :
    Calls Tryd.prog 42 #[.pointer (some ⟨b, 0, none⟩), .slice tp tn tc] w fun e w' => e = .returned (.tuple #[]) ∧ ShP b B hp top nm (putT ts xs) w w' := by
  have HP : Hid (putT ts xs = xs) := by
    unfold Hid putT
    have := hT.len
    rcases Nat.le_total tn (1000 - xs.length) with h | h
    · have e : ts = [] := List.length_eq_zero_iff.1 (by omega)
      rw [e]; simp
    · rw [show 1000 - xs.length = 0 by omega]; simp
  have hc := hT.cap
  obtain ⟨_, _, _, c3, f3⟩ := hW.cells
  have HW : Hid (Sh w b B hp top nm v xs) := hW
  obtain ⟨p0, k0, rfl, hk0⟩ := hW.ow.len
  have HO : Hid (Ow w.drew B (.slice p0 xs.length k0) xs ∧ Below B w w.drew ∧ But w w.drew (.slice p0 xs.length k0)) := ⟨hW.ow.below (below_drewM (Below.refl _ _)), below_drewM (Below.refl _ _), fun k _ _ => rfl⟩
  obtain ⟨hw4, hs4, _, _⟩ := HW.out.put HO.out.1 HO.out.2.1 HO.out.2.2
  have HW4 : Hid (Sh (w.drew.setCell ⟨b, 3, none⟩ (.slice p0 xs.length k0)) b B hp top nm (.slice p0 xs.length k0) xs) := hw4
  have HS4 : Hid (Sk b B w (w.drew.setCell ⟨b, 3, none⟩ (.slice p0 xs.length k0))) := hs4
  clear hW hT hw4 hs4 HO
  generalize xs.length = n0 at *
  have w1 : IntKind.i64.wrap (1000 - (n0 : Int)) = 1000 - n0 := by simp [IntKind.wrap, IntKind.bits, IntKind.signed]; omega
  have w2 : (min (tn : Int) (1000 - n0)) = 0 := by omega
  clear hm
  go_enter Tryd.func42, Tryd.ntmps42
  go_wp2_with fail
  go_region_law (refine app0_law _ rfl (.tmp 8) (.tmp 19) rfl p0 n0 k0 (by simp [Act.eval, Act.put]) hk0 tp tc (by simp [Act.eval, Act.put]) ?_)
  all_goals go_wp2
  all_goals go_end0
  all_goals exact ⟨rfl, _, by rw [HP.out]; exact HW4.out, HS4.out⟩
/-- s.put(text). -/
theorem puts_c (b B : Nat) (hp : Value) (top : Int) (nm v : Value) (xs ts : List Int) (tp : Option Addr) (tn tc : Nat) (w : World) (hW : Sh w b B hp top nm v xs) (hT : By w tp tn tc ts) (hx : xs.length ≤ 1000) (ht : tn ≤ 1048576) (hB : B ≤ w.heap.size) :
    Calls Tryd.prog 42 #[.pointer (some ⟨b, 0, none⟩), .slice tp tn tc] w fun e w' => e = .returned (.tuple #[]) ∧ ShP b B hp top nm (putT ts xs) w w' := by
  by_cases h0 : min tn (1000 - xs.length) = 0
  · exact put_none b B hp top nm v xs ts tp tn tc w hW hT h0 hx ht
  · obtain ⟨tb, to, rfl, _⟩ := hT.cells (by omega)
    exact put_some b B hp top nm v xs ts tb to tn tc _ w hW hT rfl (by omega) hx ht hB
theorem putT_len (ts xs : List Int) (h : xs.length ≤ 1000) : (putT ts xs).length ≤ 1000 ∧ xs.length ≤ (putT ts xs).length := by
  unfold putT; rw [List.length_append, List.length_take]; omega
theorem nums_getD (l : List UInt8) (i : Nat) (h : i < l.length) : (nums l).getD i 0 = ((l.getD i 0).toNat : Int) := by
  simp [nums, List.getD, List.getElem?_eq_getElem h]
/-- A string turned to bytes. -/
theorem conv_str (t : TypeId) {u : TypeDesc} (ht : Tryd.prog.underlying t = some u) (w : World) (s : ByteArray) (hs : s.size ≤ 1048576) : ∃ c w2, (convert t 22 (.string s)).run Tryd.prog w = .ok (.slice (some ⟨w.heap.size, 0, none⟩) s.size c) w2 ∧ By w2 (some ⟨w.heap.size, 0, none⟩) s.size c (nums s.data.toList) ∧ Below w.heap.size w w2 := by
  have hsz : s.data.toList.length = s.size := Array.length_toList
  refine ⟨_, _, Lib.run_convert_string_bytes (P := Tryd.prog) w t 22 5 s ht Tryd.underlying22 Tryd.underlying5, ⟨by rw [nums_length, hsz], grownCap_ge _ _ _ _, grownCap_le_maxLen _ _ _ _ (by unfold maxLen; omega), nums_rng _, fun _ => ⟨w.heap.size, 0, rfl, fun i hi => ?_⟩, fun a ha _ => by cases ha; show w.heap.size < _; rw [Lib.bytesWorld_size]; omega⟩, ?_⟩
  · rw [Nat.zero_add, Lib.bytesWorld_cell w 5 s i hi]
    rw [nums_getD _ _ (by omega)]
  · exact ⟨rfl, rfl, rfl, by rw [Lib.bytesWorld_size]; omega, fun k hk => Lib.bytesWorld_at_old w 5 s k hk⟩
end Go.Proofs.YtmmkpmgidoelpaaDoor
