import Derived.Test.YtleeldjncobheaaDoorX6
namespace Go.Proofs.YtleeldjncobheaaDoor
open Go.RowKit Ch1
theorem text16 (k : Nat) : ∀ (p : Option Addr) (n c i : Nat) (ds r : List Dt) (w : World), Da w p n c ds → n ≤ 3000 → i ≤ n → skip k (ds.drop i) = some r → Calls Tryd.prog 27 #[.slice p n c, .int .i64 i] w fun e w' => Txt w w' e (txt k (ds.drop i)) := by
  have place : ∀ (n i : Nat) (ds : List Dt) (d : Dt) (q : List Dt), ds.length = n → ds.drop i = d :: q → i < n ∧ d = ds.getD i dt0 ∧ q = ds.drop (i + 1) := by
    intro n i ds d q hn hl
    have hi : i < ds.length := by
      apply Nat.lt_of_not_le
      intro h
      rw [List.drop_eq_nil_of_le h] at hl; cases hl
    rw [drop_cons ds i hi] at hl
    cases hl
    exact ⟨by omega, rfl, rfl⟩
  induction k with
  | zero =>
    intro p n c i ds r w hD hn _ hs
    obtain ⟨d, q, hl, hg, ⟨hk, rfl⟩ | ⟨k', e, _⟩⟩ := skip_some hs
    · obtain ⟨hin, rfl, rfl⟩ := place n i ds d _ hD.len hl
      rcases good_kinds hg with h0 | h0 | h0 | h0
      · exact text16_int 0 p n c i ds _ w hD hin hl hg h0
      · exact text16_bool 0 p n c i ds _ w hD hin hl h0
      · exact text16_sym 0 p n c i ds _ w hD hin hl hg h0
      · exact absurd h0 hk
    · omega
  | succ k ih =>
    intro p n c i ds r w hD hn _ hs
    obtain ⟨d, q, hl, hg, ⟨hk, rfl⟩ | ⟨k', e, hk, hss⟩⟩ := skip_some hs
    · obtain ⟨hin, rfl, rfl⟩ := place n i ds d _ hD.len hl
      rcases good_kinds hg with h0 | h0 | h0 | h0
      · exact text16_int _ p n c i ds _ w hD hin hl hg h0
      · exact text16_bool _ p n c i ds _ w hD hin hl h0
      · exact text16_sym _ p n c i ds _ w hD hin hl hg h0
      · exact absurd h0 hk
    · obtain rfl : k = k' := by omega
      obtain ⟨hin, rfl, rfl⟩ := place n i ds d q hD.len hl
      exact text16_list k p n c i ds _ r w ih hD hn hin hl rfl hg hk hss
/-- What WriteData answers. -/
def outT (ds : List Dt) : List Int := if validB ds = true then rowT ds else []
/-- A slice that reads as xs; nothing that was there has turned. -/
def Bys (w w' : World) (e : Ending) (xs : List Int) : Prop := ∃ p c, e = .returned (.slice p xs.length c) ∧ By w' p xs.length c xs ∧ Below w.heap.size w w'
theorem By.nil (w : World) : By w none 0 0 [] := ⟨rfl, Nat.le_refl _, by unfold maxLen; omega, fun i => by simp, fun h => absurd h (Nat.lt_irrefl 0), fun a ha => by cases ha⟩
theorem valid_small {ds : List Dt} (h : validB ds = true) : ds.length ≤ 3000 ∧ rowOf ds = true := by
  unfold validB at h; simp at h; exact h
theorem rowX_rg : ∀ (n : Nat) (l : List Dt), RgD l → Rg (rowX n l) := by
  intro n
  induction n with
  | zero => intro l _; cases l <;> (intro x hx; cases hx)
  | succ n ih =>
    intro l h
    cases l with
    | nil => intro x hx; cases hx
    | cons d r =>
      simp only [rowX]
      cases e : skip 100 (d :: r) with
      | none => intro x hx; cases hx
      | some r' =>
        obtain ⟨k, _, _, rfl⟩ := skip_eats 100 _ _ e
        refine Rg.app (txt_rg 100 _ h) (Rg.app (xs := [10]) ?_ (ih _ (h.drop k)))
        intro x hx; simp at hx; omega
theorem rowX_len : ∀ (n : Nat) (l : List Dt), (rowX n l).length ≤ 130 * l.length := by
  intro n
  induction n with
  | zero => intro l; cases l <;> simp [rowX]
  | succ n ih =>
    intro l
    cases l with
    | nil => simp [rowX]
    | cons d r =>
      simp only [rowX]
      cases e : skip 100 (d :: r) with
      | none => simp
      | some r' =>
        have h1 := txt_bound 100 _ _ e
        have h2 := ih r'
        simp only [List.length_append, List.length_cons] at h1 ⊢
        omega
theorem take_flat_le (fs : List Nat) (g : Nat → List Int) (j : Nat) : ((fs.take j).flatMap g).length ≤ (fs.flatMap g).length := by
  have : fs.flatMap g = (fs.take j).flatMap g ++ (fs.drop j).flatMap g := by rw [← List.flatMap_append, List.take_append_drop]
  rw [this, List.length_append]; omega
theorem take_succ_flat (fs : List Nat) (g : Nat → List Int) (j : Nat) (h : j < fs.length) : (fs.take (j + 1)).flatMap g = (fs.take j).flatMap g ++ g (fs.getD j 0) := by
  rw [List.take_succ_eq_append_getElem h, List.flatMap_append]
  simp [List.getD, List.getElem?_eq_getElem h]
end Go.Proofs.YtleeldjncobheaaDoor
