import Derived.Test.YtkkmoaidbmnolaaGreatDoorDd
namespace Go.Proofs.YtkkmoaidbmnolaaGreatDoor
open Go.RowKit Ch1
theorem RdIm.one {xs : List Int} {m m' : Md} (h : RdIm xs m) (h' : RdIm xs m') : m = m' := by
  obtain ⟨_, r, e, _⟩ := h
  obtain ⟨_, r', e', _⟩ := h'
  rw [e] at e'
  cases e'
  rfl
theorem mo_none (w : World) : Mo w none 0 0 none 0 0 ⟨[], 0, []⟩ :=
  ⟨⟨rfl, Nat.le_refl _, by unfold maxLen; omega, fun h => absurd h (Nat.lt_irrefl 0)⟩, ⟨rfl, Nat.le_refl _, by unfold maxLen; omega, fun h => absurd h (Nat.lt_irrefl 0)⟩⟩
theorem MdV.ans {m : Md} {v : Value} {w wX w' : World} (h : MdV m v wX w') (hok : MdOk m) (hw : w.heap.size ≤ wX.heap.size) (hb : Below w.heap.size w w') {code : Int} {e : Ending} (he : e = .returned (.tuple #[v, .int .i64 code])) : AnsI m code w w' e := by
  obtain ⟨p, n, c, q, k, d, e1, b1, b2, hs, hf⟩ := h.ws hok
  obtain ⟨p', n', c', q', k', d', e2, hm, _⟩ := h.mo hok
  rw [e1] at e2
  cases e2
  refine ⟨p, n, c, q, k, d, by rw [he, e1], hm, b1, b2, fun h0 => ?_, fun h0 => ?_, hb, fun b w'' hlt hsr => ?_⟩
  · obtain ⟨t, mm, s, e3, hS, h1, h2⟩ := hs h0
    exact ⟨t, mm, s, e3, hS, by omega, h2⟩
  · obtain ⟨t, mm, s, e3, h1, h2, hS, h3, h4⟩ := hf h0
    exact ⟨t, mm, s, e3, by omega, h2, hS, by omega, h4⟩
  · obtain ⟨p', n', c', q', k', d', e2, hm2, _⟩ := (h.sr hsr (by omega)).mo hok
    rw [e1] at e2
    cases e2
    exact hm2
/-- What the specification's DecodeImage must be shown to answer. -/
def SpP (xs : List Int) (w w' : World) (e : Ending) : Prop :=
  (∃ m p n c q k d, RdIm xs m ∧ e = .returned (.tuple #[.agg #[.slice p n c, .int .i64 m.globals, .slice q k d], .int .i64 0]) ∧ Mo w' p n c q k d m ∧ Below w.heap.size w w') ∨ ((∀ m, ¬ RdIm xs m) ∧ e = .returned (.tuple #[.agg #[.slice none 0 0, .int .i64 0, .slice none 0 0], .int .i64 5]) ∧ Below w.heap.size w w')
/-- Both answer one module and one code. -/
theorem both (xs : List Int) : ∃ m code, (∀ w w' e, DiP xs w w' e → AnsI m code w w' e) ∧ (∀ w w' e, SpP xs w w' e → AnsS m code w w' e) := by
  by_cases hx : ∃ m, RdIm xs m
  · obtain ⟨m, hm⟩ := hx
    refine ⟨m, 0, fun w w' e h => ?_, fun w w' e h => ?_⟩
    · obtain ⟨m', v, wX, h1, h2, h3, h4, h5, h6⟩ | ⟨h1, _⟩ := h
      · obtain rfl := hm.one h1
        exact h5.ans h2 h4 h6 h3
      · exact absurd hm (h1 m)
    · obtain ⟨m', p, n, c, q, k, d, h1, h2, h3, h4⟩ | ⟨h1, _⟩ := h
      · obtain rfl := hm.one h1
        exact ⟨p, n, c, q, k, d, h2, h3, h4⟩
      · exact absurd hm (h1 m)
  · refine ⟨⟨[], 0, []⟩, 5, fun w w' e h => ?_, fun w w' e h => ?_⟩
    · obtain ⟨m', v, wX, h1, _⟩ | ⟨_, h2, h3⟩ := h
      · exact absurd ⟨m', h1⟩ hx
      · exact ⟨none, 0, 0, none, 0, 0, h2, mo_none _, by omega, by omega, fun h => absurd h (Nat.lt_irrefl 0), fun h => absurd h (Nat.lt_irrefl 0), h3, fun _ _ _ _ => mo_none _⟩
    · obtain ⟨m', p, n, c, q, k, d, h1, _⟩ | ⟨_, h2, h3⟩ := h
      · exact absurd ⟨m', h1⟩ hx
      · exact ⟨none, 0, 0, none, 0, 0, h2, mo_none _, h3⟩
/-- The law, where the specification's side is shown. -/
theorem lawD (ap : Option Addr) (n c : Nat) (xs : List Int) (w : World) (h : By w ap n c xs) (hn : n ≤ 1048576) (hT : Tb w) (hE : Eh w)
    (hS : ∀ p c' w1, Below w.heap.size w w1 → By w1 p n c' xs → Calls Tryz.prog 4 #[.slice p n c'] w1 fun e w' => SpP xs w1 w' e) :
    Calls Tryz.prog 3 #[.slice ap n c] w fun e w' => e = .returned (.bool true) ∧ Below w.heap.size w w' := by
  obtain ⟨m, code, h1, h2⟩ := both xs
  exact lawD_c ap n c xs m code w h hn (fun p c' w1 hb hy => (implDecode_c p n c' xs w1 hy hn (hT.below hb) (hE.below hb)).mono (fun e w' he => h1 _ _ _ he)) (fun p c' w1 hb hy => (hS p c' w1 hb hy).mono (fun e w' he => h2 _ _ _ he))
end Go.Proofs.YtkkmoaidbmnolaaGreatDoor
namespace Go.Proofs.YtkkmoaidbmnolaaGreatDoor
open Go.RowKit Ch1
/-- An image read by the specification is read whole. -/
theorem rsMd_im (m : Md) (h : GoodM m) : ∃ r, rsMd ((imZ m).drop 4) = some (m, r) := by
  refine ⟨leZ 4 (crcZ (bdZ m)), ?_⟩
  have h2 := (rdMd_fwd m (leZ 4 (crcZ (bdZ m))) h.im).2
  have e4 : imZ m = [83, 76, 65, 49] ++ (bodZ m ++ leZ 4 (crcZ (bdZ m))) := by unfold imZ; rw [← List.append_assoc, ← bdZ_bod]
  have ed : (imZ m).drop 4 = bodZ m ++ leZ 4 (crcZ (bdZ m)) := by rw [e4]; rfl
  rw [ed]
  exact h2
theorem rsMd_none {xs : List Int} (hr : Rg xs) (h : rsMd (xs.drop 4) = none) (m : Md) : ¬ RdIm xs m := fun hm => by
  obtain ⟨rfl, hg⟩ := (rdIm_iff hr m).1 hm
  obtain ⟨r, e⟩ := rsMd_im m hg
  rw [e] at h
  cases h
theorem rsMd_some {xs r : List Int} {m : Md} (hr : Rg xs) (h : rsMd (xs.drop 4) = some (m, r)) : (xs = imZ m ∧ GoodM m → RdIm xs m) ∧ (¬ (xs = imZ m ∧ GoodM m) → ∀ m', ¬ RdIm xs m') := by
  refine ⟨fun hh => (rdIm_iff hr m).2 hh, fun hn m' hm => ?_⟩
  obtain ⟨e1, hg⟩ := (rdIm_iff hr m').1 hm
  obtain ⟨r', e⟩ := rsMd_im m' hg
  rw [← e1, h] at e
  cases e
  exact hn ⟨e1, hg⟩
end Go.Proofs.YtkkmoaidbmnolaaGreatDoor
