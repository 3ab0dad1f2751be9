import Derived.Test.YtmmkpmgidoelpaaDoorT2
namespace Go.Proofs.YtmmkpmgidoelpaaDoor.Hp
open Go.RowKit Ch2
/-- The word that a byte chooses. -/
def pickF (wds : List Int) (v : Int) : Int := if v % 3 = 0 ∧ 8 < wds.length then wds.getD (wds.length - 1 - (v / 3 % ((wds.length : Int) - 8)).toNat) 0 else wds.getD (v % (wds.length : Int)).toNat 0
/-- So many fields, and where the reader stands then. -/
def flN (bs wds : List Int) : Nat → Nat → List Int × Nat
  | 0, i => ([], i)
  | k + 1, i => ((flN bs wds k i).1 ++ [pickF wds (nxV bs (flN bs wds k i).2)], nxI bs (flN bs wds k i).2)
theorem flN_len (bs wds : List Int) (i : Nat) : ∀ k, (flN bs wds k i).1.length = k
  | 0 => rfl
  | k + 1 => by rw [flN]; simp [flN_len bs wds i k]
/-- A heap that is being drawn. -/
structure Hs where
  pos : Nat
  ws : List Int
  top : Int
  wds : List Int
def cntF (k : Int) : Nat := if k % 4 = 0 then 2 else if k % 4 = 3 then 1 else (k / 4 % 5).toNat
theorem cntF_le (k : Int) : cntF k ≤ 4 := by
  unfold cntF
  split
  · omega
  · split <;> omega
def rawF (bs : List Int) (s : Hs) : List Int × Nat := flN bs s.wds (cntF (nxV bs s.pos)) (nxI bs s.pos)
def fsF (bs : List Int) (s : Hs) : List Int := if nxV bs s.pos % 4 = 2 then (4 * (nxV bs s.pos / 20)) :: (rawF bs s).1 else (rawF bs s).1
theorem fsF_len (bs : List Int) (s : Hs) : (fsF bs s).length ≤ 5 := by
  have h := cntF_le (nxV bs s.pos)
  have h2 : (rawF bs s).1.length = cntF (nxV bs s.pos) := flN_len _ _ _ _
  unfold fsF; split
  · rw [List.length_cons, h2]; omega
  · omega
/-- The object is laid. -/
def okF (bs : List Int) (s : Hs) : Prop := AlOk s.ws s.top (nxV bs s.pos % 4) (fsF bs s) ∧ s.top + 1 + (fsF bs s).length ≤ s.ws.length
def laidF (bs : List Int) (s : Hs) : Hs := ⟨(rawF bs s).2, putO s.ws s.top.toNat (4 * (fsF bs s).length + nxV bs s.pos % 4) (fsF bs s), s.top + 1 + (fsF bs s).length, s.wds ++ [4 * s.top + 1]⟩
def StepR (bs : List Int) (s s' : Hs) : Prop := (okF bs s ∧ s' = laidF bs s) ∨ (¬ okF bs s ∧ s' = ⟨(rawF bs s).2, s.ws, s.top, s.wds⟩)
theorem StepR.one {bs : List Int} {s a b : Hs} (h : StepR bs s a) (h' : StepR bs s b) : a = b := by
  rcases h with ⟨h, rfl⟩ | ⟨h, rfl⟩ <;> rcases h' with ⟨h', rfl⟩ | ⟨h', rfl⟩
  · rfl
  · exact absurd h h'
  · exact absurd h' h
  · rfl
def RunR (bs : List Int) (s0 : Hs) : Nat → Hs → Prop
  | 0, s => s = s0
  | k + 1, s => ∃ s1, RunR bs s0 k s1 ∧ StepR bs s1 s
theorem RunR.one {bs : List Int} {s0 : Hs} : ∀ {k : Nat} {a b : Hs}, RunR bs s0 k a → RunR bs s0 k b → a = b
  | 0, a, b, h, h' => by rw [show a = s0 from h, show b = s0 from h']
  | k + 1, a, b, ⟨x, h1, h2⟩, ⟨y, h3, h4⟩ => by
    obtain rfl := RunR.one h1 h3
    exact h2.one h4
/-- Where a field is turned. -/
def atF (bs : List Int) (s : Hs) : Nat := (s.wds.getD (8 + (nxV bs s.pos % ((s.wds.length : Int) - 8)).toNat) 0 / 4).toNat
def hitF (bs : List Int) (s : Hs) : Prop := s.ws.getD (atF bs s) 0 = 8 ∨ (s.ws.getD (atF bs s) 0).tmod 4 = 3
theorem tmod3 {x : Int} (h : x.tmod 4 = 3) : x % 4 = 3 := by
  rcases Int.lt_or_le x 0 with h0 | h0
  · have : x.tmod 4 ≤ 0 := by
      obtain ⟨y, rfl⟩ : ∃ y, x = -y := ⟨-x, by omega⟩
      rw [Int.neg_tmod]
      have := Int.tmod_nonneg (a := y) 4 (by omega)
      omega
    omega
  · rw [Int.tmod_eq_emod_of_nonneg h0] at h; exact h
def turnR (bs : List Int) (s s' : Hs) : Prop := (8 < s.wds.length ∧ hitF bs s ∧ s' = ⟨nxI bs s.pos, s.ws.set (atF bs s + 1) (s.wds.getD (s.wds.length - 1) 0), s.top, s.wds⟩) ∨ (8 < s.wds.length ∧ ¬ hitF bs s ∧ s' = ⟨nxI bs s.pos, s.ws, s.top, s.wds⟩) ∨ (¬ 8 < s.wds.length ∧ s' = s)
theorem turnR.one {bs : List Int} {s a b : Hs} (h : turnR bs s a) (h' : turnR bs s b) : a = b := by
  rcases h with ⟨h1, h2, rfl⟩ | ⟨h1, h2, rfl⟩ | ⟨h1, rfl⟩ <;> rcases h' with ⟨g1, g2, rfl⟩ | ⟨g1, g2, rfl⟩ | ⟨g1, rfl⟩ <;> first | rfl | contradiction
def TurnsR (bs : List Int) (s0 : Hs) : Nat → Hs → Prop
  | 0, s => s = s0
  | k + 1, s => ∃ s1, TurnsR bs s0 k s1 ∧ turnR bs s1 s
theorem TurnsR.one {bs : List Int} {s0 : Hs} : ∀ {k : Nat} {a b : Hs}, TurnsR bs s0 k a → TurnsR bs s0 k b → a = b
  | 0, a, b, h, h' => by rw [show a = s0 from h, show b = s0 from h']
  | k + 1, a, b, ⟨x, h1, h2⟩, ⟨y, h3, h4⟩ => by
    obtain rfl := TurnsR.one h1 h3
    exact h2.one h4
def words0 : List Int := [4, -8, 3, 11, 2, 10, 15, 19]
/-- What l7heap draws. -/
def HeapR (bs : List Int) (i : Nat) (s : Hs) : Prop := ∃ s1, RunR bs ⟨nxI bs (nxI bs i), List.replicate (10 + nxV bs i).toNat 0, 0, words0⟩ (nxV bs (nxI bs i) % 16).toNat s1 ∧ TurnsR bs s1 (nxV bs (nxI bs i) % 16 / 3).toNat s
theorem HeapR.one {bs : List Int} {i : Nat} {a b : Hs} (h : HeapR bs i a) (h' : HeapR bs i b) : a = b := by
  obtain ⟨x, h1, h2⟩ := h
  obtain ⟨y, h3, h4⟩ := h'
  obtain rfl := h1.one h3
  exact h2.one h4
/-- What is kept while it is drawn. -/
structure Hj (n : Nat) (s : Hs) : Prop where
  len : s.ws.length = n
  lo : 0 ≤ s.top
  hi : s.top ≤ n
  wl : 8 ≤ s.wds.length
  ptr : ∀ j, 8 ≤ j → j < s.wds.length → ∃ p : Nat, s.wds.getD j 0 = 4 * p + 1 ∧ (p : Int) < s.top ∧ ((s.ws.getD p 0 = 8 ∨ s.ws.getD p 0 % 4 = 3) → p + 1 < n)
  bw : ∀ j, -100000 ≤ s.wds.getD j 0 ∧ s.wds.getD j 0 ≤ 100000
  bh : ∀ j, -100000 ≤ s.ws.getD j 0 ∧ s.ws.getD j 0 ≤ 100000
theorem rep_getD' (n j : Nat) : (List.replicate n (0 : Int)).getD j 0 = 0 := by
  by_cases h : j < n
  · simp [List.getD, h]
  · simp [List.getD, h]
theorem Hj.start (i n : Nat) : Hj n ⟨i, List.replicate n 0, 0, words0⟩ := by
  refine ⟨by simp, Int.le_refl 0, by show (0 : Int) ≤ n; omega, by show 8 ≤ words0.length; decide, fun j h1 h2 => ?_, fun j => ?_, fun j => ?_⟩
  · have : words0.length = 8 := rfl
    simp only [this] at h2; omega
  · show -100000 ≤ words0.getD j 0 ∧ words0.getD j 0 ≤ 100000
    match j with
    | 0 => decide
    | 1 => decide
    | 2 => decide
    | 3 => decide
    | 4 => decide
    | 5 => decide
    | 6 => decide
    | 7 => decide
    | j + 8 => simp [words0, List.getD]
  · show -100000 ≤ (List.replicate n (0 : Int)).getD j 0 ∧ _
    rw [rep_getD']; omega
theorem pickF_rng {wds : List Int} (h : ∀ j, -100000 ≤ wds.getD j 0 ∧ wds.getD j 0 ≤ 100000) (v : Int) : -100000 ≤ pickF wds v ∧ pickF wds v ≤ 100000 := by
  unfold pickF; split
  · exact h _
  · exact h _
theorem flN_rng {bs wds : List Int} (h : ∀ j, -100000 ≤ wds.getD j 0 ∧ wds.getD j 0 ≤ 100000) (i : Nat) : ∀ k x, x ∈ (flN bs wds k i).1 → -100000 ≤ x ∧ x ≤ 100000
  | 0, x, hx => by cases hx
  | k + 1, x, hx => by
    rw [flN] at hx
    rcases List.mem_append.1 hx with hx | hx
    · exact flN_rng h i k x hx
    · rw [List.mem_singleton.1 hx]; exact pickF_rng h _
theorem getD_rng {xs : List Int} (h : ∀ x, x ∈ xs → -100000 ≤ x ∧ x ≤ 100000) (j : Nat) : -100000 ≤ xs.getD j 0 ∧ xs.getD j 0 ≤ 100000 := by
  by_cases hj : j < xs.length
  · have : xs.getD j 0 ∈ xs := by simp [List.getD, List.getElem?_eq_getElem hj]
    exact h _ this
  · rw [show xs.getD j 0 = 0 by simp [List.getD, hj]]; omega
theorem fsF_rng {bs : List Int} {s : Hs} (hb : ∀ i, 0 ≤ bs.getD i 0 ∧ bs.getD i 0 < 256) (h : ∀ j, -100000 ≤ s.wds.getD j 0 ∧ s.wds.getD j 0 ≤ 100000) (j : Nat) : -100000 ≤ (fsF bs s).getD j 0 ∧ (fsF bs s).getD j 0 ≤ 100000 := by
  refine getD_rng (fun x hx => ?_) j
  have hn := nxV_rng hb s.pos
  unfold fsF at hx
  split at hx
  · rcases List.mem_cons.1 hx with rfl | hx
    · omega
    · exact flN_rng h _ _ x hx
  · exact flN_rng h _ _ x hx
theorem Hj.step {bs : List Int} {n : Nat} {s s' : Hs} (hb : ∀ i, 0 ≤ bs.getD i 0 ∧ bs.getD i 0 < 256) (hn : n ≤ 300) (h : Hj n s) (hs : StepR bs s s') : Hj n s' := by
  rcases hs with ⟨⟨hok, hfit⟩, rfl⟩ | ⟨_, rfl⟩
  · have hl := h.len
    have hlo := h.lo
    have hT : s.top.toNat + 1 + (fsF bs s).length ≤ s.ws.length := by omega
    have hv := nxV_rng hb s.pos
    have h5 := fsF_len bs s
    have hget := fun j => putO_getD (h := 4 * (fsF bs s).length + nxV bs s.pos % 4) hT j
    refine ⟨?_, ?_, ?_, ?_, fun j h1 h2 => ?_, fun j => ?_, fun j => ?_⟩
    · show (putO _ _ _ _).length = n
      rw [putO_len hT]; exact hl
    · show 0 ≤ s.top + 1 + ((fsF bs s).length : Int); omega
    · show s.top + 1 + ((fsF bs s).length : Int) ≤ n; omega
    · show 8 ≤ (s.wds ++ [4 * s.top + 1]).length
      have := h.wl; simp; omega
    · have h2' : j < (s.wds ++ [4 * s.top + 1]).length := h2
      rw [List.length_append, List.length_singleton] at h2'
      show ∃ p : Nat, (s.wds ++ [4 * s.top + 1]).getD j 0 = 4 * p + 1 ∧ (p : Int) < s.top + 1 + ((fsF bs s).length : Int) ∧ (((putO s.ws s.top.toNat (4 * (fsF bs s).length + nxV bs s.pos % 4) (fsF bs s)).getD p 0 = 8 ∨ (putO s.ws s.top.toNat (4 * (fsF bs s).length + nxV bs s.pos % 4) (fsF bs s)).getD p 0 % 4 = 3) → p + 1 < n)
      by_cases e : j < s.wds.length
      · obtain ⟨p, e1, e2, e3⟩ := h.ptr j h1 e
        refine ⟨p, ?_, by omega, fun hc => e3 ?_⟩
        · rw [← e1]; simp [List.getD, List.getElem?_append_left e]
        · rw [hget] at hc
          unfold cellO at hc
          rw [if_neg (by omega), if_neg (by omega)] at hc
          exact hc
      · obtain rfl : j = s.wds.length := by omega
        refine ⟨s.top.toNat, ?_, by omega, fun hc => ?_⟩
        · have : (s.wds ++ [4 * s.top + 1]).getD s.wds.length 0 = 4 * s.top + 1 := by simp [List.getD]
          rw [this]; omega
        · rw [hget] at hc
          unfold cellO at hc
          rw [if_pos rfl] at hc
          have hvc := hok.cnt
          have : 1 ≤ (fsF bs s).length := by
            rcases hc with hc | hc
            · omega
            · have e3 : nxV bs s.pos % 4 = 3 := by omega
              rw [e3] at hvc
              unfold vcB at hvc
              simp at hvc
              omega
          omega
    · show -100000 ≤ (s.wds ++ [4 * s.top + 1]).getD j 0 ∧ (s.wds ++ [4 * s.top + 1]).getD j 0 ≤ 100000
      by_cases e : j < s.wds.length
      · have : (s.wds ++ [4 * s.top + 1]).getD j 0 = s.wds.getD j 0 := by simp [List.getD, List.getElem?_append_left e]
        rw [this]; exact h.bw j
      · by_cases e2 : j = s.wds.length
        · have : (s.wds ++ [4 * s.top + 1]).getD j 0 = 4 * s.top + 1 := by rw [e2]; simp [List.getD]
          rw [this]; omega
        · have : (s.wds ++ [4 * s.top + 1]).getD j 0 = 0 := by
            have e3 : (s.wds ++ [4 * s.top + 1])[j]? = none := List.getElem?_eq_none (by simp; omega)
            unfold List.getD; rw [e3]; rfl
          rw [this]; omega
    · show -100000 ≤ (putO _ _ _ _).getD j 0 ∧ (putO _ _ _ _).getD j 0 ≤ 100000
      rw [hget]
      unfold cellO
      split
      · omega
      · split
        · exact fsF_rng hb h.bw _
        · exact h.bh j
  · exact ⟨h.len, h.lo, h.hi, h.wl, h.ptr, h.bw, h.bh⟩
theorem at_in {bs : List Int} {n : Nat} {s : Hs} (hb : ∀ i, 0 ≤ bs.getD i 0 ∧ bs.getD i 0 < 256) (h : Hj n s) (hw : 8 < s.wds.length) : (8 + (nxV bs s.pos % ((s.wds.length : Int) - 8)).toNat < s.wds.length) ∧ s.wds.getD (8 + (nxV bs s.pos % ((s.wds.length : Int) - 8)).toNat) 0 / 4 = (atF bs s : Int) ∧ 0 ≤ s.wds.getD (8 + (nxV bs s.pos % ((s.wds.length : Int) - 8)).toNat) 0 ∧ atF bs s < n ∧ (hitF bs s → atF bs s + 1 < n) := by
  have hv := nxV_rng hb s.pos
  have h1 : 0 ≤ nxV bs s.pos % ((s.wds.length : Int) - 8) := Int.emod_nonneg _ (by omega)
  have h2 : nxV bs s.pos % ((s.wds.length : Int) - 8) < (s.wds.length : Int) - 8 := Int.emod_lt_of_pos _ (by omega)
  have h3 : 8 + (nxV bs s.pos % ((s.wds.length : Int) - 8)).toNat < s.wds.length := by omega
  obtain ⟨p, e1, e2, e3⟩ := h.ptr _ (by omega) h3
  have e4 : atF bs s = p := by unfold atF; rw [e1]; omega
  have := h.hi
  refine ⟨h3, by rw [e4, e1]; omega, by rw [e1]; omega, by rw [e4]; omega, fun hh => ?_⟩
  unfold hitF at hh
  rw [e4] at hh ⊢
  exact e3 (hh.imp id tmod3)
theorem Hj.turn {bs : List Int} {n : Nat} {s s' : Hs} (h : Hj n s) (hs : turnR bs s s') : Hj n s' := by
  rcases hs with ⟨hw, _, rfl⟩ | ⟨_, _, rfl⟩ | ⟨_, rfl⟩
  · obtain ⟨q, e1, e2, _⟩ := h.ptr (s.wds.length - 1) (by omega) (by omega)
    have hget : ∀ j, (s.ws.set (atF bs s + 1) (s.wds.getD (s.wds.length - 1) 0)).getD j 0 = s.ws.getD j 0 ∨ (s.ws.set (atF bs s + 1) (s.wds.getD (s.wds.length - 1) 0)).getD j 0 = 4 * q + 1 := fun j => by
      by_cases e : atF bs s + 1 = j
      · subst e
        by_cases hl : atF bs s + 1 < s.ws.length
        · right; rw [← e1]; simp [List.getD, hl]
        · left; rw [List.set_eq_of_length_le (by omega)]
      · left; simp [List.getD, e]
    have ht := h.hi
    refine ⟨by show (s.ws.set _ _).length = n; rw [List.length_set]; exact h.len, h.lo, h.hi, h.wl, fun j h1 h2 => ?_, h.bw, fun j => ?_⟩
    · obtain ⟨p, f1, f2, f3⟩ := h.ptr j h1 h2
      refine ⟨p, f1, f2, fun hc => ?_⟩
      have hc' : (s.ws.set (atF bs s + 1) (s.wds.getD (s.wds.length - 1) 0)).getD p 0 = 8 ∨ (s.ws.set (atF bs s + 1) (s.wds.getD (s.wds.length - 1) 0)).getD p 0 % 4 = 3 := hc
      rcases hget p with hg | hg
      · rw [hg] at hc'; exact f3 hc'
      · rw [hg] at hc'; omega
    · show -100000 ≤ (s.ws.set _ _).getD j 0 ∧ (s.ws.set _ _).getD j 0 ≤ 100000
      rcases hget j with hg | hg
      · rw [hg]; exact h.bh j
      · rw [hg, ← e1]; exact h.bw _
  · exact ⟨h.len, h.lo, h.hi, h.wl, h.ptr, h.bw, h.bh⟩
  · exact h
end Go.Proofs.YtmmkpmgidoelpaaDoor.Hp
