import Derived.Test.YtbcanodijcglpaaDoorE1
namespace Go.Proofs.YtbcanodijcglpaaDoor
open Go.RowKit Ch1
theorem cells4_of_heap {w : World} {b : Nat} {v0 v1 v2 v3 : Value} {t : TypeId} (e : w.heap[b]? = some (.cells #[v0, v1, v2, v3] t)) : w.cell? ⟨b, 0, none⟩ = some v0 ∧ w.cell? ⟨b, 1, none⟩ = some v1 ∧ w.cell? ⟨b, 2, none⟩ = some v2 ∧ w.cell? ⟨b, 3, none⟩ = some v3 :=
  ⟨by simp [World.cell?, e], by simp [World.cell?, e], by simp [World.cell?, e], by simp [World.cell?, e]⟩
theorem PutP.trans {b B : Nat} {zs : List Int} {u v w : World} (h : Sv b B u v) (k : PutP b B zs v w) : PutP b B zs u w := by
  obtain ⟨v', h1, h2⟩ := k
  exact ⟨v', h1, h.trans h2⟩
theorem datZ0 (n count : Int) (text : List Int) : datZ ⟨0, n, text, count⟩ = [0 % 256] ++ leZ 8 n := by simp [datZ]
theorem datZ1 (n count : Int) (text : List Int) : datZ ⟨1, n, text, count⟩ = [1 % 256] ++ [n % 256] := by simp [datZ]
theorem datZ2 (n count : Int) (text : List Int) : datZ ⟨2, n, text, count⟩ = [2 % 256] ++ (((text.length : Int) % 256) :: text) := by simp [datZ]
theorem datZ3 (n count : Int) (text : List Int) : datZ ⟨3, n, text, count⟩ = [3 % 256] ++ leZ 2 count := by simp [datZ]
set_option maxRecDepth 20000 in
set_option maxHeartbeats 2000000 in
theorem datum_c (b : Nat) (d : Dt) (tp : Option Addr) (tn tc : Nat) (xs : List Int) (v : Value) (w0 w : World) (hW : Wt w b w0.heap.size v xs) (hY : By w0 tp tn tc d.text) (h0 : Below w0.heap.size w0 w) (hk : d.kind = 0 ∨ d.kind = 1 ∨ (d.kind = 2 ∧ 0 < d.text.length ∧ d.text.length ≤ 100) ∨ d.kind = 3) (h4 : 4 ≤ xs.length) (hlen : xs.length ≤ 300000000) :
    Calls Tryd.prog 41 #[.pointer (some ⟨b, 0, none⟩), .agg #[.int .i64 d.kind, .int .i64 d.n, .slice tp tn tc, .int .i64 d.count]] w fun e w' => e = .returned (.tuple #[]) ∧ PutP b w0.heap.size (xs ++ datZ d) w w' := by
  obtain ⟨B, hBB⟩ : ∃ B, B = w0.heap.size := ⟨_, rfl⟩
  have hB : B ≤ w.heap.size := by rw [hBB]; exact h0.size
  rw [← hBB] at hW
  have HW : Hid (Wt w b B v xs) := hW
  have HY : Hid (∀ w9, Below B w w9 → By w9 tp tn tc d.text) := fun w9 h9 => hY.below (h0.trans (by rw [← hBB]; exact h9))
  have htl : d.text.length = tn := hY.len
  rw [← hBB]
  clear hW hY h0 hBB
  obtain ⟨k, n, text, count⟩ := d
  simp only at hk htl HY ⊢
  obtain ⟨db, hdb⟩ : ∃ db, db = w.heap.size := ⟨_, rfl⟩
  obtain ⟨W, hW0⟩ : ∃ W, W = w.alloc (.cells #[.int .i64 k, .int .i64 n, .slice tp tn tc, .int .i64 count] 75) := ⟨_, rfl⟩
  have HS0 : Hid (Sv b B w W) := by unfold Hid; rw [hW0]; exact Sv.of_below (below1 _ _) hB
  have HWW : Hid (Wt W b B v xs) := by unfold Hid; rw [hW0]; exact HW.out.below (below1 _ _)
  have HDB : Hid (∀ w9, Sv b B W w9 → w9.heap[db]? = some (.cells #[.int .i64 k, .int .i64 n, .slice tp tn tc, .int .i64 count] 75)) := by
    intro w9 h9
    refine h9.kept db _ _ (by rw [hW0, hdb]; exact Go.Deep.blk_alloc_new _ _) (by decide) ?_
    have := HW.out.lt
    omega
  have hWs : W.heap.size = w.heap.size + 1 := by rw [hW0]; simp
  have HBS : Hid (∀ w9, Sv b B W w9 → B ≤ w9.heap.size) := fun w9 h9 => by have := h9.below.size; omega
  go_enter Tryd.func41, Tryd.ntmps41
  go_wp2_with fail
  rw [← hW0]
  clear hW0
  refine (put1_c b B 1 _ k xs v W (by omega) HWW.out (by omega) (by omega) (by omega)).mono ?_
  rintro e w1 ⟨rfl, v1, hw1, hs1⟩
  rw [← hdb]
  have HW1 : Hid (Wt w1 b B v1 (xs ++ [k % 256])) := hw1
  have HS1 : Hid (Sv b B W w1) := hs1
  obtain ⟨c0, c1, c2, c3⟩ := cells4_of_heap (HDB.out _ hs1)
  have hb1 := HBS.out _ hs1
  have hl1 : (xs ++ [k % 256]).length = xs.length + 1 := by simp
  clear hw1 hs1 HW HWW hdb
  rcases hk with rfl | rfl | ⟨rfl, ht0, ht1⟩ | rfl
  · go_wp2_with fail
    refine (put1_c b B 8 _ n (xs ++ [0 % 256]) v1 w1 rfl HW1.out (by omega) hb1 (by omega)).mono ?_
    rintro e w2 ⟨rfl, hp2⟩
    have HP : Hid (PutP b B (xs ++ datZ ⟨0, n, text, count⟩) w w2) := by
      unfold Hid; rw [datZ0, ← List.append_assoc]; exact PutP.trans (HS0.out.trans HS1.out) hp2
    clear hp2
    go_wp2
    go_end0
    exact ⟨rfl, HP.out⟩
  · go_wp2_with fail
    refine (put1_c b B 1 _ n (xs ++ [1 % 256]) v1 w1 rfl HW1.out (by omega) hb1 (by omega)).mono ?_
    rintro e w2 ⟨rfl, hp2⟩
    have HP : Hid (PutP b B (xs ++ datZ ⟨1, n, text, count⟩) w w2) := by
      unfold Hid; rw [datZ1, ← List.append_assoc]; exact PutP.trans (HS0.out.trans HS1.out) hp2
    clear hp2
    go_wp2
    go_end0
    exact ⟨rfl, HP.out⟩
  · go_wp2_with fail
    refine (put1_c b B 1 _ (tn : Int) (xs ++ [2 % 256]) v1 w1 rfl HW1.out (by omega) hb1 (by omega)).mono ?_
    rintro e w2 ⟨rfl, v2, hw2, hs2⟩
    have HS2 : Hid (Sv b B W w2) := HS1.out.trans hs2
    have hl2 : ((xs ++ [2 % 256]) ++ leZ 1 (tn : Int)).length = xs.length + 2 := by simp [leZ]
    have HO2 : Hid (Ow w2 B v2 ((xs ++ [2 % 256]) ++ leZ 1 (tn : Int))) := hw2.sw.own (by omega)
    have HW2 : Hid (Wt w2 b B v2 ((xs ++ [2 % 256]) ++ leZ 1 (tn : Int))) := hw2
    obtain ⟨d0, d1, d2, d3⟩ := cells4_of_heap (HDB.out _ HS2.out)
    have hb2 := HBS.out _ HS2.out
    have e0 := cell_of_blk1 hw2.blk
    have HYT : Hid (By w2 tp tn tc text) := HY.out _ (HS0.out.trans HS2.out).below
    obtain ⟨tb, tof, htp, _⟩ := HYT.out.cells (by omega)
    subst htp
    have HF : Hid (xs ++ datZ ⟨2, n, text, count⟩ = ((xs ++ [2 % 256]) ++ leZ 1 (tn : Int)) ++ text) := by unfold Hid; rw [datZ2, htl]; simp [leZ]
    clear hw2 hs2 c0 c1 c2 c3 d0 d1 d3
    generalize (xs ++ [2 % 256]) ++ leZ 1 (tn : Int) = acc at hl2 HO2 HW2 HF
    go_wp2_with fail
    go_region_law (refine appR_law _ rfl (.tmp 37) (.tmp 39) rfl B v2 acc text (by simp [Act.eval]) (by exact HO2.out) tb tof tn tc (by simp [Act.eval]) (by exact HYT.out.below (below_drewM (Below.refl _ _))) (by omega) (by omega) (by exact hb2) ?_; intro v3 w3 ho3 hb3 hbt3; obtain ⟨p3, n3, q3, rfl⟩ := ho3.form; obtain ⟨hw4, hs4, f1, f2⟩ := HW2.out.put ho3 (w' := w3) ⟨hb3.os, hb3.tape, hb3.output, hb3.size, hb3.block⟩ hbt3; have HW4 : Hid (Wt (w3.setCell ⟨b, 0, none⟩ (.slice p3 n3 q3)) b B (.slice p3 n3 q3) (acc ++ text)) := hw4; have HS4 : Hid (Sv b B w2 (w3.setCell ⟨b, 0, none⟩ (.slice p3 n3 q3))) := hs4; clear ho3 hb3 hbt3 hw4 hs4)
    all_goals go_wp2
    all_goals go_end0
    all_goals exact ⟨rfl, _, by rw [HF.out]; exact HW4.out, (HS0.out.trans HS2.out).trans HS4.out⟩
  · go_wp2_with fail
    refine (put1_c b B 2 _ count (xs ++ [3 % 256]) v1 w1 rfl HW1.out (by omega) hb1 (by omega)).mono ?_
    rintro e w2 ⟨rfl, hp2⟩
    have HP : Hid (PutP b B (xs ++ datZ ⟨3, n, text, count⟩) w w2) := by
      unfold Hid; rw [datZ3, ← List.append_assoc]; exact PutP.trans (HS0.out.trans HS1.out) hp2
    clear hp2
    go_wp2
    go_end0
    exact ⟨rfl, HP.out⟩
end Go.Proofs.YtbcanodijcglpaaDoor
namespace Go.Proofs.YtbcanodijcglpaaDoor
open Go.RowKit Ch1
/-- From l to r only good data were skipped. -/
def Gone (l r : List Dt) : Prop := ∃ n, r = l.drop n ∧ ∀ i, i < n → i < l.length → goodB (l.getD i dt0) = true
theorem Gone.refl (l : List Dt) : Gone l l := ⟨0, rfl, fun i hi => absurd hi (Nat.not_lt_zero i)⟩
theorem Gone.trans {a b c : List Dt} (h : Gone a b) (k : Gone b c) : Gone a c := by
  obtain ⟨n, rfl, hn⟩ := h
  obtain ⟨m, rfl, hm⟩ := k
  refine ⟨n + m, by rw [List.drop_drop], fun i hi hl => ?_⟩
  by_cases e : i < n
  · exact hn i e hl
  · have h1 := hm (i - n) (by omega) (by rw [List.length_drop]; omega)
    have e2 : (a.drop n).getD (i - n) dt0 = a.getD i dt0 := by simp [List.getD, List.getElem?_drop, show n + (i - n) = i by omega]
    rw [e2] at h1
    exact h1
theorem skipN_gone {f : List Dt → Option (List Dt)} (hf : ∀ l r, f l = some r → Gone l r) : ∀ (k : Nat) (l r : List Dt), skipN f k l = some r → Gone l r
  | 0, l, r, h => by simp [skipN] at h; subst h; exact Gone.refl _
  | k + 1, l, r, h => by
    rw [skipN] at h
    cases e : f l with
    | none => rw [e] at h; cases h
    | some r' => rw [e] at h; exact (hf l r' e).trans (skipN_gone hf k r' r h)
theorem skip_gone : ∀ (k : Nat) (l r : List Dt), skip k l = some r → Gone l r := by
  intro k
  induction k using Nat.strongRecOn with
  | ind k ih =>
    intro l r h
    obtain ⟨d, q, rfl, hg, ⟨_, rfl⟩ | ⟨k', rfl, _, hs⟩⟩ := skip_some h
    · exact ⟨1, rfl, fun i hi _ => by obtain rfl : i = 0 := (by omega); exact hg⟩
    · refine Gone.trans ⟨1, rfl, fun i hi _ => by obtain rfl : i = 0 := (by omega); exact hg⟩ (skipN_gone (ih k' (by omega)) _ q r hs)
theorem one_good {ds : List Dt} (h : skip 100 ds = some []) (i : Nat) (hi : i < ds.length) : goodB (ds.getD i dt0) = true := by
  obtain ⟨n, e, hn⟩ := skip_gone 100 ds [] h
  have : ds.length ≤ n := by
    have h2 := congrArg List.length e
    rw [List.length_drop, List.length_nil] at h2
    omega
  exact hn i (by omega) hi
theorem good_hk {d : Dt} (h : goodB d = true) : d.kind = 0 ∨ d.kind = 1 ∨ (d.kind = 2 ∧ 0 < d.text.length ∧ d.text.length ≤ 100) ∨ d.kind = 3 := by
  rcases good_kinds h with e | e | e | e
  · exact Or.inl e
  · exact Or.inr (Or.inl e)
  · have := good_text h e
    exact Or.inr (Or.inr (Or.inl ⟨e, by omega, by omega⟩))
  · exact Or.inr (Or.inr (Or.inr e))
theorem datZ_good {d : Dt} (h : goodB d = true) : (datZ d).length ≤ 109 := by
  unfold datZ
  rw [List.length_cons]
  split
  · rw [leZ_len]; omega
  · split
    · simp
    · split
      · have := good_text h (by assumption); simp; omega
      · rw [leZ_len]; omega
theorem dsZ_len {ds : List Dt} {n : Nat} (hg : ∀ i, i < n → goodB (ds.getD i dt0) = true) : ∀ k, k ≤ n → (dsZ ds k).length ≤ 109 * k
  | 0, _ => by simp [dsZ]
  | k + 1, hk => by
    have := dsZ_len hg k (by omega)
    have := datZ_good (hg k (by omega))
    rw [dsZ_succ, List.length_append]; omega
/-- At the head of the loop over a constant's data. -/
def CoI (b B n : Nat) (ds : List Dt) (xs : List Int) (w : World) (iv : Value) (wr : World) : Prop := ∃ k : Nat, k ≤ n ∧ iv = .int .i64 k ∧ Hid (PutP b B (xs ++ dsZ ds k) w wr)
set_option maxRecDepth 20000 in
set_option maxHeartbeats 2000000 in
theorem constant_c (b : Nat) (q : Option Addr) (n c : Nat) (ds : List Dt) (xs : List Int) (v : Value) (w0 w : World) (hW : Wt w b w0.heap.size v xs) (hD : Da w0 q n c ds) (h0 : Below w0.heap.size w0 w) (hg : ∀ i, i < n → goodB (ds.getD i dt0) = true) (hn : n ≤ 3000) (h4 : 4 ≤ xs.length) (hlen : xs.length ≤ 200000000) :
    Calls Tryd.prog 21 #[.pointer (some ⟨b, 0, none⟩), .slice q n c] w fun e w' => e = .returned (.tuple #[]) ∧ PutP b w0.heap.size (xs ++ cstZ ds) w w' := by
  have HW : Hid (Wt w b w0.heap.size v xs) := hW
  have HD : Hid (Da w0 q n c ds) := hD
  have H0 : Hid (Below w0.heap.size w0 w) := h0
  have HG : Hid (∀ i, i < n → goodB (ds.getD i dt0) = true) := hg
  have HLN : Hid (ds.length = n) := hD.len
  clear hW hD h0 hg
  go_enter Tryd.func21, Tryd.ntmps21
  go_wp2_with fail
  refine (put1_c b w0.heap.size 2 _ (n : Int) xs v w rfl HW.out (by omega) H0.out.size (by omega)).mono ?_
  rintro e w1 ⟨rfl, hp1⟩
  have HF : Hid (xs ++ cstZ ds = (xs ++ leZ 2 (n : Int)) ++ dsZ ds n) := by unfold Hid cstZ; rw [HLN.out, List.append_assoc]
  have hl : (xs ++ leZ 2 (n : Int)).length ≤ 200000002 := by rw [List.length_append, leZ_len]; omega
  have hl4 : 4 ≤ (xs ++ leZ 2 (n : Int)).length := by rw [List.length_append]; omega
  have HP1 : Hid (PutP b w0.heap.size (xs ++ leZ 2 (n : Int)) w w1) := hp1
  clear hp1 HW
  generalize xs ++ leZ 2 (n : Int) = acc at HF hl hl4 HP1
  go_wp2
  go_loopw [13] (fun iv wr => CoI b w0.heap.size n ds acc w iv wr) (fun iv _ => n - (intOf iv).toNat)
  case atStart => exact ⟨0, Nat.zero_le _, rfl, by unfold Hid; show PutP b _ (acc ++ []) w w1; rw [List.append_nil]; exact HP1.out⟩
  case round =>
    clear HP1
    obtain ⟨k, hk, rfl, hP⟩ := hrel
    by_cases hlt : k < n
    · obtain ⟨v2, hw2, hs2⟩ := hP.out
      have HS2 : Hid (Sv b w0.heap.size w wr) := hs2
      have HW2 : Hid (Wt wr b w0.heap.size v2 (acc ++ dsZ ds k)) := hw2
      have HB2 : Hid (Below w0.heap.size w0 wr) := H0.out.trans hs2.below
      obtain ⟨bb, o, rfl, hbl, gg⟩ := HD.out.cells (by omega)
      obtain ⟨tp, tn, tc, he⟩ := gg k hlt
      have HY : Hid (By w0 tp tn tc (ds.getD k dt0).text) := he.by_
      have he' := he.below hbl HB2.out
      have e0 := he'.c0
      have e1 := he'.c1
      have e2 := he'.c2
      have e3 := he'.c3
      have HGK : Hid (goodB (ds.getD k dt0) = true) := HG.out k hlt
      have HX : Hid (acc ++ dsZ ds (k + 1) = (acc ++ dsZ ds k) ++ datZ (ds.getD k dt0)) := by unfold Hid; rw [dsZ_succ, List.append_assoc]
      have ha1 : (acc ++ dsZ ds k).length ≤ 300000000 := by have := dsZ_len HG.out k hk; rw [List.length_append]; omega
      have ha4 : 4 ≤ (acc ++ dsZ ds k).length := by rw [List.length_append]; omega
      clear he he' gg hw2 hs2 hP
      generalize acc ++ dsZ ds k = ac2 at HW2 HX ha1 ha4
      generalize ds.getD k dt0 = d at HY e0 e1 e2 e3 HGK HX
      go_wp2_with fail
      refine (datum_c b d tp tn tc ac2 v2 w0 _ (HW2.out.below (below1 _ _)) HY.out (HB2.out.trans ((below1 _ _).mono HB2.out.size)) (good_hk HGK.out) ha4 ha1).mono ?_
      rintro e w3 ⟨rfl, hp3⟩
      have HP3 : Hid (PutP b w0.heap.size (acc ++ dsZ ds (k + 1)) w w3) := by
        unfold Hid
        rw [HX.out]
        exact PutP.trans (HS2.out.trans (Sv.of_below (below1 _ _) HB2.out.size)) hp3
      clear hp3 e0 e1 e2 e3
      go_wp2
      exact ⟨⟨k + 1, by omega, by go_num, HP3⟩, by simp [intOf]; omega⟩
    · obtain rfl : k = n := by omega
      go_wp2
      go_end0
      exact ⟨rfl, by rw [HF.out]; exact hP.out⟩
end Go.Proofs.YtbcanodijcglpaaDoor
namespace Go.Proofs.YtbcanodijcglpaaDoor
open Go.RowKit Ch1
theorem Wt.of_sv {w w' : World} {b B : Nat} {xs : List Int} (h : PutP b B xs w w') : ∃ v, Wt w' b B v xs := ⟨_, h.choose_spec.1⟩
/-- At the head of the loop over a function's free variables, and over its code. -/
def FuI (b B n : Nat) (bs : List Bool) (xs : List Int) (w : World) (iv : Value) (wr : World) : Prop := ∃ k : Nat, k ≤ n ∧ iv = .int .i64 k ∧ Hid (PutP b B (xs ++ frZ bs k) w wr)
def FuJ (b B n : Nat) (is : List In) (xs : List Int) (w : World) (iv : Value) (wr : World) : Prop := ∃ k : Nat, k ≤ n ∧ iv = .int .i64 k ∧ Hid (PutP b B (xs ++ cdZ is k) w wr)
set_option maxRecDepth 20000 in
set_option maxHeartbeats 4000000 in
theorem function_c (b : Nat) (f : Fn) (rp : Option Addr) (rl rc : Nat) (dp : Option Addr) (dl dc : Nat) (xs : List Int) (v : Value) (w0 w : World) (hW : Wt w b w0.heap.size v xs) (hF : Bo w0 rp rl rc f.free) (hC : Ii w0 dp dl dc f.code) (h0 : Below w0.heap.size w0 w) (hrl : rl ≤ 50) (hdl : dl ≤ 5000) (hlen : xs.length ≤ 200000000) :
    Calls Tryd.prog 22 #[.pointer (some ⟨b, 0, none⟩), .agg #[.int .i64 f.params, .slice rp rl rc, .slice dp dl dc]] w fun e w' => e = .returned (.tuple #[]) ∧ PutP b w0.heap.size (xs ++ fcZ f) w w' := by
  obtain ⟨B, hBB⟩ : ∃ B, B = w0.heap.size := ⟨_, rfl⟩
  have H0 : Hid (∀ w9, Sv b B w w9 → Below w0.heap.size w0 w9) := fun w9 h9 => h0.trans (by rw [← hBB]; exact h9.below)
  have hB : B ≤ w.heap.size := by rw [hBB]; exact h0.size
  have HBS : Hid (∀ w9, Sv b B w w9 → B ≤ w9.heap.size) := fun w9 h9 => by have := h9.below.size; omega
  have HFR : Hid (Bo w0 rp rl rc f.free) := hF
  have HCO : Hid (Ii w0 dp dl dc f.code) := hC
  have HFL : Hid (f.free.length = rl) := hF.len
  have HCL : Hid (f.code.length = dl) := hC.len
  rw [← hBB] at hW ⊢
  have HW : Hid (Wt w b B v xs) := hW
  clear hW hF hC h0 hBB
  obtain ⟨db, hdb⟩ : ∃ db, db = w.heap.size := ⟨_, rfl⟩
  obtain ⟨W, hW0⟩ : ∃ W, W = w.alloc (.cells #[.int .i64 f.params, .slice rp rl rc, .slice dp dl dc] 52) := ⟨_, rfl⟩
  have HS0 : Hid (Sv b B w W) := by unfold Hid; rw [hW0]; exact Sv.of_below (below1 _ _) hB
  have HWW : Hid (Wt W b B v xs) := by unfold Hid; rw [hW0]; exact HW.out.below (below1 _ _)
  have HDB : Hid (∀ w9, Sv b B W w9 → B3 w9 db (.int .i64 f.params) (.slice rp rl rc) (.slice dp dl dc)) := by
    intro w9 h9
    refine B3.of_heap (t := 52) (h9.kept db _ _ (by rw [hW0, hdb]; exact Go.Deep.blk_alloc_new _ _) (by decide) ?_)
    have := HW.out.lt
    omega
  have hWs : W.heap.size = w.heap.size + 1 := by rw [hW0]; simp
  go_enter Tryd.func22, Tryd.ntmps22
  go_wp2_with fail
  rw [← hW0]
  clear hW0
  refine (put2_c b B 1 _ f.params (rl : Int) xs v W (by omega) HWW.out (by omega) (by omega) (by omega)).mono ?_
  rintro e w1 ⟨rfl, hp1⟩
  rw [← hdb]
  have HF : Hid (xs ++ fcZ f = (((xs ++ (leZ 1 f.params ++ leZ 1 (rl : Int))) ++ frZ f.free rl) ++ leZ 2 (dl : Int)) ++ cdZ f.code dl) := by
    unfold Hid fcZ; rw [HFL.out, HCL.out]; simp [leZ]
  have hl : (xs ++ (leZ 1 f.params ++ leZ 1 (rl : Int))).length ≤ 200000002 := by simp [leZ_len]; omega
  have hl4 : 2 ≤ (xs ++ (leZ 1 f.params ++ leZ 1 (rl : Int))).length := by simp [leZ_len]
  have HP1 : Hid (PutP b B (xs ++ (leZ 1 f.params ++ leZ 1 (rl : Int))) W w1) := hp1
  have c1 := (HDB.out _ hp1.choose_spec.2).c1
  clear hp1 HW HWW hdb
  generalize xs ++ (leZ 1 f.params ++ leZ 1 (rl : Int)) = acc at HF hl hl4 HP1
  go_wp2
  go_loopw [19] (fun iv wr => FuI b B rl f.free acc W iv wr) (fun iv _ => rl - (intOf iv).toNat)
  case atStart => exact ⟨0, Nat.zero_le _, rfl, by unfold Hid; show PutP b _ (acc ++ []) W w1; rw [List.append_nil]; exact HP1.out⟩
  case round =>
    clear HP1 c1
    obtain ⟨k, hk, rfl, hP⟩ := hrel
    obtain ⟨v2, hw2, hs2⟩ := hP.out
    have HS2 : Hid (Sv b B W wr) := hs2
    have HW2 : Hid (Wt wr b B v2 (acc ++ frZ f.free k)) := hw2
    have hb2 := HBS.out _ (HS0.out.trans hs2)
    have HB2 : Hid (Below w0.heap.size w0 wr) := H0.out _ (HS0.out.trans hs2)
    have ha : (acc ++ frZ f.free k).length ≤ 200000100 := by rw [List.length_append, frZ_len]; omega
    clear hw2 hs2 hP
    by_cases hlt : k < rl
    · obtain ⟨bb, o, rfl, hbl, gg⟩ := (HFR.out.below HB2.out).cells (by omega)
      have e0 := gg k hlt
      have HX : Hid (acc ++ frZ f.free (k + 1) = (acc ++ frZ f.free k) ++ [boxZ (f.free.getD k false)]) := by unfold Hid; rw [frZ_succ, List.append_assoc]
      clear gg
      generalize acc ++ frZ f.free k = ac2 at HW2 HX ha
      generalize f.free.getD k false = bv at e0 HX
      go_wp2_with fail
      refine (truth_c b B bv ac2 v2 wr HW2.out hb2 (by omega)).mono ?_
      rintro e w3 ⟨rfl, hp3⟩
      have HP3 : Hid (PutP b B (acc ++ frZ f.free (k + 1)) W w3) := by unfold Hid; rw [HX.out]; exact PutP.trans HS2.out hp3
      clear hp3 e0
      go_wp2
      exact ⟨⟨k + 1, by omega, by go_num, HP3⟩, by simp [intOf]; omega⟩
    · obtain rfl : k = rl := by omega
      have c2 := (HDB.out _ HS2.out).c2
      have HX2 : Hid (xs ++ fcZ f = ((acc ++ frZ f.free k) ++ leZ 2 (dl : Int)) ++ cdZ f.code dl) := HF.out
      clear HF
      generalize acc ++ frZ f.free k = ac2 at HW2 HX2 ha
      go_wp2_with fail
      refine (put1_c b B 2 _ (dl : Int) ac2 v2 wr rfl HW2.out (by omega) hb2 (by omega)).mono ?_
      rintro e w3 ⟨rfl, hp3⟩
      have HP3 : Hid (PutP b B (ac2 ++ leZ 2 (dl : Int)) W w3) := PutP.trans HS2.out hp3
      have d2 := (HDB.out _ HP3.out.choose_spec.2).c2
      have ha3 : (ac2 ++ leZ 2 (dl : Int)).length ≤ 200000102 := by rw [List.length_append, leZ_len]; omega
      clear hp3 c2 HW2 HS2 hb2 HB2
      generalize ac2 ++ leZ 2 (dl : Int) = ac3 at HX2 HP3 ha3
      go_wp2
      go_loopw [36] (fun iv wr => FuJ b B dl f.code ac3 W iv wr) (fun iv _ => dl - (intOf iv).toNat)
      case atStart => exact ⟨0, Nat.zero_le _, rfl, by unfold Hid; show PutP b _ (ac3 ++ []) W w3; rw [List.append_nil]; exact HP3.out⟩
      case round =>
        clear HP3 d2
        obtain ⟨j, hj, rfl, hP⟩ := hrel
        obtain ⟨v4, hw4, hs4⟩ := hP.out
        have HS4 : Hid (Sv b B W wr) := hs4
        have HW4 : Hid (Wt wr b B v4 (ac3 ++ cdZ f.code j)) := hw4
        have hb4 := HBS.out _ (HS0.out.trans hs4)
        have HB4 : Hid (Below w0.heap.size w0 wr) := H0.out _ (HS0.out.trans hs4)
        have ha4 : (ac3 ++ cdZ f.code j).length ≤ 200020102 := by rw [List.length_append, cdZ_len]; omega
        clear hw4 hs4 hP
        by_cases hlt2 : j < dl
        · obtain ⟨bb, o, rfl, hbl, gg⟩ := (HCO.out.below HB4.out).cells (by omega)
          obtain ⟨e0, e1, e2⟩ := gg j hlt2
          have HX : Hid (ac3 ++ cdZ f.code (j + 1) = (((ac3 ++ cdZ f.code j) ++ leZ 1 (f.code.getD j in0).op) ++ leZ 2 (f.code.getD j in0).a) ++ leZ 1 (f.code.getD j in0).b) := by unfold Hid; rw [cdZ_succ]; simp [isZ, leZ]
          clear gg
          generalize ac3 ++ cdZ f.code j = ac4 at HW4 HX ha4
          generalize (f.code.getD j in0).op = x0 at e0 HX
          generalize (f.code.getD j in0).a = x1 at e1 HX
          generalize (f.code.getD j in0).b = x2 at e2 HX
          obtain ⟨xb, hxb⟩ : ∃ xb, xb = wr.heap.size := ⟨_, rfl⟩
          obtain ⟨W4, hW4⟩ : ∃ W4, W4 = wr.alloc (.cells #[.int .i64 x0, .int .i64 x1, .int .i64 x2] 71) := ⟨_, rfl⟩
          have HS5 : Hid (Sv b B wr W4) := by unfold Hid; rw [hW4]; exact Sv.of_below (below1 _ _) hb4
          have HW5 : Hid (Wt W4 b B v4 ac4) := by unfold Hid; rw [hW4]; exact HW4.out.below (below1 _ _)
          have HIB : Hid (∀ w9, Sv b B W4 w9 → B3 w9 xb (.int .i64 x0) (.int .i64 x1) (.int .i64 x2)) := by
            intro w9 h9
            refine B3.of_heap (t := 71) (h9.kept xb _ _ (by rw [hW4, hxb]; exact Go.Deep.blk_alloc_new _ _) (by decide) ?_)
            have := HW4.out.lt
            omega
          have hWs4 : W4.heap.size = wr.heap.size + 1 := by rw [hW4]; simp
          have HB5 : Hid (∀ w9, Sv b B W4 w9 → B ≤ w9.heap.size) := fun w9 h9 => by have := h9.below.size; omega
          go_wp2_with fail
          rw [← hW4]
          clear hW4
          refine (put1_c b B 1 _ x0 ac4 v4 W4 (by omega) HW5.out (by omega) (by omega) (by omega)).mono ?_
          rintro e w5 ⟨rfl, v5, hw5, hs5⟩
          rw [← hxb]
          clear hxb
          have HW6 : Hid (Wt w5 b B v5 (ac4 ++ leZ 1 x0)) := hw5
          have HS6 : Hid (Sv b B W4 w5) := hs5
          have g1 := (HIB.out _ hs5).c1
          have hb5 := HB5.out _ hs5
          have hl5 : (ac4 ++ leZ 1 x0).length ≤ 200020103 := by rw [List.length_append, leZ_len]; omega
          clear hw5 hs5 e0 e1 e2 HW4 HW5
          go_wp2_with fail
          refine (put1_c b B 2 _ x1 (ac4 ++ leZ 1 x0) v5 w5 rfl HW6.out (by omega) hb5 (by omega)).mono ?_
          rintro e w6 ⟨rfl, v6, hw6, hs6⟩
          have HW7 : Hid (Wt w6 b B v6 ((ac4 ++ leZ 1 x0) ++ leZ 2 x1)) := hw6
          have HS7 : Hid (Sv b B W4 w6) := HS6.out.trans hs6
          have g2 := (HIB.out _ HS7.out).c2
          have hb6 := HB5.out _ HS7.out
          have hl6 : ((ac4 ++ leZ 1 x0) ++ leZ 2 x1).length ≤ 200020105 := by rw [List.length_append, leZ_len]; omega
          clear hw6 hs6 g1 HW6
          go_wp2_with fail
          refine (put1_c b B 1 _ x2 ((ac4 ++ leZ 1 x0) ++ leZ 2 x1) v6 w6 rfl HW7.out (by omega) hb6 (by omega)).mono ?_
          rintro e w7 ⟨rfl, hp7⟩
          have HP7 : Hid (PutP b B (ac3 ++ cdZ f.code (j + 1)) W w7) := by unfold Hid; rw [HX.out]; exact PutP.trans ((HS4.out.trans HS5.out).trans HS7.out) hp7
          clear hp7 g2
          go_wp2
          exact ⟨⟨j + 1, by omega, by go_num, HP7⟩, by simp [intOf]; omega⟩
        · obtain rfl : j = dl := by omega
          go_wp2
          go_end0
          exact ⟨rfl, v4, by rw [HX2.out]; exact HW4.out, HS0.out.trans HS4.out⟩
end Go.Proofs.YtbcanodijcglpaaDoor
