import Derived.Test.YtmmkpmgidoelpaaT7
namespace Go.Proofs.Ytmmkpmgidoelpaa
open Go.RowKit Ch2
/-- The fields that are drawn for a kind. -/
def fA (kd : Nat) (f : List Int) : List Int := if kd = 0 then (f ++ [4, 8]).take 2 else f
def fB (kd : Nat) (f : List Int) : List Int := if kd = 3 then (fA kd f ++ [4]).take 1 else fA kd f
def fC (kd : Nat) (f : List Int) : List Int := if kd = 2 then [8] ++ fB kd f else fB kd f
def dK (k : Nat) : Int := if k = 239 then 4 else if k = 238 then 1 else ((k % 4 : Nat) : Int)
def dF (bs : List Int) (k : Nat) (s : Hs) : List Int := if k = 238 then List.replicate (1000 + nxV bs (rootsF bs s.wds s.pos).2 % 2).toNat 0 else if 240 < k then fC (k % 4) (rootsF bs s.wds s.pos).1 ++ [nxV bs (rootsF bs s.wds s.pos).2] else fC (k % 4) (rootsF bs s.wds s.pos).1
def dW (bs : List Int) (k : Nat) (s : Hs) : List Int := if k = 237 then spW bs s.ws (rootsF bs s.wds s.pos).2 else s.ws
def dT (bs : List Int) (k : Nat) (s : Hs) : Int := if k = 237 then spT bs s.top (rootsF bs s.wds s.pos).2 else s.top
/-- What DrawAlloc draws. -/
def DrawR (bs ws : List Int) (top kind : Int) (fs : List Int) : Prop := ∃ s, HeapR bs (nxI bs 0) s ∧ ws = dW bs (nxV bs 0).toNat s ∧ top = dT bs (nxV bs 0).toNat s ∧ kind = dK (nxV bs 0).toNat ∧ fs = dF bs (nxV bs 0).toNat s
theorem DrawR.one {bs ws ws' fs fs' : List Int} {top top' kind kind' : Int} (h : DrawR bs ws top kind fs) (h' : DrawR bs ws' top' kind' fs') : ws = ws' ∧ top = top' ∧ kind = kind' ∧ fs = fs' := by
  obtain ⟨s, h1, rfl, rfl, rfl, rfl⟩ := h
  obtain ⟨s', h2, rfl, rfl, rfl, rfl⟩ := h'
  obtain rfl := h1.one h2
  exact ⟨rfl, rfl, rfl, rfl⟩
theorem fC_len (kd : Nat) (f : List Int) (hf : f.length ≤ 5) : (fC kd f).length ≤ 6 := by
  unfold fC fB fA
  by_cases h0 : kd = 0
  · subst h0; simp; try omega
  · by_cases h3 : kd = 3
    · subst h3; simp; try omega
    · by_cases h2 : kd = 2
      · subst h2; simp; try omega
      · simp [h0, h3, h2]; try omega
theorem mem_rng_take {f : List Int} {n : Nat} (h : ∀ x, x ∈ f → -100000 ≤ x ∧ x ≤ 100000) : ∀ x, x ∈ f.take n → -100000 ≤ x ∧ x ≤ 100000 := fun x hx => h x (List.mem_of_mem_take hx)
theorem mem_rng_app {f g : List Int} (h : ∀ x, x ∈ f → -100000 ≤ x ∧ x ≤ 100000) (h' : ∀ x, x ∈ g → -100000 ≤ x ∧ x ≤ 100000) : ∀ x, x ∈ f ++ g → -100000 ≤ x ∧ x ≤ 100000 := fun x hx => by
  rcases List.mem_append.1 hx with hx | hx
  · exact h x hx
  · exact h' x hx
theorem fA_rng {kd : Nat} {f : List Int} (h : ∀ x, x ∈ f → -100000 ≤ x ∧ x ≤ 100000) : ∀ x, x ∈ fA kd f → -100000 ≤ x ∧ x ≤ 100000 := by
  unfold fA; split
  · exact mem_rng_take (mem_rng_app h (by simp))
  · exact h
theorem fB_rng {kd : Nat} {f : List Int} (h : ∀ x, x ∈ f → -100000 ≤ x ∧ x ≤ 100000) : ∀ x, x ∈ fB kd f → -100000 ≤ x ∧ x ≤ 100000 := by
  unfold fB; split
  · exact mem_rng_take (mem_rng_app (fA_rng h) (by simp))
  · exact fA_rng h
theorem fC_rng {kd : Nat} {f : List Int} (h : ∀ x, x ∈ f → -100000 ≤ x ∧ x ≤ 100000) : ∀ x, x ∈ fC kd f → -100000 ≤ x ∧ x ≤ 100000 := by
  unfold fC; split
  · exact mem_rng_app (by simp) (fB_rng h)
  · exact fB_rng h
theorem i64_of {xs : List Int} (h : ∀ x, x ∈ xs → -100000 ≤ x ∧ x ≤ 100000) (i : Nat) : -9223372036854775808 ≤ xs.getD i 0 ∧ xs.getD i 0 ≤ 9223372036854775807 := by
  have := getD_rng h i; omega
/-- A row's first cells. -/
theorem Fr.take {w : World} {g n cap m : Nat} {xs : List Int} (h : Fr w g n cap xs) (hm : m ≤ n) : Fr w g m cap (xs.take m) := by
  obtain ⟨f, hf, h1⟩ := h.row
  have hl := h.len
  refine ⟨⟨f, hf, fun j hj => ?_⟩, Nat.le_trans hm h.le, h.big, by simp; omega⟩
  rw [h1 j (by omega), take_getD, if_pos hj]
theorem below_grown {w W w' : World} {B : Nat} {v : Value} {xs : List Int} (hf : Fz w B v xs) (hb : Below w.heap.size w W) (hgr : W.grownBy w' v.ownBlock) (hB : B ≤ w.heap.size) : Below B w w' :=
  ⟨hgr.os.trans hb.os, hgr.tape.trans hb.tape, hgr.output.trans hb.output, Nat.le_trans hb.size hgr.size, fun k hk => (hgr.block k (by have := hb.size; omega) (fun e => by have := (hf.lt k e.symm).1; omega)).trans (hb.block k (by omega))⟩
theorem below_new {w W w' : World} {B g : Nat} (hb : Below w.heap.size w W) (hgr : W.grownBy w' (some g)) (hB : B ≤ w.heap.size) (hg : w.heap.size ≤ g) : Below B w w' :=
  ⟨hgr.os.trans hb.os, hgr.tape.trans hb.tape, hgr.output.trans hb.output, Nat.le_trans hb.size hgr.size, fun k hk => (hgr.block k (by have := hb.size; omega) (fun e => by have := Option.some.inj e; omega)).trans (hb.block k (by omega))⟩
/-- A row that was just made. -/
theorem two_row (w : World) (a b : Int) (ha : -100000 ≤ a ∧ a ≤ 100000) (hb : -100000 ≤ b ∧ b ≤ 100000) : Is (w.alloc (.cells #[.int .i64 a, .int .i64 b] 3)) (some ⟨w.heap.size, 0, none⟩) ([a, b] : List Int).length 2 [a, b] := by
  have hbk : (w.alloc (.cells #[.int .i64 a, .int .i64 b] 3)).heap[w.heap.size]? = some (.cells #[.int .i64 a, .int .i64 b] 3) := new_blk _ _ rfl
  obtain ⟨c0, c1, _, _⟩ := two_cells hbk
  refine ⟨rfl, by simp, by unfold maxLen; omega, fun i => ?_, fun _ => ⟨_, 0, rfl, by simp, fun i hi => ?_⟩⟩
  · match i with
    | 0 => show _ ≤ a ∧ a ≤ _; omega
    | 1 => show _ ≤ b ∧ b ≤ _; omega
    | i + 2 => simp [List.getD]
  · match i, hi with
    | 0, _ => exact c0
    | 1, _ => exact c1
/-- What is left of a drawn heap. -/
def DrP (bs : List Int) (w w' : World) (e : Ending) : Prop := ∃ (p : Option Addr) (n c : Nat) (ws : List Int) (top kind : Int) (fq : Option Addr) (m fc : Nat) (fs : List Int), e = .returned (.tuple #[.agg #[.slice p n c, .int .i64 top], .int .i64 kind, .slice fq m fc]) ∧ DrawR bs ws top kind fs ∧ Is w' p n c ws ∧ Is w' fq m fc fs ∧ n ≤ 20001 ∧ -1 ≤ top ∧ top ≤ 266 ∧ 0 ≤ kind ∧ kind ≤ 4 ∧ m ≤ 1001 ∧ Below w.heap.size w w'
theorem spW_rng {bs ws : List Int} (hb : ∀ i, 0 ≤ bs.getD i 0 ∧ bs.getD i 0 < 256) (h : ∀ j, -100000 ≤ ws.getD j 0 ∧ ws.getD j 0 ≤ 100000) (i j : Nat) : -100000 ≤ (spW bs ws i).getD j 0 ∧ (spW bs ws i).getD j 0 ≤ 100000 := by
  have hs : ∀ (a : Nat) (x : Int), -1000 ≤ x → x ≤ 1000 → -100000 ≤ (ws.set a x).getD j 0 ∧ (ws.set a x).getD j 0 ≤ 100000 := fun a x h1 h2 => by
    by_cases e : a = j
    · subst e
      by_cases hl : a < ws.length
      · have e2 : (ws.set a x).getD a 0 = x := by simp [List.getD, hl]
        rw [e2]; omega
      · rw [List.set_eq_of_length_le (by omega)]; exact h a
    · have e2 : (ws.set a x).getD j 0 = ws.getD j 0 := by simp [List.getD, e]
      rw [e2]; exact h j
  have hv := nxV_rng hb (nxI bs (nxI bs i))
  unfold spW
  split
  · exact hs _ _ (by omega) (by omega)
  · split
    · exact hs _ _ (by omega) (by omega)
    · split
      · by_cases hl : j < ws.length
        · have e2 : (ws ++ List.replicate (20000 + nxV bs (nxI bs i) % 2 - (ws.length : Int)).toNat (0 : Int)).getD j 0 = ws.getD j 0 := by simp [List.getD, List.getElem?_append_left hl]
          rw [e2]; exact h j
        · have e : (ws ++ List.replicate (20000 + nxV bs (nxI bs i) % 2 - (ws.length : Int)).toNat (0 : Int)).getD j 0 = 0 := by
            unfold List.getD
            rw [List.getElem?_append_right (by omega), List.getElem?_replicate]
            split <;> rfl
          rw [e]; omega
      · exact h j
theorem spT_rng {bs : List Int} {top : Int} (i : Nat) (h : 0 ≤ top ∧ top ≤ 265) : -1 ≤ spT bs top i ∧ spT bs top i ≤ 266 := by
  unfold spT; split
  · omega
  · split <;> omega
theorem spW_len {bs ws : List Int} (hb : ∀ i, 0 ≤ bs.getD i 0 ∧ bs.getD i 0 < 256) (i : Nat) (h : ws.length ≤ 265) : (spW bs ws i).length ≤ 20001 := by
  have hv := nxV_rng hb (nxI bs i)
  unfold spW
  split
  · simp; omega
  · split
    · simp; omega
    · split
      · simp; omega
      · omega
/-- All is drawn. -/
theorem DrP.fin {bs : List Int} {w w' : World} {s : Hs} {k n c m fc : Nat} {p fq : Option Addr} {ws fs : List Int} {top kind : Int} (hk : nxV bs 0 = (k : Int)) (hh : HeapR bs (nxI bs 0) s) (hw : ws = dW bs k s) (ht : top = dT bs k s) (hkd : kind = dK k) (hf : fs = dF bs k s) (iw : Is w' p n c ws) (i_f : Is w' fq m fc fs) (hn : n ≤ 20001) (h1 : -1 ≤ top) (h2 : top ≤ 266) (hm : m ≤ 1001) (hb : Below w.heap.size w w') :
    DrP bs w w' (.returned (.tuple #[.agg #[.slice p n c, .int .i64 top], .int .i64 kind, .slice fq m fc])) := by
  refine ⟨p, n, c, ws, top, kind, fq, m, fc, fs, rfl, ⟨s, hh, ?_, ?_, ?_, ?_⟩, iw, i_f, hn, h1, h2, ?_, ?_, hm, hb⟩
  · rw [hk]; exact hw
  · rw [hk]; exact ht
  · rw [hk]; exact hkd
  · rw [hk]; exact hf
  · rw [hkd]; unfold dK; split
    · omega
    · split <;> omega
  · rw [hkd]; unfold dK; split
    · omega
    · split <;> omega
set_option maxRecDepth 20000 in
set_option maxHeartbeats 8000000 in
theorem drawAlloc_c (cp : Option Addr) (cn cc : Nat) (cs bs : List Int) (hbs : bs = cs.take 500) (w : World) (h : Bz w cp cn cs) (hcc : cn ≤ cc) (hcm : cc ≤ 9223372036854775807) :
    Calls Try.prog 4 #[.slice cp cn cc] w fun e w' => DrP bs w w' e := by
  obtain ⟨W, hW⟩ : ∃ W, W = w.alloc (.cells #[.slice none 0 0, .int .i64 0] 25) := ⟨_, rfl⟩
  have HBW : Hid (Below w.heap.size w W) := by unfold Hid; rw [hW]; exact below1 _ _
  have HRV : Hid (W.heap[w.heap.size]? = some (.cells #[.slice none 0 0, .int .i64 0] 25)) := by unfold Hid; rw [hW]; exact Go.Deep.blk_alloc_new _ _
  have HWs : Hid (W.heap.size = w.heap.size + 1) := by unfold Hid; rw [hW]; simp
  have HCS : Hid (Bz W cp cn cs) := h.below HBW.out
  clear h
  go_enter Try.func4, Try.ntmps4
  go_wp2_with fail
  rw [← hW]
  clear hW
  refine (open_c cp cn cc cs W HCS.out hcc hcm).mono ?_
  rintro e w1 ⟨oc, rfl, hr1, hb1⟩
  rw [← hbs] at hr1
  obtain ⟨rb, hrb⟩ : ∃ rb, rb = W.heap.size := ⟨_, rfl⟩
  rw [← hrb] at hr1 ⊢
  obtain ⟨nb, hnb⟩ : ∃ nb, nb = min cn 500 := ⟨_, rfl⟩
  rw [← hnb] at hr1
  have HR1 : Hid (Rz w1 rb cp nb oc rb bs 0) := hr1
  have HRB : Hid (∀ i, 0 ≤ bs.getD i 0 ∧ bs.getD i 0 < 256) := hr1.by_.rng
  have HB1 : Hid (Below w.heap.size w w1) := HBW.out.trans (hb1.mono HBW.out.size)
  have HRV1 : Hid (w1.heap[w.heap.size]? = some (.cells #[.slice none 0 0, .int .i64 0] 25)) := by unfold Hid; rw [hb1.block _ (by have := HWs.out; omega)]; exact HRV.out
  have hrbw : w.heap.size < rb := by have := HWs.out; omega
  have hvr := nxV_rng hr1.by_.rng 0
  obtain ⟨k, hk⟩ : ∃ k : Nat, nxV bs 0 = k := ⟨(nxV bs 0).toNat, by omega⟩
  rw [hk] at hvr
  have hk256 : k < 256 := by omega
  have HK : Hid (nxV bs 0 = (k : Int)) := hk
  clear hr1 hb1 hbs hrb hnb hk hvr HCS
  go_wp2_with fail
  refine (next_c rb cp nb oc rb bs 0 w1 HR1.out).mono ?_
  rintro e w2 ⟨rfl, hr2, hk2, hs2⟩
  rw [HK.out]
  have HR2 : Hid (Rz w2 rb cp nb oc rb bs (nxI bs 0)) := hr2
  have HRV2 : Hid (w2.heap[w.heap.size]? = some (.cells #[.slice none 0 0, .int .i64 0] 25)) := by unfold Hid; rw [hk2.block _ (Array.getElem?_eq_some_iff.1 HRV1.out).1 (by omega) (by omega)]; exact HRV1.out
  have HB2 : Hid (Below w.heap.size w w2) := HB1.out.trans (hk2.below HB1.out.size (by omega) (by omega))
  clear hr2 hk2 hs2 HR1 HRV1
  go_wp2_with fail
  refine (l7heap_c rb cp nb oc rb bs (nxI bs 0) w2 HR2.out).mono ?_
  rintro e w3 ⟨s, n, gw, cw, gh, hc, rfl, hhr, hj, hn10, hn265, hwl, hfh, hfw, hne, hgh, hgw, hr3, hk3⟩
  have HHR : Hid (HeapR bs (nxI bs 0) s) := hhr
  have HJ : Hid (Hj n s) := hj
  have h23 := hk3.size
  have hrv2 := (Array.getElem?_eq_some_iff.1 HRV2.out).1
  have hrb2 := HR2.out.lt
  obtain ⟨W3, hW3⟩ : ∃ W3, W3 = w3.alloc (.cells #[.slice (some ⟨gh, 0, none⟩) n hc, .int .i64 s.top] 25) := ⟨_, rfl⟩
  have hbW3 : Below w3.heap.size w3 W3 := by rw [hW3]; exact below1 _ _
  have hhv3 : W3.heap[w3.heap.size]? = some (.cells #[.slice (some ⟨gh, 0, none⟩) n hc, .int .i64 s.top] 25) := by rw [hW3]; exact new_blk _ _ rfl
  have hsW3 : W3.heap.size = w3.heap.size + 1 := by rw [hW3]; simp
  have HR3 : Hid (Rz W3 rb cp nb oc rb bs s.pos) := hr3.below hbW3
  have HFH3 : Hid (Fr W3 gh n hc s.ws) := hfh.below hbW3
  have HFW3 : Hid (Fr W3 gw s.wds.length cw s.wds) := hfw.below hbW3
  have HRV3 : Hid (W3.heap[w.heap.size]? = some (.cells #[.slice none 0 0, .int .i64 0] 25)) := by unfold Hid; rw [hbW3.block _ (by omega), hk3.block _ hrv2 (by omega) (by omega)]; exact HRV2.out
  have HB3 : Hid (Below w.heap.size w W3) := (HB2.out.trans (hk3.below HB2.out.size (by omega) (by omega))).trans (hbW3.mono (Nat.le_trans HB2.out.size h23))
  have hghl := hfh.lt
  have hgwl := hfw.lt
  obtain ⟨B3, hB3⟩ : ∃ B3, B3 = W3.heap.size := ⟨_, rfl⟩
  go_wp2_with fail
  rw [← hW3]
  refine (l7roots_c rb cp nb oc rb bs s.wds s.pos gw s.wds.length cw W3 HR3.out HFW3.out (by omega) hj.wl hwl hj.bw).mono ?_
  rintro e w4 ⟨fv, rfl, hf4, hr4, hk4⟩
  rw [← hB3] at hf4
  have h34 := hk4.size
  obtain ⟨f0, hf0⟩ : ∃ f0, f0 = (rootsF bs s.wds s.pos).1 := ⟨_, rfl⟩
  obtain ⟨i1, hi1⟩ : ∃ i1, i1 = (rootsF bs s.wds s.pos).2 := ⟨_, rfl⟩
  rw [← hf0] at hf4
  rw [← hi1] at hr4
  have HF4 : Hid (Fz w4 B3 fv f0) := hf4
  have HR4 : Hid (Rz w4 rb cp nb oc rb bs i1) := hr4
  have HHV4 : Hid (w4.heap[w3.heap.size]? = some (.cells #[.slice (some ⟨gh, 0, none⟩) n hc, .int .i64 s.top] 25)) := by unfold Hid; rw [hk4.block _ (by omega) (by omega) (by omega)]; exact hhv3
  have HRV4 : Hid (w4.heap[w.heap.size]? = some (.cells #[.slice none 0 0, .int .i64 0] 25)) := by unfold Hid; rw [hk4.block _ (by omega) (by omega) (by omega)]; exact HRV3.out
  have HFH4 : Hid (Fr w4 gh n hc s.ws) := HFH3.out.of_block (hk4.block _ (by omega) (by omega) (by omega))
  have HB4 : Hid (Below w.heap.size w w4) := HB3.out.trans (hk4.below HB3.out.size (by omega) (by omega))
  have HS4 : Hid (B3 ≤ w4.heap.size) := by unfold Hid; omega
  have HF0 : Hid (f0 = (rootsF bs s.wds s.pos).1 ∧ i1 = (rootsF bs s.wds s.pos).2) := ⟨hf0, hi1⟩
  have HFR0 : Hid (∀ x, x ∈ f0 → -100000 ≤ x ∧ x ≤ 100000) := by unfold Hid; rw [hf0]; exact rtN_rng hj.bw _ _
  have HFL0 : Hid (f0.length ≤ 5) := by
    unfold Hid; rw [hf0]; unfold rootsF; rw [rtN_len]
    have := nxV_rng HRB.out s.pos
    omega
  obtain ⟨hb, hhb⟩ : ∃ hb, hb = w3.heap.size := ⟨_, rfl⟩
  rw [← hhb] at HHV4 ⊢
  have hlo : rb < B3 ∧ gh < B3 ∧ hb < B3 ∧ w.heap.size < B3 ∧ w.heap.size ≠ hb ∧ gh ≠ hb ∧ gh ≠ w.heap.size ∧ gh ≠ rb ∧ w.heap.size < gh ∧ w.heap.size < hb ∧ rb < hb := by omega
  have hTb : 0 ≤ s.top ∧ s.top ≤ 265 := by have := hj.lo; have := hj.hi; omega
  clear hhr hj hfh hfw hr3 hk3 hW3 hbW3 hhv3 hsW3 HR3 HFH3 HFW3 HRV3 HB3 hf4 hr4 hk4 hf0 hi1 hB3 hhb h34 h23 hrv2 hrb2 HB2 HRV2 HR2 hghl hgwl hgh hgw hwl hne
  obtain ⟨kd, hkd⟩ : ∃ kd : Nat, kd = k % 4 := ⟨_, rfl⟩
  have t1 : (k : Int).tmod 4 = (kd : Int) := by rw [Int.tmod_eq_emod_of_nonneg (by omega)]; omega
  have hkd4 : kd < 4 := by omega
  have HKD : Hid (kd = k % 4) := hkd
  clear hkd
  go_upto_if 26 with fail
  clear t1
  go_cut [9] from 11 (fun v wc => Fz wc B3 v (fA kd f0) ∧ Below B3 w4 wc)
  case first =>
    by_cases h0 : kd = 0
    · have hbb : ((kd : Int) == 0) = true := by simp [h0]
      have HA : Hid (fA kd f0 = (f0 ++ [4, 8]).take 2) := by unfold Hid fA; rw [if_pos h0]
      clear h0
      have HT := Hid.mk' (two_row w4 4 8 (by omega) (by omega))
      have HBA := Hid.mk' (below1 w4 (.cells #[.int .i64 4, .int .i64 8] 3))
      have HFZ := Hid.mk' (HF4.out.keep (fun g e => HBA.out.block g (HF4.out.lt g e).2))
      have HSZ := Hid.mk' (Nat.le_trans HS4.out HBA.out.size)
      go_wp2_with (at_builtin; refine appS_law (w4.alloc (.cells #[.int .i64 4, .int .i64 8] 3)) rfl (.tmp 27) (.tmp 28) rfl B3 _ f0 [4, 8] (by simp [Act.eval]) HFZ.out (some ⟨w4.heap.size, 0, none⟩) 2 (by simp [Act.eval]) HT.out (Or.inr (by simp)) (by have := HFL0.out; simp; omega) HSZ.out ?_; intro g cap w6 hf6 hg6 hgr6 hor6; have hfl := HFL0.out; have hcap := hf6.le; rw [show ([4, 8] : List Int).length = 2 from rfl] at hf6 hcap ⊢; have h2c : 2 ≤ cap := (by omega); have HF6 := Hid.mk' hf6; have HGE6 := Hid.mk' hg6; have HG6 := Hid.mk' hgr6; clear hf6 hg6 hgr6 hor6)
      go_meet
      refine ⟨?_, below_grown HF4.out HBA.out HG6.out HS4.out⟩
      rw [HA.out]
      have hlt : ((f0 ++ [4, 8]).take 2).length = 2 := by simp
      exact Or.inr ⟨g, cap, by rw [hlt], HGE6.out, by rw [hlt]; exact HF6.out.take (by omega)⟩
    · have hbb : ((kd : Int) == 0) = false := by simp; omega
      have HA : Hid (fA kd f0 = f0) := by unfold Hid fA; rw [if_neg h0]
      go_wp2_with fail
      go_meet
      exact ⟨by rw [HA.out]; exact HF4.out, Below.refl _ _⟩
  case rest =>
    rename World => w5
    obtain ⟨hf5, hb5⟩ := hcut
    have HF5 : Hid (Fz w5 B3 u9 (fA kd f0)) := hf5
    have HB5 : Hid (Below B3 w4 w5) := hb5
    have HS5 : Hid (B3 ≤ w5.heap.size) := Nat.le_trans HS4.out hb5.size
    have HFA : Hid ((fA kd f0).length ≤ 6) := by have := HFL0.out; unfold Hid fA; split <;> simp <;> omega
    clear hf5 hb5
    go_upto_if 32 with fail
    go_cut [9] from 11 (fun v wc => Fz wc B3 v (fB kd f0) ∧ Below B3 w4 wc)
    case first =>
      by_cases h3 : kd = 3
      · have hbb : ((kd : Int) == 3) = true := by simp [h3]
        have HA : Hid (fB kd f0 = (fA kd f0 ++ [4]).take 1) := by unfold Hid fB; rw [if_pos h3]
        clear h3
        go_wp2_with (at_builtin; refine appF_law w5 rfl (.tmp 33) (.tmp 34) rfl B3 _ (fA kd f0) 4 (by simp [Act.eval]) HF5.out (by simp [Act.eval]) (by have := HFA.out; omega) HS5.out ?_; intro g cap w6 hf6 hg6 hgr6 hor6; have hcap := hf6.le; have h2c : 1 ≤ cap := (by omega); have HF6 := Hid.mk' hf6; have HGE6 := Hid.mk' hg6; have HG6 := Hid.mk' hgr6; clear hf6 hg6 hgr6 hor6)
        go_meet
        refine ⟨?_, HB5.out.trans (below_grown HF5.out (Below.refl _ _) HG6.out HS5.out)⟩
        rw [HA.out]
        have hlt : ((fA kd f0 ++ [4]).take 1).length = 1 := by simp
        exact Or.inr ⟨g, cap, by rw [hlt], HGE6.out, by rw [hlt]; exact HF6.out.take (by omega)⟩
      · have hbb : ((kd : Int) == 3) = false := by simp; omega
        have HA : Hid (fB kd f0 = fA kd f0) := by unfold Hid fB; rw [if_neg h3]
        go_wp2_with fail
        go_meet
        exact ⟨by rw [HA.out]; exact HF5.out, HB5.out⟩
    case rest =>
      rename World => w6
      obtain ⟨hf6, hb6⟩ := hcut
      have HF6 : Hid (Fz w6 B3 u9 (fB kd f0)) := hf6
      have HB6 : Hid (Below B3 w4 w6) := hb6
      have HS6 : Hid (B3 ≤ w6.heap.size) := Nat.le_trans HS4.out hb6.size
      have HFB : Hid ((fB kd f0).length ≤ 6) := by have := HFA.out; unfold Hid fB; split <;> simp <;> omega
      clear hf6 hb6
      go_upto_if 38 with fail
      go_cut [9] from 11 (fun v wc => Fz wc B3 v (fC kd f0) ∧ Below B3 w4 wc)
      case first =>
        by_cases h2 : kd = 2
        · have hbb : ((kd : Int) == 2) = true := by simp [h2]
          have HA : Hid (fC kd f0 = [8] ++ fB kd f0) := by unfold Hid fC; rw [if_pos h2]
          clear h2
          have HB1 := Hid.mk' (below1 w6 (.cells #[.int .i64 8] 3))
          have HFZ : Hid (Fz (w6.alloc (.cells #[.int .i64 8] 3)) B3 (.slice (some ⟨w6.heap.size, 0, none⟩) 1 1) [8]) := by
            have hbk : (w6.alloc (.cells #[.int .i64 8] 3)).heap[w6.heap.size]? = some (.cells #[.int .i64 8] 3) := new_blk _ _ rfl
            refine Or.inr ⟨_, 1, rfl, HS6.out, ⟨⟨fun _ => .int .i64 8, ⟨_, hbk, rfl, fun j hj => ?_⟩, fun j hj => ?_⟩, Nat.le_refl _, by unfold maxLen; omega, rfl⟩⟩
            · obtain rfl : j = 0 := by omega
              rfl
            · obtain rfl : j = 0 := by have : j < 1 := hj; omega
              rfl
          have HF1 := Hid.mk' (HF6.out.keep (fun g e => HB1.out.block g (HF6.out.lt g e).2))
          obtain ⟨fq, fc, hfe, hfi⟩ := HF1.out.is (i64_of (fB_rng HFR0.out))
          have HFE : Hid (u9 = .slice fq (fB kd f0).length fc) := hfe
          have HFI := Hid.mk' hfi
          have HSZ := Hid.mk' (Nat.le_trans HS6.out HB1.out.size)
          clear hfe hfi
          go_wp2_with (at_builtin; refine appS_law (w6.alloc (.cells #[.int .i64 8] 3)) rfl (.tmp 39) (.tmp 40) rfl B3 (.slice (some ⟨w6.heap.size, 0, none⟩) 1 1) [8] (fB kd f0) (by simp [Act.eval]) HFZ.out fq fc (by simp [Act.eval]; exact HFE.out) HFI.out (Or.inl (by simp)) (by have := HFB.out; simp; omega) HSZ.out ?_; intro g cap w7 hf7 hg7 hgr7 hor7; have HF7 := Hid.mk' hf7; have HGE7 := Hid.mk' hg7; have HG7 := Hid.mk' hgr7; clear hf7 hg7 hgr7 hor7)
          go_meet
          refine ⟨?_, HB6.out.trans (below_new HB1.out HG7.out HS6.out (Nat.le_refl _))⟩
          rw [HA.out]
          exact Or.inr ⟨g, cap, by simp [Nat.add_comm], HGE7.out, by simpa [Nat.add_comm] using HF7.out⟩
        · have hbb : ((kd : Int) == 2) = false := by simp; omega
          have HA : Hid (fC kd f0 = fB kd f0) := by unfold Hid fC; rw [if_neg h2]
          go_wp2_with fail
          go_meet
          exact ⟨by rw [HA.out]; exact HF6.out, HB6.out⟩
      case rest =>
        rename World => w7
        obtain ⟨hf7, hb7⟩ := hcut
        have HF7 : Hid (Fz w7 B3 u9 (fC kd f0)) := hf7
        have HB7 : Hid (Below B3 w4 w7) := hb7
        have HS7 : Hid (B3 ≤ w7.heap.size) := Nat.le_trans HS4.out hb7.size
        have HFC : Hid ((fC kd f0).length ≤ 6) := fC_len kd f0 HFL0.out
        have HHV7 : Hid (w7.heap[hb]? = some (.cells #[.slice (some ⟨gh, 0, none⟩) n hc, .int .i64 s.top] 25)) := (hb7.block _ hlo.2.2.1).trans HHV4.out
        have HRV7 : Hid (w7.heap[w.heap.size]? = some (.cells #[.slice none 0 0, .int .i64 0] 25)) := (hb7.block _ hlo.2.2.2.1).trans HRV4.out
        have HFH7 : Hid (Fr w7 gh n hc s.ws) := HFH4.out.of_block (hb7.block _ hlo.2.1)
        have HR7 : Hid (Rz w7 rb cp nb oc rb bs i1) := HR4.out.keep hb7.size (fun q hq => hb7.block q (by omega)) (hb7.block _ hlo.1)
        have HBW7 : Hid (Below w.heap.size w w7) := HB4.out.trans (hb7.mono (by omega))
        have HCR : Hid (∀ x, x ∈ fC kd f0 → -100000 ≤ x ∧ x ≤ 100000) := fC_rng HFR0.out
        have HWR : Hid (∀ i, -9223372036854775808 ≤ s.ws.getD i 0 ∧ s.ws.getD i 0 ≤ 9223372036854775807) := fun i => by have := HJ.out.bh i; omega
        clear hf7 hb7 HF4 HR4 HHV4 HRV4 HFH4 HB4 HS4 HF5 HB5 HS5 HF6 HB6 HS6 HB7
        obtain ⟨c0, c1, f0', f1'⟩ := two_cells HHV7.out
        obtain ⟨r0, r1, rf0, rf1⟩ := two_cells HRV7.out
        obtain ⟨l1, l2, l3, l4, l5, l6, l7, l8, l9, l10, l11⟩ := hlo
        obtain ⟨T, hT⟩ : ∃ T, s.top = T := ⟨_, rfl⟩
        rw [hT] at c1 hTb
        have HT : Hid (s.top = T) := hT
        have HIW : Hid (Is w7 (some ⟨gh, 0, none⟩) n hc s.ws) := HFH7.out.is HWR.out
        clear hT
        by_cases h240 : 240 < k
        · have hb1 : decide ((240 : Int) < (k : Int)) = true := decide_eq_true (by omega)
          have hb2 : ((k : Int) == 239) = false := by simp; omega
          have hb3 : ((k : Int) == 238) = false := by simp; omega
          have hb4 : ((k : Int) == 237) = false := by simp; omega
          go_wp2_with fail
          refine (next_c rb cp nb oc rb bs i1 w7 HR7.out).mono ?_
          rintro e w8 ⟨rfl, hr8, hk8, hs8⟩
          have hvr := nxV_rng HRB.out i1
          obtain ⟨x, hx⟩ : ∃ x : Nat, nxV bs i1 = x := ⟨_, (Int.toNat_of_nonneg hvr.1).symm⟩
          rw [hx]
          have HX : Hid (nxV bs i1 = (x : Int)) := hx
          have hxl : x < 256 := by omega
          have HF8 : Hid (Fz w8 B3 u9 (fC kd f0)) := HF7.out.keep (fun g e => hk8.block g (HF7.out.lt g e).2 (by have := (HF7.out.lt g e).1; omega) (by have := (HF7.out.lt g e).1; omega))
          have HS8 : Hid (B3 ≤ w8.heap.size) := Nat.le_trans HS7.out hk8.size
          have HHV8 : Hid (w8.heap[hb]? = some (.cells #[.slice (some ⟨gh, 0, none⟩) n hc, .int .i64 T] 25)) := by unfold Hid; rw [hk8.block _ (by have := HS7.out; omega) (by omega) (by omega), HHV7.out, HT.out]
          have HRV8 : Hid (w8.heap[w.heap.size]? = some (.cells #[.slice none 0 0, .int .i64 0] 25)) := by unfold Hid; rw [hk8.block _ (by have := HS7.out; omega) (by omega) (by omega)]; exact HRV7.out
          have HIW8 : Hid (Is w8 (some ⟨gh, 0, none⟩) n hc s.ws) := HIW.out.kpz hk8 (fun a _ e => by cases e; exact ⟨l8, l8⟩)
          have HB8 : Hid (Below w.heap.size w w8) := HBW7.out.trans (hk8.below HBW7.out.size (by omega) (by omega))
          clear hr8 hk8 hs8 hx hvr c0 c1 f0' f1' r0 r1 rf0 rf1
          go_wp2_with (at_builtin; refine appF_law w8 rfl (.tmp 44) (.tmp 47) rfl B3 _ (fC kd f0) (x : Int) (by simp [Act.eval]) HF8.out (by simp [Act.eval]) (by have := HFC.out; omega) HS8.out ?_; intro g cap w9 hf9 hg9 hgr9 hor9; have hbl : Below B3 w8 w9 := below_grown HF8.out (Below.refl _ _) hgr9 HS8.out; obtain ⟨c0, c1, cf0, cf1⟩ := two_cells ((hbl.block hb l3).trans HHV8.out); obtain ⟨r0, r1, rf0, rf1⟩ := two_cells ((hbl.block w.heap.size l4).trans HRV8.out); have HF9 := Hid.mk' hf9; have HGE9 := Hid.mk' hg9; have HBL := Hid.mk' hbl; clear hf9 hg9 hgr9 hor9 hbl)
          have HI9 : Is w9 (some ⟨gh, 0, none⟩) n hc s.ws := by
            have h8 := HIW8.out
            refine ⟨h8.len, h8.cap, h8.big, h8.rng, fun hn => ?_⟩
            obtain ⟨b', o', e', _, hc'⟩ := h8.cells hn
            cases e'
            exact ⟨gh, 0, rfl, by have := HBL.out.size; have := HS8.out; omega, fun j hj => by rw [HBL.out.cell (p := ⟨gh, 0 + j, none⟩) l2]; exact hc' j hj⟩
          have HIF : Is w9 (some ⟨g, 0, none⟩) ((fC kd f0).length + 1) cap (fC kd f0 ++ [(x : Int)]) := HF9.out.is (i64_of (mem_rng_app HCR.out (by intro y hy; rw [List.mem_singleton.1 hy]; omega)))
          have hset : Below w.heap.size w9 ((w9.setCell ⟨w.heap.size, 0, none⟩ (.slice (some ⟨gh, 0, none⟩) n hc)).setCell ⟨w.heap.size, 1, none⟩ (.int .i64 T)) := ((Below.refl _ _).setCell (by simp) _).setCell (by simp) _
          have hwin : Within w.heap.size (w.heap.size + 1) w9 ((w9.setCell ⟨w.heap.size, 0, none⟩ (.slice (some ⟨gh, 0, none⟩) n hc)).setCell ⟨w.heap.size, 1, none⟩ (.int .i64 T)) := ((Within.refl _ _ _).set (by simp) (by simp) _).set (by simp) (by simp) _
          refine bodyPost_ret (v := .tuple #[.agg #[.slice (some ⟨gh, 0, none⟩) n hc, .int .i64 T], .int .i64 (kd : Int), .slice (some ⟨g, 0, none⟩) ((fC kd f0).length + 1) cap]) (by simp [results, Try.results4, go_sem, r0, r1]) rfl ?_
          refine DrP.fin HK.out HHR.out (by unfold dW; rw [if_neg (by omega)]) (by unfold dT; rw [if_neg (by omega)]; exact HT.out.symm) (by unfold dK; rw [if_neg (by omega), if_neg (by omega), HKD.out]) (by unfold dF; rw [if_neg (by omega), if_pos h240, ← HF0.out.1, ← HF0.out.2, HX.out, ← HKD.out]) (HI9.within hwin (fun a ha _ => by cases ha; exact Or.inr (by show w.heap.size + 1 ≤ gh; omega))) (HIF.within hwin (fun a ha _ => by cases ha; exact Or.inr (by show w.heap.size + 1 ≤ g; have := HGE9.out; omega))) (by omega) (by omega) (by omega) (by have := HFC.out; omega) (HB8.out.trans ((HBL.out.mono (by omega)).trans hset))
        · have hb1 : decide ((240 : Int) < (k : Int)) = false := decide_eq_false (by omega)
          by_cases h239 : k = 239
          · have hb2 : ((k : Int) == 239) = true := by simp; omega
            have hb3 : ((k : Int) == 238) = false := by simp; omega
            have hb4 : ((k : Int) == 237) = false := by simp; omega
            have HCC := HF7.out.is (i64_of HCR.out)
            obtain ⟨fq, fc, hfe, hfi⟩ := HCC
            have HFI := Hid.mk' hfi
            subst hfe
            clear hfi
            go_wp2_with fail
            have hset : Below w.heap.size w7 ((w7.setCell ⟨w.heap.size, 0, none⟩ (.slice (some ⟨gh, 0, none⟩) n hc)).setCell ⟨w.heap.size, 1, none⟩ (.int .i64 T)) := ((Below.refl _ _).setCell (by simp) _).setCell (by simp) _
            have hwin : Within w.heap.size (w.heap.size + 1) w7 ((w7.setCell ⟨w.heap.size, 0, none⟩ (.slice (some ⟨gh, 0, none⟩) n hc)).setCell ⟨w.heap.size, 1, none⟩ (.int .i64 T)) := ((Within.refl _ _ _).set (by simp) (by simp) _).set (by simp) (by simp) _
            refine bodyPost_ret (v := .tuple #[.agg #[.slice (some ⟨gh, 0, none⟩) n hc, .int .i64 T], .int .i64 4, .slice fq (fC kd f0).length fc]) (by simp [results, Try.results4, go_sem, r0, r1]) rfl ?_
            refine DrP.fin HK.out HHR.out (by unfold dW; rw [if_neg (by omega)]) (by unfold dT; rw [if_neg (by omega)]; exact HT.out.symm) (by unfold dK; rw [if_pos h239]) (by unfold dF; rw [if_neg (by omega), if_neg (by omega), ← HF0.out.1, ← HKD.out]) (HIW.out.within hwin (fun a ha _ => by cases ha; exact Or.inr (by show w.heap.size + 1 ≤ gh; omega))) (HFI.out.within hwin (fun a ha h0 => Or.inr (by have := (HF7.out.lt a.block (by rw [ha]; rfl)).1; omega))) (by omega) (by omega) (by omega) (by have := HFC.out; omega) (HBW7.out.trans hset)
          · have hb2 : ((k : Int) == 239) = false := by simp; omega
            by_cases h238 : k = 238
            · have hb3 : ((k : Int) == 238) = true := by simp; omega
              have hb4 : ((k : Int) == 237) = false := by simp; omega
              go_wp2_with fail
              refine (next_c rb cp nb oc rb bs i1 w7 HR7.out).mono ?_
              rintro e w8 ⟨rfl, hr8, hk8, hs8⟩
              have hvr := nxV_rng HRB.out i1
              obtain ⟨x, hx⟩ : ∃ x : Nat, nxV bs i1 = x := ⟨_, (Int.toNat_of_nonneg hvr.1).symm⟩
              rw [hx]
              obtain ⟨b2, hbx⟩ : ∃ b2 : Nat, b2 = x % 2 := ⟨_, rfl⟩
              obtain ⟨m, hm⟩ : ∃ m : Nat, m = 1000 + b2 := ⟨_, rfl⟩
              have t1 : (x : Int).tmod 2 = (b2 : Int) := by rw [Int.tmod_eq_emod_of_nonneg (by omega)]; omega
              have t2 : (1000 : Int) + (b2 : Int) = (m : Int) := by omega
              have hmb : m ≤ 1001 := by omega
              have hbb2 : b2 ≤ 1 := by omega
              have HM : Hid ((1000 + nxV bs i1 % 2).toNat = m) := by unfold Hid; rw [hx]; omega
              have HHV8 : w8.heap[hb]? = some (.cells #[.slice (some ⟨gh, 0, none⟩) n hc, .int .i64 T] 25) := by rw [hk8.block _ (by have := HS7.out; omega) (by omega) (by omega), HHV7.out, HT.out]
              have HRV8 : w8.heap[w.heap.size]? = some (.cells #[.slice none 0 0, .int .i64 0] 25) := by rw [hk8.block _ (by have := HS7.out; omega) (by omega) (by omega)]; exact HRV7.out
              have HIW8 : Hid (Is w8 (some ⟨gh, 0, none⟩) n hc s.ws) := HIW.out.kpz hk8 (fun a _ e => by cases e; exact ⟨l8, l8⟩)
              have HB8 : Hid (Below w.heap.size w w8) := HBW7.out.trans (hk8.below HBW7.out.size (by omega) (by omega))
              have hs8' : w.heap.size < w8.heap.size := by have := HS7.out; omega
              obtain ⟨a0, a1, _, _⟩ := two_cells HHV8
              obtain ⟨q0, q1, z0, z1⟩ := two_cells HRV8
              have hs9 : hb < w8.heap.size := by have := HS7.out; omega
              have hmk := run_make_row' (P := Try.prog) 23 3 (.int .i64 0) 8 Try.underlying23 info3 rfl .i64 .i64 m (by omega) (by omega)
              clear hr8 hk8 hs8 hx hvr c0 c1 f0' f1' r0 r1 rf0 rf1 hbx hm HHV8 HRV8
              go_wp2_with fail
              obtain ⟨w9, hw9⟩ : ∃ w9, w9 = (w8.setCell ⟨w.heap.size, 0, none⟩ (.slice (some ⟨gh, 0, none⟩) n hc)).setCell ⟨w.heap.size, 1, none⟩ (.int .i64 T) := ⟨_, rfl⟩
              have hset : Below w.heap.size w8 w9 := by rw [hw9]; exact ((Below.refl _ _).setCell (by simp) _).setCell (by simp) _
              have hwin : Within w.heap.size (w.heap.size + 1) w8 w9 := by rw [hw9]; exact ((Within.refl _ _ _).set (by simp) (by simp) _).set (by simp) (by simp) _
              have hsz9 : w9.heap.size = w8.heap.size := by rw [hw9]; simp
              have hrow := World.rowIs_made w9 (.int .i64 0) m 3
              rw [hsz9] at hrow
              have hro := (Ro.zeros (by simpa using hrow)).is (by simp) (by unfold maxLen; omega) (fun i => by rw [rep_getD]; omega)
              have e0 : ∀ o, (w9.alloc o).cell? ⟨w.heap.size, 0, none⟩ = some (.slice (some ⟨gh, 0, none⟩) n hc) := fun o => by
                rw [(below1 w9 o).cell (p := ⟨w.heap.size, 0, none⟩) (by show w.heap.size < _; omega), hw9, World.cell?_setCell_other]
                · exact World.cell?_setCell_same' w8 _ _ (by rw [q0]; rfl)
                · intro e; cases e
              have e1 : ∀ o, (w9.alloc o).cell? ⟨w.heap.size, 1, none⟩ = some (.int .i64 T) := fun o => by
                rw [(below1 w9 o).cell (p := ⟨w.heap.size, 1, none⟩) (by show w.heap.size < _; omega), hw9]
                refine World.cell?_setCell_same' _ _ _ ?_
                rw [World.cell?_setCell_other]
                · rw [q1]; rfl
                · intro e; cases e
              rw [← hw9]
              refine bodyPost_ret (v := .tuple #[.agg #[.slice (some ⟨gh, 0, none⟩) n hc, .int .i64 T], .int .i64 1, .slice (some ⟨w8.heap.size, 0, none⟩) m m]) (by simp [results, Try.results4, go_sem, e0, e1]) rfl ?_
              exact DrP.fin HK.out HHR.out (by unfold dW; rw [if_neg (by omega)]) (by unfold dT; rw [if_neg (by omega)]; exact HT.out.symm) (by unfold dK; rw [if_neg (by omega), if_pos h238]) (by unfold dF; rw [if_pos h238, ← HF0.out.2, HM.out]) ((HIW8.out.within hwin (fun a ha _ => by cases ha; exact Or.inr (by show w.heap.size + 1 ≤ gh; omega))).below (below1 _ _)) hro (by omega) (by omega) (by omega) (by omega) ((HB8.out.trans hset).alloc (by have := HB8.out.size; omega) _)
            · have hb3 : ((k : Int) == 238) = false := by simp; omega
              by_cases h237 : k = 237
              · have hb4 : ((k : Int) == 237) = true := by simp; omega
                have HBH := HJ.out.bh
                go_wp2_with fail
                refine (l7spoil_c rb cp nb oc rb bs i1 gh n hc s.ws T w7 HR7.out HFH7.out l8 hn10 hn265 hTb.1 hTb.2).mono ?_
                rintro e w8 ⟨⟨g', n', c', rfl, hf8⟩, hk8⟩
                have HHV8 : w8.heap[hb]? = some (.cells #[.slice (some ⟨gh, 0, none⟩) n hc, .int .i64 T] 25) := by rw [hk8.block _ (by have := HS7.out; omega) (by omega) (by omega), HHV7.out, HT.out]
                have HRV8 : w8.heap[w.heap.size]? = some (.cells #[.slice none 0 0, .int .i64 0] 25) := by rw [hk8.block _ (by have := HS7.out; omega) (by omega) (by omega)]; exact HRV7.out
                have HB8 : Hid (Below w.heap.size w w8) := HBW7.out.trans (hk8.below HBW7.out.size (by omega) (by omega))
                have HF8 : Hid (Fz w8 B3 u9 (fC kd f0)) := HF7.out.keep (fun g e => hk8.block g (HF7.out.lt g e).2 (by have := (HF7.out.lt g e).1; omega) (by have := (HF7.out.lt g e).1; omega))
                obtain ⟨T2, hT2⟩ : ∃ T2, spT bs T i1 = T2 := ⟨_, rfl⟩
                have hT2r := spT_rng (bs := bs) i1 hTb
                rw [hT2] at hT2r ⊢
                have HT2 : Hid (spT bs T i1 = T2) := hT2
                have e1 := hf8.not HHV8 (by decide)
                have e2 := hf8.not HRV8 (by decide)
                have HFR8 := Hid.mk' hf8
                have HN8 : Hid (n' ≤ 20001) := by unfold Hid; rw [← hf8.len]; exact spW_len HRB.out i1 (by rw [HJ.out.len]; omega)
                obtain ⟨a0, a1, y0, y1⟩ := two_cells HHV8
                obtain ⟨q0, q1, z0, z1⟩ := two_cells HRV8
                have hs8 : w.heap.size < w8.heap.size := (Array.getElem?_eq_some_iff.1 HRV8).1
                obtain ⟨fq, fc, hfe, hfi⟩ := HF8.out.is (i64_of HCR.out)
                have HFI := Hid.mk' hfi
                subst hfe
                obtain ⟨hT20, hT21⟩ := hT2r
                clear hfi hf8 hk8 hT2 c0 c1 f0' f1' r0 r1 rf0 rf1 HHV8 HRV8
                go_wp2_with fail
                refine bodyPost_ret (v := .tuple #[.agg #[.slice (some ⟨g', 0, none⟩) n' c', .int .i64 T2], .int .i64 (kd : Int), .slice fq (fC kd f0).length fc]) (by simp [results, Try.results4, go_sem, q0, q1]) rfl ?_
                have hset : Below w.heap.size w8 ((((w8.setCell ⟨hb, 0, none⟩ (.slice (some ⟨g', 0, none⟩) n' c')).setCell ⟨hb, 1, none⟩ (.int .i64 T2)).setCell ⟨w.heap.size, 0, none⟩ (.slice (some ⟨g', 0, none⟩) n' c')).setCell ⟨w.heap.size, 1, none⟩ (.int .i64 T2)) := ((((Below.refl _ _).setCell (by simp; omega) _).setCell (by simp; omega) _).setCell (by simp) _).setCell (by simp) _
                have hwin : Within w.heap.size (hb + 1) w8 ((((w8.setCell ⟨hb, 0, none⟩ (.slice (some ⟨g', 0, none⟩) n' c')).setCell ⟨hb, 1, none⟩ (.int .i64 T2)).setCell ⟨w.heap.size, 0, none⟩ (.slice (some ⟨g', 0, none⟩) n' c')).setCell ⟨w.heap.size, 1, none⟩ (.int .i64 T2)) := ((((Within.refl _ _ _).set (by simp; omega) (by simp) _).set (by simp; omega) (by simp) _).set (by simp) (by simp; omega) _).set (by simp) (by simp; omega) _
                have hfr4 := (((HFR8.out.setOther (a := ⟨hb, 0, none⟩) e1 (.slice (some ⟨g', 0, none⟩) n' c')).setOther (a := ⟨hb, 1, none⟩) e1 (.int .i64 T2)).setOther (a := ⟨w.heap.size, 0, none⟩) e2 (.slice (some ⟨g', 0, none⟩) n' c')).setOther (a := ⟨w.heap.size, 1, none⟩) e2 (.int .i64 T2)
                exact DrP.fin HK.out HHR.out (by unfold dW; rw [if_pos h237, ← HF0.out.2]) (by unfold dT; rw [if_pos h237, ← HF0.out.2, HT.out, HT2.out]) (by unfold dK; rw [if_neg h239, if_neg h238, HKD.out]) (by unfold dF; rw [if_neg h238, if_neg h240, ← HF0.out.1, ← HKD.out]) (hfr4.is (fun j => by have := spW_rng HRB.out HBH i1 j; omega)) (HFI.out.within hwin (fun a ha h0 => Or.inr (by have := (HF8.out.lt a.block (by rw [ha]; rfl)).1; omega))) HN8.out (by omega) (by omega) (by have := HFC.out; omega) (HB8.out.trans hset)
              · have hb4 : ((k : Int) == 237) = false := by simp; omega
                have HCC := HF7.out.is (i64_of HCR.out)
                obtain ⟨fq, fc, hfe, hfi⟩ := HCC
                have HFI := Hid.mk' hfi
                subst hfe
                clear hfi
                go_wp2_with fail
                have hset : Below w.heap.size w7 ((w7.setCell ⟨w.heap.size, 0, none⟩ (.slice (some ⟨gh, 0, none⟩) n hc)).setCell ⟨w.heap.size, 1, none⟩ (.int .i64 T)) := ((Below.refl _ _).setCell (by simp) _).setCell (by simp) _
                have hwin : Within w.heap.size (w.heap.size + 1) w7 ((w7.setCell ⟨w.heap.size, 0, none⟩ (.slice (some ⟨gh, 0, none⟩) n hc)).setCell ⟨w.heap.size, 1, none⟩ (.int .i64 T)) := ((Within.refl _ _ _).set (by simp) (by simp) _).set (by simp) (by simp) _
                refine bodyPost_ret (v := .tuple #[.agg #[.slice (some ⟨gh, 0, none⟩) n hc, .int .i64 T], .int .i64 (kd : Int), .slice fq (fC kd f0).length fc]) (by simp [results, Try.results4, go_sem, r0, r1]) rfl ?_
                refine DrP.fin HK.out HHR.out (by unfold dW; rw [if_neg (by omega)]) (by unfold dT; rw [if_neg (by omega)]; exact HT.out.symm) (by unfold dK; rw [if_neg h239, if_neg h238, HKD.out]) (by unfold dF; rw [if_neg (by omega), if_neg (by omega), ← HF0.out.1, ← HKD.out]) (HIW.out.within hwin (fun a ha _ => by cases ha; exact Or.inr (by show w.heap.size + 1 ≤ gh; omega))) (HFI.out.within hwin (fun a ha h0 => Or.inr (by have := (HF7.out.lt a.block (by rw [ha]; rfl)).1; omega))) (by omega) (by omega) (by omega) (by have := HFC.out; omega) (HBW7.out.trans hset)
end Go.Proofs.Ytmmkpmgidoelpaa
