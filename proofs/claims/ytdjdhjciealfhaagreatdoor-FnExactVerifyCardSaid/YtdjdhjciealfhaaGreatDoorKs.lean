import Derived.Test.YtdjdhjciealfhaaGreatDoorKr
namespace Go.Proofs.YtdjdhjciealfhaaGreatDoor
open Go.RowKit Go.Shelf Ch1
namespace Vf
/-- What statesOf asks. -/
structure SoAt (w : World) (cp : Option Addr) (cn cc : Nat) (fp : Option Addr) (fn fc : Nat) (rp : Option Addr) (rl rc : Nat) (dp : Option Addr) (dl dc : Nat) (m : Md) (f : Fn) : Prop where
  cs : Dd w cp cn cc m.consts
  ne : ∀ i, i < m.consts.length → 0 < (m.consts.getD i []).length
  ct : ∀ i, i < m.consts.length → 0 ≤ ((m.consts.getD i []).getD 0 dt0).count
  fu : Fu w fp fn fc m.funcs
  ff : ∀ i, i < m.funcs.length → (m.funcs.getD i fn0).free.length ≤ 1000
  fr : Bo w rp rl rc f.free
  co : Ii w dp dl dc f.code
  ok : ∀ i, i < dl → InsOk m f (f.code.getD i in0)
  d0 : 0 < dl
  d1 : dl ≤ 5000
  p0 : 0 ≤ f.params
  p1 : f.params ≤ 20
  tb : TbV w
theorem SoAt.below {w w' : World} {cp : Option Addr} {cn cc : Nat} {fp : Option Addr} {fn fc : Nat} {rp : Option Addr} {rl rc : Nat} {dp : Option Addr} {dl dc : Nat} {m : Md} {f : Fn} (h : SoAt w cp cn cc fp fn fc rp rl rc dp dl dc m f) (hb : Below w.heap.size w w') : SoAt w' cp cn cc fp fn fc rp rl rc dp dl dc m f :=
  ⟨h.cs.below hb, h.ne, h.ct, h.fu.below hb, h.ff, h.fr.below hb, h.co.below hb, h.ok, h.d0, h.d1, h.p0, h.p1, h.tb.below hb⟩
/-- What stateBehind leaves in 'made' and 'ok'. -/
def MdP (m : Md) (f : Fn) (x : In) (s : List Nat) (R : List Value) (b : Bool) : Prop := (b = true ↔ fits m f x s ∧ asks m x s) ∧ (b = true → R = stL (outOf m f x s))
theorem BhP.mk_ {m : Md} {f : Fn} {x : In} {s : List Nat} {w w' : World} {e : Ending} (h : BhP m f x s w w' e) : ∃ R b, e = .returned (.tuple #[.agg R.toArray, .bool b]) ∧ R.length = 202 ∧ (∀ v ∈ R, v.oneCell' = true) ∧ Below w.heap.size w w' ∧ MdP m f x s R b := by
  obtain ⟨hb, ⟨hn, c, he⟩ | ⟨h1, h2, he⟩⟩ := h
  · exact ⟨_, false, he, stG_len _ _ _, stG_one _ _ _, hb, ⟨fun e => (by cases e), fun hh => absurd hh hn⟩, fun e => (by cases e)⟩
  · exact ⟨_, true, he, stG_len _ _ _, stG_one _ _ _, hb, ⟨fun _ => ⟨h1, h2⟩, fun _ => rfl⟩, fun _ => rfl⟩
/-- A range over the ways on, in a round: the statement, from its parts. -/
theorem wpIn_rangeWays {α : Type} {g : Operand} {ps : Array Tmp} {assign body : Code} {Q : Exit → Act → World → Prop} {a : Act} {w : World} {n l₀ : Nat} {r₀ : Loop} (hl₀ : w.heap[l₀]? = some (.loop r₀)) (h1 : 1 ≤ n) {gf : Nat} {lb : Array Value} (hg : a.eval g = .func (.func gf) #[] lb) (eg : ∀ args w, (callFunc gf args).run Tryz.prog w = .ok (.enter gf args) w)
    {vl : α → Nat} {ks : List Nat} {S Sp : List α → Prop} {N : Nat} (hseq : SeqStopsK Fence.wide (n - 1) Tryz.prog gf lb (fun y => #[.int .i64 (vl y : Nat)]) (KpS ks) S Sp N w) (hps : ps.size = 1)
    (I : List α → World → Prop) (Ix : Code → List α → World → Prop) (hI : OwnFrom w.heap.size I) (hIx : ∀ c, OwnFrom w.heap.size (Ix c)) (h0 : I [] w) (pt d : Tmp)
    (hassign : ∀ (l x : Nat) (W : World) (K : Act → World → Prop), K (actOf a pt d x) W → assign.wpIn ((Fence.wide.inRound l₀).inRound l) (n - 1 - 1) Tryz.prog (Exit.then K (fun _ _ _ => False)) { tmps := (ps.zip #[Value.int .i64 (x : Nat)]).foldl (fun t (p, v) => t.setIfInBounds p v) a.tmps, defers := [] } W)
    (hbody : ∀ (l : Nat) (pre : List α) (x : α) (W : World), w.heap.size ≤ l → I pre W → body.wpIn ((Fence.wide.inRound l₀).inRound l) (n - 1 - 1) Tryz.prog (ownPostG w.heap.size (KpS ks) I Ix (pre ++ [x]) W) (actOf a pt d (vl x)) W)
    (hdone : ∀ (xs : List α) (W : World), S xs → I xs W → Q .normal a W)
    (hstop : ∀ (c : Code) (pre : List α) (W : World), Sp pre → Ix c pre W → c.wpIn (Fence.wide.inRound l₀) n Tryz.prog Q a W) :
    (Code.rangeFunc g ps assign body).wpIn (Fence.wide.inRound l₀) n Tryz.prog Q a w :=
  wpIn_rangeFunc_ownN (F := Fence.wide.inRound l₀) rfl hl₀ h1 hg trivial eg (hseq.inRound l₀) (fun h k => h.trans k) (fun W l o o' _ hl ho _ => KpS.put W l o o' hl ho) (Below.refl _ _) (fun _ => hps.symm) I Ix hI hIx h0 (fun x a' _ => a' = actOf a pt d (vl x)) (fun _ _ _ _ _ _ hs _ _ => hs)
    (fun l _ x W K hi hK => hassign l (vl x) W K (hK _ _ (KeepsFrom.refl _ _) (fun _ _ _ h _ => h) hi rfl)) (fun l pre x a' W h2 _ hi e _ => by subst e; exact hbody l pre x W h2 hi) hdone hstop
/-- The region, at whatever follows. -/
theorem reg7k {a0 : Act} {w w0 : World} {Q : Exit → Act → World → Prop} (lr nr : Nat) (M F cb co S Vb i : Nat) (cp : Option Addr) (cn cc : Nat) (g : Int) (fp : Option Addr) (fn fc : Nat) (pn : Int) (rp : Option Addr) (rl rc dl dc : Nat) (m : Md) (f : Fn) (σ : States) (s : List Nat) (h : SoAt w cp cn cc fp fn fc rp rl rc (some ⟨cb, co, none⟩) dl dc m f) (hbw : Below w.heap.size w w0) (hz : a0.tmps.size = 82) (h2 : sl a0 2 = .pointer (some ⟨M, 0, none⟩)) (h3 : sl a0 3 = .pointer (some ⟨F, 0, none⟩)) (h6 : sl a0 6 = .pointer (some ⟨Vb, 0, none⟩)) (h8 : sl a0 8 = .int .i64 (i : Int)) (hid : i < dl)
    (hM : w0.heap[M]? = some (.cells #[.slice cp cn cc, .int .i64 g, .slice fp fn fc] 33)) (hF : w0.heap[F]? = some (.cells #[.int .i64 pn, .slice rp rl rc, .slice (some ⟨cb, co, none⟩) dl dc] 48)) (hV : w0.heap[Vb]? = some (.cells #[.slice (some ⟨S, 0, none⟩) dl dl] 51)) (hS : Sp w0 dl S σ) (hs : σ i = some s) (hg : GoodS s) (hsl : s.length ≤ 200)
    (hK : ∀ R b Mb wf, MdP m f (f.code.getD i in0) s R b → Below w0.heap.size w0 wf → w0.heap.size ≤ Mb → wf.heap[Mb]? = some (.cells R.toArray 90) → Q .normal (fr7 a0 F cb co S i cp cn cc g fp fn fc pn rp rl rc dl dc (f.code.getD i in0).op (f.code.getD i in0).a (f.code.getD i in0).b dl (stL s) R b Mb) wf) :
    (Code.region 7 ops7 true).wpIn (Fence.wide.inRound lr) nr Tryz.prog Q a0 w0 := by
  have hlt : ∀ {k : Nat} {o : Obj}, w0.heap[k]? = some o → k < w0.heap.size := fun hk => (Array.getElem?_eq_some_iff.1 hk).1
  obtain ⟨cb', co', e, hcb, hcc⟩ := (h.co.below hbw).cells h.d0
  cases e
  obtain ⟨e0, e1, e2⟩ := hcc i hid
  obtain ⟨m0, m1, m2, _, _, _⟩ := cells3 hM
  obtain ⟨f0, f1, f2, _, _, _⟩ := cells3 hF
  have hr := hS.range hid
  rw [hs] at hr
  refine wpIn_mono (reg7 (K := fun a w => Q .normal a w) (Pr := MdP m f (f.code.getD i in0) s) lr nr M F cb co S Vb i cp cn cc g fp fn fc pn rp rl rc dl dc (f.code.getD i in0).op (f.code.getD i in0).a (f.code.getD i in0).b dl (stL s) hz h2 h3 h6 h8 hid hid (hlt hM) (hlt hF) hcb (hlt hV) hS.lt m0 m1 m2 f0 f1 f2 e0 e1 e2 (cell_at hV rfl) hr (sizeO (some s)) (fun wx hx => ?_) hK) (fun e a w hh => by cases e <;> first | exact hh | exact hh.elim)
  have hbx : Below w.heap.size w wx := hbw.trans (hx.mono hbw.size)
  have hh := h.below hbx
  refine (stateBehind_c cp cn cc g fp fn fc pn rp rl rc (some ⟨cb, co, none⟩) dl dc m f (f.code.getD i in0) s wx ⟨hh.ok i hid, hh.cs, hh.ne, hh.ct, hh.fr, hh.tb, hsl⟩ hh.fu hh.ff hg).mono ?_
  intro e w' hb
  exact hb.mk_
end Vf
end Go.Proofs.YtdjdhjciealfhaaGreatDoor
