import Derived.Test.YtmmkpmgidoelpaaDoorA2
import Derived.Test.YtmmkpmgidoelpaaDoorH5
import Derived.Lib.AppendStr
namespace Go.Proofs.YtmmkpmgidoelpaaDoor.Hp
open Go.RowKit Ch2
theorem info3' : ∃ i, Tryd.prog.info? 3 = some i ∧ i.zero = some (.int .i64 0) ∧ i.size = 1 ∧ i.bytes = 8 := by
  obtain ⟨i, hi, hpr⟩ := Option.map_eq_some_iff.1 info3
  simp only [Prod.mk.injEq] at hpr
  exact ⟨i, hi, hpr.1, hpr.2.1, hpr.2.2⟩
theorem cells_of_is {w : World} {b o n c : Nat} {ws : List Int} (h : Is w (some ⟨b, o, none⟩) n c ws) (hn : 0 < n) : ∀ (j : Nat) (u : Value), (ws.map (Value.int .i64))[j]? = some u → w.cell? ((⟨b, o, none⟩ : Addr).add j) = some u := by
  intro j u hj
  obtain ⟨b', o', e, _, hc⟩ := h.cells hn
  cases e
  have hjl : j < ws.length := by
    have := (List.getElem?_eq_some_iff.1 hj).1
    rwa [List.length_map] at this
  simp [List.getElem?_eq_getElem hjl] at hj
  subst hj
  have := hc j (by rw [← h.len]; exact hjl)
  rw [show ws.getD j 0 = ws[j] by simp [List.getD, List.getElem?_eq_getElem hjl]] at this
  unfold Addr.add
  split
  · rename_i h0; subst h0; exact this
  · exact this
set_option maxRecDepth 20000 in
set_option maxHeartbeats 4000000 in
theorem l2copy_c (p : Option Addr) (n c : Nat) (top : Int) (ws : List Int) (w : World) (h : Is w p n c ws) (hn : 0 < n) (hn2 : n ≤ 1048576) :
    Calls Tryd.prog 47 #[.agg #[.slice p n c, .int .i64 top]] w fun e w' => ∃ g cap, e = .returned (.agg #[.slice (some ⟨g, 0, none⟩) n cap, .int .i64 top]) ∧ w.heap.size ≤ g ∧ Fr w' g n cap ws ∧ Below w.heap.size w w' := by
  have HI : Hid (Is w p n c ws) := h
  obtain ⟨b, o, rfl, hbl, _⟩ := h.cells hn
  have hlen : Hid (ws.length = n) := h.len
  clear h
  obtain ⟨i3, hi3, hz3, hs3, hb3⟩ := info3'
  have HI3 : Hid (Tryd.prog.info? 3 = some i3 ∧ i3.zero = some (.int .i64 0) ∧ i3.size = 1 ∧ i3.bytes = 8) := ⟨hi3, hz3, hs3, hb3⟩
  clear hi3 hz3 hs3 hb3
  have HIB : Hid (Is ((w.alloc (.cells #[.slice (some ⟨b, o, none⟩) n c, .int .i64 top] 25)).alloc (.cells #[.slice none 0 0, .int .i64 0] 25)) (some ⟨b, o, none⟩) n c ws) := HI.out.below (below2 _ _ _)
  go_enter Tryd.func47, Tryd.ntmps47
  go_wp2_with (at_builtin; refine wpList_append_own _ rfl (.tmp 4) (.tmp 6) 23 rfl (w.heap.size + 2) 3 i3 (.int .i64 0) 1 8 Tryd.underlying23 HI3.out.1 HI3.out.2.1 HI3.out.2.2.1 HI3.out.2.2.2 rfl (by decide) (.slice none 0 0) 0 [] (by simp [Act.eval]) ⟨rfl, Or.inl ⟨rfl, rfl⟩⟩ ⟨b, o, none⟩ n c (ws.map (Value.int .i64)) (by simp [Act.eval]) (by rw [List.length_map, hlen.out]; omega) (cells_of_is HIB.out hn) (by intro v hv; obtain ⟨x, _, rfl⟩ := List.mem_map.1 hv; rfl) (by unfold maxLen; omega) (by omega) (by simp <;> omega) ?_; intro v' w' ho hg _; have HG : Hid (Below ((w.alloc (.cells #[.slice (some ⟨b, o, none⟩) n c, .int .i64 top] 25)).alloc (.cells #[.slice none 0 0, .int .i64 0] 25)).heap.size ((w.alloc (.cells #[.slice (some ⟨b, o, none⟩) n c, .int .i64 top] 25)).alloc (.cells #[.slice none 0 0, .int .i64 0] 25)) w') := (Below.refl _ _).grown hg (Nat.le_refl _) (fun k hk => by cases hk); have ho2 := ho; rw [Nat.zero_add, List.nil_append] at ho2; obtain ⟨g, cap, rfl, hgg, hfr⟩ := Fr.of_owns ho2 hn hlen.out; have HFR : Hid (Fr w' g n cap ws) := hfr; have HGE : Hid (w.heap.size + 2 ≤ g) := hgg; clear hfr hgg ho2; have hx1 := (((Bx.new w (some ⟨b, o, none⟩) n c top 25).below (below1 _ _)).below HG.out).c1; have HR : Hid (BxW w' (w.heap.size + 1) none 0 0 0) := (by have := (BxW.new (w.alloc (.cells #[.slice (some ⟨b, o, none⟩) n c, .int .i64 top] 25)) none 0 0 0 25).below HG.out; unfold Hid; simpa using this); have r0 := HR.out.bx.c0; have r1 := HR.out.bx.c1; have rf0 := HR.out.f0; have rf1 := HR.out.f1; clear ho hg)
  have hg := HGE.out
  refine bodyPost_ret (v := .agg #[.slice (some ⟨g, 0, none⟩) n cap, .int .i64 top]) (by simp [results, Tryd.results47, go_sem, r0, r1]) rfl ⟨g, cap, rfl, by omega, (HFR.out.setOther (by simp; omega) _).setOther (by simp; omega) _, (((below_alloc (below_alloc HG.out)).setCell (by simp) _).setCell (by simp) _)⟩
end Go.Proofs.YtmmkpmgidoelpaaDoor.Hp
