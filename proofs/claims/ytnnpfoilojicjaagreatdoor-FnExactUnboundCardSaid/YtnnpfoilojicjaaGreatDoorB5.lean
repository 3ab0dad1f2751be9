import Derived.Test.YtnnpfoilojicjaaGreatDoorB2
namespace Go.Proofs.YtnnpfoilojicjaaGreatDoor
open Go.RowKit Ch1
namespace Cp
theorem l5lambda_c {c : Cx} {N k : Nat} {st : St} (hE : ExC c k) (p : Option Addr) (n d : Nat) (xs : List Nat) (tail : Bool) (w : World) (r : Option (List (List Int))) (hr : r = lamR k (rd (st.gl.map (·.x)) k) st.sc (Cp.at_ c xs)) (h : Inv c N w st) (hx : Ix st w p n d xs) (hp : Pcs c k xs) (hN : N + sumB k (Cp.at_ c xs) + 9000 ≤ 1000000000) (hb : st.bo + sumS k (Cp.at_ c xs) ≤ 3000) :
  Calls Tryz.prog 137 #[.pointer (some ⟨st.ab, 0, none⟩), .slice p n d, .bool tail] w fun e w' => (∃ u, e = .returned u) ∧ SpP c N k st xs r w w' := by
 by_cases hn : n < 2
 ·rw [hr, lamR_short (by rw [hx.len]; exact hn)]
  exact l5lamw_c p n d xs tail w h hn (by omega)
 ·obtain ⟨m, rfl⟩ : ∃ m, n = m + 2 := ⟨n - 2, by omega⟩
  cases xs with
  | nil => have := hx.len; simp at this
  | cons x0 bs =>
   by_cases hls : isLs (c.ds.drop x0) = true
   ·exact l5lam_c tail hE p m d x0 bs w r hr h hx hp hls hN hb
   ·rw [hr, lamR_bad (by simpa using hls)]
    exact l5lamn_c p (m + 2) d x0 bs tail w h hx hp (by omega) (by simpa using hls) (by omega)
end Cp
end Go.Proofs.YtnnpfoilojicjaaGreatDoor
