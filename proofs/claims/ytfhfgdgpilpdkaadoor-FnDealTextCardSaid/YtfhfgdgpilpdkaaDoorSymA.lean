/- Chapter 3: applySymmetries over symmetries taken by contract; the program's MirrorDeal. -/
import Derived.Test.YtfhfgdgpilpdkaaDoorSym
import Derived.Test.YtfhfgdgpilpdkaaDoorL03s
namespace Go.Proofs.YtfhfgdgpilpdkaaDoor.Lib1
open Go.RowKit
set_option maxRecDepth 100000

def iterN (g : List (List Int) → List (List Int)) : Nat → List (List Int) → List (List Int)
  | 0, z => z
  | k + 1, z => g (iterN g k z)
theorem iterN_deal {g : List (List Int) → List (List Int)} (hg : ∀ z, dealB z = true → dealB (g z) = true) {z : List (List Int)} (h : dealB z = true) : ∀ k, dealB (iterN g k z) = true
  | 0 => h
  | k + 1 => hg _ (iterN_deal hg h k)
theorem RdR.all {w : World} {lo hi : Nat} {A : Option Addr} {n : Nat} {zss : List (List Int)} (r : RdR w lo hi A n zss) : RdR w 0 w.heap.size A n zss := by
  obtain ⟨h0, B, C, h1, h2⟩ := r
  refine ⟨h0, B, C, fun hn => ?_, fun j hj => ⟨(h2 j hj).1.all, (h2 j hj).2⟩⟩
  obtain ⟨b, off, e, _, _, hc⟩ := h1 hn
  exact ⟨b, off, e, Nat.zero_le _, lt_of_cell (hc 0 hn), hc⟩
theorem OwnVR.own4 {w : World} {base : Nat} {v : Value} {zss : List (List Int)} (h : OwnVR w base v zss) (h4 : zss.length = 4) : ∃ b c, v = .slice (some ⟨b, 0, none⟩) 4 c ∧ 4 ≤ c ∧ c ≤ maxLen ∧ OwnR w base w.heap.size (some ⟨b, 0, none⟩) 4 zss := by
  have hk := h
  obtain ⟨A, c, e, hc, ho⟩ := h.own
  obtain ⟨B, C, h1, _, _⟩ := hk
  rcases h1.2 with ⟨_, h0⟩ | ⟨g, cap, cur, e2, _, _, _, k2, _⟩
  · omega
  · rw [e] at e2
    injection e2 with e3 _ e4
    subst e3 e4
    rw [h4] at e hc ho
    exact ⟨g, c, e, hc, k2, ho⟩


theorem one_cell {w : World} {g : Nat} {v : Value} (h : w.cell? ⟨g, 0, none⟩ = some v) : ∀ j, j < 1 → w.cell? ⟨g, 0 + j, none⟩ = some v := by
  intro j hj
  obtain rfl : j = 0 := by omega
  exact h

end Go.Proofs.YtfhfgdgpilpdkaaDoor.Lib1
