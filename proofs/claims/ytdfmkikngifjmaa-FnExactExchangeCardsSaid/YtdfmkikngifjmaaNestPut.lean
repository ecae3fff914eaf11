/- One row of a slice of slices replaced by a younger one. -/
import Derived.Test.YtdfmkikngifjmaaS03m
namespace Go.Proofs.Ytdfmkikngifjmaa.Lib1
open Go.RowKit
set_option maxRecDepth 100000

theorem OwnR.put {w w1 : World} {lo hi b n : Nat} {zss : List (List Int)} (h : OwnR w lo hi (some ⟨b, 0, none⟩) n zss) {i : Nat} (hin : i < n) (c : Chg w w1 0 0) (hhi : hi ≤ w.heap.size)
    {D : Option Addr} {dc : Nat} {ys : List Int} (hr : Own w1 w.heap.size w1.heap.size D ys.length ys) (hc : ys.length ≤ dc) (hp : Plain D dc) :
    (∃ u, w1.cell? ⟨b, i, none⟩ = some u) ∧ w1.frozen? ⟨b, i, none⟩ = false ∧ lo ≤ b ∧ b < hi ∧
      OwnR (w1.setCell ⟨b, i, none⟩ (.slice D ys.length dc)) lo w1.heap.size (some ⟨b, 0, none⟩) n (zss.set i ys) := by
  obtain ⟨h0, B, C, h1, h2, h3⟩ := h
  obtain ⟨b', cs, e, l1, l2, hb, hcs, hsep⟩ := h1 (by omega)
  obtain rfl : b = b' := by injection e with e; injection e
  have hb1 : w1.heap[b]? = some (.cells cs 40 (0, 0)) := (c.block b (by omega) (.inr (Nat.zero_le _))).trans hb
  have hsz : ∀ k, k < n → k < cs.size := fun k hk => by
    rcases Nat.lt_or_ge k cs.size with q | q
    · exact q
    · have := hcs k hk; rw [Array.getElem?_eq_none q] at this; cases this
  have hlow : lo ≤ w.heap.size := by omega
  have hw1 := c.size
  refine ⟨⟨.slice (B i) (zss.getD i []).length (C i), by rw [cell_of_row _ _ _ _ _ _ hb1]; exact hcs i hin⟩, by simp [World.frozen?, hb1], l1, l2, ?_⟩
  have h2b : (w1.setCell ⟨b, i, none⟩ (.slice D ys.length dc)).heap[b]? = some (.cells (cs.setIfInBounds i (.slice D ys.length dc)) 40 (0, 0)) := by simp [World.setCell, Array.getElem?_modify, hb1]
  have hold : ∀ j, j < n → Own (w1.setCell ⟨b, i, none⟩ (.slice D ys.length dc)) lo w1.heap.size (B j) (zss.getD j []).length (zss.getD j []) := by
    intro j hj
    obtain ⟨q1, _⟩ := h2 j hj
    refine ⟨q1.1, fun hm => ?_⟩
    obtain ⟨d, ds, ed, m1, m2, hd, hds⟩ := q1.2 hm
    have hne : d ≠ b := fun e' => hsep j hj hm _ ed e'
    exact ⟨d, ds, ed, m1, by omega, (Below.heap_setCell _ _ _ _ hne).trans ((c.block d (by omega) (.inr (Nat.zero_le _))).trans hd), hds⟩
  have hnew : Own (w1.setCell ⟨b, i, none⟩ (.slice D ys.length dc)) lo w1.heap.size D ys.length ys := by
    refine ⟨hr.1, fun hm => ?_⟩
    obtain ⟨d, ds, ed, m1, m2, hd, hds⟩ := hr.2 hm
    exact ⟨d, ds, ed, by omega, m2, (Below.heap_setCell _ _ _ _ (by show d ≠ b; omega)).trans hd, hds⟩
  refine ⟨by rw [List.length_set]; exact h0, fun j => if j = i then D else B j, fun j => if j = i then dc else C j, fun _ => ⟨b, _, rfl, l1, by omega, h2b, fun j hj => ?_, fun j hj hl x hx => ?_⟩, fun j hj => ?_, fun p q hpq hq hp0 hq0 x y hx hy => ?_⟩
  · rw [rset_getD _ _ _ _ (by omega), Array.getElem?_setIfInBounds]
    dsimp only
    by_cases ej : i = j
    · subst ej; simp [hsz i hin]
    · have ej' : ¬ j = i := fun e => ej e.symm
      rw [if_neg ej, if_neg ej', if_neg ej', if_neg ej']; exact hcs j hj
  · dsimp only at hx
    rw [rset_getD _ _ _ _ (by omega)] at hl
    by_cases ej : j = i
    · rw [if_pos ej] at hx hl
      obtain ⟨d, ds, ed, m1, m2, hd, hds⟩ := hr.2 hl
      rw [hx] at ed
      injection ed with ed
      rw [ed]
      show d ≠ b
      omega
    · rw [if_neg ej] at hx hl
      exact hsep j hj hl x hx
  · rw [rset_getD _ _ _ _ (by omega)]
    dsimp only
    by_cases ej : j = i
    · rw [if_pos ej, if_pos ej, if_pos ej]; exact ⟨hnew, hc, hp⟩
    · rw [if_neg ej, if_neg ej, if_neg ej]; exact ⟨hold j hj, (h2 j hj).2⟩
  · dsimp only at hx hy
    rw [rset_getD _ _ _ _ (by omega)] at hp0 hq0
    by_cases ep : p = i
    · have eq : ¬ q = i := by omega
      rw [if_pos ep] at hx hp0
      rw [if_neg eq] at hy hq0
      obtain ⟨d, ds, ed, m1, m2, _, _⟩ := hr.2 hp0
      obtain ⟨g, gs, eg, k1, k2, _, _⟩ := (h2 q hq).1.2 hq0
      rw [hx] at ed; rw [hy] at eg
      injection ed with ed; injection eg with eg
      rw [ed, eg]; show d ≠ g; omega
    · rw [if_neg ep] at hx hp0
      by_cases eq : q = i
      · rw [if_pos eq] at hy hq0
        obtain ⟨d, ds, ed, m1, m2, _, _⟩ := hr.2 hq0
        obtain ⟨g, gs, eg, k1, k2, _, _⟩ := (h2 p (by omega)).1.2 hp0
        rw [hy] at ed; rw [hx] at eg
        injection ed with ed; injection eg with eg
        rw [ed, eg]; show g ≠ d; omega
      · rw [if_neg eq] at hy hq0
        exact h3 p q hpq hq hp0 hq0 x y hx hy

end Go.Proofs.Ytdfmkikngifjmaa.Lib1
