/- Chapter 3: the draws of deals, any kind. -/
import Derived.Test.YteglffbeldlibaaDraw3
import Derived.Deep.RegionLaw
namespace Go.Proofs.Yteglffbeldlibaa.Lib1
open Go.RowKit
set_option maxRecDepth 100000

/-- Four rows that are read, in a block of the call's own. -/
def HalfR (w : World) (lo b : Nat) (zss : List (List Int)) : Prop := zss.length = 4 ∧ lo ≤ b ∧ b < w.heap.size ∧ ∃ (cs : Array Value) (B : Nat → Option Addr) (C : Nat → Nat),
  w.heap[b]? = some (.cells cs 27 (0, 0)) ∧ (∀ j, j < 4 → cs[j]? = some (.slice (B j) (zss.getD j []).length (C j))) ∧
  ∀ j, j < 4 → Rd w lo w.heap.size (B j) (zss.getD j []).length (zss.getD j []) ∧ (zss.getD j []).length ≤ C j ∧ Plain (B j) (C j) ∧ (0 < (zss.getD j []).length → ∀ x, B j = some x → x.block ≠ b)
theorem HalfR.of_own {w : World} {lo b : Nat} {zss : List (List Int)} (h : OwnR w lo w.heap.size (some ⟨b, 0, none⟩) 4 zss) : HalfR w lo b zss := by
  obtain ⟨hz, B, C, h1, h2, _⟩ := h
  obtain ⟨b', cs, e, l1, l2, hb, hcs, hne⟩ := h1 (by omega)
  obtain rfl : b = b' := by injection e with e; injection e
  exact ⟨hz, l1, l2, cs, B, C, hb, hcs, fun j hj => ⟨(h2 j hj).1.rd, (h2 j hj).2.1, (h2 j hj).2.2, hne j hj⟩⟩
theorem HalfR.chg {w w' : World} {lo b l h : Nat} {zss : List (List Int)} (r : HalfR w lo b zss) (c : Chg w w' l h) (hh : h ≤ lo) : HalfR w' lo b zss := by
  obtain ⟨hz, l1, l2, cs, B, C, hb, hcs, hr⟩ := r
  exact ⟨hz, l1, Nat.lt_of_lt_of_le l2 c.size, cs, B, C, (c.block b l2 (.inr (by omega))).trans hb, hcs, fun j hj => ⟨((hr j hj).1.chg c (.inr hh)).more (Nat.le_refl _) c.size, (hr j hj).2⟩⟩
theorem HalfR.more {w : World} {lo lo' b : Nat} {zss : List (List Int)} (r : HalfR w lo b zss) (h : lo' ≤ lo) : HalfR w lo' b zss := by
  obtain ⟨hz, l1, l2, cs, B, C, hb, hcs, hr⟩ := r
  exact ⟨hz, by omega, l2, cs, B, C, hb, hcs, fun j hj => ⟨(hr j hj).1.more h (Nat.le_refl _), (hr j hj).2⟩⟩
theorem HalfR.at_ {w : World} {lo b : Nat} {zss : List (List Int)} (r : HalfR w lo b zss) {j : Nat} (hj : j < 4) : ∃ B C, w.cell? ⟨b, j, none⟩ = some (.slice B (zss.getD j []).length C) ∧ w.frozen? ⟨b, j, none⟩ = false ∧ Rd w lo w.heap.size B (zss.getD j []).length (zss.getD j []) ∧ (zss.getD j []).length ≤ C ∧ Plain B C ∧ (0 < (zss.getD j []).length → ∀ x, B = some x → x.block ≠ b) := by
  obtain ⟨hz, l1, l2, cs, B, C, hb, hcs, hr⟩ := r
  exact ⟨B j, C j, by rw [cell_of_row _ _ _ _ _ _ hb]; exact hcs j hj, by simp [World.frozen?, hb], hr j hj⟩
theorem HalfR.set {w : World} {lo b i : Nat} {zss : List (List Int)} (r : HalfR w lo b zss) (hi : i < 4) {D : Option Addr} {dc : Nat} {ys : List Int} (hr : Rd w lo w.heap.size D ys.length ys) (hc : ys.length ≤ dc) (hp : Plain D dc) (hne : 0 < ys.length → ∀ x, D = some x → x.block ≠ b) :
    HalfR (w.setCell ⟨b, i, none⟩ (.slice D ys.length dc)) lo b (zss.set i ys) := by
  obtain ⟨hz, l1, l2, cs, B, C, hb, hcs, hrw⟩ := r
  have hsz : (w.setCell ⟨b, i, none⟩ (.slice D ys.length dc)).heap.size = w.heap.size := by simp [World.setCell]
  have hics : i < cs.size := by
    rcases Nat.lt_or_ge i cs.size with q | q
    · exact q
    · have := hcs i hi; rw [Array.getElem?_eq_none q] at this; cases this
  have far : ∀ {A : Option Addr} {n : Nat} {zs : List Int}, Rd w lo w.heap.size A n zs → (0 < n → ∀ x, A = some x → x.block ≠ b) → Rd (w.setCell ⟨b, i, none⟩ (.slice D ys.length dc)) lo w.heap.size A n zs := by
    intro A n zs q hq
    refine ⟨q.1, fun hn => ?_⟩
    obtain ⟨d, off, e, m1, m2, hcd⟩ := q.2 hn
    have hdb : d ≠ b := hq hn _ e
    exact ⟨d, off, e, m1, m2, fun j hj => by rw [World.cell?_of_block (Below.heap_setCell _ _ _ _ hdb)]; exact hcd j hj⟩
  refine ⟨by rw [List.length_set]; exact hz, l1, by rw [hsz]; exact l2, cs.setIfInBounds i (.slice D ys.length dc), fun j => if j = i then D else B j, fun j => if j = i then dc else C j, by simp [World.setCell, Array.getElem?_modify, hb], fun j hj => ?_, fun j hj => ?_⟩
  · rw [rset_getD _ _ _ _ (by omega), Array.getElem?_setIfInBounds]
    dsimp only
    by_cases e : i = j
    · subst e; simp [hics]
    · have e' : ¬ j = i := fun q => e q.symm
      rw [if_neg e, if_neg e', if_neg e', if_neg e']; exact hcs j hj
  · rw [rset_getD _ _ _ _ (by omega), hsz]
    dsimp only
    by_cases e : j = i
    · rw [if_pos e, if_pos e, if_pos e]; exact ⟨far hr hne, hc, hp, hne⟩
    · rw [if_neg e, if_neg e, if_neg e]
      obtain ⟨q1, q2, q3, q4⟩ := hrw j hj
      exact ⟨far q1 q4, q2, q3, q4⟩
theorem HalfR.rdr {w : World} {lo b : Nat} {zss : List (List Int)} (r : HalfR w lo b zss) : RdR w lo w.heap.size (some ⟨b, 0, none⟩) 4 zss := by
  obtain ⟨hz, l1, l2, cs, B, C, hb, hcs, hr⟩ := r
  exact ⟨hz, B, C, fun _ => ⟨b, 0, rfl, l1, l2, fun j hj => by rw [Nat.zero_add, cell_of_row _ _ _ _ _ _ hb]; exact hcs j hj⟩, fun j hj => ⟨(hr j hj).1, (hr j hj).2.1, plain_nil (hr j hj).2.2.1⟩⟩
theorem HalfR.three {w : World} {lo b : Nat} {zss : List (List Int)} (r : HalfR w lo b zss) : RdR w lo w.heap.size (some ⟨b, 0, none⟩) 3 (zss.take 3) := by
  obtain ⟨hz, l1, l2, cs, B, C, hb, hcs, hr⟩ := r
  have e : ∀ j, j < 3 → (zss.take 3).getD j [] = zss.getD j [] := fun j hj => by simp [List.getD, hj]
  refine ⟨by simp; omega, B, C, fun _ => ⟨b, 0, rfl, l1, l2, fun j hj => ?_⟩, fun j hj => ?_⟩
  · rw [Nat.zero_add, cell_of_row _ _ _ _ _ _ hb, e j hj]; exact hcs j (by omega)
  · rw [e j hj]; exact ⟨(hr j (by omega)).1, (hr j (by omega)).2.1, plain_nil (hr j (by omega)).2.2.1⟩
/-- A deal was drawn, or something that is none. -/
def DrewAny (g : Nat) (w : World) (e : Ending) (w' : World) : Prop :=
  ∃ A n c zss, e = .returned (.agg #[.slice A n c]) ∧ n ≤ 4 ∧ n ≤ c ∧ RdR w' w.heap.size w'.heap.size A n zss ∧ (∀ j, (zss.getD j []).length ≤ 15) ∧ Src w' g ∧ Chg w w' g (g + 1)
def Rows15 (zss : List (List Int)) : Prop := ∀ j, (zss.getD j []).length ≤ 15
theorem rows15_of {zss : List (List Int)} {n : Nat} (hz : zss.length = 4) (hn : n ≤ 15) (h : ∀ j, j < 4 → (zss.getD j []).length = n) : Rows15 zss := by
  intro j
  by_cases hj : j < 4
  · rw [h j hj]; exact hn
  · rw [List.getD_eq_getElem?_getD, List.getElem?_eq_none (by omega)]; simp
theorem rows15_set {zss : List (List Int)} {i : Nat} {ys : List Int} (h : Rows15 zss) (hi : i < zss.length) (hy : ys.length ≤ 15) : Rows15 (zss.set i ys) := by
  intro j
  rw [rset_getD _ _ _ _ hi]
  split
  · exact hy
  · exact h j
theorem rows15_take {zss : List (List Int)} (h : Rows15 zss) : Rows15 (zss.take 3) := by
  intro j
  by_cases hj : j < 3
  · have := h j; simpa [List.getD, hj] using this
  · rw [List.getD_eq_getElem?_getD, List.getElem?_eq_none (by simp; omega)]; simp

end Go.Proofs.Yteglffbeldlibaa.Lib1
