/- Boxes beside stores. -/
import Derived.Test.YteglffbeldlibaaSetR5
namespace Go.Proofs.Yteglffbeldlibaa.Lib1
open Go.RowKit
set_option maxRecDepth 100000

theorem BoxAt.set {w : World} {g p i : Nat} {v u : Value} {t : TypeId} (h : BoxAt w p v t) (hne : p ≠ g) : BoxAt (w.setCell ⟨g, i, none⟩ u) p v t := (Below.heap_setCell _ _ _ _ hne).trans h
theorem OwnR.addr {w : World} {lo hi : Nat} {A : Option Addr} {n : Nat} {zss : List (List Int)} (h : OwnR w lo hi A n zss) (hn : 0 < n) : ∃ b, A = some ⟨b, 0, none⟩ ∧ lo ≤ b ∧ b < hi := by
  obtain ⟨_, _, _, h1, _⟩ := h
  obtain ⟨b, _, e, l1, l2, _⟩ := h1 hn
  exact ⟨b, e, l1, l2⟩
theorem Below.setAt {B g i : Nat} {w W : World} {u : Value} (h : Below B w W) (hg : B ≤ g) : Below B w (W.setCell ⟨g, i, none⟩ u) :=
  h.trans ⟨rfl, rfl, rfl, by simp [World.setCell], fun k hk => Below.heap_setCell _ _ _ _ (by show k ≠ g; omega)⟩

end Go.Proofs.Yteglffbeldlibaa.Lib1
