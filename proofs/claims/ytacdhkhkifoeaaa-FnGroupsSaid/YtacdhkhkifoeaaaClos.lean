/- Chapter 3: the program's ExchangeCards. -/
import Derived.Test.YtacdhkhkifoeaaaReplI
import Derived.Test.YtacdhkhkifoeaaaS03r
import Derived.Deep.RegionLaw
namespace Go.Proofs.Ytacdhkhkifoeaaa.Lib1
open Go.RowKit
set_option maxRecDepth 100000

/-! ### Boxes -/
def BoxAt (w : World) (g : Nat) (v : Value) (t : TypeId) : Prop := w.heap[g]? = some (.cells #[v] t (0, 0))
section
variable {w w' : World} {g : Nat} {v : Value} {t : TypeId}
theorem BoxAt.new (w : World) (v : Value) (t : TypeId) {g : Nat} (hg : w.heap.size = g) : BoxAt (w.alloc (.cells #[v] t)) g v t := by subst hg; exact heap_alloc_new w _
theorem BoxAt.lt (h : BoxAt w g v t) : g < w.heap.size := lt_of_block h
theorem BoxAt.alloc (h : BoxAt w g v t) (o : Obj) : BoxAt (w.alloc o) g v t := (Below.heap_alloc _ _ _ h.lt).trans h
theorem BoxAt.still (h : BoxAt w g v t) (c : Chg w w' 0 0) : BoxAt w' g v t := (c.block _ h.lt (.inr (Nat.zero_le _))).trans h
theorem BoxAt.c (h : BoxAt w g v t) : w.cell? ⟨g, 0, none⟩ = some v := by rw [cell_of_row _ _ _ _ _ _ h]; rfl
theorem BoxAt.f (h : BoxAt w g v t) : w.frozen? ⟨g, 0, none⟩ = false := by simp [World.frozen?, show w.heap[g]? = _ from h]
theorem BoxAt.ret (h : BoxAt w g v t) (u : Value) : (w.setCell ⟨g, 0, none⟩ u).cell? ⟨g, 0, none⟩ = some u := by
  rw [cell_of_row _ _ _ #[u] t (0, 0) (by simp [World.setCell, Array.getElem?_modify, show w.heap[g]? = _ from h])]; rfl
theorem BoxAt.drew (h : BoxAt w g v t) : BoxAt w.drew g v t := h
end



end Go.Proofs.Ytacdhkhkifoeaaa.Lib1
