/- A block of several cells, whole: read, written, kept. -/
import Derived.Test.YteglffbeldlibaaCall6
import Derived.Deep.MidRow
namespace Go.Proofs.Yteglffbeldlibaa.Lib1
open Go.RowKit
set_option maxRecDepth 100000

/-- Block g holds these cells of type t. -/
def SBox (w : World) (t : TypeId) (g : Nat) (cs : Array Value) : Prop := w.heap[g]? = some (.cells cs t (0, 0))
section
variable {w w' : World} {t : TypeId} {g : Nat} {cs : Array Value}
theorem SBox.new (w : World) (t : TypeId) (cs : Array Value) : SBox (w.alloc (.cells cs t)) t w.heap.size cs := heap_alloc_new w _
theorem SBox.row (w : World) (t : TypeId) (old cs : Array Value) : SBox ((w.alloc (.cells old t)).setRow w.heap.size cs) t w.heap.size cs := setRow_heap _ _ old cs _ _ (heap_alloc_new w _)
theorem chg_row (w : World) (t : TypeId) (old cs : Array Value) : Chg w ((w.alloc (.cells old t)).setRow w.heap.size cs) 0 0 := (Chg.of_alloc w (.cells old t) 0 0).rowC (Nat.le_refl _) cs
theorem row_size (w : World) (t : TypeId) (old cs : Array Value) : ((w.alloc (.cells old t)).setRow w.heap.size cs).heap.size = w.heap.size + 1 := by rw [setRow_size]; simp
theorem SBox.lt (h : SBox w t g cs) : g < w.heap.size := lt_of_block h
theorem SBox.still (h : SBox w t g cs) (c : Chg w w' 0 0) : SBox w' t g cs := (c.block g (lt_of_block h) (.inr (Nat.zero_le _))).trans h
theorem SBox.chg {lo hi : Nat} (h : SBox w t g cs) (c : Chg w w' lo hi) (hd : g < lo ∨ hi ≤ g) : SBox w' t g cs := (c.block g (lt_of_block h) hd).trans h
theorem SBox.range (h : SBox w t g cs) : w.rangeAt g 0 cs.toList := fun j v hv => by
  rw [cell_of_row w g (0 + j) cs t _ h, Nat.zero_add]
  simpa using hv
theorem SBox.cell (h : SBox w t g cs) (i : Nat) : w.cell? ⟨g, i, none⟩ = cs[i]? := cell_of_row w g i cs t _ h
end
theorem set_heapS {w : World} {g : Nat} {C : Array Value} {t : TypeId} {fz : Nat × Nat} (h : w.heap[g]? = some (.cells C t fz)) (i : Nat) (u : Value) : (w.setCell ⟨g, i, none⟩ u).heap[g]? = some (.cells (C.setIfInBounds i u) t fz) := by
  simp [World.setCell, Array.getElem?_modify, h]
theorem set_otherS (w : World) (g k i : Nat) (u : Value) (h : k ≠ g) : (w.setCell ⟨g, i, none⟩ u).heap[k]? = w.heap[k]? := by
  simp [World.setCell, Array.getElem?_modify]
  intro e; exact absurd e.symm h
theorem Chg.setS {w wr : World} {g i : Nat} {v : Value} (h : Chg w wr 0 0) (hg : w.heap.size ≤ g) : Chg w (wr.setCell ⟨g, i, none⟩ v) 0 0 := h.cell hg
end Go.Proofs.Yteglffbeldlibaa.Lib1
