/- Chapter 3: the model's copies of deals: l03Own. -/
import Derived.Test.YteglffbeldlibaaS03
import Derived.Test.YteglffbeldlibaaNests
import Derived.Deep.RegionLaw
namespace Go.Proofs.Yteglffbeldlibaa.Lib1
open Go.RowKit
set_option maxRecDepth 100000

/-- A function hands back a deal of its own. -/
def RetD (w : World) (zss : List (List Int)) (e : Ending) (w' : World) : Prop :=
  ∃ A c, e = .returned (.agg #[.slice A zss.length c]) ∧ zss.length ≤ c ∧ OwnR w' w.heap.size w'.heap.size A zss.length zss ∧ Chg w w' 0 0

theorem take_row {zss : List (List Int)} {k : Nat} (h : k < zss.length) : zss.take (k + 1) = zss.take k ++ [zss.getD k []] := by rw [List.take_succ_eq_append_getElem h, getD_row h]
theorem cell_below {w w' : World} {B : Nat} {a : Addr} {v : Value} (h : w.cell? a = some v) (b : Below B w w') (ha : a.block < B) : w'.cell? a = some v := by
  rw [World.cell?_of_block (b.block _ ha)]; exact h
/-- The three boxes of a function that makes a deal: its argument, its result, the deal that it makes. -/
structure Boxes (w wr : World) (x r v : Value) : Prop where
  b0 : wr.heap[w.heap.size]? = some (.cells #[x] 26 (0, 0))
  b1 : wr.heap[w.heap.size + 1]? = some (.cells #[r] 26 (0, 0))
  b2 : wr.heap[w.heap.size + 1 + 1]? = some (.cells #[v] 26 (0, 0))
theorem Boxes.start (w : World) (x r v : Value) : Boxes w (((w.alloc (.cells #[x] 26)).alloc (.cells #[r] 26)).alloc (.cells #[v] 26)) x r v := by
  have h0 := heap_alloc_new w (.cells #[x] 26)
  have h1 := heap_alloc_new (w.alloc (.cells #[x] 26)) (.cells #[r] 26)
  have h2 := heap_alloc_new ((w.alloc (.cells #[x] 26)).alloc (.cells #[r] 26)) (.cells #[v] 26)
  simp only [World.size_alloc] at h1 h2
  exact ⟨(Below.heap_alloc _ _ _ (by simp; omega)).trans ((Below.heap_alloc _ _ _ (by simp)).trans h0), (Below.heap_alloc _ _ _ (by simp)).trans h1, h2⟩
theorem Boxes.c0 {w wr : World} {x r v : Value} (h : Boxes w wr x r v) : wr.cell? ⟨w.heap.size, 0, none⟩ = some x := by rw [cell_of_row _ _ _ _ _ _ h.b0]; rfl
theorem Boxes.c2 {w wr : World} {x r v : Value} (h : Boxes w wr x r v) : wr.cell? ⟨w.heap.size + 1 + 1, 0, none⟩ = some v := by rw [cell_of_row _ _ _ _ _ _ h.b2]; rfl
theorem Boxes.c1 {w wr : World} {x r v : Value} (h : Boxes w wr x r v) : wr.cell? ⟨w.heap.size + 1, 0, none⟩ = some r := by rw [cell_of_row _ _ _ _ _ _ h.b1]; rfl
theorem Boxes.f1 {w wr : World} {x r v : Value} (h : Boxes w wr x r v) : wr.frozen? ⟨w.heap.size + 1, 0, none⟩ = false := by simp [World.frozen?, h.b1]
theorem Boxes.ret {w wr : World} {x r v : Value} (h : Boxes w wr x r v) (u : Value) : (wr.setCell ⟨w.heap.size + 1, 0, none⟩ u).cell? ⟨w.heap.size + 1, 0, none⟩ = some u := by
  rw [cell_of_row _ _ _ #[u] 26 (0, 0) (by simp [World.setCell, Array.getElem?_modify, h.b1])]; rfl
theorem Boxes.f2 {w wr : World} {x r v : Value} (h : Boxes w wr x r v) : wr.frozen? ⟨w.heap.size + 1 + 1, 0, none⟩ = false := by simp [World.frozen?, h.b2]
theorem Boxes.below {w wr w' : World} {x r v : Value} (h : Boxes w wr x r v) (b : Below (w.heap.size + 3) wr w') : Boxes w w' x r v :=
  ⟨(b.block _ (by omega)).trans h.b0, (b.block _ (by omega)).trans h.b1, (b.block _ (by omega)).trans h.b2⟩
theorem Boxes.put {w wr : World} {x r v : Value} (h : Boxes w wr x r v) (u : Value) : Boxes w (wr.setCell ⟨w.heap.size + 1 + 1, 0, none⟩ u) x r u :=
  ⟨(Below.heap_setCell _ _ _ _ (by show w.heap.size ≠ w.heap.size + 1 + 1; omega)).trans h.b0, (Below.heap_setCell _ _ _ _ (by show w.heap.size + 1 ≠ w.heap.size + 1 + 1; omega)).trans h.b1, by simp [World.setCell, Array.getElem?_modify, h.b2]⟩


end Go.Proofs.Yteglffbeldlibaa.Lib1
