/- Chapter 3: the model's RotateDeal. -/
import Derived.Test.YteglffbeldlibaaS03m
namespace Go.Proofs.Yteglffbeldlibaa.Lib1
open Go.RowKit
set_option maxRecDepth 100000

/-- The hand that seat s gets when a deal is turned by k. -/
def rotRow (zss : List (List Int)) (k : Int) (s : Nat) : List Int := zss.getD (((s : Int) + 4 - k) % 4).toNat []
def rotTo (zss : List (List Int)) (k : Int) : Nat → List (List Int)
  | 0 => []
  | s + 1 => rotTo zss k s ++ [rotRow zss k s]
def rotV (zss : List (List Int)) (k : Int) : List (List Int) := if dealB zss && inB k 0 3 then rotTo zss k 4 else []
def rotE (zss : List (List Int)) (k : Int) : Int := if dealB zss then (if inB k 0 3 then 0 else 2) else 1
theorem rotTo_length (zss : List (List Int)) (k : Int) : ∀ s, (rotTo zss k s).length = s
  | 0 => rfl
  | s + 1 => by simp [rotTo, rotTo_length zss k s]

/-- A function hands back a deal of its own and a number. -/
def RetDI (w : World) (zss : List (List Int)) (x : Int) (e : Ending) (w' : World) : Prop :=
  ∃ A c, e = .returned (.tuple #[.agg #[.slice A zss.length c], .int .i64 x]) ∧ zss.length ≤ c ∧ OwnR w' w.heap.size w'.heap.size A zss.length zss ∧ Chg w w' 0 0

/-- The boxes of a function that makes a deal late: its argument, its result, and, at g, the deal. -/
structure BoxG (w wr : World) (g : Nat) (x r v : Value) : Prop where
  b0 : wr.heap[w.heap.size]? = some (.cells #[x] 26 (0, 0))
  b1 : wr.heap[w.heap.size + 1]? = some (.cells #[r] 26 (0, 0))
  b2 : wr.heap[g]? = some (.cells #[v] 26 (0, 0))
theorem BoxG.c0 {w wr : World} {g : Nat} {x r v : Value} (h : BoxG w wr g x r v) : wr.cell? ⟨w.heap.size, 0, none⟩ = some x := by rw [cell_of_row _ _ _ _ _ _ h.b0]; rfl
theorem BoxG.c1 {w wr : World} {g : Nat} {x r v : Value} (h : BoxG w wr g x r v) : wr.cell? ⟨w.heap.size + 1, 0, none⟩ = some r := by rw [cell_of_row _ _ _ _ _ _ h.b1]; rfl
theorem BoxG.c2 {w wr : World} {g : Nat} {x r v : Value} (h : BoxG w wr g x r v) : wr.cell? ⟨g, 0, none⟩ = some v := by rw [cell_of_row _ _ _ _ _ _ h.b2]; rfl
theorem BoxG.f1 {w wr : World} {g : Nat} {x r v : Value} (h : BoxG w wr g x r v) : wr.frozen? ⟨w.heap.size + 1, 0, none⟩ = false := by simp [World.frozen?, h.b1]
theorem BoxG.f2 {w wr : World} {g : Nat} {x r v : Value} (h : BoxG w wr g x r v) : wr.frozen? ⟨g, 0, none⟩ = false := by simp [World.frozen?, h.b2]
theorem BoxG.below {w wr w' : World} {g : Nat} {x r v : Value} (h : BoxG w wr g x r v) (b : Below (g + 1) wr w') (hg : w.heap.size + 2 ≤ g) : BoxG w w' g x r v :=
  ⟨(b.block _ (by omega)).trans h.b0, (b.block _ (by omega)).trans h.b1, (b.block _ (by omega)).trans h.b2⟩
theorem BoxG.put {w wr : World} {g : Nat} {x r v : Value} (h : BoxG w wr g x r v) (hg : w.heap.size + 2 ≤ g) (u : Value) : BoxG w (wr.setCell ⟨g, 0, none⟩ u) g x r u :=
  ⟨(Below.heap_setCell _ _ _ _ (by show w.heap.size ≠ g; omega)).trans h.b0, (Below.heap_setCell _ _ _ _ (by show w.heap.size + 1 ≠ g; omega)).trans h.b1, by simp [World.setCell, Array.getElem?_modify, h.b2]⟩
theorem BoxG.ret {w wr : World} {g : Nat} {x r v : Value} (h : BoxG w wr g x r v) (u : Value) : (wr.setCell ⟨w.heap.size + 1, 0, none⟩ u).cell? ⟨w.heap.size + 1, 0, none⟩ = some u := by
  rw [cell_of_row _ _ _ #[u] 26 (0, 0) (by simp [World.setCell, Array.getElem?_modify, h.b1])]; rfl
theorem BoxG.start {w w1 : World} {x r : Value} (h : Box2 w w1 x r) (v : Value) : BoxG w (w1.alloc (.cells #[v] 26)) w1.heap.size x r v :=
  ⟨(Below.heap_alloc _ _ _ (lt_of_block h.b0)).trans h.b0, (Below.heap_alloc _ _ _ (lt_of_block h.b1)).trans h.b1, heap_alloc_new _ _⟩


end Go.Proofs.Yteglffbeldlibaa.Lib1
