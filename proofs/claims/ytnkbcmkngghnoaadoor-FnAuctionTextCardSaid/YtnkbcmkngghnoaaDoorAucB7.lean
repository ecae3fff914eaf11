/- Chapter 7: the model's LegalCalls and AddCall. -/
import Derived.Test.YtnkbcmkngghnoaaDoorAucA7
namespace Go.Proofs.YtnkbcmkngghnoaaDoor.Lib1
open Go.RowKit
set_option maxRecDepth 100000

/-- The legal calls among the first k. -/
def legalTo (zs : List Int) (n : Nat) : Nat → List Int
  | 0 => []
  | k + 1 => legalTo zs n k ++ if legTo zs n (k : Int) then [(k : Int)] else []
def legalV (d : Int) (zs : List Int) (n : Nat) : List Int := if (inB d 0 3 && validTo zs n) && !overTo zs n then legalTo zs n 38 else []
theorem legalTo_len (zs : List Int) (n : Nat) : ∀ k, (legalTo zs n k).length ≤ k
  | 0 => Nat.le_refl _
  | k + 1 => by have := legalTo_len zs n k; rw [legalTo, List.length_append]; split <;> simp <;> omega
theorem ABox.below {w w' : World} {B g : Nat} {d : Int} {A : Option Addr} {n c : Nat} (h : ABox w g d A n c) (b : Below B w w') (hB : g < B) : ABox w' g d A n c := (b.block g hB).trans h
theorem seatV_range (d : Int) (zs : List Int) (n : Nat) : seatV d zs n = -1 ∨ 0 ≤ seatV d zs n := by unfold seatV; split <;> omega


end Go.Proofs.YtnkbcmkngghnoaaDoor.Lib1
