/- Contracts of the model's functions of chapter 2 that return numbers and lists: shapes, points, controls, losers, quick tricks, honors. -/
import Derived.Test.YtgoaikamolcffaaDoorL02b
namespace Go.Proofs.YtgoaikamolcffaaDoor.Lib1
open Go.RowKit

/-- A number is handed back; what was there is as it was. -/
def RetI (w : World) (v : Int) (e : Ending) (w' : World) : Prop := e = .returned (.int .i64 v) ∧ Chg w w' 0 0

def shapeTo (zs : List Int) : Nat → List Int
  | 0 => []
  | k + 1 => shapeTo zs k ++ [((suitF (k : Int) zs).length : Int)]
theorem shapeTo_len (zs : List Int) : ∀ k, (shapeTo zs k).length = k
  | 0 => rfl
  | k + 1 => by simp [shapeTo, shapeTo_len zs k]
theorem shapeTo_four (zs : List Int) : shapeTo zs 4 = shapeF zs := by simp [shapeTo, shapeF]


theorem RetV.still {w w1 w' : World} {zs : List Int} {e : Ending} (c : Chg w w1 0 0) (h : RetV w1 zs e w') : RetS w zs e w' := RetS.of_later c (RetS.of_V h)
theorem hand_nums {zs : List Int} {n : Nat} (hl : zs.length = n) (h : handB zs = true) : ∀ j, j < n → 0 ≤ zs.getD j 0 ∧ zs.getD j 0 ≤ 51 := by
  intro j hj; exact (hand_bounds h).2 j (by omega)


theorem sumF_take (f : Int → Int) {zs : List Int} {k : Nat} (h : k < zs.length) : sumF f (zs.take (k + 1)) = sumF f (zs.take k) + f (zs.getD k 0) := by rw [take_snoc zs k h, sumF_snoc]
theorem sumF_bound {f : Int → Int} (hf : ∀ z, 0 ≤ f z ∧ f z ≤ 12) : ∀ l : List Int, 0 ≤ sumF f l ∧ sumF f l ≤ 12 * l.length
  | [] => by simp [sumF]
  | z :: l => by have := sumF_bound hf l; have := hf z; simp only [sumF, List.length_cons]; omega
theorem point_if (z : Int) : pointF z = if 8 < z % 13 then z % 13 - 8 else 0 := by unfold pointF; split <;> omega
theorem contr_if (z : Int) : contrF z = if 10 < z % 13 then z % 13 - 10 else 0 := by unfold contrF; split <;> omega
theorem point_bound (z : Int) : 0 ≤ pointF z ∧ pointF z ≤ 12 := by unfold pointF; omega
theorem contr_bound (z : Int) : 0 ≤ contrF z ∧ contrF z ≤ 12 := by unfold contrF; omega
theorem hon_bound (t z : Int) : 0 ≤ honF t z ∧ honF t z ≤ 12 := by unfold honF; split <;> omega




/-- The losers of the first k suits. -/
def losesTo (zs : List Int) : Nat → Int
  | 0 => 0
  | k + 1 => losesTo zs k + loseS zs (k : Int)
theorem losesTo_range (zs : List Int) : ∀ k, 0 ≤ losesTo zs k ∧ losesTo zs k ≤ 3 * (k : Int)
  | 0 => by simp [losesTo]
  | k + 1 => by have := losesTo_range zs k; have := loseS_range zs (k : Int); simp only [losesTo]; omega



theorem quickS_range (zs : List Int) (s : Int) : 0 ≤ quickS zs s ∧ quickS zs s ≤ 4 := by
  unfold quickS; repeat (split; · omega)
  omega



end Go.Proofs.YtgoaikamolcffaaDoor.Lib1
