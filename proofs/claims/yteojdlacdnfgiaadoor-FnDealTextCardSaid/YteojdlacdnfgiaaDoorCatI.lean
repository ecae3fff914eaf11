/- The library's Concat of hands that lie in a row, at any place of its block. -/
import Derived.Test.YteojdlacdnfgiaaDoorImplA
namespace Go.Proofs.YteojdlacdnfgiaaDoor.Lib1
open Go.RowKit
set_option maxRecDepth 100000


theorem catTo_rows (zss : List (List Int)) : catTo (fun j => zss.getD j []) zss.length = zss.flatten := by
  have h : ∀ k, k ≤ zss.length → catTo (fun j => zss.getD j []) k = (zss.take k).flatten := by
    intro k
    induction k with
    | zero => intro _; simp [catTo]
    | succ k ih => intro hk; rw [catTo_succ, ih (by omega), take_row (by omega), List.flatten_append]; simp
  rw [h _ (Nat.le_refl _), List.take_length]

end Go.Proofs.YteojdlacdnfgiaaDoor.Lib1
