/- The closed facts of the row of FnExactPlayText. -/
import Derived.Test.YteglffbeldlibaaRows
import Derived.JoinedOf
import Derived.ProofKit
namespace Go.Proofs.Yteglffbeldlibaa.clFnExactPlayText
open Go.ChangeShapes Go.WideShapes Go.ChangeAt Go.RowKit

theorem closed : joinedFacts Try.pinned.checked.prog 15 Try.f15 Rows.fnExactPlayTextSpec Rows.fnExactPlayTextRow = true := by kernel_rfl
end Go.Proofs.Yteglffbeldlibaa.clFnExactPlayText
