/- The closed facts of the row of FnExactTurnOf. -/
import Derived.Test.YteglffbeldlibaaRows
import Derived.JoinedOf
import Derived.ProofKit
namespace Go.Proofs.Yteglffbeldlibaa.clFnExactTurnOf
open Go.ChangeShapes Go.WideShapes Go.ChangeAt Go.RowKit

theorem closed : joinedFacts Try.pinned.checked.prog 10 Try.f10 Rows.fnExactTurnOfSpec Rows.fnExactTurnOfRow = true := by kernel_rfl
end Go.Proofs.Yteglffbeldlibaa.clFnExactTurnOf
