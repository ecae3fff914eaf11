/- The closed facts of the row of FnExactCardsLeft. -/
import Derived.Test.YteglffbeldlibaaRows
import Derived.JoinedOf
import Derived.ProofKit
namespace Go.Proofs.Yteglffbeldlibaa.clFnExactCardsLeft
open Go.ChangeShapes Go.WideShapes Go.ChangeAt Go.RowKit

theorem closed : joinedFacts Try.pinned.checked.prog 14 Try.f14 Rows.fnExactCardsLeftSpec Rows.fnExactCardsLeftRow = true := by kernel_rfl
end Go.Proofs.Yteglffbeldlibaa.clFnExactCardsLeft
