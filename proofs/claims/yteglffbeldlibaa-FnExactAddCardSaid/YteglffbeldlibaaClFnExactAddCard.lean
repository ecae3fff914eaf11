/- The closed facts of the row of FnExactAddCard. -/
import Derived.Test.YteglffbeldlibaaRows
import Derived.JoinedOf
import Derived.ProofKit
namespace Go.Proofs.Yteglffbeldlibaa.clFnExactAddCard
open Go.ChangeShapes Go.WideShapes Go.ChangeAt Go.RowKit

theorem closed : joinedFacts Try.pinned.checked.prog 12 Try.f12 Rows.fnExactAddCardSpec Rows.fnExactAddCardRow = true := by kernel_rfl
end Go.Proofs.Yteglffbeldlibaa.clFnExactAddCard
