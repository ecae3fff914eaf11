/- The closed facts of the row of FnExactIsPlay. -/
import Derived.Test.YteglffbeldlibaaRows
import Derived.JoinedOf
import Derived.ProofKit
namespace Go.Proofs.Yteglffbeldlibaa.clFnExactIsPlay
open Go.ChangeShapes Go.WideShapes Go.ChangeAt Go.RowKit

theorem closed : joinedFacts Try.pinned.checked.prog 8 Try.f8 Rows.fnExactIsPlaySpec Rows.fnExactIsPlayRow = true := by kernel_rfl
end Go.Proofs.Yteglffbeldlibaa.clFnExactIsPlay
