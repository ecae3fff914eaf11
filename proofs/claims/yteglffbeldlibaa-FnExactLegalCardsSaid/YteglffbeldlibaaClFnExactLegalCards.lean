/- The closed facts of the row of FnExactLegalCards. -/
import Derived.Test.YteglffbeldlibaaRows
import Derived.JoinedOf
import Derived.ProofKit
namespace Go.Proofs.Yteglffbeldlibaa.clFnExactLegalCards
open Go.ChangeShapes Go.WideShapes Go.ChangeAt Go.RowKit

theorem closed : joinedFacts Try.pinned.checked.prog 11 Try.f11 Rows.fnExactLegalCardsSpec Rows.fnExactLegalCardsRow = true := by kernel_rfl
end Go.Proofs.Yteglffbeldlibaa.clFnExactLegalCards
