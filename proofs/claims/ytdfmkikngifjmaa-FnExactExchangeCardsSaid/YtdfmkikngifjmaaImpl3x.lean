/- Chapter 3: the law's contract of the program's ExchangeCards. -/
import Derived.Test.YtdfmkikngifjmaaLaw3x
namespace Go.Proofs.Ytdfmkikngifjmaa.Lib1
open Go.RowKit
set_option maxRecDepth 100000

theorem impl_ExchangeCards : ImplDDII 51 exV exE := fun A n c x y zss lo hi w h => exchangeCards A n c x y zss lo hi w h.1

end Go.Proofs.Ytdfmkikngifjmaa.Lib1
