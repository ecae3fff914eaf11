/- Chapter 3: the laws' contracts of the program's MirrorDeal and RotateDeal. -/
import Derived.Test.YtdfmkikngifjmaaLaw3
import Derived.Test.YtdfmkikngifjmaaRepI
namespace Go.Proofs.Ytdfmkikngifjmaa.Lib1
open Go.RowKit
set_option maxRecDepth 100000

theorem impl_MirrorDeal : ImplDD 47 mirrorV := fun A n c zss lo hi w h => impl_MirrorDeal' A n c zss lo hi w h.1
theorem impl_RotateDeal : ImplDDI 49 rotV rotE := fun A n c x zss lo hi w h => rotateDeal A n c x zss lo hi w h.1

end Go.Proofs.Ytdfmkikngifjmaa.Lib1
