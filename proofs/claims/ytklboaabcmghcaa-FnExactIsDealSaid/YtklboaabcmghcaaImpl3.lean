/- Chapter 3: the laws' contracts of the program's functions. -/
import Derived.Test.YtklboaabcmghcaaLaw3
import Derived.Test.YtklboaabcmghcaaCardsI
import Derived.Test.YtklboaabcmghcaaDTextJ
namespace Go.Proofs.Ytklboaabcmghcaa.Lib1
open Go.RowKit
set_option maxRecDepth 100000

theorem impl_IsDeal : ImplDB 38 dealB := fun A n c zss lo hi w h => isDeal A n c zss lo hi w h.1
theorem impl_HolderOf : ImplDI 44 holderV := fun A n c x zss lo hi w h => holderOf A n c x zss lo hi w h.1
theorem impl_CardsOfDeal : ImplDS 41 dealCards := fun A n c zss lo hi w h => cardsOfDeal A n c zss lo hi w h.1
theorem impl_DealText : ImplDT 46 dealText := fun A n c zss lo hi w h => dealTextI A n c zss lo hi w h.1

end Go.Proofs.Ytklboaabcmghcaa.Lib1
