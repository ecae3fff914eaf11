/- Chapter 3: the laws' contracts of the program's functions. -/
import Derived.Test.YtefhdmobhfbhhaaLaw3
import Derived.Test.YtefhdmobhfbhhaaCardsI
import Derived.Test.YtefhdmobhfbhhaaDTextJ
import Derived.Test.YtefhdmobhfbhhaaRepI
namespace Go.Proofs.Ytefhdmobhfbhhaa.Lib1
open Go.RowKit
set_option maxRecDepth 100000

theorem impl_IsDeal : ImplDB 31 dealB := fun A n c zss lo hi w h => isDeal A n c zss lo hi w h.1
theorem impl_HolderOf : ImplDI 24 holderV := fun A n c x zss lo hi w h => holderOf A n c x zss lo hi w h.1
theorem impl_CardsOfDeal : ImplDS 26 dealCards := fun A n c zss lo hi w h => cardsOfDeal A n c zss lo hi w h.1
theorem impl_DealText : ImplDT 43 dealText := fun A n c zss lo hi w h => dealTextI A n c zss lo hi w h.1
theorem impl_MirrorDeal : ImplDD 20 mirrorV := fun A n c zss lo hi w h => impl_MirrorDeal' A n c zss lo hi w h.1
theorem impl_RotateDeal : ImplDDI 19 rotV rotE := fun A n c x zss lo hi w h => rotateDeal A n c x zss lo hi w h.1

end Go.Proofs.Ytefhdmobhfbhhaa.Lib1
