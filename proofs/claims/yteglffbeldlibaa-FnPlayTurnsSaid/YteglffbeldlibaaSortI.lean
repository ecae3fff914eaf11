/- The library's Sort over a slice of int64 of the call's own. -/
import Derived.Test.YteglffbeldlibaaTwo
import Derived.Test.YteglffbeldlibaaBase1
import Derived.Sort.OwnSortedInts
import Derived.Shelf.SortM.SortNone
namespace Go.Proofs.Yteglffbeldlibaa.Lib1
open Go.RowKit
set_option maxRecDepth 100000


end Go.Proofs.Yteglffbeldlibaa.Lib1
