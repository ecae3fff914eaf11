/- The library's Sort over a slice of int64 of the call's own. -/
import Derived.Test.YtfhfgdgpilpdkaaDoorTwo
import Derived.Test.YtfhfgdgpilpdkaaDoorBase1
import Derived.Sort.OwnSortedInts
import Derived.Shelf.SortM.SortNone
namespace Go.Proofs.YtfhfgdgpilpdkaaDoor.Lib1
open Go.RowKit
set_option maxRecDepth 100000


end Go.Proofs.YtfhfgdgpilpdkaaDoor.Lib1
