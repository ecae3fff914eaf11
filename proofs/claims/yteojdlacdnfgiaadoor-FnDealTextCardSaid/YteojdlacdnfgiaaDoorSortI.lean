/- The library's Sort over a slice of int64 of the call's own. -/
import Derived.Test.YteojdlacdnfgiaaDoorTwo
import Derived.Test.YteojdlacdnfgiaaDoorBase1
import Derived.Sort.OwnSortedInts
import Derived.Shelf.SortM.SortNone
namespace Go.Proofs.YteojdlacdnfgiaaDoor.Lib1
open Go.RowKit
set_option maxRecDepth 100000


end Go.Proofs.YteojdlacdnfgiaaDoor.Lib1
