/- Chapter 5: the model's l05Group, GroupsOf, EquivalentCards. (Written by wip/gen5g.py.) -/
import Derived.Test.YtdfmkikngifjmaaGrp5
namespace Go.Proofs.Ytdfmkikngifjmaa.Lib1
open Go.RowKit
set_option maxRecDepth 100000


end Go.Proofs.Ytdfmkikngifjmaa.Lib1
