/- This seat has no draws. -/
import Derived.Test.YtklboaabcmghcaaBase1
import Derived.Laws.AppendOwnNone
import Derived.Lib.SlBytesConst
import Derived.WalkSpells
import Derived.Deep.RegionWith
import Derived.Deep.DeepFit
import Derived.Test.YtklboaabcmghcaaBase2
namespace Go.Proofs.Ytklboaabcmghcaa.Lib1
end Go.Proofs.Ytklboaabcmghcaa.Lib1
