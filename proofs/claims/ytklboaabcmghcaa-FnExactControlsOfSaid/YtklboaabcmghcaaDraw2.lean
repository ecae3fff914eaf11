/- This seat has no draws. -/
import Derived.Test.YtklboaabcmghcaaDraws
import Derived.Test.YtklboaabcmghcaaTwo
import Derived.Deep.RegionWith
import Derived.Deep.DeepFit
import Derived.WalkSpells
namespace Go.Proofs.Ytklboaabcmghcaa.Lib1
end Go.Proofs.Ytklboaabcmghcaa.Lib1
