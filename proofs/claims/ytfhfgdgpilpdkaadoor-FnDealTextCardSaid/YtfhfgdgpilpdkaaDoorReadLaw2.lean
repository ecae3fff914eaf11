/- The exact law of ReadHand, out of a contract of the program's function and the model's. -/
import Derived.Test.YtfhfgdgpilpdkaaDoorTextLaw2
namespace Go.Proofs.YtfhfgdgpilpdkaaDoor.Lib1
open Go.RowKit
set_option maxRecDepth 100000


end Go.Proofs.YtfhfgdgpilpdkaaDoor.Lib1
