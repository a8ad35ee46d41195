/-
  The walk of add. Conditions: as the theorems' premises say.
-/
import Derived.Test.YtlfgleickaaicaaOwn
import Derived.BigQuiet
import Derived.Deep.RegionHeld3
import Derived.Deep.RegionLaw
import Derived.IntWalk
namespace Go.Proofs.Ytlfgleickaaicaa
open Go.RowKit

end Go.Proofs.Ytlfgleickaaicaa
