/-
  The walk of add, at a piece of the same kind. Conditions: as the theorems' premises say.
-/
import Derived.Test.YtlfgleickaaicaaW4
import Derived.BigRegion
namespace Go.Proofs.Ytlfgleickaaicaa
open Go.RowKit

end Go.Proofs.Ytlfgleickaaicaa
