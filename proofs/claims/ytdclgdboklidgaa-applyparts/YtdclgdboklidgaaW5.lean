/-
  The walk of add, at a piece of the same kind. Conditions: as the theorems' premises say.
-/
import Derived.Test.YtdclgdboklidgaaW4
import Derived.BigRegion
namespace Go.Proofs.Ytdclgdboklidgaa
open Go.RowKit

end Go.Proofs.Ytdclgdboklidgaa
