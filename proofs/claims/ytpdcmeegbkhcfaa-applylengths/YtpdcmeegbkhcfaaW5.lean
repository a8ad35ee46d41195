/-
  The walk of add, at a piece of the same kind. Conditions: as the theorems' premises say.
-/
import Derived.Test.YtpdcmeegbkhcfaaW4
import Derived.BigRegion
namespace Go.Proofs.Ytpdcmeegbkhcfaa
open Go.RowKit

end Go.Proofs.Ytpdcmeegbkhcfaa
