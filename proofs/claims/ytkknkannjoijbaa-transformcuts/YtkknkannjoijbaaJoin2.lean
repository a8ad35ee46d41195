/-
  The walk of compose's join. Conditions: as the theorem's premises say.
-/
import Derived.Test.YtkknkannjoijbaaJoin1
namespace Go.Proofs.Ytkknkannjoijbaa
open Go.RowKit

/-- What Compose answers. -/
def ComPost (a b : List C) (w : World) (e : Ending) (w' : World) : Prop :=
  Below w.heap.size w w' ∧ ((ComP a b ∧ ∃ v, e = .returned (.tuple #[v, .int .i64 0]) ∧ Own w' w.heap.size v (normOf (joinL a b))) ∨ (¬ ComP a b ∧ e = .returned (.tuple #[.slice none 0 0, .int .i64 400])))

end Go.Proofs.Ytkknkannjoijbaa
