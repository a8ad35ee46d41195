/-
  What the proofs' frames want of a string argument. No condition.
-/
import Derived.Test.YtgifemiolpbfhaaRows
import Derived.ProofKit
import Derived.OpenShut
import Derived.Deep.Slices
import Derived.SizedLaws
namespace Go.Proofs.Ytgifemiolpbfhaa
open Go.ChangeShapes Go.WideShapes Go.ChangeAt Go.RowKit Go.Deep
theorem reach47 : reachBytes + 4096 ≤ 140737488355328 := by decide
theorem size_toList (b : ByteArray) : b.data.toList.length = b.size := by simp
end Go.Proofs.Ytgifemiolpbfhaa
