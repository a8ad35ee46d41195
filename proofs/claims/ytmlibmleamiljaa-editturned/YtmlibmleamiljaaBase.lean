/-
  What a piece and a row of pieces are in memory; plain facts of them. No condition.
-/
import Derived.WalkKit
import Derived.WalkSpells
import Derived.WalkLawsBesides
namespace Go.Proofs.Ytmlibmleamiljaa
open Go.RowKit

/-- A piece: its kind, its number, its text. -/
structure C where
  k : Int
  n : Int
  t : ByteArray

def C.cells (c : C) : List Value := [.int .i64 c.k, .int .i64 c.n, .string c.t]
def C.val (c : C) : Value := .agg #[.int .i64 c.k, .int .i64 c.n, .string c.t]
def cellsC (cs : List C) : List Value := cs.flatMap C.cells

end Go.Proofs.Ytmlibmleamiljaa
