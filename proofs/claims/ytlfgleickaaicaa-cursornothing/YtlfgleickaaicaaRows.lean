/-
  No cell of these rows narrows 'for every input' (looked for: loops, veiled, ifaces, maps, wideKeys, modest, calm, conditions, laid).
  DERIVED. THE GIVEN ROWS OF THIS SEAT. 5 by the template 'for every input the law returns true; each argument reads behind the call as it read before'; 0 by the template 'total and deterministic' (their statements: YtlfgleickaaicaaTotals.lean).
  GIVEN WITH THE SEED: the statements are not yours to turn. If you find one false, say at which input.
  Laid BY PROGRAM, IN A SANDBOX (cutbox-rows.mjs): the forced cells as the released guide's own fill.sh prints them over the translation 6da42911429cc00a… (all of the seat's roots in one cut). By AI agents, Wed Nov 11 2026. No macro, syntax, notation, axiom, sorry.
-/
import Derived.Test.YtlfgleickaaicaaChecked
import GoSem.Claim
import GoSem.ClaimJoined
import GoSem.ClaimMapViews
import Derived.JoinedTies
import Derived.KernelRfl
namespace Go.Proofs.Ytlfgleickaaicaa
/- THE CELL 'sum', in the pinned program and in every row, IS THE sha256 OF THE DUMP (.gsa) THAT YtlfgleickaaicaaProg.lean LOADS. Nothing in Lean hashes anything: it is a label: what it is worth is what the hold of that sum in a sandbox is worth. -/
noncomputable def Try.pinned : Pinned := { name := "ytlfgleickaaicaa", sum := "6da42911429cc00a8e5b82f9ba64344e78d479436836916d86a0f65f64436779", checked := Try.checked }
namespace Rows
def none {H : Type} : Left H := { results := [], args := [] }

/-- 'minuetlaw6.Cursors': WHATEVER THE INPUT: true; the input reads as it did. -/
def cursorsSpec : ChangeSpec := { name := "cursors", fn := fun _ => fun
  | [d1, d2, d3] => { results := [.lit (.bool true)], args := [d1, d2, d3] }
  | _ => none }
def cursorsRow : OpenClaim := { program := "ytlfgleickaaicaa", sum := "6da42911429cc00a8e5b82f9ba64344e78d479436836916d86a0f65f64436779", func := "minuet/minuetlaw6.Cursors", spec := "cursors", recurses := true, apart := false }
def CursorsSaid : Prop := cursorsRow.holds Try.pinned (OpenSpec.ofChange cursorsSpec)

/-- ITS FALSE NEIGHBOUR: 'it returns false'. Refute it at one input. -/
def cursorsWrong : ChangeSpec := { name := "cursors", fn := fun _ => fun
  | [d1, d2, d3] => { results := [.lit (.bool false)], args := [d1, d2, d3] }
  | _ => none }
def CursorsWrongFalsely : Prop := cursorsRow.holds Try.pinned (OpenSpec.ofChange cursorsWrong)

/-- 'minuetlaw6.CursorRises': WHATEVER THE INPUT: true; the input reads as it did. -/
def cursorRisesSpec : ChangeSpec := { name := "cursorRises", fn := fun _ => fun
  | [d1, d2, d3] => { results := [.lit (.bool true)], args := [d1, d2, d3] }
  | _ => none }
def cursorRisesRow : OpenClaim := { program := "ytlfgleickaaicaa", sum := "6da42911429cc00a8e5b82f9ba64344e78d479436836916d86a0f65f64436779", func := "minuet/minuetlaw6.CursorRises", spec := "cursorRises", recurses := true, apart := false }
def CursorRisesSaid : Prop := cursorRisesRow.holds Try.pinned (OpenSpec.ofChange cursorRisesSpec)

/-- ITS FALSE NEIGHBOUR: 'it returns false'. Refute it at one input. -/
def cursorRisesWrong : ChangeSpec := { name := "cursorRises", fn := fun _ => fun
  | [d1, d2, d3] => { results := [.lit (.bool false)], args := [d1, d2, d3] }
  | _ => none }
def CursorRisesWrongFalsely : Prop := cursorRisesRow.holds Try.pinned (OpenSpec.ofChange cursorRisesWrong)

/-- 'minuetlaw6.CursorSigns': WHATEVER THE INPUT: true; the input reads as it did. -/
def cursorSignsSpec : ChangeSpec := { name := "cursorSigns", fn := fun _ => fun
  | [d1, d2, d3] => { results := [.lit (.bool true)], args := [d1, d2, d3] }
  | _ => none }
def cursorSignsRow : OpenClaim := { program := "ytlfgleickaaicaa", sum := "6da42911429cc00a8e5b82f9ba64344e78d479436836916d86a0f65f64436779", func := "minuet/minuetlaw6.CursorSigns", spec := "cursorSigns", recurses := true, apart := false }
def CursorSignsSaid : Prop := cursorSignsRow.holds Try.pinned (OpenSpec.ofChange cursorSignsSpec)

/-- ITS FALSE NEIGHBOUR: 'it returns false'. Refute it at one input. -/
def cursorSignsWrong : ChangeSpec := { name := "cursorSigns", fn := fun _ => fun
  | [d1, d2, d3] => { results := [.lit (.bool false)], args := [d1, d2, d3] }
  | _ => none }
def CursorSignsWrongFalsely : Prop := cursorSignsRow.holds Try.pinned (OpenSpec.ofChange cursorSignsWrong)

/-- 'minuetlaw6.CursorNothing': WHATEVER THE INPUT: true; the input reads as it did. -/
def cursorNothingSpec : ChangeSpec := { name := "cursorNothing", fn := fun _ => fun
  | [d1, d2, d3, d4] => { results := [.lit (.bool true)], args := [d1, d2, d3, d4] }
  | _ => none }
def cursorNothingRow : OpenClaim := { program := "ytlfgleickaaicaa", sum := "6da42911429cc00a8e5b82f9ba64344e78d479436836916d86a0f65f64436779", func := "minuet/minuetlaw6.CursorNothing", spec := "cursorNothing", apart := false }
def CursorNothingSaid : Prop := cursorNothingRow.holds Try.pinned (OpenSpec.ofChange cursorNothingSpec)

/-- ITS FALSE NEIGHBOUR: 'it returns false'. Refute it at one input. -/
def cursorNothingWrong : ChangeSpec := { name := "cursorNothing", fn := fun _ => fun
  | [d1, d2, d3, d4] => { results := [.lit (.bool false)], args := [d1, d2, d3, d4] }
  | _ => none }
def CursorNothingWrongFalsely : Prop := cursorNothingRow.holds Try.pinned (OpenSpec.ofChange cursorNothingWrong)

/-- 'minuetlaw6.CursorEnds': WHATEVER THE INPUT: true; the input reads as it did. -/
def cursorEndsSpec : ChangeSpec := { name := "cursorEnds", fn := fun _ => fun
  | [d] => { results := [.lit (.bool true)], args := [d] }
  | _ => none }
def cursorEndsRow : OpenClaim := { program := "ytlfgleickaaicaa", sum := "6da42911429cc00a8e5b82f9ba64344e78d479436836916d86a0f65f64436779", func := "minuet/minuetlaw6.CursorEnds", spec := "cursorEnds", recurses := true, apart := false }
def CursorEndsSaid : Prop := cursorEndsRow.holds Try.pinned (OpenSpec.ofChange cursorEndsSpec)

/-- ITS FALSE NEIGHBOUR: 'it returns false'. Refute it at one input. -/
def cursorEndsWrong : ChangeSpec := { name := "cursorEnds", fn := fun _ => fun
  | [d] => { results := [.lit (.bool false)], args := [d] }
  | _ => none }
def CursorEndsWrongFalsely : Prop := cursorEndsRow.holds Try.pinned (OpenSpec.ofChange cursorEndsWrong)

/- THE SECOND FORM. 'bulk': how many values and letters a reading holds, each counted each time it is reached (what is shared counts as often as it is met; a slice's spare places count too). A statement '..UptoSaid' is the law's where the arguments, and the package variables that the reading takes, are together of bulk at most 1048576: NARROWER than '..Said'. Prove '..Said' where nothing that the law and all that it calls make is longer than what came in: it says more and counts as full. Else prove '..UptoSaid'. A law counts once. -/
mutual
def uptoBulk {H : Type} : DataW H → Nat
  | .lit (.string bytes) => bytes.length + 1
  | .lit _ => 1
  | .nil => 1
  | .ptr d => uptoBulk d + 1
  | .slice elems spare => uptoBulkAll elems + uptoBulkAll spare + 1
  | .agg parts => uptoBulkAll parts + 1
  | .iface _ d => uptoBulk d + 1
  | .map entries => uptoBulkEntries entries + 1
  | .held _ => 1
def uptoBulkAll {H : Type} : List (DataW H) → Nat
  | [] => 0
  | d :: r => uptoBulk d + uptoBulkAll r
def uptoBulkEntries {H : Type} : List (Lit × DataW H) → Nat
  | [] => 0
  | x :: r => uptoBulkEntry x + uptoBulkEntries r
def uptoBulkEntry {H : Type} : Lit × DataW H → Nat
  | (.string bytes, d) => bytes.length + uptoBulk d + 1
  | (_, d) => uptoBulk d + 1
 end
def uptoSmall : (H : Type) → List (DataW H) → Bool := fun _ ds => decide (uptoBulkAll ds ≤ 1048576)
def OpenSpec.upto (s : _root_.Go.ChangeSpec) : _root_.Go.OpenSpec := { _root_.Go.OpenSpec.ofChange s with cond := some uptoSmall }

/-- 'minuetlaw6.Cursors', WHERE WHAT IT READS IS OF BULK AT MOST 1048576: true; the input reads as it did. -/
def cursorsUptoRow : OpenClaim := { program := "ytlfgleickaaicaa", sum := "6da42911429cc00a8e5b82f9ba64344e78d479436836916d86a0f65f64436779", func := "minuet/minuetlaw6.Cursors", spec := "cursors", recurses := true, apart := false, narrowed := true }
def CursorsUptoSaid : Prop := cursorsUptoRow.holds Try.pinned (OpenSpec.upto cursorsSpec)

/-- 'minuetlaw6.CursorRises', WHERE WHAT IT READS IS OF BULK AT MOST 1048576: true; the input reads as it did. -/
def cursorRisesUptoRow : OpenClaim := { program := "ytlfgleickaaicaa", sum := "6da42911429cc00a8e5b82f9ba64344e78d479436836916d86a0f65f64436779", func := "minuet/minuetlaw6.CursorRises", spec := "cursorRises", recurses := true, apart := false, narrowed := true }
def CursorRisesUptoSaid : Prop := cursorRisesUptoRow.holds Try.pinned (OpenSpec.upto cursorRisesSpec)

/-- 'minuetlaw6.CursorSigns', WHERE WHAT IT READS IS OF BULK AT MOST 1048576: true; the input reads as it did. -/
def cursorSignsUptoRow : OpenClaim := { program := "ytlfgleickaaicaa", sum := "6da42911429cc00a8e5b82f9ba64344e78d479436836916d86a0f65f64436779", func := "minuet/minuetlaw6.CursorSigns", spec := "cursorSigns", recurses := true, apart := false, narrowed := true }
def CursorSignsUptoSaid : Prop := cursorSignsUptoRow.holds Try.pinned (OpenSpec.upto cursorSignsSpec)

/-- 'minuetlaw6.CursorNothing', WHERE WHAT IT READS IS OF BULK AT MOST 1048576: true; the input reads as it did. -/
def cursorNothingUptoRow : OpenClaim := { program := "ytlfgleickaaicaa", sum := "6da42911429cc00a8e5b82f9ba64344e78d479436836916d86a0f65f64436779", func := "minuet/minuetlaw6.CursorNothing", spec := "cursorNothing", apart := false, narrowed := true }
def CursorNothingUptoSaid : Prop := cursorNothingUptoRow.holds Try.pinned (OpenSpec.upto cursorNothingSpec)

/-- 'minuetlaw6.CursorEnds', WHERE WHAT IT READS IS OF BULK AT MOST 1048576: true; the input reads as it did. -/
def cursorEndsUptoRow : OpenClaim := { program := "ytlfgleickaaicaa", sum := "6da42911429cc00a8e5b82f9ba64344e78d479436836916d86a0f65f64436779", func := "minuet/minuetlaw6.CursorEnds", spec := "cursorEnds", recurses := true, apart := false, narrowed := true }
def CursorEndsUptoSaid : Prop := cursorEndsUptoRow.holds Try.pinned (OpenSpec.upto cursorEndsSpec)

end Rows
end Go.Proofs.Ytlfgleickaaicaa
