/-
  No cell of these rows narrows 'for every input' (looked for: loops, veiled, ifaces, maps, wideKeys, modest, calm, conditions, laid).
  DERIVED. THE GIVEN ROWS OF THIS SEAT. 4 by the template 'for every input the law returns true; each argument reads behind the call as it read before'; 0 by the template 'total and deterministic' (their statements: YtoihbacdonjagaaTotals.lean).
  GIVEN WITH THE SEED: the statements are not yours to turn. If you find one false, say at which input.
  Laid BY PROGRAM, IN A SANDBOX (cutbox-rows.mjs): the forced cells as the released guide's own fill.sh prints them over the translation 8e47967ebae6a608… (all of the seat's roots in one cut). By AI agents, Wed Nov 11 2026. No macro, syntax, notation, axiom, sorry.
-/
import Derived.Test.YtoihbacdonjagaaChecked
import GoSem.Claim
import GoSem.ClaimJoined
import GoSem.ClaimMapViews
import Derived.JoinedTies
import Derived.KernelRfl
namespace Go.Proofs.Ytoihbacdonjagaa
/- THE CELL 'sum', in the pinned program and in every row, IS THE sha256 OF THE DUMP (.gsa) THAT YtoihbacdonjagaaProg.lean LOADS. Nothing in Lean hashes anything: it is a label: what it is worth is what the hold of that sum in a sandbox is worth. -/
noncomputable def Try.pinned : Pinned := { name := "ytoihbacdonjagaa", sum := "8e47967ebae6a608a67d8ab4142a6024cff7a6b6ad8b42df23082feda312be29", checked := Try.checked }
namespace Rows
def none {H : Type} : Left H := { results := [], args := [] }

/-- 'minuetlaw4.Composes': WHATEVER THE INPUT: true; the input reads as it did. -/
def composesSpec : ChangeSpec := { name := "composes", fn := fun _ => fun
  | [d1, d2] => { results := [.lit (.bool true)], args := [d1, d2] }
  | _ => none }
def composesRow : OpenClaim := { program := "ytoihbacdonjagaa", sum := "8e47967ebae6a608a67d8ab4142a6024cff7a6b6ad8b42df23082feda312be29", func := "minuet/minuetlaw4.Composes", spec := "composes", recurses := true, apart := false }
def ComposesSaid : Prop := composesRow.holds Try.pinned (OpenSpec.ofChange composesSpec)

/-- ITS FALSE NEIGHBOUR: 'it returns false'. Refute it at one input. -/
def composesWrong : ChangeSpec := { name := "composes", fn := fun _ => fun
  | [d1, d2] => { results := [.lit (.bool false)], args := [d1, d2] }
  | _ => none }
def ComposesWrongFalsely : Prop := composesRow.holds Try.pinned (OpenSpec.ofChange composesWrong)

/-- 'minuetlaw4.ComposeDoes': WHATEVER THE INPUT: true; the input reads as it did. -/
def composeDoesSpec : ChangeSpec := { name := "composeDoes", fn := fun _ => fun
  | [d1, d2, d3] => { results := [.lit (.bool true)], args := [d1, d2, d3] }
  | _ => none }
def composeDoesRow : OpenClaim := { program := "ytoihbacdonjagaa", sum := "8e47967ebae6a608a67d8ab4142a6024cff7a6b6ad8b42df23082feda312be29", func := "minuet/minuetlaw4.ComposeDoes", spec := "composeDoes", recurses := true, apart := false }
def ComposeDoesSaid : Prop := composeDoesRow.holds Try.pinned (OpenSpec.ofChange composeDoesSpec)

/-- ITS FALSE NEIGHBOUR: 'it returns false'. Refute it at one input. -/
def composeDoesWrong : ChangeSpec := { name := "composeDoes", fn := fun _ => fun
  | [d1, d2, d3] => { results := [.lit (.bool false)], args := [d1, d2, d3] }
  | _ => none }
def ComposeDoesWrongFalsely : Prop := composeDoesRow.holds Try.pinned (OpenSpec.ofChange composeDoesWrong)

/-- 'minuetlaw4.ComposeThree': WHATEVER THE INPUT: true; the input reads as it did. -/
def composeThreeSpec : ChangeSpec := { name := "composeThree", fn := fun _ => fun
  | [d1, d2, d3, d4] => { results := [.lit (.bool true)], args := [d1, d2, d3, d4] }
  | _ => none }
def composeThreeRow : OpenClaim := { program := "ytoihbacdonjagaa", sum := "8e47967ebae6a608a67d8ab4142a6024cff7a6b6ad8b42df23082feda312be29", func := "minuet/minuetlaw4.ComposeThree", spec := "composeThree", recurses := true, apart := false }
def ComposeThreeSaid : Prop := composeThreeRow.holds Try.pinned (OpenSpec.ofChange composeThreeSpec)

/-- ITS FALSE NEIGHBOUR: 'it returns false'. Refute it at one input. -/
def composeThreeWrong : ChangeSpec := { name := "composeThree", fn := fun _ => fun
  | [d1, d2, d3, d4] => { results := [.lit (.bool false)], args := [d1, d2, d3, d4] }
  | _ => none }
def ComposeThreeWrongFalsely : Prop := composeThreeRow.holds Try.pinned (OpenSpec.ofChange composeThreeWrong)

/-- 'minuetlaw4.ComposeNothing': WHATEVER THE INPUT: true; the input reads as it did. -/
def composeNothingSpec : ChangeSpec := { name := "composeNothing", fn := fun _ => fun
  | [d] => { results := [.lit (.bool true)], args := [d] }
  | _ => none }
def composeNothingRow : OpenClaim := { program := "ytoihbacdonjagaa", sum := "8e47967ebae6a608a67d8ab4142a6024cff7a6b6ad8b42df23082feda312be29", func := "minuet/minuetlaw4.ComposeNothing", spec := "composeNothing", recurses := true, apart := false }
def ComposeNothingSaid : Prop := composeNothingRow.holds Try.pinned (OpenSpec.ofChange composeNothingSpec)

/-- ITS FALSE NEIGHBOUR: 'it returns false'. Refute it at one input. -/
def composeNothingWrong : ChangeSpec := { name := "composeNothing", fn := fun _ => fun
  | [d] => { results := [.lit (.bool false)], args := [d] }
  | _ => none }
def ComposeNothingWrongFalsely : Prop := composeNothingRow.holds Try.pinned (OpenSpec.ofChange composeNothingWrong)

/- THE SECOND FORM. 'bulk': how many values and letters a reading holds, each counted each time it is reached (what is shared counts as often as it is met; a slice's spare places count too). A statement '..UptoSaid' is the law's where the arguments, and the package variables that the reading takes, are together of bulk at most 1048576: NARROWER than '..Said'. Prove '..Said' where nothing that the law and all that it calls make is longer than what came in: it says more and counts as full. Else prove '..UptoSaid'. A law counts once. -/
mutual
def uptoBulk {H : Type} : DataW H → Nat
  | .lit (.string bytes) => bytes.length + 1
  | .lit _ => 1
  | .nil => 1
  | .ptr d => uptoBulk d + 1
  | .slice elems spare => uptoBulkAll elems + uptoBulkAll spare + 1
  | .agg parts => uptoBulkAll parts + 1
  | .iface _ d => uptoBulk d + 1
  | .map entries => uptoBulkEntries entries + 1
  | .held _ => 1
def uptoBulkAll {H : Type} : List (DataW H) → Nat
  | [] => 0
  | d :: r => uptoBulk d + uptoBulkAll r
def uptoBulkEntries {H : Type} : List (Lit × DataW H) → Nat
  | [] => 0
  | x :: r => uptoBulkEntry x + uptoBulkEntries r
def uptoBulkEntry {H : Type} : Lit × DataW H → Nat
  | (.string bytes, d) => bytes.length + uptoBulk d + 1
  | (_, d) => uptoBulk d + 1
 end
def uptoSmall : (H : Type) → List (DataW H) → Bool := fun _ ds => decide (uptoBulkAll ds ≤ 1048576)
def OpenSpec.upto (s : _root_.Go.ChangeSpec) : _root_.Go.OpenSpec := { _root_.Go.OpenSpec.ofChange s with cond := some uptoSmall }

/-- 'minuetlaw4.Composes', WHERE WHAT IT READS IS OF BULK AT MOST 1048576: true; the input reads as it did. -/
def composesUptoRow : OpenClaim := { program := "ytoihbacdonjagaa", sum := "8e47967ebae6a608a67d8ab4142a6024cff7a6b6ad8b42df23082feda312be29", func := "minuet/minuetlaw4.Composes", spec := "composes", recurses := true, apart := false, narrowed := true }
def ComposesUptoSaid : Prop := composesUptoRow.holds Try.pinned (OpenSpec.upto composesSpec)

/-- 'minuetlaw4.ComposeDoes', WHERE WHAT IT READS IS OF BULK AT MOST 1048576: true; the input reads as it did. -/
def composeDoesUptoRow : OpenClaim := { program := "ytoihbacdonjagaa", sum := "8e47967ebae6a608a67d8ab4142a6024cff7a6b6ad8b42df23082feda312be29", func := "minuet/minuetlaw4.ComposeDoes", spec := "composeDoes", recurses := true, apart := false, narrowed := true }
def ComposeDoesUptoSaid : Prop := composeDoesUptoRow.holds Try.pinned (OpenSpec.upto composeDoesSpec)

/-- 'minuetlaw4.ComposeThree', WHERE WHAT IT READS IS OF BULK AT MOST 1048576: true; the input reads as it did. -/
def composeThreeUptoRow : OpenClaim := { program := "ytoihbacdonjagaa", sum := "8e47967ebae6a608a67d8ab4142a6024cff7a6b6ad8b42df23082feda312be29", func := "minuet/minuetlaw4.ComposeThree", spec := "composeThree", recurses := true, apart := false, narrowed := true }
def ComposeThreeUptoSaid : Prop := composeThreeUptoRow.holds Try.pinned (OpenSpec.upto composeThreeSpec)

/-- 'minuetlaw4.ComposeNothing', WHERE WHAT IT READS IS OF BULK AT MOST 1048576: true; the input reads as it did. -/
def composeNothingUptoRow : OpenClaim := { program := "ytoihbacdonjagaa", sum := "8e47967ebae6a608a67d8ab4142a6024cff7a6b6ad8b42df23082feda312be29", func := "minuet/minuetlaw4.ComposeNothing", spec := "composeNothing", recurses := true, apart := false, narrowed := true }
def ComposeNothingUptoSaid : Prop := composeNothingUptoRow.holds Try.pinned (OpenSpec.upto composeNothingSpec)

end Rows
end Go.Proofs.Ytoihbacdonjagaa
