/-
  No cell of these rows narrows 'for every input' (looked for: loops, veiled, ifaces, maps, wideKeys, modest, calm, conditions, laid).
  DERIVED. THE GIVEN ROWS OF THIS SEAT. 5 by the template 'for every input the law returns true; each argument reads behind the call as it read before'; 0 by the template 'total and deterministic' (their statements: YtmlibmleamiljaaTotals.lean).
  GIVEN WITH THE SEED: the statements are not yours to turn. If you find one false, say at which input.
  Laid BY PROGRAM, IN A SANDBOX (cutbox-rows.mjs): the forced cells as the released guide's own fill.sh prints them over the translation 06b39fdd1e687e12… (all of the seat's roots in one cut). By AI agents, Wed Nov 11 2026. No macro, syntax, notation, axiom, sorry.
-/
import Derived.Test.YtmlibmleamiljaaChecked
import GoSem.Claim
import GoSem.ClaimJoined
import GoSem.ClaimMapViews
import Derived.JoinedTies
import Derived.KernelRfl
namespace Go.Proofs.Ytmlibmleamiljaa
/- THE CELL 'sum', in the pinned program and in every row, IS THE sha256 OF THE DUMP (.gsa) THAT YtmlibmleamiljaaProg.lean LOADS. Nothing in Lean hashes anything: it is a label: what it is worth is what the hold of that sum in a sandbox is worth. -/
noncomputable def Try.pinned : Pinned := { name := "ytmlibmleamiljaa", sum := "06b39fdd1e687e12749bb3402a47f8a2c7bf62c11dbe3ee325874291ec7da10b", checked := Try.checked }
namespace Rows
def none {H : Type} : Left H := { results := [], args := [] }

/-- 'minuetlaw8.Edits': WHATEVER THE INPUT: true; the input reads as it did. -/
def editsSpec : ChangeSpec := { name := "edits", fn := fun _ => fun
  | [d1, d2, d3, d4] => { results := [.lit (.bool true)], args := [d1, d2, d3, d4] }
  | _ => none }
def editsRow : OpenClaim := { program := "ytmlibmleamiljaa", sum := "06b39fdd1e687e12749bb3402a47f8a2c7bf62c11dbe3ee325874291ec7da10b", func := "minuet/minuetlaw8.Edits", spec := "edits", unfollowed := true, recurses := true, apart := false }
def EditsSaid : Prop := editsRow.holds Try.pinned (OpenSpec.ofChange editsSpec)

/-- ITS FALSE NEIGHBOUR: 'it returns false'. Refute it at one input. -/
def editsWrong : ChangeSpec := { name := "edits", fn := fun _ => fun
  | [d1, d2, d3, d4] => { results := [.lit (.bool false)], args := [d1, d2, d3, d4] }
  | _ => none }
def EditsWrongFalsely : Prop := editsRow.holds Try.pinned (OpenSpec.ofChange editsWrong)

/-- 'minuetlaw8.EditDoes': WHATEVER THE INPUT: true; the input reads as it did. -/
def editDoesSpec : ChangeSpec := { name := "editDoes", fn := fun _ => fun
  | [d1, d2, d3, d4] => { results := [.lit (.bool true)], args := [d1, d2, d3, d4] }
  | _ => none }
def editDoesRow : OpenClaim := { program := "ytmlibmleamiljaa", sum := "06b39fdd1e687e12749bb3402a47f8a2c7bf62c11dbe3ee325874291ec7da10b", func := "minuet/minuetlaw8.EditDoes", spec := "editDoes", unfollowed := true, recurses := true, apart := false }
def EditDoesSaid : Prop := editDoesRow.holds Try.pinned (OpenSpec.ofChange editDoesSpec)

/-- ITS FALSE NEIGHBOUR: 'it returns false'. Refute it at one input. -/
def editDoesWrong : ChangeSpec := { name := "editDoes", fn := fun _ => fun
  | [d1, d2, d3, d4] => { results := [.lit (.bool false)], args := [d1, d2, d3, d4] }
  | _ => none }
def EditDoesWrongFalsely : Prop := editDoesRow.holds Try.pinned (OpenSpec.ofChange editDoesWrong)

/-- 'minuetlaw8.EditForms': WHATEVER THE INPUT: true; the input reads as it did. -/
def editFormsSpec : ChangeSpec := { name := "editForms", fn := fun _ => fun
  | [d1, d2] => { results := [.lit (.bool true)], args := [d1, d2] }
  | _ => none }
def editFormsRow : OpenClaim := { program := "ytmlibmleamiljaa", sum := "06b39fdd1e687e12749bb3402a47f8a2c7bf62c11dbe3ee325874291ec7da10b", func := "minuet/minuetlaw8.EditForms", spec := "editForms", unfollowed := true, recurses := true, apart := false }
def EditFormsSaid : Prop := editFormsRow.holds Try.pinned (OpenSpec.ofChange editFormsSpec)

/-- ITS FALSE NEIGHBOUR: 'it returns false'. Refute it at one input. -/
def editFormsWrong : ChangeSpec := { name := "editForms", fn := fun _ => fun
  | [d1, d2] => { results := [.lit (.bool false)], args := [d1, d2] }
  | _ => none }
def EditFormsWrongFalsely : Prop := editFormsRow.holds Try.pinned (OpenSpec.ofChange editFormsWrong)

/-- 'minuetlaw8.EditLeast': WHATEVER THE INPUT: true; the input reads as it did. -/
def editLeastSpec : ChangeSpec := { name := "editLeast", fn := fun _ => fun
  | [d1, d2] => { results := [.lit (.bool true)], args := [d1, d2] }
  | _ => none }
def editLeastRow : OpenClaim := { program := "ytmlibmleamiljaa", sum := "06b39fdd1e687e12749bb3402a47f8a2c7bf62c11dbe3ee325874291ec7da10b", func := "minuet/minuetlaw8.EditLeast", spec := "editLeast", unfollowed := true, recurses := true, apart := false }
def EditLeastSaid : Prop := editLeastRow.holds Try.pinned (OpenSpec.ofChange editLeastSpec)

/-- ITS FALSE NEIGHBOUR: 'it returns false'. Refute it at one input. -/
def editLeastWrong : ChangeSpec := { name := "editLeast", fn := fun _ => fun
  | [d1, d2] => { results := [.lit (.bool false)], args := [d1, d2] }
  | _ => none }
def EditLeastWrongFalsely : Prop := editLeastRow.holds Try.pinned (OpenSpec.ofChange editLeastWrong)

/-- 'minuetlaw8.EditTurned': WHATEVER THE INPUT: true; the input reads as it did. -/
def editTurnedSpec : ChangeSpec := { name := "editTurned", fn := fun _ => fun
  | [d1, d2] => { results := [.lit (.bool true)], args := [d1, d2] }
  | _ => none }
def editTurnedRow : OpenClaim := { program := "ytmlibmleamiljaa", sum := "06b39fdd1e687e12749bb3402a47f8a2c7bf62c11dbe3ee325874291ec7da10b", func := "minuet/minuetlaw8.EditTurned", spec := "editTurned", unfollowed := true, recurses := true, apart := false }
def EditTurnedSaid : Prop := editTurnedRow.holds Try.pinned (OpenSpec.ofChange editTurnedSpec)

/-- ITS FALSE NEIGHBOUR: 'it returns false'. Refute it at one input. -/
def editTurnedWrong : ChangeSpec := { name := "editTurned", fn := fun _ => fun
  | [d1, d2] => { results := [.lit (.bool false)], args := [d1, d2] }
  | _ => none }
def EditTurnedWrongFalsely : Prop := editTurnedRow.holds Try.pinned (OpenSpec.ofChange editTurnedWrong)

/- THE SECOND FORM. 'bulk': how many values and letters a reading holds, each counted each time it is reached (what is shared counts as often as it is met; a slice's spare places count too). A statement '..UptoSaid' is the law's where the arguments, and the package variables that the reading takes, are together of bulk at most 1048576: NARROWER than '..Said'. Prove '..Said' where nothing that the law and all that it calls make is longer than what came in: it says more and counts as full. Else prove '..UptoSaid'. A law counts once. -/
mutual
def uptoBulk {H : Type} : DataW H → Nat
  | .lit (.string bytes) => bytes.length + 1
  | .lit _ => 1
  | .nil => 1
  | .ptr d => uptoBulk d + 1
  | .slice elems spare => uptoBulkAll elems + uptoBulkAll spare + 1
  | .agg parts => uptoBulkAll parts + 1
  | .iface _ d => uptoBulk d + 1
  | .map entries => uptoBulkEntries entries + 1
  | .held _ => 1
def uptoBulkAll {H : Type} : List (DataW H) → Nat
  | [] => 0
  | d :: r => uptoBulk d + uptoBulkAll r
def uptoBulkEntries {H : Type} : List (Lit × DataW H) → Nat
  | [] => 0
  | x :: r => uptoBulkEntry x + uptoBulkEntries r
def uptoBulkEntry {H : Type} : Lit × DataW H → Nat
  | (.string bytes, d) => bytes.length + uptoBulk d + 1
  | (_, d) => uptoBulk d + 1
 end
def uptoSmall : (H : Type) → List (DataW H) → Bool := fun _ ds => decide (uptoBulkAll ds ≤ 1048576)
def OpenSpec.upto (s : _root_.Go.ChangeSpec) : _root_.Go.OpenSpec := { _root_.Go.OpenSpec.ofChange s with cond := some uptoSmall }

/-- 'minuetlaw8.Edits', WHERE WHAT IT READS IS OF BULK AT MOST 1048576: true; the input reads as it did. -/
def editsUptoRow : OpenClaim := { program := "ytmlibmleamiljaa", sum := "06b39fdd1e687e12749bb3402a47f8a2c7bf62c11dbe3ee325874291ec7da10b", func := "minuet/minuetlaw8.Edits", spec := "edits", unfollowed := true, recurses := true, apart := false, narrowed := true }
def EditsUptoSaid : Prop := editsUptoRow.holds Try.pinned (OpenSpec.upto editsSpec)

/-- 'minuetlaw8.EditDoes', WHERE WHAT IT READS IS OF BULK AT MOST 1048576: true; the input reads as it did. -/
def editDoesUptoRow : OpenClaim := { program := "ytmlibmleamiljaa", sum := "06b39fdd1e687e12749bb3402a47f8a2c7bf62c11dbe3ee325874291ec7da10b", func := "minuet/minuetlaw8.EditDoes", spec := "editDoes", unfollowed := true, recurses := true, apart := false, narrowed := true }
def EditDoesUptoSaid : Prop := editDoesUptoRow.holds Try.pinned (OpenSpec.upto editDoesSpec)

/-- 'minuetlaw8.EditForms', WHERE WHAT IT READS IS OF BULK AT MOST 1048576: true; the input reads as it did. -/
def editFormsUptoRow : OpenClaim := { program := "ytmlibmleamiljaa", sum := "06b39fdd1e687e12749bb3402a47f8a2c7bf62c11dbe3ee325874291ec7da10b", func := "minuet/minuetlaw8.EditForms", spec := "editForms", unfollowed := true, recurses := true, apart := false, narrowed := true }
def EditFormsUptoSaid : Prop := editFormsUptoRow.holds Try.pinned (OpenSpec.upto editFormsSpec)

/-- 'minuetlaw8.EditLeast', WHERE WHAT IT READS IS OF BULK AT MOST 1048576: true; the input reads as it did. -/
def editLeastUptoRow : OpenClaim := { program := "ytmlibmleamiljaa", sum := "06b39fdd1e687e12749bb3402a47f8a2c7bf62c11dbe3ee325874291ec7da10b", func := "minuet/minuetlaw8.EditLeast", spec := "editLeast", unfollowed := true, recurses := true, apart := false, narrowed := true }
def EditLeastUptoSaid : Prop := editLeastUptoRow.holds Try.pinned (OpenSpec.upto editLeastSpec)

/-- 'minuetlaw8.EditTurned', WHERE WHAT IT READS IS OF BULK AT MOST 1048576: true; the input reads as it did. -/
def editTurnedUptoRow : OpenClaim := { program := "ytmlibmleamiljaa", sum := "06b39fdd1e687e12749bb3402a47f8a2c7bf62c11dbe3ee325874291ec7da10b", func := "minuet/minuetlaw8.EditTurned", spec := "editTurned", unfollowed := true, recurses := true, apart := false, narrowed := true }
def EditTurnedUptoSaid : Prop := editTurnedUptoRow.holds Try.pinned (OpenSpec.upto editTurnedSpec)

end Rows
end Go.Proofs.Ytmlibmleamiljaa
