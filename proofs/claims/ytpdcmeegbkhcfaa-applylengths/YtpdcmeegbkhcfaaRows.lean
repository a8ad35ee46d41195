/-
  No cell of these rows narrows 'for every input' (looked for: loops, veiled, ifaces, maps, wideKeys, modest, calm, conditions, laid).
  DERIVED. THE GIVEN ROWS OF THIS SEAT. 4 by the template 'for every input the law returns true; each argument reads behind the call as it read before'; 0 by the template 'total and deterministic' (their statements: YtpdcmeegbkhcfaaTotals.lean).
  GIVEN WITH THE SEED: the statements are not yours to turn. If you find one false, say at which input.
  Laid BY PROGRAM, IN A SANDBOX (cutbox-rows.mjs): the forced cells as the released guide's own fill.sh prints them over the translation 271301e3d40c25f1… (all of the seat's roots in one cut). By AI agents, Wed Nov 11 2026. No macro, syntax, notation, axiom, sorry.
-/
import Derived.Test.YtpdcmeegbkhcfaaChecked
import GoSem.Claim
import GoSem.ClaimJoined
import GoSem.ClaimMapViews
import Derived.JoinedTies
import Derived.KernelRfl
namespace Go.Proofs.Ytpdcmeegbkhcfaa
/- THE CELL 'sum', in the pinned program and in every row, IS THE sha256 OF THE DUMP (.gsa) THAT YtpdcmeegbkhcfaaProg.lean LOADS. Nothing in Lean hashes anything: it is a label: what it is worth is what the hold of that sum in a sandbox is worth. -/
noncomputable def Try.pinned : Pinned := { name := "ytpdcmeegbkhcfaa", sum := "271301e3d40c25f1ebddce8e4d79bf149cbb794bbd89327a6222753d3001deea", checked := Try.checked }
namespace Rows
def none {H : Type} : Left H := { results := [], args := [] }

/-- 'minuetlaw3.Applies': WHATEVER THE INPUT: true; the input reads as it did. -/
def appliesSpec : ChangeSpec := { name := "applies", fn := fun _ => fun
  | [d1, d2] => { results := [.lit (.bool true)], args := [d1, d2] }
  | _ => none }
def appliesRow : OpenClaim := { program := "ytpdcmeegbkhcfaa", sum := "271301e3d40c25f1ebddce8e4d79bf149cbb794bbd89327a6222753d3001deea", func := "minuet/minuetlaw3.Applies", spec := "applies", recurses := true, apart := false }
def AppliesSaid : Prop := appliesRow.holds Try.pinned (OpenSpec.ofChange appliesSpec)

/-- ITS FALSE NEIGHBOUR: 'it returns false'. Refute it at one input. -/
def appliesWrong : ChangeSpec := { name := "applies", fn := fun _ => fun
  | [d1, d2] => { results := [.lit (.bool false)], args := [d1, d2] }
  | _ => none }
def AppliesWrongFalsely : Prop := appliesRow.holds Try.pinned (OpenSpec.ofChange appliesWrong)

/-- 'minuetlaw3.ApplyParts': WHATEVER THE INPUT: true; the input reads as it did. -/
def applyPartsSpec : ChangeSpec := { name := "applyParts", fn := fun _ => fun
  | [d1, d2, d3, d4] => { results := [.lit (.bool true)], args := [d1, d2, d3, d4] }
  | _ => none }
def applyPartsRow : OpenClaim := { program := "ytpdcmeegbkhcfaa", sum := "271301e3d40c25f1ebddce8e4d79bf149cbb794bbd89327a6222753d3001deea", func := "minuet/minuetlaw3.ApplyParts", spec := "applyParts", recurses := true, apart := false }
def ApplyPartsSaid : Prop := applyPartsRow.holds Try.pinned (OpenSpec.ofChange applyPartsSpec)

/-- ITS FALSE NEIGHBOUR: 'it returns false'. Refute it at one input. -/
def applyPartsWrong : ChangeSpec := { name := "applyParts", fn := fun _ => fun
  | [d1, d2, d3, d4] => { results := [.lit (.bool false)], args := [d1, d2, d3, d4] }
  | _ => none }
def ApplyPartsWrongFalsely : Prop := applyPartsRow.holds Try.pinned (OpenSpec.ofChange applyPartsWrong)

/-- 'minuetlaw3.ApplyKeeps': WHATEVER THE INPUT: true; the input reads as it did. -/
def applyKeepsSpec : ChangeSpec := { name := "applyKeeps", fn := fun _ => fun
  | [d1, d2] => { results := [.lit (.bool true)], args := [d1, d2] }
  | _ => none }
def applyKeepsRow : OpenClaim := { program := "ytpdcmeegbkhcfaa", sum := "271301e3d40c25f1ebddce8e4d79bf149cbb794bbd89327a6222753d3001deea", func := "minuet/minuetlaw3.ApplyKeeps", spec := "applyKeeps", apart := false }
def ApplyKeepsSaid : Prop := applyKeepsRow.holds Try.pinned (OpenSpec.ofChange applyKeepsSpec)

/-- ITS FALSE NEIGHBOUR: 'it returns false'. Refute it at one input. -/
def applyKeepsWrong : ChangeSpec := { name := "applyKeeps", fn := fun _ => fun
  | [d1, d2] => { results := [.lit (.bool false)], args := [d1, d2] }
  | _ => none }
def ApplyKeepsWrongFalsely : Prop := applyKeepsRow.holds Try.pinned (OpenSpec.ofChange applyKeepsWrong)

/-- 'minuetlaw3.ApplyLengths': WHATEVER THE INPUT: true; the input reads as it did. -/
def applyLengthsSpec : ChangeSpec := { name := "applyLengths", fn := fun _ => fun
  | [d1, d2] => { results := [.lit (.bool true)], args := [d1, d2] }
  | _ => none }
def applyLengthsRow : OpenClaim := { program := "ytpdcmeegbkhcfaa", sum := "271301e3d40c25f1ebddce8e4d79bf149cbb794bbd89327a6222753d3001deea", func := "minuet/minuetlaw3.ApplyLengths", spec := "applyLengths", recurses := true, apart := false }
def ApplyLengthsSaid : Prop := applyLengthsRow.holds Try.pinned (OpenSpec.ofChange applyLengthsSpec)

/-- ITS FALSE NEIGHBOUR: 'it returns false'. Refute it at one input. -/
def applyLengthsWrong : ChangeSpec := { name := "applyLengths", fn := fun _ => fun
  | [d1, d2] => { results := [.lit (.bool false)], args := [d1, d2] }
  | _ => none }
def ApplyLengthsWrongFalsely : Prop := applyLengthsRow.holds Try.pinned (OpenSpec.ofChange applyLengthsWrong)

/- THE SECOND FORM. 'bulk': how many values and letters a reading holds, each counted each time it is reached (what is shared counts as often as it is met; a slice's spare places count too). A statement '..UptoSaid' is the law's where the arguments, and the package variables that the reading takes, are together of bulk at most 1048576: NARROWER than '..Said'. Prove '..Said' where nothing that the law and all that it calls make is longer than what came in: it says more and counts as full. Else prove '..UptoSaid'. A law counts once. -/
mutual
def uptoBulk {H : Type} : DataW H → Nat
  | .lit (.string bytes) => bytes.length + 1
  | .lit _ => 1
  | .nil => 1
  | .ptr d => uptoBulk d + 1
  | .slice elems spare => uptoBulkAll elems + uptoBulkAll spare + 1
  | .agg parts => uptoBulkAll parts + 1
  | .iface _ d => uptoBulk d + 1
  | .map entries => uptoBulkEntries entries + 1
  | .held _ => 1
def uptoBulkAll {H : Type} : List (DataW H) → Nat
  | [] => 0
  | d :: r => uptoBulk d + uptoBulkAll r
def uptoBulkEntries {H : Type} : List (Lit × DataW H) → Nat
  | [] => 0
  | x :: r => uptoBulkEntry x + uptoBulkEntries r
def uptoBulkEntry {H : Type} : Lit × DataW H → Nat
  | (.string bytes, d) => bytes.length + uptoBulk d + 1
  | (_, d) => uptoBulk d + 1
 end
def uptoSmall : (H : Type) → List (DataW H) → Bool := fun _ ds => decide (uptoBulkAll ds ≤ 1048576)
def OpenSpec.upto (s : _root_.Go.ChangeSpec) : _root_.Go.OpenSpec := { _root_.Go.OpenSpec.ofChange s with cond := some uptoSmall }

/-- 'minuetlaw3.Applies', WHERE WHAT IT READS IS OF BULK AT MOST 1048576: true; the input reads as it did. -/
def appliesUptoRow : OpenClaim := { program := "ytpdcmeegbkhcfaa", sum := "271301e3d40c25f1ebddce8e4d79bf149cbb794bbd89327a6222753d3001deea", func := "minuet/minuetlaw3.Applies", spec := "applies", recurses := true, apart := false, narrowed := true }
def AppliesUptoSaid : Prop := appliesUptoRow.holds Try.pinned (OpenSpec.upto appliesSpec)

/-- 'minuetlaw3.ApplyParts', WHERE WHAT IT READS IS OF BULK AT MOST 1048576: true; the input reads as it did. -/
def applyPartsUptoRow : OpenClaim := { program := "ytpdcmeegbkhcfaa", sum := "271301e3d40c25f1ebddce8e4d79bf149cbb794bbd89327a6222753d3001deea", func := "minuet/minuetlaw3.ApplyParts", spec := "applyParts", recurses := true, apart := false, narrowed := true }
def ApplyPartsUptoSaid : Prop := applyPartsUptoRow.holds Try.pinned (OpenSpec.upto applyPartsSpec)

/-- 'minuetlaw3.ApplyKeeps', WHERE WHAT IT READS IS OF BULK AT MOST 1048576: true; the input reads as it did. -/
def applyKeepsUptoRow : OpenClaim := { program := "ytpdcmeegbkhcfaa", sum := "271301e3d40c25f1ebddce8e4d79bf149cbb794bbd89327a6222753d3001deea", func := "minuet/minuetlaw3.ApplyKeeps", spec := "applyKeeps", apart := false, narrowed := true }
def ApplyKeepsUptoSaid : Prop := applyKeepsUptoRow.holds Try.pinned (OpenSpec.upto applyKeepsSpec)

/-- 'minuetlaw3.ApplyLengths', WHERE WHAT IT READS IS OF BULK AT MOST 1048576: true; the input reads as it did. -/
def applyLengthsUptoRow : OpenClaim := { program := "ytpdcmeegbkhcfaa", sum := "271301e3d40c25f1ebddce8e4d79bf149cbb794bbd89327a6222753d3001deea", func := "minuet/minuetlaw3.ApplyLengths", spec := "applyLengths", recurses := true, apart := false, narrowed := true }
def ApplyLengthsUptoSaid : Prop := applyLengthsUptoRow.holds Try.pinned (OpenSpec.upto applyLengthsSpec)

end Rows
end Go.Proofs.Ytpdcmeegbkhcfaa
