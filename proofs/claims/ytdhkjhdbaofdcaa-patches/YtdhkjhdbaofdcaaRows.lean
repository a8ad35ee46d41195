/-
  No cell of these rows narrows 'for every input' (looked for: loops, veiled, ifaces, maps, wideKeys, modest, calm, conditions, laid).
  DERIVED. THE GIVEN ROWS OF THIS SEAT. 4 by the template 'for every input the law returns true; each argument reads behind the call as it read before'; 0 by the template 'total and deterministic' (their statements: YtdhkjhdbaofdcaaTotals.lean).
  GIVEN WITH THE SEED: the statements are not yours to turn. If you find one false, say at which input.
  Laid BY PROGRAM, IN A SANDBOX (cutbox-rows.mjs): the forced cells as the released guide's own fill.sh prints them over the translation 34a72afec3ca6ee9… (all of the seat's roots in one cut). By AI agents, Wed Nov 11 2026. No macro, syntax, notation, axiom, sorry.
-/
import Derived.Test.YtdhkjhdbaofdcaaChecked
import GoSem.Claim
import GoSem.ClaimJoined
import GoSem.ClaimMapViews
import Derived.JoinedTies
import Derived.KernelRfl
namespace Go.Proofs.Ytdhkjhdbaofdcaa
/- THE CELL 'sum', in the pinned program and in every row, IS THE sha256 OF THE DUMP (.gsa) THAT YtdhkjhdbaofdcaaProg.lean LOADS. Nothing in Lean hashes anything: it is a label: what it is worth is what the hold of that sum in a sandbox is worth. -/
noncomputable def Try.pinned : Pinned := { name := "ytdhkjhdbaofdcaa", sum := "34a72afec3ca6ee965a37a16af378a273b3c1ecc38d987804f3ae9127e1ee28f", checked := Try.checked }
namespace Rows
def none {H : Type} : Left H := { results := [], args := [] }

/-- 'minuetlaw15.Patches': WHATEVER THE INPUT: true; the input reads as it did. -/
def patchesSpec : ChangeSpec := { name := "patches", fn := fun _ => fun
  | [d1, d2, d3] => { results := [.lit (.bool true)], args := [d1, d2, d3] }
  | _ => none }
def patchesRow : OpenClaim := { program := "ytdhkjhdbaofdcaa", sum := "34a72afec3ca6ee965a37a16af378a273b3c1ecc38d987804f3ae9127e1ee28f", func := "minuet/minuetlaw15.Patches", spec := "patches", unfollowed := true, recurses := true, apart := false }
def PatchesSaid : Prop := patchesRow.holds Try.pinned (OpenSpec.ofChange patchesSpec)

/-- ITS FALSE NEIGHBOUR: 'it returns false'. Refute it at one input. -/
def patchesWrong : ChangeSpec := { name := "patches", fn := fun _ => fun
  | [d1, d2, d3] => { results := [.lit (.bool false)], args := [d1, d2, d3] }
  | _ => none }
def PatchesWrongFalsely : Prop := patchesRow.holds Try.pinned (OpenSpec.ofChange patchesWrong)

/-- 'minuetlaw15.PatchForms': WHATEVER THE INPUT: true; the input reads as it did. -/
def patchFormsSpec : ChangeSpec := { name := "patchForms", fn := fun _ => fun
  | [d1, d2] => { results := [.lit (.bool true)], args := [d1, d2] }
  | _ => none }
def patchFormsRow : OpenClaim := { program := "ytdhkjhdbaofdcaa", sum := "34a72afec3ca6ee965a37a16af378a273b3c1ecc38d987804f3ae9127e1ee28f", func := "minuet/minuetlaw15.PatchForms", spec := "patchForms", unfollowed := true, recurses := true, apart := false }
def PatchFormsSaid : Prop := patchFormsRow.holds Try.pinned (OpenSpec.ofChange patchFormsSpec)

/-- ITS FALSE NEIGHBOUR: 'it returns false'. Refute it at one input. -/
def patchFormsWrong : ChangeSpec := { name := "patchForms", fn := fun _ => fun
  | [d1, d2] => { results := [.lit (.bool false)], args := [d1, d2] }
  | _ => none }
def PatchFormsWrongFalsely : Prop := patchFormsRow.holds Try.pinned (OpenSpec.ofChange patchFormsWrong)

/-- 'minuetlaw15.PatchSpans': WHATEVER THE INPUT: true; the input reads as it did. -/
def patchSpansSpec : ChangeSpec := { name := "patchSpans", fn := fun _ => fun
  | [d1, d2] => { results := [.lit (.bool true)], args := [d1, d2] }
  | _ => none }
def patchSpansRow : OpenClaim := { program := "ytdhkjhdbaofdcaa", sum := "34a72afec3ca6ee965a37a16af378a273b3c1ecc38d987804f3ae9127e1ee28f", func := "minuet/minuetlaw15.PatchSpans", spec := "patchSpans", unfollowed := true, recurses := true, apart := false }
def PatchSpansSaid : Prop := patchSpansRow.holds Try.pinned (OpenSpec.ofChange patchSpansSpec)

/-- ITS FALSE NEIGHBOUR: 'it returns false'. Refute it at one input. -/
def patchSpansWrong : ChangeSpec := { name := "patchSpans", fn := fun _ => fun
  | [d1, d2] => { results := [.lit (.bool false)], args := [d1, d2] }
  | _ => none }
def PatchSpansWrongFalsely : Prop := patchSpansRow.holds Try.pinned (OpenSpec.ofChange patchSpansWrong)

/-- 'minuetlaw15.PatchTwice': WHATEVER THE INPUT: true; the input reads as it did. -/
def patchTwiceSpec : ChangeSpec := { name := "patchTwice", fn := fun _ => fun
  | [d1, d2] => { results := [.lit (.bool true)], args := [d1, d2] }
  | _ => none }
def patchTwiceRow : OpenClaim := { program := "ytdhkjhdbaofdcaa", sum := "34a72afec3ca6ee965a37a16af378a273b3c1ecc38d987804f3ae9127e1ee28f", func := "minuet/minuetlaw15.PatchTwice", spec := "patchTwice", unfollowed := true, recurses := true, apart := false }
def PatchTwiceSaid : Prop := patchTwiceRow.holds Try.pinned (OpenSpec.ofChange patchTwiceSpec)

/-- ITS FALSE NEIGHBOUR: 'it returns false'. Refute it at one input. -/
def patchTwiceWrong : ChangeSpec := { name := "patchTwice", fn := fun _ => fun
  | [d1, d2] => { results := [.lit (.bool false)], args := [d1, d2] }
  | _ => none }
def PatchTwiceWrongFalsely : Prop := patchTwiceRow.holds Try.pinned (OpenSpec.ofChange patchTwiceWrong)

/- THE SECOND FORM. 'bulk': how many values and letters a reading holds, each counted each time it is reached (what is shared counts as often as it is met; a slice's spare places count too). A statement '..UptoSaid' is the law's where the arguments, and the package variables that the reading takes, are together of bulk at most 1048576: NARROWER than '..Said'. Prove '..Said' where nothing that the law and all that it calls make is longer than what came in: it says more and counts as full. Else prove '..UptoSaid'. A law counts once. -/
mutual
def uptoBulk {H : Type} : DataW H → Nat
  | .lit (.string bytes) => bytes.length + 1
  | .lit _ => 1
  | .nil => 1
  | .ptr d => uptoBulk d + 1
  | .slice elems spare => uptoBulkAll elems + uptoBulkAll spare + 1
  | .agg parts => uptoBulkAll parts + 1
  | .iface _ d => uptoBulk d + 1
  | .map entries => uptoBulkEntries entries + 1
  | .held _ => 1
def uptoBulkAll {H : Type} : List (DataW H) → Nat
  | [] => 0
  | d :: r => uptoBulk d + uptoBulkAll r
def uptoBulkEntries {H : Type} : List (Lit × DataW H) → Nat
  | [] => 0
  | x :: r => uptoBulkEntry x + uptoBulkEntries r
def uptoBulkEntry {H : Type} : Lit × DataW H → Nat
  | (.string bytes, d) => bytes.length + uptoBulk d + 1
  | (_, d) => uptoBulk d + 1
 end
def uptoSmall : (H : Type) → List (DataW H) → Bool := fun _ ds => decide (uptoBulkAll ds ≤ 1048576)
def OpenSpec.upto (s : _root_.Go.ChangeSpec) : _root_.Go.OpenSpec := { _root_.Go.OpenSpec.ofChange s with cond := some uptoSmall }

/-- 'minuetlaw15.Patches', WHERE WHAT IT READS IS OF BULK AT MOST 1048576: true; the input reads as it did. -/
def patchesUptoRow : OpenClaim := { program := "ytdhkjhdbaofdcaa", sum := "34a72afec3ca6ee965a37a16af378a273b3c1ecc38d987804f3ae9127e1ee28f", func := "minuet/minuetlaw15.Patches", spec := "patches", unfollowed := true, recurses := true, apart := false, narrowed := true }
def PatchesUptoSaid : Prop := patchesUptoRow.holds Try.pinned (OpenSpec.upto patchesSpec)

/-- 'minuetlaw15.PatchForms', WHERE WHAT IT READS IS OF BULK AT MOST 1048576: true; the input reads as it did. -/
def patchFormsUptoRow : OpenClaim := { program := "ytdhkjhdbaofdcaa", sum := "34a72afec3ca6ee965a37a16af378a273b3c1ecc38d987804f3ae9127e1ee28f", func := "minuet/minuetlaw15.PatchForms", spec := "patchForms", unfollowed := true, recurses := true, apart := false, narrowed := true }
def PatchFormsUptoSaid : Prop := patchFormsUptoRow.holds Try.pinned (OpenSpec.upto patchFormsSpec)

/-- 'minuetlaw15.PatchSpans', WHERE WHAT IT READS IS OF BULK AT MOST 1048576: true; the input reads as it did. -/
def patchSpansUptoRow : OpenClaim := { program := "ytdhkjhdbaofdcaa", sum := "34a72afec3ca6ee965a37a16af378a273b3c1ecc38d987804f3ae9127e1ee28f", func := "minuet/minuetlaw15.PatchSpans", spec := "patchSpans", unfollowed := true, recurses := true, apart := false, narrowed := true }
def PatchSpansUptoSaid : Prop := patchSpansUptoRow.holds Try.pinned (OpenSpec.upto patchSpansSpec)

/-- 'minuetlaw15.PatchTwice', WHERE WHAT IT READS IS OF BULK AT MOST 1048576: true; the input reads as it did. -/
def patchTwiceUptoRow : OpenClaim := { program := "ytdhkjhdbaofdcaa", sum := "34a72afec3ca6ee965a37a16af378a273b3c1ecc38d987804f3ae9127e1ee28f", func := "minuet/minuetlaw15.PatchTwice", spec := "patchTwice", unfollowed := true, recurses := true, apart := false, narrowed := true }
def PatchTwiceUptoSaid : Prop := patchTwiceUptoRow.holds Try.pinned (OpenSpec.upto patchTwiceSpec)

end Rows
end Go.Proofs.Ytdhkjhdbaofdcaa
