/-
  No cell of these rows narrows 'for every input' (looked for: loops, veiled, ifaces, maps, wideKeys, modest, calm, conditions, laid).
  DERIVED. THE GIVEN ROWS OF THIS SEAT. 4 by the template 'for every input the law returns true; each argument reads behind the call as it read before'; 0 by the template 'total and deterministic' (their statements: YtmeigoeknjoodaaTotals.lean).
  GIVEN WITH THE SEED: the statements are not yours to turn. If you find one false, say at which input.
  Laid BY PROGRAM, IN A SANDBOX (cutbox-rows.mjs): the forced cells as the released guide's own fill.sh prints them over the translation 007197f632121ebe… (all of the seat's roots in one cut). By AI agents, Wed Nov 11 2026. No macro, syntax, notation, axiom, sorry.
-/
import Derived.Test.YtmeigoeknjoodaaChecked
import GoSem.Claim
import GoSem.ClaimJoined
import GoSem.ClaimMapViews
import Derived.JoinedTies
import Derived.KernelRfl
namespace Go.Proofs.Ytmeigoeknjoodaa
/- THE CELL 'sum', in the pinned program and in every row, IS THE sha256 OF THE DUMP (.gsa) THAT YtmeigoeknjoodaaProg.lean LOADS. Nothing in Lean hashes anything: it is a label: what it is worth is what the hold of that sum in a sandbox is worth. -/
noncomputable def Try.pinned : Pinned := { name := "ytmeigoeknjoodaa", sum := "007197f632121ebe0fb5d11cd817480584f6df979c652ae8070a497a8991b7b4", checked := Try.checked }
namespace Rows
def none {H : Type} : Left H := { results := [], args := [] }

/-- 'minuetlaw14.Deltas': WHATEVER THE INPUT: true; the input reads as it did. -/
def deltasSpec : ChangeSpec := { name := "deltas", fn := fun _ => fun
  | [d1, d2] => { results := [.lit (.bool true)], args := [d1, d2] }
  | _ => none }
def deltasRow : OpenClaim := { program := "ytmeigoeknjoodaa", sum := "007197f632121ebe0fb5d11cd817480584f6df979c652ae8070a497a8991b7b4", func := "minuet/minuetlaw14.Deltas", spec := "deltas", unfollowed := true, recurses := true, apart := false }
def DeltasSaid : Prop := deltasRow.holds Try.pinned (OpenSpec.ofChange deltasSpec)

/-- ITS FALSE NEIGHBOUR: 'it returns false'. Refute it at one input. -/
def deltasWrong : ChangeSpec := { name := "deltas", fn := fun _ => fun
  | [d1, d2] => { results := [.lit (.bool false)], args := [d1, d2] }
  | _ => none }
def DeltasWrongFalsely : Prop := deltasRow.holds Try.pinned (OpenSpec.ofChange deltasWrong)

/-- 'minuetlaw14.DeltaSmall': WHATEVER THE INPUT: true; the input reads as it did. -/
def deltaSmallSpec : ChangeSpec := { name := "deltaSmall", fn := fun _ => fun
  | [d1, d2] => { results := [.lit (.bool true)], args := [d1, d2] }
  | _ => none }
def deltaSmallRow : OpenClaim := { program := "ytmeigoeknjoodaa", sum := "007197f632121ebe0fb5d11cd817480584f6df979c652ae8070a497a8991b7b4", func := "minuet/minuetlaw14.DeltaSmall", spec := "deltaSmall", unfollowed := true, recurses := true, apart := false }
def DeltaSmallSaid : Prop := deltaSmallRow.holds Try.pinned (OpenSpec.ofChange deltaSmallSpec)

/-- ITS FALSE NEIGHBOUR: 'it returns false'. Refute it at one input. -/
def deltaSmallWrong : ChangeSpec := { name := "deltaSmall", fn := fun _ => fun
  | [d1, d2] => { results := [.lit (.bool false)], args := [d1, d2] }
  | _ => none }
def DeltaSmallWrongFalsely : Prop := deltaSmallRow.holds Try.pinned (OpenSpec.ofChange deltaSmallWrong)

/-- 'minuetlaw14.DeltaForms': WHATEVER THE INPUT: true; the input reads as it did. -/
def deltaFormsSpec : ChangeSpec := { name := "deltaForms", fn := fun _ => fun
  | [d1, d2] => { results := [.lit (.bool true)], args := [d1, d2] }
  | _ => none }
def deltaFormsRow : OpenClaim := { program := "ytmeigoeknjoodaa", sum := "007197f632121ebe0fb5d11cd817480584f6df979c652ae8070a497a8991b7b4", func := "minuet/minuetlaw14.DeltaForms", spec := "deltaForms", unfollowed := true, recurses := true, apart := false }
def DeltaFormsSaid : Prop := deltaFormsRow.holds Try.pinned (OpenSpec.ofChange deltaFormsSpec)

/-- ITS FALSE NEIGHBOUR: 'it returns false'. Refute it at one input. -/
def deltaFormsWrong : ChangeSpec := { name := "deltaForms", fn := fun _ => fun
  | [d1, d2] => { results := [.lit (.bool false)], args := [d1, d2] }
  | _ => none }
def DeltaFormsWrongFalsely : Prop := deltaFormsRow.holds Try.pinned (OpenSpec.ofChange deltaFormsWrong)

/-- 'minuetlaw14.DeltaCounts': WHATEVER THE INPUT: true; the input reads as it did. -/
def deltaCountsSpec : ChangeSpec := { name := "deltaCounts", fn := fun _ => fun
  | [d1, d2] => { results := [.lit (.bool true)], args := [d1, d2] }
  | _ => none }
def deltaCountsRow : OpenClaim := { program := "ytmeigoeknjoodaa", sum := "007197f632121ebe0fb5d11cd817480584f6df979c652ae8070a497a8991b7b4", func := "minuet/minuetlaw14.DeltaCounts", spec := "deltaCounts", unfollowed := true, recurses := true, apart := false }
def DeltaCountsSaid : Prop := deltaCountsRow.holds Try.pinned (OpenSpec.ofChange deltaCountsSpec)

/-- ITS FALSE NEIGHBOUR: 'it returns false'. Refute it at one input. -/
def deltaCountsWrong : ChangeSpec := { name := "deltaCounts", fn := fun _ => fun
  | [d1, d2] => { results := [.lit (.bool false)], args := [d1, d2] }
  | _ => none }
def DeltaCountsWrongFalsely : Prop := deltaCountsRow.holds Try.pinned (OpenSpec.ofChange deltaCountsWrong)

/- THE SECOND FORM. 'bulk': how many values and letters a reading holds, each counted each time it is reached (what is shared counts as often as it is met; a slice's spare places count too). A statement '..UptoSaid' is the law's where the arguments, and the package variables that the reading takes, are together of bulk at most 1048576: NARROWER than '..Said'. Prove '..Said' where nothing that the law and all that it calls make is longer than what came in: it says more and counts as full. Else prove '..UptoSaid'. A law counts once. -/
mutual
def uptoBulk {H : Type} : DataW H → Nat
  | .lit (.string bytes) => bytes.length + 1
  | .lit _ => 1
  | .nil => 1
  | .ptr d => uptoBulk d + 1
  | .slice elems spare => uptoBulkAll elems + uptoBulkAll spare + 1
  | .agg parts => uptoBulkAll parts + 1
  | .iface _ d => uptoBulk d + 1
  | .map entries => uptoBulkEntries entries + 1
  | .held _ => 1
def uptoBulkAll {H : Type} : List (DataW H) → Nat
  | [] => 0
  | d :: r => uptoBulk d + uptoBulkAll r
def uptoBulkEntries {H : Type} : List (Lit × DataW H) → Nat
  | [] => 0
  | x :: r => uptoBulkEntry x + uptoBulkEntries r
def uptoBulkEntry {H : Type} : Lit × DataW H → Nat
  | (.string bytes, d) => bytes.length + uptoBulk d + 1
  | (_, d) => uptoBulk d + 1
 end
def uptoSmall : (H : Type) → List (DataW H) → Bool := fun _ ds => decide (uptoBulkAll ds ≤ 1048576)
def OpenSpec.upto (s : _root_.Go.ChangeSpec) : _root_.Go.OpenSpec := { _root_.Go.OpenSpec.ofChange s with cond := some uptoSmall }

/-- 'minuetlaw14.Deltas', WHERE WHAT IT READS IS OF BULK AT MOST 1048576: true; the input reads as it did. -/
def deltasUptoRow : OpenClaim := { program := "ytmeigoeknjoodaa", sum := "007197f632121ebe0fb5d11cd817480584f6df979c652ae8070a497a8991b7b4", func := "minuet/minuetlaw14.Deltas", spec := "deltas", unfollowed := true, recurses := true, apart := false, narrowed := true }
def DeltasUptoSaid : Prop := deltasUptoRow.holds Try.pinned (OpenSpec.upto deltasSpec)

/-- 'minuetlaw14.DeltaSmall', WHERE WHAT IT READS IS OF BULK AT MOST 1048576: true; the input reads as it did. -/
def deltaSmallUptoRow : OpenClaim := { program := "ytmeigoeknjoodaa", sum := "007197f632121ebe0fb5d11cd817480584f6df979c652ae8070a497a8991b7b4", func := "minuet/minuetlaw14.DeltaSmall", spec := "deltaSmall", unfollowed := true, recurses := true, apart := false, narrowed := true }
def DeltaSmallUptoSaid : Prop := deltaSmallUptoRow.holds Try.pinned (OpenSpec.upto deltaSmallSpec)

/-- 'minuetlaw14.DeltaForms', WHERE WHAT IT READS IS OF BULK AT MOST 1048576: true; the input reads as it did. -/
def deltaFormsUptoRow : OpenClaim := { program := "ytmeigoeknjoodaa", sum := "007197f632121ebe0fb5d11cd817480584f6df979c652ae8070a497a8991b7b4", func := "minuet/minuetlaw14.DeltaForms", spec := "deltaForms", unfollowed := true, recurses := true, apart := false, narrowed := true }
def DeltaFormsUptoSaid : Prop := deltaFormsUptoRow.holds Try.pinned (OpenSpec.upto deltaFormsSpec)

/-- 'minuetlaw14.DeltaCounts', WHERE WHAT IT READS IS OF BULK AT MOST 1048576: true; the input reads as it did. -/
def deltaCountsUptoRow : OpenClaim := { program := "ytmeigoeknjoodaa", sum := "007197f632121ebe0fb5d11cd817480584f6df979c652ae8070a497a8991b7b4", func := "minuet/minuetlaw14.DeltaCounts", spec := "deltaCounts", unfollowed := true, recurses := true, apart := false, narrowed := true }
def DeltaCountsUptoSaid : Prop := deltaCountsUptoRow.holds Try.pinned (OpenSpec.upto deltaCountsSpec)

end Rows
end Go.Proofs.Ytmeigoeknjoodaa
