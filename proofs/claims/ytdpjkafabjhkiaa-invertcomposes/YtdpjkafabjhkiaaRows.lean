/-
  No cell of these rows narrows 'for every input' (looked for: loops, veiled, ifaces, maps, wideKeys, modest, calm, conditions, laid).
  DERIVED. THE GIVEN ROWS OF THIS SEAT. 3 by the template 'for every input the law returns true; each argument reads behind the call as it read before'; 0 by the template 'total and deterministic' (their statements: YtdpjkafabjhkiaaTotals.lean).
  GIVEN WITH THE SEED: the statements are not yours to turn. If you find one false, say at which input.
  Laid BY PROGRAM, IN A SANDBOX (cutbox-rows.mjs): the forced cells as the released guide's own fill.sh prints them over the translation ed31db812cdd0bad… (all of the seat's roots in one cut). By AI agents, Wed Nov 11 2026. No macro, syntax, notation, axiom, sorry.
-/
import Derived.Test.YtdpjkafabjhkiaaChecked
import GoSem.Claim
import GoSem.ClaimJoined
import GoSem.ClaimMapViews
import Derived.JoinedTies
import Derived.KernelRfl
namespace Go.Proofs.Ytdpjkafabjhkiaa
/- THE CELL 'sum', in the pinned program and in every row, IS THE sha256 OF THE DUMP (.gsa) THAT YtdpjkafabjhkiaaProg.lean LOADS. Nothing in Lean hashes anything: it is a label: what it is worth is what the hold of that sum in a sandbox is worth. -/
noncomputable def Try.pinned : Pinned := { name := "ytdpjkafabjhkiaa", sum := "ed31db812cdd0bad6876661cf24a8aa8852de0ae09c964b2c9fd1dc1e07beb5e", checked := Try.checked }
namespace Rows
def none {H : Type} : Left H := { results := [], args := [] }

/-- 'minuetlaw7.Inverts': WHATEVER THE INPUT: true; the input reads as it did. -/
def invertsSpec : ChangeSpec := { name := "inverts", fn := fun _ => fun
  | [d1, d2] => { results := [.lit (.bool true)], args := [d1, d2] }
  | _ => none }
def invertsRow : OpenClaim := { program := "ytdpjkafabjhkiaa", sum := "ed31db812cdd0bad6876661cf24a8aa8852de0ae09c964b2c9fd1dc1e07beb5e", func := "minuet/minuetlaw7.Inverts", spec := "inverts", recurses := true, apart := false }
def InvertsSaid : Prop := invertsRow.holds Try.pinned (OpenSpec.ofChange invertsSpec)

/-- ITS FALSE NEIGHBOUR: 'it returns false'. Refute it at one input. -/
def invertsWrong : ChangeSpec := { name := "inverts", fn := fun _ => fun
  | [d1, d2] => { results := [.lit (.bool false)], args := [d1, d2] }
  | _ => none }
def InvertsWrongFalsely : Prop := invertsRow.holds Try.pinned (OpenSpec.ofChange invertsWrong)

/-- 'minuetlaw7.InvertBack': WHATEVER THE INPUT: true; the input reads as it did. -/
def invertBackSpec : ChangeSpec := { name := "invertBack", fn := fun _ => fun
  | [d1, d2] => { results := [.lit (.bool true)], args := [d1, d2] }
  | _ => none }
def invertBackRow : OpenClaim := { program := "ytdpjkafabjhkiaa", sum := "ed31db812cdd0bad6876661cf24a8aa8852de0ae09c964b2c9fd1dc1e07beb5e", func := "minuet/minuetlaw7.InvertBack", spec := "invertBack", recurses := true, apart := false }
def InvertBackSaid : Prop := invertBackRow.holds Try.pinned (OpenSpec.ofChange invertBackSpec)

/-- ITS FALSE NEIGHBOUR: 'it returns false'. Refute it at one input. -/
def invertBackWrong : ChangeSpec := { name := "invertBack", fn := fun _ => fun
  | [d1, d2] => { results := [.lit (.bool false)], args := [d1, d2] }
  | _ => none }
def InvertBackWrongFalsely : Prop := invertBackRow.holds Try.pinned (OpenSpec.ofChange invertBackWrong)

/-- 'minuetlaw7.InvertComposes': WHATEVER THE INPUT: true; the input reads as it did. -/
def invertComposesSpec : ChangeSpec := { name := "invertComposes", fn := fun _ => fun
  | [d1, d2] => { results := [.lit (.bool true)], args := [d1, d2] }
  | _ => none }
def invertComposesRow : OpenClaim := { program := "ytdpjkafabjhkiaa", sum := "ed31db812cdd0bad6876661cf24a8aa8852de0ae09c964b2c9fd1dc1e07beb5e", func := "minuet/minuetlaw7.InvertComposes", spec := "invertComposes", recurses := true, apart := false }
def InvertComposesSaid : Prop := invertComposesRow.holds Try.pinned (OpenSpec.ofChange invertComposesSpec)

/-- ITS FALSE NEIGHBOUR: 'it returns false'. Refute it at one input. -/
def invertComposesWrong : ChangeSpec := { name := "invertComposes", fn := fun _ => fun
  | [d1, d2] => { results := [.lit (.bool false)], args := [d1, d2] }
  | _ => none }
def InvertComposesWrongFalsely : Prop := invertComposesRow.holds Try.pinned (OpenSpec.ofChange invertComposesWrong)

/- THE SECOND FORM. 'bulk': how many values and letters a reading holds, each counted each time it is reached (what is shared counts as often as it is met; a slice's spare places count too). A statement '..UptoSaid' is the law's where the arguments, and the package variables that the reading takes, are together of bulk at most 1048576: NARROWER than '..Said'. Prove '..Said' where nothing that the law and all that it calls make is longer than what came in: it says more and counts as full. Else prove '..UptoSaid'. A law counts once. -/
mutual
def uptoBulk {H : Type} : DataW H → Nat
  | .lit (.string bytes) => bytes.length + 1
  | .lit _ => 1
  | .nil => 1
  | .ptr d => uptoBulk d + 1
  | .slice elems spare => uptoBulkAll elems + uptoBulkAll spare + 1
  | .agg parts => uptoBulkAll parts + 1
  | .iface _ d => uptoBulk d + 1
  | .map entries => uptoBulkEntries entries + 1
  | .held _ => 1
def uptoBulkAll {H : Type} : List (DataW H) → Nat
  | [] => 0
  | d :: r => uptoBulk d + uptoBulkAll r
def uptoBulkEntries {H : Type} : List (Lit × DataW H) → Nat
  | [] => 0
  | x :: r => uptoBulkEntry x + uptoBulkEntries r
def uptoBulkEntry {H : Type} : Lit × DataW H → Nat
  | (.string bytes, d) => bytes.length + uptoBulk d + 1
  | (_, d) => uptoBulk d + 1
 end
def uptoSmall : (H : Type) → List (DataW H) → Bool := fun _ ds => decide (uptoBulkAll ds ≤ 1048576)
def OpenSpec.upto (s : _root_.Go.ChangeSpec) : _root_.Go.OpenSpec := { _root_.Go.OpenSpec.ofChange s with cond := some uptoSmall }

/-- 'minuetlaw7.Inverts', WHERE WHAT IT READS IS OF BULK AT MOST 1048576: true; the input reads as it did. -/
def invertsUptoRow : OpenClaim := { program := "ytdpjkafabjhkiaa", sum := "ed31db812cdd0bad6876661cf24a8aa8852de0ae09c964b2c9fd1dc1e07beb5e", func := "minuet/minuetlaw7.Inverts", spec := "inverts", recurses := true, apart := false, narrowed := true }
def InvertsUptoSaid : Prop := invertsUptoRow.holds Try.pinned (OpenSpec.upto invertsSpec)

/-- 'minuetlaw7.InvertBack', WHERE WHAT IT READS IS OF BULK AT MOST 1048576: true; the input reads as it did. -/
def invertBackUptoRow : OpenClaim := { program := "ytdpjkafabjhkiaa", sum := "ed31db812cdd0bad6876661cf24a8aa8852de0ae09c964b2c9fd1dc1e07beb5e", func := "minuet/minuetlaw7.InvertBack", spec := "invertBack", recurses := true, apart := false, narrowed := true }
def InvertBackUptoSaid : Prop := invertBackUptoRow.holds Try.pinned (OpenSpec.upto invertBackSpec)

/-- 'minuetlaw7.InvertComposes', WHERE WHAT IT READS IS OF BULK AT MOST 1048576: true; the input reads as it did. -/
def invertComposesUptoRow : OpenClaim := { program := "ytdpjkafabjhkiaa", sum := "ed31db812cdd0bad6876661cf24a8aa8852de0ae09c964b2c9fd1dc1e07beb5e", func := "minuet/minuetlaw7.InvertComposes", spec := "invertComposes", recurses := true, apart := false, narrowed := true }
def InvertComposesUptoSaid : Prop := invertComposesUptoRow.holds Try.pinned (OpenSpec.upto invertComposesSpec)

end Rows
end Go.Proofs.Ytdpjkafabjhkiaa
