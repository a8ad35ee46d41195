/-
  No cell of these rows narrows 'for every input' (looked for: loops, veiled, ifaces, maps, wideKeys, modest, calm, conditions, laid).
  DERIVED. THE GIVEN ROWS OF THIS SEAT. 4 by the template 'for every input the law returns true; each argument reads behind the call as it read before'; 0 by the template 'total and deterministic' (their statements: YtijfifbjiakilaaTotals.lean).
  GIVEN WITH THE SEED: the statements are not yours to turn. If you find one false, say at which input.
  Laid BY PROGRAM, IN A SANDBOX (cutbox-rows.mjs): the forced cells as the released guide's own fill.sh prints them over the translation 8f84ad9b02a62336… (all of the seat's roots in one cut). By AI agents, Wed Nov 11 2026. No macro, syntax, notation, axiom, sorry.
-/
import Derived.Test.YtijfifbjiakilaaChecked
import GoSem.Claim
import GoSem.ClaimJoined
import GoSem.ClaimMapViews
import Derived.JoinedTies
import Derived.KernelRfl
namespace Go.Proofs.Ytijfifbjiakilaa
/- THE CELL 'sum', in the pinned program and in every row, IS THE sha256 OF THE DUMP (.gsa) THAT YtijfifbjiakilaaProg.lean LOADS. Nothing in Lean hashes anything: it is a label: what it is worth is what the hold of that sum in a sandbox is worth. -/
noncomputable def Try.pinned : Pinned := { name := "ytijfifbjiakilaa", sum := "8f84ad9b02a623369e777cf68b6533e36e80b95b70579e3fb6f8e977a38a5b36", checked := Try.checked }
namespace Rows
def none {H : Type} : Left H := { results := [], args := [] }

/-- 'minuetlaw1.Ropes': WHATEVER THE INPUT: true; the input reads as it did. -/
def ropesSpec : ChangeSpec := { name := "ropes", fn := fun _ => fun
  | [d1, d2] => { results := [.lit (.bool true)], args := [d1, d2] }
  | _ => none }
def ropesRow : OpenClaim := { program := "ytijfifbjiakilaa", sum := "8f84ad9b02a623369e777cf68b6533e36e80b95b70579e3fb6f8e977a38a5b36", func := "minuet/minuetlaw1.Ropes", spec := "ropes", inPlace := ["internal/bytealg.MakeNoZero", "internal/bytealg.CountString", "internal/bytealg.IndexByteString", "internal/bytealg.IndexString"], named := ["internal/bytealg.MaxLen"], apart := false }
def RopesSaid : Prop := ropesRow.holds Try.pinned (OpenSpec.ofChange ropesSpec)

/-- ITS FALSE NEIGHBOUR: 'it returns false'. Refute it at one input. -/
def ropesWrong : ChangeSpec := { name := "ropes", fn := fun _ => fun
  | [d1, d2] => { results := [.lit (.bool false)], args := [d1, d2] }
  | _ => none }
def RopesWrongFalsely : Prop := ropesRow.holds Try.pinned (OpenSpec.ofChange ropesWrong)

/-- 'minuetlaw1.RopeChunks': WHATEVER THE INPUT: true; the input reads as it did. -/
def ropeChunksSpec : ChangeSpec := { name := "ropeChunks", fn := fun _ => fun
  | [d1, d2] => { results := [.lit (.bool true)], args := [d1, d2] }
  | _ => none }
def ropeChunksRow : OpenClaim := { program := "ytijfifbjiakilaa", sum := "8f84ad9b02a623369e777cf68b6533e36e80b95b70579e3fb6f8e977a38a5b36", func := "minuet/minuetlaw1.RopeChunks", spec := "ropeChunks", inPlace := ["internal/bytealg.MakeNoZero", "internal/bytealg.CountString", "internal/bytealg.IndexByteString", "internal/bytealg.IndexString"], named := ["internal/bytealg.MaxLen"], apart := false }
def RopeChunksSaid : Prop := ropeChunksRow.holds Try.pinned (OpenSpec.ofChange ropeChunksSpec)

/-- ITS FALSE NEIGHBOUR: 'it returns false'. Refute it at one input. -/
def ropeChunksWrong : ChangeSpec := { name := "ropeChunks", fn := fun _ => fun
  | [d1, d2] => { results := [.lit (.bool false)], args := [d1, d2] }
  | _ => none }
def RopeChunksWrongFalsely : Prop := ropeChunksRow.holds Try.pinned (OpenSpec.ofChange ropeChunksWrong)

/-- 'minuetlaw1.RopeForms': WHATEVER THE INPUT: true; the input reads as it did. -/
def ropeFormsSpec : ChangeSpec := { name := "ropeForms", fn := fun _ => fun
  | [d1, d2] => { results := [.lit (.bool true)], args := [d1, d2] }
  | _ => none }
def ropeFormsRow : OpenClaim := { program := "ytijfifbjiakilaa", sum := "8f84ad9b02a623369e777cf68b6533e36e80b95b70579e3fb6f8e977a38a5b36", func := "minuet/minuetlaw1.RopeForms", spec := "ropeForms", inPlace := ["internal/bytealg.MakeNoZero", "internal/bytealg.CountString", "internal/bytealg.IndexByteString", "internal/bytealg.IndexString"], named := ["internal/bytealg.MaxLen"], apart := false }
def RopeFormsSaid : Prop := ropeFormsRow.holds Try.pinned (OpenSpec.ofChange ropeFormsSpec)

/-- ITS FALSE NEIGHBOUR: 'it returns false'. Refute it at one input. -/
def ropeFormsWrong : ChangeSpec := { name := "ropeForms", fn := fun _ => fun
  | [d1, d2] => { results := [.lit (.bool false)], args := [d1, d2] }
  | _ => none }
def RopeFormsWrongFalsely : Prop := ropeFormsRow.holds Try.pinned (OpenSpec.ofChange ropeFormsWrong)

/-- 'minuetlaw1.RopeBack': WHATEVER THE INPUT: true; the input reads as it did. -/
def ropeBackSpec : ChangeSpec := { name := "ropeBack", fn := fun _ => fun
  | [d1, d2, d3] => { results := [.lit (.bool true)], args := [d1, d2, d3] }
  | _ => none }
def ropeBackRow : OpenClaim := { program := "ytijfifbjiakilaa", sum := "8f84ad9b02a623369e777cf68b6533e36e80b95b70579e3fb6f8e977a38a5b36", func := "minuet/minuetlaw1.RopeBack", spec := "ropeBack", inPlace := ["internal/bytealg.MakeNoZero", "internal/bytealg.CountString", "internal/bytealg.IndexByteString", "internal/bytealg.IndexString"], named := ["internal/bytealg.MaxLen"], apart := false }
def RopeBackSaid : Prop := ropeBackRow.holds Try.pinned (OpenSpec.ofChange ropeBackSpec)

/-- ITS FALSE NEIGHBOUR: 'it returns false'. Refute it at one input. -/
def ropeBackWrong : ChangeSpec := { name := "ropeBack", fn := fun _ => fun
  | [d1, d2, d3] => { results := [.lit (.bool false)], args := [d1, d2, d3] }
  | _ => none }
def RopeBackWrongFalsely : Prop := ropeBackRow.holds Try.pinned (OpenSpec.ofChange ropeBackWrong)

/- THE SECOND FORM. 'bulk': how many values and letters a reading holds, each counted each time it is reached (what is shared counts as often as it is met; a slice's spare places count too). A statement '..UptoSaid' is the law's where the arguments, and the package variables that the reading takes, are together of bulk at most 1048576: NARROWER than '..Said'. Prove '..Said' where nothing that the law and all that it calls make is longer than what came in: it says more and counts as full. Else prove '..UptoSaid'. A law counts once. -/
mutual
def uptoBulk {H : Type} : DataW H → Nat
  | .lit (.string bytes) => bytes.length + 1
  | .lit _ => 1
  | .nil => 1
  | .ptr d => uptoBulk d + 1
  | .slice elems spare => uptoBulkAll elems + uptoBulkAll spare + 1
  | .agg parts => uptoBulkAll parts + 1
  | .iface _ d => uptoBulk d + 1
  | .map entries => uptoBulkEntries entries + 1
  | .held _ => 1
def uptoBulkAll {H : Type} : List (DataW H) → Nat
  | [] => 0
  | d :: r => uptoBulk d + uptoBulkAll r
def uptoBulkEntries {H : Type} : List (Lit × DataW H) → Nat
  | [] => 0
  | x :: r => uptoBulkEntry x + uptoBulkEntries r
def uptoBulkEntry {H : Type} : Lit × DataW H → Nat
  | (.string bytes, d) => bytes.length + uptoBulk d + 1
  | (_, d) => uptoBulk d + 1
 end
def uptoSmall : (H : Type) → List (DataW H) → Bool := fun _ ds => decide (uptoBulkAll ds ≤ 1048576)
def OpenSpec.upto (s : _root_.Go.ChangeSpec) : _root_.Go.OpenSpec := { _root_.Go.OpenSpec.ofChange s with cond := some uptoSmall }

/-- 'minuetlaw1.Ropes', WHERE WHAT IT READS IS OF BULK AT MOST 1048576: true; the input reads as it did. -/
def ropesUptoRow : OpenClaim := { program := "ytijfifbjiakilaa", sum := "8f84ad9b02a623369e777cf68b6533e36e80b95b70579e3fb6f8e977a38a5b36", func := "minuet/minuetlaw1.Ropes", spec := "ropes", inPlace := ["internal/bytealg.MakeNoZero", "internal/bytealg.CountString", "internal/bytealg.IndexByteString", "internal/bytealg.IndexString"], named := ["internal/bytealg.MaxLen"], apart := false, narrowed := true }
def RopesUptoSaid : Prop := ropesUptoRow.holds Try.pinned (OpenSpec.upto ropesSpec)

/-- 'minuetlaw1.RopeChunks', WHERE WHAT IT READS IS OF BULK AT MOST 1048576: true; the input reads as it did. -/
def ropeChunksUptoRow : OpenClaim := { program := "ytijfifbjiakilaa", sum := "8f84ad9b02a623369e777cf68b6533e36e80b95b70579e3fb6f8e977a38a5b36", func := "minuet/minuetlaw1.RopeChunks", spec := "ropeChunks", inPlace := ["internal/bytealg.MakeNoZero", "internal/bytealg.CountString", "internal/bytealg.IndexByteString", "internal/bytealg.IndexString"], named := ["internal/bytealg.MaxLen"], apart := false, narrowed := true }
def RopeChunksUptoSaid : Prop := ropeChunksUptoRow.holds Try.pinned (OpenSpec.upto ropeChunksSpec)

/-- 'minuetlaw1.RopeForms', WHERE WHAT IT READS IS OF BULK AT MOST 1048576: true; the input reads as it did. -/
def ropeFormsUptoRow : OpenClaim := { program := "ytijfifbjiakilaa", sum := "8f84ad9b02a623369e777cf68b6533e36e80b95b70579e3fb6f8e977a38a5b36", func := "minuet/minuetlaw1.RopeForms", spec := "ropeForms", inPlace := ["internal/bytealg.MakeNoZero", "internal/bytealg.CountString", "internal/bytealg.IndexByteString", "internal/bytealg.IndexString"], named := ["internal/bytealg.MaxLen"], apart := false, narrowed := true }
def RopeFormsUptoSaid : Prop := ropeFormsUptoRow.holds Try.pinned (OpenSpec.upto ropeFormsSpec)

/-- 'minuetlaw1.RopeBack', WHERE WHAT IT READS IS OF BULK AT MOST 1048576: true; the input reads as it did. -/
def ropeBackUptoRow : OpenClaim := { program := "ytijfifbjiakilaa", sum := "8f84ad9b02a623369e777cf68b6533e36e80b95b70579e3fb6f8e977a38a5b36", func := "minuet/minuetlaw1.RopeBack", spec := "ropeBack", inPlace := ["internal/bytealg.MakeNoZero", "internal/bytealg.CountString", "internal/bytealg.IndexByteString", "internal/bytealg.IndexString"], named := ["internal/bytealg.MaxLen"], apart := false, narrowed := true }
def RopeBackUptoSaid : Prop := ropeBackUptoRow.holds Try.pinned (OpenSpec.upto ropeBackSpec)

end Rows
end Go.Proofs.Ytijfifbjiakilaa
