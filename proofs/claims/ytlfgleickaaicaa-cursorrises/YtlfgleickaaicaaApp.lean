/-
  The walk of Apply. Conditions: as the theorems' premises say.
-/
import Derived.Test.YtlfgleickaaicaaAppM
import Derived.Lib.AppendStr
import Derived.Lib.SlBytesRow
namespace Go.Proofs.Ytlfgleickaaicaa
open Go.RowKit

theorem info5 : (Try.prog.info? 5).map (fun i => (i.zero, i.size, i.bytes)) = some (some (.int .u8 0), 1, 1) := by kernel_rfl

/-- What Apply answers. -/
def ApplyPost (s : ByteArray) (cs : List C) (w : World) (e : Ending) (w' : World) : Prop :=
  Below w.heap.size w w' ∧ ((e = .returned (.tuple #[.string (appB s 0 cs), .int .i64 0]) ∧ MayP cs ∧ sumOf fromC cs = s.size) ∨ (e = .returned (.tuple #[.string e0, .int .i64 300]) ∧ ¬ (MayP cs ∧ sumOf fromC cs = s.size)))

/-- v is a slice of these bytes in memory of the call's own. -/
def OwnB (w : World) (base : Nat) (v : Value) (s : ByteArray) : Prop := w.ownsRow base 5 1 v s.size (Lib.strCells s)

theorem OwnB.form {w : World} {base : Nat} {v : Value} {s : ByteArray} (h : OwnB w base v s) : (v = .slice none 0 0 ∧ s = e0) ∨ ∃ g cap, v = .slice (some ⟨g, 0, none⟩) s.size cap := by
  rcases h.2 with ⟨h, hn⟩ | ⟨g, cap, _, h, _⟩
  · exact .inl ⟨h, e0_of hn⟩
  · exact .inr ⟨_, _, h⟩
theorem OwnB.bytes {w : World} {base g n cap : Nat} {s : ByteArray} (h : OwnB w base (.slice (some ⟨g, 0, none⟩) n cap) s) : Lib.Bytes w g 0 s := by
  intro i hi
  have := World.ownsRow.cells h (g := g) rfl i (.int .u8 (s[i].toNat : Int)) (by
    unfold Lib.strCells
    rw [List.getElem?_map, byte_at s i hi]; rfl)
  rwa [add_plain] at this
theorem OwnB.below {w w' : World} {base : Nat} {v : Value} {s : ByteArray} (h : OwnB w base v s) (hb : Below w.heap.size w w') : OwnB w' base v s :=
  World.ownsRow.kept (row := none) h ⟨hb.os, hb.tape, hb.output, hb.size, fun k hk _ => hb.block k hk⟩ (by cases v.ownBlock <;> simp)
theorem OwnB.lt {w : World} {base : Nat} {v : Value} {s : ByteArray} (h : OwnB w base v s) {g : Nat} (hg : v.ownBlock = some g) : base ≤ g ∧ g < w.heap.size := World.ownsRow.lt h g hg
theorem strCells_append (s t : ByteArray) : Lib.strCells (s ++ t) = Lib.strCells s ++ Lib.strCells t := by unfold Lib.strCells; rw [ba_append_list, List.map_append]
theorem OwnB.of_append {w : World} {base : Nat} {v : Value} {s t : ByteArray} (h : w.ownsRow base 5 1 v (s.size + t.size) (Lib.strCells s ++ Lib.strCells t)) : OwnB w base v (s ++ t) := by
  unfold OwnB
  rw [strCells_append, ba_append_size]; exact h
/-- A piece in another block than the row stands. -/
theorem PieceAt.grown {w w' : World} {b o : Nat} {c : C} {row : Option Nat} (h : PieceAt w b o c) (hg : w.grownBy w' row) (hne : ∀ g, row = some g → g ≠ b) : PieceAt w' b o c := by
  have hn : some b ≠ row := fun e => hne b e.symm rfl
  exact ⟨hg.cell h.1 hn, hg.cell h.2.1 hn, hg.cell h.2.2 hn⟩

/-- A row of bytes lies in no box of a piece. -/
theorem OwnB.ne {w : World} {base : Nat} {v : Value} {s : ByteArray} (h : OwnB w base v s) {b : Nat} {xs : Array Value} {fr : Nat × Nat} (hb : w.heap[b]? = some (.cells xs 40 fr)) : ∀ g, v.ownBlock = some g → g ≠ b := by
  intro g hg hgb
  subst hgb
  rcases h.2 with ⟨h, hn⟩ | ⟨g', cap, cur, h, _, h5, _⟩
  · subst h; simp [Value.ownBlock] at hg
  · subst h
    simp only [Value.ownBlock, Option.some.injEq] at hg
    subst hg
    rw [hb] at h5
    cases h5
theorem box_stays {w w' : World} {row : Option Nat} {o : Obj} (hg : (w.alloc o).grownBy w' row) (hne : ∀ g, row = some g → g ≠ w.heap.size) : w'.heap[w.heap.size]? = some o := by
  rw [hg.block _ (by simp) (fun e => hne _ e.symm rfl)]
  exact heap_alloc_new w o

end Go.Proofs.Ytlfgleickaaicaa
