/-
  The walks of the reference's lengths, Normal, CompsMay, Lengths. Conditions: as the theorems' premises say.
-/
import Derived.Test.YtmlibmleamiljaaW15
namespace Go.Proofs.Ytmlibmleamiljaa
open Go.RowKit

def RLenPost (cs : List C) (w : World) (e : Ending) (w' : World) : Prop :=
  e = .returned (.tuple #[.int .i64 (sumOf fromC cs), .int .i64 (sumOf toC cs)]) ∧ Below w.heap.size w w'

theorem mem_take_sum {cs : List C} (hs : ∀ c ∈ cs, c.Soft) {f : C → Int} (hf : ∀ c : C, c.Soft → 0 ≤ f c) (j : Nat) : 0 ≤ sumOf f (cs.take j) ∧ sumOf f (cs.take j) ≤ sumOf f cs :=
  ⟨sumOf_nonneg fun c hc => hf c (hs c (List.mem_of_mem_take hc)), sumOf_take_le (fun c hc => hf c (hs c hc)) j⟩

end Go.Proofs.Ytmlibmleamiljaa
