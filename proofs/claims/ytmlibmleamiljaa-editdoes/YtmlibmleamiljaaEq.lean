/-
  What '==' and '!=' say of two pieces. No condition.
-/
import Derived.Test.YtmlibmleamiljaaW9
import Derived.Laws.StructEq
namespace Go.Proofs.Ytmlibmleamiljaa
open Go.RowKit

def eqC (a b : C) : Bool := a.k == b.k && (a.n == b.n && a.t.toList == b.t.toList)
theorem eqC_iff {a b : C} : eqC a b = true ↔ a = b := by
  obtain ⟨k, n, t⟩ := a
  obtain ⟨k', n', t'⟩ := b
  simp only [eqC, Bool.and_eq_true, beq_iff_eq, C.mk.injEq, Lib.toList_data]
  constructor
  · rintro ⟨h1, h2, h3⟩
    exact ⟨h1, h2, ByteArray.ext (Array.ext' h3)⟩
  · rintro ⟨h1, h2, h3⟩
    exact ⟨h1, h2, by rw [h3]⟩

theorem eq39 (a b : C) (w : World) : (Op.equalIn 10000 38 (.agg #[.int .i64 a.k, .int .i64 a.n, .string a.t]) (.agg #[.int .i64 b.k, .int .i64 b.n, .string b.t])).run Try.prog w = .ok (eqC a b) w := by
  have u3 := Try.underlying3
  have a3 := Try.isAgg3
  have z3 := Try.sizeOf3
  have u9 := Try.underlying9
  have a9 := Try.isAgg9
  have z9 := Try.sizeOf9
  have hS : Try.prog.underlying 38 = some (.struct (Try.prog.fieldsOf 38)) := by kernel_rfl
  have hp : Try.prog.stoodInHeld 38 = false := by kernel_rfl
  rw [show (10000 : Nat) = 9999 + 1 from rfl, run_equalIn_agg w 9999 38 _ _ hS hp]
  simp only [Program.fieldsOf, Try.underlying38]
  go_simp
  unfold eqC
  by_cases h1 : a.k = b.k <;> by_cases h2 : a.n = b.n <;> by_cases h3 : a.t.toList = b.t.toList <;> simp [h1, h2, h3]

theorem eql39 (a b : C) (w : World) : (binOp .eql 38 (.agg #[.int .i64 a.k, .int .i64 a.n, .string a.t]) (.agg #[.int .i64 b.k, .int .i64 b.n, .string b.t])).run Try.prog w = .ok (.bool (eqC a b)) w := by
  rw [run_eql_struct, eq39]; rfl
theorem neq39 (a b : C) (w : World) : (binOp .neq 38 (.agg #[.int .i64 a.k, .int .i64 a.n, .string a.t]) (.agg #[.int .i64 b.k, .int .i64 b.n, .string b.t])).run Try.prog w = .ok (.bool (!eqC a b)) w := by
  rw [run_neq_struct, eq39]; rfl
theorem guard39 (op : BinOp) (x y : Operand) (xs ys : Array Value) (w : World) : (eqGuard op 38 x y (.agg xs) (.agg ys)).run Try.prog w = .ok () w := run_eqGuard_agg w op 38 x y xs ys (by kernel_rfl)

end Go.Proofs.Ytmlibmleamiljaa
