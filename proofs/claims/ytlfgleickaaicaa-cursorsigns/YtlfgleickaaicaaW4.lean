/-
  The walk of add, behind pieces. Conditions: as the theorems' premises say.
-/
import Derived.Test.YtlfgleickaaicaaW3
namespace Go.Proofs.Ytlfgleickaaicaa
open Go.RowKit

theorem follows_yes (a b : Int) (w : World) (h : fol a b) : Calls Try.prog 31 #[.int .i64 a, .int .i64 b] w fun e w' => e = .returned (.bool true) ∧ w' = w := by
  refine (follows_any a b w).mono ?_
  rintro e w' ⟨rfl, rfl⟩
  exact ⟨by rw [decide_eq_true h], rfl⟩
theorem follows_no (a b : Int) (w : World) (h : ¬ fol a b) : Calls Try.prog 31 #[.int .i64 a, .int .i64 b] w fun e w' => e = .returned (.bool false) ∧ w' = w := by
  refine (follows_any a b w).mono ?_
  rintro e w' ⟨rfl, rfl⟩
  exact ⟨by rw [decide_eq_false h], rfl⟩

end Go.Proofs.Ytlfgleickaaicaa
