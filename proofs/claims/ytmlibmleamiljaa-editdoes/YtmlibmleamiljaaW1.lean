/-
  Walks of the small functions. Conditions: as each theorem's premises say.
-/
import Derived.Test.YtmlibmleamiljaaRows
import Derived.Test.YtmlibmleamiljaaMath
import Derived.Test.YtmlibmleamiljaaShelf
import Derived.BigQuiet
import Derived.Lib.Hide
namespace Go.Proofs.Ytmlibmleamiljaa
open Go.RowKit

theorem isEmpty_size (t : ByteArray) : t.toList.isEmpty = decide (t.size = 0) := by
  rw [Go.Lib.toList_data]
  obtain ⟨⟨l⟩⟩ := t
  cases l <;> simp [ByteArray.size]

set_option maxHeartbeats 400000 in
theorem num_any (n : Int) (w : World) : Calls Try.prog 13 #[.int .i64 n] w fun e w' => e = .returned (.int .i64 n) ∧ w = w' := by
  go_enter Try.func13, Try.ntmps13
  go_wp2
  go_ret
  exact ⟨rfl, rfl⟩

set_option maxHeartbeats 400000 in
theorem size_any (k n : Int) (t : ByteArray) (w : World) (_hn0 : 0 ≤ n) (_hn : n ≤ 16777216) (_ht : t.size ≤ 16777216) : Calls Try.prog 31 #[.agg #[.int .i64 k, .int .i64 n, .string t]] w fun e w' => e = .returned (.int .i64 (n + t.size)) ∧ Below w.heap.size w w' := by
  go_enter Try.func31, Try.ntmps31
  go_wp2
  go_ret
  exact ⟨rfl, (Below.refl _ _).alloc (Nat.le_refl _) _⟩

set_option maxHeartbeats 400000 in
theorem clone_any (t : ByteArray) (w : World) (ht : t.size ≤ 16777216) : Calls Try.prog 33 #[.string t] w fun e w' => e = .returned (.string t) ∧ Below w.heap.size w w' := by
  go_enter Try.func33, Try.ntmps33
  go_wp2_with (go_at_call 34; refine (Try.stringslite_Clone _ _ (by omega)).mono ?_; rintro e w1 ⟨rfl, hb⟩)
  go_ret
  exact ⟨rfl, hb⟩

set_option maxHeartbeats 400000 in
theorem follows_any (a b : Int) (w : World) : Calls Try.prog 32 #[.int .i64 a, .int .i64 b] w fun e w' => e = .returned (.bool (decide (fol a b))) ∧ w = w' := by
  go_enter Try.func32, Try.ntmps32
  go_wp2
  all_goals go_ret
  all_goals refine ⟨congrArg (fun b => Ending.returned (Value.bool b)) ?_, rfl⟩
  all_goals (rw [Bool.eq_iff_iff, decide_eq_true_iff]; unfold fol; simp at *; try omega)

set_option maxHeartbeats 400000 in
theorem raw_any (c : C) (w : World) : Calls Try.prog 30 #[.agg #[.int .i64 c.k, .int .i64 c.n, .string c.t]] w fun e w' => e = .returned (.bool (rawB c)) ∧ Below w.heap.size w w' := by
  obtain ⟨k, n, t⟩ := c
  dsimp only
  go_enter Try.func30, Try.ntmps30
  go_wp2
  all_goals go_ret
  all_goals refine ⟨congrArg (fun b => Ending.returned (Value.bool b)) ?_, (Below.refl _ _).alloc (Nat.le_refl _) _⟩
  all_goals (rw [Bool.eq_iff_iff, rawB_iff]; unfold C.Raw; try rw [isEmpty_size])
  all_goals (dsimp only; generalize t.size = m at *; simp at *; try omega)

end Go.Proofs.Ytmlibmleamiljaa
