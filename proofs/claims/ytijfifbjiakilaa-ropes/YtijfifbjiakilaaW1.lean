/-
  Walks of has, Len, Num, grow. Conditions: as each theorem's premises say.
-/
import Derived.Test.YtijfifbjiakilaaRows
import Derived.Test.YtijfifbjiakilaaBase
import Derived.BigQuiet
import Derived.Lib.Hide
namespace Go.Proofs.Ytijfifbjiakilaa
open Go.RowKit

set_option maxHeartbeats 400000 in
theorem num_any (n : Int) (w : World) : Calls Try.prog 8 #[.int .i64 n] w fun e w' => e = .returned (.int .i64 n) ∧ w = w' := by
  go_enter Try.func8, Try.ntmps8
  go_wp2
  go_ret
  exact ⟨rfl, rfl⟩

set_option maxHeartbeats 400000 in
theorem len_any (r : Nat) (n : Int) (w : World) (h1 : w.cell? ⟨r, 1, none⟩ = some (.int .i64 n)) : Calls Try.prog 17 #[.pointer (some ⟨r, 0, none⟩)] w fun e w' => e = .returned (.int .i64 n) ∧ w = w' := by
  go_enter Try.func17, Try.ntmps17
  go_wp2
  go_ret
  exact ⟨rfl, rfl⟩

set_option maxHeartbeats 400000 in
theorem len_nil (w : World) : Calls Try.prog 17 #[.pointer none] w fun e w' => e = .returned (.int .i64 0) ∧ w = w' := by
  go_enter Try.func17, Try.ntmps17
  go_wp2
  go_ret
  exact ⟨rfl, rfl⟩

def hasB (n at' k : Int) : Bool := decide (0 ≤ at' ∧ at' ≤ n ∧ 0 ≤ k ∧ k ≤ n - at')

set_option maxHeartbeats 400000 in
theorem has_yes (r : Nat) (n p k : Int) (w : World) (h1 : w.cell? ⟨r, 1, none⟩ = some (.int .i64 n)) (hn0 : 0 ≤ n) (hn : n ≤ 4096) (hb : 0 ≤ p ∧ p ≤ n ∧ 0 ≤ k ∧ k ≤ n - p) :
    Calls Try.prog 22 #[.pointer (some ⟨r, 0, none⟩), .int .i64 p, .int .i64 k] w fun e w' => e = .returned (.bool true) ∧ w = w' := by
  obtain ⟨a1, a2, a3, a4⟩ := hb
  go_enter Try.func22, Try.ntmps22
  go_wp2
  go_ret
  exact ⟨rfl, rfl⟩

set_option maxHeartbeats 400000 in
theorem has_no (r : Nat) (n p k : Int) (w : World) (h1 : w.cell? ⟨r, 1, none⟩ = some (.int .i64 n)) (hn0 : 0 ≤ n) (hn : n ≤ 4096) (hb : ¬ (0 ≤ p ∧ p ≤ n ∧ 0 ≤ k ∧ k ≤ n - p)) :
    Calls Try.prog 22 #[.pointer (some ⟨r, 0, none⟩), .int .i64 p, .int .i64 k] w fun e w' => e = .returned (.bool false) ∧ w = w' := by
  by_cases a1 : 0 ≤ p
  · by_cases a2 : p ≤ n
    · by_cases a3 : 0 ≤ k
      · have a4 : ¬ k ≤ n - p := fun h => hb ⟨a1, a2, a3, h⟩
        clear hb
        go_enter Try.func22, Try.ntmps22
        go_wp2
        go_ret
        exact ⟨rfl, rfl⟩
      · clear hb
        go_enter Try.func22, Try.ntmps22
        go_wp2
        go_ret
        exact ⟨rfl, rfl⟩
    · clear hb
      go_enter Try.func22, Try.ntmps22
      go_wp2
      go_ret
      exact ⟨rfl, rfl⟩
  · clear hb
    go_enter Try.func22, Try.ntmps22
    go_wp2
    go_ret
    exact ⟨rfl, rfl⟩

end Go.Proofs.Ytijfifbjiakilaa
