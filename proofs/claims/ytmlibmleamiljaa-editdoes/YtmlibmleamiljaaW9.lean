/-
  The walks of May, Lengths. Conditions: as the theorems' premises say.
-/
import Derived.Test.YtmlibmleamiljaaW8
namespace Go.Proofs.Ytmlibmleamiljaa
open Go.RowKit

def MayP (cs : List C) : Prop := okB cs = true ∧ Norm cs

def MayPost (cs : List C) (w : World) (e : Ending) (w' : World) : Prop :=
  Below w.heap.size w w' ∧ ((e = .returned (.bool true) ∧ MayP cs) ∨ (e = .returned (.bool false) ∧ ¬ MayP cs))

set_option maxHeartbeats 1000000 in
theorem may_any (p : Option Addr) (cs : List C) (cap : Nat) (w : World) (hr : RowC w p cs) : Calls Try.prog 26 #[.slice p cs.length cap] w (MayPost cs w) := by
  have R := Lib.hid hr; clear hr
  cases hok : okB cs with
  | false =>
    have HOK := Lib.hid hok; clear hok
    go_enter Try.func26, Try.ntmps26
    go_wp2_with (go_at_call 27; refine (measure_any _ _ _ _ R.out).mono ?_; rintro e w1 ⟨rfl, hb1⟩; rw [HOK.out]; dsimp only [Bool.false_eq_true, if_false])
    go_ret
    exact ⟨hb1, .inr ⟨rfl, fun h => by have := h.1; rw [HOK.out] at this; cases this⟩⟩
  | true =>
    have HOK := Lib.hid hok; clear hok
    have hl : cs.length ≤ 4096 := (okB_iff.1 HOK.out).1
    have RAW : Hid (∀ c ∈ cs, c.Raw) := Lib.hid (okB_iff.1 HOK.out).2.1
    by_cases hn : Norm cs
    · have HN := Lib.hid hn; clear hn
      go_enter Try.func26, Try.ntmps26
      go_wp2_with (first | (go_at_call 27; refine (measure_any _ _ _ _ R.out).mono ?_; rintro e w1 ⟨rfl, hb1⟩; rw [HOK.out]; dsimp only [if_true]; have B1 := Lib.hid hb1; clear hb1) | (go_at_call 29; refine (nm_any _ _ _ _ (R.out.below B1.out) hl RAW.out).mono ?_; rintro e w2 ⟨hb2, ⟨rfl, -⟩ | ⟨-, hno⟩⟩; rotate_left; exact absurd HN.out hno; have B2 := Lib.hid hb2; clear hb2))
      go_ret
      exact ⟨B1.out.trans (B2.out.mono B1.out.size), .inl ⟨rfl, HOK.out, HN.out⟩⟩
    · have HN := Lib.hid hn; clear hn
      go_enter Try.func26, Try.ntmps26
      go_wp2_with (first | (go_at_call 27; refine (measure_any _ _ _ _ R.out).mono ?_; rintro e w1 ⟨rfl, hb1⟩; rw [HOK.out]; dsimp only [if_true]; have B1 := Lib.hid hb1; clear hb1) | (go_at_call 29; refine (nm_any _ _ _ _ (R.out.below B1.out) hl RAW.out).mono ?_; rintro e w2 ⟨hb2, ⟨-, hyes⟩ | ⟨rfl, -⟩⟩; exact absurd hyes HN.out; have B2 := Lib.hid hb2; clear hb2))
      go_ret
      exact ⟨B1.out.trans (B2.out.mono B1.out.size), .inr ⟨rfl, fun h => HN.out h.2⟩⟩

def LenPost (cs : List C) (w : World) (e : Ending) (w' : World) : Prop :=
  Below w.heap.size w w' ∧ ((e = .returned (.tuple #[.int .i64 (sumOf fromC cs), .int .i64 (sumOf toC cs), .int .i64 0]) ∧ MayP cs) ∨ (e = .returned (.tuple #[.int .i64 0, .int .i64 0, .int .i64 200]) ∧ ¬ MayP cs))

set_option maxHeartbeats 1000000 in
theorem lengths_any (p : Option Addr) (cs : List C) (cap : Nat) (w : World) (hr : RowC w p cs) : Calls Try.prog 23 #[.slice p cs.length cap] w (LenPost cs w) := by
  have R := Lib.hid hr; clear hr
  by_cases hm : MayP cs
  · have HM := Lib.hid hm; clear hm
    go_enter Try.func23, Try.ntmps23
    go_wp2_with (first | (go_at_call 26; refine (may_any _ _ _ _ R.out).mono ?_; rintro e w1 ⟨hb1, ⟨rfl, -⟩ | ⟨-, hno⟩⟩; rotate_left; exact absurd HM.out hno; have B1 := Lib.hid hb1; clear hb1) | (go_at_call 27; refine (measure_any _ _ _ _ (R.out.below B1.out)).mono ?_; rintro e w2 ⟨rfl, hb2⟩; rw [HM.out.1]; dsimp only [if_true]; have B2 := Lib.hid hb2; clear hb2))
    go_ret3
    exact ⟨B1.out.trans (B2.out.mono B1.out.size), .inl ⟨rfl, HM.out⟩⟩
  · have HM := Lib.hid hm; clear hm
    go_enter Try.func23, Try.ntmps23
    go_wp2_with (first | (go_at_call 26; refine (may_any _ _ _ _ R.out).mono ?_; rintro e w1 ⟨hb1, ⟨-, hyes⟩ | ⟨rfl, -⟩⟩; exact absurd hyes HM.out; have B1 := Lib.hid hb1; clear hb1))
    go_ret3
    exact ⟨B1.out, .inr ⟨rfl, HM.out⟩⟩

end Go.Proofs.Ytmlibmleamiljaa
