/-
  The walk of the law Applies. Conditions: as the theorem's premises say.
-/
import Derived.Test.YtpdcmeegbkhcfaaRApp
namespace Go.Proofs.Ytpdcmeegbkhcfaa
open Go.RowKit

set_option maxHeartbeats 2000000 in
theorem applies_true (s : ByteArray) (p : Option Addr) (cs : List C) (cap : Nat) (w : World) (hr : RowC w p cs) (hl : (cs.length + 2) * 32 ≤ 140737488355328) :
    Calls Try.prog 3 #[.string s, .slice p cs.length cap] w fun e w' => e = .returned (.bool true) ∧ Below w.heap.size w w' := by
  have R := Lib.hid hr; clear hr
  obtain ⟨X, n, hP, hQ⟩ : ∃ (X : ByteArray) (n : Int), (∀ p cap w, RowC w p cs → Calls Try.prog 8 #[.string s, .slice p cs.length cap] w fun e w' => e = .returned (.tuple #[.string X, .int .i64 n]) ∧ Below w.heap.size w w') ∧ (∀ p cap w, RowC w p cs → Calls Try.prog 9 #[.string s, .slice p cs.length cap] w fun e w' => e = .returned (.tuple #[.string X, .int .i64 n]) ∧ Below w.heap.size w w') := by
    by_cases h : MayP cs ∧ sumOf fromC cs = s.size
    · refine ⟨appB s 0 cs, 0, fun p cap w hr => (apply_any s p cs cap w hr).mono ?_, fun p cap w hr => (rapply_any s p cs cap w hr).mono ?_⟩ <;>
      · rintro e w' ⟨hb, ⟨rfl, -⟩ | ⟨-, hno⟩⟩
        · exact ⟨rfl, hb⟩
        · exact absurd h hno
    · refine ⟨e0, 300, fun p cap w hr => (apply_any s p cs cap w hr).mono ?_, fun p cap w hr => (rapply_any s p cs cap w hr).mono ?_⟩ <;>
      · rintro e w' ⟨hb, ⟨-, hyes⟩ | ⟨rfl, -⟩⟩
        · exact absurd hyes h
        · exact ⟨rfl, hb⟩
  have P := Lib.hid hP; have Q := Lib.hid hQ
  clear hP hQ
  go_enter Try.func3, Try.ntmps3
  go_wp2_with (first
    | (go_at_call 7; refine (lend_any _ _ _ _ R.out hl).mono ?_; rintro e w1 ⟨g, cap1, rfl, hown, hcap, hb1⟩; have L1 : Hid (Lent w1 g cs) := Lib.hid hown.row; have B1 := Lib.hid hb1; have HC := Lib.hid hcap; clear hown hb1 hcap)
    | (go_at_call 8; refine (P.out _ _ _ L1.out.row).mono ?_; rintro e w2 ⟨rfl, hb2⟩; have L2 := Lib.hid (L1.out.below hb2); have B2 := Lib.hid (B1.out.trans (hb2.mono B1.out.size)); clear hb2)
    | (go_at_call 9; refine (Q.out _ _ _ (R.out.below B2.out)).mono ?_; rintro e w3 ⟨rfl, hb3⟩; have L3 := Lib.hid (L2.out.below hb3); have B3 := Lib.hid (B2.out.trans (hb3.mono B2.out.size)); clear hb3)
    | (go_at_call 10; refine (num_any _ _).mono ?_; rintro e w' ⟨rfl, rfl⟩)
    | (go_at_call 11; refine (kept_any _ cs _ _ _ _ (R.out.below B3.out) L3.out HC.out (by omega)).mono ?_; rintro e w4 ⟨rfl, hb4⟩; have B4 := Lib.hid (B3.out.trans (hb4.mono B3.out.size)); clear hb4)
    | (go_at_call 12; refine (awake_true _).mono ?_; rintro e w5 ⟨rfl, hb5⟩; have B5 := Lib.hid (B4.out.trans (hb5.mono B4.out.size)); clear hb5))
  go_ret
  exact ⟨rfl, B5.out⟩

end Go.Proofs.Ytpdcmeegbkhcfaa
