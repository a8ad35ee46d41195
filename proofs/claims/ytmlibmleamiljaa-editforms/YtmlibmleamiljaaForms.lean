/-
  The walk of the law EditForms. Conditions: as the theorems' premises say.
-/
import Derived.Test.YtmlibmleamiljaaAw
namespace Go.Proofs.Ytmlibmleamiljaa
open Go.RowKit

theorem and1023 (a : Int) : ∃ q : Nat, bits BinOp.and IntKind.i64 a 1023 = (q : Int) ∧ q ≤ 1023 := by
  have h : (BitVec.ofInt 64 a &&& BitVec.ofInt 64 1023).toNat ≤ 1023 := by
    rw [BitVec.toNat_and]
    exact Nat.le_trans Nat.and_le_right (by decide)
  refine ⟨(BitVec.ofInt 64 a &&& BitVec.ofInt 64 1023).toNat, ?_, h⟩
  show IntKind.i64.wrap ((BitVec.ofInt 64 a &&& BitVec.ofInt 64 1023).toNat : Int) = _
  rw [IntKind.wrap_i64]
  omega
theorem long_L (x : Int) (k : Nat) (hx : x = (k : Int)) (hk : k ≤ 8192) (w : World) : Calls Try.prog 16 #[.int .i64 x] w (LongP k w) := by
  subst hx; exact long_any k hk w
theorem no_size : (ByteArray.mk #[]).size = 0 := rfl

set_option maxRecDepth 100000 in
set_option maxHeartbeats 4000000 in
theorem forms_big (s : ByteArray) (x : Int) (w : World) (h : 300 < s.size) : Calls Try.prog 5 #[.string s, .int .i64 x] w fun e w' => e = .returned (.bool true) ∧ Below w.heap.size w w' := by
  go_enter Try.func5, Try.ntmps5
  go_wp2_with fail
  refine (awake_true _).mono ?_
  rintro e w1 ⟨rfl, hb1⟩
  have B1 := Lib.hid hb1; clear hb1
  go_wp2_with fail
  go_ret
  exact ⟨rfl, B1.out⟩

set_option maxRecDepth 100000 in
set_option maxHeartbeats 4000000 in
theorem forms_small (s : ByteArray) (x : Int) (w : World) (h : s.size ≤ 300) : Calls Try.prog 5 #[.string s, .int .i64 x] w fun e w' => e = .returned (.bool true) ∧ Below w.heap.size w w' := by
  obtain ⟨q, hq, hq2⟩ := and1023 x
  go_enter Try.func5, Try.ntmps5
  go_wp2_with fail
  refine (awake_true _).mono ?_
  rintro e w1 ⟨rfl, hb1⟩
  have B1 := Lib.hid hb1; clear hb1
  go_wp2_with fail
  refine (make_form s ⟨#[]⟩ _ _ _ (by unfold FormBad; omega)).mono ?_
  rintro e w2 ⟨rfl, hb2⟩
  have B2 := Lib.hid (B1.out.trans (hb2.mono B1.out.size)); clear hb2 B1
  go_wp2_with fail
  refine (make_form s ⟨#[]⟩ _ _ _ (by unfold FormBad; omega)).mono ?_
  rintro e w3 ⟨rfl, hb3⟩
  have B3 := Lib.hid (B2.out.trans (hb3.mono B2.out.size)); clear hb3 B2
  go_wp2_with fail
  refine (make_form s ⟨#[]⟩ _ _ _ (by unfold FormBad; omega)).mono ?_
  rintro e w4 ⟨rfl, hb4⟩
  have B4 := Lib.hid (B3.out.trans (hb4.mono B3.out.size)); clear hb4 B3
  go_wp2_with fail
  refine (make_form s ⟨#[]⟩ _ _ _ (by unfold FormBad; omega)).mono ?_
  rintro e w5 ⟨rfl, hb5⟩
  have B5 := Lib.hid (B4.out.trans (hb5.mono B4.out.size)); clear hb5 B4
  go_wp2_with fail
  refine (long_L _ (300 - s.size + (1 + q)) (by omega) (by omega) _).mono ?_
  rintro e w6 ⟨X1, rfl, hX1, hb6⟩
  have B6 := Lib.hid (B5.out.trans (hb6.mono B5.out.size)); clear hb6 B5
  have HX1 := Lib.hid hX1; clear hX1
  go_wp2_with fail
  refine (make_longL s X1 0 0 s.size 0 0 rfl rfl _ (by omega) (by omega) (.inr (by rw [HX1.out]; omega))).mono ?_
  rintro e w7 ⟨rfl, hb7⟩
  have B7 := Lib.hid (B6.out.trans (hb7.mono B6.out.size)); clear hb7 B6 HX1
  go_wp2_with fail
  refine (long_L _ 300 (by omega) (by omega) _).mono ?_
  rintro e w8 ⟨X2, rfl, hX2, hb8⟩
  have B8 := Lib.hid (B7.out.trans (hb8.mono B7.out.size)); clear hb8 B7
  have HX2 := Lib.hid hX2; clear hX2
  go_wp2_with fail
  refine (make_yesL s X2 0 s.size 0 0 _ rfl rfl _ rfl _ (by omega) (by omega) (by rw [HX2.out]; omega) (by rw [HX2.out]; omega)).mono ?_
  rintro e w9 ⟨p7, c7, rfl, ho7, hb9⟩
  have B9 := Lib.hid (B8.out.trans (hb9.mono B8.out.size)); clear hb9 B8 ho7 HX2
  go_wp2_with fail
  refine (long_L _ (300 + (1 + q)) (by omega) (by omega) _).mono ?_
  rintro e w10 ⟨X3, rfl, hX3, hb10⟩
  have B10 := Lib.hid (B9.out.trans (hb10.mono B9.out.size)); clear hb10 B9
  have HX3 := Lib.hid hX3; clear hX3
  go_wp2_with fail
  refine (make_longL s X3 0 s.size 0 0 _ rfl rfl _ (by omega) (by omega) (.inl (by rw [HX3.out]; omega))).mono ?_
  rintro e w11 ⟨rfl, hb11⟩
  have B11 := Lib.hid (B10.out.trans (hb11.mono B10.out.size)); clear hb11 B10 HX3
  go_wp2_with fail
  refine (long_L _ (4096 + (1 + q)) (by omega) (by omega) _).mono ?_
  rintro e w12 ⟨X4, rfl, hX4, hb12⟩
  have B12 := Lib.hid (B11.out.trans (hb12.mono B11.out.size)); clear hb12 B11
  have HX4 := Lib.hid hX4; clear hX4
  go_wp2_with fail
  refine (between_no X4 ⟨#[]⟩ _ (.inl (by rw [HX4.out]; omega))).mono ?_
  rintro e w13 ⟨rfl, hb13⟩
  have B13 := Lib.hid (B12.out.trans (hb13.mono B12.out.size)); clear hb13 B12 HX4
  go_wp2_with fail
  refine (long_L _ (4096 + (1 + q)) (by omega) (by omega) _).mono ?_
  rintro e w14 ⟨X5, rfl, hX5, hb14⟩
  have B14 := Lib.hid (B13.out.trans (hb14.mono B13.out.size)); clear hb14 B13
  have HX5 := Lib.hid hX5; clear hX5
  go_wp2_with fail
  refine (between_no ⟨#[]⟩ X5 _ (.inr (by rw [HX5.out]; omega))).mono ?_
  rintro e w15 ⟨rfl, hb15⟩
  have B15 := Lib.hid (B14.out.trans (hb15.mono B14.out.size)); clear hb15 B14 HX5
  go_wp2_with (go_at_call 13; refine (num_any _ _).mono ?_; rintro e w' ⟨rfl, rfl⟩)
  go_ret
  exact ⟨rfl, B15.out⟩

theorem forms_true (s : ByteArray) (x : Int) (w : World) : Calls Try.prog 5 #[.string s, .int .i64 x] w fun e w' => e = .returned (.bool true) ∧ Below w.heap.size w w' := by
  by_cases h : s.size ≤ 300
  · exact forms_small s x w h
  · exact forms_big s x w (by omega)

end Go.Proofs.Ytmlibmleamiljaa
