/-
  The walk of RopeForms: it answers true. Conditions: the string is within the form's reach.
-/
import Derived.Test.YtijfifbjiakilaaW9
namespace Go.Proofs.Ytijfifbjiakilaa
open Go.RowKit

theorem and1023 (x : Int) : 0 ≤ bits .and .i64 x 1023 ∧ bits .and .i64 x 1023 ≤ 1023 := by
  have e : bits .and .i64 x 1023 = IntKind.i64.wrap ((BitVec.ofInt 64 x &&& BitVec.ofInt 64 1023).toNat : Int) := rfl
  have h : (BitVec.ofInt 64 x &&& BitVec.ofInt 64 1023).toNat ≤ 1023 := by
    rw [BitVec.toNat_and]
    exact Nat.le_trans Nat.and_le_right (by decide)
  rw [e, IntWalk.i64_in _ (by omega)]
  omega

set_option maxRecDepth 100000 in
set_option maxHeartbeats 1000000 in
theorem forms_long (s : ByteArray) (x : Int) (w : World) (hs : s.size ≤ maxLen) (hlong : 4096 < s.size) :
    Calls Try.prog 5 #[.string s, .int .i64 x] w fun e w' => e = .returned (.bool true) ∧ Below w.heap.size w w' := by
  go_enter Try.func5, Try.ntmps5
  go_wp2_with (first | (go_at_call 9; refine (awake_true _).mono ?_; rintro e w1 ⟨rfl, hb1⟩) | (go_at_call 7; refine (new_bad _ _ hlong hs).mono ?_; rintro e w' ⟨rfl, rfl⟩) | (go_at_call 8; refine (num_any _ _).mono ?_; rintro e w' ⟨rfl, rfl⟩))
  go_ret
  exact ⟨rfl, hb1⟩

set_option maxRecDepth 100000 in
set_option maxHeartbeats 1000000 in
theorem forms_short (s : ByteArray) (x : Int) (w : World) (hs : s.size ≤ 4096) :
    Calls Try.prog 5 #[.string s, .int .i64 x] w fun e w' => e = .returned (.bool true) ∧ Below w.heap.size w w' := by
  obtain ⟨hd0, hd1⟩ := and1023 x
  have hsl : s.data.toList.length = s.size := size_toList s
  have SL := Lib.hid hsl
  clear hsl
  go_enter Try.func5, Try.ntmps5
  go_wp2_with (first | (go_at_call 9; refine (awake_true _).mono ?_; rintro e w1 ⟨rfl, hb1⟩) | (go_at_call 7; refine (new_ok _ _ (by omega)).mono ?_; rintro e w2 ⟨r, rfl, hr, hrope, hb2⟩; have R1 := Lib.hid hrope; clear hrope) | (go_at_call 8; refine (num_any _ _).mono ?_; rintro e w' ⟨rfl, rfl⟩))
  have B2 := Lib.hid (hb1.trans (hb2.mono hb1.size))
  have hr' : w.heap.size ≤ r := Nat.le_trans hb1.size hr
  clear hb1 hb2 hr
  refine (slice_no r s.data.toList _ _ _ R1.out (by rw [SL.out]; omega)).mono ?_
  rintro e w3 ⟨rfl, rfl⟩
  go_wp2_with fail
  refine (slice_no r s.data.toList _ _ _ R1.out (by rw [SL.out]; omega)).mono ?_
  rintro e w3 ⟨rfl, rfl⟩
  go_wp2_with fail
  refine (slice_no r s.data.toList _ _ _ R1.out (by rw [SL.out]; omega)).mono ?_
  rintro e w3 ⟨rfl, rfl⟩
  go_wp2_with fail
  refine (line_no r s.data.toList _ _ R1.out (by rw [SL.out]; omega)).mono ?_
  rintro e w3 ⟨rfl, rfl⟩
  go_wp2_with fail
  refine (line_no r s.data.toList _ _ R1.out (by rw [SL.out]; omega)).mono ?_
  rintro e w3 ⟨rfl, rfl⟩
  go_wp2_with fail
  refine (insert_there_no r s.data.toList _ _ _ R1.out (by rw [SL.out]; omega)).mono ?_
  rintro e w3 ⟨rfl, rfl⟩
  go_wp2_with fail
  refine (insert_there_no r s.data.toList _ _ _ R1.out (by rw [SL.out]; omega)).mono ?_
  rintro e w3 ⟨rfl, rfl⟩
  go_wp2_with fail
  refine (delete_no r s.data.toList _ _ _ R1.out (by rw [SL.out]; omega)).mono ?_
  rintro e w3 ⟨rfl, rfl⟩
  go_wp2_with fail
  refine (delete_no r s.data.toList _ _ _ R1.out (by rw [SL.out]; omega)).mono ?_
  rintro e w3 ⟨rfl, rfl⟩
  go_wp2_with fail
  refine (delete_no r s.data.toList _ _ _ R1.out (by rw [SL.out]; omega)).mono ?_
  rintro e w3 ⟨rfl, rfl⟩
  go_wp2_with fail
  refine (slice_okI 0 _ r s.data.toList s.data.toList 0 s.size _ rfl rfl R1.out (by rw [SL.out]; omega) (by rw [List.drop_zero, List.take_of_length_le (by rw [SL.out]; omega)])).mono ?_
  rintro e w4 ⟨rfl, hb⟩
  have R4 := Lib.hid (R1.out.kept hb)
  have B4 := Lib.hid (B2.out.trans (hb.mono B2.out.size))
  clear hb R1 B2
  go_wp2_with (first | (go_at_call 8; refine (num_any _ _).mono ?_; rintro e w' ⟨rfl, rfl⟩))
  refine (Text_any r s.data.toList _ R4.out).mono ?_
  rintro e w5 ⟨rfl, hb⟩
  have B5 := Lib.hid (B4.out.trans (hb.mono B4.out.size))
  clear hb R4 B4
  go_wp2_with (first | (go_at_call 8; refine (num_any _ _).mono ?_; rintro e w' ⟨rfl, rfl⟩))
  go_ret
  exact ⟨rfl, B5.out⟩

end Go.Proofs.Ytijfifbjiakilaa
