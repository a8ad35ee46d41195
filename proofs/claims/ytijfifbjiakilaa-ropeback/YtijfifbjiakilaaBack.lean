/-
  The walk of RopeBack: it answers true. Conditions: the strings are within the form's reach.
-/
import Derived.Test.YtijfifbjiakilaaW9
namespace Go.Proofs.Ytijfifbjiakilaa
open Go.RowKit

theorem ret_bool {b : Bool} (h : b = true) : Ending.returned (.bool b) = .returned (.bool true) := by rw [h]

theorem place_mod (a : Int) (n : Nat) (hn : n ≤ 4096) : ∃ q : Nat, wrap64 ((IntKind.u64.wrap a).tmod ((n : Int) + 1)) = (q : Int) ∧ q ≤ n := by
  have h0 : 0 ≤ IntKind.u64.wrap a := by
    unfold IntKind.wrap
    simp only [IntKind.signed, Bool.false_and]
    exact Int.emod_nonneg _ (by decide)
  have h1 : 0 ≤ (IntKind.u64.wrap a).tmod ((n : Int) + 1) := Int.tmod_nonneg _ h0
  have h2 : (IntKind.u64.wrap a).tmod ((n : Int) + 1) < (n : Int) + 1 := Int.tmod_lt_of_pos _ (by omega)
  refine ⟨((IntKind.u64.wrap a).tmod ((n : Int) + 1)).toNat, ?_, by omega⟩
  rw [IntWalk.wrap64_in _ (by omega)]
  omega

set_option maxRecDepth 100000 in
set_option maxHeartbeats 1000000 in
theorem back_long (s t : ByteArray) (a : Int) (w : World) (hs : s.size ≤ maxLen) (ht : t.size ≤ 140737488355328) (hs2 : s.size ≤ 140737488355328) (hlong : 4096 < s.size + t.size) :
    Calls Try.prog 6 #[.string s, .string t, .int .i64 a] w fun e w' => e = .returned (.bool true) ∧ Below w.heap.size w w' := by
  by_cases hbig : 4096 < s.size
  · go_enter Try.func6, Try.ntmps6
    go_wp2_with (first | (go_at_call 9; refine (awake_true _).mono ?_; rintro e w1 ⟨rfl, hb1⟩) | (go_at_call 7; refine (new_bad _ _ hbig hs).mono ?_; rintro e w' ⟨rfl, rfl⟩) | (go_at_call 8; refine (num_any _ _).mono ?_; rintro e w' ⟨rfl, rfl⟩))
    go_ret
    exact ⟨ret_bool (decide_eq_true (by omega)), hb1⟩
  · go_enter Try.func6, Try.ntmps6
    go_wp2_with (first | (go_at_call 9; refine (awake_true _).mono ?_; rintro e w1 ⟨rfl, hb1⟩) | (go_at_call 7; refine (new_ok _ _ (by omega)).mono ?_; rintro e w2 ⟨r, rfl, hr, hrope, hb2⟩; clear hrope) | (go_at_call 8; refine (num_any _ _).mono ?_; rintro e w' ⟨rfl, rfl⟩))
    go_ret
    exact ⟨rfl, hb1.trans (hb2.mono hb1.size)⟩

set_option maxRecDepth 100000 in
set_option maxHeartbeats 1000000 in
theorem back_short (s t : ByteArray) (a : Int) (w : World) (hsum : s.size + t.size ≤ 4096) :
    Calls Try.prog 6 #[.string s, .string t, .int .i64 a] w fun e w' => e = .returned (.bool true) ∧ Below w.heap.size w w' := by
  go_enter Try.func6, Try.ntmps6
  go_wp2_with (first | (go_at_call 9; refine (awake_true _).mono ?_; rintro e w1 ⟨rfl, hb1⟩) | (go_at_call 7; refine (new_ok _ _ (by omega)).mono ?_; rintro e w2 ⟨r, rfl, hr, hrope, hb2⟩; have R1 := Lib.hid hrope; clear hrope) | (go_at_call 8; refine (num_any _ _).mono ?_; rintro e w' ⟨rfl, rfl⟩))
  obtain ⟨q, hq, hqs⟩ := place_mod a s.size (by omega)
  rw [hq]
  clear hq
  have B2 := Lib.hid (hb1.trans (hb2.mono hb1.size))
  have hr' : w.heap.size ≤ r := Nat.le_trans hb1.size hr
  clear hb1 hb2 hr
  have hsl : s.data.toList.length = s.size := size_toList s
  have htl : t.data.toList.length = t.size := size_toList t
  have SL := Lib.hid hsl; have TL := Lib.hid htl
  clear hsl htl
  obtain ⟨T, hT⟩ : ∃ T, T = s.data.toList.take q ++ t.data.toList ++ s.data.toList.drop q := ⟨_, rfl⟩
  have HT := Lib.hid hT
  have hTl : T.length = s.size + t.size := by rw [hT]; simp [SL.out, TL.out]; omega
  have hAl : (s.data.toList.take q).length = q := by rw [List.length_take, SL.out]; omega
  have hTs : (T.drop q).take t.size = t.data.toList := by
    rw [hT, List.append_assoc, List.drop_left' hAl, List.take_left' TL.out]
  have hTd : T.take q ++ T.drop (q + t.size) = s.data.toList := by
    rw [hT, List.drop_left' (by rw [List.length_append, hAl, TL.out]), List.append_assoc, List.take_left' hAl, List.take_append_drop]
  clear hAl
  have LT := Lib.hid hTl; have TS := Lib.hid hTs; have TD := Lib.hid hTd
  clear hT hTl hTs hTd
  have hins : Hid (Calls Try.prog 10 #[.pointer (some ⟨r, 0, none⟩), .int .i64 (q : Int), .string t] w2 (OkPost r T w2)) := Lib.hid (insert_in r _ T q t w2 R1.out (by rw [SL.out]; exact hqs) (by rw [SL.out]; exact hsum) HT.out)
  refine hins.out.mono ?_
  rintro e w3 ⟨rfl, hrope, hg⟩
  have R3 := Lib.hid hrope
  have B3 := Lib.hid (below_row B2.out hg B2.out.size hr')
  clear hrope hg R1 B2 hins
  go_wp2_with fail
  refine (slice_ok r T t.data.toList q t.size _ R3.out (by rw [LT.out]; omega) TS.out.symm).mono ?_
  rintro e w4 ⟨rfl, hb⟩
  have R4 := Lib.hid (R3.out.kept hb)
  have B4 := Lib.hid (B3.out.trans (hb.mono B3.out.size))
  clear hb R3 B3
  go_wp2_with fail
  refine (len_rope r T ((s.size + t.size : Nat) : Int) _ R4.out (by rw [LT.out])).mono ?_
  rintro e w5 ⟨rfl, rfl⟩
  go_wp2_with fail
  have hdel : Hid (Calls Try.prog 11 #[.pointer (some ⟨r, 0, none⟩), .int .i64 (q : Int), .int .i64 (t.size : Int)] w4 (OkPost r s.data.toList w4)) := Lib.hid (delete_in r T _ q t.size w4 R4.out (by rw [LT.out]; omega) TD.out.symm)
  refine hdel.out.mono ?_
  rintro e w6 ⟨rfl, hrope, hg⟩
  have R6 := Lib.hid hrope
  have B6 := Lib.hid (below_row B4.out hg B4.out.size hr')
  clear hrope hg R4 B4 hdel
  go_wp2_with (go_at_call 8; refine (num_any _ _).mono ?_; rintro e w' ⟨rfl, rfl⟩)
  refine (Text_any r s.data.toList _ R6.out).mono ?_
  rintro e w7 ⟨rfl, hb⟩
  have R7 := Lib.hid (R6.out.kept hb)
  have B7 := Lib.hid (B6.out.trans (hb.mono B6.out.size))
  clear hb R6 B6
  go_wp2_with fail
  refine (len_rope r s.data.toList (s.size : Int) _ R7.out (by rw [SL.out])).mono ?_
  rintro e w8 ⟨rfl, rfl⟩
  go_wp2
  go_ret
  exact ⟨rfl, B7.out⟩

end Go.Proofs.Ytijfifbjiakilaa
