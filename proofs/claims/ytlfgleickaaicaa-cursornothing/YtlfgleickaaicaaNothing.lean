/-
  The walk of the law CursorNothing. Conditions: as the theorem's premises say.
-/
import Derived.Test.YtlfgleickaaicaaNothM
namespace Go.Proofs.Ytlfgleickaaicaa
open Go.RowKit

set_option maxRecDepth 100000 in
set_option maxHeartbeats 4000000 in
theorem nothing_a (size at' : Int) (t : ByteArray) (bh : Bool) (w : World) (h1 : 1 ≤ t.size) (h2 : t.size ≤ 1000) (hc : 0 < wrap64 ((IntKind.u64.wrap at').tmod (1 + bits BinOp.and IntKind.i64 size 255 + 1))) :
    Calls Try.prog 6 #[.int .i64 size, .int .i64 at', .string t, .bool bh] w fun e w' => e = .returned (.bool true) ∧ Below w.heap.size w w' := by
  obtain ⟨q, hq, hq1⟩ := and255 size
  obtain ⟨j, hj, hj1⟩ := place_mod at' (q + 1) (by omega)
  rw [hq] at hc
  rw [show (((q + 1 : Nat) : Int) + 1) = 1 + (q : Int) + 1 by omega] at hj
  rw [hj] at hc
  have hi0 : (0 : Int) ≤ j := by omega
  have hi1 : (j : Int) ≤ 1 + (q : Int) := by omega
  have HJ := Lib.hid hj
  clear hj hj1
  go_enter Try.func6, Try.ntmps6
  go_wp2_with fail
  refine (awake_true _).mono ?_
  rintro e w1 ⟨rfl, hb1⟩
  have B1 := Lib.hid hb1; clear hb1
  go_wp2_with fail
  rw [HJ.out]
  have hk0 : (0 : Int) < 1 + (q : Int) := by omega
  have hk1 : 1 + (q : Int) ≤ 256 := by omega
  clear HJ hq hq1
  generalize 1 + (q : Int) = k at *
  generalize (j : Int) = i at *
  
  show Calls Try.prog 9 _ (w1.alloc (.cells (cellsC [⟨0, k, e0⟩]).toArray 40)) _
  have F1 : Hid (RowC (w1.alloc (.cells (cellsC [⟨0, k, e0⟩]).toArray 40)) (some ⟨w1.heap.size, 0, none⟩) [⟨0, k, e0⟩]) := Lib.hid (lit_row w1 _ _ rfl)
  have A1 := Lib.hid (B1.out.alloc B1.out.size (.cells (cellsC [⟨0, k, e0⟩]).toArray 40)); clear B1
  generalize w1.alloc (.cells (cellsC [⟨0, k, e0⟩]).toArray 40) = v1 at F1 A1 ⊢
  refine (move_yesL _ [⟨0, k, e0⟩] 1 _ rfl i i bh _ F1.out (one_p 0 (.inl rfl) hk0 (by omega) (by omega) (by omega)) (mov_keep _ (by omega))).mono ?_
  rintro e w2 ⟨rfl, hb2⟩
  have B2 := Lib.hid (A1.out.trans (hb2.mono A1.out.size)); clear hb2 A1 F1
  go_wp2_with fail
  show Calls Try.prog 9 _ (w2.alloc (.cells (cellsC [⟨1, 0, t⟩, ⟨0, k, e0⟩]).toArray 40)) _
  have F2 : Hid (RowC (w2.alloc (.cells (cellsC [⟨1, 0, t⟩, ⟨0, k, e0⟩]).toArray 40)) (some ⟨w2.heap.size, 0, none⟩) [⟨1, 0, t⟩, ⟨0, k, e0⟩]) := Lib.hid (lit_row w2 _ _ rfl)
  have A2 := Lib.hid (B2.out.alloc B2.out.size (.cells (cellsC [⟨1, 0, t⟩, ⟨0, k, e0⟩]).toArray 40)); clear B2
  generalize w2.alloc (.cells (cellsC [⟨1, 0, t⟩, ⟨0, k, e0⟩]).toArray 40) = v2 at F2 A2 ⊢
  refine (move_yesL _ [⟨1, 0, t⟩, ⟨0, k, e0⟩] 2 _ rfl i (i + t.size) bh _ F2.out (puts_keep_p hk0 (by omega) (by omega) (by omega) (by omega)) (mov_both_yes bh t hi0 hi1 (.inl hc))).mono ?_
  rintro e w3 ⟨rfl, hb3⟩
  have B3 := Lib.hid (A2.out.trans (hb3.mono A2.out.size)); clear hb3 A2 F2
  go_wp2_with fail
  show Calls Try.prog 9 _ (w3.alloc (.cells (cellsC [⟨2, k, e0⟩]).toArray 40)) _
  have F3 : Hid (RowC (w3.alloc (.cells (cellsC [⟨2, k, e0⟩]).toArray 40)) (some ⟨w3.heap.size, 0, none⟩) [⟨2, k, e0⟩]) := Lib.hid (lit_row w3 _ _ rfl)
  have A3 := Lib.hid (B3.out.alloc B3.out.size (.cells (cellsC [⟨2, k, e0⟩]).toArray 40)); clear B3
  generalize w3.alloc (.cells (cellsC [⟨2, k, e0⟩]).toArray 40) = v3 at F3 A3 ⊢
  refine (move_yesL _ [⟨2, k, e0⟩] 1 _ rfl i 0 bh _ F3.out (one_p 2 (.inr rfl) hk0 (by omega) (by omega) (by omega)) (mov_cut _ _ _)).mono ?_
  rintro e w4 ⟨rfl, hb4⟩
  have B4 := Lib.hid (A3.out.trans (hb4.mono A3.out.size)); clear hb4 A3 F3
  go_wp2_with fail
  show Calls Try.prog 9 _ (w4.alloc (.cells (cellsC [⟨0, k, e0⟩]).toArray 40)) _
  have F4 : Hid (RowC (w4.alloc (.cells (cellsC [⟨0, k, e0⟩]).toArray 40)) (some ⟨w4.heap.size, 0, none⟩) [⟨0, k, e0⟩]) := Lib.hid (lit_row w4 _ _ rfl)
  have A4 := Lib.hid (B4.out.alloc B4.out.size (.cells (cellsC [⟨0, k, e0⟩]).toArray 40)); clear B4
  generalize w4.alloc (.cells (cellsC [⟨0, k, e0⟩]).toArray 40) = v4 at F4 A4 ⊢
  refine (move_noL _ [⟨0, k, e0⟩] 1 _ rfl _ bh _ F4.out (one_no (.inr (by omega)))).mono ?_
  rintro e w5 ⟨rfl, hb5⟩
  have B5 := Lib.hid (A4.out.trans (hb5.mono A4.out.size)); clear hb5 A4 F4
  go_wp2_with fail
  show Calls Try.prog 9 _ (w5.alloc (.cells (cellsC [⟨0, k, e0⟩]).toArray 40)) _
  have F5 : Hid (RowC (w5.alloc (.cells (cellsC [⟨0, k, e0⟩]).toArray 40)) (some ⟨w5.heap.size, 0, none⟩) [⟨0, k, e0⟩]) := Lib.hid (lit_row w5 _ _ rfl)
  have A5 := Lib.hid (B5.out.alloc B5.out.size (.cells (cellsC [⟨0, k, e0⟩]).toArray 40)); clear B5
  generalize w5.alloc (.cells (cellsC [⟨0, k, e0⟩]).toArray 40) = v5 at F5 A5 ⊢
  refine (move_noL _ [⟨0, k, e0⟩] 1 _ rfl _ bh _ F5.out (one_no (.inl (by omega)))).mono ?_
  rintro e w6 ⟨rfl, hb6⟩
  have B6 := Lib.hid (A5.out.trans (hb6.mono A5.out.size)); clear hb6 A5 F5
  go_wp2_with (go_at_call 11; refine (num_any _ _).mono ?_; rintro e w' ⟨rfl, rfl⟩)
  go_ret
  exact ⟨rfl, B6.out⟩

set_option maxRecDepth 100000 in
set_option maxHeartbeats 4000000 in
theorem nothing_b (size at' : Int) (t : ByteArray) (w : World) (h1 : 1 ≤ t.size) (h2 : t.size ≤ 1000) (hc : wrap64 ((IntKind.u64.wrap at').tmod (1 + bits BinOp.and IntKind.i64 size 255 + 1)) = 0) :
    Calls Try.prog 6 #[.int .i64 size, .int .i64 at', .string t, .bool true] w fun e w' => e = .returned (.bool true) ∧ Below w.heap.size w w' := by
  obtain ⟨q, hq, hq1⟩ := and255 size
  obtain ⟨j, hj, hj1⟩ := place_mod at' (q + 1) (by omega)
  rw [hq] at hc
  rw [show (((q + 1 : Nat) : Int) + 1) = 1 + (q : Int) + 1 by omega] at hj
  rw [hj] at hc
  have hi0 : (0 : Int) ≤ j := by omega
  have hi1 : (j : Int) ≤ 1 + (q : Int) := by omega
  have HJ := Lib.hid hj
  clear hj hj1
  go_enter Try.func6, Try.ntmps6
  go_wp2_with fail
  refine (awake_true _).mono ?_
  rintro e w1 ⟨rfl, hb1⟩
  have B1 := Lib.hid hb1; clear hb1
  go_wp2_with fail
  rw [HJ.out]
  have hk0 : (0 : Int) < 1 + (q : Int) := by omega
  have hk1 : 1 + (q : Int) ≤ 256 := by omega
  clear HJ hq hq1
  generalize 1 + (q : Int) = k at *
  generalize (j : Int) = i at *
  subst hc
  show Calls Try.prog 9 _ (w1.alloc (.cells (cellsC [⟨0, k, e0⟩]).toArray 40)) _
  have F1 : Hid (RowC (w1.alloc (.cells (cellsC [⟨0, k, e0⟩]).toArray 40)) (some ⟨w1.heap.size, 0, none⟩) [⟨0, k, e0⟩]) := Lib.hid (lit_row w1 _ _ rfl)
  have A1 := Lib.hid (B1.out.alloc B1.out.size (.cells (cellsC [⟨0, k, e0⟩]).toArray 40)); clear B1
  generalize w1.alloc (.cells (cellsC [⟨0, k, e0⟩]).toArray 40) = v1 at F1 A1 ⊢
  refine (move_yesL _ [⟨0, k, e0⟩] 1 _ rfl 0 0 true _ F1.out (one_p 0 (.inl rfl) hk0 (by omega) (by omega) (by omega)) (mov_keep _ (by omega))).mono ?_
  rintro e w2 ⟨rfl, hb2⟩
  have B2 := Lib.hid (A1.out.trans (hb2.mono A1.out.size)); clear hb2 A1 F1
  go_wp2_with fail
  show Calls Try.prog 9 _ (w2.alloc (.cells (cellsC [⟨1, 0, t⟩, ⟨0, k, e0⟩]).toArray 40)) _
  have F2 : Hid (RowC (w2.alloc (.cells (cellsC [⟨1, 0, t⟩, ⟨0, k, e0⟩]).toArray 40)) (some ⟨w2.heap.size, 0, none⟩) [⟨1, 0, t⟩, ⟨0, k, e0⟩]) := Lib.hid (lit_row w2 _ _ rfl)
  have A2 := Lib.hid (B2.out.alloc B2.out.size (.cells (cellsC [⟨1, 0, t⟩, ⟨0, k, e0⟩]).toArray 40)); clear B2
  generalize w2.alloc (.cells (cellsC [⟨1, 0, t⟩, ⟨0, k, e0⟩]).toArray 40) = v2 at F2 A2 ⊢
  refine (move_yesL _ [⟨1, 0, t⟩, ⟨0, k, e0⟩] 2 _ rfl 0 (0 + t.size) true _ F2.out (puts_keep_p hk0 (by omega) (by omega) (by omega) (by omega)) (mov_both_yes true t (by omega) (by omega) (.inr rfl))).mono ?_
  rintro e w3 ⟨rfl, hb3⟩
  have B3 := Lib.hid (A2.out.trans (hb3.mono A2.out.size)); clear hb3 A2 F2
  go_wp2_with fail
  show Calls Try.prog 9 _ (w3.alloc (.cells (cellsC [⟨2, k, e0⟩]).toArray 40)) _
  have F3 : Hid (RowC (w3.alloc (.cells (cellsC [⟨2, k, e0⟩]).toArray 40)) (some ⟨w3.heap.size, 0, none⟩) [⟨2, k, e0⟩]) := Lib.hid (lit_row w3 _ _ rfl)
  have A3 := Lib.hid (B3.out.alloc B3.out.size (.cells (cellsC [⟨2, k, e0⟩]).toArray 40)); clear B3
  generalize w3.alloc (.cells (cellsC [⟨2, k, e0⟩]).toArray 40) = v3 at F3 A3 ⊢
  refine (move_yesL _ [⟨2, k, e0⟩] 1 _ rfl 0 0 true _ F3.out (one_p 2 (.inr rfl) hk0 (by omega) (by omega) (by omega)) (mov_cut _ _ _)).mono ?_
  rintro e w4 ⟨rfl, hb4⟩
  have B4 := Lib.hid (A3.out.trans (hb4.mono A3.out.size)); clear hb4 A3 F3
  go_wp2_with fail
  show Calls Try.prog 9 _ (w4.alloc (.cells (cellsC [⟨0, k, e0⟩]).toArray 40)) _
  have F4 : Hid (RowC (w4.alloc (.cells (cellsC [⟨0, k, e0⟩]).toArray 40)) (some ⟨w4.heap.size, 0, none⟩) [⟨0, k, e0⟩]) := Lib.hid (lit_row w4 _ _ rfl)
  have A4 := Lib.hid (B4.out.alloc B4.out.size (.cells (cellsC [⟨0, k, e0⟩]).toArray 40)); clear B4
  generalize w4.alloc (.cells (cellsC [⟨0, k, e0⟩]).toArray 40) = v4 at F4 A4 ⊢
  refine (move_noL _ [⟨0, k, e0⟩] 1 _ rfl _ true _ F4.out (one_no (.inr (by omega)))).mono ?_
  rintro e w5 ⟨rfl, hb5⟩
  have B5 := Lib.hid (A4.out.trans (hb5.mono A4.out.size)); clear hb5 A4 F4
  go_wp2_with fail
  show Calls Try.prog 9 _ (w5.alloc (.cells (cellsC [⟨0, k, e0⟩]).toArray 40)) _
  have F5 : Hid (RowC (w5.alloc (.cells (cellsC [⟨0, k, e0⟩]).toArray 40)) (some ⟨w5.heap.size, 0, none⟩) [⟨0, k, e0⟩]) := Lib.hid (lit_row w5 _ _ rfl)
  have A5 := Lib.hid (B5.out.alloc B5.out.size (.cells (cellsC [⟨0, k, e0⟩]).toArray 40)); clear B5
  generalize w5.alloc (.cells (cellsC [⟨0, k, e0⟩]).toArray 40) = v5 at F5 A5 ⊢
  refine (move_noL _ [⟨0, k, e0⟩] 1 _ rfl _ true _ F5.out (one_no (.inl (by omega)))).mono ?_
  rintro e w6 ⟨rfl, hb6⟩
  have B6 := Lib.hid (A5.out.trans (hb6.mono A5.out.size)); clear hb6 A5 F5
  go_wp2_with (go_at_call 11; refine (num_any _ _).mono ?_; rintro e w' ⟨rfl, rfl⟩)
  go_ret
  exact ⟨rfl, B6.out⟩

set_option maxRecDepth 100000 in
set_option maxHeartbeats 4000000 in
theorem nothing_c (size at' : Int) (t : ByteArray) (w : World) (h1 : 1 ≤ t.size) (h2 : t.size ≤ 1000) (hc : wrap64 ((IntKind.u64.wrap at').tmod (1 + bits BinOp.and IntKind.i64 size 255 + 1)) = 0) :
    Calls Try.prog 6 #[.int .i64 size, .int .i64 at', .string t, .bool false] w fun e w' => e = .returned (.bool true) ∧ Below w.heap.size w w' := by
  obtain ⟨q, hq, hq1⟩ := and255 size
  obtain ⟨j, hj, hj1⟩ := place_mod at' (q + 1) (by omega)
  rw [hq] at hc
  rw [show (((q + 1 : Nat) : Int) + 1) = 1 + (q : Int) + 1 by omega] at hj
  rw [hj] at hc
  have hi0 : (0 : Int) ≤ j := by omega
  have hi1 : (j : Int) ≤ 1 + (q : Int) := by omega
  have HJ := Lib.hid hj
  clear hj hj1
  go_enter Try.func6, Try.ntmps6
  go_wp2_with fail
  refine (awake_true _).mono ?_
  rintro e w1 ⟨rfl, hb1⟩
  have B1 := Lib.hid hb1; clear hb1
  go_wp2_with fail
  rw [HJ.out]
  have hk0 : (0 : Int) < 1 + (q : Int) := by omega
  have hk1 : 1 + (q : Int) ≤ 256 := by omega
  clear HJ hq hq1
  generalize 1 + (q : Int) = k at *
  generalize (j : Int) = i at *
  subst hc
  show Calls Try.prog 9 _ (w1.alloc (.cells (cellsC [⟨0, k, e0⟩]).toArray 40)) _
  have F1 : Hid (RowC (w1.alloc (.cells (cellsC [⟨0, k, e0⟩]).toArray 40)) (some ⟨w1.heap.size, 0, none⟩) [⟨0, k, e0⟩]) := Lib.hid (lit_row w1 _ _ rfl)
  have A1 := Lib.hid (B1.out.alloc B1.out.size (.cells (cellsC [⟨0, k, e0⟩]).toArray 40)); clear B1
  generalize w1.alloc (.cells (cellsC [⟨0, k, e0⟩]).toArray 40) = v1 at F1 A1 ⊢
  refine (move_yesL _ [⟨0, k, e0⟩] 1 _ rfl 0 0 false _ F1.out (one_p 0 (.inl rfl) hk0 (by omega) (by omega) (by omega)) (mov_keep _ (by omega))).mono ?_
  rintro e w2 ⟨rfl, hb2⟩
  have B2 := Lib.hid (A1.out.trans (hb2.mono A1.out.size)); clear hb2 A1 F1
  go_wp2_with fail
  show Calls Try.prog 9 _ (w2.alloc (.cells (cellsC [⟨1, 0, t⟩, ⟨0, k, e0⟩]).toArray 40)) _
  have F2 : Hid (RowC (w2.alloc (.cells (cellsC [⟨1, 0, t⟩, ⟨0, k, e0⟩]).toArray 40)) (some ⟨w2.heap.size, 0, none⟩) [⟨1, 0, t⟩, ⟨0, k, e0⟩]) := Lib.hid (lit_row w2 _ _ rfl)
  have A2 := Lib.hid (B2.out.alloc B2.out.size (.cells (cellsC [⟨1, 0, t⟩, ⟨0, k, e0⟩]).toArray 40)); clear B2
  generalize w2.alloc (.cells (cellsC [⟨1, 0, t⟩, ⟨0, k, e0⟩]).toArray 40) = v2 at F2 A2 ⊢
  refine (move_yesL _ [⟨1, 0, t⟩, ⟨0, k, e0⟩] 2 _ rfl 0 (0) false _ F2.out (puts_keep_p hk0 (by omega) (by omega) (by omega) (by omega)) (mov_both_no t hk0)).mono ?_
  rintro e w3 ⟨rfl, hb3⟩
  have B3 := Lib.hid (A2.out.trans (hb3.mono A2.out.size)); clear hb3 A2 F2
  go_wp2_with fail
  show Calls Try.prog 9 _ (w3.alloc (.cells (cellsC [⟨2, k, e0⟩]).toArray 40)) _
  have F3 : Hid (RowC (w3.alloc (.cells (cellsC [⟨2, k, e0⟩]).toArray 40)) (some ⟨w3.heap.size, 0, none⟩) [⟨2, k, e0⟩]) := Lib.hid (lit_row w3 _ _ rfl)
  have A3 := Lib.hid (B3.out.alloc B3.out.size (.cells (cellsC [⟨2, k, e0⟩]).toArray 40)); clear B3
  generalize w3.alloc (.cells (cellsC [⟨2, k, e0⟩]).toArray 40) = v3 at F3 A3 ⊢
  refine (move_yesL _ [⟨2, k, e0⟩] 1 _ rfl 0 0 false _ F3.out (one_p 2 (.inr rfl) hk0 (by omega) (by omega) (by omega)) (mov_cut _ _ _)).mono ?_
  rintro e w4 ⟨rfl, hb4⟩
  have B4 := Lib.hid (A3.out.trans (hb4.mono A3.out.size)); clear hb4 A3 F3
  go_wp2_with fail
  show Calls Try.prog 9 _ (w4.alloc (.cells (cellsC [⟨0, k, e0⟩]).toArray 40)) _
  have F4 : Hid (RowC (w4.alloc (.cells (cellsC [⟨0, k, e0⟩]).toArray 40)) (some ⟨w4.heap.size, 0, none⟩) [⟨0, k, e0⟩]) := Lib.hid (lit_row w4 _ _ rfl)
  have A4 := Lib.hid (B4.out.alloc B4.out.size (.cells (cellsC [⟨0, k, e0⟩]).toArray 40)); clear B4
  generalize w4.alloc (.cells (cellsC [⟨0, k, e0⟩]).toArray 40) = v4 at F4 A4 ⊢
  refine (move_noL _ [⟨0, k, e0⟩] 1 _ rfl _ false _ F4.out (one_no (.inr (by omega)))).mono ?_
  rintro e w5 ⟨rfl, hb5⟩
  have B5 := Lib.hid (A4.out.trans (hb5.mono A4.out.size)); clear hb5 A4 F4
  go_wp2_with fail
  show Calls Try.prog 9 _ (w5.alloc (.cells (cellsC [⟨0, k, e0⟩]).toArray 40)) _
  have F5 : Hid (RowC (w5.alloc (.cells (cellsC [⟨0, k, e0⟩]).toArray 40)) (some ⟨w5.heap.size, 0, none⟩) [⟨0, k, e0⟩]) := Lib.hid (lit_row w5 _ _ rfl)
  have A5 := Lib.hid (B5.out.alloc B5.out.size (.cells (cellsC [⟨0, k, e0⟩]).toArray 40)); clear B5
  generalize w5.alloc (.cells (cellsC [⟨0, k, e0⟩]).toArray 40) = v5 at F5 A5 ⊢
  refine (move_noL _ [⟨0, k, e0⟩] 1 _ rfl _ false _ F5.out (one_no (.inl (by omega)))).mono ?_
  rintro e w6 ⟨rfl, hb6⟩
  have B6 := Lib.hid (A5.out.trans (hb6.mono A5.out.size)); clear hb6 A5 F5
  go_wp2_with (go_at_call 11; refine (num_any _ _).mono ?_; rintro e w' ⟨rfl, rfl⟩)
  go_ret
  exact ⟨rfl, B6.out⟩

set_option maxHeartbeats 1000000 in
theorem nothing_none (size at' : Int) (t : ByteArray) (bh : Bool) (w : World) (h : t.size < 1 ∨ 1000 < t.size) :
    Calls Try.prog 6 #[.int .i64 size, .int .i64 at', .string t, .bool bh] w fun e w' => e = .returned (.bool true) ∧ Below w.heap.size w w' := by
  obtain ⟨q, hq, hq1⟩ := and255 size
  rcases h with h | h
  · go_enter Try.func6, Try.ntmps6
    go_wp2_with fail
    refine (awake_true _).mono ?_
    rintro e w1 ⟨rfl, hb1⟩
    have B1 := Lib.hid hb1; clear hb1
    go_wp2_with fail
    go_ret
    exact ⟨rfl, B1.out⟩
  · go_enter Try.func6, Try.ntmps6
    go_wp2_with fail
    refine (awake_true _).mono ?_
    rintro e w1 ⟨rfl, hb1⟩
    have B1 := Lib.hid hb1; clear hb1
    go_wp2_with fail
    go_ret
    exact ⟨rfl, B1.out⟩

theorem nothing_true (size at' : Int) (t : ByteArray) (bh : Bool) (w : World) :
    Calls Try.prog 6 #[.int .i64 size, .int .i64 at', .string t, .bool bh] w fun e w' => e = .returned (.bool true) ∧ Below w.heap.size w w' := by
  by_cases h : t.size < 1 ∨ 1000 < t.size
  · exact nothing_none size at' t bh w h
  · have h1 : 1 ≤ t.size := by omega
    have h2 : t.size ≤ 1000 := by omega
    by_cases hc : 0 < wrap64 ((IntKind.u64.wrap at').tmod (1 + bits BinOp.and IntKind.i64 size 255 + 1))
    · exact nothing_a size at' t bh w h1 h2 hc
    · have hz : wrap64 ((IntKind.u64.wrap at').tmod (1 + bits BinOp.and IntKind.i64 size 255 + 1)) = 0 := by
        obtain ⟨q, hq, hq1⟩ := and255 size
        obtain ⟨j, hj, -⟩ := place_mod at' (q + 1) (by omega)
        rw [hq] at hc ⊢
        rw [show (((q + 1 : Nat) : Int) + 1) = 1 + (q : Int) + 1 by omega] at hj
        rw [hj] at hc ⊢
        omega
      cases bh with
      | true => exact nothing_b size at' t w h1 h2 hz
      | false => exact nothing_c size at' t w h1 h2 hz

end Go.Proofs.Ytlfgleickaaicaa
