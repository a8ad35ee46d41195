/-
  The walk of the law Edits. Conditions: as the theorems' premises say.
-/
import Derived.Test.YtmlibmleamiljaaREd
namespace Go.Proofs.Ytmlibmleamiljaa
open Go.RowKit

/-- A list and a number, whatever they are. -/
def EdAny (out : List C) (n : Int) (w : World) (e : Ending) (w' : World) : Prop :=
  ∃ p cap, e = .returned (.tuple #[.slice p out.length cap, .int .i64 n]) ∧ RowC w' p out ∧ Below w.heap.size w w'
theorem EdYes.any {out : List C} {w : World} {e : Ending} {w' : World} (h : EdYes out w e w') : EdAny out 0 w e w' := by
  obtain ⟨p, cap, rfl, ho, hb⟩ := h
  exact ⟨p, cap, rfl, ho.row, hb⟩
theorem EdNo.any {n : Int} {w : World} {e : Ending} {w' : World} (h : EdNo n w e w') : EdAny [] n w e w' := by
  obtain ⟨rfl, hb⟩ := h
  exact ⟨none, 0, rfl, nil_row _, hb⟩

theorem make_same (s put : ByteArray) (x y : Int) : ∃ (out : List C) (n : Int), out.length ≤ 4096 ∧ (∀ w, Calls Try.prog 8 #[.string s, .int .i64 x, .int .i64 y, .string put] w (EdAny out n w)) ∧ (∀ w, Calls Try.prog 9 #[.string s, .int .i64 x, .int .i64 y, .string put] w (EdAny out n w)) := by
  by_cases h : FormBad s x y
  · exact ⟨[], 800, by simp, fun w => (make_form s put x y w h).mono fun _ _ h => h.any, fun w => (rmake_form s put x y w h).mono fun _ _ h => h.any⟩
  · obtain ⟨a, c, b, rfl, rfl, h1, h2⟩ := good_form h
    by_cases h3 : LongBad s put c
    · exact ⟨[], 801, by simp, fun w => (make_long s put a c b w h1 h2 h3).mono fun _ _ h => h.any, fun w => (rmake_long s put a c b w h1 h2 h3).mono fun _ _ h => h.any⟩
    · unfold LongBad at h3
      exact ⟨normOf (edL a put c b), 0, Nat.le_trans (normOf_length _) (by simp [edL]), fun w => (make_yes s put a c b w h1 h2 (by omega) (by omega)).mono fun _ _ h => h.any, fun w => (rmake_yes s put a c b w h1 h2 (by omega) (by omega)).mono fun _ _ h => h.any⟩
theorem between_same (s t : ByteArray) : ∃ (out : List C) (n : Int), out.length ≤ 4096 ∧ (∀ w, Calls Try.prog 10 #[.string s, .string t] w (EdAny out n w)) ∧ (∀ w, Calls Try.prog 11 #[.string s, .string t] w (EdAny out n w)) := by
  by_cases h : 4096 < s.size ∨ 4096 < t.size
  · exact ⟨[], 800, by simp, fun w => (between_no s t w h).mono fun _ _ h => h.any, fun w => (rbetween_no s t w h).mono fun _ _ h => h.any⟩
  · exact ⟨btw s t, 0, Nat.le_trans (normOf_length _) (by simp [btL, edL]), fun w => (between_yes s t w (by omega) (by omega)).mono fun _ _ h => h.any, fun w => (rbetween_yes s t w (by omega) (by omega)).mono fun _ _ h => h.any⟩

set_option maxRecDepth 100000 in
set_option maxHeartbeats 4000000 in
theorem edits_true (s t : ByteArray) (x y : Int) (w : World) : Calls Try.prog 3 #[.string s, .string t, .int .i64 x, .int .i64 y] w fun e w' => e = .returned (.bool true) ∧ Below w.heap.size w w' := by
  obtain ⟨A, n, l1, m1, m2⟩ := make_same s t x y
  obtain ⟨B, k, l2, m3, m4⟩ := between_same s t
  have M1 := Lib.hid m1; have M2 := Lib.hid m2; have M3 := Lib.hid m3; have M4 := Lib.hid m4
  clear m1 m2 m3 m4
  go_enter Try.func3, Try.ntmps3
  go_wp2_with fail
  refine (M1.out _).mono ?_
  rintro e w1 ⟨p1, c1, rfl, ho1, hb1⟩
  have O1 := Lib.hid ho1; have B1 := Lib.hid hb1; clear ho1 hb1
  go_wp2_with fail
  refine (M2.out _).mono ?_
  rintro e w2 ⟨p2, c2, rfl, ho2, hb2⟩
  have O2 := Lib.hid (O1.out.below hb2); have P2 := Lib.hid ho2; have B2 := Lib.hid (B1.out.trans (hb2.mono B1.out.size)); clear ho2 hb2 O1 B1
  go_wp2_with fail
  refine (M3.out _).mono ?_
  rintro e w3 ⟨p3, c3, rfl, ho3, hb3⟩
  have O3 := Lib.hid (O2.out.below hb3); have P3 := Lib.hid (P2.out.below hb3); have Q3 := Lib.hid ho3; have B3 := Lib.hid (B2.out.trans (hb3.mono B2.out.size)); clear ho3 hb3 O2 P2 B2
  go_wp2_with fail
  refine (M4.out _).mono ?_
  rintro e w4 ⟨p4, c4, rfl, ho4, hb4⟩
  have O4 := Lib.hid (O3.out.below hb4); have P4 := Lib.hid (P3.out.below hb4); have Q4 := Lib.hid (Q3.out.below hb4); have R4 := Lib.hid ho4; have B4 := Lib.hid (B3.out.trans (hb4.mono B3.out.size)); clear ho4 hb4 O3 P3 Q3 B3
  go_wp2_with fail
  refine (same_yes _ _ A _ _ _ _ rfl rfl l1 _ O4.out P4.out).mono ?_
  rintro e w5 ⟨rfl, hb5⟩
  have Q5 := Lib.hid (Q4.out.below hb5); have R5 := Lib.hid (R4.out.below hb5); have B5 := Lib.hid (B4.out.trans (hb5.mono B4.out.size)); clear hb5 O4 P4 Q4 R4 B4
  go_wp2_with (go_at_call 13; refine (num_any _ _).mono ?_; rintro e w' ⟨rfl, rfl⟩)
  refine (same_yes _ _ B _ _ _ _ rfl rfl l2 _ Q5.out R5.out).mono ?_
  rintro e w6 ⟨rfl, hb6⟩
  have B6 := Lib.hid (B5.out.trans (hb6.mono B5.out.size)); clear hb6 Q5 R5 B5
  go_wp2_with (go_at_call 13; refine (num_any _ _).mono ?_; rintro e w' ⟨rfl, rfl⟩)
  refine (awake_true _).mono ?_
  rintro e w7 ⟨rfl, hb7⟩
  have B7 := Lib.hid (B6.out.trans (hb7.mono B6.out.size)); clear hb7 B6
  go_wp2_with fail
  go_ret
  exact ⟨rfl, B7.out⟩

end Go.Proofs.Ytmlibmleamiljaa
