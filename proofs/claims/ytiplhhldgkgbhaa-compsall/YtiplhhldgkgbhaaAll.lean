/-
  The walk of CompsAll: it answers true. Conditions: the pieces lie in memory, and so many that their row may be lent.
-/
import Derived.Test.YtiplhhldgkgbhaaW16
import Derived.Test.YtiplhhldgkgbhaaRows1
namespace Go.Proofs.Ytiplhhldgkgbhaa
open Go.RowKit

/-- What Normal hands back, and its number. -/
def outOf (cs : List C) : List C := if okB cs then normOf cs else []
def numOf (cs : List C) : Int := if okB cs then 0 else 200

theorem NormPost.form {cs : List C} {w w' : World} {e : Ending} (h : NormPost cs w e w') : ∃ p cap, e = .returned (.tuple #[.slice p (outOf cs).length cap, .int .i64 (numOf cs)]) ∧ Own w' w.heap.size (.slice p (outOf cs).length cap) (outOf cs) ∧ Below w.heap.size w w' := by
  obtain ⟨hb, ⟨hyes, v, rfl, ho⟩ | ⟨hno, rfl⟩⟩ := h
  · obtain ⟨p, cap, rfl⟩ := ho.form
    have e1 : outOf cs = normOf cs := by rw [outOf, hyes]; rfl
    have e2 : numOf cs = 0 := by rw [numOf, hyes]; rfl
    rw [e1, e2]
    exact ⟨p, cap, rfl, ho, hb⟩
  · have e1 : outOf cs = [] := by rw [outOf, hno]; rfl
    have e2 : numOf cs = 200 := by rw [numOf, hno]; rfl
    rw [e1, e2]
    exact ⟨none, 0, rfl, Own.nil _ _, hb⟩
theorem outOf_length (cs : List C) : (outOf cs).length ≤ 4096 := by
  unfold outOf
  cases h : okB cs with
  | true => exact (okB_iff.1 (okB_normOf h)).1
  | false => simp

theorem LenPost.form (cs : List C) : ∃ F T E : Int, ∀ (w : World) (e : Ending) (w' : World), LenPost cs w e w' → e = .returned (.tuple #[.int .i64 F, .int .i64 T, .int .i64 E]) ∧ Below w.heap.size w w' := by
  by_cases h : MayP cs
  · refine ⟨sumOf fromC cs, sumOf toC cs, 0, fun w e w' hp => ?_⟩
    obtain ⟨hb, ⟨he, -⟩ | ⟨-, hno⟩⟩ := hp
    · exact ⟨he, hb⟩
    · exact absurd h hno
  · refine ⟨0, 0, 200, fun w e w' hp => ?_⟩
    obtain ⟨hb, ⟨-, hyes⟩ | ⟨he, -⟩⟩ := hp
    · exact absurd hyes h
    · exact ⟨he, hb⟩
theorem MayPost.form (cs : List C) : ∃ b : Bool, ∀ (w : World) (e : Ending) (w' : World), MayPost cs w e w' → e = .returned (.bool b) ∧ Below w.heap.size w w' := by
  by_cases h : MayP cs
  · refine ⟨true, fun w e w' hp => ?_⟩
    obtain ⟨hb, ⟨he, -⟩ | ⟨-, hno⟩⟩ := hp
    · exact ⟨he, hb⟩
    · exact absurd h hno
  · refine ⟨false, fun w e w' hp => ?_⟩
    obtain ⟨hb, ⟨-, hyes⟩ | ⟨he, -⟩⟩ := hp
    · exact absurd hyes h
    · exact ⟨he, hb⟩

set_option maxRecDepth 100000 in
set_option maxHeartbeats 2000000 in
theorem all_true (p : Option Addr) (cs : List C) (cap : Nat) (w : World) (hr : RowC w p cs) (hl : (cs.length + 2) * 32 ≤ 140737488355328) :
    Calls Try.prog 3 #[.slice p cs.length cap] w fun e w' => e = .returned (.bool true) ∧ Below w.heap.size w w' := by
  have R := Lib.hid hr; clear hr
  obtain ⟨F, T, E, hlen⟩ := LenPost.form cs
  obtain ⟨mb, hmay⟩ := MayPost.form cs
  have LEN := Lib.hid hlen; have MAY := Lib.hid hmay
  clear hlen hmay
  have hol := outOf_length cs
  go_enter Try.func3, Try.ntmps3
  go_wp2_with fail
  refine (lend_any p cs cap w R.out hl).mono ?_
  rintro e w1 ⟨g, cap1, rfl, hown1, hcap1, hb1⟩
  have LE : Hid (Lent w1 g cs) := Lib.hid hown1.row
  have R1 := Lib.hid (R.out.below hb1)
  have B1 := Lib.hid hb1
  clear hown1 hb1
  go_wp2_with fail
  refine (normal_any (some ⟨g, 0, none⟩) cs cap1 w1 LE.out.row).mono ?_
  intro e w2 hpost
  obtain ⟨p2, cap2, rfl, hown2, hb2⟩ := hpost.form
  have O2 := Lib.hid hown2
  have B2 := Lib.hid hb2
  clear hown2 hb2 hpost
  generalize hon : outOf cs = OUT at *
  generalize hnn : numOf cs = NU at *
  have HON := Lib.hid hon; have HNN := Lib.hid hnn
  clear hon hnn
  go_wp2_with fail
  refine (rnormal_any p cs cap w2 (R1.out.below B2.out)).mono ?_
  intro e w3 hpost
  obtain ⟨p3, cap3, rfl, hown3, hb3⟩ := hpost.form
  rw [HON.out] at hown3
  rw [HON.out, HNN.out]
  have R3 := Lib.hid hown3.row
  have O3 := Lib.hid (O2.out.below hb3)
  have B3 := Lib.hid (B2.out.trans (hb3.mono B2.out.size))
  clear hown3 hb3 hpost O2 B2
  go_wp2_with fail
  refine (lengths_any (some ⟨g, 0, none⟩) cs cap1 w3 (LE.out.below B3.out).row).mono ?_
  intro e w4 hpost
  obtain ⟨rfl, hb4⟩ := LEN.out _ _ _ hpost
  have R4 := Lib.hid (R3.out.below hb4)
  have O4 := Lib.hid (O3.out.below hb4)
  have B4 := Lib.hid (B3.out.trans (hb4.mono B3.out.size))
  clear hb4 hpost R3 O3 B3
  go_wp2_with fail
  refine (rlengths_any p cs cap w4 (R1.out.below B4.out)).mono ?_
  intro e w5 hpost
  obtain ⟨rfl, hb5⟩ := LEN.out _ _ _ hpost
  have R5 := Lib.hid (R4.out.below hb5)
  have O5 := Lib.hid (O4.out.below hb5)
  have B5 := Lib.hid (B4.out.trans (hb5.mono B4.out.size))
  clear hb5 hpost R4 O4 B4
  go_wp2_with fail
  refine (same_any p2 p3 OUT OUT cap2 cap3 w5 O5.out.row R5.out (by omega)).mono ?_
  rintro e w6 ⟨hb6, ⟨rfl, -⟩ | ⟨-, hno⟩⟩
  rotate_left
  · exact absurd rfl hno
  have O6 := Lib.hid (O5.out.below hb6)
  have B6 := Lib.hid (B5.out.trans (hb6.mono B5.out.size))
  clear hb6 R5 O5 B5
  go_wp2_with (go_at_call 14; refine (num_any _ _).mono ?_; rintro e w' ⟨rfl, rfl⟩)
  refine (may_any (some ⟨g, 0, none⟩) cs cap1 w6 (LE.out.below B6.out).row).mono ?_
  intro e w7 hpost
  obtain ⟨rfl, hb7⟩ := MAY.out _ _ _ hpost
  have O7 := Lib.hid (O6.out.below hb7)
  have B7 := Lib.hid (B6.out.trans (hb7.mono B6.out.size))
  clear hb7 hpost O6 B6
  go_wp2_with fail
  refine (rcmay_any p cs cap w7 (R1.out.below B7.out)).mono ?_
  intro e w8 hpost
  obtain ⟨rfl, hb8⟩ := MAY.out _ _ _ hpost
  have O8 := Lib.hid (O7.out.below hb8)
  have B8 := Lib.hid (B7.out.trans (hb8.mono B7.out.size))
  clear hb8 hpost O7 B7
  go_wp2_with fail
  refine (kept_any p cs cap g cap1 w8 (R1.out.below B8.out) (LE.out.below B8.out) hcap1 (by omega)).mono ?_
  rintro e w9 ⟨rfl, hb9⟩
  have O9 := Lib.hid (O8.out.below hb9)
  have B9 := Lib.hid (B8.out.trans (hb9.mono B8.out.size))
  clear hb9 O8 B8
  go_wp2_with fail
  refine (spoil_any w1.heap.size (.slice p2 OUT.length cap2) OUT w9 O9.out hol).mono ?_
  rintro e w10 ⟨rfl, hg10⟩
  have B10 := Lib.hid (B9.out.grown hg10 B9.out.size (fun k h => (O9.out.lt h).1))
  clear hg10 O9 B9
  go_wp2_with fail
  refine (kept_any p cs cap g cap1 w10 (R1.out.below B10.out) (LE.out.below B10.out) hcap1 (by omega)).mono ?_
  rintro e w11 ⟨rfl, hb11⟩
  have B11 := Lib.hid (B10.out.trans (hb11.mono B10.out.size))
  clear hb11 B10
  go_wp2_with fail
  refine (awake_true w11).mono ?_
  rintro e w12 ⟨rfl, hb12⟩
  go_wp2_with fail
  go_ret
  exact ⟨rfl, B1.out.trans ((B11.out.trans (hb12.mono B11.out.size)).mono B1.out.size)⟩

end Go.Proofs.Ytiplhhldgkgbhaa
