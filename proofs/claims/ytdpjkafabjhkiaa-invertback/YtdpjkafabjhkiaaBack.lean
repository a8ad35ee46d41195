/-
  The walk of the law InvertBack. Conditions: as the theorems' premises say.
-/
import Derived.Test.YtdpjkafabjhkiaaInvA
namespace Go.Proofs.Ytdpjkafabjhkiaa
open Go.RowKit

set_option maxHeartbeats 1000000 in
theorem back_no (s : ByteArray) (p : Option Addr) (cs : List C) (cap : Nat) (w : World) (hr : RowC w p cs) (hno : ¬ Does s cs) :
    Calls Try.prog 4 #[.string s, .slice p cs.length cap] w fun e w' => e = .returned (.bool true) ∧ Below w.heap.size w w' := by
  have R := Lib.hid hr; have HN := Lib.hid hno
  clear hr hno
  go_enter Try.func4, Try.ntmps4
  go_wp2_with fail
  refine (awake_true _).mono ?_
  rintro e w1 ⟨rfl, hb1⟩
  have B1 := Lib.hid hb1; clear hb1
  go_wp2_with fail
  refine (apply_noL s _ cs _ _ rfl _ (R.out.below B1.out) HN.out).mono ?_
  rintro e w2 ⟨rfl, hb2⟩
  have B2 := Lib.hid (B1.out.trans (hb2.mono B1.out.size)); clear hb2 B1
  go_wp2_with fail
  refine (invert_noL s _ cs _ _ rfl _ (R.out.below B2.out) HN.out).mono ?_
  rintro e w3 ⟨rfl, hb3⟩
  have B3 := Lib.hid (B2.out.trans (hb3.mono B2.out.size)); clear hb3 B2
  go_wp2_with (go_at_call 10; refine (num_any _ _).mono ?_; rintro e w' ⟨rfl, rfl⟩)
  go_ret
  exact ⟨rfl, B3.out⟩

set_option maxHeartbeats 1000000 in
theorem back_yes (s : ByteArray) (p : Option Addr) (cs : List C) (cap : Nat) (w : World) (hr : RowC w p cs) (hD : Does s cs) :
    Calls Try.prog 4 #[.string s, .slice p cs.length cap] w fun e w' => e = .returned (.bool true) ∧ Below w.heap.size w w' := by
  have R := Lib.hid hr; have HD := Lib.hid hD
  have hl : cs.length ≤ 4096 := hD.bounds.1
  obtain ⟨d1, d2, d3⟩ := inv_all hD
  generalize hT : appB s 0 cs = T at d1 d2 d3
  generalize hA : normOf (invL s 0 cs) = A at d1 d2 d3
  have HT := Lib.hid hT; have HA := Lib.hid hA; have D1 := Lib.hid d1; have D2 := Lib.hid d2; have D3 := Lib.hid d3
  clear hr hD hT hA d1 d2 d3
  go_enter Try.func4, Try.ntmps4
  go_wp2_with fail
  refine (awake_true _).mono ?_
  rintro e w1 ⟨rfl, hb1⟩
  have B1 := Lib.hid hb1; clear hb1
  go_wp2_with fail
  refine (apply_yesL s _ cs _ _ rfl _ (R.out.below B1.out) HD.out.1 HD.out.2 T HT.out).mono ?_
  rintro e w2 ⟨rfl, hb2⟩
  have B2 := Lib.hid (B1.out.trans (hb2.mono B1.out.size)); clear hb2 B1
  go_wp2_with fail
  refine (invert_yesL s _ cs A _ _ rfl _ (R.out.below B2.out) HD.out HA.out).mono ?_
  rintro e w3 ⟨p3, c3, rfl, ho3, hb3⟩
  have O3 := Lib.hid ho3.row; have B3 := Lib.hid (B2.out.trans (hb3.mono B2.out.size)); clear ho3 hb3 B2
  go_wp2_with (go_at_call 10; refine (num_any _ _).mono ?_; rintro e w' ⟨rfl, rfl⟩)
  refine (apply_yesL T _ A _ _ rfl _ O3.out D1.out.1 D1.out.2 s D2.out).mono ?_
  rintro e w4 ⟨rfl, hb4⟩
  have O4 := Lib.hid (O3.out.below hb4); have B4 := Lib.hid (B3.out.trans (hb4.mono B3.out.size)); clear hb4 B3 O3
  go_wp2_with fail
  refine (invert_yesL T _ A cs _ _ rfl _ O4.out D1.out D3.out).mono ?_
  rintro e w5 ⟨p5, c5, rfl, ho5, hb5⟩
  have O5 := Lib.hid ho5.row; have B5 := Lib.hid (B4.out.trans (hb5.mono B4.out.size)); clear ho5 hb5 B4 O4
  go_wp2_with (go_at_call 10; refine (num_any _ _).mono ?_; rintro e w' ⟨rfl, rfl⟩)
  refine (same_yes _ _ cs _ _ _ _ rfl rfl hl _ O5.out (R.out.below B5.out)).mono ?_
  rintro e w6 ⟨rfl, hb6⟩
  have B6 := Lib.hid (B5.out.trans (hb6.mono B5.out.size)); clear hb6 B5 O5
  go_wp2_with fail
  go_ret
  exact ⟨rfl, B6.out⟩

theorem back_true (s : ByteArray) (p : Option Addr) (cs : List C) (cap : Nat) (w : World) (hr : RowC w p cs) :
    Calls Try.prog 4 #[.string s, .slice p cs.length cap] w fun e w' => e = .returned (.bool true) ∧ Below w.heap.size w w' := by
  by_cases h : Does s cs
  · exact back_yes s p cs cap w hr h
  · exact back_no s p cs cap w hr h

end Go.Proofs.Ytdpjkafabjhkiaa
