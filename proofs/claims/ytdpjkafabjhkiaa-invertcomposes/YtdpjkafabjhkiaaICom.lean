/-
  The walk of the law InvertComposes. Conditions: as the theorems' premises say.
-/
import Derived.Test.YtdpjkafabjhkiaaInvA
import Derived.Test.YtdpjkafabjhkiaaAw
namespace Go.Proofs.Ytdpjkafabjhkiaa
open Go.RowKit

theorem rlengths_yesL (p : Option Addr) (cs : List C) (n cap : Nat) (hn : cs.length = n) (w : World) (hr : RowC w p cs) (h : MayP cs) (F T : Int) (hF : sumOf fromC cs = F) (hT : sumOf toC cs = T) :
    Calls Try.prog 16 #[.slice p n cap] w fun e w' => e = .returned (.tuple #[.int .i64 F, .int .i64 T, .int .i64 0]) ∧ Below w.heap.size w w' := by
  subst hn; subst hF; subst hT
  refine (rlengths_any p cs cap w hr).mono ?_
  rintro e w' ⟨hb, ⟨rfl, -⟩ | ⟨-, hno⟩⟩
  · exact ⟨rfl, hb⟩
  · exact absurd h hno

set_option maxHeartbeats 1000000 in
theorem icom_no (s : ByteArray) (p : Option Addr) (cs : List C) (cap : Nat) (w : World) (hr : RowC w p cs) (hno : ¬ Does s cs) :
    Calls Try.prog 5 #[.string s, .slice p cs.length cap] w fun e w' => e = .returned (.bool true) ∧ Below w.heap.size w w' := by
  have R := Lib.hid hr; have HN := Lib.hid hno
  clear hr hno
  go_enter Try.func5, Try.ntmps5
  go_wp2_with fail
  refine (awake_true _).mono ?_
  rintro e w1 ⟨rfl, hb1⟩
  have B1 := Lib.hid hb1; clear hb1
  go_wp2_with fail
  refine (invert_noL s _ cs _ _ rfl _ (R.out.below B1.out) HN.out).mono ?_
  rintro e w3 ⟨rfl, hb3⟩
  have B3 := Lib.hid (B1.out.trans (hb3.mono B1.out.size)); clear hb3 B1
  go_wp2_with (go_at_call 10; refine (num_any _ _).mono ?_; rintro e w' ⟨rfl, rfl⟩)
  go_ret
  exact ⟨rfl, B3.out⟩

set_option maxHeartbeats 2000000 in
theorem icom_yes (s : ByteArray) (p : Option Addr) (cs : List C) (cap : Nat) (w : World) (hr : RowC w p cs) (hcap : cs.length ≤ cap) (hD : Does s cs) :
    Calls Try.prog 5 #[.string s, .slice p cs.length cap] w fun e w' => e = .returned (.bool true) ∧ Below w.heap.size w w' := by
  have R := Lib.hid hr; have HD := Lib.hid hD
  have hl : cs.length ≤ 4096 := hD.bounds.1
  obtain ⟨d1, d2, -⟩ := inv_all hD
  obtain ⟨-, m2, m3⟩ := inv_may hD
  have eb := hD.bounds.2.2.2.1
  have la : (normOf (invL s 0 cs)).length ≤ cs.length := by
    have := normOf_length (invL s 0 cs)
    rw [inv_length] at this
    exact this
  generalize hT : appB s 0 cs = T at d1 d2 eb
  generalize hA : normOf (invL s 0 cs) = A at d1 d2 m2 m3 la
  have HA := Lib.hid hA; have D1 := Lib.hid d1; have M2 := Lib.hid m2; have M3 := Lib.hid m3
  by_cases hlong : (1000 : Int) < (cs.length : Int)
  · clear hr hD hT hA d1 d2 m2 m3
    go_enter Try.func5, Try.ntmps5
    go_wp2_with fail
    refine (awake_true _).mono ?_
    rintro e w1 ⟨rfl, hb1⟩
    have B1 := Lib.hid hb1; clear hb1
    go_wp2_with fail
    refine (invert_yesL s _ cs A _ _ rfl _ (R.out.below B1.out) HD.out HA.out).mono ?_
    rintro e w3 ⟨p3, c3, rfl, ho3, hb3⟩
    have B3 := Lib.hid (B1.out.trans (hb3.mono B1.out.size)); clear ho3 hb3 B1
    go_wp2_with (go_at_call 10; refine (num_any _ _).mono ?_; rintro e w' ⟨rfl, rfl⟩)
    all_goals (go_ret; exact ⟨by simp, B3.out⟩)
  · have hc : ComP cs A := com_may hD.1 d1.1 m2.symm (by omega)
    have e1 := com_app (s := s) hD.1 d1.1 m2.symm hD.2
    rw [hT, d2] at e1
    have e2 := (com_sums hD.1 d1.1 m2.symm).1
    rw [hD.2] at e2
    have e3 := hc.2.2.2
    generalize hN : normOf (joinL cs A) = N at e1 e2 e3
    have HN := Lib.hid hN; have E1 := Lib.hid e1; have E2 := Lib.hid e2; have E3 := Lib.hid e3; have HC := Lib.hid hc
    generalize hF : sumOf fromC cs = F at *
    generalize hG : sumOf toC cs = G at *
    have HF := Lib.hid hF; have HG := Lib.hid hG
    clear hr hD hT hA d1 d2 m2 m3 hc e1 e2 e3 hN hF hG eb
    go_enter Try.func5, Try.ntmps5
    go_wp2_with fail
    refine (awake_true _).mono ?_
    rintro e w1 ⟨rfl, hb1⟩
    have B1 := Lib.hid hb1; clear hb1
    go_wp2_with fail
    refine (invert_yesL s _ cs A _ _ rfl _ (R.out.below B1.out) HD.out HA.out).mono ?_
    rintro e w3 ⟨p3, c3, rfl, ho3, hb3⟩
    have O3 := Lib.hid ho3; have B3 := Lib.hid (B1.out.trans (hb3.mono B1.out.size)); clear ho3 hb3 B1
    go_wp2_with (go_at_call 10; refine (num_any _ _).mono ?_; rintro e w' ⟨rfl, rfl⟩)
    refine (compose_yesL _ _ cs A N _ _ _ _ rfl rfl _ (R.out.below B3.out) O3.out.row hcap O3.out.capL HC.out HN.out).mono ?_
    rintro e w4 ⟨p4, c4, rfl, ho4, hb4⟩
    have O4 := Lib.hid ho4.row; have A4 := Lib.hid (O3.out.row.below hb4); have B4 := Lib.hid (B3.out.trans (hb4.mono B3.out.size)); clear ho4 hb4 B3 O3
    go_wp2_with fail
    refine (apply_yesL s _ N _ _ rfl _ O4.out E3.out E2.out s E1.out).mono ?_
    rintro e w5 ⟨rfl, hb5⟩
    have A5 := Lib.hid (A4.out.below hb5); have B5 := Lib.hid (B4.out.trans (hb5.mono B4.out.size)); clear hb5 B4 O4 A4
    go_wp2_with fail
    refine (rlengths_yesL _ cs _ _ rfl _ (R.out.below B5.out) HD.out.1 F G HF.out HG.out).mono ?_
    rintro e w6 ⟨rfl, hb6⟩
    have A6 := Lib.hid (A5.out.below hb6); have B6 := Lib.hid (B5.out.trans (hb6.mono B5.out.size)); clear hb6 B5 A5
    go_wp2_with fail
    refine (rlengths_yesL _ A _ _ rfl _ A6.out D1.out.1 G F M2.out M3.out).mono ?_
    rintro e w7 ⟨rfl, hb7⟩
    have B7 := Lib.hid (B6.out.trans (hb7.mono B6.out.size)); clear hb7 B6 A6
    go_wp2_with (go_at_call 10; refine (num_any _ _).mono ?_; rintro e w' ⟨rfl, rfl⟩)
    go_ret
    exact ⟨rfl, B7.out⟩

theorem icom_true (s : ByteArray) (p : Option Addr) (cs : List C) (cap : Nat) (w : World) (hr : RowC w p cs) (hcap : cs.length ≤ cap) :
    Calls Try.prog 5 #[.string s, .slice p cs.length cap] w fun e w' => e = .returned (.bool true) ∧ Below w.heap.size w w' := by
  by_cases h : Does s cs
  · exact icom_yes s p cs cap w hr hcap h
  · exact icom_no s p cs cap w hr h

end Go.Proofs.Ytdpjkafabjhkiaa
