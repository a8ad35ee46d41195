/-
  The walk of the law TransformSides. Conditions: as the theorems' premises say.
-/
import Derived.Test.YtkknkannjoijbaaTra4
namespace Go.Proofs.Ytkknkannjoijbaa
open Go.RowKit

/-- Two rows of the same pieces. -/
theorem same_yes (p q : Option Addr) (cs : List C) (n cap m cap2 : Nat) (hn : cs.length = n) (hm : cs.length = m) (hl : cs.length ≤ 4096) (w : World) (hr : RowC w p cs) (hq : RowC w q cs) :
    Calls Try.prog 13 #[.slice p n cap, .slice q m cap2] w fun e w' => e = .returned (.bool true) ∧ Below w.heap.size w w' := by
  subst hn; subst hm
  refine (same_any p q cs cs cap cap2 _ hr hq (by omega)).mono ?_
  rintro e w4 ⟨hb4, ⟨rfl, -⟩ | ⟨-, hno⟩⟩
  · exact ⟨rfl, hb4⟩
  · exact absurd rfl hno
theorem TraP.back {f : Bool} {a b : List C} (h : TraP (!f) b a) : TraP f a b := by
  have := h.swap
  rwa [Bool.not_not] at this

set_option maxHeartbeats 1000000 in
theorem sides_yes (p q : Option Addr) (a b P Q : List C) (f : Bool) (cap cap2 : Nat) (w : World) (ra : RowC w p a) (rb : RowC w q b) (ca : a.length ≤ cap) (cb : b.length ≤ cap2) (hc : TraP f a b) (hP : normOf (traP f a b) = P) (hQ : normOf (traQ f a b) = Q) :
    Calls Try.prog 5 #[.slice p a.length cap, .slice q b.length cap2, .bool f] w fun e w' => e = .returned (.bool true) ∧ Below w.heap.size w w' := by
  have lP : P.length ≤ 4096 := by rw [← hP]; exact (okB_iff.1 hc.2.2.2.1.1).1
  have lQ : Q.length ≤ 4096 := by rw [← hQ]; exact (okB_iff.1 hc.2.2.2.2.1).1
  have RA := Lib.hid ra; have RB := Lib.hid rb; have HC := Lib.hid hc; have HP := Lib.hid hP; have HQ := Lib.hid hQ
  have HC2 := Lib.hid hc.swap
  have HP2 : Hid (normOf (traP (!f) b a) = Q) := Lib.hid (by rw [traP_swap f (gd_of_may hc.1) (gd_of_may hc.2.1) hc.2.2.1]; exact hQ)
  have HQ2 : Hid (normOf (traQ (!f) b a) = P) := Lib.hid (by rw [traQ_swap f (gd_of_may hc.1) (gd_of_may hc.2.1) hc.2.2.1]; exact hP)
  clear ra rb hc hP hQ
  generalize hf : (!f) = g at HC2 HP2 HQ2
  go_enter Try.func5, Try.ntmps5
  go_wp2_with fail
  refine (awake_true _).mono ?_
  rintro e w1 ⟨rfl, hb1⟩
  have B1 := Lib.hid hb1; clear hb1
  go_wp2_with fail
  refine (transform_yesL _ _ a b P Q f _ _ _ _ rfl rfl _ (RA.out.below B1.out) (RB.out.below B1.out) ca cb HC.out HP.out HQ.out).mono ?_
  rintro e w2 ⟨p1, c1, q1, d1, rfl, ho, hu, hb2⟩
  have B2 := Lib.hid (B1.out.trans (hb2.mono B1.out.size)); have O2 := Lib.hid ho.row; have U2 := Lib.hid hu.row
  clear ho hu hb2 B1
  go_wp2_with fail
  refine (transform_yesL _ _ b a Q P g _ _ _ _ rfl rfl _ (RB.out.below B2.out) (RA.out.below B2.out) cb ca HC2.out HP2.out HQ2.out).mono ?_
  rintro e w3 ⟨p2, c2, q2, d2, rfl, ho, hu, hb3⟩
  have B3 := Lib.hid (B2.out.trans (hb3.mono B2.out.size)); have O3 := Lib.hid ho.row; have U3 := Lib.hid hu.row
  have O23 := Lib.hid (O2.out.below hb3); have U23 := Lib.hid (U2.out.below hb3)
  clear ho hu hb3 B2 O2 U2
  go_wp2_with (go_at_call 14; refine (num_any _ _).mono ?_; rintro e w' ⟨rfl, rfl⟩)
  refine (same_yes _ _ P _ _ _ _ rfl rfl lP _ O23.out U3.out).mono ?_
  rintro e w4 ⟨rfl, hb4⟩
  have B4 := Lib.hid (B3.out.trans (hb4.mono B3.out.size)); have O4 := Lib.hid (O3.out.below hb4); have U4 := Lib.hid (U23.out.below hb4)
  clear hb4 B3 O3 U3 O23 U23
  go_wp2_with fail
  refine (same_yes _ _ Q _ _ _ _ rfl rfl lQ _ U4.out O4.out).mono ?_
  rintro e w5 ⟨rfl, hb5⟩
  have B5 := Lib.hid (B4.out.trans (hb5.mono B4.out.size))
  clear hb5 B4 O4 U4
  go_wp2_with fail
  go_ret
  exact ⟨rfl, B5.out⟩

set_option maxHeartbeats 1000000 in
theorem sides_no (p q : Option Addr) (a b : List C) (f : Bool) (cap cap2 : Nat) (w : World) (ra : RowC w p a) (rb : RowC w q b) (ca : a.length ≤ cap) (cb : b.length ≤ cap2) (hc : ¬ TraP f a b) :
    Calls Try.prog 5 #[.slice p a.length cap, .slice q b.length cap2, .bool f] w fun e w' => e = .returned (.bool true) ∧ Below w.heap.size w w' := by
  have RA := Lib.hid ra; have RB := Lib.hid rb; have HC := Lib.hid hc
  have HC2 : Hid (¬ TraP (!f) b a) := Lib.hid fun h => hc h.back
  clear ra rb hc
  generalize hf : (!f) = g at HC2
  go_enter Try.func5, Try.ntmps5
  go_wp2_with fail
  refine (awake_true _).mono ?_
  rintro e w1 ⟨rfl, hb1⟩
  have B1 := Lib.hid hb1; clear hb1
  go_wp2_with fail
  refine (transform_noL _ _ a b f _ _ _ _ rfl rfl _ (RA.out.below B1.out) (RB.out.below B1.out) ca cb HC.out).mono ?_
  rintro e w2 ⟨rfl, hb2⟩
  have B2 := Lib.hid (B1.out.trans (hb2.mono B1.out.size))
  clear hb2 B1
  go_wp2_with fail
  refine (transform_noL _ _ b a g _ _ _ _ rfl rfl _ (RB.out.below B2.out) (RA.out.below B2.out) cb ca HC2.out).mono ?_
  rintro e w3 ⟨rfl, hb3⟩
  have B3 := Lib.hid (B2.out.trans (hb3.mono B2.out.size))
  clear hb3 B2
  go_wp2_with (go_at_call 14; refine (num_any _ _).mono ?_; rintro e w' ⟨rfl, rfl⟩)
  refine (same_yes none none [] 0 0 0 0 rfl rfl (by simp) _ (nil_row _) (nil_row _)).mono ?_
  rintro e w4 ⟨rfl, hb4⟩
  have B4 := Lib.hid (B3.out.trans (hb4.mono B3.out.size))
  clear hb4 B3
  go_wp2_with fail
  refine (same_yes none none [] 0 0 0 0 rfl rfl (by simp) _ (nil_row _) (nil_row _)).mono ?_
  rintro e w5 ⟨rfl, hb5⟩
  have B5 := Lib.hid (B4.out.trans (hb5.mono B4.out.size))
  clear hb5 B4
  go_wp2_with fail
  go_ret
  exact ⟨rfl, B5.out⟩

theorem sides_true (p q : Option Addr) (a b : List C) (f : Bool) (cap cap2 : Nat) (w : World) (ra : RowC w p a) (rb : RowC w q b) (ca : a.length ≤ cap) (cb : b.length ≤ cap2) :
    Calls Try.prog 5 #[.slice p a.length cap, .slice q b.length cap2, .bool f] w fun e w' => e = .returned (.bool true) ∧ Below w.heap.size w w' := by
  by_cases h : TraP f a b
  · exact sides_yes p q a b _ _ f cap cap2 w ra rb ca cb h rfl rfl
  · exact sides_no p q a b f cap cap2 w ra rb ca cb h

end Go.Proofs.Ytkknkannjoijbaa
