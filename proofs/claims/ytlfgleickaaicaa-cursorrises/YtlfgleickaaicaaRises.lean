/-
  The walk of the law CursorRises. Conditions: as the theorem's premises say.
-/
import Derived.Test.YtlfgleickaaicaaAw
namespace Go.Proofs.Ytlfgleickaaicaa
open Go.RowKit

set_option maxRecDepth 100000 in
set_option maxHeartbeats 2000000 in
theorem rises_yes (p : Option Addr) (cs : List C) (cap : Nat) (a b : Int) (w : World) (hr : RowC w p cs) (hm : MayP cs) :
    Calls Try.prog 4 #[.slice p cs.length cap, .int .i64 a, .int .i64 b] w fun e w' => e = .returned (.bool true) ∧ Below w.heap.size w w' := by
  have R := Lib.hid hr
  have hs := may_soft hm
  have hF0 := sumOf_nonneg (f := fromC) (cs := cs) fun c hc => from_nonneg (hs c hc)
  have hF4 := (okB_iff.1 hm.1).2.2.1
  obtain ⟨x, hx, hx1⟩ := place_mod a (sumOf fromC cs).toNat (by omega)
  obtain ⟨y, hy, hy1⟩ := place_mod b (sumOf fromC cs).toNat (by omega)
  rw [Int.toNat_of_nonneg hF0] at hx hy
  have hX1 : (x : Int) ≤ sumOf fromC cs := by omega
  have hY1 : (y : Int) ≤ sumOf fromC cs := by omega
  have hX0 : (0 : Int) ≤ x := by omega
  have hY0 : (0 : Int) ≤ y := by omega
  have HX := Lib.hid hx; have HY := Lib.hid hy
  have HM := Lib.hid hm
  clear hx hy hx1 hy1 hr
  generalize (x : Int) = X at *
  generalize (y : Int) = Y at *
  obtain ⟨lo, hlo⟩ : ∃ lo, min X Y = lo := ⟨_, rfl⟩
  obtain ⟨hi, hhi⟩ : ∃ hi, max X Y = hi := ⟨_, rfl⟩
  have l0 : 0 ≤ lo := by omega
  have l1 : lo ≤ hi := by omega
  have l2 : hi ≤ sumOf fromC cs := by omega
  have p0 := (mov_bounds false cs lo hs l0).1
  have pq := mov_rises false cs lo hi hs l0 l1
  have qr := mov_behind cs hi hs (by omega)
  have rt := (mov_bounds true cs hi hs (by omega)).2
  have P1 : Hid (MoveP cs lo) := Lib.hid ⟨hm, l0, by omega⟩
  have P2 : Hid (MoveP cs hi) := Lib.hid ⟨hm, by omega, l2⟩
  clear hm hs
  generalize hF : sumOf fromC cs = F at *
  have HF := Lib.hid hF
  generalize hT : sumOf toC cs = T at *
  have HT := Lib.hid hT
  generalize hP : movL false lo cs = P at *
  generalize hQ : movL false hi cs = Q at *
  generalize hRR : movL true hi cs = RR at *
  have EP := Lib.hid hP; have EQ := Lib.hid hQ; have ER := Lib.hid hRR
  clear hF hT hP hQ hRR
  go_enter Try.func4, Try.ntmps4
  go_wp2_with fail
  refine (awake_true _).mono ?_
  rintro e w1 ⟨rfl, hb1⟩
  have B1 := Lib.hid hb1; clear hb1
  go_wp2_with fail
  refine (rlengths_any _ _ _ _ (R.out.below B1.out)).mono ?_
  rintro e w2 ⟨hb2, ⟨rfl, -⟩ | ⟨-, hno⟩⟩
  rotate_left
  · exact absurd HM.out hno
  have B2 := Lib.hid (B1.out.trans (hb2.mono B1.out.size)); clear hb2 B1
  rw [HF.out, HT.out]
  go_wp2_with fail
  go_quiet (fail)
  rw [HX.out, HY.out]
  have B3 : Hid (Below w.heap.size w (w2.drewN nq)) := Lib.hid (B2.out.trans ((dr_below w2 nq).mono B2.out.size))
  generalize w2.drewN nq = w3 at B3 ⊢
  clear B2
  go_wp2_with fail
  refine (move_yesL _ cs _ _ rfl lo P false _ (R.out.below B3.out) P1.out EP.out).mono ?_
  rintro e w4 ⟨rfl, hb4⟩
  have B4 := Lib.hid (B3.out.trans (hb4.mono B3.out.size)); clear hb4 B3
  go_wp2_with fail
  refine (move_yesL _ cs _ _ rfl hi Q false _ (R.out.below B4.out) P2.out EQ.out).mono ?_
  rintro e w5 ⟨rfl, hb5⟩
  have B5 := Lib.hid (B4.out.trans (hb5.mono B4.out.size)); clear hb5 B4
  go_wp2_with fail
  refine (move_yesL _ cs _ _ rfl hi RR true _ (R.out.below B5.out) P2.out ER.out).mono ?_
  rintro e w6 ⟨rfl, hb6⟩
  have B6 := Lib.hid (B5.out.trans (hb6.mono B5.out.size)); clear hb6 B5
  go_wp2_with (go_at_call 11; refine (num_any _ _).mono ?_; rintro e w' ⟨rfl, rfl⟩)
  go_ret
  exact ⟨rfl, B6.out⟩

set_option maxRecDepth 100000 in
set_option maxHeartbeats 2000000 in
theorem rises_no (p : Option Addr) (cs : List C) (cap : Nat) (a b : Int) (w : World) (hr : RowC w p cs) (hm : ¬ MayP cs) :
    Calls Try.prog 4 #[.slice p cs.length cap, .int .i64 a, .int .i64 b] w fun e w' => e = .returned (.bool true) ∧ Below w.heap.size w w' := by
  have R := Lib.hid hr; have HM := Lib.hid hm; clear hr hm
  go_enter Try.func4, Try.ntmps4
  go_wp2_with fail
  refine (awake_true _).mono ?_
  rintro e w1 ⟨rfl, hb1⟩
  have B1 := Lib.hid hb1; clear hb1
  go_wp2_with fail
  refine (rlengths_any _ _ _ _ (R.out.below B1.out)).mono ?_
  rintro e w2 ⟨hb2, ⟨-, hyes⟩ | ⟨rfl, -⟩⟩
  · exact absurd hyes HM.out
  have B2 := Lib.hid (B1.out.trans (hb2.mono B1.out.size)); clear hb2 B1
  go_wp2_with fail
  refine (move_noL _ cs _ _ rfl 0 true _ (R.out.below B2.out) (fun h => HM.out h.1)).mono ?_
  rintro e w3 ⟨rfl, hb3⟩
  have B3 := Lib.hid (B2.out.trans (hb3.mono B2.out.size)); clear hb3 B2
  go_wp2_with (go_at_call 11; refine (num_any _ _).mono ?_; rintro e w' ⟨rfl, rfl⟩)
  go_ret
  exact ⟨rfl, B3.out⟩

theorem rises_true (p : Option Addr) (cs : List C) (cap : Nat) (a b : Int) (w : World) (hr : RowC w p cs) :
    Calls Try.prog 4 #[.slice p cs.length cap, .int .i64 a, .int .i64 b] w fun e w' => e = .returned (.bool true) ∧ Below w.heap.size w w' := by
  by_cases hm : MayP cs
  · exact rises_yes p cs cap a b w hr hm
  · exact rises_no p cs cap a b w hr hm

end Go.Proofs.Ytlfgleickaaicaa
