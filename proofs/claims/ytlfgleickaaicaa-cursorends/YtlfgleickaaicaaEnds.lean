/-
  The walk of the law CursorEnds. Conditions: as the theorem's premises say.
-/
import Derived.Test.YtlfgleickaaicaaAw
namespace Go.Proofs.Ytlfgleickaaicaa
open Go.RowKit

set_option maxHeartbeats 2000000 in
theorem ends_true (p : Option Addr) (cs : List C) (cap : Nat) (w : World) (hr : RowC w p cs) :
    Calls Try.prog 7 #[.slice p cs.length cap] w fun e w' => e = .returned (.bool true) ∧ Below w.heap.size w w' := by
  have R := Lib.hid hr; clear hr
  go_enter Try.func7, Try.ntmps7
  go_wp2_with fail
  refine (awake_true _).mono ?_
  rintro e w1 ⟨rfl, hb1⟩
  have B1 := Lib.hid hb1; clear hb1
  go_wp2_with fail
  refine (rlengths_any _ _ _ _ (R.out.below B1.out)).mono ?_
  rintro e w2 ⟨hb2, ⟨rfl, hm⟩ | ⟨rfl, -⟩⟩
  · have B2 := Lib.hid (B1.out.trans (hb2.mono B1.out.size)); clear hb2 B1
    have HM := Lib.hid hm
    have hf0 := sumOf_nonneg (f := fromC) (cs := cs) fun c hc => from_nonneg (may_soft hm c hc)
    have E := Lib.hid (mov_end cs (may_soft hm))
    have Z := Lib.hid (mov_zero cs (may_soft hm))
    clear hm
    generalize hF : sumOf fromC cs = F at *
    generalize hT : sumOf toC cs = T at *
    have HF := Lib.hid hF; clear hF hT
    go_wp2_with fail
    refine (move_yesL _ cs _ _ rfl 0 0 false _ (R.out.below B2.out) ⟨HM.out, by omega, by rw [HF.out]; exact hf0⟩ Z.out).mono ?_
    rintro e w3 ⟨rfl, hb3⟩
    have B3 := Lib.hid (B2.out.trans (hb3.mono B2.out.size)); clear hb3 B2
    go_wp2_with fail
    refine (move_yesL _ cs _ _ rfl F T true _ (R.out.below B3.out) ⟨HM.out, hf0, by rw [HF.out]; omega⟩ E.out).mono ?_
    rintro e w4 ⟨rfl, hb4⟩
    have B4 := Lib.hid (B3.out.trans (hb4.mono B3.out.size)); clear hb4 B3
    go_wp2_with (go_at_call 11; refine (num_any _ _).mono ?_; rintro e w' ⟨rfl, rfl⟩)
    go_ret
    exact ⟨rfl, B4.out⟩
  · have B2 := Lib.hid (B1.out.trans (hb2.mono B1.out.size)); clear hb2 B1
    go_wp2_with fail
    go_ret
    exact ⟨rfl, B2.out⟩

end Go.Proofs.Ytlfgleickaaicaa
