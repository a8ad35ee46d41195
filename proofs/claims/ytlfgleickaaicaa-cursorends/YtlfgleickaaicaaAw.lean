/-
  The walk of awake: it answers true. No conditions.
-/
import Derived.Test.YtlfgleickaaicaaMov
namespace Go.Proofs.Ytlfgleickaaicaa
open Go.RowKit

def aw : List C := [⟨0, 2, e0⟩, ⟨1, 0, ⟨#[120, 121]⟩⟩, ⟨2, 2, e0⟩, ⟨0, 1, e0⟩]
theorem aw_may : MayP aw := may_of (by decide +kernel) (by kernel_rfl)
theorem aw_p (n : Int) (h0 : 0 ≤ n) (h1 : n ≤ 5) : MoveP aw n := ⟨aw_may, h0, by rw [show sumOf fromC aw = 5 by decide +kernel]; exact h1⟩
theorem aw_no : ¬ MoveP aw 6 := fun h => absurd h.2.2 (by decide +kernel)
theorem aw_a : movL false 2 aw = 2 := by decide +kernel
theorem aw_b : movL true 2 aw = 4 := by decide +kernel
theorem aw_c : movL false 3 aw = 4 := by decide +kernel
theorem aw_d : movL false 5 aw = 5 := by decide +kernel

theorem aw_lit (w : World) : RowC (w.alloc (.cells (cellsC aw).toArray 40)) (some ⟨w.heap.size, 0, none⟩) aw ∧ Below w.heap.size w (w.alloc (.cells (cellsC aw).toArray 40)) :=
  ⟨lit_row w aw _ rfl, (Below.refl w.heap.size w).alloc (Nat.le_refl _) _⟩

set_option maxRecDepth 100000 in
set_option maxHeartbeats 4000000 in
theorem awake_true (w : World) : Calls Try.prog 13 #[] w fun e w' => e = .returned (.bool true) ∧ Below w.heap.size w w' := by
  go_enter Try.func13, Try.ntmps13
  go_wp2_with fail
  show Calls Try.prog 9 _ (w.alloc (.cells (cellsC aw).toArray 40)) _
  have F := Lib.hid (aw_lit w)
  generalize w.alloc (.cells (cellsC aw).toArray 40) = W at F ⊢
  refine (move_yesL _ aw 4 _ rfl 2 2 false _ F.out.1 (aw_p 2 (by omega) (by omega)) aw_a).mono ?_
  rintro e w1 ⟨rfl, hb1⟩
  have B1 := Lib.hid hb1; clear hb1
  go_wp2_with fail
  refine (move_yesL _ aw 4 _ rfl 2 4 true _ (F.out.1.below B1.out) (aw_p 2 (by omega) (by omega)) aw_b).mono ?_
  rintro e w2 ⟨rfl, hb2⟩
  have B2 := Lib.hid (B1.out.trans (hb2.mono B1.out.size)); clear hb2 B1
  go_wp2_with fail
  refine (move_yesL _ aw 4 _ rfl 3 4 false _ (F.out.1.below B2.out) (aw_p 3 (by omega) (by omega)) aw_c).mono ?_
  rintro e w3 ⟨rfl, hb3⟩
  have B3 := Lib.hid (B2.out.trans (hb3.mono B2.out.size)); clear hb3 B2
  go_wp2_with fail
  refine (move_yesL _ aw 4 _ rfl 5 5 false _ (F.out.1.below B3.out) (aw_p 5 (by omega) (by omega)) aw_d).mono ?_
  rintro e w4 ⟨rfl, hb4⟩
  have B4 := Lib.hid (B3.out.trans (hb4.mono B3.out.size)); clear hb4 B3
  go_wp2_with fail
  refine (move_noL _ aw 4 _ rfl 6 false _ (F.out.1.below B4.out) aw_no).mono ?_
  rintro e w5 ⟨rfl, hb5⟩
  have B5 := Lib.hid (B4.out.trans (hb5.mono B4.out.size)); clear hb5 B4
  go_wp2_with (go_at_call 11; refine (num_any _ _).mono ?_; rintro e w' ⟨rfl, rfl⟩)
  go_ret
  exact ⟨rfl, F.out.2.trans (B5.out.mono F.out.2.size)⟩

end Go.Proofs.Ytlfgleickaaicaa
