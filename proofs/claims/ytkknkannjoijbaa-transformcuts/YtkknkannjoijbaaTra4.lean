/-
  The walk of awake: it answers true. No conditions.
-/
import Derived.Test.YtkknkannjoijbaaTra3
import Derived.Test.YtkknkannjoijbaaW11
namespace Go.Proofs.Ytkknkannjoijbaa
open Go.RowKit

def aw1 : List C := [⟨0, 1, e0⟩, ⟨1, 0, ⟨#[120]⟩⟩, ⟨0, 2, e0⟩]
def aw2 : List C := [⟨0, 1, e0⟩, ⟨1, 0, ⟨#[121, 121]⟩⟩, ⟨2, 2, e0⟩]
def awQ : List C := [⟨0, 2, e0⟩, ⟨1, 0, ⟨#[121, 121]⟩⟩, ⟨2, 2, e0⟩]
def awR : List C := [⟨0, 3, e0⟩, ⟨1, 0, ⟨#[120]⟩⟩]
def awS : List C := [⟨0, 1, e0⟩, ⟨1, 0, ⟨#[121, 121]⟩⟩, ⟨0, 1, e0⟩, ⟨2, 2, e0⟩]
theorem aw1_may : MayP aw1 := may_of (by decide +kernel) (by kernel_rfl)
theorem aw2_may : MayP aw2 := may_of (by decide +kernel) (by kernel_rfl)
theorem aw12 (f : Bool) : TraP f aw1 aw2 := tra_may aw1_may aw2_may (by decide +kernel) (by decide +kernel) (by decide +kernel)
theorem aw_P : normOf (traP true aw1 aw2) = aw1 := by kernel_rfl
theorem aw_Q : normOf (traQ true aw1 aw2) = awQ := by kernel_rfl
theorem aw_R : normOf (traP false aw1 aw2) = awR := by kernel_rfl
theorem aw_S : normOf (traQ false aw1 aw2) = awS := by kernel_rfl
theorem aw_no : ¬ TraP true aw1 [] := fun h => absurd h.2.2.1 (by decide +kernel)

theorem aw_lits2 (w : World) : (RowC ((w.alloc (.cells (cellsC aw1).toArray 41)).alloc (.cells (cellsC aw2).toArray 41)) (some ⟨w.heap.size, 0, none⟩) aw1 ∧
    RowC ((w.alloc (.cells (cellsC aw1).toArray 41)).alloc (.cells (cellsC aw2).toArray 41)) (some ⟨w.heap.size + 1, 0, none⟩) aw2) ∧
    Below w.heap.size w ((w.alloc (.cells (cellsC aw1).toArray 41)).alloc (.cells (cellsC aw2).toArray 41)) := by
  have B1 := (Below.refl w.heap.size w).alloc (Nat.le_refl _) (.cells (cellsC aw1).toArray 41)
  have R1 := lit_row w aw1 _ rfl
  have s1 : (w.alloc (.cells (cellsC aw1).toArray 41)).heap.size = w.heap.size + 1 := by simp
  generalize w.alloc (.cells (cellsC aw1).toArray 41) = w1 at *
  have B2 := (Below.refl w1.heap.size w1).alloc (Nat.le_refl _) (.cells (cellsC aw2).toArray 41)
  have R2 := lit_row w1 aw2 _ rfl
  rw [s1] at R2
  exact ⟨⟨R1.below B2, R2⟩, B1.trans (B2.mono B1.size)⟩
/-- A row against a literal that is the same. -/
theorem same_lit (p : Option Addr) (cs : List C) (n cap cap2 : Nat) (hn : cs.length = n) (hl : cs.length ≤ 4096) (xs : Array Value) (hx : xs = (cellsC cs).toArray) (w : World) (hr : RowC w p cs) :
    Calls Try.prog 13 #[.slice p n cap, .slice (some ⟨w.heap.size, 0, none⟩) n cap2] (w.alloc (.cells xs 41)) fun e w' => e = .returned (.bool true) ∧ Below w.heap.size w w' := by
  subst hn
  have hb := (Below.refl w.heap.size w).alloc (Nat.le_refl _) (.cells xs 41)
  refine (same_any p _ cs cs cap cap2 _ (hr.below hb) (lit_row w cs xs hx) (by omega)).mono ?_
  rintro e w4 ⟨hb4, ⟨rfl, -⟩ | ⟨-, hno⟩⟩
  · exact ⟨rfl, hb.trans (hb4.mono hb.size)⟩
  · exact absurd rfl hno

set_option maxRecDepth 100000 in
set_option maxHeartbeats 4000000 in
theorem awake_true (w : World) : Calls Try.prog 17 #[] w fun e w' => e = .returned (.bool true) ∧ Below w.heap.size w w' := by
  go_enter Try.func17, Try.ntmps17
  go_wp2_with fail
  show Calls Try.prog 11 _ ((w.alloc (.cells (cellsC aw1).toArray 41)).alloc (.cells (cellsC aw2).toArray 41)) _
  have F := Lib.hid (aw_lits2 w)
  generalize (w.alloc (.cells (cellsC aw1).toArray 41)).alloc (.cells (cellsC aw2).toArray 41) = W at F ⊢
  refine (transform_yesL _ _ aw1 aw2 aw1 awQ true 3 3 3 3 rfl rfl _ F.out.1.1 F.out.1.2 (by omega) (by omega) (aw12 _) aw_P aw_Q).mono ?_
  rintro e w1 ⟨p1, cap1, q1, cap2, rfl, ho1, hu1, hb1⟩
  have O1 := Lib.hid ho1; have U1 := Lib.hid hu1; have B1 := Lib.hid hb1
  clear ho1 hu1 hb1
  go_wp2_with fail
  refine (transform_yesL _ _ aw1 aw2 awR awS false 3 3 3 3 rfl rfl _ (F.out.1.1.below B1.out) (F.out.1.2.below B1.out) (by omega) (by omega) (aw12 _) aw_R aw_S).mono ?_
  rintro e w2 ⟨p2, cap3, q2, cap4, rfl, ho2, hu2, hb2⟩
  have O2 := Lib.hid ho2; have U2 := Lib.hid hu2
  have B2 := Lib.hid (B1.out.trans (hb2.mono B1.out.size)); have O12 := Lib.hid (O1.out.below hb2); have U12 := Lib.hid (U1.out.below hb2)
  clear ho2 hu2 hb2 O1 U1 B1
  go_wp2_with fail
  refine (transform_noL _ _ aw1 [] true 3 0 3 0 rfl rfl _ (F.out.1.1.below B2.out) (nil_row _) (by omega) (by omega) aw_no).mono ?_
  rintro e w3 ⟨rfl, hb3⟩
  have O3 := Lib.hid (O2.out.below hb3).row; have U3 := Lib.hid (U2.out.below hb3).row; have O13 := Lib.hid (O12.out.below hb3).row; have U13 := Lib.hid (U12.out.below hb3).row
  have B3 : Hid (Below w.heap.size w w3) := Lib.hid ((F.out.2.trans (B2.out.mono F.out.2.size)).trans (hb3.mono (Nat.le_trans F.out.2.size B2.out.size)))
  clear hb3 O2 U2 O12 U12 B2 F
  go_wp2_with fail
  refine (same_lit _ aw1 _ _ _ rfl (by decide) _ rfl w3 O13.out).mono ?_
  rintro e w4 ⟨rfl, hb4⟩
  have O4 := Lib.hid (O3.out.below hb4); have U4 := Lib.hid (U3.out.below hb4); have U14 := Lib.hid (U13.out.below hb4)
  have B4 := Lib.hid (B3.out.trans (hb4.mono B3.out.size))
  clear hb4 O3 U3 O13 U13 B3
  go_wp2_with fail
  refine (same_lit _ awQ _ _ _ rfl (by decide) _ rfl w4 U14.out).mono ?_
  rintro e w5 ⟨rfl, hb5⟩
  have O5 := Lib.hid (O4.out.below hb5); have U5 := Lib.hid (U4.out.below hb5)
  have B5 := Lib.hid (B4.out.trans (hb5.mono B4.out.size))
  clear hb5 O4 U4 U14 B4
  go_wp2_with (go_at_call 14; refine (num_any _ _).mono ?_; rintro e w' ⟨rfl, rfl⟩)
  refine (same_lit _ awR _ _ _ rfl (by decide) _ rfl w5 O5.out).mono ?_
  rintro e w6 ⟨rfl, hb6⟩
  have U6 := Lib.hid (U5.out.below hb6)
  have B6 := Lib.hid (B5.out.trans (hb6.mono B5.out.size))
  clear hb6 O5 U5 B5
  go_wp2_with fail
  refine (same_lit _ awS _ _ _ rfl (by decide) _ rfl w6 U6.out).mono ?_
  rintro e w7 ⟨rfl, hb7⟩
  have B7 := Lib.hid (B6.out.trans (hb7.mono B6.out.size))
  clear hb7 U6 B6
  go_wp2_with (go_at_call 14; refine (num_any _ _).mono ?_; rintro e w' ⟨rfl, rfl⟩)
  go_ret
  exact ⟨rfl, B7.out⟩

end Go.Proofs.Ytkknkannjoijbaa
