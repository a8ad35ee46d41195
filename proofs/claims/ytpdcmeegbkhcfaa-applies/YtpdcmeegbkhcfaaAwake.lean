/-
  Apply where it answers a text, and where it does not; the walk of awake: it answers true. Conditions: as the theorems' premises say.
-/
import Derived.Test.YtpdcmeegbkhcfaaApp
namespace Go.Proofs.Ytpdcmeegbkhcfaa
open Go.RowKit

theorem apply_yesL (s : ByteArray) (p : Option Addr) (cs : List C) (L cap : Nat) (hL : cs.length = L) (w : World) (hr : RowC w p cs) (hm : MayP cs) (hf : sumOf fromC cs = s.size) (X : ByteArray) (hX : appB s 0 cs = X) :
    Calls Try.prog 8 #[.string s, .slice p L cap] w fun e w' => e = .returned (.tuple #[.string X, .int .i64 0]) ∧ Below w.heap.size w w' := by
  subst hL; subst hX
  refine (apply_any s p cs cap w hr).mono ?_
  rintro e w' ⟨hb, ⟨rfl, -⟩ | ⟨-, hno⟩⟩
  · exact ⟨rfl, hb⟩
  · exact absurd ⟨hm, hf⟩ hno
theorem apply_noL (s : ByteArray) (p : Option Addr) (cs : List C) (L cap : Nat) (hL : cs.length = L) (w : World) (hr : RowC w p cs) (hno : ¬ (MayP cs ∧ sumOf fromC cs = s.size)) :
    Calls Try.prog 8 #[.string s, .slice p L cap] w fun e w' => e = .returned (.tuple #[.string ⟨#[]⟩, .int .i64 300]) ∧ Below w.heap.size w w' := by
  subst hL
  refine (apply_any s p cs cap w hr).mono ?_
  rintro e w' ⟨hb, ⟨-, hyes⟩ | ⟨rfl, -⟩⟩
  · exact absurd hyes hno
  · exact ⟨rfl, hb⟩

theorem may_of {cs : List C} (h : okB cs = true) (hn : normOf cs = cs) : MayP cs := ⟨h, (normOf_iff (soft_all (okB_iff.1 h).2.1)).1 hn⟩

def abc : List C := [⟨0, 2, e0⟩, ⟨1, 0, ⟨#[120, 121]⟩⟩, ⟨2, 3, e0⟩, ⟨0, 1, e0⟩]
theorem abc_may : MayP abc := may_of (by decide +kernel) (by kernel_rfl)
theorem abc_from : sumOf fromC abc = (ByteArray.mk #[97, 98, 99, 100, 101, 102]).size := by decide +kernel
theorem abc_app : appB ⟨#[97, 98, 99, 100, 101, 102]⟩ 0 abc = ⟨#[97, 98, 120, 121, 102]⟩ := by kernel_rfl
theorem two_no : ¬ (MayP [⟨0, 2, e0⟩] ∧ sumOf fromC [⟨0, 2, e0⟩] = (ByteArray.mk #[97, 98, 99]).size) := fun h => absurd h.2 (by decide +kernel)

set_option maxRecDepth 100000 in
set_option maxHeartbeats 1000000 in
theorem awake_true (w : World) : Calls Try.prog 12 #[] w fun e w' => e = .returned (.bool true) ∧ Below w.heap.size w w' := by
  go_enter Try.func12, Try.ntmps12
  go_wp2_with fail
  refine (apply_yesL _ _ abc 4 4 rfl _ (lit_row _ abc _ rfl) abc_may abc_from _ abc_app).mono ?_
  rintro e w2 ⟨rfl, hb2⟩
  have B2 : Hid (Below w.heap.size w w2) := Lib.hid (((Below.refl _ _).alloc (Nat.le_refl _) _).trans (hb2.mono (by simp)))
  clear hb2
  go_wp2_with fail
  refine (apply_noL _ _ [⟨0, 2, e0⟩] 1 1 rfl _ (lit_row _ [⟨0, 2, e0⟩] _ rfl) two_no).mono ?_
  rintro e w3 ⟨rfl, hb3⟩
  have hb3' := ((Below.refl w2.heap.size w2).alloc (Nat.le_refl _) _).trans (hb3.mono (by simp))
  have B3 := Lib.hid (B2.out.trans (hb3'.mono B2.out.size))
  clear hb3 hb3' B2
  go_wp2_with fail
  refine (apply_yesL _ none [] 0 0 rfl _ (nil_row _) lit0_may rfl ⟨#[]⟩ rfl).mono ?_
  rintro e w4 ⟨rfl, hb4⟩
  have B4 := Lib.hid (B3.out.trans (hb4.mono B3.out.size))
  clear hb4 B3
  go_wp2_with (first | (go_at_call 10; refine (num_any _ _).mono ?_; rintro e w' ⟨rfl, rfl⟩))
  go_ret
  exact ⟨rfl, B4.out⟩

end Go.Proofs.Ytpdcmeegbkhcfaa
