/-
  The walk of awake: it answers true. No condition.
-/
import Derived.Test.YtiplhhldgkgbhaaW10
namespace Go.Proofs.Ytiplhhldgkgbhaa
open Go.RowKit

theorem lit_row (w : World) (cs : List C) (xs : Array Value) (hx : xs = (cellsC cs).toArray) : RowC (w.alloc (.cells xs 39)) (some ⟨w.heap.size, 0, none⟩) cs := by
  intro i c hi
  obtain ⟨h0, h1, h2⟩ := cellsC_get hi
  subst hx
  refine ⟨w.heap.size, 0, rfl, ?_, ?_, ?_⟩ <;> rw [World.cell?_alloc_mark, Nat.zero_add] <;> simpa

def e0 : ByteArray := ⟨#[]⟩
def lit1 : List C := [⟨0, 2, e0⟩, ⟨2, 1, e0⟩, ⟨1, 0, ⟨#[97]⟩⟩, ⟨0, 0, e0⟩, ⟨1, 0, ⟨#[98]⟩⟩, ⟨2, 3, e0⟩]
def lit2 : List C := [⟨0, 2, e0⟩, ⟨1, 0, ⟨#[97, 98]⟩⟩, ⟨2, 4, e0⟩]
theorem lit1_ok : okB lit1 = true := by decide +kernel
theorem lit1_norm : normOf lit1 = lit2 := by kernel_rfl
theorem lit2_may : MayP lit2 := by
  rw [← lit1_norm]
  exact ⟨okB_normOf lit1_ok, norm_normOf (soft_all (okB_iff.1 lit1_ok).2.1)⟩
theorem lit3_may : ¬ MayP [⟨0, 0, e0⟩] := fun h => (h.2 0 _ rfl).1 rfl
theorem lit4_no : okB [⟨0, -1, e0⟩] = false := by decide +kernel
theorem lit5_may : ¬ MayP [⟨0, 1, e0⟩, ⟨0, 1, e0⟩] := fun h => ((h.2 1 _ rfl).2 _ (by omega) rfl).1 rfl
theorem lit0_may : MayP [] := ⟨by decide, fun i c h => by simp at h⟩
theorem nil_row (w : World) : RowC w none [] := fun i c h => by simp at h

set_option maxRecDepth 100000 in
set_option maxHeartbeats 1000000 in
theorem awake_true (w : World) : Calls Try.prog 19 #[] w fun e w' => e = .returned (.bool true) ∧ Below w.heap.size w w' := by
  go_enter Try.func19, Try.ntmps19
  go_wp2_with fail
  refine (normal_any _ lit1 _ _ (lit_row _ lit1 _ rfl)).mono ?_
  rintro e w2 ⟨hb2, ⟨-, v2, rfl, hown⟩ | ⟨hno, -⟩⟩
  rotate_left
  · rw [lit1_ok] at hno; cases hno
  rw [lit1_norm] at hown
  obtain ⟨p, cap, hv⟩ := hown.form
  subst hv
  have R2 : Hid (RowC w2 p lit2) := Lib.hid hown.row
  have B2 : Hid (Below w.heap.size w w2) := Lib.hid (((Below.refl _ _).alloc (Nat.le_refl _) _).trans (hb2.mono (by simp)))
  have LL : Hid (lit2.length = 3) := Lib.hid rfl
  clear hb2 hown
  go_wp2_with fail
  refine (lengths_any p lit2 cap _ R2.out).mono ?_
  rintro e w3 ⟨hb3, ⟨rfl, -⟩ | ⟨-, hno⟩⟩
  rotate_left
  · exact absurd lit2_may hno
  have R3 := Lib.hid (R2.out.below hb3)
  have B3 := Lib.hid (B2.out.trans (hb3.mono B2.out.size))
  clear hb3 R2 B2
  rw [show sumOf fromC lit2 = 6 by decide +kernel, show sumOf toC lit2 = 4 by decide +kernel]
  go_wp2_with fail
  refine (lengths_any _ [⟨0, 0, e0⟩] 1 _ (lit_row _ [⟨0, 0, e0⟩] _ rfl)).mono ?_
  rintro e w4 ⟨hb4, ⟨-, hyes⟩ | ⟨rfl, -⟩⟩
  · exact absurd hyes lit3_may
  have hb4' := ((Below.refl w3.heap.size w3).alloc (Nat.le_refl _) _).trans (hb4.mono (by simp))
  have R4 := Lib.hid (R3.out.below hb4')
  have B4 := Lib.hid (B3.out.trans (hb4'.mono B3.out.size))
  clear hb4 hb4' R3 B3
  go_wp2_with fail
  refine (normal_any _ [⟨0, -1, e0⟩] 1 _ (lit_row _ [⟨0, -1, e0⟩] _ rfl)).mono ?_
  rintro e w5 ⟨hb5, ⟨hyes, -⟩ | ⟨-, rfl⟩⟩
  · rw [lit4_no] at hyes; cases hyes
  have hb5' := ((Below.refl w4.heap.size w4).alloc (Nat.le_refl _) _).trans (hb5.mono (by simp))
  have R5 := Lib.hid (R4.out.below hb5')
  have B5 := Lib.hid (B4.out.trans (hb5'.mono B4.out.size))
  clear hb5 hb5' R4 B4
  go_wp2_with fail
  refine (same_any p _ lit2 lit2 cap 3 _ (R5.out.below ((Below.refl _ _).alloc (Nat.le_refl _) _)) (lit_row _ lit2 _ rfl) (by decide)).mono ?_
  rintro e w6 ⟨hb6, ⟨rfl, -⟩ | ⟨-, hno⟩⟩
  rotate_left
  · exact absurd rfl hno
  have hb6' := ((Below.refl w5.heap.size w5).alloc (Nat.le_refl _) _).trans (hb6.mono (by simp))
  have B6 := Lib.hid (B5.out.trans (hb6'.mono B5.out.size))
  clear hb6 hb6' R5 B5
  go_wp2_with (first | (go_at_call 14; refine (num_any _ _).mono ?_; rintro e w' ⟨rfl, rfl⟩))
  refine (may_any none [] 0 _ (nil_row _)).mono ?_
  rintro e w7 ⟨hb7, ⟨rfl, -⟩ | ⟨-, hno⟩⟩
  rotate_left
  · exact absurd lit0_may hno
  have B7 := Lib.hid (B6.out.trans (hb7.mono B6.out.size))
  clear hb7 B6
  go_wp2_with fail
  refine (may_any _ [⟨0, 1, e0⟩, ⟨0, 1, e0⟩] 2 _ (lit_row _ [⟨0, 1, e0⟩, ⟨0, 1, e0⟩] _ rfl)).mono ?_
  rintro e w8 ⟨hb8, ⟨-, hyes⟩ | ⟨rfl, -⟩⟩
  · exact absurd hyes lit5_may
  have hb8' := ((Below.refl w7.heap.size w7).alloc (Nat.le_refl _) _).trans (hb8.mono (by simp))
  have B8 := Lib.hid (B7.out.trans (hb8'.mono B7.out.size))
  clear hb8 hb8' B7
  go_wp2_with fail
  go_ret
  exact ⟨rfl, B8.out⟩

end Go.Proofs.Ytiplhhldgkgbhaa
