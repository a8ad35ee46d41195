/-
  The walk of add. Conditions: as the theorems' premises say.
-/
import Derived.Test.YtmlibmleamiljaaOwn
import Derived.BigQuiet
import Derived.Deep.RegionHeld3
import Derived.Deep.RegionLaw
import Derived.IntWalk
namespace Go.Proofs.Ytmlibmleamiljaa
open Go.RowKit

set_option maxHeartbeats 1000000 in
theorem add_none (base : Nat) (r : List C) (c : C) (v : Value) (w : World) (ho : Own w base v r) (hl : r.length ≤ 8192) (hc : Fit c) (h0 : c.sz = 0) :
    Calls Try.prog 28 #[v, c.val] w (AddPost base v r w) := by
  obtain ⟨p, cap, hv⟩ := ho.form
  have O := Lib.hid ho; clear ho
  subst hv
  obtain ⟨k, n, t⟩ := c
  obtain ⟨f1, f2, f3⟩ := hc
  dsimp only at f1 f2 f3
  have h00 : n + (t.size : Int) = 0 := h0
  have H0 := Lib.hid h00
  clear h0 h00
  unfold C.val
  dsimp only
  go_enter Try.func28, Try.ntmps28
  go_wp2_with (go_at_call 31; refine (size_any _ _ _ _ f1 f2 f3).mono ?_; rintro e w2 ⟨rfl, hb2⟩; rw [H0.out])
  go_ret
  have hb : Below w.heap.size w w2 := (((Below.refl _ _).alloc (Nat.le_refl _) _).trans (hb2.mono (by simp)))
  exact ⟨_, rfl, O.out.below hb, grown_of_below hb _, fun g h => .inl h⟩

set_option maxHeartbeats 1000000 in
theorem add_first (base : Nat) (c : C) (v : Value) (w : World) (ho : Own w base v []) (hbase : base ≤ w.heap.size) (hc : Fit c) (h0 : 0 < c.sz) :
    Calls Try.prog 28 #[v, c.val] w (AddPost base v [c] w) := by
  obtain ⟨i0, hi, hz0, hz1, hz2⟩ := info_parts info39
  obtain ⟨p, cap, hv⟩ := ho.form
  have O := Lib.hid ho; clear ho
  subst hv
  obtain ⟨k, n, t⟩ := c
  obtain ⟨f1, f2, f3⟩ := hc
  dsimp only at f1 f2 f3
  have h00 : ((n + (t.size : Int)) == 0) = false := beq_eq_false_iff_ne.2 (by unfold C.sz at h0; dsimp only at h0; omega)
  clear h0
  unfold C.val
  dsimp only [List.length_nil]
  go_enter Try.func28, Try.ntmps28
  go_wp2_with (go_at_call 31; refine (size_any _ _ _ _ f1 f2 f3).mono ?_; rintro e w2 ⟨rfl, hb2⟩)
  have X2 := Lib.hid ((Box.new w k n t).below hb2)
  clear hb2
  go_quiet (fail)
  have X3 := Lib.hid (X2.out.dr nq)
  generalize w2.drewN nq = w3 at X3 ⊢
  clear X2
  go_wp2_with (go_at_call 31; fail)
  go_quiet (fail)
  have X4 := Lib.hid (X3.out.dr nq)
  generalize w3.drewN nq = w4 at X4 ⊢
  clear X3
  obtain ⟨d0, d1, d2⟩ := X4.out.cells
  go_wp2_with (first | (go_at_call 33; refine (clone_any _ _ f3).mono ?_; rintro e w5 ⟨rfl, hb5⟩; clear d0 d1 d2; have X5 := Lib.hid (X4.out.below hb5); obtain ⟨d0, d1, d2⟩ := X5.out.cells; have d3 := X5.out.2.2.1 2; have B5 : Hid (∀ o, Below w.heap.size w ((w5.setCell ⟨w.heap.size, 2, none⟩ (.string t)).alloc o)) := Lib.hid (fun o => (X5.out.1.setCell (Nat.le_refl _) _).alloc (by have := X5.out.1.size; simpa using this) _); clear hb5) | (at_builtin; refine wpList_append_lies _ rfl _ _ 22 rfl base 38 i0 _ 3 32 Try.underlying22 hi hz0 hz1 hz2 rfl (by decide) (.slice p 0 cap) 0 [] rfl (O.out.below (B5.out _)) ⟨w5.heap.size, 0, none⟩ 1 1 (C.cells ⟨k, n, t⟩) rfl rfl (three_new (by simp) ⟨k, n, t⟩) (cells_one _) (by decide) (by unfold maxLen; omega) (by omega) (Nat.le_trans hbase (B5.out _).size) (w5.heap.size + 1) (by simp) ?_; intro g cap' w6 hown hgrow hgg hlt))
  go_ret
  exact AddPost.of_append (cs := []) (B5.out _) rfl hown hgrow (by simpa using hgg)

end Go.Proofs.Ytmlibmleamiljaa
