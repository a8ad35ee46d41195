/-
  The walks of the reference's compMay, size and the small ways of its Add. Conditions: as the theorems' premises say.
-/
import Derived.Test.YtmlibmleamiljaaW12
namespace Go.Proofs.Ytmlibmleamiljaa
open Go.RowKit

set_option maxHeartbeats 400000 in
theorem rsize_any (k n : Int) (t : ByteArray) (w : World) (hs : C.Soft ⟨k, n, t⟩) : Calls Try.prog 25 #[.agg #[.int .i64 k, .int .i64 n, .string t]] w fun e w' => e = .returned (.int .i64 (n + t.size)) ∧ Below w.heap.size w w' := by
  rcases hs with ⟨hk, h1, h2⟩ | ⟨hk, h1⟩ <;> dsimp only at hk h1
  · dsimp only at h2
    have hk1 : (k == 1) = false := beq_eq_false_iff_ne.2 (by omega)
    have hz : n + (t.size : Int) = n := by omega
    have HZ := Lib.hid hz
    clear hk h1 h2 hz
    go_enter Try.func25, Try.ntmps25
    go_wp2
    go_ret
    exact ⟨by rw [HZ.out]; rfl, (Below.refl _ _).alloc (Nat.le_refl _) _⟩
  · subst hk h1
    go_enter Try.func25, Try.ntmps25
    go_wp2
    go_ret
    exact ⟨by simp, (Below.refl _ _).alloc (Nat.le_refl _) _⟩

set_option maxHeartbeats 1000000 in
theorem radd_none (base : Nat) (r : List C) (c : C) (v : Value) (w : World) (ho : Own w base v r) (hc : c.Soft) (h0 : c.sz = 0) :
    Calls Try.prog 20 #[v, c.val] w (AddPost base v r w) := by
  obtain ⟨p, cap, hv⟩ := ho.form
  have O := Lib.hid ho; clear ho
  subst hv
  obtain ⟨k, n, t⟩ := c
  have HS := Lib.hid hc
  have h00 : n + (t.size : Int) = 0 := h0
  have H0 := Lib.hid h00
  clear h0 h00 hc
  unfold C.val
  dsimp only
  go_enter Try.func20, Try.ntmps20
  go_wp2_with (go_at_call 25; refine (rsize_any _ _ _ _ HS.out).mono ?_; rintro e w2 ⟨rfl, hb2⟩; rw [H0.out])
  go_ret
  have hb : Below w.heap.size w w2 := (((Below.refl _ _).alloc (Nat.le_refl _) _).trans (hb2.mono (by simp)))
  exact ⟨_, rfl, O.out.below hb, grown_of_below hb _, fun g h => .inl h⟩

set_option maxHeartbeats 1000000 in
theorem radd_first (base : Nat) (c : C) (v : Value) (w : World) (ho : Own w base v []) (hbase : base ≤ w.heap.size) (hf : Fit c) (hc : c.Soft) (h0 : 0 < c.sz) :
    Calls Try.prog 20 #[v, c.val] w (AddPost base v [c] w) := by
  obtain ⟨i0, hi, hz0, hz1, hz2⟩ := info_parts info39
  obtain ⟨p, cap, hv⟩ := ho.form
  have O := Lib.hid ho; clear ho
  subst hv
  obtain ⟨k, n, t⟩ := c
  have HS := Lib.hid hc
  obtain ⟨f1, f2, f3⟩ := hf
  dsimp only at f1 f2 f3
  have h00 : ((n + (t.size : Int)) == 0) = false := beq_eq_false_iff_ne.2 (by unfold C.sz at h0; dsimp only at h0; omega)
  clear h0 hc
  unfold C.val
  dsimp only [List.length_nil]
  go_enter Try.func20, Try.ntmps20
  go_wp2_with (go_at_call 25; refine (rsize_any _ _ _ _ HS.out).mono ?_; rintro e w2 ⟨rfl, hb2⟩)
  have X2 := Lib.hid ((Box.new w k n t).below hb2)
  clear hb2
  go_quiet (fail)
  have X3 := Lib.hid (X2.out.dr nq)
  generalize w2.drewN nq = w3 at X3 ⊢
  clear X2
  obtain ⟨d0, d1, d2⟩ := X3.out.cells
  have B3 : Hid (∀ o, Below w.heap.size w (w3.alloc o)) := Lib.hid (fun o => X3.out.1.alloc X3.out.1.size o)
  go_wp2_with (at_builtin; refine wpList_append_lies _ rfl _ _ 22 rfl base 38 i0 _ 3 32 Try.underlying22 hi hz0 hz1 hz2 rfl (by decide) (.slice p 0 cap) 0 [] rfl (O.out.below (B3.out _)) ⟨w3.heap.size, 0, none⟩ 1 1 (C.cells ⟨k, n, t⟩) rfl rfl (three_new rfl ⟨k, n, t⟩) (cells_one _) (by decide) (by unfold maxLen; omega) (by omega) (Nat.le_trans hbase (B3.out _).size) (w3.heap.size + 1) (by simp) ?_; intro g cap' w6 hown hgrow hgg hlt)
  go_ret
  exact AddPost.of_append (cs := []) (B3.out _) rfl hown hgrow (by simpa using hgg)

end Go.Proofs.Ytmlibmleamiljaa
