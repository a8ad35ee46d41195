/-
  The walk of add, behind pieces. Conditions: as the theorems' premises say.
-/
import Derived.Test.YtmlibmleamiljaaW3
namespace Go.Proofs.Ytmlibmleamiljaa
open Go.RowKit

theorem follows_yes (a b : Int) (w : World) (h : fol a b) : Calls Try.prog 32 #[.int .i64 a, .int .i64 b] w fun e w' => e = .returned (.bool true) ∧ w' = w := by
  refine (follows_any a b w).mono ?_
  rintro e w' ⟨rfl, rfl⟩
  exact ⟨by rw [decide_eq_true h], rfl⟩
theorem follows_no (a b : Int) (w : World) (h : ¬ fol a b) : Calls Try.prog 32 #[.int .i64 a, .int .i64 b] w fun e w' => e = .returned (.bool false) ∧ w' = w := by
  refine (follows_any a b w).mono ?_
  rintro e w' ⟨rfl, rfl⟩
  exact ⟨by rw [decide_eq_false h], rfl⟩

set_option maxHeartbeats 1000000 in
theorem add_push (base : Nat) (cs : List C) (l c : C) (v : Value) (w : World) (ho : Own w base v (cs ++ [l])) (hbase : base ≤ w.heap.size) (hl : cs.length ≤ 8192) (hc : Fit c) (h0 : 0 < c.sz) (hk : l.k ≠ c.k) (hf : fol l.k c.k) :
    Calls Try.prog 28 #[v, c.val] w (AddPost base v (cs ++ [l] ++ [c]) w) := by
  obtain ⟨i0, hi, hz0, hz1, hz2⟩ := info_parts info39
  obtain ⟨g, cap, hv, hg0, hg1, hcap⟩ := ho.formS
  subst hv
  have hp := ho.piece (i := cs.length) (c := l) (by simp)
  have O := Lib.hid ho; clear ho
  generalize hm : cs.length = m at *
  have HM := Lib.hid hm; clear hm
  have OW : Hid (∀ W, Below w.heap.size w W → W.ownsRow base 38 3 (.slice (some ⟨g, 0, none⟩) (m + 1) cap) (m + 1) (cellsC (cs ++ [l]))) := Lib.hid (fun W hW => by
    have := O.out.below hW
    unfold Own at this
    rwa [List.length_append, List.length_singleton, HM.out] at this)
  obtain ⟨lk, ln, lt⟩ := l
  obtain ⟨k, n, t⟩ := c
  obtain ⟨f1, f2, f3⟩ := hc
  have hb1 : (lk == k) = false := beq_eq_false_iff_ne.2 hk
  have HF : Hid (fol lk k) := Lib.hid hf
  dsimp only at f1 f2 f3
  have h00 : ((n + (t.size : Int)) == 0) = false := beq_eq_false_iff_ne.2 (by unfold C.sz at h0; dsimp only at h0; omega)
  have PL := Lib.hid hp
  clear h0 hk hf hp
  unfold C.val
  dsimp only
  go_enter Try.func28, Try.ntmps28
  go_wp2_with (go_at_call 31; refine (size_any _ _ _ _ f1 f2 f3).mono ?_; rintro e w2 ⟨rfl, hb2⟩)
  have X2 := Lib.hid ((Box.new w k n t).below hb2)
  clear hb2
  obtain ⟨c0, c1, c2⟩ := PL.out.below X2.out.1
  dsimp only at c0 c1 c2
  obtain ⟨d0, d1, d2⟩ := X2.out.cells
  have hI0 : (0 : Int) ≤ (m : Int) := by omega
  have hI1 : (m : Int) < ((m + 1 : Nat) : Int) := by omega
  have hI2 : (m : Int) < (m : Int) + 1 := by omega
  have hI3 : m < m + 1 := by omega
  go_quiet (fail)
  have X3 := Lib.hid (X2.out.dr nq)
  clear c0 c1 c2 d0 d1 d2
  generalize w2.drewN nq = w3 at X3 ⊢
  clear X2
  obtain ⟨c0, c1, c2⟩ := PL.out.below X3.out.1
  dsimp only at c0 c1 c2
  obtain ⟨d0, d1, d2⟩ := X3.out.cells
  go_wp2_with (go_at_call 31; fail)
  go_quiet ((go_at_call 32; exact Calls.quiet_of_same (follows_yes _ _ _ HF.out)))
  have X4 := Lib.hid (X3.out.dr nq)
  clear c0 c1 c2 d0 d1 d2
  generalize w3.drewN nq = w4 at X4 ⊢
  clear X3
  obtain ⟨d0, d1, d2⟩ := X4.out.cells
  go_wp2_with (first | (go_at_call 33; refine (clone_any _ _ f3).mono ?_; rintro e w5 ⟨rfl, hb5⟩; clear d0 d1 d2; have X5 := Lib.hid (X4.out.below hb5); obtain ⟨d0, d1, d2⟩ := X5.out.cells; have d3 := X5.out.2.2.1 2; have B5 : Hid (∀ o, Below w.heap.size w ((w5.setCell ⟨w.heap.size, 2, none⟩ (.string t)).alloc o)) := Lib.hid (fun o => (X5.out.1.setCell (Nat.le_refl _) _).alloc (by have := X5.out.1.size; simpa using this) _); clear hb5) | (at_builtin; refine wpList_append_lies _ rfl _ _ 22 rfl base 38 i0 _ 3 32 Try.underlying22 hi hz0 hz1 hz2 rfl (by decide) (.slice (some ⟨g, 0, none⟩) (m + 1) cap) (m + 1) (cellsC (cs ++ [⟨lk, ln, lt⟩])) rfl (OW.out _ (B5.out _)) ⟨w5.heap.size, 0, none⟩ 1 1 (C.cells ⟨k, n, t⟩) rfl rfl (three_new (by simp) ⟨k, n, t⟩) (cells_one _) (by decide) (by unfold maxLen; omega) (by omega) (Nat.le_trans hbase (B5.out _).size) (w5.heap.size + 1) (by simp) ?_; intro g2 cap2 w6 hown hgrow hgg hlt))
  go_ret
  exact AddPost.of_append (cs := cs ++ [⟨lk, ln, lt⟩]) (B5.out _) (by simp [HM.out]) hown hgrow (by simpa using hgg)

end Go.Proofs.Ytmlibmleamiljaa
