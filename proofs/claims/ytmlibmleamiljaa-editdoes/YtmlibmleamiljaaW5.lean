/-
  The walk of add, at a piece of the same kind. Conditions: as the theorems' premises say.
-/
import Derived.Test.YtmlibmleamiljaaW4
import Derived.BigRegion
namespace Go.Proofs.Ytmlibmleamiljaa
open Go.RowKit

set_option maxHeartbeats 1000000 in
theorem add_join (base : Nat) (cs : List C) (l c : C) (v : Value) (w : World) (ho : Own w base v (cs ++ [l])) (hl : cs.length ≤ 8192) (hfl : Fit l) (hc : Fit c) (h0 : 0 < c.sz) (hk : l.k = c.k) :
    Calls Try.prog 28 #[v, c.val] w (AddPost base v (cs ++ [l.join c]) w) := by
  obtain ⟨g, cap, hv, hg0, hg1, hcap⟩ := ho.formS
  subst hv
  have hp := ho.piece (i := cs.length) (c := l) (by simp)
  have O := Lib.hid ho; clear ho
  generalize hm : cs.length = m at *
  have HM := Lib.hid hm; clear hm
  obtain ⟨lk, ln, lt⟩ := l
  obtain ⟨k, n, t⟩ := c
  dsimp only at hk
  subst hk
  obtain ⟨f1, f2, f3⟩ := hc
  obtain ⟨f4, f5, f6⟩ := hfl
  dsimp only at f1 f2 f3 f4 f5 f6
  have h00 : ((n + (t.size : Int)) == 0) = false := beq_eq_false_iff_ne.2 (by unfold C.sz at h0; dsimp only at h0; omega)
  have PL := Lib.hid hp
  clear h0 hp
  unfold C.val
  dsimp only
  go_enter Try.func28, Try.ntmps28
  go_wp2_with (go_at_call 31; refine (size_any _ _ _ _ f1 f2 f3).mono ?_; rintro e w2 ⟨rfl, hb2⟩)
  have X2 := Lib.hid ((Box.new w lk n t).below hb2)
  clear hb2
  obtain ⟨c0, c1, c2⟩ := PL.out.below X2.out.1
  dsimp only at c0 c1 c2
  obtain ⟨d0, d1, d2⟩ := X2.out.cells
  have hI0 : (0 : Int) ≤ (m : Int) := by omega
  have hI1 : (m : Int) < ((m + 1 : Nat) : Int) := by omega
  have hI2 : (m : Int) < (m : Int) + 1 := by omega
  go_quiet (fail)
  have X3 := Lib.hid (X2.out.dr nq)
  clear c0 c1 c2 d0 d1 d2
  generalize w2.drewN nq = w3 at X3 ⊢
  clear X2
  have O3 := Lib.hid (O.out.below X3.out.1)
  obtain ⟨c0, c1, c2⟩ := PL.out.below X3.out.1
  dsimp only at c0 c1 c2
  obtain ⟨d0, d1, d2⟩ := X3.out.cells
  have z1 := O3.out.frozen (m * 3 + 1)
  have z2 := O3.out.frozen (m * 3 + 2)
  have hw : IntKind.i64.wrap (ln + n) = ln + n := IntWalk.i64_in _ (by omega)
  go_wp2_with (go_at_call 31; fail)
  go_region
  have e2 : (w3.setCell ⟨g, m * 3 + 1, none⟩ (.int .i64 (ln + n))).drew.cell? ⟨g, m * 3 + 2, none⟩ = some (.string lt) := (World.cell?_setCell_other _ _ _ _ (by simp)).trans c2
  have e3 : (w3.setCell ⟨g, m * 3 + 1, none⟩ (.int .i64 (ln + n))).drew.cell? ⟨w.heap.size, 2, none⟩ = some (.string t) := (World.cell?_setCell_far _ _ _ _ (by simp; omega)).trans d2
  have e4 : (w3.setCell ⟨g, m * 3 + 1, none⟩ (.int .i64 (ln + n))).drew.frozen? ⟨g, m * 3 + 2, none⟩ = false := by simpa using z2
  have OF : Hid (Own (((w3.setCell ⟨g, m * 3 + 1, none⟩ (.int .i64 (ln + n))).drew).setCell ⟨g, m * 3 + 2, none⟩ (.string (lt ++ t))) base (.slice (some ⟨g, 0, none⟩) (m + 1) cap) (cs ++ [⟨lk, ln + n, lt ++ t⟩])) := Lib.hid (by
    have := Own.setLast (by rw [HM.out]) O3.out (ln + n) (lt ++ t)
    rw [HM.out] at this
    exact this)
  have GF : Hid (w.grownBy (((w3.setCell ⟨g, m * 3 + 1, none⟩ (.int .i64 (ln + n))).drew).setCell ⟨g, m * 3 + 2, none⟩ (.string (lt ++ t))) (some g)) := Lib.hid (grown_set (grown_drew (grown_set (grown_of_below X3.out.1 _) _)) _)
  generalize (w3.setCell ⟨g, m * 3 + 1, none⟩ (.int .i64 (ln + n))).drew = w4 at e2 e3 e4 OF GF ⊢
  clear c0 c1 c2 d0 d1 d2 z1 z2 hw
  go_wp2_with (go_at_call 31; fail)
  go_region
  go_wp2_with (go_at_call 31; fail)
  go_ret
  exact ⟨_, rfl, OF.out, grown_drew GF.out, fun g h => .inl h⟩

end Go.Proofs.Ytmlibmleamiljaa
