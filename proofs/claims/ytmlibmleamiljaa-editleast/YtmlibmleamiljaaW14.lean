/-
  The walk of the reference's Add, behind pieces. Conditions: as the theorems' premises say.
-/
import Derived.Test.YtmlibmleamiljaaW13
namespace Go.Proofs.Ytmlibmleamiljaa
open Go.RowKit

set_option maxHeartbeats 1000000 in
theorem radd_push (base : Nat) (cs : List C) (l c : C) (v : Value) (w : World) (ho : Own w base v (cs ++ [l])) (hbase : base ≤ w.heap.size) (hl : cs.length ≤ 8192) (hf : Fit c) (hc : c.Soft) (h0 : 0 < c.sz) (hk : l.k ≠ c.k) (hno : ¬ (l.k = 2 ∧ c.k = 1)) :
    Calls Try.prog 20 #[v, c.val] w (AddPost base v (cs ++ [l] ++ [c]) w) := by
  obtain ⟨i0, hi, hz0, hz1, hz2⟩ := info_parts info39
  obtain ⟨g, cap, hv, hg0, hg1, hcap⟩ := ho.formS
  subst hv
  have hp := ho.piece (i := cs.length) (c := l) (by simp)
  have O := Lib.hid ho; clear ho
  generalize hm : cs.length = m at *
  have HM := Lib.hid hm; clear hm
  have OW : Hid (∀ W, Below w.heap.size w W → W.ownsRow base 38 3 (.slice (some ⟨g, 0, none⟩) (m + 1) cap) (m + 1) (cellsC (cs ++ [l]))) := Lib.hid (fun W hW => by
    have := O.out.below hW
    unfold Own at this
    rwa [List.length_append, List.length_singleton, HM.out] at this)
  obtain ⟨lk, ln, lt⟩ := l
  obtain ⟨k, n, t⟩ := c
  have HS := Lib.hid hc
  obtain ⟨f1, f2, f3⟩ := hf
  dsimp only at f1 f2 f3 hk hno
  have hb1 : (lk == k) = false := beq_eq_false_iff_ne.2 hk
  have h00 : ((n + (t.size : Int)) == 0) = false := beq_eq_false_iff_ne.2 (by unfold C.sz at h0; dsimp only at h0; omega)
  have PL := Lib.hid hp
  have hI0 : (0 : Int) ≤ (m : Int) := by omega
  have hI1 : (m : Int) < ((m + 1 : Nat) : Int) := by omega
  have hI2 : (m : Int) < (m : Int) + 1 := by omega
  clear h0 hk hp hc
  unfold C.val
  dsimp only
  by_cases hk1 : k = 1
  · have g2 : (lk == 2) = false := beq_eq_false_iff_ne.2 (fun h => hno ⟨h, hk1⟩)
    subst hk1
    clear hno
    go_enter Try.func20, Try.ntmps20
    go_wp2_with (go_at_call 25; refine (rsize_any _ _ _ _ HS.out).mono ?_; rintro e w2 ⟨rfl, hb2⟩)
    have X2 := Lib.hid ((Box.new w 1 n t).below hb2)
    clear hb2
    obtain ⟨c0, c1, c2⟩ := PL.out.below X2.out.1
    dsimp only at c0 c1 c2
    obtain ⟨d0, d1, d2⟩ := X2.out.cells
    go_quiet (fail)
    have X3 := Lib.hid (X2.out.dr nq)
    clear c0 c1 c2 d0 d1 d2
    generalize w2.drewN nq = w3 at X3 ⊢
    clear X2
    obtain ⟨c0, c1, c2⟩ := PL.out.below X3.out.1
    dsimp only at c0 c1 c2
    obtain ⟨d0, d1, d2⟩ := X3.out.cells
    have B3 : Hid (∀ o, Below w.heap.size w (w3.alloc o)) := Lib.hid (fun o => X3.out.1.alloc X3.out.1.size o)
    go_wp2_with (at_builtin; refine wpList_append_lies _ rfl _ _ 22 rfl base 38 i0 _ 3 32 Try.underlying22 hi hz0 hz1 hz2 rfl (by decide) (.slice (some ⟨g, 0, none⟩) (m + 1) cap) (m + 1) (cellsC (cs ++ [⟨lk, ln, lt⟩])) rfl (OW.out _ (B3.out _)) ⟨w3.heap.size, 0, none⟩ 1 1 (C.cells ⟨1, n, t⟩) rfl rfl (three_new rfl ⟨1, n, t⟩) (cells_one _) (by decide) (by unfold maxLen; omega) (by omega) (Nat.le_trans hbase (B3.out _).size) (w3.heap.size + 1) (by simp) ?_; intro g2 cap2 w6 hown hgrow hgg hlt)
    go_ret
    exact AddPost.of_append (cs := cs ++ [⟨lk, ln, lt⟩]) (B3.out _) (by simp [HM.out]) hown hgrow (by simpa using hgg)
  · have g2 : (k == 1) = false := beq_eq_false_iff_ne.2 hk1
    clear hno hk1
    go_enter Try.func20, Try.ntmps20
    go_wp2_with (go_at_call 25; refine (rsize_any _ _ _ _ HS.out).mono ?_; rintro e w2 ⟨rfl, hb2⟩)
    have X2 := Lib.hid ((Box.new w k n t).below hb2)
    clear hb2
    obtain ⟨c0, c1, c2⟩ := PL.out.below X2.out.1
    dsimp only at c0 c1 c2
    obtain ⟨d0, d1, d2⟩ := X2.out.cells
    go_quiet (fail)
    have X3 := Lib.hid (X2.out.dr nq)
    clear c0 c1 c2 d0 d1 d2
    generalize w2.drewN nq = w3 at X3 ⊢
    clear X2
    obtain ⟨c0, c1, c2⟩ := PL.out.below X3.out.1
    dsimp only at c0 c1 c2
    obtain ⟨d0, d1, d2⟩ := X3.out.cells
    have B3 : Hid (∀ o, Below w.heap.size w (w3.alloc o)) := Lib.hid (fun o => X3.out.1.alloc X3.out.1.size o)
    go_wp2_with (at_builtin; refine wpList_append_lies _ rfl _ _ 22 rfl base 38 i0 _ 3 32 Try.underlying22 hi hz0 hz1 hz2 rfl (by decide) (.slice (some ⟨g, 0, none⟩) (m + 1) cap) (m + 1) (cellsC (cs ++ [⟨lk, ln, lt⟩])) rfl (OW.out _ (B3.out _)) ⟨w3.heap.size, 0, none⟩ 1 1 (C.cells ⟨k, n, t⟩) rfl rfl (three_new rfl ⟨k, n, t⟩) (cells_one _) (by decide) (by unfold maxLen; omega) (by omega) (Nat.le_trans hbase (B3.out _).size) (w3.heap.size + 1) (by simp) ?_; intro g2 cap2 w6 hown hgrow hgg hlt)
    go_ret
    exact AddPost.of_append (cs := cs ++ [⟨lk, ln, lt⟩]) (B3.out _) (by simp [HM.out]) hown hgrow (by simpa using hgg)

theorem cellsC_set3 {cs : List C} {l : C} (k' n' : Int) (t' : ByteArray) : (((cellsC (cs ++ [l])).set (cs.length * 3) (.int .i64 k')).set (cs.length * 3 + 1) (.int .i64 n')).set (cs.length * 3 + 2) (.string t') = cellsC (cs ++ [⟨k', n', t'⟩]) := by
  have h0 := List.set_append_right (i := cs.length * 3) (s := cellsC cs) (t := cellsC [l]) (x := .int .i64 k') (by rw [cellsC_length]; omega)
  rw [cellsC_append, h0, List.set_append_right _ _ (by rw [cellsC_length]; omega), List.set_append_right _ _ (by rw [cellsC_length]; omega), cellsC_append, cellsC_length, Nat.sub_self, Nat.add_sub_cancel_left, Nat.add_sub_cancel_left]
  rfl
theorem Own.setLast3 {w : World} {base g n cap : Nat} {cs : List C} {l : C} (hn : n = cs.length + 1) (h : Own w base (.slice (some ⟨g, 0, none⟩) n cap) (cs ++ [l])) (k' n' : Int) (t' : ByteArray) :
    Own (((w.setCell ⟨g, cs.length * 3, none⟩ (.int .i64 k')).setCell ⟨g, cs.length * 3 + 1, none⟩ (.int .i64 n')).setCell ⟨g, cs.length * 3 + 2, none⟩ (.string t')) base (.slice (some ⟨g, 0, none⟩) n cap) (cs ++ [⟨k', n', t'⟩]) := by
  unfold Own at *
  rw [List.length_append, List.length_singleton, ← hn] at *
  have := owns_set (i := cs.length * 3 + 2) (owns_set (i := cs.length * 3 + 1) (owns_set (i := cs.length * 3) h (.int .i64 k')) (.int .i64 n')) (.string t')
  rwa [cellsC_set3] at this

set_option maxHeartbeats 1000000 in
theorem radd_join (base : Nat) (cs : List C) (l c : C) (v : Value) (w : World) (ho : Own w base v (cs ++ [l])) (hl : cs.length ≤ 8192) (hfl : Fit l) (hf : Fit c) (hc : c.Soft) (h0 : 0 < c.sz) (hk : l.k = c.k) :
    Calls Try.prog 20 #[v, c.val] w (AddPost base v (cs ++ [l.join c]) w) := by
  obtain ⟨g, cap, hv, hg0, hg1, hcap⟩ := ho.formS
  subst hv
  have hp := ho.piece (i := cs.length) (c := l) (by simp)
  have O := Lib.hid ho; clear ho
  generalize hm : cs.length = m at *
  have HM := Lib.hid hm; clear hm
  obtain ⟨lk, ln, lt⟩ := l
  obtain ⟨k, n, t⟩ := c
  dsimp only at hk
  subst hk
  have HS := Lib.hid hc
  obtain ⟨f1, f2, f3⟩ := hf
  obtain ⟨f4, f5, f6⟩ := hfl
  dsimp only at f1 f2 f3 f4 f5 f6
  have h00 : ((n + (t.size : Int)) == 0) = false := beq_eq_false_iff_ne.2 (by unfold C.sz at h0; dsimp only at h0; omega)
  have PL := Lib.hid hp
  clear h0 hp hc
  unfold C.val
  dsimp only
  go_enter Try.func20, Try.ntmps20
  go_wp2_with (go_at_call 25; refine (rsize_any _ _ _ _ HS.out).mono ?_; rintro e w2 ⟨rfl, hb2⟩)
  have X2 := Lib.hid ((Box.new w lk n t).below hb2)
  clear hb2
  obtain ⟨c0, c1, c2⟩ := PL.out.below X2.out.1
  dsimp only at c0 c1 c2
  obtain ⟨d0, d1, d2⟩ := X2.out.cells
  have hI0 : (0 : Int) ≤ (m : Int) := by omega
  have hI1 : (m : Int) < ((m + 1 : Nat) : Int) := by omega
  have hI2 : (m : Int) < (m : Int) + 1 := by omega
  go_quiet (fail)
  have X3 := Lib.hid (X2.out.dr nq)
  clear c0 c1 c2 d0 d1 d2
  generalize w2.drewN nq = w3 at X3 ⊢
  clear X2
  have O3 := Lib.hid (O.out.below X3.out.1)
  obtain ⟨c0, c1, c2⟩ := PL.out.below X3.out.1
  dsimp only at c0 c1 c2
  obtain ⟨d0, d1, d2⟩ := X3.out.cells
  have y0 : ∀ o, (w3.alloc o).cell? ⟨w.heap.size, 1, none⟩ = some (.int .i64 n) := fun o => cell_later ((Below.refl _ _).alloc (Nat.le_refl _) o) d1
  have y1 : ∀ o, (w3.alloc o).cell? ⟨w.heap.size, 2, none⟩ = some (.string t) := fun o => cell_later ((Below.refl _ _).alloc (Nat.le_refl _) o) d2
  have y2 : ∀ o, (w3.alloc o).cell? ⟨g, m * 3, none⟩ = some (.int .i64 lk) := fun o => cell_later ((Below.refl _ _).alloc (Nat.le_refl _) o) c0
  have y3 : ∀ o, (w3.alloc o).cell? ⟨g, m * 3 + 1, none⟩ = some (.int .i64 ln) := fun o => cell_later ((Below.refl _ _).alloc (Nat.le_refl _) o) c1
  have y4 : ∀ o, (w3.alloc o).cell? ⟨g, m * 3 + 2, none⟩ = some (.string lt) := fun o => cell_later ((Below.refl _ _).alloc (Nat.le_refl _) o) c2
  have hgl : g < w3.heap.size := World.block_lt_of_cell? w3 ⟨g, m * 3, none⟩ c0
  have y5 : ∀ o i, (w3.alloc o).frozen? ⟨g, i, none⟩ = false := fun o i => (((Below.refl w3.heap.size w3).alloc (Nat.le_refl _) o).frozen (p := ⟨g, i, none⟩) hgl).trans (O3.out.frozen i)
  have y6 : ∀ a v o i, ((w3.setCell a v).alloc o).frozen? ⟨g, i, none⟩ = false := fun a v o i => (((Below.refl (w3.setCell a v).heap.size (w3.setCell a v)).alloc (Nat.le_refl _) o).frozen (p := ⟨g, i, none⟩) (by simpa using hgl)).trans (by rw [World.frozen?_setCell]; exact O3.out.frozen i)
  have y7 : ∀ a v b v' o i, (((w3.setCell a v).setCell b v').alloc o).frozen? ⟨g, i, none⟩ = false := fun a v b v' o i => (((Below.refl ((w3.setCell a v).setCell b v').heap.size ((w3.setCell a v).setCell b v')).alloc (Nat.le_refl _) o).frozen (p := ⟨g, i, none⟩) (by simpa using hgl)).trans (by rw [World.frozen?_setCell, World.frozen?_setCell]; exact O3.out.frozen i)
  have y8 : ∀ v o, ((w3.setCell ⟨g, m * 3, none⟩ v).alloc o).cell? ⟨g, m * 3 + 1, none⟩ = some (.int .i64 ln) := fun v o => cell_later ((Below.refl _ _).alloc (Nat.le_refl _) o) ((World.cell?_setCell_other _ _ _ _ (by simp)).trans c1)
  have y9 : ∀ v v' o, (((w3.setCell ⟨g, m * 3, none⟩ v).setCell ⟨g, m * 3 + 1, none⟩ v').alloc o).cell? ⟨g, m * 3 + 2, none⟩ = some (.string lt) := fun v v' o => cell_later ((Below.refl _ _).alloc (Nat.le_refl _) o) ((World.cell?_setCell_other _ _ _ _ (by simp)).trans ((World.cell?_setCell_other _ _ _ _ (by simp)).trans c2))
  go_wp2_with (go_at_call 25; fail)
  go_ret
  have hO := Own.setLast3 (by rw [HM.out]) O3.out lk (ln + n) (lt ++ t)
  rw [HM.out] at hO
  have hA : ∀ W : World, Below W.heap.size W (W.alloc (.cells #[.int .i64 lk, .int .i64 (ln + n), .string (lt ++ t)] 38)) := fun W => (Below.refl _ _).alloc (Nat.le_refl _) _
  exact ⟨_, rfl, hO.below (hA _), grown_trans (grown_set (grown_set (grown_set (grown_of_below X3.out.1 _) _) _) _) (grown_of_below (hA _) none) (fun g h => by cases h), fun g h => .inl h⟩

end Go.Proofs.Ytmlibmleamiljaa
