/-
  KW14, KW15, in one text. Conditions: as each theorem's premises say.
-/
import Derived.Test.YtjmfjlffcopnnaaGreatDoorPM01
import Derived.Maps.AppendAt
namespace Go.Proofs.YtjmfjlffcopnnaaGreatDoor.K
open Go.RowKit

set_option maxHeartbeats 1000000 in
theorem radd_push (base : Nat) (cs : List C) (l c : C) (v : Value) (w : World) (ho : Own w base v (cs ++ [l])) (hbase : base ≤ w.heap.size) (hl : cs.length ≤ 8192) (hf : Fit c) (hc : c.Soft) (h0 : 0 < c.sz) (hk : l.k ≠ c.k) (hno : ¬ (l.k = 2 ∧ c.k = 1)) :
    Calls Tryz.prog 133 #[v, c.val] w (AddPost base v (cs ++ [l] ++ [c]) w) := by
  obtain ⟨i0, hi, hz0, hz1, hz2⟩ := info_parts info39
  obtain ⟨g, cap, hv, hg0, hg1, hcap⟩ := ho.formS
  subst hv
  have hp := ho.piece (i := cs.length) (c := l) (by simp)
  have O := Lib.hid ho; clear ho
  generalize hm : cs.length = m at *
  have HM := Lib.hid hm; clear hm
  have OW : Hid (∀ W, Below w.heap.size w W → W.ownsRow base 48 3 (.slice (some ⟨g, 0, none⟩) (m + 1) cap) (m + 1) (cellsC (cs ++ [l]))) := Lib.hid (fun W hW => by
    have := O.out.below hW
    unfold Own at this
    rwa [List.length_append, List.length_singleton, HM.out] at this)
  obtain ⟨lk, ln, lt⟩ := l
  obtain ⟨k, n, t⟩ := c
  have HS := Lib.hid hc
  obtain ⟨f1, f2, f3⟩ := hf
  dsimp only at f1 f2 f3 hk hno
  have hb1 : (lk == k) = false := beq_eq_false_iff_ne.2 hk
  have h00 : ((n + (t.size : Int)) == 0) = false := beq_eq_false_iff_ne.2 (by unfold C.sz at h0; dsimp only at h0; omega)
  have PL := Lib.hid hp
  have hI0 : (0 : Int) ≤ (m : Int) := by omega
  have hI1 : (m : Int) < ((m + 1 : Nat) : Int) := by omega
  have hI2 : (m : Int) < (m : Int) + 1 := by omega
  clear h0 hk hp hc
  unfold C.val
  dsimp only
  by_cases hk1 : k = 1
  · have g2 : (lk == 2) = false := beq_eq_false_iff_ne.2 (fun h => hno ⟨h, hk1⟩)
    subst hk1
    clear hno
    go_enter Tryz.func133, Tryz.ntmps133
    go_wp2_with (go_at_call 147; refine (rsize_any _ _ _ _ HS.out).mono ?_; rintro e w2 ⟨rfl, hb2⟩)
    have X2 := Lib.hid ((Box.new w 1 n t).below hb2)
    clear hb2
    obtain ⟨c0, c1, c2⟩ := PL.out.below X2.out.1
    dsimp only at c0 c1 c2
    obtain ⟨d0, d1, d2⟩ := X2.out.cells
    go_quiet (fail)
    have X3 := Lib.hid (X2.out.dr nq)
    clear c0 c1 c2 d0 d1 d2
    generalize w2.drewN nq = w3 at X3 ⊢
    clear X2
    obtain ⟨c0, c1, c2⟩ := PL.out.below X3.out.1
    dsimp only at c0 c1 c2
    obtain ⟨d0, d1, d2⟩ := X3.out.cells
    have B3 : Hid (∀ o, Below w.heap.size w (w3.alloc o)) := Lib.hid (fun o => X3.out.1.alloc X3.out.1.size o)
    go_wp2_with (at_builtin; refine wpList_append_lies _ rfl _ _ 22 rfl base 48 i0 _ 3 32 Tryz.underlying22 hi hz0 hz1 hz2 rfl (by decide) (.slice (some ⟨g, 0, none⟩) (m + 1) cap) (m + 1) (cellsC (cs ++ [⟨lk, ln, lt⟩])) rfl (OW.out _ (B3.out _)) ⟨w3.heap.size, 0, none⟩ 1 1 (C.cells ⟨1, n, t⟩) rfl rfl (three_new rfl ⟨1, n, t⟩) (cells_one _) (by decide) (by unfold maxLen; omega) (by omega) (Nat.le_trans hbase (B3.out _).size) (w3.heap.size + 1) (by simp) ?_; intro g2 cap2 w6 hown hgrow hgg hlt)
    go_ret
    exact AddPost.of_append (cs := cs ++ [⟨lk, ln, lt⟩]) (B3.out _) (by simp [HM.out]) hown hgrow (by simpa using hgg)
  · have g2 : (k == 1) = false := beq_eq_false_iff_ne.2 hk1
    clear hno hk1
    go_enter Tryz.func133, Tryz.ntmps133
    go_wp2_with (go_at_call 147; refine (rsize_any _ _ _ _ HS.out).mono ?_; rintro e w2 ⟨rfl, hb2⟩)
    have X2 := Lib.hid ((Box.new w k n t).below hb2)
    clear hb2
    obtain ⟨c0, c1, c2⟩ := PL.out.below X2.out.1
    dsimp only at c0 c1 c2
    obtain ⟨d0, d1, d2⟩ := X2.out.cells
    go_quiet (fail)
    have X3 := Lib.hid (X2.out.dr nq)
    clear c0 c1 c2 d0 d1 d2
    generalize w2.drewN nq = w3 at X3 ⊢
    clear X2
    obtain ⟨c0, c1, c2⟩ := PL.out.below X3.out.1
    dsimp only at c0 c1 c2
    obtain ⟨d0, d1, d2⟩ := X3.out.cells
    have B3 : Hid (∀ o, Below w.heap.size w (w3.alloc o)) := Lib.hid (fun o => X3.out.1.alloc X3.out.1.size o)
    go_wp2_with (at_builtin; refine wpList_append_lies _ rfl _ _ 22 rfl base 48 i0 _ 3 32 Tryz.underlying22 hi hz0 hz1 hz2 rfl (by decide) (.slice (some ⟨g, 0, none⟩) (m + 1) cap) (m + 1) (cellsC (cs ++ [⟨lk, ln, lt⟩])) rfl (OW.out _ (B3.out _)) ⟨w3.heap.size, 0, none⟩ 1 1 (C.cells ⟨k, n, t⟩) rfl rfl (three_new rfl ⟨k, n, t⟩) (cells_one _) (by decide) (by unfold maxLen; omega) (by omega) (Nat.le_trans hbase (B3.out _).size) (w3.heap.size + 1) (by simp) ?_; intro g2 cap2 w6 hown hgrow hgg hlt)
    go_ret
    exact AddPost.of_append (cs := cs ++ [⟨lk, ln, lt⟩]) (B3.out _) (by simp [HM.out]) hown hgrow (by simpa using hgg)

theorem cellsC_set3 {cs : List C} {l : C} (k' n' : Int) (t' : ByteArray) : (((cellsC (cs ++ [l])).set (cs.length * 3) (.int .i64 k')).set (cs.length * 3 + 1) (.int .i64 n')).set (cs.length * 3 + 2) (.string t') = cellsC (cs ++ [⟨k', n', t'⟩]) := by
  have h0 := List.set_append_right (i := cs.length * 3) (s := cellsC cs) (t := cellsC [l]) (x := .int .i64 k') (by rw [cellsC_length]; omega)
  rw [cellsC_append, h0, List.set_append_right _ _ (by rw [cellsC_length]; omega), List.set_append_right _ _ (by rw [cellsC_length]; omega), cellsC_append, cellsC_length, Nat.sub_self, Nat.add_sub_cancel_left, Nat.add_sub_cancel_left]
  rfl
theorem Own.setLast3 {w : World} {base g n cap : Nat} {cs : List C} {l : C} (hn : n = cs.length + 1) (h : Own w base (.slice (some ⟨g, 0, none⟩) n cap) (cs ++ [l])) (k' n' : Int) (t' : ByteArray) :
    Own (((w.setCell ⟨g, cs.length * 3, none⟩ (.int .i64 k')).setCell ⟨g, cs.length * 3 + 1, none⟩ (.int .i64 n')).setCell ⟨g, cs.length * 3 + 2, none⟩ (.string t')) base (.slice (some ⟨g, 0, none⟩) n cap) (cs ++ [⟨k', n', t'⟩]) := by
  unfold Own at *
  rw [List.length_append, List.length_singleton, ← hn] at *
  have := owns_set (i := cs.length * 3 + 2) (owns_set (i := cs.length * 3 + 1) (owns_set (i := cs.length * 3) h (.int .i64 k')) (.int .i64 n')) (.string t')
  rwa [cellsC_set3] at this

set_option maxHeartbeats 1000000 in
theorem radd_join (base : Nat) (cs : List C) (l c : C) (v : Value) (w : World) (ho : Own w base v (cs ++ [l])) (hl : cs.length ≤ 8192) (hfl : Fit l) (hf : Fit c) (hc : c.Soft) (h0 : 0 < c.sz) (hk : l.k = c.k) :
    Calls Tryz.prog 133 #[v, c.val] w (AddPost base v (cs ++ [l.join c]) w) := by
  obtain ⟨g, cap, hv, hg0, hg1, hcap⟩ := ho.formS
  subst hv
  have hp := ho.piece (i := cs.length) (c := l) (by simp)
  have O := Lib.hid ho; clear ho
  generalize hm : cs.length = m at *
  have HM := Lib.hid hm; clear hm
  obtain ⟨lk, ln, lt⟩ := l
  obtain ⟨k, n, t⟩ := c
  dsimp only at hk
  subst hk
  have HS := Lib.hid hc
  obtain ⟨f1, f2, f3⟩ := hf
  obtain ⟨f4, f5, f6⟩ := hfl
  dsimp only at f1 f2 f3 f4 f5 f6
  have h00 : ((n + (t.size : Int)) == 0) = false := beq_eq_false_iff_ne.2 (by unfold C.sz at h0; dsimp only at h0; omega)
  have PL := Lib.hid hp
  clear h0 hp hc
  unfold C.val
  dsimp only
  go_enter Tryz.func133, Tryz.ntmps133
  go_wp2_with (go_at_call 147; refine (rsize_any _ _ _ _ HS.out).mono ?_; rintro e w2 ⟨rfl, hb2⟩)
  have X2 := Lib.hid ((Box.new w lk n t).below hb2)
  clear hb2
  obtain ⟨c0, c1, c2⟩ := PL.out.below X2.out.1
  dsimp only at c0 c1 c2
  obtain ⟨d0, d1, d2⟩ := X2.out.cells
  have hI0 : (0 : Int) ≤ (m : Int) := by omega
  have hI1 : (m : Int) < ((m + 1 : Nat) : Int) := by omega
  have hI2 : (m : Int) < (m : Int) + 1 := by omega
  go_quiet (fail)
  have X3 := Lib.hid (X2.out.dr nq)
  clear c0 c1 c2 d0 d1 d2
  generalize w2.drewN nq = w3 at X3 ⊢
  clear X2
  have O3 := Lib.hid (O.out.below X3.out.1)
  obtain ⟨c0, c1, c2⟩ := PL.out.below X3.out.1
  dsimp only at c0 c1 c2
  obtain ⟨d0, d1, d2⟩ := X3.out.cells
  have y0 : ∀ o, (w3.alloc o).cell? ⟨w.heap.size, 1, none⟩ = some (.int .i64 n) := fun o => cell_later ((Below.refl _ _).alloc (Nat.le_refl _) o) d1
  have y1 : ∀ o, (w3.alloc o).cell? ⟨w.heap.size, 2, none⟩ = some (.string t) := fun o => cell_later ((Below.refl _ _).alloc (Nat.le_refl _) o) d2
  have y2 : ∀ o, (w3.alloc o).cell? ⟨g, m * 3, none⟩ = some (.int .i64 lk) := fun o => cell_later ((Below.refl _ _).alloc (Nat.le_refl _) o) c0
  have y3 : ∀ o, (w3.alloc o).cell? ⟨g, m * 3 + 1, none⟩ = some (.int .i64 ln) := fun o => cell_later ((Below.refl _ _).alloc (Nat.le_refl _) o) c1
  have y4 : ∀ o, (w3.alloc o).cell? ⟨g, m * 3 + 2, none⟩ = some (.string lt) := fun o => cell_later ((Below.refl _ _).alloc (Nat.le_refl _) o) c2
  have hgl : g < w3.heap.size := World.block_lt_of_cell? w3 ⟨g, m * 3, none⟩ c0
  have y5 : ∀ o i, (w3.alloc o).frozen? ⟨g, i, none⟩ = false := fun o i => (((Below.refl w3.heap.size w3).alloc (Nat.le_refl _) o).frozen (p := ⟨g, i, none⟩) hgl).trans (O3.out.frozen i)
  have y6 : ∀ a v o i, ((w3.setCell a v).alloc o).frozen? ⟨g, i, none⟩ = false := fun a v o i => (((Below.refl (w3.setCell a v).heap.size (w3.setCell a v)).alloc (Nat.le_refl _) o).frozen (p := ⟨g, i, none⟩) (by simpa using hgl)).trans (by rw [World.frozen?_setCell]; exact O3.out.frozen i)
  have y7 : ∀ a v b v' o i, (((w3.setCell a v).setCell b v').alloc o).frozen? ⟨g, i, none⟩ = false := fun a v b v' o i => (((Below.refl ((w3.setCell a v).setCell b v').heap.size ((w3.setCell a v).setCell b v')).alloc (Nat.le_refl _) o).frozen (p := ⟨g, i, none⟩) (by simpa using hgl)).trans (by rw [World.frozen?_setCell, World.frozen?_setCell]; exact O3.out.frozen i)
  have y8 : ∀ v o, ((w3.setCell ⟨g, m * 3, none⟩ v).alloc o).cell? ⟨g, m * 3 + 1, none⟩ = some (.int .i64 ln) := fun v o => cell_later ((Below.refl _ _).alloc (Nat.le_refl _) o) ((World.cell?_setCell_other _ _ _ _ (by simp)).trans c1)
  have y9 : ∀ v v' o, (((w3.setCell ⟨g, m * 3, none⟩ v).setCell ⟨g, m * 3 + 1, none⟩ v').alloc o).cell? ⟨g, m * 3 + 2, none⟩ = some (.string lt) := fun v v' o => cell_later ((Below.refl _ _).alloc (Nat.le_refl _) o) ((World.cell?_setCell_other _ _ _ _ (by simp)).trans ((World.cell?_setCell_other _ _ _ _ (by simp)).trans c2))
  go_wp2_with (go_at_call 147; fail)
  go_ret
  have hO := Own.setLast3 (by rw [HM.out]) O3.out lk (ln + n) (lt ++ t)
  rw [HM.out] at hO
  have hA : ∀ W : World, Below W.heap.size W (W.alloc (.cells #[.int .i64 lk, .int .i64 (ln + n), .string (lt ++ t)] 48)) := fun W => (Below.refl _ _).alloc (Nat.le_refl _) _
  exact ⟨_, rfl, hO.below (hA _), grown_trans (grown_set (grown_set (grown_set (grown_of_below X3.out.1 _) _) _) _) (grown_of_below (hA _) none) (fun g h => by cases h), fun g h => .inl h⟩

end Go.Proofs.YtjmfjlffcopnnaaGreatDoor.K

namespace Go.Proofs.YtjmfjlffcopnnaaGreatDoor.K
open Go.RowKit

set_option maxHeartbeats 2000000 in
theorem radd_behind (base : Nat) (cs : List C) (l c : C) (v : Value) (w : World) (ho : Own w base v (cs ++ [l])) (hbase : base ≤ w.heap.size) (hl : cs.length ≤ 8192) (hf : Fit c) (hc : c.Soft) (h0 : 0 < c.sz) (hk2 : l.k = 2) (hk1 : c.k = 1)
    (out : List C) (hol : out.length ≤ 8193) (ih : ∀ v w, Own w base v cs → base ≤ w.heap.size → Calls Tryz.prog 133 #[v, c.val] w (AddPost base v out w)) :
    Calls Tryz.prog 133 #[v, c.val] w (AddPost base v (out ++ [l]) w) := by
  obtain ⟨i0, hi, hz0, hz1, hz2⟩ := info_parts info39
  obtain ⟨g, cap, hv, hg0, hg1, hcap⟩ := ho.formS
  subst hv
  have hp := ho.piece (i := cs.length) (c := l) (by simp)
  have O := Lib.hid ho; clear ho
  have RF := Lib.hid O.out.front.row
  generalize hm : cs.length = m at *
  have HM := Lib.hid hm; clear hm
  obtain ⟨lk, ln, lt⟩ := l
  obtain ⟨k, n, t⟩ := c
  dsimp only at hk1 hk2
  subst hk1 hk2
  have HS := Lib.hid hc
  obtain ⟨f1, f2, f3⟩ := hf
  dsimp only at f1 f2 f3
  have h00 : ((n + (t.size : Int)) == 0) = false := beq_eq_false_iff_ne.2 (by unfold C.sz at h0; dsimp only at h0; omega)
  have PL := Lib.hid hp
  have IH : Hid (∀ v w, Own w base v cs → base ≤ w.heap.size → Calls Tryz.prog 133 #[v, .agg #[.int .i64 1, .int .i64 n, .string t]] w (AddPost base v out w)) := Lib.hid ih
  clear h0 hp ih hc
  unfold C.val
  dsimp only
  go_enter Tryz.func133, Tryz.ntmps133
  go_wp2_with (go_at_call 147; refine (rsize_any _ _ _ _ HS.out).mono ?_; rintro e w2 ⟨rfl, hb2⟩)
  have X2 := Lib.hid ((Box.new w 1 n t).below hb2)
  clear hb2
  obtain ⟨c0, c1, c2⟩ := PL.out.below X2.out.1
  dsimp only at c0 c1 c2
  obtain ⟨d0, d1, d2⟩ := X2.out.cells
  have hI0 : (0 : Int) ≤ (m : Int) := by omega
  have hI1 : (m : Int) < ((m + 1 : Nat) : Int) := by omega
  have hI2 : (m : Int) < (m : Int) + 1 := by omega
  go_quiet (fail)
  have X3 := Lib.hid (X2.out.dr nq)
  clear c0 c1 c2 d0 d1 d2
  generalize w2.drewN nq = w3 at X3 ⊢
  clear X2
  obtain ⟨c0, c1, c2⟩ := PL.out.below X3.out.1
  dsimp only at c0 c1 c2
  obtain ⟨d0, d1, d2⟩ := X3.out.cells
  have hmc : m ≤ cap := by omega
  have hIc : (m : Int) ≤ (cap : Int) := by omega
  have X4 : Hid (Box w (w3.alloc (.cells #[.int .i64 2, .int .i64 ln, .string lt] 48)) w.heap.size ⟨1, n, t⟩) := Lib.hid (X3.out.below ((Below.refl _ _).alloc (Nat.le_refl _) _))
  have OW : Hid (((w3.alloc (.cells #[.int .i64 2, .int .i64 ln, .string lt] 48)).alloc (.cells #[] 48)).ownsRow w.heap.size 48 3 (.slice (some ⟨w3.heap.size + 1, 0, none⟩) 0 0) 0 []) := Lib.hid (by
    have h := World.ownsRow_lit (base := w.heap.size) (e := 48) (size := 3) (w3.alloc (.cells #[.int .i64 2, .int .i64 ln, .string lt] 48)) #[] 0 X4.out.1.size (by decide) rfl
    simpa using h)
  have NW : Hid (∀ j u, (cellsC cs)[j]? = some u → ((w3.alloc (.cells #[.int .i64 2, .int .i64 ln, .string lt] 48)).alloc (.cells #[] 48)).cell? ((⟨g, 0, none⟩ : Addr).add j) = some u) := Lib.hid (RF.out.below (X4.out.1.alloc X4.out.1.size _)).news
  have CL : Hid ((cellsC cs).length = m * 3) := Lib.hid (by rw [cellsC_length, HM.out])
  have hw3 : w.heap.size < w3.heap.size := X3.out.2.2.2.2
  have X5 : Hid (Box w ((w3.alloc (.cells #[.int .i64 2, .int .i64 ln, .string lt] 48)).alloc (.cells #[] 48)) w.heap.size ⟨1, n, t⟩) := Lib.hid (X4.out.below ((Below.refl _ _).alloc (Nat.le_refl _) _))
  have Y5 : Hid (PieceAt ((w3.alloc (.cells #[.int .i64 2, .int .i64 ln, .string lt] 48)).alloc (.cells #[] 48)) w3.heap.size 0 ⟨2, ln, lt⟩) := Lib.hid ((new_piece w3 2 ln lt).below ((Below.refl _ _).alloc (Nat.le_refl _) _))
  clear X4
  have FAR : Hid (∀ w6, ((w3.alloc (.cells #[.int .i64 2, .int .i64 ln, .string lt] 48)).alloc (.cells #[] 48)).grownBy w6 (some (w3.heap.size + 1)) → (w6.cell? ⟨w.heap.size, 0, none⟩ = some (.int .i64 1) ∧ w6.cell? ⟨w.heap.size, 1, none⟩ = some (.int .i64 n) ∧ w6.cell? ⟨w.heap.size, 2, none⟩ = some (.string t)) ∧ (w6.cell? ⟨w3.heap.size, 0, none⟩ = some (.int .i64 2) ∧ w6.cell? ⟨w3.heap.size, 1, none⟩ = some (.int .i64 ln) ∧ w6.cell? ⟨w3.heap.size, 2, none⟩ = some (.string lt)) ∧ Below w.heap.size w w6 ∧ w3.heap.size + 2 ≤ w6.heap.size) := Lib.hid (fun w6 hg => by
    obtain ⟨a0, a1, a2⟩ := X5.out.cells
    obtain ⟨b0, b1, b2⟩ := Y5.out
    have ne1 : some w.heap.size ≠ some (w3.heap.size + 1) := by simp; omega
    have ne2 : some w3.heap.size ≠ some (w3.heap.size + 1) := by simp
    have hs := hg.size
    simp at hs
    exact ⟨⟨hg.cell a0 ne1, hg.cell a1 ne1, hg.cell a2 ne1⟩, ⟨hg.cell b0 ne2, hg.cell b1 ne2, hg.cell b2 ne2⟩, X5.out.1.grown hg X5.out.1.size (fun k h => by cases h; omega), by omega⟩)
  go_wp2_with (first | (at_builtin; refine wpList_append_own_at _ rfl _ _ 22 rfl w.heap.size 48 i0 _ 3 32 Tryz.underlying22 hi hz0 hz1 hz2 rfl (by decide) (.slice (some ⟨w3.heap.size + 1, 0, none⟩) 0 0) 0 [] rfl OW.out ⟨g, 0, none⟩ m cap (cellsC cs) rfl CL.out NW.out (cellsC_one cs) (by unfold maxLen; omega) (by omega) X5.out.1.size ?_; intro v6 w6 hown6 hgrow6 hnn6 hat6; have F6 := Lib.hid (FAR.out w6 hgrow6); obtain ⟨d0', d1', d2'⟩ := F6.out.1; have O6 := Lib.hid hown6; have A6 := Lib.hid hat6; clear hown6 hgrow6 hnn6 hat6 d0 d1 d2 c0 c1 c2))
  have hO6 : Own w6 base v6 cs := Own.mono (by have := O6.out; unfold Own; rw [HM.out]; simpa using this) hbase
  have V6 : Hid (∀ h, v6.ownBlock = some h → w3.heap.size < h) := Lib.hid (fun h e => by
    rcases A6.out with a | a
    · rw [a] at e; simp [Value.ownBlock] at e; omega
    · rw [a] at e; simp at e; omega)
  refine (IH.out v6 w6 hO6 (Nat.le_trans hbase F6.out.2.2.1.size)).mono ?_
  rintro e w7 ⟨v7, rfl, hown7, hgr7, hnew7⟩
  obtain ⟨p7, cap7, hv7⟩ := hown7.form
  subst hv7
  have O7 := Lib.hid hown7
  have V7 : Hid (∀ h, (Value.slice p7 out.length cap7).ownBlock = some h → w.heap.size ≤ h) := Lib.hid (fun h e => by
    rcases hnew7 h e with a | a
    · have := V6.out h a; omega
    · have := F6.out.2.2.2; omega)
  have B7 := Lib.hid (F6.out.2.2.1.grown hgr7 F6.out.2.2.1.size (fun k h => by have := V6.out k h; omega))
  have ne7 : some w3.heap.size ≠ v6.ownBlock := fun e => by have := V6.out _ e.symm; omega
  have q0 := hgr7.cell F6.out.2.1.1 ne7
  have q1 := hgr7.cell F6.out.2.1.2.1 ne7
  have q2 := hgr7.cell F6.out.2.1.2.2 ne7
  clear hown7 hgr7 hnew7 ne7 d0' d1' d2' hO6
  go_wp2_with (at_builtin; refine wpList_append_lies _ rfl _ _ 22 rfl base 48 i0 _ 3 32 Tryz.underlying22 hi hz0 hz1 hz2 rfl (by decide) (.slice p7 out.length cap7) out.length (cellsC out) rfl (World.ownsRow.alloc O7.out _) ⟨w7.heap.size, 0, none⟩ 1 1 (C.cells ⟨2, ln, lt⟩) rfl rfl (three_new rfl ⟨2, ln, lt⟩) (cells_one _) (by decide) (by unfold maxLen; omega) (by omega) (Nat.le_trans hbase (Nat.le_trans B7.out.size (by simp))) (w7.heap.size + 1) (by simp) ?_; intro g8 cap8 w8 hown8 hgrow8 hgg8 hlt8)
  go_ret
  refine ⟨_, rfl, ?_, grown_of_below ((B7.out.alloc B7.out.size _).grown hgrow8 (Nat.le_trans B7.out.size (by simp)) (fun k h => V7.out k h)) _, fun g' h => .inr ?_⟩
  · have e2 : cellsC [(⟨2, ln, lt⟩ : C)] = C.cells ⟨2, ln, lt⟩ := by simp [cellsC]
    unfold Own
    rw [cellsC_append, e2, List.length_append]
    exact hown8
  · obtain rfl : g8 = g' := Option.some.inj h
    rcases hgg8 with a | a
    · exact V7.out _ a
    · have := B7.out.size; omega

/-- Add, whatever stands there. -/
theorem radd_rev (base : Nat) (c : C) (hf : Fit c) (hc : c.Soft) (h0 : 0 < c.sz) : ∀ (r : List C), r.length ≤ 8192 → (∀ x ∈ r, Fit x) → ∀ (v : Value) (w : World), Own w base v r.reverse → base ≤ w.heap.size → Calls Tryz.prog 133 #[v, c.val] w (AddPost base v (addR r c).reverse w)
  | [], _, _, v, w, ho, hb => by
    simpa [addR] using radd_first base c v w ho hb hf hc h0
  | l :: r, hl, hfr, v, w, ho, hb => by
    rw [List.reverse_cons] at ho
    simp only [List.length_cons] at hl
    have hr : ∀ x ∈ r, Fit x := fun x hx => hfr x (by simp [hx])
    by_cases h1 : l.k = c.k
    · rw [addR, if_pos h1, List.reverse_cons]
      exact radd_join base r.reverse l c v w ho (by simp; omega) (hfr l (by simp)) hf hc h0 h1
    · by_cases h2 : l.k = 2 ∧ c.k = 1
      · rw [addR, if_neg h1, if_pos h2, List.reverse_cons]
        exact radd_behind base r.reverse l c v w ho hb (by simp; omega) hf hc h0 h2.1 h2.2 _ (by rw [List.length_reverse]; exact addR_bound c r (by omega)) (fun v w ho hb => radd_rev base c hf hc h0 r (by omega) hr v w ho hb)
      · rw [addR, if_neg h1, if_neg h2, List.reverse_cons, List.reverse_cons]
        exact radd_push base r.reverse l c v w ho hb (by simp; omega) hf hc h0 h1 h2

theorem radd_any (base : Nat) (c : C) (hf : Fit c) (hc : c.Soft) (cs : List C) (hl : cs.length ≤ 8192) (hfr : ∀ x ∈ cs, Fit x) (v : Value) (w : World) (ho : Own w base v cs) (hb : base ≤ w.heap.size) : Calls Tryz.prog 133 #[v, c.val] w (AddPost base v (addC cs c) w) := by
  have h0 := Soft.sz0 hc
  unfold addC
  by_cases hz : c.sz = 0
  · rw [if_pos hz]
    exact radd_none base cs c v w ho hc hz
  · rw [if_neg hz]
    exact radd_rev base c hf hc (by omega) cs.reverse (by simpa using hl) (fun x hx => hfr x (by simpa using hx)) v w (by rw [List.reverse_reverse]; exact ho) hb

end Go.Proofs.YtjmfjlffcopnnaaGreatDoor.K
