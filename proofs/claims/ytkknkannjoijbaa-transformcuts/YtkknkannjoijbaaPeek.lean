/-
  The walk of the reference's reader: peek. Conditions: as each theorem's premises say.
-/
import Derived.Test.YtkknkannjoijbaaJoin1
namespace Go.Proofs.Ytkknkannjoijbaa
open Go.RowKit

/-- What peek answers. -/
def PeekW (c : C) (is : Bool) (w : World) (e : Ending) (w' : World) : Prop := e = .returned (.tuple #[c.val, .bool is]) ∧ Below w.heap.size w w'

theorem box_new (w : World) (k n : Int) (t : ByteArray) : PieceAt (w.alloc (.cells #[.int .i64 k, .int .i64 n, .string t] 41)) w.heap.size 0 ⟨k, n, t⟩ ∧ (∀ i, (w.alloc (.cells #[.int .i64 k, .int .i64 n, .string t] 41)).frozen? ⟨w.heap.size, i, none⟩ = false) ∧ Below w.heap.size w (w.alloc (.cells #[.int .i64 k, .int .i64 n, .string t] 41)) ∧ w.heap.size < (w.alloc (.cells #[.int .i64 k, .int .i64 n, .string t] 41)).heap.size :=
  ⟨new_piece w k n t, fun i => by simp [World.frozen?_alloc_mark], (Below.refl _ _).alloc (Nat.le_refl _) _, by simp⟩

/-- A reader of the reference and the box of the answer. -/
structure PK (w W : World) (b H : Nat) (sl : Value) (i a : Int) : Prop where
  below : Below w.heap.size w W
  g0 : W.cell? ⟨b, 0, none⟩ = some sl
  g1 : W.cell? ⟨b, 1, none⟩ = some (.int .i64 i)
  g2 : W.cell? ⟨b, 2, none⟩ = some (.int .i64 a)
  r : PieceAt W H 0 ⟨0, 0, e0⟩
  rz : ∀ i, W.frozen? ⟨H, i, none⟩ = false
  hH : H = w.heap.size
  hb : b < H
  hs : H < W.heap.size
theorem PK.next {w W W' : World} {b H : Nat} {sl : Value} {i a : Int} (h : PK w W b H sl i a) (hb : Below W.heap.size W W') : PK w W' b H sl i a :=
  ⟨h.below.trans (hb.mono h.below.size), cell_later hb h.g0, cell_later hb h.g1, cell_later hb h.g2, h.r.below hb, fun i => (hb.frozen (p := ⟨H, i, none⟩) h.hs).trans (h.rz i), h.hH, h.hb, Nat.lt_of_lt_of_le h.hs hb.size⟩
theorem PK.start {w : World} {b : Nat} {sl : Value} {i a : Int} (h0 : w.cell? ⟨b, 0, none⟩ = some sl) (h1 : w.cell? ⟨b, 1, none⟩ = some (.int .i64 i)) (h2 : w.cell? ⟨b, 2, none⟩ = some (.int .i64 a)) : PK w (w.alloc (.cells #[.int .i64 0, .int .i64 0, .string e0] 41)) b w.heap.size sl i a := by
  obtain ⟨n0, n1, n2, n3⟩ := box_new w 0 0 e0
  exact ⟨n2, cell_later n2 h0, cell_later n2 h1, cell_later n2 h2, n0, n1, rfl, World.block_lt_of_cell? w ⟨b, 0, none⟩ h0, n3⟩
theorem PK.final {w W : World} {b H : Nat} {sl : Value} {i a : Int} (h : PK w W b H sl i a) (k n : Int) (t : ByteArray) (W' : World) (hW : W' = ((W.setCell ⟨H, 0, none⟩ (.int .i64 k)).setCell ⟨H, 1, none⟩ (.int .i64 n)).setCell ⟨H, 2, none⟩ (.string t)) :
    (W'.cell? ⟨H, 0, none⟩ = some (.int .i64 k) ∧ W'.cell? ⟨H, 1, none⟩ = some (.int .i64 n) ∧ W'.cell? ⟨H, 2, none⟩ = some (.string t)) ∧ Below w.heap.size w W' := by
  subst hW
  obtain ⟨r0, r1, r2⟩ := h.r
  have hH := h.hH
  have oth : ∀ (V : World) i j u, j ≠ i → (V.setCell ⟨H, j, none⟩ u).cell? ⟨H, i, none⟩ = V.cell? ⟨H, i, none⟩ := fun V i j u hj => World.cell?_setCell_other _ _ _ _ (by simp only [ne_eq, Addr.mk.injEq, true_and, and_true]; exact hj)
  refine ⟨⟨?_, ?_, ?_⟩, ((h.below.setCell (p := ⟨H, 0, none⟩) (by simp; omega) _).setCell (p := ⟨H, 1, none⟩) (by simp; omega) _).setCell (p := ⟨H, 2, none⟩) (by simp; omega) _⟩
  · rw [oth _ _ _ _ (by omega), oth _ _ _ _ (by omega)]; exact World.cell?_setCell_same _ _ _ r0
  · rw [oth _ _ _ _ (by omega)]; exact World.cell?_setCell_same _ _ _ ((oth _ _ _ _ (by omega)).trans r1)
  · exact World.cell?_setCell_same _ _ _ ((oth _ _ _ _ (by omega)).trans ((oth _ _ _ _ (by omega)).trans r2))

set_option maxHeartbeats 1000000 in
theorem peek_no (b n cap : Nat) (p : Option Addr) (a : Int) (w : World) (h0 : w.cell? ⟨b, 0, none⟩ = some (.slice p n cap)) (h1 : w.cell? ⟨b, 1, none⟩ = some (.int .i64 n)) (h2 : w.cell? ⟨b, 2, none⟩ = some (.int .i64 a)) :
    Calls Try.prog 30 #[.pointer (some ⟨b, 0, none⟩)] w (PeekW ⟨0, 0, e0⟩ false w) := by
  have K0 : Hid (PK w (w.alloc (.cells #[.int .i64 0, .int .i64 0, .string ⟨#[]⟩] 41)) b w.heap.size (.slice p n cap) n a) := Lib.hid (PK.start h0 h1 h2)
  clear h0 h1 h2
  go_enter Try.func30, Try.ntmps30
  go_wp2_with fail
  generalize w.alloc (.cells #[.int .i64 0, .int .i64 0, .string ⟨#[]⟩] 41) = W at *
  generalize hH : w.heap.size = H at K0 ⊢
  clear hH
  have g0 := K0.out.g0
  have g1 := K0.out.g1
  have hb := K0.out.hb
  go_quiet (fail)
  have K1 := Lib.hid (K0.out.next (dr_below W nq))
  clear K0 g0 g1
  generalize W.drewN nq = W1 at K1 ⊢
  obtain ⟨r0, r1, r2⟩ := K1.out.r
  dsimp only [e0] at r0 r1 r2
  have rz := K1.out.rz
  go_wp2_with fail
  have F := Lib.hid (K1.out.final 0 0 ⟨#[]⟩ _ rfl)
  clear r0 r1 r2 rz K1
  (try simp only [Exit.inBlock, Exit.then])
  generalize ((W1.setCell ⟨H, 0, none⟩ (.int .i64 0)).setCell ⟨H, 1, none⟩ (.int .i64 0)).setCell ⟨H, 2, none⟩ (.string ⟨#[]⟩) = W2 at F ⊢
  obtain ⟨q0, q1, q2⟩ := F.out.1
  refine bodyPost_ret (v := .tuple #[.agg #[.int .i64 0, .int .i64 0, .string ⟨#[]⟩], .bool false]) (by rw [results_cell_tmp rfl]; go_simp) rfl ⟨rfl, F.out.2⟩

/-- .. and the box of a piece. -/
structure PD (w W : World) (b H D : Nat) (sl : Value) (i a : Int) (c : C) : Prop where
  pk : PK w W b H sl i a
  d : PieceAt W D 0 c
  dz : ∀ i, W.frozen? ⟨D, i, none⟩ = false
  hd : H < D
  ds : D < W.heap.size
theorem PD.next {w W W' : World} {b H D : Nat} {sl : Value} {i a : Int} {c : C} (h : PD w W b H D sl i a c) (hb : Below W.heap.size W W') : PD w W' b H D sl i a c :=
  ⟨h.pk.next hb, h.d.below hb, fun i => (hb.frozen (p := ⟨D, i, none⟩) h.ds).trans (h.dz i), h.hd, Nat.lt_of_lt_of_le h.ds hb.size⟩
theorem PD.start {w W : World} {b H : Nat} {sl : Value} {i a : Int} (h : PK w W b H sl i a) (c : C) : PD w (W.alloc (.cells #[.int .i64 c.k, .int .i64 c.n, .string c.t] 41)) b H W.heap.size sl i a c := by
  obtain ⟨n0, n1, n2, n3⟩ := box_new W c.k c.n c.t
  exact ⟨h.next n2, n0, n1, h.hs, n3⟩
/-- A cell of the piece's box is set. -/
theorem PD.set {w W : World} {b H D : Nat} {sl : Value} {i a : Int} {c : C} (h : PD w W b H D sl i a c) (j : Nat) (u : Value) (c' : C) (hu : (C.cells c).set j u = C.cells c') (hj : j < 3) : PD w (W.setCell ⟨D, j, none⟩ u) b H D sl i a c' := by
  have far : ∀ g i, g ≠ D → (W.setCell ⟨D, j, none⟩ u).cell? ⟨g, i, none⟩ = W.cell? ⟨g, i, none⟩ := fun g i hg => World.cell?_setCell_far _ _ _ _ (by simp only [ne_eq]; exact fun e => hg e.symm)
  have hH := h.pk.hH
  have hb := h.pk.hb
  have hd := h.hd
  obtain ⟨x0, x1, x2⟩ := h.pk.r
  obtain ⟨y0, y1, y2⟩ := h.d
  have oth : ∀ i, j ≠ i → (W.setCell ⟨D, j, none⟩ u).cell? ⟨D, i, none⟩ = W.cell? ⟨D, i, none⟩ := fun i hj => World.cell?_setCell_other _ _ _ _ (by simp only [ne_eq, Addr.mk.injEq, true_and, and_true]; exact hj)
  refine ⟨⟨h.pk.below.setCell (p := ⟨D, j, none⟩) (by simp; omega) _, (far _ _ (by omega)).trans h.pk.g0, (far _ _ (by omega)).trans h.pk.g1, (far _ _ (by omega)).trans h.pk.g2, ⟨(far _ _ (by omega)).trans x0, (far _ _ (by omega)).trans x1, (far _ _ (by omega)).trans x2⟩, fun i => by rw [World.frozen?_setCell]; exact h.pk.rz i, hH, hb, by simpa using h.pk.hs⟩, ?_, fun i => by rw [World.frozen?_setCell]; exact h.dz i, hd, by simpa using h.ds⟩
  rcases (show j = 0 ∨ j = 1 ∨ j = 2 by omega) with rfl | rfl | rfl <;> simp only [C.cells, List.set_cons_zero, List.set_cons_succ, List.cons.injEq, Value.int.injEq, Value.string.injEq, true_and, and_true] at hu
  · obtain ⟨rfl, e1, e2⟩ := hu
    refine ⟨World.cell?_setCell_same _ _ _ y0, ?_, ?_⟩
    · rw [oth _ (by omega), ← e1]; exact y1
    · rw [oth _ (by omega), ← e2]; exact y2
  · obtain ⟨e0, rfl, e2⟩ := hu
    refine ⟨?_, World.cell?_setCell_same _ _ _ y1, ?_⟩
    · rw [oth _ (by omega), ← e0]; exact y0
    · rw [oth _ (by omega), ← e2]; exact y2
  · obtain ⟨e0, e1, rfl⟩ := hu
    refine ⟨?_, ?_, World.cell?_setCell_same _ _ _ y2⟩
    · rw [oth _ (by omega), ← e0]; exact y0
    · rw [oth _ (by omega), ← e1]; exact y1

set_option maxHeartbeats 2000000 in
theorem peek_num (b n cap g o i : Nat) (k m a : Int) (w : World) (h0 : w.cell? ⟨b, 0, none⟩ = some (.slice (some ⟨g, o, none⟩) n cap)) (h1 : w.cell? ⟨b, 1, none⟩ = some (.int .i64 i)) (h2 : w.cell? ⟨b, 2, none⟩ = some (.int .i64 a)) (hi : i < n) (_hn : n ≤ 4096) (hc : PieceAt w g (o + i * 3) ⟨k, m, e0⟩) (hk : k ≠ 1) (_ha : 0 ≤ a) (hm : m ≤ 4096) (ham : a ≤ m) :
    Calls Try.prog 30 #[.pointer (some ⟨b, 0, none⟩)] w (PeekW ⟨k, m - a, e0⟩ true w) := by
  have K0 : Hid (PK w (w.alloc (.cells #[.int .i64 0, .int .i64 0, .string ⟨#[]⟩] 41)) b w.heap.size (.slice (some ⟨g, o, none⟩) n cap) i a) := Lib.hid (PK.start h0 h1 h2)
  have HC := Lib.hid hc
  clear h0 h1 h2 hc
  have kb : (k == 1) = false := beq_eq_false_iff_ne.2 hk
  clear hk
  have hi0 : (0 : Int) ≤ (i : Int) := by omega
  have hi1 : (i : Int) < (n : Int) := by omega
  go_enter Try.func30, Try.ntmps30
  go_wp2_with fail
  generalize w.alloc (.cells #[.int .i64 0, .int .i64 0, .string ⟨#[]⟩] 41) = W at *
  generalize hH : w.heap.size = H at K0 ⊢
  clear hH
  have g0 := K0.out.g0
  have g1 := K0.out.g1
  have hb := K0.out.hb
  go_quiet (fail)
  have K1 := Lib.hid (K0.out.next (dr_below W nq))
  clear K0 g0 g1
  generalize W.drewN nq = W1 at K1 ⊢
  go_wp2_with fail
  have g0 := K1.out.g0
  have g1 := K1.out.g1
  obtain ⟨c0, c1, c2⟩ := HC.out.below K1.out.below
  dsimp only [e0] at c0 c1 c2
  have hbW : b < W1.heap.size := World.block_lt_of_cell? W1 ⟨b, 0, none⟩ g0
  have hgW : g < W1.heap.size := World.block_lt_of_cell? W1 ⟨g, _, none⟩ c0
  go_region
  have D1 : Hid (PD w (W1.alloc (.cells #[.int .i64 k, .int .i64 m, .string ⟨#[]⟩] 41)).drew b H W1.heap.size (.slice (some ⟨g, o, none⟩) n cap) i a ⟨k, m, e0⟩) := Lib.hid ((PD.start K1.out ⟨k, m, e0⟩).next (dr_below _ 1))
  clear g0 g1 c0 c1 c2 hbW hgW K1
  generalize (W1.alloc (.cells #[.int .i64 k, .int .i64 m, .string ⟨#[]⟩] 41)).drew = W2 at D1 ⊢
  generalize W1.heap.size = D at D1 ⊢
  obtain ⟨d0, d1, d2⟩ := D1.out.d
  dsimp only [e0] at d0 d1 d2
  have g2 := D1.out.pk.g2
  have dz := D1.out.dz
  have hdH := D1.out.hd
  go_wp2_with fail
  go_region
  have D2 := Lib.hid ((D1.out.set 1 (.int .i64 (m - a)) ⟨k, m - a, e0⟩ rfl (by omega)).next (dr_below _ 1))
  clear d0 d1 d2 g2 dz D1
  (try dsimp only [World.drewN] at D2)
  replace D2 : Hid (PD w (W2.setCell ⟨D, 1, none⟩ (.int .i64 (m - a))).drew b H D (.slice (some ⟨g, o, none⟩) n cap) i a ⟨k, m - a, e0⟩) := D2
  generalize (W2.setCell ⟨D, 1, none⟩ (.int .i64 (m - a))).drew = W3 at D2 ⊢
  obtain ⟨d0, d1, d2⟩ := D2.out.d
  obtain ⟨r0, r1, r2⟩ := D2.out.pk.r
  dsimp only [e0] at d0 d1 d2 r0 r1 r2
  have rz := D2.out.pk.rz
  go_wp2_with fail
  have F := Lib.hid (D2.out.pk.final k (m - a) ⟨#[]⟩ _ rfl)
  clear d0 d1 d2 r0 r1 r2 rz D2
  (try simp only [Exit.inBlock, Exit.then])
  generalize ((W3.setCell ⟨H, 0, none⟩ (.int .i64 k)).setCell ⟨H, 1, none⟩ (.int .i64 (m - a))).setCell ⟨H, 2, none⟩ (.string ⟨#[]⟩) = W4 at F ⊢
  obtain ⟨q0, q1, q2⟩ := F.out.1
  refine bodyPost_ret (v := .tuple #[.agg #[.int .i64 k, .int .i64 (m - a), .string ⟨#[]⟩], .bool true]) (by rw [results_cell_tmp rfl]; go_simp) rfl ⟨rfl, F.out.2⟩

set_option maxHeartbeats 2000000 in
theorem peek_put (b n cap g o i : Nat) (t : ByteArray) (a : Int) (w : World) (h0 : w.cell? ⟨b, 0, none⟩ = some (.slice (some ⟨g, o, none⟩) n cap)) (h1 : w.cell? ⟨b, 1, none⟩ = some (.int .i64 i)) (h2 : w.cell? ⟨b, 2, none⟩ = some (.int .i64 a)) (hi : i < n) (_hn : n ≤ 4096) (hc : PieceAt w g (o + i * 3) ⟨1, 0, t⟩) (_ha : 0 ≤ a) (_hm : (t.size : Int) ≤ 4096) (ham : a ≤ t.size) :
    Calls Try.prog 30 #[.pointer (some ⟨b, 0, none⟩)] w (PeekW ⟨1, 0, t.extract a.toNat t.size⟩ true w) := by
  have K0 : Hid (PK w (w.alloc (.cells #[.int .i64 0, .int .i64 0, .string ⟨#[]⟩] 41)) b w.heap.size (.slice (some ⟨g, o, none⟩) n cap) i a) := Lib.hid (PK.start h0 h1 h2)
  have HC := Lib.hid hc
  clear h0 h1 h2 hc
  have hi0 : (0 : Int) ≤ (i : Int) := by omega
  have hi1 : (i : Int) < (n : Int) := by omega
  go_enter Try.func30, Try.ntmps30
  go_wp2_with fail
  generalize w.alloc (.cells #[.int .i64 0, .int .i64 0, .string ⟨#[]⟩] 41) = W at *
  generalize hH : w.heap.size = H at K0 ⊢
  clear hH
  have g0 := K0.out.g0
  have g1 := K0.out.g1
  have hb := K0.out.hb
  go_quiet (fail)
  have K1 := Lib.hid (K0.out.next (dr_below W nq))
  clear K0 g0 g1
  generalize W.drewN nq = W1 at K1 ⊢
  go_wp2_with fail
  have g0 := K1.out.g0
  have g1 := K1.out.g1
  obtain ⟨c0, c1, c2⟩ := HC.out.below K1.out.below
  dsimp only [e0] at c0 c1 c2
  have hbW : b < W1.heap.size := World.block_lt_of_cell? W1 ⟨b, 0, none⟩ g0
  have hgW : g < W1.heap.size := World.block_lt_of_cell? W1 ⟨g, _, none⟩ c0
  go_region
  have D1 : Hid (PD w (W1.alloc (.cells #[.int .i64 1, .int .i64 0, .string t] 41)).drew b H W1.heap.size (.slice (some ⟨g, o, none⟩) n cap) i a ⟨1, 0, t⟩) := Lib.hid ((PD.start K1.out ⟨1, 0, t⟩).next (dr_below _ 1))
  clear g0 g1 c0 c1 c2 hbW hgW K1
  generalize (W1.alloc (.cells #[.int .i64 1, .int .i64 0, .string t] 41)).drew = W2 at D1 ⊢
  generalize W1.heap.size = D at D1 ⊢
  obtain ⟨d0, d1, d2⟩ := D1.out.d
  dsimp only [e0] at d0 d1 d2
  have g2 := D1.out.pk.g2
  have dz := D1.out.dz
  have hdH := D1.out.hd
  go_wp2_with fail
  go_region
  have D2 := Lib.hid ((D1.out.set 2 (.string (t.extract a.toNat t.size)) ⟨1, 0, t.extract a.toNat t.size⟩ rfl (by omega)).next (dr_below _ 1))
  clear d0 d1 d2 g2 dz D1
  (try dsimp only [World.drewN] at D2)
  replace D2 : Hid (PD w (W2.setCell ⟨D, 2, none⟩ (.string (t.extract a.toNat t.size))).drew b H D (.slice (some ⟨g, o, none⟩) n cap) i a ⟨1, 0, t.extract a.toNat t.size⟩) := D2
  generalize (W2.setCell ⟨D, 2, none⟩ (.string (t.extract a.toNat t.size))).drew = W3 at D2 ⊢
  obtain ⟨d0, d1, d2⟩ := D2.out.d
  obtain ⟨r0, r1, r2⟩ := D2.out.pk.r
  dsimp only [e0] at d0 d1 d2 r0 r1 r2
  have rz := D2.out.pk.rz
  go_wp2_with fail
  have F := Lib.hid (D2.out.pk.final 1 0 (t.extract a.toNat t.size) _ rfl)
  clear d0 d1 d2 r0 r1 r2 rz D2
  (try simp only [Exit.inBlock, Exit.then])
  generalize ((W3.setCell ⟨H, 0, none⟩ (.int .i64 1)).setCell ⟨H, 1, none⟩ (.int .i64 0)).setCell ⟨H, 2, none⟩ (.string (t.extract a.toNat t.size)) = W4 at F ⊢
  obtain ⟨q0, q1, q2⟩ := F.out.1
  refine bodyPost_ret (v := .tuple #[.agg #[.int .i64 1, .int .i64 0, .string (t.extract a.toNat t.size)], .bool true]) (by rw [results_cell_tmp rfl]; go_simp) rfl ⟨rfl, F.out.2⟩

end Go.Proofs.Ytkknkannjoijbaa
