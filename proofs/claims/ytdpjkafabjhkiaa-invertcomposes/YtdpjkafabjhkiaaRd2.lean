/-
  The walk of a reader's Take. Conditions: as each theorem's premises say.
-/
import Derived.Test.YtdpjkafabjhkiaaRd1
namespace Go.Proofs.Ytdpjkafabjhkiaa
open Go.RowKit

theorem grown_set_new {w w1 : World} {row : Option Nat} {g i : Nat} (h : w.grownBy w1 row) (hg : w.heap.size ≤ g) (u : Value) : w.grownBy (w1.setCell ⟨g, i, none⟩ u) row :=
  ⟨h.os, h.tape, h.output, by simpa using h.size, fun k hk hne => by
    have : k ≠ g := by omega
    rw [← h.block k hk hne]
    simp [World.setCell, Array.getElem?_modify, this.symm]⟩

/-- A reader under way: its own cells, three boxes of the call's own. -/
structure TM (w W : World) (b H : Nat) (sl : Value) (a : Int) (c pt : C) : Prop where
  grown : w.grownBy W (some b)
  c0 : W.cell? ⟨b, 0, none⟩ = some sl
  c1 : W.cell? ⟨b, 1, none⟩ = some (.int .i64 a)
  fz : ∀ i, W.frozen? ⟨b, i, none⟩ = false
  d : PieceAt W (H + 1) 0 c
  e : PieceAt W (H + 1 + 1) 0 pt
  r : PieceAt W H 0 ⟨0, 0, e0⟩
  rz : ∀ i, W.frozen? ⟨H, i, none⟩ = false
  ez : ∀ i, W.frozen? ⟨H + 1 + 1, i, none⟩ = false
  hH : H = w.heap.size
  hb : b < H
  hs : H + 1 + 1 < W.heap.size
theorem TM.below {w W W' : World} {b H : Nat} {sl : Value} {a : Int} {c pt : C} (h : TM w W b H sl a c pt) (hb : Below W.heap.size W W') : TM w W' b H sl a c pt :=
  ⟨grown_trans h.grown (grown_of_below hb none) (fun g h => by cases h), cell_later hb h.c0, cell_later hb h.c1, fun i => (hb.frozen (p := ⟨b, i, none⟩) (by have := h.hb; have := h.hs; dsimp only; omega)).trans (h.fz i), h.d.below hb, h.e.below hb, h.r.below hb, fun i => (hb.frozen (p := ⟨H, i, none⟩) (by have := h.hs; dsimp only; omega)).trans (h.rz i), fun i => (hb.frozen (p := ⟨H + 1 + 1, i, none⟩) h.hs).trans (h.ez i), h.hH, h.hb, Nat.lt_of_lt_of_le h.hs hb.size⟩
theorem TM.start {w : World} {b : Nat} {sl : Value} {a : Int} (h : w.cell? ⟨b, 0, none⟩ = some sl) (h1 : w.cell? ⟨b, 1, none⟩ = some (.int .i64 a)) (hfz : ∀ i, w.frozen? ⟨b, i, none⟩ = false) (c pt : C) (t0 : ByteArray) (ht : t0 = e0) :
    TM w (((w.alloc (.cells #[.int .i64 0, .int .i64 0, .string t0] 40)).alloc (.cells #[.int .i64 c.k, .int .i64 c.n, .string c.t] 40)).alloc (.cells #[.int .i64 pt.k, .int .i64 pt.n, .string pt.t] 40)) b w.heap.size sl a c pt := by
  subst ht
  have hb := World.block_lt_of_cell? w ⟨b, 0, none⟩ h
  have B1 := (Below.refl w.heap.size w).alloc (Nat.le_refl _) (.cells #[.int .i64 0, .int .i64 0, .string e0] 40)
  have n1 := new_piece w 0 0 e0
  have z1 : ∀ i, (w.alloc (.cells #[.int .i64 0, .int .i64 0, .string e0] 40)).frozen? ⟨w.heap.size, i, none⟩ = false := fun i => by simp [World.frozen?_alloc_mark]
  have s1 : (w.alloc (.cells #[.int .i64 0, .int .i64 0, .string e0] 40)).heap.size = w.heap.size + 1 := by simp
  generalize w.alloc (.cells #[.int .i64 0, .int .i64 0, .string e0] 40) = w1 at *
  have B2 := (Below.refl w1.heap.size w1).alloc (Nat.le_refl _) (.cells #[.int .i64 c.k, .int .i64 c.n, .string c.t] 40)
  have n2 := new_piece w1 c.k c.n c.t
  have s2 : (w1.alloc (.cells #[.int .i64 c.k, .int .i64 c.n, .string c.t] 40)).heap.size = w1.heap.size + 1 := by simp
  generalize w1.alloc (.cells #[.int .i64 c.k, .int .i64 c.n, .string c.t] 40) = w2 at *
  have B3 := (Below.refl w2.heap.size w2).alloc (Nat.le_refl _) (.cells #[.int .i64 pt.k, .int .i64 pt.n, .string pt.t] 40)
  have n3 := new_piece w2 pt.k pt.n pt.t
  have z3 : ∀ i, (w2.alloc (.cells #[.int .i64 pt.k, .int .i64 pt.n, .string pt.t] 40)).frozen? ⟨w2.heap.size, i, none⟩ = false := fun i => by simp [World.frozen?_alloc_mark]
  have s3 : (w2.alloc (.cells #[.int .i64 pt.k, .int .i64 pt.n, .string pt.t] 40)).heap.size = w2.heap.size + 1 := by simp
  generalize w2.alloc (.cells #[.int .i64 pt.k, .int .i64 pt.n, .string pt.t] 40) = w3 at *
  have B23 := B2.trans (B3.mono B2.size)
  have B := B1.trans (B23.mono B1.size)
  rw [s2, s1] at n3
  rw [s1] at n2
  exact ⟨grown_of_below B _, cell_later B h, cell_later B h1, fun i => (B.frozen (p := ⟨b, i, none⟩) hb).trans (hfz i), n2.below B3, n3, n1.below B23, fun i => (B23.frozen (p := ⟨w.heap.size, i, none⟩) (by simp; omega)).trans (z1 i), fun i => by have := z3 i; rwa [s2, s1] at this, rfl, hb, by omega⟩
theorem TM.set1 {w W : World} {b H : Nat} {sl : Value} {a : Int} {c pt : C} (h : TM w W b H sl a c pt) (x : Int) : TM w (W.setCell ⟨b, 1, none⟩ (.int .i64 x)) b H sl x c pt := by
  have far : ∀ g i, g ≠ b → (W.setCell ⟨b, 1, none⟩ (.int .i64 x)).cell? ⟨g, i, none⟩ = W.cell? ⟨g, i, none⟩ := fun g i hg => World.cell?_setCell_far _ _ _ _ (by simpa using hg.symm)
  have hb := h.hb
  refine ⟨grown_set h.grown _, (World.cell?_setCell_other _ _ _ _ (by simp)).trans h.c0, World.cell?_setCell_same _ _ _ h.c1, fun i => by rw [World.frozen?_setCell]; exact h.fz i, ?_, ?_, ?_, fun i => by rw [World.frozen?_setCell]; exact h.rz i, fun i => by rw [World.frozen?_setCell]; exact h.ez i, h.hH, hb, by simpa using h.hs⟩
  · obtain ⟨x0, x1, x2⟩ := h.d
    exact ⟨(far _ _ (by omega)).trans x0, (far _ _ (by omega)).trans x1, (far _ _ (by omega)).trans x2⟩
  · obtain ⟨x0, x1, x2⟩ := h.e
    exact ⟨(far _ _ (by omega)).trans x0, (far _ _ (by omega)).trans x1, (far _ _ (by omega)).trans x2⟩
  · obtain ⟨x0, x1, x2⟩ := h.r
    exact ⟨(far _ _ (by omega)).trans x0, (far _ _ (by omega)).trans x1, (far _ _ (by omega)).trans x2⟩

theorem TM.set0 {w W : World} {b H : Nat} {sl : Value} {a : Int} {c pt : C} (h : TM w W b H sl a c pt) (x : Value) : TM w (W.setCell ⟨b, 0, none⟩ x) b H x a c pt := by
  have far : ∀ g i, g ≠ b → (W.setCell ⟨b, 0, none⟩ x).cell? ⟨g, i, none⟩ = W.cell? ⟨g, i, none⟩ := fun g i hg => World.cell?_setCell_far _ _ _ _ (by simpa using hg.symm)
  have hb := h.hb
  refine ⟨grown_set h.grown _, World.cell?_setCell_same _ _ _ h.c0, (World.cell?_setCell_other _ _ _ _ (by simp)).trans h.c1, fun i => by rw [World.frozen?_setCell]; exact h.fz i, ?_, ?_, ?_, fun i => by rw [World.frozen?_setCell]; exact h.rz i, fun i => by rw [World.frozen?_setCell]; exact h.ez i, h.hH, hb, by simpa using h.hs⟩
  · obtain ⟨x0, x1, x2⟩ := h.d
    exact ⟨(far _ _ (by omega)).trans x0, (far _ _ (by omega)).trans x1, (far _ _ (by omega)).trans x2⟩
  · obtain ⟨x0, x1, x2⟩ := h.e
    exact ⟨(far _ _ (by omega)).trans x0, (far _ _ (by omega)).trans x1, (far _ _ (by omega)).trans x2⟩
  · obtain ⟨x0, x1, x2⟩ := h.r
    exact ⟨(far _ _ (by omega)).trans x0, (far _ _ (by omega)).trans x1, (far _ _ (by omega)).trans x2⟩
theorem TM.setE {w W : World} {b H : Nat} {sl : Value} {a : Int} {c pt : C} (h : TM w W b H sl a c pt) (k n : Int) (t : ByteArray) : TM w (((W.setCell ⟨H + 1 + 1, 0, none⟩ (.int .i64 k)).setCell ⟨H + 1 + 1, 1, none⟩ (.int .i64 n)).setCell ⟨H + 1 + 1, 2, none⟩ (.string t)).drew b H sl a c ⟨k, n, t⟩ := by
  have hb := h.hb
  have hH := h.hH
  have far : ∀ (V : World) g i j u, g ≠ H + 1 + 1 → (V.setCell ⟨H + 1 + 1, j, none⟩ u).cell? ⟨g, i, none⟩ = V.cell? ⟨g, i, none⟩ := fun V g i j u hg => World.cell?_setCell_far _ _ _ _ (by simp only [ne_eq]; exact fun e => hg e.symm)
  have oth : ∀ (V : World) i j u, j ≠ i → (V.setCell ⟨H + 1 + 1, j, none⟩ u).cell? ⟨H + 1 + 1, i, none⟩ = V.cell? ⟨H + 1 + 1, i, none⟩ := fun V i j u hj => World.cell?_setCell_other _ _ _ _ (by simp only [ne_eq, Addr.mk.injEq, true_and, and_true]; exact hj)
  obtain ⟨e0, e1, e2⟩ := h.e
  refine ⟨grown_drew (grown_set_new (grown_set_new (grown_set_new h.grown (by omega) _) (by omega) _) (by omega) _), ?_, ?_, ?_, ?_, ?_, ?_, ?_, ?_, hH, hb, ?_⟩
  · rw [World.cell?_drew, far _ _ _ _ _ (by omega), far _ _ _ _ _ (by omega), far _ _ _ _ _ (by omega)]; exact h.c0
  · rw [World.cell?_drew, far _ _ _ _ _ (by omega), far _ _ _ _ _ (by omega), far _ _ _ _ _ (by omega)]; exact h.c1
  · intro i; show World.frozen? (((W.setCell _ _).setCell _ _).setCell _ _) _ = _; rw [World.frozen?_setCell, World.frozen?_setCell, World.frozen?_setCell]; exact h.fz i
  · obtain ⟨x0, x1, x2⟩ := h.d
    refine ⟨?_, ?_, ?_⟩ <;> rw [World.cell?_drew, far _ _ _ _ _ (by omega), far _ _ _ _ _ (by omega), far _ _ _ _ _ (by omega)] <;> assumption
  · refine ⟨?_, ?_, ?_⟩ <;> rw [World.cell?_drew]
    · rw [oth _ _ _ _ (by omega), oth _ _ _ _ (by omega)]; exact World.cell?_setCell_same _ _ _ e0
    · rw [oth _ _ _ _ (by omega)]; exact World.cell?_setCell_same _ _ _ ((oth _ _ _ _ (by omega)).trans e1)
    · exact World.cell?_setCell_same _ _ _ ((oth _ _ _ _ (by omega)).trans ((oth _ _ _ _ (by omega)).trans e2))
  · obtain ⟨x0, x1, x2⟩ := h.r
    refine ⟨?_, ?_, ?_⟩ <;> rw [World.cell?_drew, far _ _ _ _ _ (by omega), far _ _ _ _ _ (by omega), far _ _ _ _ _ (by omega)] <;> assumption
  · intro i; show World.frozen? (((W.setCell _ _).setCell _ _).setCell _ _) _ = _; rw [World.frozen?_setCell, World.frozen?_setCell, World.frozen?_setCell]; exact h.rz i
  · intro i; show World.frozen? (((W.setCell _ _).setCell _ _).setCell _ _) _ = _; rw [World.frozen?_setCell, World.frozen?_setCell, World.frozen?_setCell]; exact h.ez i
  · have := h.hs; show _ < (((W.setCell _ _).setCell _ _).setCell _ _).heap.size; simpa using this
/-- The answer is laid into its own box. -/
theorem TM.final {w W : World} {b H : Nat} {sl : Value} {a : Int} {c pt : C} (h : TM w W b H sl a c pt) (k n : Int) (t : ByteArray) (W' : World) (hW : W' = ((W.setCell ⟨H, 0, none⟩ (.int .i64 k)).setCell ⟨H, 1, none⟩ (.int .i64 n)).setCell ⟨H, 2, none⟩ (.string t)) :
    (W'.cell? ⟨H, 0, none⟩ = some (.int .i64 k) ∧ W'.cell? ⟨H, 1, none⟩ = some (.int .i64 n) ∧ W'.cell? ⟨H, 2, none⟩ = some (.string t)) ∧
    w.grownBy W' (some b) ∧ W'.cell? ⟨b, 0, none⟩ = some sl ∧ W'.cell? ⟨b, 1, none⟩ = some (.int .i64 a) ∧ ∀ i, W'.frozen? ⟨b, i, none⟩ = false := by
  subst hW
  obtain ⟨r0, r1, r2⟩ := h.r
  have hb := h.hb
  have hH := h.hH
  have far : ∀ (V : World) i j u, (V.setCell ⟨H, j, none⟩ u).cell? ⟨b, i, none⟩ = V.cell? ⟨b, i, none⟩ := fun V i j u => World.cell?_setCell_far _ _ _ _ (by simp; omega)
  have oth : ∀ (V : World) i j u, j ≠ i → (V.setCell ⟨H, j, none⟩ u).cell? ⟨H, i, none⟩ = V.cell? ⟨H, i, none⟩ := fun V i j u hj => World.cell?_setCell_other _ _ _ _ (by simp only [ne_eq, Addr.mk.injEq, true_and, and_true]; exact hj)
  refine ⟨⟨?_, ?_, ?_⟩, grown_set_new (grown_set_new (grown_set_new h.grown (by omega) _) (by omega) _) (by omega) _, by rw [far, far, far]; exact h.c0, by rw [far, far, far]; exact h.c1, fun i => by rw [World.frozen?_setCell, World.frozen?_setCell, World.frozen?_setCell]; exact h.fz i⟩
  · rw [oth _ _ _ _ (by omega), oth _ _ _ _ (by omega)]; exact World.cell?_setCell_same _ _ _ r0
  · rw [oth _ _ _ _ (by omega)]; exact World.cell?_setCell_same _ _ _ ((oth _ _ _ _ (by omega)).trans r1)
  · exact World.cell?_setCell_same _ _ _ ((oth _ _ _ _ (by omega)).trans ((oth _ _ _ _ (by omega)).trans r2))

/-- What Take answers. -/
def TakeW (b : Nat) (c : C) (sl : Value) (a : Int) (w : World) (e : Ending) (w' : World) : Prop :=
  e = .returned c.val ∧ w.grownBy w' (some b) ∧ w'.cell? ⟨b, 0, none⟩ = some sl ∧ w'.cell? ⟨b, 1, none⟩ = some (.int .i64 a) ∧ ∀ i, w'.frozen? ⟨b, i, none⟩ = false

set_option maxHeartbeats 2000000 in
theorem take_num_mid (b n cap g o : Nat) (k m : Int) (a x : Int) (w : World) (h : w.cell? ⟨b, 0, none⟩ = some (.slice (some ⟨g, o, none⟩) (n + 1) cap)) (h1 : w.cell? ⟨b, 1, none⟩ = some (.int .i64 a)) (hfz : ∀ i, w.frozen? ⟨b, i, none⟩ = false) (hc : PieceAt w g o ⟨k, m, e0⟩) (hk : k ≠ 1) (_hcap : n + 1 ≤ cap) (h0 : 0 ≤ a) (hx : 0 ≤ x) (h2 : a + x < m) (hm : m ≤ 4096) :
    Calls Try.prog 35 #[.pointer (some ⟨b, 0, none⟩), .int .i64 x] w (TakeW b ⟨k, x, e0⟩ (.slice (some ⟨g, o, none⟩) (n + 1) cap) (a + x) w) := by
  have hb := World.block_lt_of_cell? w ⟨b, 0, none⟩ h
  obtain ⟨c0, c1, c2⟩ := hc
  have hg := World.block_lt_of_cell? w ⟨g, o, none⟩ c0
  dsimp only [e0] at c0 c1 c2
  have kb : (k == 1) = false := beq_eq_false_iff_ne.2 hk
  clear hk
  have hmx : a + x ≤ 4096 := by omega
  have T0 : Hid (TM w (((w.alloc (.cells #[.int .i64 0, .int .i64 0, .string ⟨#[]⟩] 40)).alloc (.cells #[.int .i64 k, .int .i64 m, .string ⟨#[]⟩] 40)).alloc (.cells #[.int .i64 k, .int .i64 x, .string ⟨#[]⟩] 40)) b w.heap.size (.slice (some ⟨g, o, none⟩) (n + 1) cap) a ⟨k, m, e0⟩ ⟨k, x, e0⟩) := Lib.hid (TM.start h h1 hfz ⟨k, m, e0⟩ ⟨k, x, e0⟩ ⟨#[]⟩ rfl)
  go_enter Try.func35, Try.ntmps35
  have y1 := T0.out.c1
  have y2 := T0.out.fz
  go_wp2
  have T1 := Lib.hid (T0.out.set1 (a + x))
  clear y1 y2 T0 h h1 hfz c0 c1 c2
  generalize (((w.alloc (.cells #[.int .i64 0, .int .i64 0, .string ⟨#[]⟩] 40)).alloc (.cells #[.int .i64 k, .int .i64 m, .string ⟨#[]⟩] 40)).alloc (.cells #[.int .i64 k, .int .i64 x, .string ⟨#[]⟩] 40)).setCell ⟨b, 1, none⟩ (.int .i64 (a + x)) = W at T1 ⊢
  generalize hH : w.heap.size = H at T1 ⊢
  clear hH
  have x0 : ∀ X : Ext W, X.w.cell? ⟨b, 1, none⟩ = some (.int .i64 (a + x)) := fun X => X.cell T1.out.c1
  have x1 : ∀ X : Ext W, X.w.cell? ⟨H + 1, 0, none⟩ = some (.int .i64 k) := fun X => X.cell T1.out.d.1
  have x2 : ∀ X : Ext W, X.w.cell? ⟨H + 1, 1, none⟩ = some (.int .i64 m) := fun X => X.cell T1.out.d.2.1
  have x3 : ∀ X : Ext W, X.w.cell? ⟨H + 1, 2, none⟩ = some (.string ⟨#[]⟩) := fun X => X.cell T1.out.d.2.2
  have he : (a + x == m) = false := beq_eq_false_iff_ne.2 (by omega)
  refine wp_region_ext (by kernel_rfl) (by kernel_rfl) ?_
  repeat (go_big_quiet_step ((go_at_call 28; exact Ext.calls (size_any _ _ _ _ (by omega) (by omega) (by decide)))))
  refine wpQuiet_nil ?_
  rintro _ ⟨X, rfl⟩
  clear x0 x1 x2 x3
  have T2 := Lib.hid (T1.out.below X.below)
  clear T1
  generalize X.w = W2 at T2 ⊢
  clear X
  have c0 := T2.out.c0
  have c1 := T2.out.c1
  have c3 := T2.out.fz
  obtain ⟨d0, d1, d2⟩ := T2.out.d
  obtain ⟨e1, e2, e3⟩ := T2.out.e
  obtain ⟨r0, r1, r2⟩ := T2.out.r
  have r3 := T2.out.rz
  dsimp only [e0] at d0 d1 d2 e1 e2 e3 r0 r1 r2
  have hbH := T2.out.hb
  go_wp2
  have F := Lib.hid (T2.out.final k x ⟨#[]⟩ _ rfl)
  clear c0 c1 c3 d0 d1 d2 e1 e2 e3 r0 r1 r2 r3 T2
  (try simp only [Exit.inBlock, Exit.then])
  generalize ((W2.setCell ⟨H, 0, none⟩ (.int .i64 k)).setCell ⟨H, 1, none⟩ (.int .i64 x)).setCell ⟨H, 2, none⟩ (.string ⟨#[]⟩) = W3 at F ⊢
  obtain ⟨q0, q1, q2⟩ := F.out.1
  refine bodyPost_ret (v := .agg #[.int .i64 k, .int .i64 x, .string ⟨#[]⟩]) (by rw [results_cell1 rfl]; go_simp) rfl ⟨rfl, F.out.2⟩

set_option maxHeartbeats 2000000 in
theorem take_num_end (b n q g o : Nat) (k m : Int) (a x : Int) (w : World) (h : w.cell? ⟨b, 0, none⟩ = some (.slice (some ⟨g, o, none⟩) (n + 1) (q + 2))) (h1 : w.cell? ⟨b, 1, none⟩ = some (.int .i64 a)) (hfz : ∀ i, w.frozen? ⟨b, i, none⟩ = false) (hc : PieceAt w g o ⟨k, m, e0⟩) (hk : k ≠ 1) (_hcap : n ≤ q + 1) (h0 : 0 ≤ a) (hx : 0 ≤ x) (h2 : a + x = m) (hm : m ≤ 4096) :
    Calls Try.prog 35 #[.pointer (some ⟨b, 0, none⟩), .int .i64 x] w (TakeW b ⟨k, x, e0⟩ (.slice (some ⟨g, o + 3, none⟩) n (q + 1)) 0 w) := by
  have hb := World.block_lt_of_cell? w ⟨b, 0, none⟩ h
  obtain ⟨c0, c1, c2⟩ := hc
  have hg := World.block_lt_of_cell? w ⟨g, o, none⟩ c0
  dsimp only [e0] at c0 c1 c2
  have kb : (k == 1) = false := beq_eq_false_iff_ne.2 hk
  clear hk
  subst h2
  have hmx : a + x ≤ 4096 := by omega
  have T0 : Hid (TM w (((w.alloc (.cells #[.int .i64 0, .int .i64 0, .string ⟨#[]⟩] 40)).alloc (.cells #[.int .i64 k, .int .i64 (a + x), .string ⟨#[]⟩] 40)).alloc (.cells #[.int .i64 k, .int .i64 x, .string ⟨#[]⟩] 40)) b w.heap.size (.slice (some ⟨g, o, none⟩) (n + 1) (q + 2)) a ⟨k, (a + x), e0⟩ ⟨k, x, e0⟩) := Lib.hid (TM.start h h1 hfz ⟨k, (a + x), e0⟩ ⟨k, x, e0⟩ ⟨#[]⟩ rfl)
  go_enter Try.func35, Try.ntmps35
  have y1 := T0.out.c1
  have y2 := T0.out.fz
  go_wp2
  have T1 := Lib.hid (T0.out.set1 (a + x))
  clear y1 y2 T0 h h1 hfz c0 c1 c2
  generalize (((w.alloc (.cells #[.int .i64 0, .int .i64 0, .string ⟨#[]⟩] 40)).alloc (.cells #[.int .i64 k, .int .i64 (a + x), .string ⟨#[]⟩] 40)).alloc (.cells #[.int .i64 k, .int .i64 x, .string ⟨#[]⟩] 40)).setCell ⟨b, 1, none⟩ (.int .i64 (a + x)) = W at T1 ⊢
  generalize hH : w.heap.size = H at T1 ⊢
  clear hH
  have x0 : ∀ X : Ext W, X.w.cell? ⟨b, 1, none⟩ = some (.int .i64 (a + x)) := fun X => X.cell T1.out.c1
  have x1 : ∀ X : Ext W, X.w.cell? ⟨H + 1, 0, none⟩ = some (.int .i64 k) := fun X => X.cell T1.out.d.1
  have x2 : ∀ X : Ext W, X.w.cell? ⟨H + 1, 1, none⟩ = some (.int .i64 (a + x)) := fun X => X.cell T1.out.d.2.1
  have x3 : ∀ X : Ext W, X.w.cell? ⟨H + 1, 2, none⟩ = some (.string ⟨#[]⟩) := fun X => X.cell T1.out.d.2.2
  have he : (a + x == (a + x)) = true := beq_iff_eq.2 (by omega)
  refine wp_region_ext (by kernel_rfl) (by kernel_rfl) ?_
  repeat (go_big_quiet_step ((go_at_call 28; exact Ext.calls (size_any _ _ _ _ (by omega) (by omega) (by decide)))))
  refine wpQuiet_nil ?_
  rintro _ ⟨X, rfl⟩
  clear x0 x1 x2 x3
  have T2 := Lib.hid (T1.out.below X.below)
  clear T1
  generalize X.w = W2 at T2 ⊢
  clear X
  have c0 := T2.out.c0
  have c1 := T2.out.c1
  have c3 := T2.out.fz
  obtain ⟨d0, d1, d2⟩ := T2.out.d
  obtain ⟨e1, e2, e3⟩ := T2.out.e
  obtain ⟨r0, r1, r2⟩ := T2.out.r
  have r3 := T2.out.rz
  dsimp only [e0] at d0 d1 d2 e1 e2 e3 r0 r1 r2
  have hbH := T2.out.hb
  go_wp2
  have F := Lib.hid (((T2.out.set0 (.slice (some ⟨g, o + 3, none⟩) n (q + 1))).set1 0).final k x ⟨#[]⟩ _ rfl)
  clear c0 c1 c3 d0 d1 d2 e1 e2 e3 r0 r1 r2 r3 T2
  (try simp only [Exit.inBlock, Exit.then])
  generalize ((((W2.setCell ⟨b, 0, none⟩ (.slice (some ⟨g, o + 3, none⟩) n (q + 1))).setCell ⟨b, 1, none⟩ (.int .i64 0)).setCell ⟨H, 0, none⟩ (.int .i64 k)).setCell ⟨H, 1, none⟩ (.int .i64 x)).setCell ⟨H, 2, none⟩ (.string ⟨#[]⟩) = W3 at F ⊢
  obtain ⟨q0, q1, q2⟩ := F.out.1
  refine bodyPost_ret (v := .agg #[.int .i64 k, .int .i64 x, .string ⟨#[]⟩]) (by rw [results_cell1 rfl]; go_simp) rfl ⟨rfl, F.out.2⟩

set_option maxHeartbeats 2000000 in
theorem take_num_one (b g o : Nat) (k m : Int) (a x : Int) (w : World) (h : w.cell? ⟨b, 0, none⟩ = some (.slice (some ⟨g, o, none⟩) 1 1)) (h1 : w.cell? ⟨b, 1, none⟩ = some (.int .i64 a)) (hfz : ∀ i, w.frozen? ⟨b, i, none⟩ = false) (hc : PieceAt w g o ⟨k, m, e0⟩) (hk : k ≠ 1) (h0 : 0 ≤ a) (hx : 0 ≤ x) (h2 : a + x = m) (hm : m ≤ 4096) :
    Calls Try.prog 35 #[.pointer (some ⟨b, 0, none⟩), .int .i64 x] w (TakeW b ⟨k, x, e0⟩ (.slice (some ⟨g, o, none⟩) 0 0) 0 w) := by
  have hb := World.block_lt_of_cell? w ⟨b, 0, none⟩ h
  obtain ⟨c0, c1, c2⟩ := hc
  have hg := World.block_lt_of_cell? w ⟨g, o, none⟩ c0
  dsimp only [e0] at c0 c1 c2
  have kb : (k == 1) = false := beq_eq_false_iff_ne.2 hk
  clear hk
  subst h2
  have hmx : a + x ≤ 4096 := by omega
  have T0 : Hid (TM w (((w.alloc (.cells #[.int .i64 0, .int .i64 0, .string ⟨#[]⟩] 40)).alloc (.cells #[.int .i64 k, .int .i64 (a + x), .string ⟨#[]⟩] 40)).alloc (.cells #[.int .i64 k, .int .i64 x, .string ⟨#[]⟩] 40)) b w.heap.size (.slice (some ⟨g, o, none⟩) 1 1) a ⟨k, (a + x), e0⟩ ⟨k, x, e0⟩) := Lib.hid (TM.start h h1 hfz ⟨k, (a + x), e0⟩ ⟨k, x, e0⟩ ⟨#[]⟩ rfl)
  go_enter Try.func35, Try.ntmps35
  have y1 := T0.out.c1
  have y2 := T0.out.fz
  go_wp2
  have T1 := Lib.hid (T0.out.set1 (a + x))
  clear y1 y2 T0 h h1 hfz c0 c1 c2
  generalize (((w.alloc (.cells #[.int .i64 0, .int .i64 0, .string ⟨#[]⟩] 40)).alloc (.cells #[.int .i64 k, .int .i64 (a + x), .string ⟨#[]⟩] 40)).alloc (.cells #[.int .i64 k, .int .i64 x, .string ⟨#[]⟩] 40)).setCell ⟨b, 1, none⟩ (.int .i64 (a + x)) = W at T1 ⊢
  generalize hH : w.heap.size = H at T1 ⊢
  clear hH
  have x0 : ∀ X : Ext W, X.w.cell? ⟨b, 1, none⟩ = some (.int .i64 (a + x)) := fun X => X.cell T1.out.c1
  have x1 : ∀ X : Ext W, X.w.cell? ⟨H + 1, 0, none⟩ = some (.int .i64 k) := fun X => X.cell T1.out.d.1
  have x2 : ∀ X : Ext W, X.w.cell? ⟨H + 1, 1, none⟩ = some (.int .i64 (a + x)) := fun X => X.cell T1.out.d.2.1
  have x3 : ∀ X : Ext W, X.w.cell? ⟨H + 1, 2, none⟩ = some (.string ⟨#[]⟩) := fun X => X.cell T1.out.d.2.2
  have he : (a + x == (a + x)) = true := beq_iff_eq.2 (by omega)
  refine wp_region_ext (by kernel_rfl) (by kernel_rfl) ?_
  repeat (go_big_quiet_step ((go_at_call 28; exact Ext.calls (size_any _ _ _ _ (by omega) (by omega) (by decide)))))
  refine wpQuiet_nil ?_
  rintro _ ⟨X, rfl⟩
  clear x0 x1 x2 x3
  have T2 := Lib.hid (T1.out.below X.below)
  clear T1
  generalize X.w = W2 at T2 ⊢
  clear X
  have c0 := T2.out.c0
  have c1 := T2.out.c1
  have c3 := T2.out.fz
  obtain ⟨d0, d1, d2⟩ := T2.out.d
  obtain ⟨e1, e2, e3⟩ := T2.out.e
  obtain ⟨r0, r1, r2⟩ := T2.out.r
  have r3 := T2.out.rz
  dsimp only [e0] at d0 d1 d2 e1 e2 e3 r0 r1 r2
  have hbH := T2.out.hb
  go_wp2
  have F := Lib.hid (((T2.out.set0 (.slice (some ⟨g, o, none⟩) 0 0)).set1 0).final k x ⟨#[]⟩ _ rfl)
  clear c0 c1 c3 d0 d1 d2 e1 e2 e3 r0 r1 r2 r3 T2
  (try simp only [Exit.inBlock, Exit.then])
  generalize ((((W2.setCell ⟨b, 0, none⟩ (.slice (some ⟨g, o, none⟩) 0 0)).setCell ⟨b, 1, none⟩ (.int .i64 0)).setCell ⟨H, 0, none⟩ (.int .i64 k)).setCell ⟨H, 1, none⟩ (.int .i64 x)).setCell ⟨H, 2, none⟩ (.string ⟨#[]⟩) = W3 at F ⊢
  obtain ⟨q0, q1, q2⟩ := F.out.1
  refine bodyPost_ret (v := .agg #[.int .i64 k, .int .i64 x, .string ⟨#[]⟩]) (by rw [results_cell1 rfl]; go_simp) rfl ⟨rfl, F.out.2⟩

set_option maxHeartbeats 2000000 in
theorem take_put_mid (b n cap g o : Nat) (t : ByteArray) (a x : Int) (w : World) (h : w.cell? ⟨b, 0, none⟩ = some (.slice (some ⟨g, o, none⟩) (n + 1) cap)) (h1 : w.cell? ⟨b, 1, none⟩ = some (.int .i64 a)) (hfz : ∀ i, w.frozen? ⟨b, i, none⟩ = false) (hc : PieceAt w g o ⟨1, 0, t⟩) (_hcap : n + 1 ≤ cap) (h0 : 0 ≤ a) (hx : 0 ≤ x) (h2 : a + x < (t.size : Int)) (hm : (t.size : Int) ≤ 4096) :
    Calls Try.prog 35 #[.pointer (some ⟨b, 0, none⟩), .int .i64 x] w (TakeW b ⟨1, 0, t.extract a.toNat (a + x).toNat⟩ (.slice (some ⟨g, o, none⟩) (n + 1) cap) (a + x) w) := by
  have hb := World.block_lt_of_cell? w ⟨b, 0, none⟩ h
  obtain ⟨c0, c1, c2⟩ := hc
  have hg := World.block_lt_of_cell? w ⟨g, o, none⟩ c0
  dsimp only [e0] at c0 c1 c2
  have hmx : a + x ≤ 4096 := by omega
  have T0 : Hid (TM w (((w.alloc (.cells #[.int .i64 0, .int .i64 0, .string ⟨#[]⟩] 40)).alloc (.cells #[.int .i64 1, .int .i64 0, .string t] 40)).alloc (.cells #[.int .i64 1, .int .i64 x, .string ⟨#[]⟩] 40)) b w.heap.size (.slice (some ⟨g, o, none⟩) (n + 1) cap) a ⟨1, 0, t⟩ ⟨1, x, e0⟩) := Lib.hid (TM.start h h1 hfz ⟨1, 0, t⟩ ⟨1, x, e0⟩ ⟨#[]⟩ rfl)
  go_enter Try.func35, Try.ntmps35
  have y1 := T0.out.c1
  have y2 := T0.out.fz
  go_wp2
  generalize (((w.alloc (.cells #[.int .i64 0, .int .i64 0, .string ⟨#[]⟩] 40)).alloc (.cells #[.int .i64 1, .int .i64 0, .string t] 40)).alloc (.cells #[.int .i64 1, .int .i64 x, .string ⟨#[]⟩] 40)) = W0 at T0 y1 y2 ⊢
  generalize hH : w.heap.size = H at T0 ⊢
  clear hH h h1 hfz c0 c1 c2
  obtain ⟨d0, d1, d2⟩ := T0.out.d
  obtain ⟨e1, e2, e3⟩ := T0.out.e
  have e4 := T0.out.ez
  dsimp only [e0] at d0 d1 d2 e1 e2 e3
  go_region
  have T9 := Lib.hid (T0.out.setE 1 0 (t.extract a.toNat (a + x).toNat))
  generalize (((W0.setCell ⟨H + 1 + 1, 0, none⟩ (.int .i64 1)).setCell ⟨H + 1 + 1, 1, none⟩ (.int .i64 0)).setCell ⟨H + 1 + 1, 2, none⟩ (.string (t.extract a.toNat (a + x).toNat))).drew = W1 at T9 ⊢
  clear T0 y1 y2 d0 d1 d2 e1 e2 e3 e4
  have y1 := T9.out.c1
  have y2 := T9.out.fz
  go_wp2
  have T1 := Lib.hid (T9.out.set1 (a + x))
  clear y1 y2 T9
  generalize W1.setCell ⟨b, 1, none⟩ (.int .i64 (a + x)) = W at T1 ⊢
  have x0 : ∀ X : Ext W, X.w.cell? ⟨b, 1, none⟩ = some (.int .i64 (a + x)) := fun X => X.cell T1.out.c1
  have x1 : ∀ X : Ext W, X.w.cell? ⟨H + 1, 0, none⟩ = some (.int .i64 1) := fun X => X.cell T1.out.d.1
  have x2 : ∀ X : Ext W, X.w.cell? ⟨H + 1, 1, none⟩ = some (.int .i64 0) := fun X => X.cell T1.out.d.2.1
  have x3 : ∀ X : Ext W, X.w.cell? ⟨H + 1, 2, none⟩ = some (.string t) := fun X => X.cell T1.out.d.2.2
  have he : (a + x == (t.size : Int)) = false := beq_eq_false_iff_ne.2 (by omega)
  refine wp_region_ext (by kernel_rfl) (by kernel_rfl) ?_
  repeat (go_big_quiet_step ((go_at_call 28; exact Ext.calls (size_any _ _ _ _ (by omega) (by omega) (by omega)))))
  refine wpQuiet_nil ?_
  rintro _ ⟨X, rfl⟩
  clear x0 x1 x2 x3
  have T2 := Lib.hid (T1.out.below X.below)
  clear T1
  generalize X.w = W2 at T2 ⊢
  clear X
  have c0 := T2.out.c0
  have c1 := T2.out.c1
  have c3 := T2.out.fz
  obtain ⟨d0, d1, d2⟩ := T2.out.d
  obtain ⟨e1, e2, e3⟩ := T2.out.e
  obtain ⟨r0, r1, r2⟩ := T2.out.r
  have r3 := T2.out.rz
  dsimp only [e0] at d0 d1 d2 e1 e2 e3 r0 r1 r2
  have hbH := T2.out.hb
  go_wp2
  have F := Lib.hid (T2.out.final 1 0 (t.extract a.toNat (a + x).toNat) _ rfl)
  clear c0 c1 c3 d0 d1 d2 e1 e2 e3 r0 r1 r2 r3 T2
  (try simp only [Exit.inBlock, Exit.then])
  generalize ((W2.setCell ⟨H, 0, none⟩ (.int .i64 1)).setCell ⟨H, 1, none⟩ (.int .i64 0)).setCell ⟨H, 2, none⟩ (.string (t.extract a.toNat (a + x).toNat)) = W3 at F ⊢
  obtain ⟨q0, q1, q2⟩ := F.out.1
  refine bodyPost_ret (v := .agg #[.int .i64 1, .int .i64 0, .string (t.extract a.toNat (a + x).toNat)]) (by rw [results_cell1 rfl]; go_simp) rfl ⟨rfl, F.out.2⟩

set_option maxHeartbeats 2000000 in
theorem take_put_end (b n q g o : Nat) (t : ByteArray) (a x : Int) (w : World) (h : w.cell? ⟨b, 0, none⟩ = some (.slice (some ⟨g, o, none⟩) (n + 1) (q + 2))) (h1 : w.cell? ⟨b, 1, none⟩ = some (.int .i64 a)) (hfz : ∀ i, w.frozen? ⟨b, i, none⟩ = false) (hc : PieceAt w g o ⟨1, 0, t⟩) (_hcap : n ≤ q + 1) (h0 : 0 ≤ a) (hx : 0 ≤ x) (h2 : a + x = (t.size : Int)) (hm : (t.size : Int) ≤ 4096) :
    Calls Try.prog 35 #[.pointer (some ⟨b, 0, none⟩), .int .i64 x] w (TakeW b ⟨1, 0, t.extract a.toNat (a + x).toNat⟩ (.slice (some ⟨g, o + 3, none⟩) n (q + 1)) 0 w) := by
  have hb := World.block_lt_of_cell? w ⟨b, 0, none⟩ h
  obtain ⟨c0, c1, c2⟩ := hc
  have hg := World.block_lt_of_cell? w ⟨g, o, none⟩ c0
  dsimp only [e0] at c0 c1 c2
  have h3 : (t.size : Int) ≤ a + x := by omega
  have h4 : a + x ≤ (t.size : Int) := by omega
  clear h2
  have hmx : a + x ≤ 4096 := by omega
  have T0 : Hid (TM w (((w.alloc (.cells #[.int .i64 0, .int .i64 0, .string ⟨#[]⟩] 40)).alloc (.cells #[.int .i64 1, .int .i64 0, .string t] 40)).alloc (.cells #[.int .i64 1, .int .i64 x, .string ⟨#[]⟩] 40)) b w.heap.size (.slice (some ⟨g, o, none⟩) (n + 1) (q + 2)) a ⟨1, 0, t⟩ ⟨1, x, e0⟩) := Lib.hid (TM.start h h1 hfz ⟨1, 0, t⟩ ⟨1, x, e0⟩ ⟨#[]⟩ rfl)
  go_enter Try.func35, Try.ntmps35
  have y1 := T0.out.c1
  have y2 := T0.out.fz
  go_wp2
  generalize (((w.alloc (.cells #[.int .i64 0, .int .i64 0, .string ⟨#[]⟩] 40)).alloc (.cells #[.int .i64 1, .int .i64 0, .string t] 40)).alloc (.cells #[.int .i64 1, .int .i64 x, .string ⟨#[]⟩] 40)) = W0 at T0 y1 y2 ⊢
  generalize hH : w.heap.size = H at T0 ⊢
  clear hH h h1 hfz c0 c1 c2
  obtain ⟨d0, d1, d2⟩ := T0.out.d
  obtain ⟨e1, e2, e3⟩ := T0.out.e
  have e4 := T0.out.ez
  dsimp only [e0] at d0 d1 d2 e1 e2 e3
  go_region
  have T9 := Lib.hid (T0.out.setE 1 0 (t.extract a.toNat (a + x).toNat))
  generalize (((W0.setCell ⟨H + 1 + 1, 0, none⟩ (.int .i64 1)).setCell ⟨H + 1 + 1, 1, none⟩ (.int .i64 0)).setCell ⟨H + 1 + 1, 2, none⟩ (.string (t.extract a.toNat (a + x).toNat))).drew = W1 at T9 ⊢
  clear T0 y1 y2 d0 d1 d2 e1 e2 e3 e4
  have y1 := T9.out.c1
  have y2 := T9.out.fz
  go_wp2
  have T1 := Lib.hid (T9.out.set1 (a + x))
  clear y1 y2 T9
  generalize W1.setCell ⟨b, 1, none⟩ (.int .i64 (a + x)) = W at T1 ⊢
  have x0 : ∀ X : Ext W, X.w.cell? ⟨b, 1, none⟩ = some (.int .i64 (a + x)) := fun X => X.cell T1.out.c1
  have x1 : ∀ X : Ext W, X.w.cell? ⟨H + 1, 0, none⟩ = some (.int .i64 1) := fun X => X.cell T1.out.d.1
  have x2 : ∀ X : Ext W, X.w.cell? ⟨H + 1, 1, none⟩ = some (.int .i64 0) := fun X => X.cell T1.out.d.2.1
  have x3 : ∀ X : Ext W, X.w.cell? ⟨H + 1, 2, none⟩ = some (.string t) := fun X => X.cell T1.out.d.2.2
  have he : (a + x == (t.size : Int)) = true := beq_iff_eq.2 (by omega)
  refine wp_region_ext (by kernel_rfl) (by kernel_rfl) ?_
  repeat (go_big_quiet_step ((go_at_call 28; exact Ext.calls (size_any _ _ _ _ (by omega) (by omega) (by omega)))))
  refine wpQuiet_nil ?_
  rintro _ ⟨X, rfl⟩
  clear x0 x1 x2 x3
  have T2 := Lib.hid (T1.out.below X.below)
  clear T1
  generalize X.w = W2 at T2 ⊢
  clear X
  have c0 := T2.out.c0
  have c1 := T2.out.c1
  have c3 := T2.out.fz
  obtain ⟨d0, d1, d2⟩ := T2.out.d
  obtain ⟨e1, e2, e3⟩ := T2.out.e
  obtain ⟨r0, r1, r2⟩ := T2.out.r
  have r3 := T2.out.rz
  dsimp only [e0] at d0 d1 d2 e1 e2 e3 r0 r1 r2
  have hbH := T2.out.hb
  go_wp2
  have F := Lib.hid (((T2.out.set0 (.slice (some ⟨g, o + 3, none⟩) n (q + 1))).set1 0).final 1 0 (t.extract a.toNat (a + x).toNat) _ rfl)
  clear c0 c1 c3 d0 d1 d2 e1 e2 e3 r0 r1 r2 r3 T2
  (try simp only [Exit.inBlock, Exit.then])
  generalize ((((W2.setCell ⟨b, 0, none⟩ (.slice (some ⟨g, o + 3, none⟩) n (q + 1))).setCell ⟨b, 1, none⟩ (.int .i64 0)).setCell ⟨H, 0, none⟩ (.int .i64 1)).setCell ⟨H, 1, none⟩ (.int .i64 0)).setCell ⟨H, 2, none⟩ (.string (t.extract a.toNat (a + x).toNat)) = W3 at F ⊢
  obtain ⟨q0, q1, q2⟩ := F.out.1
  refine bodyPost_ret (v := .agg #[.int .i64 1, .int .i64 0, .string (t.extract a.toNat (a + x).toNat)]) (by rw [results_cell1 rfl]; go_simp) rfl ⟨rfl, F.out.2⟩

set_option maxHeartbeats 2000000 in
theorem take_put_one (b g o : Nat) (t : ByteArray) (a x : Int) (w : World) (h : w.cell? ⟨b, 0, none⟩ = some (.slice (some ⟨g, o, none⟩) 1 1)) (h1 : w.cell? ⟨b, 1, none⟩ = some (.int .i64 a)) (hfz : ∀ i, w.frozen? ⟨b, i, none⟩ = false) (hc : PieceAt w g o ⟨1, 0, t⟩) (h0 : 0 ≤ a) (hx : 0 ≤ x) (h2 : a + x = (t.size : Int)) (hm : (t.size : Int) ≤ 4096) :
    Calls Try.prog 35 #[.pointer (some ⟨b, 0, none⟩), .int .i64 x] w (TakeW b ⟨1, 0, t.extract a.toNat (a + x).toNat⟩ (.slice (some ⟨g, o, none⟩) 0 0) 0 w) := by
  have hb := World.block_lt_of_cell? w ⟨b, 0, none⟩ h
  obtain ⟨c0, c1, c2⟩ := hc
  have hg := World.block_lt_of_cell? w ⟨g, o, none⟩ c0
  dsimp only [e0] at c0 c1 c2
  have h3 : (t.size : Int) ≤ a + x := by omega
  have h4 : a + x ≤ (t.size : Int) := by omega
  clear h2
  have hmx : a + x ≤ 4096 := by omega
  have T0 : Hid (TM w (((w.alloc (.cells #[.int .i64 0, .int .i64 0, .string ⟨#[]⟩] 40)).alloc (.cells #[.int .i64 1, .int .i64 0, .string t] 40)).alloc (.cells #[.int .i64 1, .int .i64 x, .string ⟨#[]⟩] 40)) b w.heap.size (.slice (some ⟨g, o, none⟩) 1 1) a ⟨1, 0, t⟩ ⟨1, x, e0⟩) := Lib.hid (TM.start h h1 hfz ⟨1, 0, t⟩ ⟨1, x, e0⟩ ⟨#[]⟩ rfl)
  go_enter Try.func35, Try.ntmps35
  have y1 := T0.out.c1
  have y2 := T0.out.fz
  go_wp2
  generalize (((w.alloc (.cells #[.int .i64 0, .int .i64 0, .string ⟨#[]⟩] 40)).alloc (.cells #[.int .i64 1, .int .i64 0, .string t] 40)).alloc (.cells #[.int .i64 1, .int .i64 x, .string ⟨#[]⟩] 40)) = W0 at T0 y1 y2 ⊢
  generalize hH : w.heap.size = H at T0 ⊢
  clear hH h h1 hfz c0 c1 c2
  obtain ⟨d0, d1, d2⟩ := T0.out.d
  obtain ⟨e1, e2, e3⟩ := T0.out.e
  have e4 := T0.out.ez
  dsimp only [e0] at d0 d1 d2 e1 e2 e3
  go_region
  have T9 := Lib.hid (T0.out.setE 1 0 (t.extract a.toNat (a + x).toNat))
  generalize (((W0.setCell ⟨H + 1 + 1, 0, none⟩ (.int .i64 1)).setCell ⟨H + 1 + 1, 1, none⟩ (.int .i64 0)).setCell ⟨H + 1 + 1, 2, none⟩ (.string (t.extract a.toNat (a + x).toNat))).drew = W1 at T9 ⊢
  clear T0 y1 y2 d0 d1 d2 e1 e2 e3 e4
  have y1 := T9.out.c1
  have y2 := T9.out.fz
  go_wp2
  have T1 := Lib.hid (T9.out.set1 (a + x))
  clear y1 y2 T9
  generalize W1.setCell ⟨b, 1, none⟩ (.int .i64 (a + x)) = W at T1 ⊢
  have x0 : ∀ X : Ext W, X.w.cell? ⟨b, 1, none⟩ = some (.int .i64 (a + x)) := fun X => X.cell T1.out.c1
  have x1 : ∀ X : Ext W, X.w.cell? ⟨H + 1, 0, none⟩ = some (.int .i64 1) := fun X => X.cell T1.out.d.1
  have x2 : ∀ X : Ext W, X.w.cell? ⟨H + 1, 1, none⟩ = some (.int .i64 0) := fun X => X.cell T1.out.d.2.1
  have x3 : ∀ X : Ext W, X.w.cell? ⟨H + 1, 2, none⟩ = some (.string t) := fun X => X.cell T1.out.d.2.2
  have he : (a + x == (t.size : Int)) = true := beq_iff_eq.2 (by omega)
  refine wp_region_ext (by kernel_rfl) (by kernel_rfl) ?_
  repeat (go_big_quiet_step ((go_at_call 28; exact Ext.calls (size_any _ _ _ _ (by omega) (by omega) (by omega)))))
  refine wpQuiet_nil ?_
  rintro _ ⟨X, rfl⟩
  clear x0 x1 x2 x3
  have T2 := Lib.hid (T1.out.below X.below)
  clear T1
  generalize X.w = W2 at T2 ⊢
  clear X
  have c0 := T2.out.c0
  have c1 := T2.out.c1
  have c3 := T2.out.fz
  obtain ⟨d0, d1, d2⟩ := T2.out.d
  obtain ⟨e1, e2, e3⟩ := T2.out.e
  obtain ⟨r0, r1, r2⟩ := T2.out.r
  have r3 := T2.out.rz
  dsimp only [e0] at d0 d1 d2 e1 e2 e3 r0 r1 r2
  have hbH := T2.out.hb
  go_wp2
  have F := Lib.hid (((T2.out.set0 (.slice (some ⟨g, o, none⟩) 0 0)).set1 0).final 1 0 (t.extract a.toNat (a + x).toNat) _ rfl)
  clear c0 c1 c3 d0 d1 d2 e1 e2 e3 r0 r1 r2 r3 T2
  (try simp only [Exit.inBlock, Exit.then])
  generalize ((((W2.setCell ⟨b, 0, none⟩ (.slice (some ⟨g, o, none⟩) 0 0)).setCell ⟨b, 1, none⟩ (.int .i64 0)).setCell ⟨H, 0, none⟩ (.int .i64 1)).setCell ⟨H, 1, none⟩ (.int .i64 0)).setCell ⟨H, 2, none⟩ (.string (t.extract a.toNat (a + x).toNat)) = W3 at F ⊢
  obtain ⟨q0, q1, q2⟩ := F.out.1
  refine bodyPost_ret (v := .agg #[.int .i64 1, .int .i64 0, .string (t.extract a.toNat (a + x).toNat)]) (by rw [results_cell1 rfl]; go_simp) rfl ⟨rfl, F.out.2⟩

end Go.Proofs.Ytdpjkafabjhkiaa
