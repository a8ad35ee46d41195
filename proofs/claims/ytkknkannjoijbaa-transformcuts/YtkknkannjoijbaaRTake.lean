/-
  The walk of the reference's reader: take. Conditions: as each theorem's premises say.
-/
import Derived.Test.YtkknkannjoijbaaPeek
namespace Go.Proofs.Ytkknkannjoijbaa
open Go.RowKit

/-- A reader of the reference under way: its own cells, the box of the answer, the box of a piece. -/
structure TR (w W : World) (b H D : Nat) (sl : Value) (i a : Int) (c : C) : Prop where
  grown : w.grownBy W (some b)
  c0 : W.cell? ⟨b, 0, none⟩ = some sl
  c1 : W.cell? ⟨b, 1, none⟩ = some (.int .i64 i)
  c2 : W.cell? ⟨b, 2, none⟩ = some (.int .i64 a)
  fz : ∀ i, W.frozen? ⟨b, i, none⟩ = false
  d : PieceAt W D 0 c
  dz : ∀ i, W.frozen? ⟨D, i, none⟩ = false
  r : PieceAt W H 0 ⟨0, 0, e0⟩
  rz : ∀ i, W.frozen? ⟨H, i, none⟩ = false
  hH : H = w.heap.size
  hb : b < H
  hd : H < D
  ds : D < W.heap.size
theorem TR.next {w W W' : World} {b H D : Nat} {sl : Value} {i a : Int} {c : C} (h : TR w W b H D sl i a c) (hb : Below W.heap.size W W') : TR w W' b H D sl i a c := by
  have h1 := h.hb
  have h2 := h.hd
  have h3 := h.ds
  exact ⟨grown_trans h.grown (grown_of_below hb none) (fun g h => by cases h), cell_later hb h.c0, cell_later hb h.c1, cell_later hb h.c2, fun i => (hb.frozen (p := ⟨b, i, none⟩) (by dsimp only; omega)).trans (h.fz i), h.d.below hb, fun i => (hb.frozen (p := ⟨D, i, none⟩) h3).trans (h.dz i), h.r.below hb, fun i => (hb.frozen (p := ⟨H, i, none⟩) (by dsimp only; omega)).trans (h.rz i), h.hH, h1, h2, Nat.lt_of_lt_of_le h3 hb.size⟩
theorem TR.start {w W : World} {b : Nat} {sl : Value} {i a : Int} (h0 : w.cell? ⟨b, 0, none⟩ = some sl) (h1 : w.cell? ⟨b, 1, none⟩ = some (.int .i64 i)) (h2 : w.cell? ⟨b, 2, none⟩ = some (.int .i64 a)) (hfz : ∀ i, w.frozen? ⟨b, i, none⟩ = false) (hW : Below (w.alloc (.cells #[.int .i64 0, .int .i64 0, .string e0] 41)).heap.size (w.alloc (.cells #[.int .i64 0, .int .i64 0, .string e0] 41)) W) (c : C) :
    TR w (W.alloc (.cells #[.int .i64 c.k, .int .i64 c.n, .string c.t] 41)) b w.heap.size W.heap.size sl i a c := by
  have hb := World.block_lt_of_cell? w ⟨b, 0, none⟩ h0
  obtain ⟨n0, n1, n2, n3⟩ := box_new w 0 0 e0
  obtain ⟨m0, m1, m2, m3⟩ := box_new W c.k c.n c.t
  generalize w.alloc (.cells #[.int .i64 0, .int .i64 0, .string e0] 41) = w1 at *
  generalize W.alloc (.cells #[.int .i64 c.k, .int .i64 c.n, .string c.t] 41) = W1 at *
  have B1 := n2.trans (hW.mono n2.size)
  have B := B1.trans (m2.mono B1.size)
  have hs := hW.size
  exact ⟨grown_of_below B _, cell_later B h0, cell_later B h1, cell_later B h2, fun i => (B.frozen (p := ⟨b, i, none⟩) hb).trans (hfz i), m0, m1, (n0.below hW).below m2, fun i => ((hW.trans (m2.mono hs)).frozen (p := ⟨w.heap.size, i, none⟩) n3).trans (n1 i), rfl, hb, by omega, m3⟩
theorem TR.setI {w W : World} {b H D : Nat} {sl : Value} {i a : Int} {c : C} (h : TR w W b H D sl i a c) (x : Int) : TR w (W.setCell ⟨b, 1, none⟩ (.int .i64 x)) b H D sl x a c := by
  have far : ∀ g i, g ≠ b → (W.setCell ⟨b, 1, none⟩ (.int .i64 x)).cell? ⟨g, i, none⟩ = W.cell? ⟨g, i, none⟩ := fun g i hg => World.cell?_setCell_far _ _ _ _ (by simpa using hg.symm)
  have h1 := h.hb
  have h2 := h.hd
  obtain ⟨x0, x1, x2⟩ := h.d
  obtain ⟨y0, y1, y2⟩ := h.r
  exact ⟨grown_set h.grown _, (World.cell?_setCell_other _ _ _ _ (by simp)).trans h.c0, World.cell?_setCell_same _ _ _ h.c1, (World.cell?_setCell_other _ _ _ _ (by simp)).trans h.c2, fun i => by rw [World.frozen?_setCell]; exact h.fz i, ⟨(far _ _ (by omega)).trans x0, (far _ _ (by omega)).trans x1, (far _ _ (by omega)).trans x2⟩, fun i => by rw [World.frozen?_setCell]; exact h.dz i, ⟨(far _ _ (by omega)).trans y0, (far _ _ (by omega)).trans y1, (far _ _ (by omega)).trans y2⟩, fun i => by rw [World.frozen?_setCell]; exact h.rz i, h.hH, h1, h2, by simpa using h.ds⟩
theorem TR.setA {w W : World} {b H D : Nat} {sl : Value} {i a : Int} {c : C} (h : TR w W b H D sl i a c) (x : Int) : TR w (W.setCell ⟨b, 2, none⟩ (.int .i64 x)) b H D sl i x c := by
  have far : ∀ g i, g ≠ b → (W.setCell ⟨b, 2, none⟩ (.int .i64 x)).cell? ⟨g, i, none⟩ = W.cell? ⟨g, i, none⟩ := fun g i hg => World.cell?_setCell_far _ _ _ _ (by simpa using hg.symm)
  have h1 := h.hb
  have h2 := h.hd
  obtain ⟨x0, x1, x2⟩ := h.d
  obtain ⟨y0, y1, y2⟩ := h.r
  exact ⟨grown_set h.grown _, (World.cell?_setCell_other _ _ _ _ (by simp)).trans h.c0, (World.cell?_setCell_other _ _ _ _ (by simp)).trans h.c1, World.cell?_setCell_same _ _ _ h.c2, fun i => by rw [World.frozen?_setCell]; exact h.fz i, ⟨(far _ _ (by omega)).trans x0, (far _ _ (by omega)).trans x1, (far _ _ (by omega)).trans x2⟩, fun i => by rw [World.frozen?_setCell]; exact h.dz i, ⟨(far _ _ (by omega)).trans y0, (far _ _ (by omega)).trans y1, (far _ _ (by omega)).trans y2⟩, fun i => by rw [World.frozen?_setCell]; exact h.rz i, h.hH, h1, h2, by simpa using h.ds⟩
/-- Behind stores into the two boxes: the answer lies in its box, the reader is as it was. -/
theorem TR.final {w W : World} {b H D : Nat} {sl : Value} {i a : Int} {c : C} (h : TR w W b H D sl i a c) (j : Nat) (u : Value) (k n : Int) (t : ByteArray) (W' : World) (hW : W' = (((W.setCell ⟨D, j, none⟩ u).setCell ⟨H, 0, none⟩ (.int .i64 k)).setCell ⟨H, 1, none⟩ (.int .i64 n)).setCell ⟨H, 2, none⟩ (.string t)) :
    (W'.cell? ⟨H, 0, none⟩ = some (.int .i64 k) ∧ W'.cell? ⟨H, 1, none⟩ = some (.int .i64 n) ∧ W'.cell? ⟨H, 2, none⟩ = some (.string t)) ∧
    w.grownBy W' (some b) ∧ W'.cell? ⟨b, 0, none⟩ = some sl ∧ W'.cell? ⟨b, 1, none⟩ = some (.int .i64 i) ∧ W'.cell? ⟨b, 2, none⟩ = some (.int .i64 a) ∧ ∀ i, W'.frozen? ⟨b, i, none⟩ = false := by
  subst hW
  obtain ⟨r0, r1, r2⟩ := h.r
  have hb := h.hb
  have hd := h.hd
  have hH := h.hH
  have far : ∀ (V : World) g i j u, g ≠ b → (V.setCell ⟨g, j, none⟩ u).cell? ⟨b, i, none⟩ = V.cell? ⟨b, i, none⟩ := fun V g i j u hg => World.cell?_setCell_far _ _ _ _ (by simpa using hg)
  have farD : ∀ (V : World) i j u, (V.setCell ⟨D, j, none⟩ u).cell? ⟨H, i, none⟩ = V.cell? ⟨H, i, none⟩ := fun V i j u => World.cell?_setCell_far _ _ _ _ (by simp; omega)
  have oth : ∀ (V : World) i j u, j ≠ i → (V.setCell ⟨H, j, none⟩ u).cell? ⟨H, i, none⟩ = V.cell? ⟨H, i, none⟩ := fun V i j u hj => World.cell?_setCell_other _ _ _ _ (by simp only [ne_eq, Addr.mk.injEq, true_and, and_true]; exact hj)
  refine ⟨⟨?_, ?_, ?_⟩, grown_set_new (grown_set_new (grown_set_new (grown_set_new h.grown (by omega) _) (by omega) _) (by omega) _) (by omega) _, ?_, ?_, ?_, fun i => by rw [World.frozen?_setCell, World.frozen?_setCell, World.frozen?_setCell, World.frozen?_setCell]; exact h.fz i⟩
  · rw [oth _ _ _ _ (by omega), oth _ _ _ _ (by omega)]; exact World.cell?_setCell_same _ _ _ ((farD _ _ _ _).trans r0)
  · rw [oth _ _ _ _ (by omega)]; exact World.cell?_setCell_same _ _ _ ((oth _ _ _ _ (by omega)).trans ((farD _ _ _ _).trans r1))
  · exact World.cell?_setCell_same _ _ _ ((oth _ _ _ _ (by omega)).trans ((oth _ _ _ _ (by omega)).trans ((farD _ _ _ _).trans r2)))
  · rw [far _ _ _ _ _ (by omega), far _ _ _ _ _ (by omega), far _ _ _ _ _ (by omega), far _ _ _ _ _ (by omega)]; exact h.c0
  · rw [far _ _ _ _ _ (by omega), far _ _ _ _ _ (by omega), far _ _ _ _ _ (by omega), far _ _ _ _ _ (by omega)]; exact h.c1
  · rw [far _ _ _ _ _ (by omega), far _ _ _ _ _ (by omega), far _ _ _ _ _ (by omega), far _ _ _ _ _ (by omega)]; exact h.c2

/-- What take answers. -/
def RTakeW (b : Nat) (c : C) (sl : Value) (i a : Int) (w : World) (e : Ending) (w' : World) : Prop :=
  e = .returned c.val ∧ w.grownBy w' (some b) ∧ w'.cell? ⟨b, 0, none⟩ = some sl ∧ w'.cell? ⟨b, 1, none⟩ = some (.int .i64 i) ∧ w'.cell? ⟨b, 2, none⟩ = some (.int .i64 a) ∧ ∀ i, w'.frozen? ⟨b, i, none⟩ = false

set_option maxHeartbeats 4000000 in
theorem rtake_num_mid (b n cap g o i : Nat) (k m m2 a x K : Int) (w : World) (h0 : w.cell? ⟨b, 0, none⟩ = some (.slice (some ⟨g, o, none⟩) n cap)) (h1 : w.cell? ⟨b, 1, none⟩ = some (.int .i64 i)) (h2 : w.cell? ⟨b, 2, none⟩ = some (.int .i64 a)) (hfz : ∀ i, w.frozen? ⟨b, i, none⟩ = false) (hi : i < n) (_hn : n ≤ 4096) (hc : PieceAt w g (o + i * 3) ⟨k, m, e0⟩) (hk : k = 0 ∨ k = 2) (hgb : g ≠ b) (ha : 0 ≤ a) (hm : m ≤ 4096) (hz : m2 = m - a) (hK : min x m2 = K) (hK0 : 0 ≤ K) (_hKz : K ≤ m2) (he : a + K < m)
    (hp : ∀ W, Below w.heap.size w W → Calls Try.prog 30 #[.pointer (some ⟨b, 0, none⟩)] W (PeekW ⟨k, m2, e0⟩ true W)) :
    Calls Try.prog 32 #[.pointer (some ⟨b, 0, none⟩), .int .i64 x] w (RTakeW b ⟨k, K, e0⟩ (.slice (some ⟨g, o, none⟩) n cap) i (a + K) w) := by
  have hb := World.block_lt_of_cell? w ⟨b, 0, none⟩ h0
  have TS : Hid (∀ W, Below (w.alloc (.cells #[.int .i64 0, .int .i64 0, .string ⟨#[]⟩] 41)).heap.size (w.alloc (.cells #[.int .i64 0, .int .i64 0, .string ⟨#[]⟩] 41)) W → TR w (W.alloc (.cells #[.int .i64 k, .int .i64 m2, .string ⟨#[]⟩] 41)) b w.heap.size W.heap.size (.slice (some ⟨g, o, none⟩) n cap) i a ⟨k, m2, e0⟩) := Lib.hid (fun W hW => TR.start h0 h1 h2 hfz hW ⟨k, m2, e0⟩)
  have HC := Lib.hid hc; have HP := Lib.hid hp
  have B1 : Hid (Below w.heap.size w (w.alloc (.cells #[.int .i64 0, .int .i64 0, .string ⟨#[]⟩] 41))) := Lib.hid ((Below.refl _ _).alloc (Nat.le_refl _) _)
  have SF : Hid (C.Soft ⟨k, m, e0⟩) := Lib.hid (by simp [C.Soft, e0_size]; omega)
  have SC : Hid (C.Soft ⟨k, m2, e0⟩) := Lib.hid (by simp [C.Soft, e0_size]; omega)
  have HK := Lib.hid hK
  have ZC : Hid ((m2 + ((ByteArray.mk #[]).size : Int)) = m2) := Lib.hid (Int.add_zero _)
  have ZF : Hid ((m + ((ByteArray.mk #[]).size : Int)) = m) := Lib.hid (Int.add_zero _)
  have hge : decide (m ≤ a + K) = false := decide_eq_false (by omega)
  have hz1 : m2 ≤ m - a := by omega
  have hz2 : m - a ≤ m2 := by omega
  have hx1 : a + K ≤ 4096 := by omega
  have kb : (k == 1) = false := beq_eq_false_iff_ne.2 (by omega)
  clear hk
  have hi0 : (0 : Int) ≤ (i : Int) := by omega
  have hi1 : (i : Int) < (n : Int) := by omega
  clear h0 h1 h2 hfz hc hp hK hz he
  go_enter Try.func32, Try.ntmps32
  go_wp2_with fail
  refine (HP.out _ B1.out).mono ?_
  rintro e w2 ⟨rfl, hb2⟩
  have T2 := Lib.hid (TS.out w2 hb2)
  clear TS hb2
  unfold C.val
  (try dsimp only [e0])
  go_wp2_with fail
  generalize hH : w.heap.size = H at T2 ⊢
  generalize w2.alloc (.cells #[.int .i64 k, .int .i64 m2, .string ⟨#[]⟩] 41) = W2 at T2 ⊢
  generalize w2.heap.size = D at T2 ⊢
  refine (rsize_any _ _ _ _ SC.out).mono ?_
  rintro e w3 ⟨rfl, hb3⟩
  (try dsimp only [e0])
  rw [ZC.out]
  have T3 := Lib.hid (T2.out.next hb3)
  clear T2 hb3 ZC
  have hKe := HK.out
  have y2 := T3.out.c2
  have y3 := T3.out.fz
  go_wp2_with fail
  have T4 := Lib.hid (T3.out.setA (a + K))
  clear hKe y2 y3 T3
  generalize w3.setCell ⟨b, 2, none⟩ (.int .i64 (a + K)) = W4 at T4 ⊢
  have x0 : ∀ X : Ext W4, X.w.cell? ⟨b, 0, none⟩ = some (.slice (some ⟨g, o, none⟩) n cap) := fun X => X.cell T4.out.c0
  have x1 : ∀ X : Ext W4, X.w.cell? ⟨b, 1, none⟩ = some (.int .i64 i) := fun X => X.cell T4.out.c1
  have x2 : ∀ X : Ext W4, X.w.cell? ⟨b, 2, none⟩ = some (.int .i64 (a + K)) := fun X => X.cell T4.out.c2
  have hgs : some g ≠ some b := fun e => hgb (Option.some.inj e)
  have x3 : ∀ X : Ext W4, X.w.cell? ⟨g, o + i * 3, none⟩ = some (.int .i64 k) := fun X => X.cell (T4.out.grown.cell HC.out.1 hgs)
  have x4 : ∀ X : Ext W4, X.w.cell? ⟨g, o + i * 3 + 1, none⟩ = some (.int .i64 m) := fun X => X.cell (T4.out.grown.cell HC.out.2.1 hgs)
  have x5 : ∀ X : Ext W4, X.w.cell? ⟨g, o + i * 3 + 2, none⟩ = some (.string ⟨#[]⟩) := fun X => X.cell (T4.out.grown.cell HC.out.2.2 hgs)
  have RS : Hid (∀ X : Ext W4, Calls Try.prog 34 #[.agg #[.int .i64 k, .int .i64 m, .string ⟨#[]⟩]] X.w fun e w' => e = .returned (.int .i64 m) ∧ Below X.w.heap.size X.w w') := Lib.hid (fun X => by have h := rsize_any _ _ _ X.w SF.out; (try dsimp only [e0] at h); rwa [ZF.out] at h)
  clear hgs
  refine wp_region_ext (by kernel_rfl) (by kernel_rfl) ?_
  repeat (go_big_quiet_step ((go_at_call 34; exact Ext.calls (RS.out _))))
  refine wpQuiet_nil ?_
  rintro _ ⟨X, rfl⟩
  clear x0 x1 x2 x3 x4 x5 RS
  have T5 := Lib.hid (T4.out.next X.below)
  clear T4
  generalize X.w = W5 at T5 ⊢
  clear X
  have c0 := T5.out.c0
  have c1 := T5.out.c1
  have c2 := T5.out.c2
  have c3 := T5.out.fz
  obtain ⟨d0, d1, d2⟩ := T5.out.d
  have dz := T5.out.dz
  obtain ⟨r0, r1, r2⟩ := T5.out.r
  have rz := T5.out.rz
  dsimp only [e0] at d0 d1 d2 r0 r1 r2
  have hbH := T5.out.hb
  have hdH := T5.out.hd
  go_wp2_with fail
  have F := Lib.hid (T5.out.final 1 (.int .i64 K) k K ⟨#[]⟩ _ rfl)
  clear c0 c1 c2 c3 d0 d1 d2 dz r0 r1 r2 rz T5
  (try simp only [Exit.inBlock, Exit.then])
  generalize (((W5.setCell ⟨D, 1, none⟩ (.int .i64 K)).setCell ⟨H, 0, none⟩ (.int .i64 k)).setCell ⟨H, 1, none⟩ (.int .i64 K)).setCell ⟨H, 2, none⟩ (.string ⟨#[]⟩) = W6 at F ⊢
  obtain ⟨q0, q1, q2⟩ := F.out.1
  refine bodyPost_ret (v := .agg #[.int .i64 k, .int .i64 K, .string ⟨#[]⟩]) (by rw [results_cell1 rfl]; go_simp) rfl ⟨rfl, F.out.2⟩

set_option maxHeartbeats 4000000 in
theorem rtake_num_end (b n cap g o i : Nat) (k m m2 a x K : Int) (w : World) (h0 : w.cell? ⟨b, 0, none⟩ = some (.slice (some ⟨g, o, none⟩) n cap)) (h1 : w.cell? ⟨b, 1, none⟩ = some (.int .i64 i)) (h2 : w.cell? ⟨b, 2, none⟩ = some (.int .i64 a)) (hfz : ∀ i, w.frozen? ⟨b, i, none⟩ = false) (hi : i < n) (_hn : n ≤ 4096) (hc : PieceAt w g (o + i * 3) ⟨k, m, e0⟩) (hk : k = 0 ∨ k = 2) (hgb : g ≠ b) (ha : 0 ≤ a) (hm : m ≤ 4096) (hz : m2 = m - a) (hK : min x m2 = K) (hK0 : 0 ≤ K) (_hKz : K ≤ m2) (he : a + K = m)
    (hp : ∀ W, Below w.heap.size w W → Calls Try.prog 30 #[.pointer (some ⟨b, 0, none⟩)] W (PeekW ⟨k, m2, e0⟩ true W)) :
    Calls Try.prog 32 #[.pointer (some ⟨b, 0, none⟩), .int .i64 x] w (RTakeW b ⟨k, K, e0⟩ (.slice (some ⟨g, o, none⟩) n cap) (i + 1) 0 w) := by
  have hb := World.block_lt_of_cell? w ⟨b, 0, none⟩ h0
  have TS : Hid (∀ W, Below (w.alloc (.cells #[.int .i64 0, .int .i64 0, .string ⟨#[]⟩] 41)).heap.size (w.alloc (.cells #[.int .i64 0, .int .i64 0, .string ⟨#[]⟩] 41)) W → TR w (W.alloc (.cells #[.int .i64 k, .int .i64 m2, .string ⟨#[]⟩] 41)) b w.heap.size W.heap.size (.slice (some ⟨g, o, none⟩) n cap) i a ⟨k, m2, e0⟩) := Lib.hid (fun W hW => TR.start h0 h1 h2 hfz hW ⟨k, m2, e0⟩)
  have HC := Lib.hid hc; have HP := Lib.hid hp
  have B1 : Hid (Below w.heap.size w (w.alloc (.cells #[.int .i64 0, .int .i64 0, .string ⟨#[]⟩] 41))) := Lib.hid ((Below.refl _ _).alloc (Nat.le_refl _) _)
  have SF : Hid (C.Soft ⟨k, m, e0⟩) := Lib.hid (by simp [C.Soft, e0_size]; omega)
  have SC : Hid (C.Soft ⟨k, m2, e0⟩) := Lib.hid (by simp [C.Soft, e0_size]; omega)
  have HK := Lib.hid hK
  have ZC : Hid ((m2 + ((ByteArray.mk #[]).size : Int)) = m2) := Lib.hid (Int.add_zero _)
  have ZF : Hid ((m + ((ByteArray.mk #[]).size : Int)) = m) := Lib.hid (Int.add_zero _)
  have hge : decide (m ≤ a + K) = true := decide_eq_true (by omega)
  have hz1 : m2 ≤ m - a := by omega
  have hz2 : m - a ≤ m2 := by omega
  have hx1 : a + K ≤ 4096 := by omega
  have kb : (k == 1) = false := beq_eq_false_iff_ne.2 (by omega)
  clear hk
  have hi0 : (0 : Int) ≤ (i : Int) := by omega
  have hi1 : (i : Int) < (n : Int) := by omega
  clear h0 h1 h2 hfz hc hp hK hz he
  go_enter Try.func32, Try.ntmps32
  go_wp2_with fail
  refine (HP.out _ B1.out).mono ?_
  rintro e w2 ⟨rfl, hb2⟩
  have T2 := Lib.hid (TS.out w2 hb2)
  clear TS hb2
  unfold C.val
  (try dsimp only [e0])
  go_wp2_with fail
  generalize hH : w.heap.size = H at T2 ⊢
  generalize w2.alloc (.cells #[.int .i64 k, .int .i64 m2, .string ⟨#[]⟩] 41) = W2 at T2 ⊢
  generalize w2.heap.size = D at T2 ⊢
  refine (rsize_any _ _ _ _ SC.out).mono ?_
  rintro e w3 ⟨rfl, hb3⟩
  (try dsimp only [e0])
  rw [ZC.out]
  have T3 := Lib.hid (T2.out.next hb3)
  clear T2 hb3 ZC
  have hKe := HK.out
  have y2 := T3.out.c2
  have y3 := T3.out.fz
  go_wp2_with fail
  have T4 := Lib.hid (T3.out.setA (a + K))
  clear hKe y2 y3 T3
  generalize w3.setCell ⟨b, 2, none⟩ (.int .i64 (a + K)) = W4 at T4 ⊢
  have x0 : ∀ X : Ext W4, X.w.cell? ⟨b, 0, none⟩ = some (.slice (some ⟨g, o, none⟩) n cap) := fun X => X.cell T4.out.c0
  have x1 : ∀ X : Ext W4, X.w.cell? ⟨b, 1, none⟩ = some (.int .i64 i) := fun X => X.cell T4.out.c1
  have x2 : ∀ X : Ext W4, X.w.cell? ⟨b, 2, none⟩ = some (.int .i64 (a + K)) := fun X => X.cell T4.out.c2
  have hgs : some g ≠ some b := fun e => hgb (Option.some.inj e)
  have x3 : ∀ X : Ext W4, X.w.cell? ⟨g, o + i * 3, none⟩ = some (.int .i64 k) := fun X => X.cell (T4.out.grown.cell HC.out.1 hgs)
  have x4 : ∀ X : Ext W4, X.w.cell? ⟨g, o + i * 3 + 1, none⟩ = some (.int .i64 m) := fun X => X.cell (T4.out.grown.cell HC.out.2.1 hgs)
  have x5 : ∀ X : Ext W4, X.w.cell? ⟨g, o + i * 3 + 2, none⟩ = some (.string ⟨#[]⟩) := fun X => X.cell (T4.out.grown.cell HC.out.2.2 hgs)
  have RS : Hid (∀ X : Ext W4, Calls Try.prog 34 #[.agg #[.int .i64 k, .int .i64 m, .string ⟨#[]⟩]] X.w fun e w' => e = .returned (.int .i64 m) ∧ Below X.w.heap.size X.w w') := Lib.hid (fun X => by have h := rsize_any _ _ _ X.w SF.out; (try dsimp only [e0] at h); rwa [ZF.out] at h)
  clear hgs
  refine wp_region_ext (by kernel_rfl) (by kernel_rfl) ?_
  repeat (go_big_quiet_step ((go_at_call 34; exact Ext.calls (RS.out _))))
  refine wpQuiet_nil ?_
  rintro _ ⟨X, rfl⟩
  clear x0 x1 x2 x3 x4 x5 RS
  have T5 := Lib.hid (T4.out.next X.below)
  clear T4
  generalize X.w = W5 at T5 ⊢
  clear X
  have c0 := T5.out.c0
  have c1 := T5.out.c1
  have c2 := T5.out.c2
  have c3 := T5.out.fz
  obtain ⟨d0, d1, d2⟩ := T5.out.d
  have dz := T5.out.dz
  obtain ⟨r0, r1, r2⟩ := T5.out.r
  have rz := T5.out.rz
  dsimp only [e0] at d0 d1 d2 r0 r1 r2
  have hbH := T5.out.hb
  have hdH := T5.out.hd
  go_wp2_with fail
  have F := Lib.hid (((T5.out.setI (i + 1)).setA 0).final 1 (.int .i64 K) k K ⟨#[]⟩ _ rfl)
  clear c0 c1 c2 c3 d0 d1 d2 dz r0 r1 r2 rz T5
  (try simp only [Exit.inBlock, Exit.then])
  generalize (((((W5.setCell ⟨b, 1, none⟩ (.int .i64 (i + 1))).setCell ⟨b, 2, none⟩ (.int .i64 0)).setCell ⟨D, 1, none⟩ (.int .i64 K)).setCell ⟨H, 0, none⟩ (.int .i64 k)).setCell ⟨H, 1, none⟩ (.int .i64 K)).setCell ⟨H, 2, none⟩ (.string ⟨#[]⟩) = W6 at F ⊢
  obtain ⟨q0, q1, q2⟩ := F.out.1
  refine bodyPost_ret (v := .agg #[.int .i64 k, .int .i64 K, .string ⟨#[]⟩]) (by rw [results_cell1 rfl]; go_simp) rfl ⟨rfl, F.out.2⟩

set_option maxHeartbeats 4000000 in
theorem rtake_put_mid (b n cap g o i : Nat) (t t2 : ByteArray) (a x K : Int) (w : World) (h0 : w.cell? ⟨b, 0, none⟩ = some (.slice (some ⟨g, o, none⟩) n cap)) (h1 : w.cell? ⟨b, 1, none⟩ = some (.int .i64 i)) (h2 : w.cell? ⟨b, 2, none⟩ = some (.int .i64 a)) (hfz : ∀ i, w.frozen? ⟨b, i, none⟩ = false) (hi : i < n) (_hn : n ≤ 4096) (hc : PieceAt w g (o + i * 3) ⟨1, 0, t⟩) (hgb : g ≠ b) (ha : 0 ≤ a) (hm : (t.size : Int) ≤ 4096) (hz : (t2.size : Int) = (t.size : Int) - a) (hK : min x (t2.size : Int) = K) (hK0 : 0 ≤ K) (_hKz : K ≤ (t2.size : Int)) (he : a + K < (t.size : Int))
    (hp : ∀ W, Below w.heap.size w W → Calls Try.prog 30 #[.pointer (some ⟨b, 0, none⟩)] W (PeekW ⟨1, 0, t2⟩ true W)) :
    Calls Try.prog 32 #[.pointer (some ⟨b, 0, none⟩), .int .i64 x] w (RTakeW b ⟨1, 0, t2.extract 0 K.toNat⟩ (.slice (some ⟨g, o, none⟩) n cap) i (a + K) w) := by
  have hb := World.block_lt_of_cell? w ⟨b, 0, none⟩ h0
  have TS : Hid (∀ W, Below (w.alloc (.cells #[.int .i64 0, .int .i64 0, .string ⟨#[]⟩] 41)).heap.size (w.alloc (.cells #[.int .i64 0, .int .i64 0, .string ⟨#[]⟩] 41)) W → TR w (W.alloc (.cells #[.int .i64 1, .int .i64 0, .string t2] 41)) b w.heap.size W.heap.size (.slice (some ⟨g, o, none⟩) n cap) i a ⟨1, 0, t2⟩) := Lib.hid (fun W hW => TR.start h0 h1 h2 hfz hW ⟨1, 0, t2⟩)
  have HC := Lib.hid hc; have HP := Lib.hid hp
  have B1 : Hid (Below w.heap.size w (w.alloc (.cells #[.int .i64 0, .int .i64 0, .string ⟨#[]⟩] 41))) := Lib.hid ((Below.refl _ _).alloc (Nat.le_refl _) _)
  have SF : Hid (C.Soft ⟨1, 0, t⟩) := Lib.hid (by simp [C.Soft])
  have SC : Hid (C.Soft ⟨1, 0, t2⟩) := Lib.hid (by simp [C.Soft])
  have HK := Lib.hid hK
  have ZC : Hid ((0 + (t2.size : Int)) = (t2.size : Int)) := Lib.hid (Int.zero_add _)
  have ZF : Hid ((0 + (t.size : Int)) = (t.size : Int)) := Lib.hid (Int.zero_add _)
  have hge : decide ((t.size : Int) ≤ a + K) = false := decide_eq_false (by omega)
  have hz1 : (t2.size : Int) ≤ (t.size : Int) - a := by omega
  have hz2 : (t.size : Int) - a ≤ (t2.size : Int) := by omega
  have hx1 : a + K ≤ 4096 := by omega
  have hi0 : (0 : Int) ≤ (i : Int) := by omega
  have hi1 : (i : Int) < (n : Int) := by omega
  clear h0 h1 h2 hfz hc hp hK hz he
  go_enter Try.func32, Try.ntmps32
  go_wp2_with fail
  refine (HP.out _ B1.out).mono ?_
  rintro e w2 ⟨rfl, hb2⟩
  have T2 := Lib.hid (TS.out w2 hb2)
  clear TS hb2
  unfold C.val
  (try dsimp only [e0])
  go_wp2_with fail
  generalize hH : w.heap.size = H at T2 ⊢
  generalize w2.alloc (.cells #[.int .i64 1, .int .i64 0, .string t2] 41) = W2 at T2 ⊢
  generalize w2.heap.size = D at T2 ⊢
  refine (rsize_any _ _ _ _ SC.out).mono ?_
  rintro e w3 ⟨rfl, hb3⟩
  (try dsimp only [e0])
  rw [ZC.out]
  have T3 := Lib.hid (T2.out.next hb3)
  clear T2 hb3 ZC
  have hKe := HK.out
  have y2 := T3.out.c2
  have y3 := T3.out.fz
  go_wp2_with fail
  have T4 := Lib.hid (T3.out.setA (a + K))
  clear hKe y2 y3 T3
  generalize w3.setCell ⟨b, 2, none⟩ (.int .i64 (a + K)) = W4 at T4 ⊢
  have x0 : ∀ X : Ext W4, X.w.cell? ⟨b, 0, none⟩ = some (.slice (some ⟨g, o, none⟩) n cap) := fun X => X.cell T4.out.c0
  have x1 : ∀ X : Ext W4, X.w.cell? ⟨b, 1, none⟩ = some (.int .i64 i) := fun X => X.cell T4.out.c1
  have x2 : ∀ X : Ext W4, X.w.cell? ⟨b, 2, none⟩ = some (.int .i64 (a + K)) := fun X => X.cell T4.out.c2
  have hgs : some g ≠ some b := fun e => hgb (Option.some.inj e)
  have x3 : ∀ X : Ext W4, X.w.cell? ⟨g, o + i * 3, none⟩ = some (.int .i64 1) := fun X => X.cell (T4.out.grown.cell HC.out.1 hgs)
  have x4 : ∀ X : Ext W4, X.w.cell? ⟨g, o + i * 3 + 1, none⟩ = some (.int .i64 0) := fun X => X.cell (T4.out.grown.cell HC.out.2.1 hgs)
  have x5 : ∀ X : Ext W4, X.w.cell? ⟨g, o + i * 3 + 2, none⟩ = some (.string t) := fun X => X.cell (T4.out.grown.cell HC.out.2.2 hgs)
  have RS : Hid (∀ X : Ext W4, Calls Try.prog 34 #[.agg #[.int .i64 1, .int .i64 0, .string t]] X.w fun e w' => e = .returned (.int .i64 (t.size : Int)) ∧ Below X.w.heap.size X.w w') := Lib.hid (fun X => by have h := rsize_any _ _ _ X.w SF.out; (try dsimp only [e0] at h); rwa [ZF.out] at h)
  clear hgs
  refine wp_region_ext (by kernel_rfl) (by kernel_rfl) ?_
  repeat (go_big_quiet_step ((go_at_call 34; exact Ext.calls (RS.out _))))
  refine wpQuiet_nil ?_
  rintro _ ⟨X, rfl⟩
  clear x0 x1 x2 x3 x4 x5 RS
  have T5 := Lib.hid (T4.out.next X.below)
  clear T4
  generalize X.w = W5 at T5 ⊢
  clear X
  have c0 := T5.out.c0
  have c1 := T5.out.c1
  have c2 := T5.out.c2
  have c3 := T5.out.fz
  obtain ⟨d0, d1, d2⟩ := T5.out.d
  have dz := T5.out.dz
  obtain ⟨r0, r1, r2⟩ := T5.out.r
  have rz := T5.out.rz
  dsimp only [e0] at d0 d1 d2 r0 r1 r2
  have hbH := T5.out.hb
  have hdH := T5.out.hd
  go_wp2_with fail
  have F := Lib.hid (T5.out.final 2 (.string (t2.extract 0 K.toNat)) 1 0 (t2.extract 0 K.toNat) _ rfl)
  clear c0 c1 c2 c3 d0 d1 d2 dz r0 r1 r2 rz T5
  (try simp only [Exit.inBlock, Exit.then])
  generalize (((W5.setCell ⟨D, 2, none⟩ (.string (t2.extract 0 K.toNat))).setCell ⟨H, 0, none⟩ (.int .i64 1)).setCell ⟨H, 1, none⟩ (.int .i64 0)).setCell ⟨H, 2, none⟩ (.string (t2.extract 0 K.toNat)) = W6 at F ⊢
  obtain ⟨q0, q1, q2⟩ := F.out.1
  refine bodyPost_ret (v := .agg #[.int .i64 1, .int .i64 0, .string (t2.extract 0 K.toNat)]) (by rw [results_cell1 rfl]; go_simp) rfl ⟨rfl, F.out.2⟩

set_option maxHeartbeats 4000000 in
theorem rtake_put_end (b n cap g o i : Nat) (t t2 : ByteArray) (a x K : Int) (w : World) (h0 : w.cell? ⟨b, 0, none⟩ = some (.slice (some ⟨g, o, none⟩) n cap)) (h1 : w.cell? ⟨b, 1, none⟩ = some (.int .i64 i)) (h2 : w.cell? ⟨b, 2, none⟩ = some (.int .i64 a)) (hfz : ∀ i, w.frozen? ⟨b, i, none⟩ = false) (hi : i < n) (_hn : n ≤ 4096) (hc : PieceAt w g (o + i * 3) ⟨1, 0, t⟩) (hgb : g ≠ b) (ha : 0 ≤ a) (hm : (t.size : Int) ≤ 4096) (hz : (t2.size : Int) = (t.size : Int) - a) (hK : min x (t2.size : Int) = K) (hK0 : 0 ≤ K) (_hKz : K ≤ (t2.size : Int)) (he : a + K = (t.size : Int))
    (hp : ∀ W, Below w.heap.size w W → Calls Try.prog 30 #[.pointer (some ⟨b, 0, none⟩)] W (PeekW ⟨1, 0, t2⟩ true W)) :
    Calls Try.prog 32 #[.pointer (some ⟨b, 0, none⟩), .int .i64 x] w (RTakeW b ⟨1, 0, t2.extract 0 K.toNat⟩ (.slice (some ⟨g, o, none⟩) n cap) (i + 1) 0 w) := by
  have hb := World.block_lt_of_cell? w ⟨b, 0, none⟩ h0
  have TS : Hid (∀ W, Below (w.alloc (.cells #[.int .i64 0, .int .i64 0, .string ⟨#[]⟩] 41)).heap.size (w.alloc (.cells #[.int .i64 0, .int .i64 0, .string ⟨#[]⟩] 41)) W → TR w (W.alloc (.cells #[.int .i64 1, .int .i64 0, .string t2] 41)) b w.heap.size W.heap.size (.slice (some ⟨g, o, none⟩) n cap) i a ⟨1, 0, t2⟩) := Lib.hid (fun W hW => TR.start h0 h1 h2 hfz hW ⟨1, 0, t2⟩)
  have HC := Lib.hid hc; have HP := Lib.hid hp
  have B1 : Hid (Below w.heap.size w (w.alloc (.cells #[.int .i64 0, .int .i64 0, .string ⟨#[]⟩] 41))) := Lib.hid ((Below.refl _ _).alloc (Nat.le_refl _) _)
  have SF : Hid (C.Soft ⟨1, 0, t⟩) := Lib.hid (by simp [C.Soft])
  have SC : Hid (C.Soft ⟨1, 0, t2⟩) := Lib.hid (by simp [C.Soft])
  have HK := Lib.hid hK
  have ZC : Hid ((0 + (t2.size : Int)) = (t2.size : Int)) := Lib.hid (Int.zero_add _)
  have ZF : Hid ((0 + (t.size : Int)) = (t.size : Int)) := Lib.hid (Int.zero_add _)
  have hge : decide ((t.size : Int) ≤ a + K) = true := decide_eq_true (by omega)
  have hz1 : (t2.size : Int) ≤ (t.size : Int) - a := by omega
  have hz2 : (t.size : Int) - a ≤ (t2.size : Int) := by omega
  have hx1 : a + K ≤ 4096 := by omega
  have hi0 : (0 : Int) ≤ (i : Int) := by omega
  have hi1 : (i : Int) < (n : Int) := by omega
  clear h0 h1 h2 hfz hc hp hK hz he
  go_enter Try.func32, Try.ntmps32
  go_wp2_with fail
  refine (HP.out _ B1.out).mono ?_
  rintro e w2 ⟨rfl, hb2⟩
  have T2 := Lib.hid (TS.out w2 hb2)
  clear TS hb2
  unfold C.val
  (try dsimp only [e0])
  go_wp2_with fail
  generalize hH : w.heap.size = H at T2 ⊢
  generalize w2.alloc (.cells #[.int .i64 1, .int .i64 0, .string t2] 41) = W2 at T2 ⊢
  generalize w2.heap.size = D at T2 ⊢
  refine (rsize_any _ _ _ _ SC.out).mono ?_
  rintro e w3 ⟨rfl, hb3⟩
  (try dsimp only [e0])
  rw [ZC.out]
  have T3 := Lib.hid (T2.out.next hb3)
  clear T2 hb3 ZC
  have hKe := HK.out
  have y2 := T3.out.c2
  have y3 := T3.out.fz
  go_wp2_with fail
  have T4 := Lib.hid (T3.out.setA (a + K))
  clear hKe y2 y3 T3
  generalize w3.setCell ⟨b, 2, none⟩ (.int .i64 (a + K)) = W4 at T4 ⊢
  have x0 : ∀ X : Ext W4, X.w.cell? ⟨b, 0, none⟩ = some (.slice (some ⟨g, o, none⟩) n cap) := fun X => X.cell T4.out.c0
  have x1 : ∀ X : Ext W4, X.w.cell? ⟨b, 1, none⟩ = some (.int .i64 i) := fun X => X.cell T4.out.c1
  have x2 : ∀ X : Ext W4, X.w.cell? ⟨b, 2, none⟩ = some (.int .i64 (a + K)) := fun X => X.cell T4.out.c2
  have hgs : some g ≠ some b := fun e => hgb (Option.some.inj e)
  have x3 : ∀ X : Ext W4, X.w.cell? ⟨g, o + i * 3, none⟩ = some (.int .i64 1) := fun X => X.cell (T4.out.grown.cell HC.out.1 hgs)
  have x4 : ∀ X : Ext W4, X.w.cell? ⟨g, o + i * 3 + 1, none⟩ = some (.int .i64 0) := fun X => X.cell (T4.out.grown.cell HC.out.2.1 hgs)
  have x5 : ∀ X : Ext W4, X.w.cell? ⟨g, o + i * 3 + 2, none⟩ = some (.string t) := fun X => X.cell (T4.out.grown.cell HC.out.2.2 hgs)
  have RS : Hid (∀ X : Ext W4, Calls Try.prog 34 #[.agg #[.int .i64 1, .int .i64 0, .string t]] X.w fun e w' => e = .returned (.int .i64 (t.size : Int)) ∧ Below X.w.heap.size X.w w') := Lib.hid (fun X => by have h := rsize_any _ _ _ X.w SF.out; (try dsimp only [e0] at h); rwa [ZF.out] at h)
  clear hgs
  refine wp_region_ext (by kernel_rfl) (by kernel_rfl) ?_
  repeat (go_big_quiet_step ((go_at_call 34; exact Ext.calls (RS.out _))))
  refine wpQuiet_nil ?_
  rintro _ ⟨X, rfl⟩
  clear x0 x1 x2 x3 x4 x5 RS
  have T5 := Lib.hid (T4.out.next X.below)
  clear T4
  generalize X.w = W5 at T5 ⊢
  clear X
  have c0 := T5.out.c0
  have c1 := T5.out.c1
  have c2 := T5.out.c2
  have c3 := T5.out.fz
  obtain ⟨d0, d1, d2⟩ := T5.out.d
  have dz := T5.out.dz
  obtain ⟨r0, r1, r2⟩ := T5.out.r
  have rz := T5.out.rz
  dsimp only [e0] at d0 d1 d2 r0 r1 r2
  have hbH := T5.out.hb
  have hdH := T5.out.hd
  go_wp2_with fail
  have F := Lib.hid (((T5.out.setI (i + 1)).setA 0).final 2 (.string (t2.extract 0 K.toNat)) 1 0 (t2.extract 0 K.toNat) _ rfl)
  clear c0 c1 c2 c3 d0 d1 d2 dz r0 r1 r2 rz T5
  (try simp only [Exit.inBlock, Exit.then])
  generalize (((((W5.setCell ⟨b, 1, none⟩ (.int .i64 (i + 1))).setCell ⟨b, 2, none⟩ (.int .i64 0)).setCell ⟨D, 2, none⟩ (.string (t2.extract 0 K.toNat))).setCell ⟨H, 0, none⟩ (.int .i64 1)).setCell ⟨H, 1, none⟩ (.int .i64 0)).setCell ⟨H, 2, none⟩ (.string (t2.extract 0 K.toNat)) = W6 at F ⊢
  obtain ⟨q0, q1, q2⟩ := F.out.1
  refine bodyPost_ret (v := .agg #[.int .i64 1, .int .i64 0, .string (t2.extract 0 K.toNat)]) (by rw [results_cell1 rfl]; go_simp) rfl ⟨rfl, F.out.2⟩

end Go.Proofs.Ytkknkannjoijbaa
