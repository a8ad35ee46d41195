/-
  The walk of the reference's Add, a put behind a cut; whatever pieces. Conditions: as the theorems' premises say.
-/
import Derived.Test.YtmlibmleamiljaaW14
import Derived.Maps.AppendAt
namespace Go.Proofs.Ytmlibmleamiljaa
open Go.RowKit

set_option maxHeartbeats 2000000 in
theorem radd_behind (base : Nat) (cs : List C) (l c : C) (v : Value) (w : World) (ho : Own w base v (cs ++ [l])) (hbase : base ≤ w.heap.size) (hl : cs.length ≤ 8192) (hf : Fit c) (hc : c.Soft) (h0 : 0 < c.sz) (hk2 : l.k = 2) (hk1 : c.k = 1)
    (out : List C) (hol : out.length ≤ 8193) (ih : ∀ v w, Own w base v cs → base ≤ w.heap.size → Calls Try.prog 20 #[v, c.val] w (AddPost base v out w)) :
    Calls Try.prog 20 #[v, c.val] w (AddPost base v (out ++ [l]) w) := by
  obtain ⟨i0, hi, hz0, hz1, hz2⟩ := info_parts info39
  obtain ⟨g, cap, hv, hg0, hg1, hcap⟩ := ho.formS
  subst hv
  have hp := ho.piece (i := cs.length) (c := l) (by simp)
  have O := Lib.hid ho; clear ho
  have RF := Lib.hid O.out.front.row
  generalize hm : cs.length = m at *
  have HM := Lib.hid hm; clear hm
  obtain ⟨lk, ln, lt⟩ := l
  obtain ⟨k, n, t⟩ := c
  dsimp only at hk1 hk2
  subst hk1 hk2
  have HS := Lib.hid hc
  obtain ⟨f1, f2, f3⟩ := hf
  dsimp only at f1 f2 f3
  have h00 : ((n + (t.size : Int)) == 0) = false := beq_eq_false_iff_ne.2 (by unfold C.sz at h0; dsimp only at h0; omega)
  have PL := Lib.hid hp
  have IH : Hid (∀ v w, Own w base v cs → base ≤ w.heap.size → Calls Try.prog 20 #[v, .agg #[.int .i64 1, .int .i64 n, .string t]] w (AddPost base v out w)) := Lib.hid ih
  clear h0 hp ih hc
  unfold C.val
  dsimp only
  go_enter Try.func20, Try.ntmps20
  go_wp2_with (go_at_call 25; refine (rsize_any _ _ _ _ HS.out).mono ?_; rintro e w2 ⟨rfl, hb2⟩)
  have X2 := Lib.hid ((Box.new w 1 n t).below hb2)
  clear hb2
  obtain ⟨c0, c1, c2⟩ := PL.out.below X2.out.1
  dsimp only at c0 c1 c2
  obtain ⟨d0, d1, d2⟩ := X2.out.cells
  have hI0 : (0 : Int) ≤ (m : Int) := by omega
  have hI1 : (m : Int) < ((m + 1 : Nat) : Int) := by omega
  have hI2 : (m : Int) < (m : Int) + 1 := by omega
  go_quiet (fail)
  have X3 := Lib.hid (X2.out.dr nq)
  clear c0 c1 c2 d0 d1 d2
  generalize w2.drewN nq = w3 at X3 ⊢
  clear X2
  obtain ⟨c0, c1, c2⟩ := PL.out.below X3.out.1
  dsimp only at c0 c1 c2
  obtain ⟨d0, d1, d2⟩ := X3.out.cells
  have hmc : m ≤ cap := by omega
  have hIc : (m : Int) ≤ (cap : Int) := by omega
  have X4 : Hid (Box w (w3.alloc (.cells #[.int .i64 2, .int .i64 ln, .string lt] 38)) w.heap.size ⟨1, n, t⟩) := Lib.hid (X3.out.below ((Below.refl _ _).alloc (Nat.le_refl _) _))
  have OW : Hid (((w3.alloc (.cells #[.int .i64 2, .int .i64 ln, .string lt] 38)).alloc (.cells #[] 38)).ownsRow w.heap.size 38 3 (.slice (some ⟨w3.heap.size + 1, 0, none⟩) 0 0) 0 []) := Lib.hid (by
    have h := World.ownsRow_lit (base := w.heap.size) (e := 38) (size := 3) (w3.alloc (.cells #[.int .i64 2, .int .i64 ln, .string lt] 38)) #[] 0 X4.out.1.size (by decide) rfl
    simpa using h)
  have NW : Hid (∀ j u, (cellsC cs)[j]? = some u → ((w3.alloc (.cells #[.int .i64 2, .int .i64 ln, .string lt] 38)).alloc (.cells #[] 38)).cell? ((⟨g, 0, none⟩ : Addr).add j) = some u) := Lib.hid (RF.out.below (X4.out.1.alloc X4.out.1.size _)).news
  have CL : Hid ((cellsC cs).length = m * 3) := Lib.hid (by rw [cellsC_length, HM.out])
  have hw3 : w.heap.size < w3.heap.size := X3.out.2.2.2.2
  have X5 : Hid (Box w ((w3.alloc (.cells #[.int .i64 2, .int .i64 ln, .string lt] 38)).alloc (.cells #[] 38)) w.heap.size ⟨1, n, t⟩) := Lib.hid (X4.out.below ((Below.refl _ _).alloc (Nat.le_refl _) _))
  have Y5 : Hid (PieceAt ((w3.alloc (.cells #[.int .i64 2, .int .i64 ln, .string lt] 38)).alloc (.cells #[] 38)) w3.heap.size 0 ⟨2, ln, lt⟩) := Lib.hid ((new_piece w3 2 ln lt).below ((Below.refl _ _).alloc (Nat.le_refl _) _))
  clear X4
  have FAR : Hid (∀ w6, ((w3.alloc (.cells #[.int .i64 2, .int .i64 ln, .string lt] 38)).alloc (.cells #[] 38)).grownBy w6 (some (w3.heap.size + 1)) → (w6.cell? ⟨w.heap.size, 0, none⟩ = some (.int .i64 1) ∧ w6.cell? ⟨w.heap.size, 1, none⟩ = some (.int .i64 n) ∧ w6.cell? ⟨w.heap.size, 2, none⟩ = some (.string t)) ∧ (w6.cell? ⟨w3.heap.size, 0, none⟩ = some (.int .i64 2) ∧ w6.cell? ⟨w3.heap.size, 1, none⟩ = some (.int .i64 ln) ∧ w6.cell? ⟨w3.heap.size, 2, none⟩ = some (.string lt)) ∧ Below w.heap.size w w6 ∧ w3.heap.size + 2 ≤ w6.heap.size) := Lib.hid (fun w6 hg => by
    obtain ⟨a0, a1, a2⟩ := X5.out.cells
    obtain ⟨b0, b1, b2⟩ := Y5.out
    have ne1 : some w.heap.size ≠ some (w3.heap.size + 1) := by simp; omega
    have ne2 : some w3.heap.size ≠ some (w3.heap.size + 1) := by simp
    have hs := hg.size
    simp at hs
    exact ⟨⟨hg.cell a0 ne1, hg.cell a1 ne1, hg.cell a2 ne1⟩, ⟨hg.cell b0 ne2, hg.cell b1 ne2, hg.cell b2 ne2⟩, X5.out.1.grown hg X5.out.1.size (fun k h => by cases h; omega), by omega⟩)
  go_wp2_with (first | (at_builtin; refine wpList_append_own_at _ rfl _ _ 22 rfl w.heap.size 38 i0 _ 3 32 Try.underlying22 hi hz0 hz1 hz2 rfl (by decide) (.slice (some ⟨w3.heap.size + 1, 0, none⟩) 0 0) 0 [] rfl OW.out ⟨g, 0, none⟩ m cap (cellsC cs) rfl CL.out NW.out (cellsC_one cs) (by unfold maxLen; omega) (by omega) X5.out.1.size ?_; intro v6 w6 hown6 hgrow6 hnn6 hat6; have F6 := Lib.hid (FAR.out w6 hgrow6); obtain ⟨d0', d1', d2'⟩ := F6.out.1; have O6 := Lib.hid hown6; have A6 := Lib.hid hat6; clear hown6 hgrow6 hnn6 hat6 d0 d1 d2 c0 c1 c2))
  have hO6 : Own w6 base v6 cs := Own.mono (by have := O6.out; unfold Own; rw [HM.out]; simpa using this) hbase
  have V6 : Hid (∀ h, v6.ownBlock = some h → w3.heap.size < h) := Lib.hid (fun h e => by
    rcases A6.out with a | a
    · rw [a] at e; simp [Value.ownBlock] at e; omega
    · rw [a] at e; simp at e; omega)
  refine (IH.out v6 w6 hO6 (Nat.le_trans hbase F6.out.2.2.1.size)).mono ?_
  rintro e w7 ⟨v7, rfl, hown7, hgr7, hnew7⟩
  obtain ⟨p7, cap7, hv7⟩ := hown7.form
  subst hv7
  have O7 := Lib.hid hown7
  have V7 : Hid (∀ h, (Value.slice p7 out.length cap7).ownBlock = some h → w.heap.size ≤ h) := Lib.hid (fun h e => by
    rcases hnew7 h e with a | a
    · have := V6.out h a; omega
    · have := F6.out.2.2.2; omega)
  have B7 := Lib.hid (F6.out.2.2.1.grown hgr7 F6.out.2.2.1.size (fun k h => by have := V6.out k h; omega))
  have ne7 : some w3.heap.size ≠ v6.ownBlock := fun e => by have := V6.out _ e.symm; omega
  have q0 := hgr7.cell F6.out.2.1.1 ne7
  have q1 := hgr7.cell F6.out.2.1.2.1 ne7
  have q2 := hgr7.cell F6.out.2.1.2.2 ne7
  clear hown7 hgr7 hnew7 ne7 d0' d1' d2' hO6
  go_wp2_with (at_builtin; refine wpList_append_lies _ rfl _ _ 22 rfl base 38 i0 _ 3 32 Try.underlying22 hi hz0 hz1 hz2 rfl (by decide) (.slice p7 out.length cap7) out.length (cellsC out) rfl (World.ownsRow.alloc O7.out _) ⟨w7.heap.size, 0, none⟩ 1 1 (C.cells ⟨2, ln, lt⟩) rfl rfl (three_new rfl ⟨2, ln, lt⟩) (cells_one _) (by decide) (by unfold maxLen; omega) (by omega) (Nat.le_trans hbase (Nat.le_trans B7.out.size (by simp))) (w7.heap.size + 1) (by simp) ?_; intro g8 cap8 w8 hown8 hgrow8 hgg8 hlt8)
  go_ret
  refine ⟨_, rfl, ?_, grown_of_below ((B7.out.alloc B7.out.size _).grown hgrow8 (Nat.le_trans B7.out.size (by simp)) (fun k h => V7.out k h)) _, fun g' h => .inr ?_⟩
  · have e2 : cellsC [(⟨2, ln, lt⟩ : C)] = C.cells ⟨2, ln, lt⟩ := by simp [cellsC]
    unfold Own
    rw [cellsC_append, e2, List.length_append]
    exact hown8
  · obtain rfl : g8 = g' := Option.some.inj h
    rcases hgg8 with a | a
    · exact V7.out _ a
    · have := B7.out.size; omega

/-- Add, whatever stands there. -/
theorem radd_rev (base : Nat) (c : C) (hf : Fit c) (hc : c.Soft) (h0 : 0 < c.sz) : ∀ (r : List C), r.length ≤ 8192 → (∀ x ∈ r, Fit x) → ∀ (v : Value) (w : World), Own w base v r.reverse → base ≤ w.heap.size → Calls Try.prog 20 #[v, c.val] w (AddPost base v (addR r c).reverse w)
  | [], _, _, v, w, ho, hb => by
    simpa [addR] using radd_first base c v w ho hb hf hc h0
  | l :: r, hl, hfr, v, w, ho, hb => by
    rw [List.reverse_cons] at ho
    simp only [List.length_cons] at hl
    have hr : ∀ x ∈ r, Fit x := fun x hx => hfr x (by simp [hx])
    by_cases h1 : l.k = c.k
    · rw [addR, if_pos h1, List.reverse_cons]
      exact radd_join base r.reverse l c v w ho (by simp; omega) (hfr l (by simp)) hf hc h0 h1
    · by_cases h2 : l.k = 2 ∧ c.k = 1
      · rw [addR, if_neg h1, if_pos h2, List.reverse_cons]
        exact radd_behind base r.reverse l c v w ho hb (by simp; omega) hf hc h0 h2.1 h2.2 _ (by rw [List.length_reverse]; exact addR_bound c r (by omega)) (fun v w ho hb => radd_rev base c hf hc h0 r (by omega) hr v w ho hb)
      · rw [addR, if_neg h1, if_neg h2, List.reverse_cons, List.reverse_cons]
        exact radd_push base r.reverse l c v w ho hb (by simp; omega) hf hc h0 h1 h2

theorem radd_any (base : Nat) (c : C) (hf : Fit c) (hc : c.Soft) (cs : List C) (hl : cs.length ≤ 8192) (hfr : ∀ x ∈ cs, Fit x) (v : Value) (w : World) (ho : Own w base v cs) (hb : base ≤ w.heap.size) : Calls Try.prog 20 #[v, c.val] w (AddPost base v (addC cs c) w) := by
  have h0 := Soft.sz0 hc
  unfold addC
  by_cases hz : c.sz = 0
  · rw [if_pos hz]
    exact radd_none base cs c v w ho hc hz
  · rw [if_neg hz]
    exact radd_rev base c hf hc (by omega) cs.reverse (by simpa using hl) (fun x hx => hfr x (by simpa using hx)) v w (by rw [List.reverse_reverse]; exact ho) hb

end Go.Proofs.Ytmlibmleamiljaa
