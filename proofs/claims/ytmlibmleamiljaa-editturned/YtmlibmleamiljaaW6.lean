/-
  The walk of add, a put behind a cut; add at whatever pieces. Conditions: as the theorems' premises say.
-/
import Derived.Test.YtmlibmleamiljaaW5
import Derived.Deep.RegionHeld3
namespace Go.Proofs.Ytmlibmleamiljaa
open Go.RowKit

theorem cell_far' {w5 W w6 : World} {g : Nat} {a : Addr} {u : Value} (hB : Below w5.heap.size w5 W) (hg : W.grownBy w6 (some g)) (h : w5.cell? a = some u) (hne : a.block ≠ g) : w6.cell? a = some u :=
  (hg.cell_far a (Nat.lt_of_lt_of_le (World.block_lt_of_cell? w5 a h) hB.size) (by simpa using hne)).trans (cell_later hB h)

theorem news_far {w5 w6 : World} {g : Nat} (c : C) (hg : ((w5.alloc (.cells #[.int .i64 c.k, .int .i64 c.n, .string c.t] 38)).drew).grownBy w6 (some g)) (hne : w5.heap.size ≠ g) : ∀ j u, (C.cells c)[j]? = some u → w6.cell? ((⟨w5.heap.size, 0, none⟩ : Addr).add j) = some u := fun j u hu => by
  have h := three_new (w := w5) rfl c j u hu
  rw [add_plain] at h ⊢
  exact (hg.cell_far _ (by simp) (by simpa using hne)).trans h

theorem AddPost.of_behind {base g n cap n' g3 cap3 : Nat} {v2 : Value} {out : List C} {l : C} {w W w6 W6 w7 : World} (hB : Below w.heap.size w W) (h1 : W.grownBy w6 (some g)) (h2 : ∀ h, v2.ownBlock = some h → some g = some h ∨ W.heap.size ≤ h) (hB6 : Below w6.heap.size w6 W6) (hg : W6.grownBy w7 v2.ownBlock) (hgg : v2.ownBlock = some g3 ∨ w6.heap.size ≤ g3)
    (hn : n' = out.length + 1) (ho : w7.ownsRow base 38 3 (.slice (some ⟨g3, 0, none⟩) n' cap3) n' (cellsC out ++ C.cells l)) :
    AddPost base (.slice (some ⟨g, 0, none⟩) n cap) (out ++ [l]) w (.returned (.slice (some ⟨g3, 0, none⟩) n' cap3)) w7 := by
  have s1 := hB.size
  have s2 := h1.size
  refine ⟨_, rfl, ?_, ?_, ?_⟩
  · unfold Own
    rw [List.length_append, List.length_singleton, ← hn, cellsC_append]
    have : cellsC [l] = C.cells l := by simp [cellsC]
    rw [this]; exact ho
  · refine grown_trans (grown_trans (grown_trans (grown_of_below hB _) h1 (fun g h => .inl h)) (grown_of_below hB6 none) (fun g h => by cases h)) hg (fun h e => ?_)
    rcases h2 h e with h | h
    · exact .inl h
    · right; omega
  · intro g' h
    simp only [Value.ownBlock, Option.some.injEq] at h ⊢
    subst h
    rcases hgg with h | h
    · rcases h2 _ h with h | h
      · left; simpa using h
      · right; omega
    · right; omega

set_option maxHeartbeats 2000000 in
theorem add_behind (base : Nat) (cs : List C) (l c : C) (v : Value) (w : World) (ho : Own w base v (cs ++ [l])) (hbase : base ≤ w.heap.size) (hl : cs.length ≤ 8192) (hc : Fit c) (h0 : 0 < c.sz) (hk2 : l.k = 2) (hk1 : c.k = 1)
    (out : List C) (hol : out.length ≤ 8193) (ih : ∀ v w, Own w base v cs → base ≤ w.heap.size → Calls Try.prog 28 #[v, c.val] w (AddPost base v out w)) :
    Calls Try.prog 28 #[v, c.val] w (AddPost base v (out ++ [l]) w) := by
  obtain ⟨i0, hi, hz0, hz1, hz2⟩ := info_parts info39
  obtain ⟨g, cap, hv, hg0, hg1, hcap⟩ := ho.formS
  subst hv
  have hp := ho.piece (i := cs.length) (c := l) (by simp)
  have O := Lib.hid ho; clear ho
  have OF := Lib.hid O.out.front
  generalize hm : cs.length = m at *
  have HM := Lib.hid hm; clear hm
  obtain ⟨lk, ln, lt⟩ := l
  obtain ⟨k, n, t⟩ := c
  dsimp only at hk1 hk2
  subst hk1 hk2
  obtain ⟨f1, f2, f3⟩ := hc
  dsimp only at f1 f2 f3
  have h00 : ((n + (t.size : Int)) == 0) = false := beq_eq_false_iff_ne.2 (by unfold C.sz at h0; dsimp only at h0; omega)
  have PL := Lib.hid hp
  have HF : Hid (¬ fol 2 1) := Lib.hid (by unfold fol; omega)
  have IH : Hid (∀ v w, Own w base v cs → base ≤ w.heap.size → Calls Try.prog 28 #[v, .agg #[.int .i64 1, .int .i64 n, .string t]] w (AddPost base v out w)) := Lib.hid ih
  clear h0 hp ih
  unfold C.val
  dsimp only
  go_enter Try.func28, Try.ntmps28
  go_wp2_with (go_at_call 31; refine (size_any _ _ _ _ f1 f2 f3).mono ?_; rintro e w2 ⟨rfl, hb2⟩)
  have X2 := Lib.hid ((Box.new w 1 n t).below hb2)
  clear hb2
  obtain ⟨c0, c1, c2⟩ := PL.out.below X2.out.1
  dsimp only at c0 c1 c2
  obtain ⟨d0, d1, d2⟩ := X2.out.cells
  have hI0 : (0 : Int) ≤ (m : Int) := by omega
  have hI1 : (m : Int) < ((m + 1 : Nat) : Int) := by omega
  have hI2 : (m : Int) < (m : Int) + 1 := by omega
  go_quiet (fail)
  have X3 := Lib.hid (X2.out.dr nq)
  clear c0 c1 c2 d0 d1 d2
  generalize w2.drewN nq = w3 at X3 ⊢
  clear X2
  obtain ⟨c0, c1, c2⟩ := PL.out.below X3.out.1
  dsimp only at c0 c1 c2
  obtain ⟨d0, d1, d2⟩ := X3.out.cells
  go_wp2_with (go_at_call 31; fail)
  go_quiet ((go_at_call 32; exact Calls.quiet_of_same (follows_no _ _ _ HF.out)))
  have X4 := Lib.hid (X3.out.dr nq)
  clear c0 c1 c2 d0 d1 d2
  generalize w3.drewN nq = w4 at X4 ⊢
  clear X3
  obtain ⟨c0, c1, c2⟩ := PL.out.below X4.out.1
  dsimp only at c0 c1 c2
  go_wp2_with (go_at_call 31; fail)
  have X5 := Lib.hid (X4.out.below ((Below.refl _ _).alloc (Nat.le_refl _) (.cells #[.int .i64 2, .int .i64 ln, .string lt] 38)))
  have Y5 : Hid (Box w (w4.alloc (.cells #[.int .i64 2, .int .i64 ln, .string lt] 38)) w4.heap.size ⟨2, ln, lt⟩) := Lib.hid ⟨X5.out.1, (Box.new w4 2 ln lt).2.1, (Box.new w4 2 ln lt).2.2.1, X4.out.1.size, (Box.new w4 2 ln lt).2.2.2.2⟩
  clear c0 c1 c2 X4
  generalize w4.heap.size = B at Y5 ⊢
  generalize w4.alloc (.cells #[.int .i64 2, .int .i64 ln, .string lt] 38) = w5 at X5 Y5 ⊢
  obtain ⟨d0, d1, d2⟩ := X5.out.cells
  obtain ⟨e0, e1, e2⟩ := Y5.out.cells
  have CALL : Hid (∀ W, Below w5.heap.size w5 W → Calls Try.prog 28 #[.slice (some ⟨g, 0, none⟩) m cap, .agg #[.int .i64 1, .int .i64 n, .string t]] W fun e w6 => ∃ p2 cap2, e = .returned (.slice p2 out.length cap2) ∧ Hid (Own w6 base (.slice p2 out.length cap2) out) ∧ Hid (W.grownBy w6 (some g)) ∧ Hid (∀ h, (Value.slice p2 out.length cap2).ownBlock = some h → some g = some h ∨ W.heap.size ≤ h)) := Lib.hid (fun W hW => by
    refine (IH.out _ _ ((OF.out.below X5.out.1).below hW) (Nat.le_trans hbase (Nat.le_trans X5.out.1.size hW.size))).mono ?_
    rintro e w6 ⟨v2, rfl, h1, h2, h3⟩
    obtain ⟨p2, cap2, rfl⟩ := h1.form
    exact ⟨p2, cap2, rfl, Lib.hid h1, Lib.hid h2, Lib.hid h3⟩)
  have hmc : m ≤ cap := by omega
  have hIc : (m : Int) ≤ (cap : Int) := by omega
  have n1 : w.heap.size ≠ g := by omega
  have n2 : B ≠ g := by have := Y5.out.2.2.2.1; omega
  have n3 : w5.heap.size ≠ g := by have := X5.out.1.size; omega
  go_region_held3 (fun W => W.cell? ⟨w.heap.size, 0, none⟩ = some (.int .i64 1) ∧ W.cell? ⟨w.heap.size, 1, none⟩ = some (.int .i64 n) ∧ W.cell? ⟨w.heap.size, 2, none⟩ = some (.string t) ∧ W.cell? ⟨B, 0, none⟩ = some (.int .i64 2) ∧ W.cell? ⟨B, 1, none⟩ = some (.int .i64 ln) ∧ W.cell? ⟨B, 2, none⟩ = some (.string lt)) (first | go_keep | exact ⟨k0, k1, k2, k3, k4, k5⟩ | exact ⟨hgrow3.cell k0 m1, hgrow3.cell k1 m1, hgrow3.cell k2 m1, hgrow3.cell k3 m2, hgrow3.cell k4 m2, hgrow3.cell k5 m2⟩ | (have hA := (Below.refl w6.heap.size w6).alloc (Nat.le_refl _) (.cells #[.int .i64 2, .int .i64 ln, .string lt] 38); exact ⟨hgrow3.cell (cell_later hA k0) m1, hgrow3.cell (cell_later hA k1) m1, hgrow3.cell (cell_later hA k2) m1, hgrow3.cell (cell_later hA k3) m2, hgrow3.cell (cell_later hA k4) m2, hgrow3.cell (cell_later hA k5) m2⟩) | fail)
    (first | (go_at_call 28; (first | (have hW : Below w5.heap.size w5 w5.drew := (Below.refl _ _).drew; refine (CALL.out _ hW).mono ?_) | (have hW : Below w5.heap.size w5 (w5.alloc (.cells #[.int .i64 2, .int .i64 ln, .string lt] 38)).drew := ((Below.refl _ _).alloc (Nat.le_refl _) _).drew; refine (CALL.out _ hW).mono ?_)); rintro e w6 ⟨p2, cap2, rfl, hown2, hgr2, hnew2⟩; have k0 := cell_far' hW hgr2.out d0 n1; have k1 := cell_far' hW hgr2.out d1 n1; have k2 := cell_far' hW hgr2.out d2 n1; have k3 := cell_far' hW hgr2.out e0 n2; have k4 := cell_far' hW hgr2.out e1 n2; have k5 := cell_far' hW hgr2.out e2 n2; have m1 : some w.heap.size ≠ (Value.slice p2 out.length cap2).ownBlock := (fun e => (hnew2.out _ e.symm).elim (fun h => n1 (Option.some.inj h).symm) (fun h => absurd (Nat.lt_of_lt_of_le X5.out.2.2.2.2 hW.size) (Nat.not_lt.2 h))); have m2 : some B ≠ (Value.slice p2 out.length cap2).ownBlock := (fun e => (hnew2.out _ e.symm).elim (fun h => n2 (Option.some.inj h).symm) (fun h => absurd (Nat.lt_of_lt_of_le Y5.out.2.2.2.2 hW.size) (Nat.not_lt.2 h))); have hb6 : base ≤ w6.heap.size := Nat.le_trans hbase (Nat.le_trans X5.out.1.size (Nat.le_trans hW.size hgr2.out.size))) | (refine step_append_lies _ (by rfl) (.tmp 71) (.tmp 73) 22 (by rfl) base 38 i0 _ 3 32 Try.underlying22 hi hz0 hz1 hz2 rfl (by decide) (.slice p2 out.length cap2) out.length (cellsC out) (by rfl) (World.ownsRow.alloc hown2.out _) ⟨w6.heap.size, 0, none⟩ 1 1 (C.cells ⟨2, ln, lt⟩) (by rfl) rfl (three_new rfl ⟨2, ln, lt⟩) (cells_one _) (by decide) (by unfold maxLen; omega) (by omega) (Nat.le_trans hb6 (by simp)) (w6.heap.size + 1) (by simp) ?_; intro g3 cap3 w7 hown3 hgrow3 hgg3 hlt3) | (refine step_append_lies _ (by rfl) (.tmp 71) (.tmp 73) 22 (by rfl) base 38 i0 _ 3 32 Try.underlying22 hi hz0 hz1 hz2 rfl (by decide) (.slice p2 out.length cap2) out.length (cellsC out) (by rfl) hown2.out ⟨w5.heap.size, 0, none⟩ 1 1 (C.cells ⟨2, ln, lt⟩) (by rfl) rfl (news_far ⟨2, ln, lt⟩ hgr2.out n3) (cells_one _) (by decide) (by unfold maxLen; omega) (by omega) hb6 w6.heap.size rfl ?_; intro g3 cap3 w7 hown3 hgrow3 hgg3 hlt3))
  · go_wp2_with (go_at_call 31; fail)
    go_ret
    exact AddPost.of_behind (X5.out.1.trans (hW.mono X5.out.1.size)) hgr2.out hnew2.out ((Below.refl _ _).alloc (Nat.le_refl _) _) hgrow3 (hgg3.elim .inl fun h => .inr (by omega)) rfl hown3
  · go_wp2_with (go_at_call 31; fail)
    go_ret
    exact AddPost.of_behind (X5.out.1.trans (hW.mono X5.out.1.size)) hgr2.out hnew2.out (Below.refl _ _) hgrow3 (hgg3.elim .inl fun h => .inr (by omega)) rfl hown3

theorem addR_bound (c : C) (r : List C) (h : r.length ≤ 8192) : (addR r c).length ≤ 8193 := by
  have := addR_length c r
  omega

/-- add, whatever stands there. -/
theorem add_rev (base : Nat) (c : C) (hc : Fit c) (h0 : 0 < c.sz) : ∀ (r : List C), r.length ≤ 8192 → (∀ x ∈ r, Fit x) → ∀ (v : Value) (w : World), Own w base v r.reverse → base ≤ w.heap.size → Calls Try.prog 28 #[v, c.val] w (AddPost base v (addR r c).reverse w)
  | [], _, _, v, w, ho, hb => by
    simpa [addR] using add_first base c v w ho hb hc h0
  | l :: r, hl, hf, v, w, ho, hb => by
    rw [List.reverse_cons] at ho
    simp only [List.length_cons] at hl
    have hr : ∀ x ∈ r, Fit x := fun x hx => hf x (by simp [hx])
    by_cases h1 : l.k = c.k
    · rw [addR, if_pos h1, List.reverse_cons]
      exact add_join base r.reverse l c v w ho (by simp; omega) (hf l (by simp)) hc h0 h1
    · by_cases h2 : l.k = 2 ∧ c.k = 1
      · rw [addR, if_neg h1, if_pos h2, List.reverse_cons]
        exact add_behind base r.reverse l c v w ho hb (by simp; omega) hc h0 h2.1 h2.2 _ (by rw [List.length_reverse]; exact addR_bound c r (by omega)) (fun v w ho hb => add_rev base c hc h0 r (by omega) hr v w ho hb)
      · rw [addR, if_neg h1, if_neg h2, List.reverse_cons, List.reverse_cons]
        exact add_push base r.reverse l c v w ho hb (by simp; omega) hc h0 h1 (by unfold fol; omega)

theorem add_any (base : Nat) (c : C) (hc : Fit c) (h0 : 0 ≤ c.sz) (cs : List C) (hl : cs.length ≤ 8192) (hf : ∀ x ∈ cs, Fit x) (v : Value) (w : World) (ho : Own w base v cs) (hb : base ≤ w.heap.size) : Calls Try.prog 28 #[v, c.val] w (AddPost base v (addC cs c) w) := by
  unfold addC
  by_cases hz : c.sz = 0
  · rw [if_pos hz]
    exact add_none base cs c v w ho hl hc hz
  · rw [if_neg hz]
    exact add_rev base c hc (by omega) cs.reverse (by simpa using hl) (fun x hx => hf x (by simpa using hx)) v w (by rw [List.reverse_reverse]; exact ho) hb

end Go.Proofs.Ytmlibmleamiljaa
