/-
  Two readers and two rows of the call's own under way; the walks of transform's left and pass. Conditions: as each theorem's premises say.
-/
import Derived.Test.YtkknkannjoijbaaJoin1
import Derived.Test.YtkknkannjoijbaaTraM
import Derived.Test.YtkknkannjoijbaaPeek
import Derived.Deep.RegionHeld3
namespace Go.Proofs.Ytkknkannjoijbaa
open Go.RowKit

/-- Two readers and the two rows that are made. -/
structure TW (R : World → Nat → List C → Prop) (w0 w : World) (ba bb : Nat) (v u : Value) (P Q X Y : List C) : Prop where
  one : JW R w0 w ba bb v P X Y
  two : JW R w0 w ba bb u Q X Y
  apart : ∀ g, v.ownBlock = some g → u.ownBlock = some g → False

theorem JW.flip {R : World → Nat → List C → Prop} {w0 w : World} {ba bb : Nat} {v : Value} {P X Y : List C} (h : JW R w0 w ba bb v P X Y) : JW R w0 w bb ba v P Y X :=
  ⟨h.own, h.rb, h.ra, h.below, h.nb, h.na, h.ab.symm, h.hb, h.ha, h.lb, h.la⟩
theorem TW.flip {R : World → Nat → List C → Prop} {w0 w : World} {ba bb : Nat} {v u : Value} {P Q X Y : List C} (h : TW R w0 w ba bb v u P Q X Y) : TW R w0 w bb ba u v Q P Y X :=
  ⟨h.two.flip, h.one.flip, fun g h1 h2 => h.apart g h2 h1⟩
theorem TW.swap {R : World → Nat → List C → Prop} {w0 w : World} {ba bb : Nat} {v u : Value} {P Q X Y : List C} (h : TW R w0 w ba bb v u P Q X Y) : TW R w0 w ba bb u v Q P X Y :=
  ⟨h.two, h.one, fun g h1 h2 => h.apart g h2 h1⟩
theorem TW.next {R : World → Nat → List C → Prop} (F : Far R) {w0 w w' : World} {ba bb : Nat} {v u : Value} {P Q X Y : List C} (h : TW R w0 w ba bb v u P Q X Y) (hb : Below w.heap.size w w') : TW R w0 w' ba bb v u P Q X Y :=
  ⟨h.one.next F hb, h.two.next F hb, h.apart⟩
theorem TW.takeA {R : World → Nat → List C → Prop} (F : Far R) {w0 w w' : World} {ba bb : Nat} {v u : Value} {P Q X Y X' : List C} (h : TW R w0 w ba bb v u P Q X Y) (hg : w.grownBy w' (some ba)) (hr : R w' ba X') : TW R w0 w' ba bb v u P Q X' Y :=
  ⟨h.one.takeA F hg hr, h.two.takeA F hg hr, h.apart⟩
theorem TW.takeB {R : World → Nat → List C → Prop} (F : Far R) {w0 w w' : World} {ba bb : Nat} {v u : Value} {P Q X Y Y' : List C} (h : TW R w0 w ba bb v u P Q X Y) (hg : w.grownBy w' (some bb)) (hr : R w' bb Y') : TW R w0 w' ba bb v u P Q X Y' :=
  ⟨h.one.takeB F hg hr, h.two.takeB F hg hr, h.apart⟩
theorem TW.add {R : World → Nat → List C → Prop} (F : Far R) {w0 w w' : World} {ba bb : Nat} {v u : Value} {P Q out X Y : List C} {e : Ending} (h : TW R w0 w ba bb v u P Q X Y) (hp : AddPost w0.heap.size v out w e w') : ∃ v', e = .returned v' ∧ TW R w0 w' ba bb v' u out Q X Y := by
  obtain ⟨v', rfl, j⟩ := h.one.add F hp
  obtain ⟨v2, e2, ho, hg, hn⟩ := hp
  cases e2
  have hu : u.ownBlock = none ∨ u.ownBlock ≠ v.ownBlock := by
    cases hu : u.ownBlock with
    | none => exact .inl rfl
    | some g => exact .inr fun e => h.apart g e.symm hu
  refine ⟨v', rfl, j, ⟨h.two.own.grown hg hu, j.ra, j.rb, j.below, h.two.na, h.two.nb, j.ab, j.ha, j.hb, j.la, j.lb⟩, fun g h1 h2 => ?_⟩
  rcases hn g h1 with e | e
  · exact h.apart g e h2
  · have := (h.two.own.lt h2).2; omega
theorem TW.add2 {R : World → Nat → List C → Prop} (F : Far R) {w0 w w' : World} {ba bb : Nat} {v u : Value} {P Q out X Y : List C} {e : Ending} (h : TW R w0 w ba bb v u P Q X Y) (hp : AddPost w0.heap.size u out w e w') : ∃ u', e = .returned u' ∧ TW R w0 w' ba bb v u' P out X Y := by
  obtain ⟨u', rfl, j⟩ := h.swap.add F hp
  exact ⟨u', rfl, j.swap⟩
/-- A box of the call's own that neither row is. -/
def Bx (w0 w : World) (v : Value) (D : Nat) (c : C) : Prop := PieceAt w D 0 c ∧ D < w.heap.size ∧ v.ownBlock ≠ some D ∧ w0.heap.size ≤ D
theorem Bx.next {w0 w w' : World} {v : Value} {D : Nat} {c : C} (h : Bx w0 w v D c) (hb : Below w.heap.size w w') : Bx w0 w' v D c := ⟨h.1.below hb, Nat.lt_of_lt_of_le h.2.1 hb.size, h.2.2⟩

set_option maxHeartbeats 1000000 in
theorem left_any (x y : C) (w : World) : Calls Try.prog 44 #[x.val, y.val] w fun e w' => e = .returned (leftC x y).val ∧ Below w.heap.size w w' := by
  obtain ⟨k, n, t⟩ := x
  obtain ⟨k', n', t'⟩ := y
  have hA : Below w.heap.size w (((w.alloc (.cells #[.int .i64 k, .int .i64 n, .string t] 41)).alloc (.cells #[.int .i64 k', .int .i64 n', .string t'] 41)).alloc (.cells #[.int .i64 k, .int .i64 n, .string t] 41)) := (((Below.refl _ _).alloc (Nat.le_refl _) _).alloc (by simp) _).alloc (by simp; omega) _
  have hC : Below w.heap.size w (((w.alloc (.cells #[.int .i64 k, .int .i64 n, .string t] 41)).alloc (.cells #[.int .i64 k', .int .i64 n', .string t'] 41)).alloc (.cells #[.int .i64 0, .int .i64 0, .string ⟨#[]⟩] 41)) := (((Below.refl _ _).alloc (Nat.le_refl _) _).alloc (by simp) _).alloc (by simp; omega) _
  unfold C.val
  have hA := Lib.hid hA
  have hC := Lib.hid hC
  by_cases h1 : k' = 0
  · subst h1
    have e : leftC ⟨k, n, t⟩ ⟨0, n', t'⟩ = ⟨k, n, t⟩ := by simp [leftC]
    rw [e]
    clear e
    dsimp only
    go_enter Try.func44, Try.ntmps44
    go_wp2
    (try simp only [Exit.inBlock, Exit.then])
    refine bodyPost_ret (v := .agg #[.int .i64 k, .int .i64 n, .string t]) (by rw [results_cell1 rfl]; go_simp) rfl ⟨rfl, hA.out⟩
  · have e : leftC ⟨k, n, t⟩ ⟨k', n', t'⟩ = ⟨0, 0, e0⟩ := by simp [leftC, h1]
    rw [e]
    clear e
    have g1 : (k' == 0) = false := beq_eq_false_iff_ne.2 h1
    clear h1
    dsimp only
    go_enter Try.func44, Try.ntmps44
    go_wp2
    (try simp only [Exit.inBlock, Exit.then])
    refine bodyPost_ret (v := .agg #[.int .i64 0, .int .i64 0, .string ⟨#[]⟩]) (by rw [results_cell1 rfl]; go_simp) rfl ⟨rfl, hC.out⟩

/-- What pass answers. -/
def PassPost (w0 : World) (ba bb : Nat) (P Q X Y : List C) (e : Ending) (w' : World) : Prop := ∃ v u, e = .returned (.tuple #[v, u]) ∧ TW (Rd w0) w0 w' ba bb v u P Q X Y

theorem TW.addC' {w0 w : World} {ba bb : Nat} {v u : Value} {P Q X Y : List C} (h : TW (Rd w0) w0 w ba bb v u P Q X Y) (hl : P.length ≤ 8192) (hf : ∀ x ∈ P, Fit x) (c : C) (hc : Fit c ∧ c.Soft) : Calls Try.prog 43 #[v, c.val] w fun e w' => AddPost w0.heap.size v (addC P c) w e w' :=
  add_any w0.heap.size c hc.1 (Soft.sz0 hc.2) P hl hf v w h.one.own h.one.below.size

set_option maxHeartbeats 4000000 in
theorem pass_any {w0 w : World} {ba bb : Nat} {v u : Value} {P Q X Y : List C} (c : C) (h : TW (Rd w0) w0 w ba bb v u P Q (c :: X) Y) (hz : c.Soft ∧ 0 < c.sz) (lP : P.length ≤ 8192) (lQ : Q.length ≤ 8192) (fP : ∀ x ∈ P, Fit x) (fQ : ∀ x ∈ Q, Fit x) (hc : Fit c ∧ c.Soft) (hk : Fit (kpC c) ∧ (kpC c).Soft) :
    Calls Try.prog 40 #[v, u, .pointer (some ⟨ba, 0, none⟩)] w (PassPost w0 ba bb (addC P c) (addC Q (kpC c)) X Y) := by
  have HW := Lib.hid h; clear h
  have FAR := Lib.hid (rd_far w0)
  obtain ⟨pv, cv, rfl⟩ := HW.out.one.own.form
  obtain ⟨pu, cu, rfl⟩ := HW.out.two.own.form
  have FP := Lib.hid fP; have FQ := Lib.hid fQ; have HC := Lib.hid hc; have HK := Lib.hid hk; have HZ := Lib.hid hz
  have f1 := hc.1.1; have f2 := hc.1.2.1; have f3 := hc.1.2.2
  have LP := Lib.hid lP; have LQ := Lib.hid lQ
  clear fP fQ hc hk hz lP lQ
  obtain ⟨k, n, t⟩ := c
  dsimp only at f1 f2 f3
  go_enter Try.func40, Try.ntmps40
  go_wp2_with fail
  refine (rd_left HW.out.one.ra HW.out.one.below).mono ?_
  rintro e1 w1 ⟨rfl, hb1⟩
  have HW1 := Lib.hid (HW.out.next FAR.out hb1)
  clear hb1
  go_wp2_with fail
  refine (rd_take_all HW1.out.one.ra HW1.out.one.below HZ.out).mono ?_
  rintro e1 w2 ⟨rfl, hg2, hr2⟩
  have HW2 := Lib.hid (HW1.out.takeA FAR.out hg2 hr2)
  clear hg2 hr2 HW HW1
  unfold C.val
  dsimp only
  go_wp2_with (go_at_call 48; fail)
  have HW3 := Lib.hid (HW2.out.next FAR.out (box_new w2 k n t).2.2.1)
  have X3 : Hid (PieceAt (w2.alloc (.cells #[.int .i64 k, .int .i64 n, .string t] 41)) w2.heap.size 0 ⟨k, n, t⟩ ∧ w2.heap.size < (w2.alloc (.cells #[.int .i64 k, .int .i64 n, .string t] 41)).heap.size) := Lib.hid ⟨(box_new w2 k n t).1, (box_new w2 k n t).2.2.2⟩
  have N3 : Hid ((Value.slice pv P.length cv).ownBlock ≠ some w2.heap.size ∧ (Value.slice pu Q.length cu).ownBlock ≠ some w2.heap.size) := Lib.hid ⟨fun e => absurd (HW2.out.one.own.lt e).2 (Nat.lt_irrefl _), fun e => absurd (HW2.out.two.own.lt e).2 (Nat.lt_irrefl _)⟩
  generalize w2.alloc (.cells #[.int .i64 k, .int .i64 n, .string t] 41) = w3 at HW3 X3 ⊢
  generalize w2.heap.size = D1 at X3 N3 ⊢
  refine (size_any _ _ _ _ f1 f2 f3).mono ?_
  rintro e1 w4 ⟨rfl, hb4⟩
  have HW4 := Lib.hid (HW3.out.next FAR.out hb4)
  have X4 : Hid (PieceAt w4 D1 0 ⟨k, n, t⟩ ∧ D1 < w4.heap.size) := Lib.hid ⟨X3.out.1.below hb4, Nat.lt_of_lt_of_le X3.out.2 hb4.size⟩
  clear hb4 X3 HW3 HW2
  go_wp2_with (go_at_call 43; fail)
  have HW5 := Lib.hid (HW4.out.next FAR.out (box_new w4 0 (n + t.size) ⟨#[]⟩).2.2.1)
  have X5 : Hid (PieceAt (w4.alloc (.cells #[.int .i64 0, .int .i64 (n + t.size), .string ⟨#[]⟩] 41)) D1 0 ⟨k, n, t⟩ ∧ D1 < (w4.alloc (.cells #[.int .i64 0, .int .i64 (n + t.size), .string ⟨#[]⟩] 41)).heap.size) := Lib.hid ⟨X4.out.1.below (box_new w4 0 (n + t.size) ⟨#[]⟩).2.2.1, Nat.lt_of_lt_of_le X4.out.2 (box_new w4 0 (n + t.size) ⟨#[]⟩).2.2.1.size⟩
  have Y5 : Hid (PieceAt (w4.alloc (.cells #[.int .i64 0, .int .i64 (n + t.size), .string ⟨#[]⟩] 41)) w4.heap.size 0 ⟨0, n + t.size, ⟨#[]⟩⟩ ∧ w4.heap.size < (w4.alloc (.cells #[.int .i64 0, .int .i64 (n + t.size), .string ⟨#[]⟩] 41)).heap.size) := Lib.hid ⟨(box_new w4 0 (n + t.size) ⟨#[]⟩).1, (box_new w4 0 (n + t.size) ⟨#[]⟩).2.2.2⟩
  have N5 : Hid ((Value.slice pv P.length cv).ownBlock ≠ some w4.heap.size ∧ (Value.slice pu Q.length cu).ownBlock ≠ some w4.heap.size) := Lib.hid ⟨fun e => absurd (HW4.out.one.own.lt e).2 (Nat.lt_irrefl _), fun e => absurd (HW4.out.two.own.lt e).2 (Nat.lt_irrefl _)⟩
  generalize w4.alloc (.cells #[.int .i64 0, .int .i64 (n + t.size), .string ⟨#[]⟩] 41) = w5 at HW5 X5 Y5 ⊢
  generalize w4.heap.size = D2 at Y5 N5 ⊢
  clear HW4 X4
  have CALL1 : Hid (∀ W, Below w5.heap.size w5 W → Calls Try.prog 43 #[.slice pv P.length cv, .agg #[.int .i64 k, .int .i64 n, .string t]] W fun e w6 => ∃ p2 n2 c2, e = .returned (.slice p2 n2 c2) ∧ Hid (TW (Rd w0) w0 w6 ba bb (.slice p2 n2 c2) (.slice pu Q.length cu) (addC P ⟨k, n, t⟩) Q X Y) ∧ Hid (PieceAt w6 D1 0 ⟨k, n, t⟩ ∧ PieceAt w6 D2 0 ⟨0, n + t.size, ⟨#[]⟩⟩)) := Lib.hid (fun W hW => by
    have h5 := HW5.out.next FAR.out hW
    refine (h5.addC' LP.out FP.out ⟨k, n, t⟩ HC.out).mono ?_
    intro e w6 hp
    have hg := hp
    obtain ⟨v', rfl, j⟩ := h5.add FAR.out hp
    obtain ⟨v2, e2, -, hg, -⟩ := hg
    obtain ⟨p2, c2, rfl⟩ := j.one.own.form
    exact ⟨p2, _, c2, rfl, Lib.hid j, Lib.hid ⟨(X5.out.1.below hW).grown hg (fun g e1 e2 => N3.out.1 (e2 ▸ e1)), (Y5.out.1.below hW).grown hg (fun g e1 e2 => N5.out.1 (e2 ▸ e1))⟩⟩)
  have CALL2 : Hid (∀ W v P', TW (Rd w0) w0 W ba bb v (.slice pu Q.length cu) P' Q X Y → PieceAt W D1 0 ⟨k, n, t⟩ ∧ PieceAt W D2 0 ⟨0, n + t.size, ⟨#[]⟩⟩ → Calls Try.prog 43 #[.slice pu Q.length cu, .agg #[.int .i64 0, .int .i64 (n + t.size), .string ⟨#[]⟩]] W fun e w6 => ∃ p2 n2 c2, e = .returned (.slice p2 n2 c2) ∧ Hid (TW (Rd w0) w0 w6 ba bb v (.slice p2 n2 c2) P' (addC Q (kpC ⟨k, n, t⟩)) X Y) ∧ Hid (PieceAt w6 D1 0 ⟨k, n, t⟩ ∧ PieceAt w6 D2 0 ⟨0, n + t.size, ⟨#[]⟩⟩)) := Lib.hid (fun W v P' h5 hX => by
    refine (h5.swap.addC' LQ.out FQ.out (kpC ⟨k, n, t⟩) HK.out).mono ?_
    intro e w6 hp
    have hg := hp
    obtain ⟨v', rfl, j⟩ := h5.add2 FAR.out hp
    obtain ⟨v2, e2, -, hg, -⟩ := hg
    obtain ⟨p2, c2, rfl⟩ := j.two.own.form
    exact ⟨p2, _, c2, rfl, Lib.hid j, Lib.hid ⟨hX.1.grown hg (fun g e1 e2 => N3.out.2 (e2 ▸ e1)), hX.2.grown hg (fun g e1 e2 => N5.out.2 (e2 ▸ e1))⟩⟩)
  obtain ⟨⟨x0, x1, x2⟩, -⟩ := X5.out
  obtain ⟨⟨y0, y1, y2⟩, -⟩ := Y5.out
  dsimp only [e0] at x0 x1 x2 y0 y1 y2
  generalize P.length = np at *
  generalize Q.length = nq at *
  clear HW5 HC HK HZ FP FQ LP LQ X5 Y5 N3 N5
  go_region_held3 (fun W => W.cell? ⟨D1, 0, none⟩ = some (.int .i64 k) ∧ W.cell? ⟨D1, 1, none⟩ = some (.int .i64 n) ∧ W.cell? ⟨D1, 2, none⟩ = some (.string t) ∧ W.cell? ⟨D2, 0, none⟩ = some (.int .i64 0) ∧ W.cell? ⟨D2, 1, none⟩ = some (.int .i64 (n + t.size)) ∧ W.cell? ⟨D2, 2, none⟩ = some (.string ⟨#[]⟩)) (first | go_keep | exact ⟨k30, k31, k32, k33, k34, k35⟩ | exact ⟨k20, k21, k22, k23, k24, k25⟩ | fail)
    (first | (have HH := T2.out; go_at_call 43; refine (CALL2.out _ _ _ HH H2.out).mono ?_; rintro e w7 ⟨p3, n3, c3, rfl, T3, H3⟩; obtain ⟨⟨k30, k31, k32⟩, k33, k34, k35⟩ := H3.out) | (go_at_call 43; have hW : Below w5.heap.size w5 w5.drew := (Below.refl _ _).drew; refine (CALL1.out _ hW).mono ?_; rintro e w6 ⟨p2, n2, c2, rfl, T2, H2⟩; obtain ⟨⟨k20, k21, k22⟩, k23, k24, k25⟩ := H2.out))
  go_wp2_with fail
  go_ret2
  exact ⟨_, _, rfl, T3.out⟩

end Go.Proofs.Ytkknkannjoijbaa
