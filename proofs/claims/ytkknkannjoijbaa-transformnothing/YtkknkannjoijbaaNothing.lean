/-
  The walk of the law TransformNothing. Conditions: as the theorems' premises say.
-/
import Derived.Test.YtkknkannjoijbaaSides
import Derived.Test.YtkknkannjoijbaaW16
namespace Go.Proofs.Ytkknkannjoijbaa
open Go.RowKit

theorem tra_nothing_may (f : Bool) {a : List C} (ha : MayP a) : TraP f a (kp (sumOf fromC a)) := by
  have g := gd_of_may ha
  have h0 := sumOf_nonneg (f := fromC) (cs := a) fun c hc => from_nonneg (g c hc).1
  have h1 := sumOf_nonneg (f := toC) (cs := a) fun c hc => to_nonneg (g c hc).1
  have b1 := (okB_iff.1 ha.1).2.2
  obtain ⟨e1, e2⟩ := tra_nothing f ha
  exact ⟨ha, kp_may h0 b1.1, (kp_from h0).1.symm, by rw [e1]; exact ha, by rw [e2]; exact kp_may h1 b1.2⟩

set_option maxHeartbeats 1000000 in
theorem nothing_no (p : Option Addr) (a : List C) (f : Bool) (cap : Nat) (w : World) (ra : RowC w p a) (ca : a.length ≤ cap) (ha : ¬ MayP a) : Calls Try.prog 6 #[.slice p a.length cap, .bool f] w fun e w' => e = .returned (.bool true) ∧ Below w.heap.size w w' := by
  have RA := Lib.hid ra; have HA := Lib.hid ha
  clear ra ha
  go_enter Try.func6, Try.ntmps6
  go_wp2_with fail
  refine (awake_true _).mono ?_
  rintro e w1 ⟨rfl, hb1⟩
  have B1 := Lib.hid hb1; clear hb1
  go_wp2_with fail
  refine (rlengths_any _ _ _ _ (RA.out.below B1.out)).mono ?_
  rintro e w2 ⟨hb2, ⟨-, hyes⟩ | ⟨rfl, -⟩⟩
  · exact absurd hyes HA.out
  have B2 := Lib.hid (B1.out.trans (hb2.mono B1.out.size)); clear hb2 B1
  go_wp2_with fail
  refine (transform_noL _ _ a [] f _ 0 _ 0 rfl rfl _ (RA.out.below B2.out) (nil_row _) ca (by omega) (fun h => HA.out h.1)).mono ?_
  rintro e w3 ⟨rfl, hb3⟩
  have B3 := Lib.hid (B2.out.trans (hb3.mono B2.out.size)); clear hb3 B2
  go_wp2_with (go_at_call 14; refine (num_any _ _).mono ?_; rintro e w' ⟨rfl, rfl⟩)
  go_ret
  exact ⟨rfl, B3.out⟩

set_option maxHeartbeats 2000000 in
theorem nothing_00 (p : Option Addr) (a : List C) (f : Bool) (cap : Nat) (w : World) (ra : RowC w p a) (ca : a.length ≤ cap) (ha : MayP a) (hf : sumOf fromC a = 0) (ht : sumOf toC a = 0) : Calls Try.prog 6 #[.slice p a.length cap, .bool f] w fun e w' => e = .returned (.bool true) ∧ Below w.heap.size w w' := by
  have RA := Lib.hid ra; have HA := Lib.hid ha
  have cl := tra_nothing_may f ha
  obtain ⟨oP, oQ⟩ := tra_nothing f ha
  have hl : a.length ≤ 4096 := (okB_iff.1 ha.1).1
  have hF4 := (okB_iff.1 ha.1).2.2.1
  have hT4 := (okB_iff.1 ha.1).2.2.2
  clear ra ha
  generalize hfe : sumOf fromC a = F at *
  generalize hte : sumOf toC a = T at *
  have HFE := Lib.hid hfe; have HTE := Lib.hid hte
  clear hfe hte
  subst hf
  rw [show kp 0 = [] from rfl] at cl oP oQ
  subst ht
  try rw [show kp 0 = [] from rfl] at oQ
  have CL := Lib.hid cl; have OP := Lib.hid oP; have OQ := Lib.hid oQ
  clear cl oP oQ
  go_enter Try.func6, Try.ntmps6
  go_wp2_with fail
  refine (awake_true _).mono ?_
  rintro e w1 ⟨rfl, hb1⟩
  have B1 := Lib.hid hb1; clear hb1
  go_wp2_with fail
  refine (rlengths_any _ _ _ _ (RA.out.below B1.out)).mono ?_
  rintro e w2 ⟨hb2, ⟨rfl, -⟩ | ⟨-, hno⟩⟩
  rotate_left
  · exact absurd HA.out hno
  have B2 := Lib.hid (B1.out.trans (hb2.mono B1.out.size)); clear hb2 B1
  rw [HFE.out, HTE.out]
  go_wp2_with fail
  have RP : Hid (RowC w2 none []) := Lib.hid (nil_row _)
  have RQ : Hid (RowC w2 none []) := Lib.hid (nil_row _)
  have B3 := B2
  generalize w2 = w3 at *
  clear B2
  refine (transform_yesL _ _ a [] a [] f _ 0 _ 0 rfl rfl _ (RA.out.below B3.out) RP.out ca (by omega) CL.out OP.out OQ.out).mono ?_
  rintro e w4 ⟨p4, cap4, q4, cap5, rfl, ho4, hu4, hb4⟩
  have O4 := Lib.hid ho4.row; have U4 := Lib.hid hu4.row; have RQ4 := Lib.hid (RQ.out.below hb4); have B4 := Lib.hid (B3.out.trans (hb4.mono B3.out.size))
  clear ho4 hu4 hb4 RP RQ B3
  go_wp2_with (go_at_call 14; refine (num_any _ _).mono ?_; rintro e w' ⟨rfl, rfl⟩)
  refine (same_yes _ _ a _ _ _ _ rfl rfl hl _ O4.out (RA.out.below B4.out)).mono ?_
  rintro e w5 ⟨rfl, hb5⟩
  have B5 := Lib.hid (B4.out.trans (hb5.mono B4.out.size)); have U5 := Lib.hid (U4.out.below hb5); have RQ5 := Lib.hid (RQ4.out.below hb5)
  clear hb5 B4 O4 U4 RQ4
  go_wp2_with fail
  refine (same_yes _ _ [] _ _ _ _ rfl rfl (by simp) _ U5.out RQ5.out).mono ?_
  rintro e w6 ⟨rfl, hb6⟩
  have B6 := Lib.hid (B5.out.trans (hb6.mono B5.out.size))
  clear hb6 B5 U5 RQ5
  go_wp2_with fail
  go_ret
  exact ⟨rfl, B6.out⟩

set_option maxHeartbeats 2000000 in
theorem nothing_01 (p : Option Addr) (a : List C) (f : Bool) (cap : Nat) (w : World) (ra : RowC w p a) (ca : a.length ≤ cap) (ha : MayP a) (hf : sumOf fromC a = 0) (ht : 0 < sumOf toC a) : Calls Try.prog 6 #[.slice p a.length cap, .bool f] w fun e w' => e = .returned (.bool true) ∧ Below w.heap.size w w' := by
  have RA := Lib.hid ra; have HA := Lib.hid ha
  have cl := tra_nothing_may f ha
  obtain ⟨oP, oQ⟩ := tra_nothing f ha
  have hl : a.length ≤ 4096 := (okB_iff.1 ha.1).1
  have hF4 := (okB_iff.1 ha.1).2.2.1
  have hT4 := (okB_iff.1 ha.1).2.2.2
  clear ra ha
  generalize hfe : sumOf fromC a = F at *
  generalize hte : sumOf toC a = T at *
  have HFE := Lib.hid hfe; have HTE := Lib.hid hte
  clear hfe hte
  subst hf
  rw [show kp 0 = [] from rfl] at cl oP oQ
  rw [kp_pos ht] at oQ
  have CL := Lib.hid cl; have OP := Lib.hid oP; have OQ := Lib.hid oQ
  clear cl oP oQ
  go_enter Try.func6, Try.ntmps6
  go_wp2_with fail
  refine (awake_true _).mono ?_
  rintro e w1 ⟨rfl, hb1⟩
  have B1 := Lib.hid hb1; clear hb1
  go_wp2_with fail
  refine (rlengths_any _ _ _ _ (RA.out.below B1.out)).mono ?_
  rintro e w2 ⟨hb2, ⟨rfl, -⟩ | ⟨-, hno⟩⟩
  rotate_left
  · exact absurd HA.out hno
  have B2 := Lib.hid (B1.out.trans (hb2.mono B1.out.size)); clear hb2 B1
  rw [HFE.out, HTE.out]
  go_wp2_with fail
  show Calls Try.prog 11 _ (w2.alloc (.cells (cellsC [⟨0, T, e0⟩]).toArray 41)) _
  have RQ : Hid (RowC (w2.alloc (.cells (cellsC [⟨0, T, e0⟩]).toArray 41)) (some ⟨w2.heap.size, 0, none⟩) [⟨0, T, e0⟩]) := Lib.hid (lit_row w2 [⟨0, T, e0⟩] _ rfl)
  have B3 : Hid (Below w.heap.size w (w2.alloc (.cells (cellsC [⟨0, T, e0⟩]).toArray 41))) := Lib.hid (B2.out.alloc B2.out.size _)
  generalize w2.alloc (.cells (cellsC [⟨0, T, e0⟩]).toArray 41) = w3 at RQ B3 ⊢
  have RP : Hid (RowC w3 none []) := Lib.hid (nil_row _)
  clear B2
  refine (transform_yesL _ _ a [] a [⟨0, T, e0⟩] f _ 0 _ 0 rfl rfl _ (RA.out.below B3.out) RP.out ca (by omega) CL.out OP.out OQ.out).mono ?_
  rintro e w4 ⟨p4, cap4, q4, cap5, rfl, ho4, hu4, hb4⟩
  have O4 := Lib.hid ho4.row; have U4 := Lib.hid hu4.row; have RQ4 := Lib.hid (RQ.out.below hb4); have B4 := Lib.hid (B3.out.trans (hb4.mono B3.out.size))
  clear ho4 hu4 hb4 RP RQ B3
  go_wp2_with (go_at_call 14; refine (num_any _ _).mono ?_; rintro e w' ⟨rfl, rfl⟩)
  refine (same_yes _ _ a _ _ _ _ rfl rfl hl _ O4.out (RA.out.below B4.out)).mono ?_
  rintro e w5 ⟨rfl, hb5⟩
  have B5 := Lib.hid (B4.out.trans (hb5.mono B4.out.size)); have U5 := Lib.hid (U4.out.below hb5); have RQ5 := Lib.hid (RQ4.out.below hb5)
  clear hb5 B4 O4 U4 RQ4
  go_wp2_with fail
  refine (same_yes _ _ [⟨0, T, e0⟩] _ _ _ _ rfl rfl (by simp) _ U5.out RQ5.out).mono ?_
  rintro e w6 ⟨rfl, hb6⟩
  have B6 := Lib.hid (B5.out.trans (hb6.mono B5.out.size))
  clear hb6 B5 U5 RQ5
  go_wp2_with fail
  go_ret
  exact ⟨rfl, B6.out⟩

set_option maxHeartbeats 2000000 in
theorem nothing_10 (p : Option Addr) (a : List C) (f : Bool) (cap : Nat) (w : World) (ra : RowC w p a) (ca : a.length ≤ cap) (ha : MayP a) (hf : 0 < sumOf fromC a) (ht : sumOf toC a = 0) : Calls Try.prog 6 #[.slice p a.length cap, .bool f] w fun e w' => e = .returned (.bool true) ∧ Below w.heap.size w w' := by
  have RA := Lib.hid ra; have HA := Lib.hid ha
  have cl := tra_nothing_may f ha
  obtain ⟨oP, oQ⟩ := tra_nothing f ha
  have hl : a.length ≤ 4096 := (okB_iff.1 ha.1).1
  have hF4 := (okB_iff.1 ha.1).2.2.1
  have hT4 := (okB_iff.1 ha.1).2.2.2
  clear ra ha
  generalize hfe : sumOf fromC a = F at *
  generalize hte : sumOf toC a = T at *
  have HFE := Lib.hid hfe; have HTE := Lib.hid hte
  clear hfe hte
  rw [kp_pos hf] at cl oP oQ
  subst ht
  rw [show kp 0 = [] from rfl] at oQ
  have CL := Lib.hid cl; have OP := Lib.hid oP; have OQ := Lib.hid oQ
  clear cl oP oQ
  go_enter Try.func6, Try.ntmps6
  go_wp2_with fail
  refine (awake_true _).mono ?_
  rintro e w1 ⟨rfl, hb1⟩
  have B1 := Lib.hid hb1; clear hb1
  go_wp2_with fail
  refine (rlengths_any _ _ _ _ (RA.out.below B1.out)).mono ?_
  rintro e w2 ⟨hb2, ⟨rfl, -⟩ | ⟨-, hno⟩⟩
  rotate_left
  · exact absurd HA.out hno
  have B2 := Lib.hid (B1.out.trans (hb2.mono B1.out.size)); clear hb2 B1
  rw [HFE.out, HTE.out]
  go_wp2_with fail
  show Calls Try.prog 11 _ (w2.alloc (.cells (cellsC [⟨0, F, e0⟩]).toArray 41)) _
  have RP : Hid (RowC (w2.alloc (.cells (cellsC [⟨0, F, e0⟩]).toArray 41)) (some ⟨w2.heap.size, 0, none⟩) [⟨0, F, e0⟩]) := Lib.hid (lit_row w2 [⟨0, F, e0⟩] _ rfl)
  have B3 : Hid (Below w.heap.size w (w2.alloc (.cells (cellsC [⟨0, F, e0⟩]).toArray 41))) := Lib.hid (B2.out.alloc B2.out.size _)
  generalize w2.alloc (.cells (cellsC [⟨0, F, e0⟩]).toArray 41) = w3 at RP B3 ⊢
  have RQ : Hid (RowC w3 none []) := Lib.hid (nil_row _)
  clear B2
  refine (transform_yesL _ _ a [⟨0, F, e0⟩] a [] f _ 1 _ 1 rfl rfl _ (RA.out.below B3.out) RP.out ca (by omega) CL.out OP.out OQ.out).mono ?_
  rintro e w4 ⟨p4, cap4, q4, cap5, rfl, ho4, hu4, hb4⟩
  have O4 := Lib.hid ho4.row; have U4 := Lib.hid hu4.row; have RQ4 := Lib.hid (RQ.out.below hb4); have B4 := Lib.hid (B3.out.trans (hb4.mono B3.out.size))
  clear ho4 hu4 hb4 RP RQ B3
  go_wp2_with (go_at_call 14; refine (num_any _ _).mono ?_; rintro e w' ⟨rfl, rfl⟩)
  refine (same_yes _ _ a _ _ _ _ rfl rfl hl _ O4.out (RA.out.below B4.out)).mono ?_
  rintro e w5 ⟨rfl, hb5⟩
  have B5 := Lib.hid (B4.out.trans (hb5.mono B4.out.size)); have U5 := Lib.hid (U4.out.below hb5); have RQ5 := Lib.hid (RQ4.out.below hb5)
  clear hb5 B4 O4 U4 RQ4
  go_wp2_with fail
  refine (same_yes _ _ [] _ _ _ _ rfl rfl (by simp) _ U5.out RQ5.out).mono ?_
  rintro e w6 ⟨rfl, hb6⟩
  have B6 := Lib.hid (B5.out.trans (hb6.mono B5.out.size))
  clear hb6 B5 U5 RQ5
  go_wp2_with fail
  go_ret
  exact ⟨rfl, B6.out⟩

set_option maxHeartbeats 2000000 in
theorem nothing_11 (p : Option Addr) (a : List C) (f : Bool) (cap : Nat) (w : World) (ra : RowC w p a) (ca : a.length ≤ cap) (ha : MayP a) (hf : 0 < sumOf fromC a) (ht : 0 < sumOf toC a) : Calls Try.prog 6 #[.slice p a.length cap, .bool f] w fun e w' => e = .returned (.bool true) ∧ Below w.heap.size w w' := by
  have RA := Lib.hid ra; have HA := Lib.hid ha
  have cl := tra_nothing_may f ha
  obtain ⟨oP, oQ⟩ := tra_nothing f ha
  have hl : a.length ≤ 4096 := (okB_iff.1 ha.1).1
  have hF4 := (okB_iff.1 ha.1).2.2.1
  have hT4 := (okB_iff.1 ha.1).2.2.2
  clear ra ha
  generalize hfe : sumOf fromC a = F at *
  generalize hte : sumOf toC a = T at *
  have HFE := Lib.hid hfe; have HTE := Lib.hid hte
  clear hfe hte
  rw [kp_pos hf] at cl oP oQ
  rw [kp_pos ht] at oQ
  have CL := Lib.hid cl; have OP := Lib.hid oP; have OQ := Lib.hid oQ
  clear cl oP oQ
  go_enter Try.func6, Try.ntmps6
  go_wp2_with fail
  refine (awake_true _).mono ?_
  rintro e w1 ⟨rfl, hb1⟩
  have B1 := Lib.hid hb1; clear hb1
  go_wp2_with fail
  refine (rlengths_any _ _ _ _ (RA.out.below B1.out)).mono ?_
  rintro e w2 ⟨hb2, ⟨rfl, -⟩ | ⟨-, hno⟩⟩
  rotate_left
  · exact absurd HA.out hno
  have B2 := Lib.hid (B1.out.trans (hb2.mono B1.out.size)); clear hb2 B1
  rw [HFE.out, HTE.out]
  go_wp2_with fail
  show Calls Try.prog 11 _ ((w2.alloc (.cells (cellsC [⟨0, F, e0⟩]).toArray 41)).alloc (.cells (cellsC [⟨0, T, e0⟩]).toArray 41)) _
  have RP : Hid (RowC ((w2.alloc (.cells (cellsC [⟨0, F, e0⟩]).toArray 41)).alloc (.cells (cellsC [⟨0, T, e0⟩]).toArray 41)) (some ⟨w2.heap.size, 0, none⟩) [⟨0, F, e0⟩]) := Lib.hid ((lit_row w2 [⟨0, F, e0⟩] _ rfl).below ((Below.refl _ _).alloc (Nat.le_refl _) _))
  have RQ : Hid (RowC ((w2.alloc (.cells (cellsC [⟨0, F, e0⟩]).toArray 41)).alloc (.cells (cellsC [⟨0, T, e0⟩]).toArray 41)) (some ⟨w2.heap.size + 1, 0, none⟩) [⟨0, T, e0⟩]) := Lib.hid (by
    have h := lit_row (w2.alloc (.cells (cellsC [⟨0, F, e0⟩]).toArray 41)) [⟨0, T, e0⟩] _ rfl
    rwa [show (w2.alloc (.cells (cellsC [⟨0, F, e0⟩]).toArray 41)).heap.size = w2.heap.size + 1 by simp] at h)
  have B3 : Hid (Below w.heap.size w ((w2.alloc (.cells (cellsC [⟨0, F, e0⟩]).toArray 41)).alloc (.cells (cellsC [⟨0, T, e0⟩]).toArray 41))) := Lib.hid ((B2.out.alloc B2.out.size _).alloc (by have := B2.out.size; simp; omega) _)
  generalize (w2.alloc (.cells (cellsC [⟨0, F, e0⟩]).toArray 41)).alloc (.cells (cellsC [⟨0, T, e0⟩]).toArray 41) = w3 at RP RQ B3 ⊢
  clear B2
  refine (transform_yesL _ _ a [⟨0, F, e0⟩] a [⟨0, T, e0⟩] f _ 1 _ 1 rfl rfl _ (RA.out.below B3.out) RP.out ca (by omega) CL.out OP.out OQ.out).mono ?_
  rintro e w4 ⟨p4, cap4, q4, cap5, rfl, ho4, hu4, hb4⟩
  have O4 := Lib.hid ho4.row; have U4 := Lib.hid hu4.row; have RQ4 := Lib.hid (RQ.out.below hb4); have B4 := Lib.hid (B3.out.trans (hb4.mono B3.out.size))
  clear ho4 hu4 hb4 RP RQ B3
  go_wp2_with (go_at_call 14; refine (num_any _ _).mono ?_; rintro e w' ⟨rfl, rfl⟩)
  refine (same_yes _ _ a _ _ _ _ rfl rfl hl _ O4.out (RA.out.below B4.out)).mono ?_
  rintro e w5 ⟨rfl, hb5⟩
  have B5 := Lib.hid (B4.out.trans (hb5.mono B4.out.size)); have U5 := Lib.hid (U4.out.below hb5); have RQ5 := Lib.hid (RQ4.out.below hb5)
  clear hb5 B4 O4 U4 RQ4
  go_wp2_with fail
  refine (same_yes _ _ [⟨0, T, e0⟩] _ _ _ _ rfl rfl (by simp) _ U5.out RQ5.out).mono ?_
  rintro e w6 ⟨rfl, hb6⟩
  have B6 := Lib.hid (B5.out.trans (hb6.mono B5.out.size))
  clear hb6 B5 U5 RQ5
  go_wp2_with fail
  go_ret
  exact ⟨rfl, B6.out⟩

theorem nothing_true (p : Option Addr) (a : List C) (f : Bool) (cap : Nat) (w : World) (ra : RowC w p a) (ca : a.length ≤ cap) : Calls Try.prog 6 #[.slice p a.length cap, .bool f] w fun e w' => e = .returned (.bool true) ∧ Below w.heap.size w w' := by
  by_cases ha : MayP a
  · have g := gd_of_may ha
    have h0 := sumOf_nonneg (f := fromC) (cs := a) fun c hc => from_nonneg (g c hc).1
    have h1 := sumOf_nonneg (f := toC) (cs := a) fun c hc => to_nonneg (g c hc).1
    by_cases hf : 0 < sumOf fromC a
    · by_cases ht : 0 < sumOf toC a
      · exact nothing_11 p a f cap w ra ca ha hf ht
      · exact nothing_10 p a f cap w ra ca ha hf (by omega)
    · by_cases ht : 0 < sumOf toC a
      · exact nothing_01 p a f cap w ra ca ha (by omega) ht
      · exact nothing_00 p a f cap w ra ca ha (by omega) (by omega)
  · exact nothing_no p a f cap w ra ca ha

end Go.Proofs.Ytkknkannjoijbaa
