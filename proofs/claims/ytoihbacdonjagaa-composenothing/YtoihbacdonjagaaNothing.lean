/-
  The walk of the law ComposeNothing. Conditions: as the theorems' premises say.
-/
import Derived.Test.YtoihbacdonjagaaAw
namespace Go.Proofs.Ytoihbacdonjagaa
open Go.RowKit

theorem com_left {a : List C} (ha : MayP a) : ComP (kp (sumOf fromC a)) a ∧ normOf (joinL (kp (sumOf fromC a)) a) = a := by
  have g := gd_of_may ha
  have h0 := sumOf_nonneg (f := fromC) (cs := a) fun c hc => from_nonneg (g c hc).1
  have h1 := (okB_iff.1 ha.1).2.2.1
  have e : normOf (joinL (kp (sumOf fromC a)) a) = a := by rw [join_keep_left a _ g rfl, norm_of_may ha]
  exact ⟨⟨kp_may h0 h1, ha, (kp_from h0).2, by rw [e]; exact ha⟩, e⟩
theorem com_right {a : List C} (ha : MayP a) : ComP a (kp (sumOf toC a)) ∧ normOf (joinL a (kp (sumOf toC a))) = a := by
  have g := gd_of_may ha
  have h0 := sumOf_nonneg (f := toC) (cs := a) fun c hc => to_nonneg (g c hc).1
  have h1 := (okB_iff.1 ha.1).2.2.2
  have e : normOf (joinL a (kp (sumOf toC a))) = a := by rw [join_keep_right a _ g rfl, norm_of_may ha]
  exact ⟨⟨ha, kp_may h0 h1, (kp_from h0).1.symm, by rw [e]; exact ha⟩, e⟩
theorem com_longer (a : List C) : ¬ ComP a [⟨0, sumOf toC a + 1, e0⟩] := fun h => by
  have := h.2.2.1
  simp only [sumOf, fromC] at this
  rw [if_neg (by omega)] at this
  omega

set_option maxHeartbeats 1000000 in
theorem nothing_no (p : Option Addr) (a : List C) (cap : Nat) (w : World) (ra : RowC w p a) (ca : a.length ≤ cap) (ha : ¬ MayP a) : Calls Try.prog 6 #[.slice p a.length cap] w fun e w' => e = .returned (.bool true) ∧ Below w.heap.size w w' := by
  have RA := Lib.hid ra; have HA := Lib.hid ha
  clear ra ha
  go_enter Try.func6, Try.ntmps6
  go_wp2_with fail
  refine (awake_true _).mono ?_
  rintro e w1 ⟨rfl, hb1⟩
  have B1 := Lib.hid hb1; clear hb1
  go_wp2_with fail
  refine (rlengths_any _ _ _ _ (RA.out.below B1.out)).mono ?_
  rintro e w2 ⟨hb2, ⟨-, hyes⟩ | ⟨rfl, -⟩⟩
  · exact absurd hyes HA.out
  have B2 := Lib.hid (B1.out.trans (hb2.mono B1.out.size)); clear hb2 B1
  go_wp2_with fail
  refine (compose_noL _ _ a [] _ 0 _ 0 rfl rfl _ (RA.out.below B2.out) (nil_row _) ca (by omega) (fun h => HA.out h.1)).mono ?_
  rintro e w3 ⟨rfl, hb3⟩
  have B3 := Lib.hid (B2.out.trans (hb3.mono B2.out.size)); clear hb3 B2
  go_wp2_with (go_at_call 11; refine (num_any _ _).mono ?_; rintro e w' ⟨rfl, rfl⟩)
  go_ret
  exact ⟨rfl, B3.out⟩

set_option maxHeartbeats 2000000 in
theorem nothing_00 (p : Option Addr) (a : List C) (cap : Nat) (w : World) (ra : RowC w p a) (ca : a.length ≤ cap) (ha : MayP a) (hf : sumOf fromC a = 0) (ht : sumOf toC a = 0) : Calls Try.prog 6 #[.slice p a.length cap] w fun e w' => e = .returned (.bool true) ∧ Below w.heap.size w w' := by
  have RA := Lib.hid ra; have HA := Lib.hid ha
  obtain ⟨cl, ol⟩ := com_left ha
  obtain ⟨cr, or_⟩ := com_right ha
  have cx := com_longer a
  have hl : a.length ≤ 4096 := (okB_iff.1 ha.1).1
  have hF4 := (okB_iff.1 ha.1).2.2.1
  have hT4 := (okB_iff.1 ha.1).2.2.2
  clear ra ha
  generalize hfe : sumOf fromC a = F at *
  generalize hte : sumOf toC a = T at *
  have HFE := Lib.hid hfe; have HTE := Lib.hid hte
  clear hfe hte
  subst hf
  rw [show kp 0 = [] from rfl] at cl ol
  subst ht
  rw [show kp 0 = [] from rfl] at cr or_
  have CL := Lib.hid cl; have OL := Lib.hid ol; have CR := Lib.hid cr; have OR := Lib.hid or_; have CX : Hid (¬ ComP a [⟨0, 1, e0⟩]) := Lib.hid cx
  clear cl ol cr or_ cx
  go_enter Try.func6, Try.ntmps6
  go_wp2_with fail
  refine (awake_true _).mono ?_
  rintro e w1 ⟨rfl, hb1⟩
  have B1 := Lib.hid hb1; clear hb1
  go_wp2_with fail
  refine (rlengths_any _ _ _ _ (RA.out.below B1.out)).mono ?_
  rintro e w2 ⟨hb2, ⟨rfl, -⟩ | ⟨-, hno⟩⟩
  rotate_left
  · exact absurd HA.out hno
  have B2 := Lib.hid (B1.out.trans (hb2.mono B1.out.size)); clear hb2 B1
  rw [HFE.out, HTE.out]
  go_wp2_with fail
  have RP : Hid (RowC w2 none []) := Lib.hid (nil_row _)
  have RQ : Hid (RowC w2 none []) := Lib.hid (nil_row _)
  have B3 := B2
  generalize w2 = w3 at *
  clear B2
  refine (compose_yesL _ _ [] a a 0 _ 0 _ rfl rfl _ RP.out (RA.out.below B3.out) (by omega) ca CL.out OL.out).mono ?_
  rintro e w4 ⟨p4, cap4, rfl, ho4, hb4⟩
  have O4 := Lib.hid ho4; have RQ4 := Lib.hid (RQ.out.below hb4); have B4 := Lib.hid (B3.out.trans (hb4.mono B3.out.size))
  clear ho4 hb4 RP RQ B3
  go_wp2_with fail
  refine (compose_yesL _ _ a [] a _ 0 _ 0 rfl rfl _ (RA.out.below B4.out) RQ4.out ca (by omega) CR.out OR.out).mono ?_
  rintro e w5 ⟨p5, cap5, rfl, ho5, hb5⟩
  have O5 := Lib.hid ho5; have P5 := Lib.hid (O4.out.below hb5); have B5 := Lib.hid (B4.out.trans (hb5.mono B4.out.size))
  clear ho5 hb5 RQ4 O4 B4
  go_wp2_with fail
  show Calls Try.prog 8 _ (w5.alloc (.cells (cellsC [⟨0, 1, e0⟩]).toArray 44)) _
  have RX : Hid (RowC (w5.alloc (.cells (cellsC [⟨0, 1, e0⟩]).toArray 44)) (some ⟨w5.heap.size, 0, none⟩) [⟨0, 1, e0⟩]) := Lib.hid (lit_row w5 [⟨0, 1, e0⟩] _ rfl)
  have b56 : Below w5.heap.size w5 (w5.alloc (.cells (cellsC [⟨0, 1, e0⟩]).toArray 44)) := (Below.refl _ _).alloc (Nat.le_refl _) _
  have B6 := Lib.hid (B5.out.trans (b56.mono B5.out.size)); have O6 := Lib.hid (O5.out.below b56); have P6 := Lib.hid (P5.out.below b56)
  clear b56 B5 O5 P5
  generalize w5.alloc (.cells (cellsC [⟨0, 1, e0⟩]).toArray 44) = w6 at RX B6 O6 P6 ⊢
  refine (compose_noL _ _ a [⟨0, 1, e0⟩] _ 1 _ 1 rfl rfl _ (RA.out.below B6.out) RX.out ca (by omega) CX.out).mono ?_
  rintro e w7 ⟨rfl, hb7⟩
  have B7 := Lib.hid (B6.out.trans (hb7.mono B6.out.size)); have O7 := Lib.hid (O6.out.below hb7); have P7 := Lib.hid (P6.out.below hb7)
  clear hb7 B6 O6 P6 RX
  go_wp2_with (go_at_call 11; refine (num_any _ _).mono ?_; rintro e w' ⟨rfl, rfl⟩)
  refine (same_any _ _ a a _ _ _ P7.out.row (RA.out.below B7.out) (by omega)).mono ?_
  rintro e w8 ⟨hb8, ⟨rfl, -⟩ | ⟨-, hno⟩⟩
  rotate_left
  · exact absurd rfl hno
  have B8 := Lib.hid (B7.out.trans (hb8.mono B7.out.size)); have O8 := Lib.hid (O7.out.below hb8)
  clear hb8 B7 O7 P7
  go_wp2_with (go_at_call 11; refine (num_any _ _).mono ?_; rintro e w' ⟨rfl, rfl⟩)
  refine (same_any _ _ a a _ _ _ O8.out.row (RA.out.below B8.out) (by omega)).mono ?_
  rintro e w9 ⟨hb9, ⟨rfl, -⟩ | ⟨-, hno⟩⟩
  rotate_left
  · exact absurd rfl hno
  have B9 := Lib.hid (B8.out.trans (hb9.mono B8.out.size))
  clear hb9 B8 O8
  go_wp2_with (go_at_call 11; refine (num_any _ _).mono ?_; rintro e w' ⟨rfl, rfl⟩)
  go_ret
  exact ⟨rfl, B9.out⟩

set_option maxHeartbeats 2000000 in
theorem nothing_01 (p : Option Addr) (a : List C) (cap : Nat) (w : World) (ra : RowC w p a) (ca : a.length ≤ cap) (ha : MayP a) (hf : sumOf fromC a = 0) (ht : 0 < sumOf toC a) : Calls Try.prog 6 #[.slice p a.length cap] w fun e w' => e = .returned (.bool true) ∧ Below w.heap.size w w' := by
  have RA := Lib.hid ra; have HA := Lib.hid ha
  obtain ⟨cl, ol⟩ := com_left ha
  obtain ⟨cr, or_⟩ := com_right ha
  have cx := com_longer a
  have hl : a.length ≤ 4096 := (okB_iff.1 ha.1).1
  have hF4 := (okB_iff.1 ha.1).2.2.1
  have hT4 := (okB_iff.1 ha.1).2.2.2
  clear ra ha
  generalize hfe : sumOf fromC a = F at *
  generalize hte : sumOf toC a = T at *
  have HFE := Lib.hid hfe; have HTE := Lib.hid hte
  clear hfe hte
  subst hf
  rw [show kp 0 = [] from rfl] at cl ol
  rw [kp_pos ht] at cr or_
  have CL := Lib.hid cl; have OL := Lib.hid ol; have CR := Lib.hid cr; have OR := Lib.hid or_; have CX := Lib.hid cx
  clear cl ol cr or_ cx
  go_enter Try.func6, Try.ntmps6
  go_wp2_with fail
  refine (awake_true _).mono ?_
  rintro e w1 ⟨rfl, hb1⟩
  have B1 := Lib.hid hb1; clear hb1
  go_wp2_with fail
  refine (rlengths_any _ _ _ _ (RA.out.below B1.out)).mono ?_
  rintro e w2 ⟨hb2, ⟨rfl, -⟩ | ⟨-, hno⟩⟩
  rotate_left
  · exact absurd HA.out hno
  have B2 := Lib.hid (B1.out.trans (hb2.mono B1.out.size)); clear hb2 B1
  rw [HFE.out, HTE.out]
  go_wp2_with fail
  show Calls Try.prog 8 _ (w2.alloc (.cells (cellsC [⟨0, T, e0⟩]).toArray 44)) _
  have RQ : Hid (RowC (w2.alloc (.cells (cellsC [⟨0, T, e0⟩]).toArray 44)) (some ⟨w2.heap.size, 0, none⟩) [⟨0, T, e0⟩]) := Lib.hid (lit_row w2 [⟨0, T, e0⟩] _ rfl)
  have B3 : Hid (Below w.heap.size w (w2.alloc (.cells (cellsC [⟨0, T, e0⟩]).toArray 44))) := Lib.hid (B2.out.alloc B2.out.size _)
  generalize w2.alloc (.cells (cellsC [⟨0, T, e0⟩]).toArray 44) = w3 at RQ B3 ⊢
  have RP : Hid (RowC w3 none []) := Lib.hid (nil_row _)
  clear B2
  refine (compose_yesL _ _ [] a a 0 _ 0 _ rfl rfl _ RP.out (RA.out.below B3.out) (by omega) ca CL.out OL.out).mono ?_
  rintro e w4 ⟨p4, cap4, rfl, ho4, hb4⟩
  have O4 := Lib.hid ho4; have RQ4 := Lib.hid (RQ.out.below hb4); have B4 := Lib.hid (B3.out.trans (hb4.mono B3.out.size))
  clear ho4 hb4 RP RQ B3
  go_wp2_with fail
  refine (compose_yesL _ _ a [⟨0, T, e0⟩] a _ 1 _ 1 rfl rfl _ (RA.out.below B4.out) RQ4.out ca (by omega) CR.out OR.out).mono ?_
  rintro e w5 ⟨p5, cap5, rfl, ho5, hb5⟩
  have O5 := Lib.hid ho5; have P5 := Lib.hid (O4.out.below hb5); have B5 := Lib.hid (B4.out.trans (hb5.mono B4.out.size))
  clear ho5 hb5 RQ4 O4 B4
  go_wp2_with fail
  show Calls Try.prog 8 _ (w5.alloc (.cells (cellsC [⟨0, (T + 1), e0⟩]).toArray 44)) _
  have RX : Hid (RowC (w5.alloc (.cells (cellsC [⟨0, (T + 1), e0⟩]).toArray 44)) (some ⟨w5.heap.size, 0, none⟩) [⟨0, (T + 1), e0⟩]) := Lib.hid (lit_row w5 [⟨0, (T + 1), e0⟩] _ rfl)
  have b56 : Below w5.heap.size w5 (w5.alloc (.cells (cellsC [⟨0, (T + 1), e0⟩]).toArray 44)) := (Below.refl _ _).alloc (Nat.le_refl _) _
  have B6 := Lib.hid (B5.out.trans (b56.mono B5.out.size)); have O6 := Lib.hid (O5.out.below b56); have P6 := Lib.hid (P5.out.below b56)
  clear b56 B5 O5 P5
  generalize w5.alloc (.cells (cellsC [⟨0, (T + 1), e0⟩]).toArray 44) = w6 at RX B6 O6 P6 ⊢
  refine (compose_noL _ _ a [⟨0, (T + 1), e0⟩] _ 1 _ 1 rfl rfl _ (RA.out.below B6.out) RX.out ca (by omega) CX.out).mono ?_
  rintro e w7 ⟨rfl, hb7⟩
  have B7 := Lib.hid (B6.out.trans (hb7.mono B6.out.size)); have O7 := Lib.hid (O6.out.below hb7); have P7 := Lib.hid (P6.out.below hb7)
  clear hb7 B6 O6 P6 RX
  go_wp2_with (go_at_call 11; refine (num_any _ _).mono ?_; rintro e w' ⟨rfl, rfl⟩)
  refine (same_any _ _ a a _ _ _ P7.out.row (RA.out.below B7.out) (by omega)).mono ?_
  rintro e w8 ⟨hb8, ⟨rfl, -⟩ | ⟨-, hno⟩⟩
  rotate_left
  · exact absurd rfl hno
  have B8 := Lib.hid (B7.out.trans (hb8.mono B7.out.size)); have O8 := Lib.hid (O7.out.below hb8)
  clear hb8 B7 O7 P7
  go_wp2_with (go_at_call 11; refine (num_any _ _).mono ?_; rintro e w' ⟨rfl, rfl⟩)
  refine (same_any _ _ a a _ _ _ O8.out.row (RA.out.below B8.out) (by omega)).mono ?_
  rintro e w9 ⟨hb9, ⟨rfl, -⟩ | ⟨-, hno⟩⟩
  rotate_left
  · exact absurd rfl hno
  have B9 := Lib.hid (B8.out.trans (hb9.mono B8.out.size))
  clear hb9 B8 O8
  go_wp2_with (go_at_call 11; refine (num_any _ _).mono ?_; rintro e w' ⟨rfl, rfl⟩)
  go_ret
  exact ⟨rfl, B9.out⟩

set_option maxHeartbeats 2000000 in
theorem nothing_10 (p : Option Addr) (a : List C) (cap : Nat) (w : World) (ra : RowC w p a) (ca : a.length ≤ cap) (ha : MayP a) (hf : 0 < sumOf fromC a) (ht : sumOf toC a = 0) : Calls Try.prog 6 #[.slice p a.length cap] w fun e w' => e = .returned (.bool true) ∧ Below w.heap.size w w' := by
  have RA := Lib.hid ra; have HA := Lib.hid ha
  obtain ⟨cl, ol⟩ := com_left ha
  obtain ⟨cr, or_⟩ := com_right ha
  have cx := com_longer a
  have hl : a.length ≤ 4096 := (okB_iff.1 ha.1).1
  have hF4 := (okB_iff.1 ha.1).2.2.1
  have hT4 := (okB_iff.1 ha.1).2.2.2
  clear ra ha
  generalize hfe : sumOf fromC a = F at *
  generalize hte : sumOf toC a = T at *
  have HFE := Lib.hid hfe; have HTE := Lib.hid hte
  clear hfe hte
  rw [kp_pos hf] at cl ol
  subst ht
  rw [show kp 0 = [] from rfl] at cr or_
  have CL := Lib.hid cl; have OL := Lib.hid ol; have CR := Lib.hid cr; have OR := Lib.hid or_; have CX : Hid (¬ ComP a [⟨0, 1, e0⟩]) := Lib.hid cx
  clear cl ol cr or_ cx
  go_enter Try.func6, Try.ntmps6
  go_wp2_with fail
  refine (awake_true _).mono ?_
  rintro e w1 ⟨rfl, hb1⟩
  have B1 := Lib.hid hb1; clear hb1
  go_wp2_with fail
  refine (rlengths_any _ _ _ _ (RA.out.below B1.out)).mono ?_
  rintro e w2 ⟨hb2, ⟨rfl, -⟩ | ⟨-, hno⟩⟩
  rotate_left
  · exact absurd HA.out hno
  have B2 := Lib.hid (B1.out.trans (hb2.mono B1.out.size)); clear hb2 B1
  rw [HFE.out, HTE.out]
  go_wp2_with fail
  show Calls Try.prog 8 _ (w2.alloc (.cells (cellsC [⟨0, F, e0⟩]).toArray 44)) _
  have RP : Hid (RowC (w2.alloc (.cells (cellsC [⟨0, F, e0⟩]).toArray 44)) (some ⟨w2.heap.size, 0, none⟩) [⟨0, F, e0⟩]) := Lib.hid (lit_row w2 [⟨0, F, e0⟩] _ rfl)
  have B3 : Hid (Below w.heap.size w (w2.alloc (.cells (cellsC [⟨0, F, e0⟩]).toArray 44))) := Lib.hid (B2.out.alloc B2.out.size _)
  generalize w2.alloc (.cells (cellsC [⟨0, F, e0⟩]).toArray 44) = w3 at RP B3 ⊢
  have RQ : Hid (RowC w3 none []) := Lib.hid (nil_row _)
  clear B2
  refine (compose_yesL _ _ [⟨0, F, e0⟩] a a 1 _ 1 _ rfl rfl _ RP.out (RA.out.below B3.out) (by omega) ca CL.out OL.out).mono ?_
  rintro e w4 ⟨p4, cap4, rfl, ho4, hb4⟩
  have O4 := Lib.hid ho4; have RQ4 := Lib.hid (RQ.out.below hb4); have B4 := Lib.hid (B3.out.trans (hb4.mono B3.out.size))
  clear ho4 hb4 RP RQ B3
  go_wp2_with fail
  refine (compose_yesL _ _ a [] a _ 0 _ 0 rfl rfl _ (RA.out.below B4.out) RQ4.out ca (by omega) CR.out OR.out).mono ?_
  rintro e w5 ⟨p5, cap5, rfl, ho5, hb5⟩
  have O5 := Lib.hid ho5; have P5 := Lib.hid (O4.out.below hb5); have B5 := Lib.hid (B4.out.trans (hb5.mono B4.out.size))
  clear ho5 hb5 RQ4 O4 B4
  go_wp2_with fail
  show Calls Try.prog 8 _ (w5.alloc (.cells (cellsC [⟨0, 1, e0⟩]).toArray 44)) _
  have RX : Hid (RowC (w5.alloc (.cells (cellsC [⟨0, 1, e0⟩]).toArray 44)) (some ⟨w5.heap.size, 0, none⟩) [⟨0, 1, e0⟩]) := Lib.hid (lit_row w5 [⟨0, 1, e0⟩] _ rfl)
  have b56 : Below w5.heap.size w5 (w5.alloc (.cells (cellsC [⟨0, 1, e0⟩]).toArray 44)) := (Below.refl _ _).alloc (Nat.le_refl _) _
  have B6 := Lib.hid (B5.out.trans (b56.mono B5.out.size)); have O6 := Lib.hid (O5.out.below b56); have P6 := Lib.hid (P5.out.below b56)
  clear b56 B5 O5 P5
  generalize w5.alloc (.cells (cellsC [⟨0, 1, e0⟩]).toArray 44) = w6 at RX B6 O6 P6 ⊢
  refine (compose_noL _ _ a [⟨0, 1, e0⟩] _ 1 _ 1 rfl rfl _ (RA.out.below B6.out) RX.out ca (by omega) CX.out).mono ?_
  rintro e w7 ⟨rfl, hb7⟩
  have B7 := Lib.hid (B6.out.trans (hb7.mono B6.out.size)); have O7 := Lib.hid (O6.out.below hb7); have P7 := Lib.hid (P6.out.below hb7)
  clear hb7 B6 O6 P6 RX
  go_wp2_with (go_at_call 11; refine (num_any _ _).mono ?_; rintro e w' ⟨rfl, rfl⟩)
  refine (same_any _ _ a a _ _ _ P7.out.row (RA.out.below B7.out) (by omega)).mono ?_
  rintro e w8 ⟨hb8, ⟨rfl, -⟩ | ⟨-, hno⟩⟩
  rotate_left
  · exact absurd rfl hno
  have B8 := Lib.hid (B7.out.trans (hb8.mono B7.out.size)); have O8 := Lib.hid (O7.out.below hb8)
  clear hb8 B7 O7 P7
  go_wp2_with (go_at_call 11; refine (num_any _ _).mono ?_; rintro e w' ⟨rfl, rfl⟩)
  refine (same_any _ _ a a _ _ _ O8.out.row (RA.out.below B8.out) (by omega)).mono ?_
  rintro e w9 ⟨hb9, ⟨rfl, -⟩ | ⟨-, hno⟩⟩
  rotate_left
  · exact absurd rfl hno
  have B9 := Lib.hid (B8.out.trans (hb9.mono B8.out.size))
  clear hb9 B8 O8
  go_wp2_with (go_at_call 11; refine (num_any _ _).mono ?_; rintro e w' ⟨rfl, rfl⟩)
  go_ret
  exact ⟨rfl, B9.out⟩

set_option maxHeartbeats 2000000 in
theorem nothing_11 (p : Option Addr) (a : List C) (cap : Nat) (w : World) (ra : RowC w p a) (ca : a.length ≤ cap) (ha : MayP a) (hf : 0 < sumOf fromC a) (ht : 0 < sumOf toC a) : Calls Try.prog 6 #[.slice p a.length cap] w fun e w' => e = .returned (.bool true) ∧ Below w.heap.size w w' := by
  have RA := Lib.hid ra; have HA := Lib.hid ha
  obtain ⟨cl, ol⟩ := com_left ha
  obtain ⟨cr, or_⟩ := com_right ha
  have cx := com_longer a
  have hl : a.length ≤ 4096 := (okB_iff.1 ha.1).1
  have hF4 := (okB_iff.1 ha.1).2.2.1
  have hT4 := (okB_iff.1 ha.1).2.2.2
  clear ra ha
  generalize hfe : sumOf fromC a = F at *
  generalize hte : sumOf toC a = T at *
  have HFE := Lib.hid hfe; have HTE := Lib.hid hte
  clear hfe hte
  rw [kp_pos hf] at cl ol
  rw [kp_pos ht] at cr or_
  have CL := Lib.hid cl; have OL := Lib.hid ol; have CR := Lib.hid cr; have OR := Lib.hid or_; have CX := Lib.hid cx
  clear cl ol cr or_ cx
  go_enter Try.func6, Try.ntmps6
  go_wp2_with fail
  refine (awake_true _).mono ?_
  rintro e w1 ⟨rfl, hb1⟩
  have B1 := Lib.hid hb1; clear hb1
  go_wp2_with fail
  refine (rlengths_any _ _ _ _ (RA.out.below B1.out)).mono ?_
  rintro e w2 ⟨hb2, ⟨rfl, -⟩ | ⟨-, hno⟩⟩
  rotate_left
  · exact absurd HA.out hno
  have B2 := Lib.hid (B1.out.trans (hb2.mono B1.out.size)); clear hb2 B1
  rw [HFE.out, HTE.out]
  go_wp2_with fail
  show Calls Try.prog 8 _ ((w2.alloc (.cells (cellsC [⟨0, F, e0⟩]).toArray 44)).alloc (.cells (cellsC [⟨0, T, e0⟩]).toArray 44)) _
  have RP : Hid (RowC ((w2.alloc (.cells (cellsC [⟨0, F, e0⟩]).toArray 44)).alloc (.cells (cellsC [⟨0, T, e0⟩]).toArray 44)) (some ⟨w2.heap.size, 0, none⟩) [⟨0, F, e0⟩]) := Lib.hid ((lit_row w2 [⟨0, F, e0⟩] _ rfl).below ((Below.refl _ _).alloc (Nat.le_refl _) _))
  have RQ : Hid (RowC ((w2.alloc (.cells (cellsC [⟨0, F, e0⟩]).toArray 44)).alloc (.cells (cellsC [⟨0, T, e0⟩]).toArray 44)) (some ⟨w2.heap.size + 1, 0, none⟩) [⟨0, T, e0⟩]) := Lib.hid (by
    have h := lit_row (w2.alloc (.cells (cellsC [⟨0, F, e0⟩]).toArray 44)) [⟨0, T, e0⟩] _ rfl
    rwa [show (w2.alloc (.cells (cellsC [⟨0, F, e0⟩]).toArray 44)).heap.size = w2.heap.size + 1 by simp] at h)
  have B3 : Hid (Below w.heap.size w ((w2.alloc (.cells (cellsC [⟨0, F, e0⟩]).toArray 44)).alloc (.cells (cellsC [⟨0, T, e0⟩]).toArray 44))) := Lib.hid ((B2.out.alloc B2.out.size _).alloc (by have := B2.out.size; simp; omega) _)
  generalize (w2.alloc (.cells (cellsC [⟨0, F, e0⟩]).toArray 44)).alloc (.cells (cellsC [⟨0, T, e0⟩]).toArray 44) = w3 at RP RQ B3 ⊢
  clear B2
  refine (compose_yesL _ _ [⟨0, F, e0⟩] a a 1 _ 1 _ rfl rfl _ RP.out (RA.out.below B3.out) (by omega) ca CL.out OL.out).mono ?_
  rintro e w4 ⟨p4, cap4, rfl, ho4, hb4⟩
  have O4 := Lib.hid ho4; have RQ4 := Lib.hid (RQ.out.below hb4); have B4 := Lib.hid (B3.out.trans (hb4.mono B3.out.size))
  clear ho4 hb4 RP RQ B3
  go_wp2_with fail
  refine (compose_yesL _ _ a [⟨0, T, e0⟩] a _ 1 _ 1 rfl rfl _ (RA.out.below B4.out) RQ4.out ca (by omega) CR.out OR.out).mono ?_
  rintro e w5 ⟨p5, cap5, rfl, ho5, hb5⟩
  have O5 := Lib.hid ho5; have P5 := Lib.hid (O4.out.below hb5); have B5 := Lib.hid (B4.out.trans (hb5.mono B4.out.size))
  clear ho5 hb5 RQ4 O4 B4
  go_wp2_with fail
  show Calls Try.prog 8 _ (w5.alloc (.cells (cellsC [⟨0, (T + 1), e0⟩]).toArray 44)) _
  have RX : Hid (RowC (w5.alloc (.cells (cellsC [⟨0, (T + 1), e0⟩]).toArray 44)) (some ⟨w5.heap.size, 0, none⟩) [⟨0, (T + 1), e0⟩]) := Lib.hid (lit_row w5 [⟨0, (T + 1), e0⟩] _ rfl)
  have b56 : Below w5.heap.size w5 (w5.alloc (.cells (cellsC [⟨0, (T + 1), e0⟩]).toArray 44)) := (Below.refl _ _).alloc (Nat.le_refl _) _
  have B6 := Lib.hid (B5.out.trans (b56.mono B5.out.size)); have O6 := Lib.hid (O5.out.below b56); have P6 := Lib.hid (P5.out.below b56)
  clear b56 B5 O5 P5
  generalize w5.alloc (.cells (cellsC [⟨0, (T + 1), e0⟩]).toArray 44) = w6 at RX B6 O6 P6 ⊢
  refine (compose_noL _ _ a [⟨0, (T + 1), e0⟩] _ 1 _ 1 rfl rfl _ (RA.out.below B6.out) RX.out ca (by omega) CX.out).mono ?_
  rintro e w7 ⟨rfl, hb7⟩
  have B7 := Lib.hid (B6.out.trans (hb7.mono B6.out.size)); have O7 := Lib.hid (O6.out.below hb7); have P7 := Lib.hid (P6.out.below hb7)
  clear hb7 B6 O6 P6 RX
  go_wp2_with (go_at_call 11; refine (num_any _ _).mono ?_; rintro e w' ⟨rfl, rfl⟩)
  refine (same_any _ _ a a _ _ _ P7.out.row (RA.out.below B7.out) (by omega)).mono ?_
  rintro e w8 ⟨hb8, ⟨rfl, -⟩ | ⟨-, hno⟩⟩
  rotate_left
  · exact absurd rfl hno
  have B8 := Lib.hid (B7.out.trans (hb8.mono B7.out.size)); have O8 := Lib.hid (O7.out.below hb8)
  clear hb8 B7 O7 P7
  go_wp2_with (go_at_call 11; refine (num_any _ _).mono ?_; rintro e w' ⟨rfl, rfl⟩)
  refine (same_any _ _ a a _ _ _ O8.out.row (RA.out.below B8.out) (by omega)).mono ?_
  rintro e w9 ⟨hb9, ⟨rfl, -⟩ | ⟨-, hno⟩⟩
  rotate_left
  · exact absurd rfl hno
  have B9 := Lib.hid (B8.out.trans (hb9.mono B8.out.size))
  clear hb9 B8 O8
  go_wp2_with (go_at_call 11; refine (num_any _ _).mono ?_; rintro e w' ⟨rfl, rfl⟩)
  go_ret
  exact ⟨rfl, B9.out⟩

theorem nothing_true (p : Option Addr) (a : List C) (cap : Nat) (w : World) (ra : RowC w p a) (ca : a.length ≤ cap) : Calls Try.prog 6 #[.slice p a.length cap] w fun e w' => e = .returned (.bool true) ∧ Below w.heap.size w w' := by
  by_cases ha : MayP a
  · have g := gd_of_may ha
    have h0 := sumOf_nonneg (f := fromC) (cs := a) fun c hc => from_nonneg (g c hc).1
    have h1 := sumOf_nonneg (f := toC) (cs := a) fun c hc => to_nonneg (g c hc).1
    rcases Int.lt_or_eq_of_le h0 with hf | hf
    · rcases Int.lt_or_eq_of_le h1 with ht | ht
      · exact nothing_11 p a cap w ra ca ha hf ht
      · exact nothing_10 p a cap w ra ca ha hf ht.symm
    · rcases Int.lt_or_eq_of_le h1 with ht | ht
      · exact nothing_01 p a cap w ra ca ha hf.symm ht
      · exact nothing_00 p a cap w ra ca ha hf.symm ht.symm
  · exact nothing_no p a cap w ra ca ha

end Go.Proofs.Ytoihbacdonjagaa
