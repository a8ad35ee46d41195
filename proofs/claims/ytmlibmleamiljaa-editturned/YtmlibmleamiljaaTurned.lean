/-
  The walk of the law EditTurned. Conditions: as the theorems' premises say.
-/
import Derived.Test.YtmlibmleamiljaaSz
import Derived.Deep.RegionWith
namespace Go.Proofs.Ytmlibmleamiljaa
open Go.RowKit

theorem putN_join (l c : C) (h : l.k = c.k) : putN (l.join c) = putN l + putN c := by
  simp only [putN, C.join, h, ba_append_size]
  split <;> omega
theorem putN_zero (c : C) (h : c.Soft) (h0 : c.sz = 0) : putN c = 0 := by
  have := (soft_zero h h0).2
  unfold putN; split <;> omega
theorem ed_sizes (a c b : Nat) (put : ByteArray) : sumOf keepC (normOf (edL a put c b)) = ((a + b : Nat) : Int) ∧ sumOf cutC (normOf (edL a put c b)) = (c : Int) ∧ sumOf putN (normOf (edL a put c b)) = (put.size : Int) := by
  have hf := ed_soft a c b put
  rw [sum_normOf keep_join keep_zero _ hf, sum_normOf cut_join cut_zero _ hf, sum_normOf putN_join putN_zero _ hf]
  simp only [edL, sumOf, keepC, cutC, putN]
  simp only [if_true, show ¬ ((0 : Int) = 1) by omega, show ¬ ((2 : Int) = 1) by omega, show ¬ ((0 : Int) = 2) by omega, show ¬ ((1 : Int) = 2) by omega, show ¬ ((1 : Int) = 0) by omega, show ¬ ((2 : Int) = 0) by omega, if_false]
  omega
theorem bt_sizes (s t : ByteArray) : ∃ x y z : Int, (sumOf keepC (btw s t) = x ∧ sumOf cutC (btw s t) = y ∧ sumOf putN (btw s t) = z) ∧ (sumOf keepC (btw t s) = x ∧ sumOf cutC (btw t s) = z ∧ sumOf putN (btw t s) = y) := by
  obtain ⟨h1, h2⟩ := alike_le s t
  refine ⟨((ahd s t + bhd s t : Nat) : Int), ((s.size - ahd s t - bhd s t : Nat) : Int), ((t.size - ahd s t - bhd s t : Nat) : Int), ?_, ?_⟩
  · have := ed_sizes (ahd s t) (s.size - ahd s t - bhd s t) (bhd s t) (t.extract (ahd s t) (t.size - bhd s t))
    rw [bt_put h2] at this
    exact this
  · have := ed_sizes (ahd s t) (t.size - ahd s t - bhd s t) (bhd s t) (s.extract (ahd s t) (s.size - bhd s t))
    rw [bt_put h1] at this
    unfold btw btL
    rw [← ahd_comm s t, ← bhd_comm s t]
    exact this
theorem bt_raw {s t : ByteArray} (hs : s.size ≤ 4096) (ht : t.size ≤ 4096) : (∀ c ∈ btw s t, c.Raw) ∧ (btw s t).length ≤ 4096 := ⟨(okB_iff.1 (bt_may hs ht).1).2.1, (okB_iff.1 (bt_may hs ht).1).1⟩

theorem sizes_L (p : Option Addr) (cs : List C) (n cap : Nat) (hn : cs.length = n) (x y z : Int) (hx : sumOf keepC cs = x) (hy : sumOf cutC cs = y) (hz : sumOf putN cs = z) (w : World) (hr : RowC w p cs) (hraw : (∀ c ∈ cs, c.Raw) ∧ cs.length ≤ 4096) : Calls Try.prog 18 #[.slice p n cap] w fun e w' => ∃ g, e = .returned (.slice (some ⟨g, 0, none⟩) 3 3) ∧ Hid (Three w' g x y z) ∧ Hid (Below w.heap.size w w') := by
  subst hn; subst hx; subst hy; subst hz
  refine (sizes_any p cs cap w hr hraw.1 hraw.2).mono ?_
  rintro e w' ⟨g, rfl, -, h, hb⟩
  exact ⟨g, rfl, Lib.hid h, Lib.hid hb⟩

set_option maxRecDepth 100000 in
set_option maxHeartbeats 4000000 in
theorem turned_no (s t : ByteArray) (w : World) (h : 4096 < s.size ∨ 4096 < t.size) : Calls Try.prog 7 #[.string s, .string t] w fun e w' => e = .returned (.bool true) ∧ Below w.heap.size w w' := by
  have H := Lib.hid h; clear h
  go_enter Try.func7, Try.ntmps7
  go_wp2_with fail
  refine (awake_true _).mono ?_
  rintro e w1 ⟨rfl, hb1⟩
  have B1 := Lib.hid hb1; clear hb1
  go_wp2_with fail
  refine (between_no s t _ H.out).mono ?_
  rintro e w2 ⟨rfl, hb2⟩
  have B2 := Lib.hid (B1.out.trans (hb2.mono B1.out.size)); clear hb2 B1
  go_wp2_with fail
  refine (between_no t s _ H.out.symm).mono ?_
  rintro e w3 ⟨rfl, hb3⟩
  have B3 := Lib.hid (B2.out.trans (hb3.mono B2.out.size)); clear hb3 B2
  go_wp2_with (go_at_call 13; refine (num_any _ _).mono ?_; rintro e w' ⟨rfl, rfl⟩)
  go_ret
  exact ⟨rfl, B3.out⟩

set_option maxRecDepth 100000 in
set_option maxHeartbeats 8000000 in
theorem turned_yes (s t : ByteArray) (w : World) (hs : s.size ≤ 4096) (ht : t.size ≤ 4096) : Calls Try.prog 7 #[.string s, .string t] w fun e w' => e = .returned (.bool true) ∧ Below w.heap.size w w' := by
  obtain ⟨x, y, z, ⟨a1, a2, a3⟩, ⟨b1, b2, b3⟩⟩ := bt_sizes s t
  obtain ⟨A, hA⟩ : ∃ A, btw s t = A := ⟨_, rfl⟩
  obtain ⟨B, hB⟩ : ∃ B, btw t s = B := ⟨_, rfl⟩
  have RA := Lib.hid (bt_raw hs ht); have RB := Lib.hid (bt_raw ht hs)
  rw [hA] at a1 a2 a3 RA
  rw [hB] at b1 b2 b3 RB
  have SA := Lib.hid (And.intro a1 (And.intro a2 a3)); have SB := Lib.hid (And.intro b1 (And.intro b2 b3))
  have HA := Lib.hid hA; have HB := Lib.hid hB
  clear a1 a2 a3 b1 b2 b3 hA hB
  go_enter Try.func7, Try.ntmps7
  go_wp2_with fail
  refine (awake_true _).mono ?_
  rintro e w1 ⟨rfl, hb1⟩
  have B1 := Lib.hid hb1; clear hb1
  go_wp2_with fail
  refine (between_yesL s t A HA.out _ hs ht).mono ?_
  rintro e w2 ⟨p2, c2, rfl, ho2, hb2⟩
  have O2 := Lib.hid ho2.row; have B2 := Lib.hid (B1.out.trans (hb2.mono B1.out.size)); clear hb2 ho2 B1
  go_wp2_with fail
  refine (between_yesL t s B HB.out _ ht hs).mono ?_
  rintro e w3 ⟨p3, c3, rfl, ho3, hb3⟩
  have O3 := Lib.hid ho3.row; have P3 := Lib.hid (O2.out.below hb3); have B3 := Lib.hid (B2.out.trans (hb3.mono B2.out.size)); clear hb3 ho3 B2 O2
  go_wp2_with (go_at_call 13; refine (num_any _ _).mono ?_; rintro e w' ⟨rfl, rfl⟩)
  have CA : Hid (∀ W, Below w3.heap.size w3 W → Calls Try.prog 18 #[.slice p2 A.length c2] W fun e w' => ∃ g, e = .returned (.slice (some ⟨g, 0, none⟩) 3 3) ∧ Hid (Three w' g x y z) ∧ Hid (Below W.heap.size W w')) := Lib.hid (fun W hW => sizes_L _ A _ _ rfl x y z SA.out.1 SA.out.2.1 SA.out.2.2 W (P3.out.below hW) RA.out)
  have CB : Hid (∀ W, Below w3.heap.size w3 W → Calls Try.prog 18 #[.slice p3 B.length c3] W fun e w' => ∃ g, e = .returned (.slice (some ⟨g, 0, none⟩) 3 3) ∧ Hid (Three w' g x z y) ∧ Hid (Below W.heap.size W w')) := Lib.hid (fun W hW => sizes_L _ B _ _ rfl x z y SB.out.1 SB.out.2.1 SB.out.2.2 W (O3.out.below hW) RB.out)
  clear SA SB O3 P3 RA RB HA HB
  go_region_with (first
    | (go_at_call 13; refine (num_any _ _).mono ?_; rintro e w' ⟨rfl, rfl⟩)
    | (have HH := T8.out; go_at_call 17; have G8 := (Below.refl w8.heap.size w8).alloc (Nat.le_refl _) (.cells #[.int .i64 x, .int .i64 y, .int .i64 z] 3); have F5 := (((T5.out.below E6.out).below E7.out).below E8.out).below G8; refine (sameInts_yes g5 w8.heap.size x y z 3 3 _ F5 (Three.new w8 x y z)).mono ?_; rintro e w9 ⟨rfl, E9⟩; have D9 := Lib.hid (D8.out.trans ((G8.trans (E9.mono G8.size)).mono D8.out.size)); clear F5 G8 E9 HH)
    | (have HH := T7.out; go_at_call 18; refine (CB.out _ D7.out).mono ?_; rintro e w8 ⟨g8, rfl, T8, E8⟩; have D8 := Lib.hid (D7.out.trans (E8.out.mono D7.out.size)); obtain ⟨t80, t81, t82⟩ := T8.out.cells; obtain ⟨t70', t71', t72'⟩ := (T7.out.below E8.out).cells; obtain ⟨t60'', t61'', t62''⟩ := (T6'.out.below E8.out).cells)
    | (have HH := T6.out; go_at_call 18; refine (CB.out _ D6.out).mono ?_; rintro e w7 ⟨g7, rfl, T7, E7⟩; have D7 := Lib.hid (D6.out.trans (E7.out.mono D6.out.size)); obtain ⟨t70, t71, t72⟩ := T7.out.cells; have T6' := Lib.hid (T6.out.below E7.out); obtain ⟨t60', t61', t62'⟩ := T6'.out.cells)
    | (have HH := T5.out; go_at_call 18; refine (CB.out _ D5.out).mono ?_; rintro e w6 ⟨g6, rfl, T6, E6⟩; have D6 := Lib.hid (D5.out.trans (E6.out.mono D5.out.size)); obtain ⟨t60, t61, t62⟩ := T6.out.cells)
    | (go_at_call 18; refine (CA.out _ (Below.refl w3.heap.size w3).drew).mono ?_; rintro e w5 ⟨g5, rfl, T5, E5⟩; have D5 := Lib.hid ((Below.refl w3.heap.size w3).drew.trans E5.out)))
  all_goals go_wp2_with fail
  all_goals go_ret
  all_goals exact ⟨rfl, B3.out.trans (D9.out.mono B3.out.size)⟩

theorem turned_true (s t : ByteArray) (w : World) : Calls Try.prog 7 #[.string s, .string t] w fun e w' => e = .returned (.bool true) ∧ Below w.heap.size w w' := by
  by_cases h : 4096 < s.size ∨ 4096 < t.size
  · exact turned_no s t w h
  · exact turned_yes s t w (by omega) (by omega)

end Go.Proofs.Ytmlibmleamiljaa
