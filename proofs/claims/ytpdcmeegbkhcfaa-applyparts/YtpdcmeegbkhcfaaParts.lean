/-
  The walk of the law ApplyParts. Conditions: as the theorems' premises say.
-/
import Derived.Test.YtpdcmeegbkhcfaaAwake
namespace Go.Proofs.Ytpdcmeegbkhcfaa
open Go.RowKit

/-- Apply answers a text. -/
def Does (s : ByteArray) (cs : List C) : Prop := MayP cs ∧ sumOf fromC cs = s.size

theorem Does.bounds {s : ByteArray} {cs : List C} (h : Does s cs) : cs.length ≤ 4096 ∧ s.size ≤ 4096 ∧ (appB s 0 cs).size ≤ 4096 ∧ ((appB s 0 cs).size : Int) = sumOf toC cs ∧ (∀ c ∈ cs, c.Raw) := by
  obtain ⟨a1, a2, a3, a4⟩ := okB_iff.1 h.1.1
  have e := appB_size (s := s) (cs := cs) (a := 0) (soft_all a2) (by omega) (by have := h.2; omega)
  have := h.2
  exact ⟨a1, by omega, by omega, e, a2⟩

theorem both_ok {s t : ByteArray} {a b : List C} (ha : Does s a) (hb : Does t b) (h1 : s.size + t.size ≤ 4096) (h2 : (appB s 0 a).size + (appB t 0 b).size ≤ 4096) (h3 : a.length + b.length ≤ 4096) :
    okB (a ++ b) = true ∧ Does (s ++ t) (normOf (a ++ b)) ∧ appB (s ++ t) 0 (normOf (a ++ b)) = appB s 0 a ++ appB t 0 b := by
  obtain ⟨_, _, _, ea, ra⟩ := ha.bounds
  obtain ⟨_, _, _, eb, rb⟩ := hb.bounds
  have fa := ha.2
  have fb := hb.2
  have hr : ∀ c ∈ a ++ b, c.Raw := fun c hc => (List.mem_append.1 hc).elim (ra c) (rb c)
  have hok : okB (a ++ b) = true := okB_iff.2 ⟨by rw [List.length_append]; exact h3, hr, by rw [sumOf_append]; omega, by rw [sumOf_append]; omega⟩
  have hs := soft_all hr
  refine ⟨hok, ⟨⟨okB_normOf hok, norm_normOf hs⟩, ?_⟩, ?_⟩
  · rw [sum_normOf from_join from_zero _ hs, sumOf_append, ba_append_size]; omega
  · rw [appB_normOf (by omega) _ hs, appB_both (soft_all ra) (soft_all rb) fa]

/-- What Normal answers where all is well. -/
theorem rnormal_ok (p : Option Addr) (cs : List C) (L cap : Nat) (hL : cs.length = L) (w : World) (hr : RowC w p cs) (hok : okB cs = true) : Calls Try.prog 14 #[.slice p L cap] w fun e w' => ∃ p' cap' ns, e = .returned (.tuple #[.slice p' ns cap', .int .i64 0]) ∧ Hid (Below w.heap.size w w') ∧ Hid (ns = (normOf cs).length ∧ RowC w' p' (normOf cs)) := by
  subst hL
  refine (rnormal_any p cs cap w hr).mono ?_
  rintro e w' ⟨hb, ⟨-, v, rfl, ho⟩ | ⟨hno, -⟩⟩
  · obtain ⟨p', cap', rfl⟩ := ho.form
    exact ⟨p', cap', _, rfl, Lib.hid hb, Lib.hid ⟨rfl, ho.row⟩⟩
  · rw [hok] at hno; cases hno

section
variable (s t : ByteArray) (p q : Option Addr) (a b : List C) (cap cap2 : Nat) (w : World)

set_option maxRecDepth 100000 in
set_option maxHeartbeats 1000000 in
theorem parts_no (ha : RowC w p a) (hb : RowC w q b) (hn : ¬ Does s a) : Calls Try.prog 4 #[.string s, .slice p a.length cap, .string t, .slice q b.length cap2] w fun e w' => e = .returned (.bool true) ∧ Below w.heap.size w w' := by
  have RA := Lib.hid ha; have RB := Lib.hid hb; have HN := Lib.hid hn
  clear ha hb hn
  by_cases hd : Does t b
  · have HD := Lib.hid hd; clear hd
    generalize hY : appB t 0 b = Y
    have HY := Lib.hid hY; clear hY
    go_enter Try.func4, Try.ntmps4
    go_wp2_with (go_at_call 12; refine (awake_true _).mono ?_; rintro e w1 ⟨rfl, hb1⟩; have B1 := Lib.hid hb1; clear hb1)
    refine (apply_noL s p a a.length cap rfl _ (RA.out.below B1.out) HN.out).mono ?_
    rintro e w2 ⟨rfl, hb2⟩
    have B2 := Lib.hid (B1.out.trans (hb2.mono B1.out.size)); clear hb2
    go_wp2_with fail
    refine (apply_yesL t q b b.length cap2 rfl _ (RB.out.below B2.out) HD.out.1 HD.out.2 Y HY.out).mono ?_
    rintro e w3 ⟨rfl, hb3⟩
    have B3 := Lib.hid (B2.out.trans (hb3.mono B2.out.size)); clear hb3
    go_wp2_with (first | (go_at_call 10; refine (num_any _ _).mono ?_; rintro e w' ⟨rfl, rfl⟩))
    go_ret
    exact ⟨rfl, B3.out⟩
  · have HD := Lib.hid hd; clear hd
    go_enter Try.func4, Try.ntmps4
    go_wp2_with (go_at_call 12; refine (awake_true _).mono ?_; rintro e w1 ⟨rfl, hb1⟩; have B1 := Lib.hid hb1; clear hb1)
    refine (apply_noL s p a a.length cap rfl _ (RA.out.below B1.out) HN.out).mono ?_
    rintro e w2 ⟨rfl, hb2⟩
    have B2 := Lib.hid (B1.out.trans (hb2.mono B1.out.size)); clear hb2
    go_wp2_with fail
    refine (apply_noL t q b b.length cap2 rfl _ (RB.out.below B2.out) HD.out).mono ?_
    rintro e w3 ⟨rfl, hb3⟩
    have B3 := Lib.hid (B2.out.trans (hb3.mono B2.out.size)); clear hb3
    go_wp2_with (first | (go_at_call 10; refine (num_any _ _).mono ?_; rintro e w' ⟨rfl, rfl⟩))
    go_ret
    exact ⟨rfl, B3.out⟩

set_option maxRecDepth 100000 in
set_option maxHeartbeats 1000000 in
theorem parts_half (ha : RowC w p a) (hb : RowC w q b) (hy : Does s a) (hn : ¬ Does t b) : Calls Try.prog 4 #[.string s, .slice p a.length cap, .string t, .slice q b.length cap2] w fun e w' => e = .returned (.bool true) ∧ Below w.heap.size w w' := by
  have RA := Lib.hid ha; have RB := Lib.hid hb; have HN := Lib.hid hn; have HD := Lib.hid hy
  clear ha hb hn hy
  generalize hX : appB s 0 a = X
  have HX := Lib.hid hX; clear hX
  go_enter Try.func4, Try.ntmps4
  go_wp2_with (go_at_call 12; refine (awake_true _).mono ?_; rintro e w1 ⟨rfl, hb1⟩; have B1 := Lib.hid hb1; clear hb1)
  refine (apply_yesL s p a a.length cap rfl _ (RA.out.below B1.out) HD.out.1 HD.out.2 X HX.out).mono ?_
  rintro e w2 ⟨rfl, hb2⟩
  have B2 := Lib.hid (B1.out.trans (hb2.mono B1.out.size)); clear hb2
  go_wp2_with fail
  refine (apply_noL t q b b.length cap2 rfl _ (RB.out.below B2.out) HN.out).mono ?_
  rintro e w3 ⟨rfl, hb3⟩
  have B3 := Lib.hid (B2.out.trans (hb3.mono B2.out.size)); clear hb3
  go_wp2_with (first | (go_at_call 10; refine (num_any _ _).mono ?_; rintro e w' ⟨rfl, rfl⟩))
  go_ret
  exact ⟨rfl, B3.out⟩

set_option maxRecDepth 100000 in
set_option maxHeartbeats 2000000 in
theorem parts_long (ha : RowC w p a) (hb : RowC w q b) (hy : Does s a) (hz : Does t b) (hn : 4096 < s.size + t.size ∨ 4096 < (appB s 0 a).size + (appB t 0 b).size ∨ 4096 < a.length + b.length) : Calls Try.prog 4 #[.string s, .slice p a.length cap, .string t, .slice q b.length cap2] w fun e w' => e = .returned (.bool true) ∧ Below w.heap.size w w' := by
  obtain ⟨a1, a2, a3, -, -⟩ := hy.bounds
  obtain ⟨b1, b2, b3, -, -⟩ := hz.bounds
  have RA := Lib.hid ha; have RB := Lib.hid hb; have HA := Lib.hid hy; have HB := Lib.hid hz
  clear ha hb hy hz
  generalize hX : appB s 0 a = X at *
  generalize hY : appB t 0 b = Y at *
  have HX := Lib.hid hX; have HY := Lib.hid hY
  clear hX hY
  by_cases n1 : (4096 : Int) < (s.size : Int) + (t.size : Int)
  · clear hn
    go_enter Try.func4, Try.ntmps4
    go_wp2_with (go_at_call 12; refine (awake_true _).mono ?_; rintro e w1 ⟨rfl, hb1⟩; have B1 := Lib.hid hb1; clear hb1)
    refine (apply_yesL s p a a.length cap rfl _ (RA.out.below B1.out) HA.out.1 HA.out.2 X HX.out).mono ?_
    rintro e w2 ⟨rfl, hb2⟩
    have B2 := Lib.hid (B1.out.trans (hb2.mono B1.out.size)); clear hb2
    go_wp2_with fail
    refine (apply_yesL t q b b.length cap2 rfl _ (RB.out.below B2.out) HB.out.1 HB.out.2 Y HY.out).mono ?_
    rintro e w3 ⟨rfl, hb3⟩
    have B3 := Lib.hid (B2.out.trans (hb3.mono B2.out.size)); clear hb3
    go_wp2_with (first | (go_at_call 10; refine (num_any _ _).mono ?_; rintro e w' ⟨rfl, rfl⟩))
    go_ret
    exact ⟨rfl, B3.out⟩
  · by_cases n2 : (4096 : Int) < (X.size : Int) + (Y.size : Int)
    · clear hn
      go_enter Try.func4, Try.ntmps4
      go_wp2_with (go_at_call 12; refine (awake_true _).mono ?_; rintro e w1 ⟨rfl, hb1⟩; have B1 := Lib.hid hb1; clear hb1)
      refine (apply_yesL s p a a.length cap rfl _ (RA.out.below B1.out) HA.out.1 HA.out.2 X HX.out).mono ?_
      rintro e w2 ⟨rfl, hb2⟩
      have B2 := Lib.hid (B1.out.trans (hb2.mono B1.out.size)); clear hb2
      go_wp2_with fail
      refine (apply_yesL t q b b.length cap2 rfl _ (RB.out.below B2.out) HB.out.1 HB.out.2 Y HY.out).mono ?_
      rintro e w3 ⟨rfl, hb3⟩
      have B3 := Lib.hid (B2.out.trans (hb3.mono B2.out.size)); clear hb3
      go_wp2_with (first | (go_at_call 10; refine (num_any _ _).mono ?_; rintro e w' ⟨rfl, rfl⟩))
      go_ret
      exact ⟨rfl, B3.out⟩
    · have n3 : (4096 : Int) < (a.length : Int) + (b.length : Int) := by omega
      clear hn
      go_enter Try.func4, Try.ntmps4
      go_wp2_with (go_at_call 12; refine (awake_true _).mono ?_; rintro e w1 ⟨rfl, hb1⟩; have B1 := Lib.hid hb1; clear hb1)
      refine (apply_yesL s p a a.length cap rfl _ (RA.out.below B1.out) HA.out.1 HA.out.2 X HX.out).mono ?_
      rintro e w2 ⟨rfl, hb2⟩
      have B2 := Lib.hid (B1.out.trans (hb2.mono B1.out.size)); clear hb2
      go_wp2_with fail
      refine (apply_yesL t q b b.length cap2 rfl _ (RB.out.below B2.out) HB.out.1 HB.out.2 Y HY.out).mono ?_
      rintro e w3 ⟨rfl, hb3⟩
      have B3 := Lib.hid (B2.out.trans (hb3.mono B2.out.size)); clear hb3
      go_wp2_with (first | (go_at_call 10; refine (num_any _ _).mono ?_; rintro e w' ⟨rfl, rfl⟩))
      go_ret
      exact ⟨rfl, B3.out⟩

set_option maxRecDepth 100000 in
set_option maxHeartbeats 4000000 in
theorem parts_yes (ha : RowC w p a) (hb : RowC w q b) (hy : Does s a) (hz : Does t b) (h1 : s.size + t.size ≤ 4096) (h2 : (appB s 0 a).size + (appB t 0 b).size ≤ 4096) (h3 : a.length + b.length ≤ 4096) : Calls Try.prog 4 #[.string s, .slice p a.length cap, .string t, .slice q b.length cap2] w fun e w' => e = .returned (.bool true) ∧ Below w.heap.size w w' := by
  obtain ⟨i0, hi, hz0, hz1, hz2⟩ := info_parts info39
  obtain ⟨hok, hdo, happ⟩ := both_ok hy hz h1 h2 h3
  have RA := Lib.hid ha; have RB := Lib.hid hb; have HA := Lib.hid hy; have HB := Lib.hid hz
  have OK := Lib.hid hok; have HD := Lib.hid hdo
  clear ha hb hy hz hok hdo
  generalize hX : appB s 0 a = X at *
  generalize hY : appB t 0 b = Y at *
  have HX := Lib.hid hX; have HY := Lib.hid hY; have HAPP := Lib.hid happ
  clear hX hY happ
  have n1 : ¬ ((4096 : Int) < (s.size : Int) + (t.size : Int)) := by omega
  have n2 : ¬ ((4096 : Int) < (X.size : Int) + (Y.size : Int)) := by omega
  have n3 : ¬ ((4096 : Int) < (a.length : Int) + (b.length : Int)) := by omega
  have m1 : ¬ (9223372036854775807 < s.size + t.size) := by omega
  have m2 : ¬ (9223372036854775807 < X.size + Y.size) := by omega
  go_enter Try.func4, Try.ntmps4
  go_wp2_with (go_at_call 12; refine (awake_true _).mono ?_; rintro e w1 ⟨rfl, hb1⟩; have B1 := Lib.hid hb1; clear hb1)
  refine (apply_yesL s p a a.length cap rfl _ (RA.out.below B1.out) HA.out.1 HA.out.2 X HX.out).mono ?_
  rintro e w2 ⟨rfl, hb2⟩
  have B2 := Lib.hid (B1.out.trans (hb2.mono B1.out.size)); clear hb2
  go_wp2_with fail
  refine (apply_yesL t q b b.length cap2 rfl _ (RB.out.below B2.out) HB.out.1 HB.out.2 Y HY.out).mono ?_
  rintro e w3 ⟨rfl, hb3⟩
  have B3 := Lib.hid (B2.out.trans (hb3.mono B2.out.size)); clear hb3
  go_wp2_with (first | (go_at_call 10; refine (num_any _ _).mono ?_; rintro e w' ⟨rfl, rfl⟩))
  refine (copy_any p a cap w3 (RA.out.below B3.out) (by omega)).mono ?_
  rintro e w4 ⟨v4, rfl, hown4, -, hb4⟩
  have O4 := Lib.hid hown4
  have hb4' := Lib.hid hb4
  clear hown4 hb4
  go_wp2_with fail
  go_loopw [13, 14] (fun v i wr => ∃ j : Nat, j ≤ b.length ∧ i = .int .i64 j ∧ Hid (Own wr w3.heap.size v (a ++ b.take j)) ∧ Hid (Below w3.heap.size w3 wr)) (fun _ i _ => b.length - (intOf i).toNat)
  case atStart => exact ⟨0, Nat.zero_le _, rfl, by simpa using O4, hb4'⟩
  case round =>
    clear O4 hb4'
    obtain ⟨j, hj, rfl, O, B⟩ := hrel
    by_cases hlt : j < b.length
    · have hc := List.getElem?_eq_getElem hlt
      generalize b[j] = c at hc
      obtain ⟨bb, o, rfl, hp⟩ := RB.out j c hc
      obtain ⟨c0, c1, c2⟩ := (hp.below B3.out).below B.out
      have HC := Lib.hid hc
      clear hc hp
      obtain ⟨k, n, t⟩ := c
      dsimp only at c0 c1 c2
      have hlen : (a ++ b.take j).length = a.length + j := by rw [List.length_append, List.length_take]; omega
      have OW : Hid (∀ W, Below wr.heap.size wr W → W.ownsRow w3.heap.size 34 3 u13 (a.length + j) (cellsC (a ++ b.take j))) := Lib.hid (fun W hW => by have := O.out.below hW; unfold Own at this; rwa [hlen] at this)
      clear hlen
      go_wp2_with (at_builtin; refine wpList_append_lies _ rfl _ _ 22 rfl w3.heap.size 34 i0 _ 3 32 Try.underlying22 hi hz0 hz1 hz2 rfl (by decide) u13 (a.length + j) (cellsC (a ++ b.take j)) rfl (OW.out _ ((Below.refl _ _).alloc (Nat.le_refl _) _)) ⟨wr.heap.size, 0, none⟩ 1 1 (C.cells ⟨k, n, t⟩) rfl rfl (three_new rfl ⟨k, n, t⟩) (cells_one _) (by decide) (by unfold maxLen; omega) (by omega) (Nat.le_trans B.out.size (by simp)) (wr.heap.size + 1) (by simp) ?_; intro g cap' w6 hown hgrow hgg hlt6)
      go_roundw
      case rel =>
        refine ⟨j + 1, by omega, by go_num, Lib.hid ?_, Lib.hid ((B.out.alloc B.out.size _).grown hgrow (Nat.le_trans B.out.size (by simp)) (fun k h => (O.out.lt h).1))⟩
        have e1 : a ++ b.take (j + 1) = (a ++ b.take j) ++ [⟨k, n, t⟩] := by rw [List.take_add_one, HC.out, List.append_assoc]; rfl
        have e2 : cellsC [⟨k, n, t⟩] = C.cells ⟨k, n, t⟩ := by simp [cellsC]
        unfold Own
        rw [e1, cellsC_append, e2, List.length_append, List.length_append, List.length_take, Nat.min_eq_left (by omega)]
        exact hown
      case measure => simp [intOf]; omega
    · have hO := O.out
      rw [List.take_of_length_le (by omega)] at hO
      obtain ⟨p4, cap4, hv⟩ := hO.form
      subst hv
      have B4' := Lib.hid (B3.out.trans (B.out.mono B3.out.size))
      have R4 := Lib.hid hO.row
      clear hO O
      go_wp2_with fail
      refine (rnormal_ok p4 (a ++ b) (a.length + b.length) cap4 (by simp) wr R4.out OK.out).mono ?_
      rintro e w5 ⟨p5, c5, n5, rfl, hb5, N5⟩
      have B5 := Lib.hid (B4'.out.trans (hb5.out.mono B4'.out.size))
      go_wp2_with fail
      refine (apply_yesL (s ++ t) p5 (normOf (a ++ b)) n5 c5 N5.out.1.symm w5 N5.out.2 HD.out.1 HD.out.2 (X ++ Y) HAPP.out).mono ?_
      rintro e w6 ⟨rfl, hb6⟩
      have B6 := Lib.hid (B5.out.trans (hb6.mono B5.out.size)); clear hb6
      go_wp2_with (first | (go_at_call 10; refine (num_any _ _).mono ?_; rintro e w' ⟨rfl, rfl⟩))
      go_ret
      exact ⟨rfl, B6.out⟩

theorem parts_true (ha : RowC w p a) (hb : RowC w q b) : Calls Try.prog 4 #[.string s, .slice p a.length cap, .string t, .slice q b.length cap2] w fun e w' => e = .returned (.bool true) ∧ Below w.heap.size w w' := by
  by_cases hy : Does s a
  · by_cases hz : Does t b
    · by_cases hn : 4096 < s.size + t.size ∨ 4096 < (appB s 0 a).size + (appB t 0 b).size ∨ 4096 < a.length + b.length
      · exact parts_long s t p q a b cap cap2 w ha hb hy hz hn
      · exact parts_yes s t p q a b cap cap2 w ha hb hy hz (by omega) (by omega) (by omega)
    · exact parts_half s t p q a b cap cap2 w ha hb hy hz
  · exact parts_no s t p q a b cap cap2 w ha hb hy
end

end Go.Proofs.Ytpdcmeegbkhcfaa
