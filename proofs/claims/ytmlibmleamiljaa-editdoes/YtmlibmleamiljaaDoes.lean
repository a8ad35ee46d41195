/-
  The walk of the law EditDoes. Conditions: as the theorems' premises say.
-/
import Derived.Test.YtmlibmleamiljaaLeastM
import Derived.Test.YtmlibmleamiljaaAw
import Derived.BigQuiet
namespace Go.Proofs.Ytmlibmleamiljaa
open Go.RowKit

theorem num_same (n : Int) (w : World) : Calls Try.prog 13 #[.int .i64 n] w fun e w' => e = .returned (.int .i64 n) ∧ w' = w := (num_any n w).mono fun _ _ h => ⟨h.1, h.2.symm⟩
theorem place_mod2 (a : Int) (n i : Nat) (hn : n ≤ 4096) (hi : i ≤ n) : ∃ q : Nat, wrap64 ((IntKind.u64.wrap a).tmod ((n : Int) - (i : Int) + 1)) = (q : Int) ∧ i + q ≤ n := by
  obtain ⟨q, h1, h2⟩ := place_mod a (n - i) (by omega)
  rw [show (((n - i : Nat) : Int) + 1) = (n : Int) - (i : Int) + 1 by omega] at h1
  exact ⟨q, h1, by omega⟩
theorem turns_B (c : C) (_ : c.Raw) : 0 ≤ turnN c ∧ turnN c ≤ 4096 := by unfold turnN; split <;> omega

set_option maxRecDepth 100000 in
set_option maxHeartbeats 4000000 in
theorem does_big (s t : ByteArray) (a c : Int) (w : World) (h : 200 < s.size ∨ 100 < t.size) : Calls Try.prog 4 #[.string s, .string t, .int .i64 a, .int .i64 c] w fun e w' => e = .returned (.bool true) ∧ Below w.heap.size w w' := by
  by_cases h1 : 200 < s.size
  · clear h
    go_enter Try.func4, Try.ntmps4
    go_wp2_with fail
    refine (awake_true _).mono ?_
    rintro e w1 ⟨rfl, hb1⟩
    have B1 := Lib.hid hb1; clear hb1
    go_wp2_with fail
    go_ret
    exact ⟨rfl, B1.out⟩
  · have h2 : 100 < t.size := by omega
    clear h
    go_enter Try.func4, Try.ntmps4
    go_wp2_with fail
    refine (awake_true _).mono ?_
    rintro e w1 ⟨rfl, hb1⟩
    have B1 := Lib.hid hb1; clear hb1
    go_wp2_with fail
    go_ret
    exact ⟨rfl, B1.out⟩

set_option maxRecDepth 100000 in
set_option maxHeartbeats 8000000 in
theorem does_small (s t : ByteArray) (a c : Int) (w : World) (hs : s.size ≤ 200) (ht : t.size ≤ 100) : Calls Try.prog 4 #[.string s, .string t, .int .i64 a, .int .i64 c] w fun e w' => e = .returned (.bool true) ∧ Below w.heap.size w w' := by
  obtain ⟨i, hi, hi2⟩ := place_mod a s.size (by omega)
  obtain ⟨k, hk, hk2⟩ := place_mod2 c s.size i (by omega) hi2
  obtain ⟨m, hm⟩ : ∃ m, i + k = m := ⟨_, rfl⟩
  obtain ⟨X, hX⟩ : ∃ X, s.extract 0 i ++ t ++ s.extract m s.size = X := ⟨_, rfl⟩
  obtain ⟨A, hA⟩ : ∃ A, normOf (edL i t k (s.size - i - k)) = A := ⟨_, rfl⟩
  obtain ⟨B, hB⟩ : ∃ B, btw s t = B := ⟨_, rfl⟩
  have a1 : MayP A := by rw [← hA]; exact ed_may (by omega) (by omega)
  have a2 : sumOf fromC A = s.size := by rw [← hA, ed_from]; omega
  have a3 : appB s 0 A = X := by rw [← hA, ed_app t (by omega), hm]; exact hX
  have b1 : MayP B := by rw [← hB]; exact bt_may (by omega) (by omega)
  have b2 : sumOf fromC B = s.size := by rw [← hB]; exact bt_from s t
  have b3 : appB s 0 B = t := by rw [← hB]; exact bt_app s t
  obtain ⟨t1, t2, t3⟩ : sumOf turnN B ≤ 2 ∧ (s = t → sumOf turnN B = 0) ∧ B.length ≤ 4 := by
    rw [← hB]
    obtain ⟨h1, h2, h3⟩ := ed_turns (ahd s t) (s.size - ahd s t - bhd s t) (bhd s t) (t.extract (ahd s t) (t.size - bhd s t))
    refine ⟨h1, fun h => ?_, h3⟩
    obtain ⟨l1, l2⟩ := alike_le s t
    have hp := bt_put l2
    subst h
    obtain ⟨g1, g2⟩ := bt_same s
    exact h2 (by omega) (by omega)
  have HX := Lib.hid hX; have HA := Lib.hid hA; have HB := Lib.hid hB; have A1 := Lib.hid a1; have A2 := Lib.hid a2; have A3 := Lib.hid a3; have B1 := Lib.hid b1; have B2 := Lib.hid b2; have B3 := Lib.hid b3; have T1 := Lib.hid t1; have T2 := Lib.hid t2
  have RB : Hid (∀ c ∈ B, c.Raw) := Lib.hid (okB_iff.1 b1.1).2.1
  have HM := Lib.hid hm
  have HK2 := Lib.hid hk2
  have m1 : m ≤ s.size := by omega
  have m2 : (m : Int) ≤ (s.size : Int) := by omega
  have m3 : IntKind.i64.wrap ((i : Int) + (k : Int)) = (m : Int) := by rw [IntWalk.i64_in _ (by omega)]; omega
  have i1 : (i : Int) ≤ (s.size : Int) := by omega
  have k1 : (k : Int) ≤ (s.size : Int) := by omega
  clear hX hA hB a1 a2 a3 b1 b2 b3 t1 t2 hm hk2
  go_enter Try.func4, Try.ntmps4
  go_wp2_with fail
  refine (awake_true _).mono ?_
  rintro e w1 ⟨rfl, hb1⟩
  have D1 := Lib.hid hb1; clear hb1
  go_wp2_with fail
  refine (make_yesL s t i k (s.size - i - k) _ _ rfl rfl A HA.out _ (by have := HK2.out; omega) (by omega) (by omega) (by omega)).mono ?_
  rintro e w2 ⟨p2, c2, rfl, ho2, hb2⟩
  have O2 := Lib.hid ho2.row; have D2 := Lib.hid (D1.out.trans (hb2.mono D1.out.size)); clear hb2 ho2 D1
  go_wp2_with fail
  refine (apply_yesL s _ A _ _ rfl _ O2.out A1.out A2.out X A3.out).mono ?_
  rintro e w3 ⟨rfl, hb3⟩
  have D3 := Lib.hid (D2.out.trans (hb3.mono D2.out.size)); clear hb3 D2 O2
  go_wp2_with fail
  refine (between_yesL s t B HB.out _ (by omega) (by omega)).mono ?_
  rintro e w4 ⟨p4, c4, rfl, ho4, hb4⟩
  have O4 := Lib.hid ho4.row; have D4 := Lib.hid (D3.out.trans (hb4.mono D3.out.size)); clear hb4 ho4 D3
  go_wp2_with fail
  refine (apply_yesL s _ B _ _ rfl _ O4.out B1.out B2.out t B3.out).mono ?_
  rintro e w5 ⟨rfl, hb5⟩
  have O5 := Lib.hid (O4.out.below hb5); have D5 := Lib.hid (D4.out.trans (hb5.mono D4.out.size)); clear hb5 D4 O4
  have hX := HX.out
  go_wp2_with fail
  go_quiet ((go_at_call 13; exact Calls.quiet_of_same (num_same _ _)))
  go_wp2_with fail
  have dq := fun m => dr_below w5 m
  have O6 : Hid (∀ m, RowC (w5.drewN m) p4 B) := Lib.hid (fun m => O5.out.below (dq m))
  have D6 : Hid (∀ m, Below w.heap.size w (w5.drewN m)) := Lib.hid (fun m => D5.out.trans ((dq m).mono D5.out.size))
  clear dq hX
  go_loopw [19, 20] (fun y v wr => ∃ j : Nat, j ≤ B.length ∧ v = .int .i64 j ∧ y = .int .i64 (sumOf turnN (B.take j)) ∧ Hid (RowC wr p4 B) ∧ Hid (Below w.heap.size w wr)) (fun _ v _ => B.length - (intOf v).toNat)
  case atStart => exact ⟨0, Nat.zero_le _, rfl, rfl, Lib.hid (O6.out _), Lib.hid (D6.out _)⟩
  case round =>
    clear O6 D6
    obtain ⟨j, hj, rfl, rfl, O, D⟩ := hrel
    by_cases hlt : j < B.length
    · have hc := List.getElem?_eq_getElem hlt
      generalize B[j] = c at hc
      have hcr := RB.out c (List.mem_of_getElem? hc)
      have hb := sum_bounds turns_B (B.take j) (raw_take RB.out j)
      have hb2 : sumOf turnN (B.take j) ≤ 16777216 := by have : (B.take j).length ≤ 4 := by rw [List.length_take]; omega
                                                         omega
      have hb1 := hb.1
      have E1 := Lib.hid (sumOf_take_succ (f := turnN) hc)
      obtain ⟨b, o, rfl, hp⟩ := O.out j c hc
      obtain ⟨c0, c1, c2⟩ := hp
      clear hc hb
      generalize sumOf turnN (B.take j) = y at *
      obtain ⟨k', n', u'⟩ := c
      dsimp only at c0 c1 c2
      by_cases h0 : k' = 0
      · subst h0
        go_wp2_with fail
        go_roundw
        case rel => exact ⟨j + 1, by omega, by go_num, by rw [E1.out]; simp [turnN], O, D⟩
        case measure => simp [intOf]; omega
      · have H0 := Lib.hid h0
        have d0 : (k' != 0) = true := by simp [h0]
        clear h0
        go_wp2_with fail
        go_roundw
        case rel => exact ⟨j + 1, by omega, by go_num, by rw [E1.out]; simp [turnN, H0.out], O, D⟩
        case measure => simp [intOf]; omega
    · have e1 : B.take j = B := List.take_of_length_le (by omega)
      rw [e1]
      have t1 := T1.out
      have t0 : 0 ≤ sumOf turnN B := (sum_bounds turns_B B RB.out).1
      have T2' := T2.out
      generalize sumOf turnN B = y at *
      by_cases hst : s = t
      · have hy := T2' hst
        have hq : (s.toList == t.toList) = true := by rw [hst]; simp
        have HST := Lib.hid hst
        clear hst T2' T2 T1 e1 O HX
        subst hy
        go_wp2_with fail
        go_ret
        exact ⟨rfl, D.out⟩
      · have hq : (s.toList == t.toList) = false := by
          rw [Bool.eq_false_iff]
          intro h
          have h' := beq_iff_eq.1 h
          rw [Go.Lib.toList_data, Go.Lib.toList_data] at h'
          exact hst (ba_ext h')
        have HST := Lib.hid hst
        clear hst T2' T2 T1 e1 O HX
        go_wp2_with fail
        go_ret
        exact ⟨rfl, D.out⟩

theorem does_true (s t : ByteArray) (a c : Int) (w : World) : Calls Try.prog 4 #[.string s, .string t, .int .i64 a, .int .i64 c] w fun e w' => e = .returned (.bool true) ∧ Below w.heap.size w w' := by
  by_cases h : 200 < s.size ∨ 100 < t.size
  · exact does_big s t a c w h
  · exact does_small s t a c w (by omega) (by omega)

end Go.Proofs.Ytmlibmleamiljaa
