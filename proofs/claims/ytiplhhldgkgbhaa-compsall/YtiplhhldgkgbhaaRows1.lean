/-
  The walk of CompRows: it answers true. Conditions: the pieces lie in memory, and so many that their row may be made.
-/
import Derived.Test.YtiplhhldgkgbhaaW12
namespace Go.Proofs.Ytiplhhldgkgbhaa
open Go.RowKit

/-- What Normal answers, in one form. -/
theorem normal_form (p : Option Addr) (cs : List C) (cap : Nat) (w : World) (hr : RowC w p cs) : Calls Try.prog 9 #[.slice p cs.length cap] w fun e w' => ∃ p' cap' ns z, e = .returned (.tuple #[.slice p' ns cap', .int .i64 z]) ∧ Hid (Below w.heap.size w w') ∧ Hid ((z = 0 ∧ okB cs = true ∧ ns = (normOf cs).length ∧ Own w' w.heap.size (.slice p' ns cap') (normOf cs)) ∨ (z = 200 ∧ okB cs = false ∧ ns = 0)) := by
  refine (normal_any p cs cap w hr).mono ?_
  rintro e w' ⟨hb, ⟨hyes, v, rfl, ho⟩ | ⟨hno, rfl⟩⟩
  · obtain ⟨p', cap', rfl⟩ := ho.form
    exact ⟨p', cap', _, 0, rfl, Lib.hid hb, Lib.hid (.inl ⟨rfl, hyes, rfl, ho⟩)⟩
  · exact ⟨none, 0, 0, 200, rfl, Lib.hid hb, Lib.hid (.inr ⟨rfl, hno, rfl⟩)⟩

theorem normal_formL (p : Option Addr) (cs : List C) (L cap : Nat) (hL : cs.length = L) (w : World) (hr : RowC w p cs) : Calls Try.prog 9 #[.slice p L cap] w fun e w' => ∃ p' cap' ns z, e = .returned (.tuple #[.slice p' ns cap', .int .i64 z]) ∧ Hid (Below w.heap.size w w') ∧ Hid ((z = 0 ∧ okB cs = true ∧ ns = (normOf cs).length ∧ Own w' w.heap.size (.slice p' ns cap') (normOf cs)) ∨ (z = 200 ∧ okB cs = false ∧ ns = 0)) := by
  subst hL; exact normal_form p cs cap w hr

theorem copy_anyL (p : Option Addr) (cs : List C) (L cap : Nat) (hL : cs.length = L) (w : World) (hr : RowC w p cs) (hl : L * 32 ≤ 140737488355328) : Calls Try.prog 20 #[.slice p L cap] w (CopyPost cs w) := by
  subst hL; exact copy_any p cs cap w hr hl
theorem same_anyL (p q : Option Addr) (xs ys : List C) (L M cap cap2 : Nat) (hL : xs.length = L) (hM : ys.length = M) (w : World) (ha : RowC w p xs) (hb : RowC w q ys) (hx : L ≤ 140737488355328) : Calls Try.prog 13 #[.slice p L cap, .slice q M cap2] w (SamePost xs ys w) := by
  subst hL hM; exact same_any p q xs ys cap cap2 w ha hb hx

theorem Own.grown {w w' : World} {base : Nat} {v : Value} {cs : List C} {row : Option Nat} (h : Own w base v cs) (hg : w.grownBy w' row) (hne : v.ownBlock = none ∨ v.ownBlock ≠ row) : Own w' base v cs := World.ownsRow.kept h hg hne

theorem okB_both {xs ys : List C} (hx : okB xs = true) (hy : okB ys = true) (h : okB (xs ++ ys) = true) : okB (normOf xs ++ normOf ys) = true := by
  obtain ⟨a1, a2, a3, a4⟩ := okB_iff.1 h
  have nx := okB_iff.1 (okB_normOf hx)
  have ny := okB_iff.1 (okB_normOf hy)
  have sx := soft_all (okB_iff.1 hx).2.1
  have sy := soft_all (okB_iff.1 hy).2.1
  rw [sumOf_append] at a3 a4
  refine okB_iff.2 ⟨?_, ?_, ?_, ?_⟩
  · have := normOf_length xs
    have := normOf_length ys
    rw [List.length_append] at *
    omega
  · intro c hc
    rcases List.mem_append.1 hc with hc | hc
    · exact nx.2.1 c hc
    · exact ny.2.1 c hc
  · rw [sumOf_append, sum_normOf from_join from_zero xs sx, sum_normOf from_join from_zero ys sy]; exact a3
  · rw [sumOf_append, sum_normOf to_join to_zero xs sx, sum_normOf to_join to_zero ys sy]; exact a4

set_option maxRecDepth 100000 in
set_option maxHeartbeats 1000000 in
theorem rows_true (p q : Option Addr) (xs ys : List C) (cap cap2 : Nat) (w : World) (hx : RowC w p xs) (hy : RowC w q ys) (hl : (xs.length + ys.length) * 32 ≤ 140737488355328) :
    Calls Try.prog 6 #[.slice p xs.length cap, .slice q ys.length cap2] w fun e w' => e = .returned (.bool true) ∧ Below w.heap.size w w' := by
  obtain ⟨i0, hi, hz0, hz1, hz2⟩ := info_parts info39
  have RX := Lib.hid hx; have RY := Lib.hid hy
  clear hx hy
  go_enter Try.func6, Try.ntmps6
  go_wp2_with (go_at_call 19; refine (awake_true _).mono ?_; rintro e w1 ⟨rfl, hb1⟩; have B1 := Lib.hid hb1; clear hb1)
  refine (normal_form p xs cap w1 (RX.out.below B1.out)).mono ?_
  rintro e w2 ⟨p2, c2, n2, z2, rfl, hb2, N2⟩
  have B2 := Lib.hid (B1.out.trans (hb2.out.mono B1.out.size))
  go_wp2_with fail
  refine (normal_form q ys cap2 w2 (RY.out.below B2.out)).mono ?_
  rintro e w3 ⟨p3, c3, n3, z3, rfl, hb3, N3⟩
  have B3 := Lib.hid (B2.out.trans (hb3.out.mono B2.out.size))
  go_wp2_with fail
  refine (copy_any p xs cap w3 (RX.out.below B3.out) (by omega)).mono ?_
  rintro e w4 ⟨v4, rfl, hown4, -, hb4⟩
  have B4 := Lib.hid (B3.out.trans (hb4.mono B3.out.size))
  have O4 := Lib.hid hown4
  have hb4' := Lib.hid hb4
  clear hown4 hb4
  go_wp2_with fail
  go_loopw [9, 10] (fun v i wr => ∃ j : Nat, j ≤ ys.length ∧ i = .int .i64 j ∧ Hid (Own wr w3.heap.size v (xs ++ ys.take j)) ∧ Hid (Below w3.heap.size w3 wr)) (fun _ i _ => ys.length - (intOf i).toNat)
  case atStart => exact ⟨0, Nat.zero_le _, rfl, by simpa using O4, hb4'⟩
  case round =>
    clear O4 hb4'
    obtain ⟨j, hj, rfl, O, B⟩ := hrel
    by_cases hlt : j < ys.length
    · have hc := List.getElem?_eq_getElem hlt
      generalize ys[j] = c at hc
      obtain ⟨b, o, rfl, hp⟩ := RY.out j c hc
      obtain ⟨c0, c1, c2⟩ := (hp.below B3.out).below B.out
      have HC := Lib.hid hc
      clear hc hp
      obtain ⟨k, n, t⟩ := c
      dsimp only at c0 c1 c2
      have hlen : (xs ++ ys.take j).length = xs.length + j := by rw [List.length_append, List.length_take]; omega
      have OW : Hid (∀ W, Below wr.heap.size wr W → W.ownsRow w3.heap.size 39 3 u9 (xs.length + j) (cellsC (xs ++ ys.take j))) := Lib.hid (fun W hW => by have := O.out.below hW; unfold Own at this; rwa [hlen] at this)
      clear hlen
      go_wp2_with (at_builtin; refine wpList_append_lies _ rfl _ _ 22 rfl w3.heap.size 39 i0 _ 3 32 Try.underlying22 hi hz0 hz1 hz2 rfl (by decide) u9 (xs.length + j) (cellsC (xs ++ ys.take j)) rfl (OW.out _ ((Below.refl _ _).alloc (Nat.le_refl _) _)) ⟨wr.heap.size, 0, none⟩ 1 1 (C.cells ⟨k, n, t⟩) rfl rfl (three_new rfl ⟨k, n, t⟩) (cells_one _) (by decide) (by unfold maxLen; omega) (by omega) (Nat.le_trans B.out.size (by simp)) (wr.heap.size + 1) (by simp) ?_; intro g cap' w6 hown hgrow hgg hlt6)
      go_roundw
      case rel =>
        refine ⟨j + 1, by omega, by go_num, Lib.hid ?_, Lib.hid ((B.out.alloc B.out.size _).grown hgrow (Nat.le_trans B.out.size (by simp)) (fun k h => (O.out.lt h).1))⟩
        have e1 : xs ++ ys.take (j + 1) = (xs ++ ys.take j) ++ [⟨k, n, t⟩] := by rw [List.take_add_one, HC.out, List.append_assoc]; rfl
        have e2 : cellsC [⟨k, n, t⟩] = C.cells ⟨k, n, t⟩ := by simp [cellsC]
        unfold Own
        rw [e1, cellsC_append, e2, List.length_append, List.length_append, List.length_take, Nat.min_eq_left (by omega)]
        exact hown
      case measure => simp [intOf]; omega
    · have hO := O.out
      rw [List.take_of_length_le (by omega)] at hO
      obtain ⟨p4, cap4, hv⟩ := hO.form
      subst hv
      have B4' := Lib.hid (B3.out.trans (B.out.mono B3.out.size))
      have R4 := Lib.hid hO.row
      clear hO O
      go_wp2_with fail
      refine (normal_formL p4 (xs ++ ys) (xs.length + ys.length) cap4 (by simp) wr R4.out).mono ?_
      rintro e w5 ⟨p5, c5, n5, z5, rfl, hb5, N5⟩
      have B5 := Lib.hid (B4'.out.trans (hb5.out.mono B4'.out.size))
      rcases N2.out with ⟨h2, hx2, hn2, ho2⟩ | ⟨h2, -, -⟩
      · rcases N3.out with ⟨h3, hy3, hn3, ho3⟩ | ⟨h3, -, -⟩
        · rcases N5.out with ⟨h5, ho5, hn5, how5⟩ | ⟨h5, -, hn5⟩
          · subst h2 h3 h5
            have O2 := Lib.hid (Own.below ho2 (hb3.out.trans ((B.out.trans (hb5.out.mono B.out.size)).mono hb3.out.size)))
            have O3 := Lib.hid (Own.below ho3 (B.out.trans (hb5.out.mono B.out.size)))
            have O5 := Lib.hid how5
            have OK := Lib.hid (okB_both hx2 hy3 ho5)
            have NB := Lib.hid (normOf_both (soft_all (okB_iff.1 hx2).2.1) (soft_all (okB_iff.1 hy3).2.1))
            have lx : n2 ≤ 4096 := by rw [hn2]; exact (okB_iff.1 (okB_normOf hx2)).1
            have ly : n3 ≤ 4096 := by rw [hn3]; exact (okB_iff.1 (okB_normOf hy3)).1
            have lz : n5 ≤ 4096 := by rw [hn5]; exact (okB_iff.1 (okB_normOf ho5)).1
            have HN2 := Lib.hid hn2; have HN3 := Lib.hid hn3; have HN5 := Lib.hid hn5
            generalize normOf xs = X at *
            generalize normOf ys = Y at *
            generalize normOf (xs ++ ys) = Z at *
            clear ho2 ho3 how5 hn2 hn3 hn5 hx2 hy3 ho5 N2 N3 N5
            go_wp2_with (go_at_call 14; refine (num_any _ _).mono ?_; rintro e w' ⟨rfl, rfl⟩)
            refine (copy_anyL p2 X n2 c2 HN2.out.symm w5 O2.out.row (by omega)).mono ?_
            rintro e w7 ⟨v7, rfl, hown7, -, hb7⟩
            have O7 := Lib.hid hown7
            have hb7' := Lib.hid hb7
            clear hown7 hb7
            go_wp2_with fail
            go_loopw [13, 14] (fun v i wz => ∃ j : Nat, j ≤ n3 ∧ i = .int .i64 j ∧ Hid (Own wz w5.heap.size v (X ++ Y.take j)) ∧ Hid (Below w5.heap.size w5 wz)) (fun _ i _ => n3 - (intOf i).toNat)
            case atStart => exact ⟨0, Nat.zero_le _, rfl, by simpa using O7, hb7'⟩
            case round =>
              clear O7 hb7' B hlt hj
              obtain ⟨j, hj, rfl, O, B⟩ := hrel
              by_cases hlt : j < n3
              · have hc := List.getElem?_eq_getElem (show j < Y.length by rw [← HN3.out]; exact hlt)
                generalize Y[j] = c at hc
                obtain ⟨b, o, rfl, hp⟩ := O3.out.row j c hc
                obtain ⟨c0, c1, c2⟩ := hp.below B.out
                have HC := Lib.hid hc
                clear hc hp
                obtain ⟨k, n, t⟩ := c
                dsimp only at c0 c1 c2
                have hlen : (X ++ Y.take j).length = n2 + j := by rw [List.length_append, List.length_take, ← HN2.out, ← HN3.out]; omega
                have HLEN := Lib.hid hlen
                have OW : Hid (∀ W, Below wr.heap.size wr W → W.ownsRow w5.heap.size 39 3 u13 (n2 + j) (cellsC (X ++ Y.take j))) := Lib.hid (fun W hW => by have := O.out.below hW; unfold Own at this; rwa [hlen] at this)
                clear hlen
                go_wp2_with (at_builtin; refine wpList_append_lies _ rfl _ _ 22 rfl w5.heap.size 39 i0 _ 3 32 Try.underlying22 hi hz0 hz1 hz2 rfl (by decide) u13 (n2 + j) (cellsC (X ++ Y.take j)) rfl (OW.out _ ((Below.refl _ _).alloc (Nat.le_refl _) _)) ⟨wr.heap.size, 0, none⟩ 1 1 (C.cells ⟨k, n, t⟩) rfl rfl (three_new rfl ⟨k, n, t⟩) (cells_one _) (by decide) (by unfold maxLen; omega) (by omega) (Nat.le_trans B.out.size (by simp)) (wr.heap.size + 1) (by simp) ?_; intro g cap' w6 hown hgrow hgg hlt6)
                go_roundw
                case rel =>
                  refine ⟨j + 1, by omega, by go_num, Lib.hid ?_, Lib.hid ((B.out.alloc B.out.size _).grown hgrow (Nat.le_trans B.out.size (by simp)) (fun k h => (O.out.lt h).1))⟩
                  have e1 : X ++ Y.take (j + 1) = (X ++ Y.take j) ++ [⟨k, n, t⟩] := by rw [List.take_add_one, HC.out, List.append_assoc]; rfl
                  have e2 : cellsC [⟨k, n, t⟩] = C.cells ⟨k, n, t⟩ := by simp [cellsC]
                  unfold Own
                  rw [e1, cellsC_append, e2, List.length_append, HLEN.out]
                  exact hown
                case measure => simp [intOf]; omega
              · have hO := O.out
                rw [List.take_of_length_le (by rw [← HN3.out]; omega)] at hO
                obtain ⟨p8, cap8, hv⟩ := hO.form
                have hL8 : (X ++ Y).length = n2 + n3 := by rw [List.length_append, ← HN2.out, ← HN3.out]
                rw [hL8] at hv
                have HL8 := Lib.hid hL8
                subst hv
                have R8 := Lib.hid hO.row
                have R5 := Lib.hid (O5.out.row.below B.out)
                have B8 := Lib.hid (B5.out.trans (B.out.mono B5.out.size))
                clear hO O hL8 B
                go_wp2_with fail
                refine (normal_formL p8 (X ++ Y) (n2 + n3) cap8 HL8.out wr R8.out).mono ?_
                rintro e w9 ⟨p9, c9, n9, z9, rfl, hb9, N9⟩
                rcases N9.out with ⟨h9, -, hn9, how9⟩ | ⟨-, hno, -⟩
                rotate_left
                · rw [OK.out] at hno; cases hno
                subst h9
                rw [NB.out] at hn9 how9
                have B9 := Lib.hid (B8.out.trans (hb9.out.mono B8.out.size))
                have R9 := Lib.hid (Own.row how9)
                have R59 := Lib.hid (R5.out.below hb9.out)
                have HN9 := Lib.hid hn9
                have l9 : n9 ≤ 4096 := by rw [hn9, ← HN5.out]; exact lz
                clear how9 hn9 N9
                go_wp2_with (go_at_call 14; refine (num_any _ _).mono ?_; rintro e w' ⟨rfl, rfl⟩)
                refine (same_anyL p9 p5 Z Z n9 n5 c9 c5 HN9.out.symm HN5.out.symm w9 R9.out R59.out (by omega)).mono ?_
                rintro e w10 ⟨hb10, ⟨rfl, -⟩ | ⟨-, hno⟩⟩
                rotate_left
                · exact absurd rfl hno
                go_wp2_with fail
                go_ret
                exact ⟨rfl, B9.out.trans (hb10.mono B9.out.size)⟩
          · subst h2 h3 h5 hn5
            go_wp2_with (go_at_call 14; refine (num_any _ _).mono ?_; rintro e w' ⟨rfl, rfl⟩)
            all_goals (go_ret; exact ⟨rfl, B5.out⟩)
        · subst h2 h3
          rcases N5.out with ⟨h5, -⟩ | ⟨h5, -, hn5⟩
          · subst h5
            go_wp2_with (go_at_call 14; refine (num_any _ _).mono ?_; rintro e w' ⟨rfl, rfl⟩)
            all_goals (go_ret; exact ⟨rfl, B5.out⟩)
          · subst h5 hn5
            go_wp2_with (go_at_call 14; refine (num_any _ _).mono ?_; rintro e w' ⟨rfl, rfl⟩)
            all_goals (go_ret; exact ⟨rfl, B5.out⟩)
      · subst h2
        rcases N5.out with ⟨h5, -⟩ | ⟨h5, -, hn5⟩
        · subst h5
          go_wp2_with (go_at_call 14; refine (num_any _ _).mono ?_; rintro e w' ⟨rfl, rfl⟩)
          all_goals (go_ret; exact ⟨rfl, B5.out⟩)
        · subst h5 hn5
          go_wp2_with (go_at_call 14; refine (num_any _ _).mono ?_; rintro e w' ⟨rfl, rfl⟩)
          all_goals (go_ret; exact ⟨rfl, B5.out⟩)

end Go.Proofs.Ytiplhhldgkgbhaa
