/-
  The walk of the reference's Move. Conditions: as the theorems' premises say.
-/
import Derived.Test.YtlfgleickaaicaaMov
namespace Go.Proofs.Ytlfgleickaaicaa
open Go.RowKit

set_option maxHeartbeats 2000000 in
theorem rmove_no (p : Option Addr) (cs : List C) (cap : Nat) (at' : Int) (bh : Bool) (w : World) (hr : RowC w p cs) (hno : ¬ MoveP cs at') : Calls Try.prog 10 #[.slice p cs.length cap, .int .i64 at', .bool bh] w (MovePost bh at' cs w) := by
  have R := Lib.hid hr; have HN := Lib.hid hno
  clear hr hno
  by_cases hm : MayP cs
  · have HM := Lib.hid hm
    have hF4 := (okB_iff.1 hm.1).2.2.1
    clear hm
    generalize hF : sumOf fromC cs = F at hF4
    have HF := Lib.hid hF; clear hF
    by_cases h0 : at' < 0
    · go_enter Try.func10, Try.ntmps10
      go_wp2_with (go_at_call 14; refine (rlengths_any _ _ _ _ R.out).mono ?_; rintro e w1 ⟨hb1, ⟨rfl, -⟩ | ⟨-, hno⟩⟩; rotate_left; exact absurd HM.out hno; rw [HF.out]; generalize sumOf toC cs = T; have B1 := Lib.hid hb1; clear hb1)
      go_ret2
      exact ⟨B1.out, .inr ⟨rfl, HN.out⟩⟩
    · have h1 : F < at' := by
        have := HN.out
        unfold MoveP at this
        rw [HF.out] at this
        exact Int.not_le.1 fun h => this ⟨HM.out, by omega, h⟩
      go_enter Try.func10, Try.ntmps10
      go_wp2_with (go_at_call 14; refine (rlengths_any _ _ _ _ R.out).mono ?_; rintro e w1 ⟨hb1, ⟨rfl, -⟩ | ⟨-, hno⟩⟩; rotate_left; exact absurd HM.out hno; rw [HF.out]; generalize sumOf toC cs = T; have B1 := Lib.hid hb1; clear hb1)
      go_ret2
      exact ⟨B1.out, .inr ⟨rfl, HN.out⟩⟩
  · have HM := Lib.hid hm; clear hm
    go_enter Try.func10, Try.ntmps10
    go_wp2_with (go_at_call 14; refine (rlengths_any _ _ _ _ R.out).mono ?_; rintro e w1 ⟨hb1, ⟨-, hyes⟩ | ⟨rfl, -⟩⟩; exact absurd hyes HM.out; have B1 := Lib.hid hb1; clear hb1)
    go_ret2
    exact ⟨B1.out, .inr ⟨rfl, HN.out⟩⟩

set_option maxHeartbeats 4000000 in
theorem rmove_yes (p : Option Addr) (cs : List C) (cap : Nat) (at' : Int) (bh : Bool) (w : World) (hr : RowC w p cs) (hP : MoveP cs at') : Calls Try.prog 10 #[.slice p cs.length cap, .int .i64 at', .bool bh] w (MovePost bh at' cs w) := by
  have R := Lib.hid hr
  have hm := hP.1
  have hl : cs.length ≤ 4096 := (okB_iff.1 hm.1).1
  have RAW := Lib.hid (okB_iff.1 hm.1).2.1
  have h0 := hP.2.1
  have hF4 := (okB_iff.1 hm.1).2.2.1
  have h1 := hP.2.2
  have TB : Hid (∀ j, sumOf toC (cs.take j) ≤ 4096) := Lib.hid fun j => by
    have := (mem_take_sum (may_soft hm) (f := toC) (fun _ h => to_nonneg h) j).2
    have := (okB_iff.1 hm.1).2.2.2
    omega
  have HM := Lib.hid hm
  have HP := Lib.hid hP
  clear hr hm hP
  generalize hT : movL bh at' cs = T
  have HT := Lib.hid hT
  generalize hF : sumOf fromC cs = F at *
  have HF := Lib.hid hF
  clear hT hF
  suffices hh : Calls Try.prog 10 #[.slice p cs.length cap, .int .i64 at', .bool bh] w fun e w' => e = .returned (.tuple #[.int .i64 T, .int .i64 0]) ∧ Below w.heap.size w w' by
    refine hh.mono ?_
    rintro e w' ⟨rfl, hb⟩
    exact ⟨hb, .inl ⟨by rw [HT.out], HP.out⟩⟩
  go_enter Try.func10, Try.ntmps10
  go_wp2_with (go_at_call 14; refine (rlengths_any _ _ _ _ R.out).mono ?_; rintro e w1 ⟨hb1, ⟨rfl, -⟩ | ⟨-, hno⟩⟩; rotate_left; exact absurd HM.out hno; rw [HF.out]; generalize sumOf toC cs = T2; have B1 := Lib.hid hb1; clear hb1)
  go_loopw [11, 12, 13] (fun a m i wr => ∃ (j : Nat) (M A : Int), j ≤ cs.length ∧ i = .int .i64 j ∧ m = .int .i64 M ∧ a = .int .i64 A ∧ 0 ≤ A ∧ A ≤ at' ∧ 0 ≤ M ∧ Hid (M ≤ sumOf toC (cs.take j)) ∧ Hid (M + movL bh (at' - A) (cs.drop j) = T) ∧ Hid (Below w.heap.size w wr)) (fun _ _ i _ => cs.length - (intOf i).toNat)
  case atStart => exact ⟨0, 0, 0, Nat.zero_le _, rfl, rfl, rfl, Int.le_refl _, h0, Int.le_refl _, Lib.hid (by simp [sumOf]), Lib.hid (by rw [List.drop_zero, Int.zero_add, Int.sub_zero]; exact HT.out), B1⟩
  case round =>
    obtain ⟨j, M, A, hj, rfl, rfl, rfl, hA0, hA1, hM0, HM', HE, B⟩ := hrel
    have hM1 : M ≤ 4096 := Int.le_trans HM'.out (TB.out j)
    by_cases hlt : j < cs.length
    · have hc := List.getElem?_eq_getElem hlt
      generalize cs[j] = c at hc
      have HS := Lib.hid (sumOf_take_succ (f := toC) hc)
      have HD := Lib.hid (drop_get hc)
      have hraw := RAW.out c (List.mem_of_getElem? hc)
      obtain ⟨b, o, rfl, hp⟩ := R.out j c hc
      obtain ⟨c0, c1, c2⟩ := hp.below B.out
      clear hc hp
      obtain ⟨k, n, t⟩ := c
      dsimp only at c0 c1 c2
      have SO := Lib.hid (Raw.soft hraw)
      rcases hraw with ⟨hk | hk, g1, g2, g3⟩ | ⟨hk, g1, g2⟩ <;> dsimp only at hk g1 g2 <;> subst hk
      · dsimp only at g3
        by_cases h : at' - A < n
        · have h' : at' < A + n := by omega
          have E := Lib.hid (mov_keep_in bh (at' - A) n t (cs.drop (j + 1)) h)
          go_wp2_with (go_at_call 19; refine (rsize_any _ _ _ _ SO.out).mono ?_; rintro e w2 ⟨rfl, hb2⟩; replace c0 := cell_later hb2 c0; have B2 := Lib.hid (B.out.trans (hb2.mono B.out.size)); clear hb2; rw [g3])
          go_ret2
          exact ⟨by rw [← HE.out, HD.out, E.out, ← Int.add_sub_assoc]; rfl, B2.out⟩
        · have h' : ¬ (at' < A + n) := by omega
          have E := Lib.hid (mov_keep_out bh (at' - A) n t (cs.drop (j + 1)) (by omega))
          go_wp2_with (go_at_call 19; refine (rsize_any _ _ _ _ SO.out).mono ?_; rintro e w2 ⟨rfl, hb2⟩; replace c0 := cell_later hb2 c0; have B2 := Lib.hid (B.out.trans (hb2.mono B.out.size)); clear hb2; rw [g3])
          go_roundw
          case rel => exact ⟨j + 1, M + n, A + n, by omega, by go_num, by go_num, by go_num, by omega, by omega, by omega, Lib.hid (by rw [HS.out, to_keep n t g3]; have := HM'.out; omega), Lib.hid (by rw [← HE.out, HD.out, E.out, show at' - (A + n) = at' - A - n by omega]; omega), B2⟩
          case measure => simp [intOf]; omega
      · dsimp only at g3
        by_cases h : at' - A < n
        · have h' : at' < A + n := by omega
          have E := Lib.hid (mov_cut_in bh (at' - A) n t (cs.drop (j + 1)) h)
          go_wp2_with (go_at_call 19; refine (rsize_any _ _ _ _ SO.out).mono ?_; rintro e w2 ⟨rfl, hb2⟩; replace c0 := cell_later hb2 c0; have B2 := Lib.hid (B.out.trans (hb2.mono B.out.size)); clear hb2; rw [g3])
          go_ret2
          exact ⟨by rw [← HE.out, HD.out, E.out, Int.add_zero]; rfl, B2.out⟩
        · have h' : ¬ (at' < A + n) := by omega
          have E := Lib.hid (mov_cut_out bh (at' - A) n t (cs.drop (j + 1)) (by omega))
          go_wp2_with (go_at_call 19; refine (rsize_any _ _ _ _ SO.out).mono ?_; rintro e w2 ⟨rfl, hb2⟩; replace c0 := cell_later hb2 c0; have B2 := Lib.hid (B.out.trans (hb2.mono B.out.size)); clear hb2; rw [g3])
          go_roundw
          case rel => exact ⟨j + 1, M, A + n, by omega, by go_num, by go_num, by go_num, by omega, by omega, by omega, Lib.hid (by rw [HS.out, to_cut n t]; have := HM'.out; omega), Lib.hid (by rw [← HE.out, HD.out, E.out, show at' - (A + n) = at' - A - n by omega]), B2⟩
          case measure => simp [intOf]; omega
      · subst g1
        by_cases h : A < at'
        · have h' : A ≠ at' := by omega
          have E := Lib.hid (mov_put_yes bh (at' - A) t (cs.drop (j + 1)) (by omega) (.inl (by omega)))
          go_wp2_with (go_at_call 19; refine (rsize_any _ _ _ _ SO.out).mono ?_; rintro e w2 ⟨rfl, hb2⟩; replace c0 := cell_later hb2 c0; have B2 := Lib.hid (B.out.trans (hb2.mono B.out.size)); clear hb2; rw [Int.zero_add])
          go_roundw
          case rel => exact ⟨j + 1, M + t.size, A, by omega, by go_num, by go_num, by go_num, by omega, by omega, by omega, Lib.hid (by rw [HS.out, to_put t]; have := HM'.out; omega), Lib.hid (by rw [← HE.out, HD.out, E.out]; omega), B2⟩
          case measure => simp [intOf]; omega
        · obtain rfl : A = at' := by omega
          cases bh with
          | true =>
            have E := Lib.hid (mov_put_yes true 0 t (cs.drop (j + 1)) (by omega) (.inr rfl))
            go_wp2_with (go_at_call 19; refine (rsize_any _ _ _ _ SO.out).mono ?_; rintro e w2 ⟨rfl, hb2⟩; replace c0 := cell_later hb2 c0; have B2 := Lib.hid (B.out.trans (hb2.mono B.out.size)); clear hb2; rw [Int.zero_add])
            go_roundw
            case rel => exact ⟨j + 1, M + t.size, A, by omega, by go_num, by go_num, by go_num, by omega, by omega, by omega, Lib.hid (by rw [HS.out, to_put t]; have := HM'.out; omega), Lib.hid (by rw [← HE.out, HD.out, Int.sub_self, E.out]; omega), B2⟩
            case measure => simp [intOf]; omega
          | false =>
            have Z := Lib.hid (mov_zero (cs.drop j) (fun c hc => Raw.soft (RAW.out c (List.mem_of_mem_drop hc))))
            go_wp2_with (go_at_call 19; refine (rsize_any _ _ _ _ SO.out).mono ?_; rintro e w2 ⟨rfl, hb2⟩; replace c0 := cell_later hb2 c0; have B2 := Lib.hid (B.out.trans (hb2.mono B.out.size)); clear hb2; rw [Int.zero_add])
            go_ret2
            exact ⟨by rw [← HE.out, Int.sub_self, Z.out, Int.add_zero]; rfl, B2.out⟩
    · go_wp2_with fail
      go_ret2
      refine ⟨?_, B.out⟩
      have := HE.out
      rw [List.drop_of_length_le (by omega)] at this
      rw [← this]
      simp [movL]

theorem rmove_any (p : Option Addr) (cs : List C) (cap : Nat) (at' : Int) (bh : Bool) (w : World) (hr : RowC w p cs) : Calls Try.prog 10 #[.slice p cs.length cap, .int .i64 at', .bool bh] w (MovePost bh at' cs w) := by
  by_cases h : MoveP cs at'
  · exact rmove_yes p cs cap at' bh w hr h
  · exact rmove_no p cs cap at' bh w hr h

end Go.Proofs.Ytlfgleickaaicaa
