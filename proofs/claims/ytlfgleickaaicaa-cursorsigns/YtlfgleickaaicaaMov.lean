/-
  The walks of walk and Move. Conditions: as the theorems' premises say.
-/
import Derived.Test.YtlfgleickaaicaaMovM
namespace Go.Proofs.Ytlfgleickaaicaa
open Go.RowKit

set_option maxHeartbeats 4000000 in
theorem walk_any (p : Option Addr) (cs : List C) (cap : Nat) (at' : Int) (bh : Bool) (w : World) (hr : RowC w p cs) (hm : MayP cs) (h0 : 0 ≤ at') (h1 : at' ≤ 4096) :
    Calls Try.prog 18 #[.slice p cs.length cap, .int .i64 at', .bool bh] w fun e w' => e = .returned (.int .i64 (movL bh at' cs)) ∧ Below w.heap.size w w' := by
  have R := Lib.hid hr
  have hl : cs.length ≤ 4096 := (okB_iff.1 hm.1).1
  have RAW := Lib.hid (okB_iff.1 hm.1).2.1
  have TB : Hid (∀ j, sumOf toC (cs.take j) ≤ 4096) := Lib.hid fun j => by
    have := (mem_take_sum (may_soft hm) (f := toC) (fun _ h => to_nonneg h) j).2
    have := (okB_iff.1 hm.1).2.2.2
    omega
  clear hr hm
  generalize hT : movL bh at' cs = T
  have HT := Lib.hid hT; clear hT
  go_enter Try.func18, Try.ntmps18
  go_wp2
  go_loopw [7, 8, 15] (fun m l i wr => ∃ (j : Nat) (M L : Int), j ≤ cs.length ∧ i = .int .i64 j ∧ m = .int .i64 M ∧ l = .int .i64 L ∧ 0 ≤ L ∧ L ≤ 4096 ∧ 0 ≤ M ∧ Hid (M ≤ sumOf toC (cs.take j)) ∧ Hid (M + movL bh L (cs.drop j) = T) ∧ Hid (Below w.heap.size w wr)) (fun _ _ i _ => cs.length - (intOf i).toNat)
  case atStart => exact ⟨0, 0, at', Nat.zero_le _, rfl, rfl, rfl, h0, h1, Int.le_refl _, Lib.hid (by simp [sumOf]), Lib.hid (by rw [List.drop_zero, Int.zero_add]; exact HT.out), Lib.hid (Below.refl _ _)⟩
  case round =>
    obtain ⟨j, M, L, hj, rfl, rfl, rfl, hL0, hL1, hM0, HM, HE, B⟩ := hrel
    have hM1 : M ≤ 4096 := Int.le_trans HM.out (TB.out j)
    by_cases hlt : j < cs.length
    · have hc := List.getElem?_eq_getElem hlt
      generalize cs[j] = c at hc
      have HS := Lib.hid (sumOf_take_succ (f := toC) hc)
      have HD := Lib.hid (drop_get hc)
      have hraw := RAW.out c (List.mem_of_getElem? hc)
      obtain ⟨b, o, rfl, hp⟩ := R.out j c hc
      obtain ⟨c0, c1, c2⟩ := hp.below B.out
      clear hc hp
      obtain ⟨k, n, t⟩ := c
      dsimp only at c0 c1 c2
      rcases hraw with ⟨hk | hk, g1, g2, g3⟩ | ⟨hk, g1, g2⟩ <;> dsimp only at hk g1 g2 <;> subst hk
      · dsimp only at g3
        by_cases h : L < n
        · have hmin : min n L = L := by omega
          have E := Lib.hid (mov_keep_in bh L n t (cs.drop (j + 1)) h)
          go_wp2
          go_ret
          exact ⟨by rw [← HE.out, HD.out, E.out]; rfl, B.out.alloc B.out.size _⟩
        · have hmin : min n L = n := by omega
          have hn : n ≤ L := by omega
          have E := Lib.hid (mov_keep_out bh L n t (cs.drop (j + 1)) hn)
          go_wp2
          go_roundw
          case rel => exact ⟨j + 1, M + n, L - n, by omega, by go_num, rfl, rfl, by omega, by omega, by omega, Lib.hid (by rw [HS.out, to_keep n t g3]; have := HM.out; omega), Lib.hid (by rw [← HE.out, HD.out, E.out]; omega), Lib.hid (B.out.alloc B.out.size _)⟩
          case measure => simp [intOf]; omega
      · dsimp only at g3
        by_cases h : L < n
        · have hmin : min n L = L := by omega
          have E := Lib.hid (mov_cut_in bh L n t (cs.drop (j + 1)) h)
          go_wp2
          go_ret
          exact ⟨by rw [← HE.out, HD.out, E.out, Int.add_zero]; rfl, B.out.alloc B.out.size _⟩
        · have hmin : min n L = n := by omega
          have hn : n ≤ L := by omega
          have E := Lib.hid (mov_cut_out bh L n t (cs.drop (j + 1)) hn)
          go_wp2
          go_roundw
          case rel => exact ⟨j + 1, M, L - n, by omega, by go_num, rfl, rfl, by omega, by omega, by omega, Lib.hid (by rw [HS.out, to_cut n t]; have := HM.out; omega), Lib.hid (by rw [← HE.out, HD.out, E.out]), Lib.hid (B.out.alloc B.out.size _)⟩
          case measure => simp [intOf]; omega
      · subst g1
        have hmin : min 0 L = 0 := by omega
        by_cases h : 0 < L
        · have E := Lib.hid (mov_put_yes bh L t (cs.drop (j + 1)) hL0 (.inl h))
          go_wp2
          go_roundw
          case rel => exact ⟨j + 1, M + t.size, L, by omega, by go_num, rfl, by go_num, by omega, by omega, by omega, Lib.hid (by rw [HS.out, to_put t]; have := HM.out; omega), Lib.hid (by rw [← HE.out, HD.out, E.out]; omega), Lib.hid (B.out.alloc B.out.size _)⟩
          case measure => simp [intOf]; omega
        · obtain rfl : L = 0 := by omega
          cases bh with
          | true =>
            have E := Lib.hid (mov_put_yes true 0 t (cs.drop (j + 1)) hL0 (.inr rfl))
            go_wp2
            go_roundw
            case rel => exact ⟨j + 1, M + t.size, 0, by omega, by go_num, rfl, by go_num, by omega, by omega, by omega, Lib.hid (by rw [HS.out, to_put t]; have := HM.out; omega), Lib.hid (by rw [← HE.out, HD.out, E.out]; omega), Lib.hid (B.out.alloc B.out.size _)⟩
            case measure => simp [intOf]; omega
          | false =>
            have E := Lib.hid (mov_put_no t (cs.drop (j + 1)))
            go_wp2
            go_roundw
            case rel => exact ⟨j + 1, M, 0, by omega, by go_num, rfl, by go_num, by omega, by omega, by omega, Lib.hid (by rw [HS.out, to_put t]; have := HM.out; omega), Lib.hid (by rw [← HE.out, HD.out, E.out]), Lib.hid (B.out.alloc B.out.size _)⟩
            case measure => simp [intOf]; omega
    · go_wp2
      go_ret
      refine ⟨?_, B.out⟩
      have := HE.out
      rw [List.drop_of_length_le (by omega)] at this
      rw [← this]
      simp [movL]

/-- What Move answers. -/
def MovePost (bh : Bool) (at' : Int) (cs : List C) (w : World) (e : Ending) (w' : World) : Prop :=
  Below w.heap.size w w' ∧ ((e = .returned (.tuple #[.int .i64 (movL bh at' cs), .int .i64 0]) ∧ MoveP cs at') ∨ (e = .returned (.tuple #[.int .i64 0, .int .i64 600]) ∧ ¬ MoveP cs at'))

set_option maxHeartbeats 2000000 in
theorem move_any (p : Option Addr) (cs : List C) (cap : Nat) (at' : Int) (bh : Bool) (w : World) (hr : RowC w p cs) : Calls Try.prog 9 #[.slice p cs.length cap, .int .i64 at', .bool bh] w (MovePost bh at' cs w) := by
  have R := Lib.hid hr; clear hr
  by_cases hm : MayP cs
  · have HM := Lib.hid hm
    have hF4 := (okB_iff.1 hm.1).2.2.1
    clear hm
    generalize hF : sumOf fromC cs = F at hF4
    have HF := Lib.hid hF; clear hF
    by_cases h0 : at' < 0
    · go_enter Try.func9, Try.ntmps9
      go_wp2_with (go_at_call 17; refine (lengths_any _ _ _ _ R.out).mono ?_; rintro e w1 ⟨hb1, ⟨rfl, -⟩ | ⟨-, hno⟩⟩; rotate_left; exact absurd HM.out hno; rw [HF.out]; generalize sumOf toC cs = T; have B1 := Lib.hid hb1; clear hb1)
      go_ret2
      exact ⟨B1.out, .inr ⟨rfl, fun h => by have := h.2.1; omega⟩⟩
    · by_cases h1 : F < at'
      · go_enter Try.func9, Try.ntmps9
        go_wp2_with (go_at_call 17; refine (lengths_any _ _ _ _ R.out).mono ?_; rintro e w1 ⟨hb1, ⟨rfl, -⟩ | ⟨-, hno⟩⟩; rotate_left; exact absurd HM.out hno; rw [HF.out]; generalize sumOf toC cs = T; have B1 := Lib.hid hb1; clear hb1)
        go_ret2
        exact ⟨B1.out, .inr ⟨rfl, fun h => by have := h.2.2; rw [HF.out] at this; omega⟩⟩
      · go_enter Try.func9, Try.ntmps9
        go_wp2_with (first | (go_at_call 17; refine (lengths_any _ _ _ _ R.out).mono ?_; rintro e w1 ⟨hb1, ⟨rfl, -⟩ | ⟨-, hno⟩⟩; rotate_left; exact absurd HM.out hno; rw [HF.out]; generalize sumOf toC cs = T; have B1 := Lib.hid hb1; clear hb1) | (go_at_call 18; refine (walk_any _ cs _ _ _ _ (R.out.below B1.out) HM.out (by omega) (by omega)).mono ?_; rintro e w2 ⟨rfl, hb2⟩; have B2 := Lib.hid (B1.out.trans (hb2.mono B1.out.size)); clear hb2))
        go_ret2
        exact ⟨B2.out, .inl ⟨rfl, HM.out, by omega, by rw [HF.out]; omega⟩⟩
  · have HM := Lib.hid hm; clear hm
    go_enter Try.func9, Try.ntmps9
    go_wp2_with (go_at_call 17; refine (lengths_any _ _ _ _ R.out).mono ?_; rintro e w1 ⟨hb1, ⟨-, hyes⟩ | ⟨rfl, -⟩⟩; exact absurd hyes HM.out; have B1 := Lib.hid hb1; clear hb1)
    go_ret2
    exact ⟨B1.out, .inr ⟨rfl, fun h => HM.out h.1⟩⟩

/-- Move where it answers a place, all as letters. -/
theorem move_yesL (p : Option Addr) (cs : List C) (n cap : Nat) (hn : cs.length = n) (at' m : Int) (bh : Bool) (w : World) (hr : RowC w p cs) (h : MoveP cs at') (hm : movL bh at' cs = m) :
    Calls Try.prog 9 #[.slice p n cap, .int .i64 at', .bool bh] w fun e w' => e = .returned (.tuple #[.int .i64 m, .int .i64 0]) ∧ Below w.heap.size w w' := by
  subst hn; subst hm
  refine (move_any p cs cap at' bh w hr).mono ?_
  rintro e w' ⟨hb, ⟨rfl, -⟩ | ⟨-, hno⟩⟩
  · exact ⟨rfl, hb⟩
  · exact absurd h hno
theorem move_noL (p : Option Addr) (cs : List C) (n cap : Nat) (hn : cs.length = n) (at' : Int) (bh : Bool) (w : World) (hr : RowC w p cs) (h : ¬ MoveP cs at') :
    Calls Try.prog 9 #[.slice p n cap, .int .i64 at', .bool bh] w fun e w' => e = .returned (.tuple #[.int .i64 0, .int .i64 600]) ∧ Below w.heap.size w w' := by
  subst hn
  refine (move_any p cs cap at' bh w hr).mono ?_
  rintro e w' ⟨hb, ⟨-, hyes⟩ | ⟨rfl, -⟩⟩
  · exact absurd hyes h
  · exact ⟨rfl, hb⟩

end Go.Proofs.Ytlfgleickaaicaa
