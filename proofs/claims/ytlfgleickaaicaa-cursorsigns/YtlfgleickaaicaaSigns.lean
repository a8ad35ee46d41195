/-
  The walk of the law CursorSigns. Conditions: as the theorem's premises say.
-/
import Derived.Test.YtlfgleickaaicaaSignM
import Derived.Test.YtlfgleickaaicaaRApp
import Derived.Test.YtlfgleickaaicaaAw
namespace Go.Proofs.Ytlfgleickaaicaa
open Go.RowKit

theorem sub_both (a b c : Int) : a - (b + c) = a - b - c := by omega

set_option maxRecDepth 100000 in
set_option maxHeartbeats 4000000 in
theorem signs_go (s : ByteArray) (p : Option Addr) (cs : List C) (cap : Nat) (at' : Int) (w : World) (hr : RowC w p cs) (hm : MayP cs) (hfs : sumOf fromC cs = s.size) (h0 : 0 < s.size) :
    Calls Try.prog 5 #[.string s, .slice p cs.length cap, .int .i64 at'] w fun e w' => e = .returned (.bool true) ∧ Below w.heap.size w w' := by
  have R := Lib.hid hr
  have hs := may_soft hm
  have hl : cs.length ≤ 4096 := (okB_iff.1 hm.1).1
  have RAW := Lib.hid (okB_iff.1 hm.1).2.1
  have hF4 := (okB_iff.1 hm.1).2.2.1
  have hT4 := (okB_iff.1 hm.1).2.2.2
  obtain ⟨i, hi, hi1⟩ := place_mod at' (s.size - 1) (by omega)
  rw [show ((s.size - 1 : Nat) : Int) + 1 = s.size by omega] at hi
  have hiN : i < s.size := by omega
  have hiI : (i : Int) < s.size := by omega
  have hs4 : (s.size : Int) ≤ 4096 := by omega
  have hs0 : (0 : Int) < (s.size : Int) := by omega
  have hi0 : (0 : Int) ≤ i := by omega
  have HI := Lib.hid hi
  clear hi hi1
  have FB : Hid (∀ j, 0 ≤ sumOf fromC (cs.take j) ∧ sumOf fromC (cs.take j) ≤ 4096) := Lib.hid fun j => by
    have := mem_take_sum hs (f := fromC) (fun _ h => from_nonneg h) j
    omega
  have P1 : Hid (MoveP cs i) := Lib.hid ⟨hm, hi0, by omega⟩
  have P2 : Hid (MoveP cs (i + 1)) := Lib.hid ⟨hm, by omega, by omega⟩
  have HS := Lib.hid (fun h => kept_sign s cs 0 i hs (by omega) hi0 (by omega) h)
  have sz := appB_size (s := s) (cs := cs) (a := 0) hs (by omega) (by omega)
  have a0 := mov_bounds true cs i hs hi0
  have b0 := mov_bounds false cs (i + 1) hs (by omega)
  rw [← sz] at a0 b0 hT4
  rw [Int.zero_add] at HS
  have HM := Lib.hid hm
  have HFS := Lib.hid hfs
  clear hr hs hm sz hF4 hfs
  generalize hX : appB s 0 cs = X at *
  have HX := Lib.hid hX
  generalize hA : movL true i cs = A at *
  have HA := Lib.hid hA
  generalize hB : movL false (i + 1) cs = B at *
  have HB := Lib.hid hB
  generalize hK : keptL i cs = KT at *
  have HK := Lib.hid hK
  clear hX hA hB hK
  obtain ⟨a0, a1⟩ := a0
  obtain ⟨b0, b1⟩ := b0
  have ab : A ≤ B + X.size := by omega
  go_enter Try.func5, Try.ntmps5
  go_wp2_with fail
  refine (awake_true _).mono ?_
  rintro e w1 ⟨rfl, hb1⟩
  have B1 := Lib.hid hb1; clear hb1
  go_wp2_with fail
  refine (rapply_any _ _ _ _ _ (R.out.below B1.out)).mono ?_
  rintro e w2 ⟨hb2, ⟨rfl, -⟩ | ⟨-, hno⟩⟩
  rotate_left
  · exact absurd ⟨HM.out, HFS.out⟩ hno
  have B2 := Lib.hid (B1.out.trans (hb2.mono B1.out.size)); clear hb2 B1
  rw [HX.out]
  go_wp2_with fail
  rw [HI.out]
  refine (move_yesL _ cs _ _ rfl i A true _ (R.out.below B2.out) P1.out HA.out).mono ?_
  rintro e w3 ⟨rfl, hb3⟩
  have B3 := Lib.hid (B2.out.trans (hb3.mono B2.out.size)); clear hb3 B2
  go_wp2_with fail
  refine (move_yesL _ cs _ _ rfl (i + 1) B false _ (R.out.below B3.out) P2.out HB.out).mono ?_
  rintro e w4 ⟨rfl, hb4⟩
  have B4 := Lib.hid (B3.out.trans (hb4.mono B3.out.size)); clear hb4 B3
  go_wp2_with (go_at_call 11; refine (num_any _ _).mono ?_; rintro e w' ⟨rfl, rfl⟩)
  go_loop [14, 15, 16] (fun o k i' => ∃ (j : Nat) (K : Bool), j ≤ cs.length ∧ i' = .int .i64 j ∧ o = .int .i64 (sumOf fromC (cs.take j)) ∧ k = .bool K ∧ Hid ((K || keptL (i - sumOf fromC (cs.take j)) (cs.drop j)) = KT)) (fun _ _ i' => cs.length - (intOf i').toNat)
  case atStart => exact ⟨0, false, Nat.zero_le _, rfl, rfl, rfl, Lib.hid (by simp [sumOf, HK.out])⟩
  case round =>
    obtain ⟨j, K, hj, rfl, rfl, rfl, HE⟩ := hrel
    obtain ⟨o0, o1⟩ := FB.out j
    by_cases hlt : j < cs.length
    · have hc := List.getElem?_eq_getElem hlt
      generalize cs[j] = c at hc
      have HS' := Lib.hid (sumOf_take_succ (f := fromC) hc)
      have HD := Lib.hid (drop_get hc)
      have hraw := RAW.out c (List.mem_of_getElem? hc)
      obtain ⟨b, o, rfl, hp⟩ := R.out j c hc
      obtain ⟨c0, c1, c2⟩ := hp.below B4.out
      clear hc hp
      generalize sumOf fromC (cs.take j) = O at *
      obtain ⟨k, n, t⟩ := c
      dsimp only at c0 c1 c2
      rcases hraw with ⟨hk | hk, g1, g2, g3⟩ | ⟨hk, g1, g2⟩ <;> dsimp only at hk g1 g2 <;> subst hk
      · cases K with
        | true =>
          go_wp2
          go_round
          case rel => exact ⟨j + 1, true, by omega, by go_num, by rw [HS'.out, from_keep], rfl, Lib.hid (by have h := HE.out; rw [Bool.true_or] at h ⊢; exact h)⟩
          case measure => simp [intOf]; omega
        | false =>
          by_cases g4 : O ≤ i
          · by_cases g5 : (i : Int) < O + n
            · have E := Lib.hid (kept_in (i - O) n t (cs.drop (j + 1)) (by omega) (by omega))
              go_wp2
              go_round
              case rel => exact ⟨j + 1, true, by omega, by go_num, by rw [HS'.out, from_keep], rfl, Lib.hid (by have h := HE.out; rw [HD.out, E.out] at h; rw [Bool.true_or]; exact h)⟩
              case measure => simp [intOf]; omega
            · have E := Lib.hid (kept_out (i - O) n t (cs.drop (j + 1)) (by omega))
              go_wp2
              go_round
              case rel => exact ⟨j + 1, false, by omega, by go_num, by rw [HS'.out, from_keep], rfl, Lib.hid (by have h := HE.out; rw [HD.out, E.out] at h; rw [HS'.out, from_keep, sub_both]; exact h)⟩
              case measure => simp [intOf]; omega
          · have E := Lib.hid (kept_out (i - O) n t (cs.drop (j + 1)) (by omega))
            go_wp2
            go_round
            case rel => exact ⟨j + 1, false, by omega, by go_num, by rw [HS'.out, from_keep], rfl, Lib.hid (by have h := HE.out; rw [HD.out, E.out] at h; rw [HS'.out, from_keep, sub_both]; exact h)⟩
            case measure => simp [intOf]; omega
      · have E := Lib.hid (kept_cut (i - O) n t (cs.drop (j + 1)))
        cases K with
        | true =>
          go_wp2
          go_round
          case rel => exact ⟨j + 1, true, by omega, by go_num, by rw [HS'.out, from_cut], rfl, Lib.hid (by have h := HE.out; rw [Bool.true_or] at h ⊢; exact h)⟩
          case measure => simp [intOf]; omega
        | false =>
          go_wp2
          go_round
          case rel => exact ⟨j + 1, false, by omega, by go_num, by rw [HS'.out, from_cut], rfl, Lib.hid (by have h := HE.out; rw [HD.out, E.out] at h; rw [HS'.out, from_cut, sub_both]; exact h)⟩
          case measure => simp [intOf]; omega
      · have E := Lib.hid (kept_put (i - O) n t (cs.drop (j + 1)))
        go_wp2
        go_round
        case rel => exact ⟨j + 1, K, by omega, by go_num, by rw [HS'.out, from_put, Int.add_zero], rfl, Lib.hid (by have h := HE.out; rw [HD.out, E.out] at h; rw [HS'.out, from_put, Int.add_zero]; exact h)⟩
        case measure => simp [intOf]; omega
    · have hKT : K = KT := by
        have h := HE.out
        rw [List.drop_of_length_le (by omega)] at h
        simpa [keptL] using h
      subst hKT
      cases K with
      | false =>
        go_wp2_with fail
        go_quiet (fail)
        go_wp2_with fail
        go_ret
        exact ⟨rfl, B4.out.trans ((dr_below _ _).mono B4.out.size)⟩
      | true =>
        obtain ⟨e1, e2⟩ := HS.out rfl
        obtain ⟨m, rfl⟩ := Int.eq_ofNat_of_zero_le a0
        subst e1
        have hmN : m < X.size := by omega
        have hmI : (m : Int) < (X.size : Int) := by omega
        have he : X[m] = s[i] := by
          rw [Int.toNat_natCast, Int.toNat_natCast, byte_at X m hmN, byte_at s i hiN] at e2
          exact Option.some.inj e2
        have hq : ((X[m].toNat : Int) == (s[i].toNat : Int)) = true := by rw [he]; simp
        clear he e2
        go_wp2_with fail
        go_quiet (fail)
        go_wp2_with fail
        go_ret
        exact ⟨rfl, B4.out.trans ((dr_below _ _).mono B4.out.size)⟩

set_option maxRecDepth 100000 in
set_option maxHeartbeats 1000000 in
theorem signs_none (s : ByteArray) (p : Option Addr) (cs : List C) (cap : Nat) (at' : Int) (w : World) (hr : RowC w p cs) (hno : ¬ (MayP cs ∧ sumOf fromC cs = s.size)) :
    Calls Try.prog 5 #[.string s, .slice p cs.length cap, .int .i64 at'] w fun e w' => e = .returned (.bool true) ∧ Below w.heap.size w w' := by
  have R := Lib.hid hr; have HN := Lib.hid hno; clear hr hno
  go_enter Try.func5, Try.ntmps5
  go_wp2_with fail
  refine (awake_true _).mono ?_
  rintro e w1 ⟨rfl, hb1⟩
  have B1 := Lib.hid hb1; clear hb1
  go_wp2_with fail
  refine (rapply_any _ _ _ _ _ (R.out.below B1.out)).mono ?_
  rintro e w2 ⟨hb2, ⟨-, hyes⟩ | ⟨rfl, -⟩⟩
  · exact absurd hyes HN.out
  have B2 := Lib.hid (B1.out.trans (hb2.mono B1.out.size)); clear hb2 B1
  go_wp2_with fail
  go_ret
  exact ⟨rfl, B2.out⟩

set_option maxRecDepth 100000 in
set_option maxHeartbeats 1000000 in
theorem signs_empty (s : ByteArray) (p : Option Addr) (cs : List C) (cap : Nat) (at' : Int) (w : World) (hr : RowC w p cs) (hy : MayP cs ∧ sumOf fromC cs = s.size) (h0 : s.size = 0) :
    Calls Try.prog 5 #[.string s, .slice p cs.length cap, .int .i64 at'] w fun e w' => e = .returned (.bool true) ∧ Below w.heap.size w w' := by
  have R := Lib.hid hr; have HY := Lib.hid hy; clear hr hy
  have hz : ((s.size : Int) == 0) = true := by rw [h0]; rfl
  generalize hX : appB s 0 cs = X
  have HX := Lib.hid hX; clear hX h0
  go_enter Try.func5, Try.ntmps5
  go_wp2_with fail
  refine (awake_true _).mono ?_
  rintro e w1 ⟨rfl, hb1⟩
  have B1 := Lib.hid hb1; clear hb1
  go_wp2_with fail
  refine (rapply_any _ _ _ _ _ (R.out.below B1.out)).mono ?_
  rintro e w2 ⟨hb2, ⟨rfl, -⟩ | ⟨-, hno⟩⟩
  rotate_left
  · exact absurd HY.out hno
  have B2 := Lib.hid (B1.out.trans (hb2.mono B1.out.size)); clear hb2 B1
  rw [HX.out]
  go_wp2_with fail
  go_ret
  exact ⟨rfl, B2.out⟩

theorem signs_true (s : ByteArray) (p : Option Addr) (cs : List C) (cap : Nat) (at' : Int) (w : World) (hr : RowC w p cs) :
    Calls Try.prog 5 #[.string s, .slice p cs.length cap, .int .i64 at'] w fun e w' => e = .returned (.bool true) ∧ Below w.heap.size w w' := by
  by_cases h : MayP cs ∧ sumOf fromC cs = s.size
  · by_cases h0 : s.size = 0
    · exact signs_empty s p cs cap at' w hr h h0
    · exact signs_go s p cs cap at' w hr h.1 h.2 (by omega)
  · exact signs_none s p cs cap at' w hr h

end Go.Proofs.Ytlfgleickaaicaa
