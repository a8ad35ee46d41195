/-
  The walk of the laws' puts. Conditions: as the theorems' premises say.
-/
import Derived.Test.YtkknkannjoijbaaSides
import Derived.Test.YtkknkannjoijbaaW16
namespace Go.Proofs.Ytkknkannjoijbaa
open Go.RowKit

theorem soft_putZ {c : C} (h : c.Soft) : putZ c = c.t.size := by
  rcases soft_form h with ⟨m, hm, rfl⟩ | ⟨m, hm, rfl⟩ | ⟨t, rfl⟩ <;> simp [putZ, C.sz, e0_size]

set_option maxHeartbeats 1000000 in
theorem puts_may (p : Option Addr) (cs : List C) (L cap : Nat) (hL : cs.length = L) (w : World) (hr : RowC w p cs) (hm : MayP cs) (K : Int) (hK : sumOf putZ cs = K) : Calls Try.prog 19 #[.slice p L cap] w fun e w' => e = .returned (.int .i64 K) ∧ w = w' := by
  subst hL
  have R := Lib.hid hr
  have hs := (gd_of_may hm).soft
  have SO := Lib.hid hs
  have hl : cs.length ≤ 4096 := (okB_iff.1 hm.1).1
  have h1 : sumOf putZ cs ≤ 4096 := Int.le_trans (sum_put_le hs) (okB_iff.1 hm.1).2.2.2
  have PB := Lib.hid (fun j => mem_take_sum hs (f := putZ) (fun _ h => put_nonneg h) j)
  have HK := Lib.hid hK
  clear hr hs hm hK
  go_enter Try.func19, Try.ntmps19
  go_wp2_with fail
  go_loopw [3, 4] (fun k i wr => ∃ j : Nat, j ≤ cs.length ∧ i = .int .i64 j ∧ k = .int .i64 (sumOf putZ (cs.take j)) ∧ Hid (w = wr)) (fun _ i _ => cs.length - (intOf i).toNat)
  case atStart => exact ⟨0, Nat.zero_le _, rfl, rfl, Lib.hid rfl⟩
  case round =>
    obtain ⟨j, hj, rfl, rfl, B⟩ := hrel
    obtain ⟨a0, a1⟩ := PB.out j
    have a2 : sumOf putZ (cs.take j) ≤ 4096 := Int.le_trans a1 h1
    clear a1
    have EW := B.out
    subst EW
    by_cases hlt : j < cs.length
    · have hc := List.getElem?_eq_getElem hlt
      generalize cs[j] = c at hc
      have hcs := soft_putZ (SO.out c (List.mem_of_getElem? hc))
      have E1 := sumOf_take_succ (f := putZ) hc
      have b1 := (PB.out (j + 1)).2
      rw [E1, hcs] at b1
      rw [hcs] at E1
      obtain ⟨b, o, rfl, hp⟩ := R.out j c hc
      obtain ⟨c0, c1, c2⟩ := hp
      clear hc
      obtain ⟨k, n, t⟩ := c
      dsimp only at c0 c1 c2 b1 E1
      have hts : (t.size : Int) ≤ 4096 := by omega
      have E2 := Lib.hid E1
      clear E1 hcs b1
      generalize sumOf putZ (cs.take j) = A at *
      go_wp2_with fail
      go_roundw
      case rel => exact ⟨j + 1, by omega, by go_num, congrArg (Value.int .i64) (by rw [E2.out]), Lib.hid (by trivial)⟩
      case measure => simp [intOf]; omega
    · have e : sumOf putZ (cs.take j) = K := by rw [List.take_of_length_le (by omega)]; exact HK.out
      have HE := Lib.hid e
      clear e
      go_wp2_with fail
      go_ret
      exact ⟨by rw [HE.out]; rfl, rfl⟩

set_option maxHeartbeats 1000000 in
theorem puts_some (p : Option Addr) (cs : List C) (cap : Nat) (w : World) (hr : RowC w p cs) (hl : cs.length ≤ 140737488355328) : Calls Try.prog 19 #[.slice p cs.length cap] w fun e w' => (∃ k, e = .returned (.int .i64 k)) ∧ w = w' := by
  have R := Lib.hid hr
  clear hr
  go_enter Try.func19, Try.ntmps19
  go_wp2_with fail
  go_loopw [3, 4] (fun k i wr => ∃ (j : Nat) (z : Int), j ≤ cs.length ∧ i = .int .i64 j ∧ k = .int .i64 z ∧ Hid (w = wr)) (fun _ i _ => cs.length - (intOf i).toNat)
  case atStart => exact ⟨0, 0, Nat.zero_le _, rfl, rfl, Lib.hid rfl⟩
  case round =>
    obtain ⟨j, z, hj, rfl, rfl, B⟩ := hrel
    have EW := B.out
    subst EW
    by_cases hlt : j < cs.length
    · have hc := List.getElem?_eq_getElem hlt
      generalize cs[j] = c at hc
      obtain ⟨b, o, rfl, hp⟩ := R.out j c hc
      obtain ⟨c0, c1, c2⟩ := hp
      clear hc
      obtain ⟨k, n, t⟩ := c
      dsimp only at c0 c1 c2
      go_wp2_with fail
      go_roundw
      case rel => exact ⟨j + 1, _, by omega, by go_num, rfl, Lib.hid (by trivial)⟩
      case measure => simp [intOf]; omega
    · go_wp2_with fail
      go_ret
      exact ⟨⟨_, rfl⟩, rfl⟩

end Go.Proofs.Ytkknkannjoijbaa
