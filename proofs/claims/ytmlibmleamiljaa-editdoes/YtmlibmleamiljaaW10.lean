/-
  The walk of SameComps. Conditions: as the theorems' premises say.
-/
import Derived.Test.YtmlibmleamiljaaEq
namespace Go.Proofs.Ytmlibmleamiljaa
open Go.RowKit

def SamePost (xs ys : List C) (w : World) (e : Ending) (w' : World) : Prop :=
  Below w.heap.size w w' ∧ ((e = .returned (.bool true) ∧ xs = ys) ∨ (e = .returned (.bool false) ∧ xs ≠ ys))

set_option maxHeartbeats 1000000 in
theorem same_any (p q : Option Addr) (xs ys : List C) (cap cap2 : Nat) (w : World) (ha : RowC w p xs) (hb : RowC w q ys) (hx : xs.length ≤ 140737488355328) : Calls Try.prog 12 #[.slice p xs.length cap, .slice q ys.length cap2] w (SamePost xs ys w) := by
  have RA := Lib.hid ha; have RB := Lib.hid hb
  clear ha hb
  by_cases hl : xs.length = ys.length
  · go_enter Try.func12, Try.ntmps12
    go_wp2
    go_loopw [5] (fun i wr => ∃ j : Nat, j ≤ xs.length ∧ i = .int .i64 j ∧ Hid (∀ i, i < j → xs[i]? = ys[i]?) ∧ Hid (Below w.heap.size w wr)) (fun i _ => xs.length - (intOf i).toNat)
    case atStart => exact ⟨0, Nat.zero_le _, rfl, Lib.hid (fun i h => by omega), Lib.hid (Below.refl _ _)⟩
    case round =>
      obtain ⟨j, hj, rfl, N, B⟩ := hrel
      by_cases hlt : j < xs.length
      · have hc := List.getElem?_eq_getElem hlt
        have hd := List.getElem?_eq_getElem (show j < ys.length by omega)
        generalize xs[j] = c at hc
        generalize ys[j] = d at hd
        obtain ⟨b, o, rfl, hp⟩ := RA.out j c hc
        obtain ⟨b2, o2, rfl, hp2⟩ := RB.out j d hd
        obtain ⟨c0, c1, c2⟩ := hp.below B.out
        obtain ⟨d0, d1, d2⟩ := hp2.below B.out
        obtain ⟨k, n, t⟩ := c
        obtain ⟨k', n', t'⟩ := d
        dsimp only at c0 c1 c2 d0 d1 d2
        have HC := Lib.hid hc; have HD := Lib.hid hd
        clear hc hd hp hp2
        have hlt2 : j < ys.length := by omega
        have hg := fun op x y => guard39 op x y #[.int .i64 k, .int .i64 n, .string t] #[.int .i64 k', .int .i64 n', .string t']
        have hn := neq39 ⟨k, n, t⟩ ⟨k', n', t'⟩
        dsimp only at hn
        cases he : eqC ⟨k, n, t⟩ ⟨k', n', t'⟩ with
        | true =>
          rw [he] at hn
          have HE := Lib.hid he; clear he
          go_wp2
          go_quiet (fail)
          go_wp2
          go_roundw
          case rel => exact ⟨j + 1, by omega, by go_num, Lib.hid (fun i hi => by
                        by_cases hi2 : i < j
                        · exact N.out i hi2
                        · obtain rfl : i = j := by omega
                          rw [HC.out, HD.out, eqC_iff.1 HE.out]), Lib.hid (B.out.trans ((dr_below _ _).mono B.out.size))⟩
          case measure => simp [intOf]; omega
        | false =>
          rw [he] at hn
          have HE := Lib.hid he; clear he
          go_wp2
          go_quiet (fail)
          go_wp2
          go_ret
          refine ⟨B.out.trans ((dr_below _ _).mono B.out.size), .inr ⟨rfl, fun h => ?_⟩⟩
          subst h
          have h1 := HC.out
          rw [HD.out] at h1
          have h2 := HE.out
          rw [eqC_iff.2 (Option.some.inj h1).symm] at h2
          cases h2
      · go_wp2
        go_ret
        refine ⟨B.out, .inl ⟨rfl, List.ext_getElem? fun i => ?_⟩⟩
        by_cases hi : i < j
        · exact N.out i hi
        · rw [List.getElem?_eq_none (by omega), List.getElem?_eq_none (by omega)]
  · have hl' : ((xs.length : Int) != (ys.length : Int)) = true := by simp; omega
    have HL := Lib.hid hl; clear hl
    go_enter Try.func12, Try.ntmps12
    go_wp2
    go_ret
    exact ⟨Below.refl _ _, .inr ⟨rfl, fun h => HL.out (by rw [h])⟩⟩

end Go.Proofs.Ytmlibmleamiljaa
