/-
  The walk of Normal. Conditions: as the theorems' premises say.
-/
import Derived.Test.YtmlibmleamiljaaW6
namespace Go.Proofs.Ytmlibmleamiljaa
open Go.RowKit

theorem fit_norm {cs : List C} (h : ∀ c ∈ cs, c.Raw) (hl : cs.length ≤ 4096) : ∀ x ∈ normOf cs, Fit x := by
  intro x hx
  have hs := soft_all h
  have s := normOf_soft cs hs x hx
  have a := mem_le_sum (f := fromC) (fun c hc => from_nonneg (normOf_soft cs hs c hc)) hx
  have b := mem_le_sum (f := toC) (fun c hc => to_nonneg (normOf_soft cs hs c hc)) hx
  rw [sum_normOf from_join from_zero cs hs] at a
  rw [sum_normOf to_join to_zero cs hs] at b
  have a1 := Int.le_trans a (sum_bounds from_bounds cs h).2
  have b1 := Int.le_trans b (sum_bounds to_bounds cs h).2
  clear a b
  unfold C.Soft at s
  unfold fromC at a1
  unfold toC C.sz at b1
  unfold Fit
  rcases s with s | s
  · rw [if_neg (by omega)] at a1; omega
  · rw [if_neg (by omega)] at b1; omega
theorem fit_raw {c : C} (h : c.Raw) : Fit c := by unfold C.Raw at h; unfold Fit; omega

def NormPost (cs : List C) (w : World) (e : Ending) (w' : World) : Prop :=
  Below w.heap.size w w' ∧ ((okB cs = true ∧ ∃ v, e = .returned (.tuple #[v, .int .i64 0]) ∧ Own w' w.heap.size v (normOf cs)) ∨ (okB cs = false ∧ e = .returned (.tuple #[.slice none 0 0, .int .i64 200])))

theorem raw_take {cs : List C} (h : ∀ c ∈ cs, c.Raw) (j : Nat) : ∀ c ∈ cs.take j, c.Raw := fun c hc => h c (List.mem_of_mem_take hc)
theorem normOf_take_succ {cs : List C} {j : Nat} {c : C} (h : cs[j]? = some c) : normOf (cs.take (j + 1)) = addC (normOf (cs.take j)) c := by
  rw [List.take_add_one, h]; exact normOf_snoc _ _

theorem AddPost.below {base : Nat} {v : Value} {out cs : List C} {w w1 : World} {e : Ending} {B : Nat} {w0 : World} (h : AddPost base v out w e w1) (hO : Own w base v cs) (hB : Below B w0 w) (hb : B ≤ base) (hs : B ≤ w.heap.size) : Below B w0 w1 := by
  obtain ⟨v', rfl, _, hg, _⟩ := h
  exact hB.grown hg hs (fun k hk => Nat.le_trans hb (hO.lt hk).1)

set_option maxHeartbeats 1000000 in
theorem normal_any (p : Option Addr) (cs : List C) (cap : Nat) (w : World) (hr : RowC w p cs) : Calls Try.prog 24 #[.slice p cs.length cap] w (NormPost cs w) := by
  have R := Lib.hid hr; clear hr
  cases hok : okB cs with
  | false =>
    have HOK := Lib.hid hok; clear hok
    go_enter Try.func24, Try.ntmps24
    go_wp2_with (go_at_call 27; refine (measure_any _ _ _ _ R.out).mono ?_; rintro e w1 ⟨rfl, hb1⟩; rw [HOK.out]; dsimp only [Bool.false_eq_true, if_false])
    go_ret2
    exact ⟨hb1, .inr ⟨HOK.out, rfl⟩⟩
  | true =>
    have HOK := Lib.hid hok; clear hok
    have hl : cs.length ≤ 4096 := (okB_iff.1 HOK.out).1
    have RAW : Hid (∀ c ∈ cs, c.Raw) := Lib.hid (okB_iff.1 HOK.out).2.1
    go_enter Try.func24, Try.ntmps24
    go_wp2_with (go_at_call 27; refine (measure_any _ _ _ _ R.out).mono ?_; rintro e w1 ⟨rfl, hb1⟩; rw [HOK.out]; dsimp only [if_true])
    have B1 := Lib.hid hb1; clear hb1
    go_loopw [7, 20] (fun v i wr => ∃ j : Nat, j ≤ cs.length ∧ i = .int .i64 j ∧ Hid (Own wr w.heap.size v (normOf (cs.take j))) ∧ Hid (Below w.heap.size w wr)) (fun _ i _ => cs.length - (intOf i).toNat)
    case atStart => exact ⟨0, Nat.zero_le _, rfl, Lib.hid (Own.nil _ _), B1⟩
    case round =>
      clear B1
      obtain ⟨j, hj, rfl, O, B⟩ := hrel
      by_cases hlt : j < cs.length
      · have hc := List.getElem?_eq_getElem hlt
        generalize cs[j] = c at hc
        have hcr := RAW.out c (List.mem_of_getElem? hc)
        have hfit := Lib.hid (fit_raw hcr)
        have hsz := Lib.hid (Soft.sz0 (Raw.soft hcr))
        have HC := Lib.hid hc
        obtain ⟨b, o, rfl, hp⟩ := R.out j c hc
        obtain ⟨c0, c1, c2⟩ := hp.below B.out
        have HL : Hid ((normOf (cs.take j)).length ≤ 8192) := Lib.hid (by have := normOf_length (cs.take j); rw [List.length_take] at this; omega)
        have HFI : Hid (∀ x ∈ normOf (cs.take j), Fit x) := Lib.hid (fit_norm (raw_take RAW.out j) (by rw [List.length_take]; omega))
        clear hc hcr hp
        obtain ⟨k, n, t⟩ := c
        dsimp only at c0 c1 c2
        have CALL : Hid (∀ o, Calls Try.prog 28 #[u7, .agg #[.int .i64 k, .int .i64 n, .string t]] (wr.alloc o) (AddPost w.heap.size u7 (addC (normOf (cs.take j)) ⟨k, n, t⟩) (wr.alloc o))) := Lib.hid (fun o => add_any w.heap.size ⟨k, n, t⟩ hfit.out hsz.out _ HL.out HFI.out u7 (wr.alloc o) (O.out.below ((Below.refl _ _).alloc (Nat.le_refl _) _)) (Nat.le_trans B.out.size (by simp)))
        have BL : Hid (∀ o e w3, AddPost w.heap.size u7 (addC (normOf (cs.take j)) ⟨k, n, t⟩) (wr.alloc o) e w3 → Below w.heap.size w w3) := Lib.hid (fun o e w3 h => h.below (O.out.below ((Below.refl _ _).alloc (Nat.le_refl _) _)) (B.out.alloc B.out.size _) (Nat.le_refl _) (Nat.le_trans B.out.size (by simp)))
        go_wp2_with (go_at_call 28; refine (CALL.out _).mono ?_; intro e w3 hpost; have B3 := Lib.hid (BL.out _ _ _ hpost); obtain ⟨v3, rfl, hown3, -, -⟩ := hpost; have O3 := Lib.hid hown3; clear hown3)
        go_roundw
        case rel => exact ⟨j + 1, by omega, by go_num, by rw [normOf_take_succ HC.out]; exact O3, B3⟩
        case measure => simp [intOf]; omega
      · go_wp2_with (go_at_call 28; fail)
        go_ret2
        have := O.out
        rw [List.take_of_length_le (by omega)] at this
        exact ⟨B.out, .inl ⟨HOK.out, _, rfl, this⟩⟩

end Go.Proofs.Ytmlibmleamiljaa
