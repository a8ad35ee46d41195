/-
  The walk of Normal. Conditions: as the theorems' premises say.
-/
import Derived.Test.YtdpjkafabjhkiaaW6
namespace Go.Proofs.Ytdpjkafabjhkiaa
open Go.RowKit

theorem fit_norm {cs : List C} (h : ∀ c ∈ cs, c.Raw) (hl : cs.length ≤ 4096) : ∀ x ∈ normOf cs, Fit x := by
  intro x hx
  have hs := soft_all h
  have s := normOf_soft cs hs x hx
  have a := mem_le_sum (f := fromC) (fun c hc => from_nonneg (normOf_soft cs hs c hc)) hx
  have b := mem_le_sum (f := toC) (fun c hc => to_nonneg (normOf_soft cs hs c hc)) hx
  rw [sum_normOf from_join from_zero cs hs] at a
  rw [sum_normOf to_join to_zero cs hs] at b
  have a1 := Int.le_trans a (sum_bounds from_bounds cs h).2
  have b1 := Int.le_trans b (sum_bounds to_bounds cs h).2
  clear a b
  unfold C.Soft at s
  unfold fromC at a1
  unfold toC C.sz at b1
  unfold Fit
  rcases s with s | s
  · rw [if_neg (by omega)] at a1; omega
  · rw [if_neg (by omega)] at b1; omega
theorem fit_raw {c : C} (h : c.Raw) : Fit c := by unfold C.Raw at h; unfold Fit; omega

def NormPost (cs : List C) (w : World) (e : Ending) (w' : World) : Prop :=
  Below w.heap.size w w' ∧ ((okB cs = true ∧ ∃ v, e = .returned (.tuple #[v, .int .i64 0]) ∧ Own w' w.heap.size v (normOf cs)) ∨ (okB cs = false ∧ e = .returned (.tuple #[.slice none 0 0, .int .i64 200])))

theorem raw_take {cs : List C} (h : ∀ c ∈ cs, c.Raw) (j : Nat) : ∀ c ∈ cs.take j, c.Raw := fun c hc => h c (List.mem_of_mem_take hc)
theorem normOf_take_succ {cs : List C} {j : Nat} {c : C} (h : cs[j]? = some c) : normOf (cs.take (j + 1)) = addC (normOf (cs.take j)) c := by
  rw [List.take_add_one, h]; exact normOf_snoc _ _

theorem AddPost.below {base : Nat} {v : Value} {out cs : List C} {w w1 : World} {e : Ending} {B : Nat} {w0 : World} (h : AddPost base v out w e w1) (hO : Own w base v cs) (hB : Below B w0 w) (hb : B ≤ base) (hs : B ≤ w.heap.size) : Below B w0 w1 := by
  obtain ⟨v', rfl, _, hg, _⟩ := h
  exact hB.grown hg hs (fun k hk => Nat.le_trans hb (hO.lt hk).1)

end Go.Proofs.Ytdpjkafabjhkiaa
