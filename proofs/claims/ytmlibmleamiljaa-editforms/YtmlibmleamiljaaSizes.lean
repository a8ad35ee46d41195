/-
  The walk of CompSizes: it answers true. Conditions: the pieces lie in memory.
-/
import Derived.Test.YtmlibmleamiljaaW11
namespace Go.Proofs.Ytmlibmleamiljaa
open Go.RowKit

theorem place_mod (a : Int) (n : Nat) (hn : n ≤ 4096) : ∃ q : Nat, wrap64 ((IntKind.u64.wrap a).tmod ((n : Int) + 1)) = (q : Int) ∧ q ≤ n := by
  have h0 : 0 ≤ IntKind.u64.wrap a := by
    unfold IntKind.wrap
    simp only [IntKind.signed, Bool.false_and]
    exact Int.emod_nonneg _ (by decide)
  have h1 : 0 ≤ (IntKind.u64.wrap a).tmod ((n : Int) + 1) := Int.tmod_nonneg _ h0
  have h2 : (IntKind.u64.wrap a).tmod ((n : Int) + 1) < (n : Int) + 1 := Int.tmod_lt_of_pos _ (by omega)
  refine ⟨((IntKind.u64.wrap a).tmod ((n : Int) + 1)).toNat, ?_, by omega⟩
  rw [IntWalk.wrap64_in _ (by omega)]
  omega

theorem RowC.take {w : World} {p : Option Addr} {cs : List C} (h : RowC w p cs) (k : Nat) : RowC w p (cs.take k) := fun i c hi => h i c (by
  rw [List.getElem?_take] at hi
  split at hi
  · exact hi
  · cases hi)
theorem RowC.drop {w : World} {b o : Nat} {cs : List C} (h : RowC w (some ⟨b, o, none⟩) cs) (k : Nat) : RowC w (some ⟨b, o + k * 3, none⟩) (cs.drop k) := fun i c hi => by
  rw [List.getElem?_drop] at hi
  obtain ⟨b', o', hp, hc⟩ := h _ c hi
  cases hp
  exact ⟨b, o + k * 3, rfl, by rw [show o + k * 3 + i * 3 = o + (k + i) * 3 by omega]; exact hc⟩

theorem may_parts {cs : List C} (h : MayP cs) (k : Nat) : MayP (cs.take k) ∧ MayP (cs.drop k) := by
  obtain ⟨hok, hn⟩ := h
  obtain ⟨h1, h2, h3, h4⟩ := okB_iff.1 hok
  have hs := soft_all h2
  have e1 := sumOf_append fromC (cs.take k) (cs.drop k)
  have e2 := sumOf_append toC (cs.take k) (cs.drop k)
  rw [List.take_append_drop] at e1 e2
  have a1 := sumOf_nonneg (f := fromC) (cs := cs.take k) fun c hc => from_nonneg (hs c (List.mem_of_mem_take hc))
  have a2 := sumOf_nonneg (f := fromC) (cs := cs.drop k) fun c hc => from_nonneg (hs c (List.mem_of_mem_drop hc))
  have a3 := sumOf_nonneg (f := toC) (cs := cs.take k) fun c hc => to_nonneg (hs c (List.mem_of_mem_take hc))
  have a4 := sumOf_nonneg (f := toC) (cs := cs.drop k) fun c hc => to_nonneg (hs c (List.mem_of_mem_drop hc))
  refine ⟨⟨okB_iff.2 ⟨by rw [List.length_take]; omega, fun c hc => h2 c (List.mem_of_mem_take hc), by omega, by omega⟩, fun i c hi => ?_⟩, ⟨okB_iff.2 ⟨by rw [List.length_drop]; omega, fun c hc => h2 c (List.mem_of_mem_drop hc), by omega, by omega⟩, fun i c hi => ?_⟩⟩
  · have hik := (List.getElem?_eq_some_iff.1 hi).1
    rw [List.length_take] at hik
    rw [List.getElem?_take_of_lt (by omega)] at hi
    obtain ⟨g1, g2⟩ := hn i c hi
    exact ⟨g1, fun l h0 hl => g2 l h0 (by rwa [List.getElem?_take_of_lt (by omega)] at hl)⟩
  · rw [List.getElem?_drop] at hi
    obtain ⟨g1, g2⟩ := hn _ c hi
    refine ⟨g1, fun l h0 hl => g2 l (fun h => h0 (by omega)) ?_⟩
    have h0' : ¬ i = 0 := h0
    rw [List.getElem?_drop] at hl
    rwa [show k + i - 1 = k + (i - 1) by omega]

theorem ret_bool {b : Bool} (h : b = true) : Ending.returned (.bool b) = .returned (.bool true) := by rw [h]

end Go.Proofs.Ytmlibmleamiljaa
