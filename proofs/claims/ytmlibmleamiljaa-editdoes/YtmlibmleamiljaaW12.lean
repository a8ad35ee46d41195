/-
  The walks of CopyComps, LendComps, KeptComps, SpoilComps. Conditions: as the theorems' premises say.
-/
import Derived.Test.YtmlibmleamiljaaSizes
import Derived.Laws.OwnMore
namespace Go.Proofs.Ytmlibmleamiljaa
open Go.RowKit

theorem cellsC_inv {cs : List C} {j : Nat} {u : Value} (h : (cellsC cs)[j]? = some u) : ∃ c, cs[j / 3]? = some c ∧ (C.cells c)[j % 3]? = some u := by
  have hj := (List.getElem?_eq_some_iff.1 h).1
  rw [cellsC_length] at hj
  have hi : j / 3 < cs.length := by omega
  have hc := List.getElem?_eq_getElem hi
  refine ⟨_, hc, ?_⟩
  obtain ⟨h0, h1, h2⟩ := cellsC_get hc
  have hjj : j = j / 3 * 3 + j % 3 := by omega
  have hm : j % 3 = 0 ∨ j % 3 = 1 ∨ j % 3 = 2 := by omega
  rcases hm with hm | hm | hm
  · rw [hm] at hjj ⊢; rw [hjj, Nat.add_zero, h0] at h; exact h
  · rw [hm] at hjj ⊢; rw [hjj, h1] at h; exact h
  · rw [hm] at hjj ⊢; rw [hjj, h2] at h; exact h

theorem RowC.news {w : World} {b o : Nat} {cs : List C} (h : RowC w (some ⟨b, o, none⟩) cs) : ∀ j u, (cellsC cs)[j]? = some u → w.cell? ((⟨b, o, none⟩ : Addr).add j) = some u := by
  intro j u hu
  obtain ⟨c, hc, hcu⟩ := cellsC_inv hu
  obtain ⟨b', o', hp, h0, h1, h2⟩ := h _ c hc
  cases hp
  rw [add_plain]
  have hjj : j = j / 3 * 3 + j % 3 := by omega
  have hm : j % 3 = 0 ∨ j % 3 = 1 ∨ j % 3 = 2 := by omega
  rcases hm with hm | hm | hm <;> rw [hm] at hcu hjj <;> rw [hjj] <;> simp only [C.cells, List.getElem?_cons_zero, List.getElem?_cons_succ, Option.some.injEq] at hcu <;> subst hcu
  · simpa using h0
  · rw [← Nat.add_assoc]; exact h1
  · rw [← Nat.add_assoc]; exact h2

/-- What copying answers. -/
def CopyPost (cs : List C) (w : World) (e : Ending) (w' : World) : Prop :=
  ∃ v, e = .returned v ∧ Own w' w.heap.size v cs ∧ v ≠ .slice none 0 0 ∧ Below w.heap.size w w'

def mk : C := ⟨0, 77777, e0⟩

def LendPost (cs : List C) (w : World) (e : Ending) (w' : World) : Prop :=
  ∃ g cap, e = .returned (.slice (some ⟨g, 0, none⟩) cs.length cap) ∧ Own w' w.heap.size (.slice (some ⟨g, 0, none⟩) (cs.length + 2) cap) (cs ++ [mk, mk]) ∧ cs.length + 2 ≤ cap ∧ Below w.heap.size w w'

/-- They stand as they were lent. -/
def Lent (w : World) (g : Nat) (cs : List C) : Prop := RowC w (some ⟨g, 0, none⟩) (cs ++ [mk, mk])

theorem Lent.row {w : World} {g : Nat} {cs : List C} (h : Lent w g cs) : RowC w (some ⟨g, 0, none⟩) cs := by
  have := RowC.take h cs.length
  rwa [List.take_left] at this
theorem Lent.below {w w' : World} {g : Nat} {cs : List C} (h : Lent w g cs) (hb : Below w.heap.size w w') : Lent w' g cs := RowC.below h hb

def Mid (xs : List Value) (n : Nat) : Prop := ∀ i, i < n → ∃ z, xs[i * 3 + 1]? = some (.int .i64 z)
theorem Mid.set {xs : List Value} {n : Nat} (h : Mid xs n) (k : Nat) (z : Int) : Mid (xs.set k (.int .i64 z)) n := fun i hi => by
  obtain ⟨y, hy⟩ := h i hi
  rw [List.getElem?_set]
  split
  · rename_i e
    rw [if_pos (by rw [e]; exact (List.getElem?_eq_some_iff.1 hy).1)]
    exact ⟨z, rfl⟩
  · exact ⟨y, hy⟩
theorem Mid.of_cells (cs : List C) : Mid (cellsC cs) cs.length := fun _ hi => ⟨_, (cellsC_get (List.getElem?_eq_getElem hi)).2.1⟩

end Go.Proofs.Ytmlibmleamiljaa
