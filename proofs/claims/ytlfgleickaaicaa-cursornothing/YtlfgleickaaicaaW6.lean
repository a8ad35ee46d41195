/-
  The walk of add, a put behind a cut; add at whatever pieces. Conditions: as the theorems' premises say.
-/
import Derived.Test.YtlfgleickaaicaaW5
import Derived.Deep.RegionHeld3
namespace Go.Proofs.Ytlfgleickaaicaa
open Go.RowKit

theorem cell_far' {w5 W w6 : World} {g : Nat} {a : Addr} {u : Value} (hB : Below w5.heap.size w5 W) (hg : W.grownBy w6 (some g)) (h : w5.cell? a = some u) (hne : a.block ≠ g) : w6.cell? a = some u :=
  (hg.cell_far a (Nat.lt_of_lt_of_le (World.block_lt_of_cell? w5 a h) hB.size) (by simpa using hne)).trans (cell_later hB h)

theorem news_far {w5 w6 : World} {g : Nat} (c : C) (hg : ((w5.alloc (.cells #[.int .i64 c.k, .int .i64 c.n, .string c.t] 40)).drew).grownBy w6 (some g)) (hne : w5.heap.size ≠ g) : ∀ j u, (C.cells c)[j]? = some u → w6.cell? ((⟨w5.heap.size, 0, none⟩ : Addr).add j) = some u := fun j u hu => by
  have h := three_new (w := w5) rfl c j u hu
  rw [add_plain] at h ⊢
  exact (hg.cell_far _ (by simp) (by simpa using hne)).trans h

theorem AddPost.of_behind {base g n cap n' g3 cap3 : Nat} {v2 : Value} {out : List C} {l : C} {w W w6 W6 w7 : World} (hB : Below w.heap.size w W) (h1 : W.grownBy w6 (some g)) (h2 : ∀ h, v2.ownBlock = some h → some g = some h ∨ W.heap.size ≤ h) (hB6 : Below w6.heap.size w6 W6) (hg : W6.grownBy w7 v2.ownBlock) (hgg : v2.ownBlock = some g3 ∨ w6.heap.size ≤ g3)
    (hn : n' = out.length + 1) (ho : w7.ownsRow base 40 3 (.slice (some ⟨g3, 0, none⟩) n' cap3) n' (cellsC out ++ C.cells l)) :
    AddPost base (.slice (some ⟨g, 0, none⟩) n cap) (out ++ [l]) w (.returned (.slice (some ⟨g3, 0, none⟩) n' cap3)) w7 := by
  have s1 := hB.size
  have s2 := h1.size
  refine ⟨_, rfl, ?_, ?_, ?_⟩
  · unfold Own
    rw [List.length_append, List.length_singleton, ← hn, cellsC_append]
    have : cellsC [l] = C.cells l := by simp [cellsC]
    rw [this]; exact ho
  · refine grown_trans (grown_trans (grown_trans (grown_of_below hB _) h1 (fun g h => .inl h)) (grown_of_below hB6 none) (fun g h => by cases h)) hg (fun h e => ?_)
    rcases h2 h e with h | h
    · exact .inl h
    · right; omega
  · intro g' h
    simp only [Value.ownBlock, Option.some.injEq] at h ⊢
    subst h
    rcases hgg with h | h
    · rcases h2 _ h with h | h
      · left; simpa using h
      · right; omega
    · right; omega

theorem addR_bound (c : C) (r : List C) (h : r.length ≤ 8192) : (addR r c).length ≤ 8193 := by
  have := addR_length c r
  omega

end Go.Proofs.Ytlfgleickaaicaa
