/-
  The walk of awake: it answers true. No condition.
-/
import Derived.Test.YtmlibmleamiljaaW10
namespace Go.Proofs.Ytmlibmleamiljaa
open Go.RowKit

theorem lit_row (w : World) (cs : List C) (xs : Array Value) (hx : xs = (cellsC cs).toArray) : RowC (w.alloc (.cells xs 38)) (some ⟨w.heap.size, 0, none⟩) cs := by
  intro i c hi
  obtain ⟨h0, h1, h2⟩ := cellsC_get hi
  subst hx
  refine ⟨w.heap.size, 0, rfl, ?_, ?_, ?_⟩ <;> rw [World.cell?_alloc_mark, Nat.zero_add] <;> simpa

def e0 : ByteArray := ⟨#[]⟩
def lit1 : List C := [⟨0, 2, e0⟩, ⟨2, 1, e0⟩, ⟨1, 0, ⟨#[97]⟩⟩, ⟨0, 0, e0⟩, ⟨1, 0, ⟨#[98]⟩⟩, ⟨2, 3, e0⟩]
def lit2 : List C := [⟨0, 2, e0⟩, ⟨1, 0, ⟨#[97, 98]⟩⟩, ⟨2, 4, e0⟩]
theorem lit1_ok : okB lit1 = true := by decide +kernel
theorem lit1_norm : normOf lit1 = lit2 := by kernel_rfl
theorem lit2_may : MayP lit2 := by
  rw [← lit1_norm]
  exact ⟨okB_normOf lit1_ok, norm_normOf (soft_all (okB_iff.1 lit1_ok).2.1)⟩
theorem lit3_may : ¬ MayP [⟨0, 0, e0⟩] := fun h => (h.2 0 _ rfl).1 rfl
theorem lit4_no : okB [⟨0, -1, e0⟩] = false := by decide +kernel
theorem lit5_may : ¬ MayP [⟨0, 1, e0⟩, ⟨0, 1, e0⟩] := fun h => ((h.2 1 _ rfl).2 _ (by omega) rfl).1 rfl
theorem lit0_may : MayP [] := ⟨by decide, fun i c h => by simp at h⟩
theorem nil_row (w : World) : RowC w none [] := fun i c h => by simp at h

end Go.Proofs.Ytmlibmleamiljaa
