/-
  The walk of the law ApplyParts. Conditions: as the theorems' premises say.
-/
import Derived.Test.YtdpjkafabjhkiaaAwake
namespace Go.Proofs.Ytdpjkafabjhkiaa
open Go.RowKit

/-- Apply answers a text. -/
def Does (s : ByteArray) (cs : List C) : Prop := MayP cs ∧ sumOf fromC cs = s.size

theorem Does.bounds {s : ByteArray} {cs : List C} (h : Does s cs) : cs.length ≤ 4096 ∧ s.size ≤ 4096 ∧ (appB s 0 cs).size ≤ 4096 ∧ ((appB s 0 cs).size : Int) = sumOf toC cs ∧ (∀ c ∈ cs, c.Raw) := by
  obtain ⟨a1, a2, a3, a4⟩ := okB_iff.1 h.1.1
  have e := appB_size (s := s) (cs := cs) (a := 0) (soft_all a2) (by omega) (by have := h.2; omega)
  have := h.2
  exact ⟨a1, by omega, by omega, e, a2⟩

theorem both_ok {s t : ByteArray} {a b : List C} (ha : Does s a) (hb : Does t b) (h1 : s.size + t.size ≤ 4096) (h2 : (appB s 0 a).size + (appB t 0 b).size ≤ 4096) (h3 : a.length + b.length ≤ 4096) :
    okB (a ++ b) = true ∧ Does (s ++ t) (normOf (a ++ b)) ∧ appB (s ++ t) 0 (normOf (a ++ b)) = appB s 0 a ++ appB t 0 b := by
  obtain ⟨_, _, _, ea, ra⟩ := ha.bounds
  obtain ⟨_, _, _, eb, rb⟩ := hb.bounds
  have fa := ha.2
  have fb := hb.2
  have hr : ∀ c ∈ a ++ b, c.Raw := fun c hc => (List.mem_append.1 hc).elim (ra c) (rb c)
  have hok : okB (a ++ b) = true := okB_iff.2 ⟨by rw [List.length_append]; exact h3, hr, by rw [sumOf_append]; omega, by rw [sumOf_append]; omega⟩
  have hs := soft_all hr
  refine ⟨hok, ⟨⟨okB_normOf hok, norm_normOf hs⟩, ?_⟩, ?_⟩
  · rw [sum_normOf from_join from_zero _ hs, sumOf_append, ba_append_size]; omega
  · rw [appB_normOf (by omega) _ hs, appB_both (soft_all ra) (soft_all rb) fa]

/-- What Normal answers where all is well. -/
theorem rnormal_ok (p : Option Addr) (cs : List C) (L cap : Nat) (hL : cs.length = L) (w : World) (hr : RowC w p cs) (hok : okB cs = true) : Calls Try.prog 39 #[.slice p L cap] w fun e w' => ∃ p' cap' ns, e = .returned (.tuple #[.slice p' ns cap', .int .i64 0]) ∧ Hid (Below w.heap.size w w') ∧ Hid (ns = (normOf cs).length ∧ RowC w' p' (normOf cs)) := by
  subst hL
  refine (rnormal_any p cs cap w hr).mono ?_
  rintro e w' ⟨hb, ⟨-, v, rfl, ho⟩ | ⟨hno, -⟩⟩
  · obtain ⟨p', cap', rfl⟩ := ho.form
    exact ⟨p', cap', _, rfl, Lib.hid hb, Lib.hid ⟨rfl, ho.row⟩⟩
  · rw [hok] at hno; cases hno

section
variable (s t : ByteArray) (p q : Option Addr) (a b : List C) (cap cap2 : Nat) (w : World)

end

end Go.Proofs.Ytdpjkafabjhkiaa
