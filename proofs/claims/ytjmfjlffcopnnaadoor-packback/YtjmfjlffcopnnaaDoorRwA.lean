/-
  RdU and Rch, in one text. Conditions: as each theorem's premises say.
-/
import Derived.Test.YtjmfjlffcopnnaaDoorMpA
namespace Go.Proofs.YtjmfjlffcopnnaaDoor
open Go.RowKit

theorem ints_at {w : World} {p : Option Addr} {l : List Int} (h : lyI.Row w p l) {i : Nat} {x : Int} (hx : l[i]? = some x) : ∃ b o, p = some ⟨b, o, none⟩ ∧ w.cell? ⟨b, o + i, none⟩ = some (.int .i64 x) := by
  obtain ⟨b, o, hp, hat⟩ := h i x hx
  have := hat 0 _ rfl
  exact ⟨b, o, hp, by simpa [lyI] using this⟩

theorem sum_take_succ {l : List Int} {g : Int → Nat} {j : Nat} {c : Int} (h : l[j]? = some c) : ((l.take (j + 1)).map g).sum = ((l.take j).map g).sum + g c := by
  rw [List.take_add_one, h]; simp
theorem sum_take_le (l : List Int) (g : Int → Nat) (j : Nat) : ((l.take j).map g).sum ≤ (l.map g).sum := by
  conv => rhs; rw [← List.take_append_drop j l, List.map_append, List.sum_append]
  omega
theorem reach_some {ns : List Nd} {f : Nat} {x : Nd} (h : getN ns x.id = some x) : reachN ns (f + 1) x.id = 1 + (x.kids.map (reachN ns f)).sum := by
  show (match getN ns x.id with | none => 0 | some x => 1 + (x.kids.map (reachN ns f)).sum) = _
  rw [h]

end Go.Proofs.YtjmfjlffcopnnaaDoor
