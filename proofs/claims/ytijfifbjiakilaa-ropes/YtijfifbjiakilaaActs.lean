/-
  A slice of acts that is read as data lies in memory as the walks want it. No condition.
-/
import Derived.Test.YtijfifbjiakilaaChunksW
import Derived.ProofKit
import Derived.OpenShut
import Derived.Deep.Slices
namespace Go.Proofs.Ytijfifbjiakilaa
open Go.ChangeShapes Go.WideShapes Go.ChangeAt Go.RowKit Go.Deep

theorem cells30 : Try.prog.cellsOf 30 = 4 := by kernel_rfl
theorem cells3 : Try.prog.cellsOf 3 = 1 := by kernel_rfl
theorem cells9 : Try.prog.cellsOf 9 = 1 := by kernel_rfl

theorem plain_of_cell {w : World} {a : Addr} {v : Value} (h : w.cell? a = some v) : a.spot = none := by
  unfold World.cell? at h
  split at h
  · cases hs : a.spot with
    | none => rfl
    | some s => simp [hs] at h
  · cases h

section
variable {H : Type} {enc : TypeId × Value → H} {w : World} {base : Nat} {spare : Nat → Bool} {held : Bool}
theorem acts_open {fuel : Nat} {p : Option Addr} {n cap : Nat} {x : DataW H × List MemPlace} (h : DataW.trod enc Try.prog w base spare held fuel 22 [.slice p n cap] = some x) : ActsAt w p n := by
  rcases open_slice Try.underlying22 h with ⟨h0, _⟩ | ⟨a, len, cap', m, k, D, Pl, hcs, _, hl, _, hmm, _, hi⟩
  · intro i hi
    cases h0
    omega
  · cases hcs
    intro i hil
    have hle : ∀ q, q < n → q < m := fun q hq => by rw [hmm]; split <;> omega
    obtain ⟨b, o, sp⟩ := a
    obtain rfl : sp = none := by
      obtain ⟨cs0, hc0, _⟩ := hi 0 (hle 0 (by omega))
      rw [cells30] at hc0
      obtain ⟨_, hcl, hat⟩ := World.cells?_some hc0
      have h0 := hat 0 (by omega)
      rw [List.getElem?_eq_getElem (by omega)] at h0
      rw [Nat.zero_mul] at h0
      exact plain_of_cell h0
    obtain ⟨cs', hc, ht⟩ := hi i (hle i hil)
    rw [cells30] at hc
    obtain ⟨_, hcl, hat⟩ := World.cells?_some hc
    obtain ⟨ys, n', _, _, _, hyl, hf⟩ := DataW.trod_struct Try.underlying30 ht
    match cs', hcl with
    | [c0, c1, c2, c3], _ =>
      have e0 := hat 0 (by omega)
      have e1 := hat 1 (by omega)
      have e2 := hat 2 (by omega)
      have e3 := hat 3 (by omega)
      simp only [add_plain] at e0 e1 e2 e3
      have hyl4 : ys.length = 4 := hyl
      have hy : ∀ j, j < 4 → ∃ y, ys[j]? = some y := fun j hj => ⟨_, List.getElem?_eq_getElem (by omega : j < ys.length)⟩
      obtain ⟨y0, k0⟩ := hy 0 (by omega)
      obtain ⟨y1, k1⟩ := hy 1 (by omega)
      obtain ⟨y2, k2⟩ := hy 2 (by omega)
      obtain ⟨y3, k3⟩ := hy 3 (by omega)
      have g0 := (hf 0 _ rfl).trans k0
      have g1 := (hf 1 _ rfl).trans k1
      have g2 := (hf 2 _ rfl).trans k2
      have g3 := (hf 3 _ rfl).trans k3
      obtain ⟨kd, h0, _⟩ := DataW.trod_int Try.underlying3 g0
      obtain ⟨at', h1, _⟩ := DataW.trod_int Try.underlying3 g1
      obtain ⟨k', h2, _⟩ := DataW.trod_int Try.underlying3 g2
      obtain ⟨s, h3, _⟩ := DataW.trod_string Try.underlying9 g3
      simp [cells3, cells9] at h0 h1 h2 h3
      subst h0; subst h1; subst h2; subst h3
      exact ⟨b, o, kd, at', k', s, rfl, by simpa using e0, by simpa using e1, by simpa using e2, by simpa using e3⟩
end

end Go.Proofs.Ytijfifbjiakilaa
