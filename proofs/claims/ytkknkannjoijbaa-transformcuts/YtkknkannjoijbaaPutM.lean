/-
  What two puts make of a text. No program in it; conditions: as each theorem's premises say.
-/
import Derived.Test.YtkknkannjoijbaaCutM
namespace Go.Proofs.Ytkknkannjoijbaa
open Go.RowKit

/-- The text that both make, behind what they put at the first place. -/
def coreB (f : Bool) (s : ByteArray) (κ μ : Nat → Bool) (π ρ : Nat → ByteArray) : Nat → Nat → ByteArray
  | 0, _ => e0
  | m + 1, z => (if κ z && μ z then s.extract z (z + 1) else e0) ++ specB f s κ μ π ρ m (z + 1)
theorem spec_core (f : Bool) (s : ByteArray) (κ μ : Nat → Bool) (π ρ : Nat → ByteArray) (m z : Nat) : specB f s κ μ π ρ m z = (if f then π z ++ ρ z else ρ z ++ π z) ++ coreB f s κ μ π ρ m z := by
  cases m with
  | zero => simp only [specB, coreB, e0_right]
  | succ m => simp only [specB, coreB]
theorem ext_nat (s : ByteArray) {a b c : Nat} (h1 : a ≤ b) (h2 : b ≤ c) : s.extract a c = s.extract a b ++ s.extract b c := by
  have := ext_add s (a := a) (b := b) (c := c) (by omega) (by omega) (by omega)
  simpa using this
theorem ext_nil (s : ByteArray) (a : Nat) : s.extract a a = e0 := e0_of (by rw [ByteArray.size_extract]; omega)
section
variable {f : Bool} {s : ByteArray} {κ μ : Nat → Bool} {π ρ : Nat → ByteArray}
theorem core_run (hκ : ∀ z, κ z = true) (hμ : ∀ z, μ z = true) (m : Nat) : ∀ (k z : Nat), (∀ i, 0 < i → i ≤ k → π (z + i) = e0 ∧ ρ (z + i) = e0) → coreB f s κ μ π ρ (m + k + 1) z = s.extract z (z + k + 1) ++ specB f s κ μ π ρ m (z + k + 1)
  | 0, z, _ => by simp only [coreB, Nat.add_zero, hκ, hμ, Bool.and_self, if_true]
  | k + 1, z, h => by
    have ih := core_run hκ hμ m k (z + 1) (fun i h0 h1 => by have := h (i + 1) (by omega) (by omega); rwa [show z + (i + 1) = z + 1 + i by omega] at this)
    obtain ⟨h1, h2⟩ := h 1 (by omega) (by omega)
    have e : coreB f s κ μ π ρ (m + (k + 1) + 1) z = s.extract z (z + 1) ++ specB f s κ μ π ρ (m + k + 1) (z + 1) := by
      rw [show m + (k + 1) + 1 = (m + k + 1) + 1 by omega]
      simp only [coreB, hκ, hμ, Bool.and_self, if_true]
    rw [e, spec_core, h1, h2, ih, e0_left]
    have e2 : (if f = true then e0 else e0) = e0 := by split <;> rfl
    rw [e2, e0_left, ← ba_append_assoc, show z + 1 + k + 1 = z + (k + 1) + 1 by omega, ← ext_nat s (by omega) (by omega)]
theorem core_to (hκ : ∀ z, κ z = true) (hμ : ∀ z, μ z = true) {a b n : Nat} (hab : a < b) (hbn : b ≤ n) (h : ∀ i, a < i → i < b → π i = e0 ∧ ρ i = e0) : coreB f s κ μ π ρ (n - a) a = s.extract a b ++ specB f s κ μ π ρ (n - b) b := by
  have := core_run (f := f) (s := s) (π := π) (ρ := ρ) hκ hμ (n - b) (b - a - 1) a (fun i h0 h1 => h (a + i) (by omega) (by omega))
  rwa [show n - b + (b - a - 1) + 1 = n - a by omega, show a + (b - a - 1) + 1 = b by omega] at this
theorem core_end (hκ : ∀ z, κ z = true) (hμ : ∀ z, μ z = true) {a n : Nat} (ha : a ≤ n) (h : ∀ i, a < i → π i = e0 ∧ ρ i = e0) : coreB f s κ μ π ρ (n - a) a = s.extract a n := by
  by_cases e : a = n
  · subst e; rw [Nat.sub_self, ext_nil]; rfl
  · rw [core_to hκ hμ (a := a) (b := n) (n := n) (by omega) (Nat.le_refl _) (fun i h0 _ => h i h0), Nat.sub_self]
    obtain ⟨h1, h2⟩ := h n (by omega)
    simp only [specB, h1, h2, e0_left]
    have e2 : (if f = true then e0 else e0) = e0 := by split <;> rfl
    rw [e2, e0_right]
theorem spec_from (hκ : ∀ z, κ z = true) (hμ : ∀ z, μ z = true) {b n : Nat} (hbn : b ≤ n) (h : ∀ i, i < b → π i = e0 ∧ ρ i = e0) : specB f s κ μ π ρ n 0 = s.extract 0 b ++ specB f s κ μ π ρ (n - b) b := by
  by_cases e : b = 0
  · subst e; rw [ext_nil, e0_left, Nat.sub_zero]
  · obtain ⟨h1, h2⟩ := h 0 (by omega)
    rw [spec_core, h1, h2, e0_left]
    have e2 : (if f = true then e0 else e0) = e0 := by split <;> rfl
    rw [e2, e0_left]
    have := core_to (f := f) (s := s) (π := π) (ρ := ρ) hκ hμ (a := 0) (b := b) (n := n) (by omega) hbn (fun i _ h1 => h i h1)
    rwa [Nat.sub_zero] at this
end
theorem kept_all (x z : Nat) : keptAt x 0 z = true := by simp [keptAt]; omega

theorem two_less (f : Bool) (s A B : ByteArray) {x y : Nat} (h : x < y) (hy : y ≤ s.size) : s.extract 0 x ++ A ++ s.extract x y ++ B ++ s.extract y s.size = specB f s (keptAt x 0) (keptAt y 0) (putAt x A) (putAt y B) s.size 0 := by
  rw [spec_from (b := x) (kept_all x) (kept_all y) (by omega) (fun i hi => ⟨put_off (by omega), put_off (by omega)⟩), spec_core, put_on, put_off (at_ := y) (z := x) (by omega)]
  rw [core_to (b := y) (kept_all x) (kept_all y) h hy (fun i h0 h1 => ⟨put_off (by omega), put_off (by omega)⟩), spec_core, put_on, put_off (at_ := x) (z := y) (by omega)]
  rw [core_end (kept_all x) (kept_all y) hy (fun i h0 => ⟨put_off (by omega), put_off (by omega)⟩)]
  have e1 : (if f = true then A ++ e0 else e0 ++ A) = A := by split <;> simp [e0_left, e0_right]
  have e2 : (if f = true then e0 ++ B else B ++ e0) = B := by split <;> simp [e0_left, e0_right]
  rw [e1, e2]; simp only [ba_append_assoc]
theorem two_more (f : Bool) (s A B : ByteArray) {x y : Nat} (h : y < x) (hx : x ≤ s.size) : s.extract 0 y ++ B ++ s.extract y x ++ A ++ s.extract x s.size = specB f s (keptAt x 0) (keptAt y 0) (putAt x A) (putAt y B) s.size 0 := by
  rw [spec_from (b := y) (kept_all x) (kept_all y) (by omega) (fun i hi => ⟨put_off (by omega), put_off (by omega)⟩), spec_core, put_on, put_off (at_ := x) (z := y) (by omega)]
  rw [core_to (b := x) (kept_all x) (kept_all y) h hx (fun i h0 h1 => ⟨put_off (by omega), put_off (by omega)⟩), spec_core, put_on, put_off (at_ := y) (z := x) (by omega)]
  rw [core_end (kept_all x) (kept_all y) hx (fun i h0 => ⟨put_off (by omega), put_off (by omega)⟩)]
  have e1 : (if f = true then A ++ e0 else e0 ++ A) = A := by split <;> simp [e0_left, e0_right]
  have e2 : (if f = true then e0 ++ B else B ++ e0) = B := by split <;> simp [e0_left, e0_right]
  rw [e1, e2]; simp only [ba_append_assoc]
theorem two_first (s A B : ByteArray) {x : Nat} (hx : x ≤ s.size) : s.extract 0 x ++ A ++ s.extract x x ++ B ++ s.extract x s.size = specB true s (keptAt x 0) (keptAt x 0) (putAt x A) (putAt x B) s.size 0 := by
  rw [spec_from (b := x) (kept_all x) (kept_all x) hx (fun i hi => ⟨put_off (by omega), put_off (by omega)⟩), spec_core, put_on, put_on]
  rw [core_end (kept_all x) (kept_all x) hx (fun i h0 => ⟨put_off (by omega), put_off (by omega)⟩), ext_nil, e0_right]
  simp only [ba_append_assoc, if_true]
theorem two_second (s A B : ByteArray) {x : Nat} (hx : x ≤ s.size) : s.extract 0 x ++ B ++ s.extract x x ++ A ++ s.extract x s.size = specB false s (keptAt x 0) (keptAt x 0) (putAt x A) (putAt x B) s.size 0 := by
  rw [spec_from (b := x) (kept_all x) (kept_all x) hx (fun i hi => ⟨put_off (by omega), put_off (by omega)⟩), spec_core, put_on, put_on]
  rw [core_end (kept_all x) (kept_all x) hx (fun i h0 => ⟨put_off (by omega), put_off (by omega)⟩), ext_nil, e0_right]
  simp [ba_append_assoc]

end Go.Proofs.Ytkknkannjoijbaa
