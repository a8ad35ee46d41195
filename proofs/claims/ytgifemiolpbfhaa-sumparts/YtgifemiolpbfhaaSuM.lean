/-
  The sum that tells a turned byte: of one byte turned, of two texts in a row, of two bytes that change places. No program, no condition.
-/
import Derived.WalkKit
namespace Go.Proofs.Ytgifemiolpbfhaa

/-- The bytes, each times its place and 1, from a place on. -/
def rawS : Nat → List UInt8 → Nat
  | _, [] => 0
  | i, b :: r => (i + 1) * b.toNat + rawS (i + 1) r
def sumS (s : List UInt8) : Nat := rawS 0 s % 1000003
def allS : List UInt8 → Nat
  | [] => 0
  | b :: r => b.toNat + allS r

theorem raw_app : ∀ (s t : List UInt8) (i : Nat), rawS i (s ++ t) = rawS i s + rawS (i + s.length) t
  | [], t, i => by simp [rawS]
  | b :: s, t, i => by
    simp only [List.cons_append, rawS, raw_app s t (i + 1), List.length_cons]
    rw [show i + (s.length + 1) = i + 1 + s.length by omega]; omega
theorem raw_far (k : Nat) : ∀ (t : List UInt8) (i : Nat), rawS (k + i) t = k * allS t + rawS i t
  | [], i => by simp [rawS, allS]
  | b :: t, i => by
    have ih := raw_far k t (i + 1)
    rw [← Nat.add_assoc] at ih
    simp only [rawS, allS, ih, Nat.mul_add, Nat.add_mul, Nat.one_mul]
    omega
theorem sum_parts (s t : List UInt8) : sumS (s ++ t) = (sumS s + sumS t + s.length * allS t) % 1000003 := by
  unfold sumS
  rw [raw_app, Nat.zero_add, show rawS s.length t = s.length * allS t + rawS 0 t from raw_far s.length t 0]
  omega
theorem raw_set : ∀ (s : List UInt8) (j i : Nat) (v : UInt8) (h : i < s.length), rawS j (s.set i v) + (j + i + 1) * s[i].toNat = rawS j s + (j + i + 1) * v.toNat
  | b :: s, j, 0, v, h => by
    simp only [List.set_cons_zero, rawS, List.getElem_cons_zero, Nat.add_zero]
    omega
  | b :: s, j, i + 1, v, h => by
    have ih := raw_set s (j + 1) i v (by simpa using h)
    simp only [List.set_cons_succ, rawS, List.getElem_cons_succ]
    rw [show j + (i + 1) + 1 = j + 1 + i + 1 by omega]
    omega
theorem cop_all : (List.range 256).all (fun d => d == 0 || Nat.gcd 1000003 d == 1) = true := by decide +kernel
theorem cop {d : Nat} (h0 : d ≠ 0) (h : d < 256) : Nat.Coprime 1000003 d := by
  have := List.all_eq_true.1 cop_all d (List.mem_range.2 h)
  simpa [h0] using this
theorem no_div {z w : Int} (h1 : z ≠ 0) (h2 : z.natAbs < 1000003) (h3 : w ≠ 0) (h4 : w.natAbs < 256) : ¬ (1000003 : Int) ∣ z * w := by
  intro h
  have h5 := Int.natAbs_dvd_natAbs.2 h
  rw [Int.natAbs_mul] at h5
  have h6 : (1000003 : Nat) ∣ z.natAbs * w.natAbs := h5
  have h7 := (cop (by omega) h4).dvd_of_dvd_mul_right h6
  have := Nat.le_of_dvd (by omega) h7
  omega
theorem mod_dvd {a b : Nat} {z : Int} (h : a % 1000003 = b % 1000003) (hz : (a : Int) - b = z) : (1000003 : Int) ∣ z := by
  rw [← hz]
  omega
/-- One byte turned. -/
theorem sum_turned {s : List UInt8} {i : Nat} {v : UInt8} (h : i < s.length) (hl : s.length ≤ 1000000) (hv : v ≠ s[i]) : sumS (s.set i v) ≠ sumS s := by
  intro he
  have hr := raw_set s 0 i v h
  rw [Nat.zero_add] at hr
  have hne : (v.toNat : Int) - s[i].toNat ≠ 0 := by
    intro e
    apply hv
    apply UInt8.toNat_inj.1
    omega
  have hb1 := v.toNat_lt
  have hb2 := s[i].toNat_lt
  refine no_div (z := (i : Int) + 1) (w := (v.toNat : Int) - s[i].toNat) (by omega) (by omega) hne (by omega) (mod_dvd he ?_)
  rw [Int.mul_sub]
  have hr' : (rawS 0 (s.set i v) : Int) + ((i : Int) + 1) * s[i].toNat = rawS 0 s + ((i : Int) + 1) * v.toNat := by
    exact_mod_cast hr
  omega
/-- Two bytes change places. -/
theorem sum_places {s : List UInt8} {x y : Nat} (hx : x < s.length) (hy : y < s.length) (hl : s.length ≤ 5000) :
    (sumS ((s.set x s[y]).set y s[x]) = sumS s) ↔ (s[x] = s[y] ∨ x = y) := by
  by_cases hxy : x = y
  · subst hxy
    simp
  by_cases hv : s[x] = s[y]
  · have e1 : s.set x s[y] = s := by rw [← hv]; simp
    rw [e1, hv]
    simp
  · refine ⟨fun he => ?_, fun h => (h.elim hv hxy).elim⟩
    have hx' : x < (s.set x s[y]).length := by simpa using hx
    have hy' : y < (s.set x s[y]).length := by simpa using hy
    have r1 := raw_set s 0 x s[y] hx
    have r2 := raw_set (s.set x s[y]) 0 y s[x] hy'
    rw [List.getElem_set_ne (by omega)] at r2
    rw [Nat.zero_add] at r1 r2
    have hne : (s[y].toNat : Int) - s[x].toNat ≠ 0 := by
      intro e
      apply hv
      apply UInt8.toNat_inj.1
      omega
    have hb1 := s[x].toNat_lt
    have hb2 := s[y].toNat_lt
    have hx0 := hx'
    refine (no_div (z := (x : Int) - y) (w := (s[y].toNat : Int) - s[x].toNat) (by omega) (by omega) hne (by omega) (mod_dvd he ?_)).elim
    have r1' : (rawS 0 (s.set x s[y]) : Int) + ((x : Int) + 1) * s[x].toNat = rawS 0 s + ((x : Int) + 1) * s[y].toNat := by exact_mod_cast r1
    have r2' : (rawS 0 ((s.set x s[y]).set y s[x]) : Int) + ((y : Int) + 1) * s[y].toNat = rawS 0 (s.set x s[y]) + ((y : Int) + 1) * s[x].toNat := by exact_mod_cast r2
    rw [Int.sub_mul, Int.mul_sub, Int.mul_sub]
    rw [Int.add_mul, Int.add_mul] at r1' r2'
    omega

end Go.Proofs.Ytgifemiolpbfhaa
