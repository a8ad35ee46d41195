/-
  Lx1, Lx2, Lx3, in one text. Conditions: as each theorem's premises say.
-/
import Derived.Test.YtjmfjlffcopnnaaDoorProg
import Derived.Test.YtjmfjlffcopnnaaDoorMaA
import Derived.WalkKit
import Derived.WalkSpells
import Derived.WalkLawsBesides
import Derived.BigQuiet
import Derived.Lib.Hide
import Derived.IntWalk
import Derived.Deep.CutBlock
import Derived.Deep.DeepCutAuto
namespace Go.Proofs.YtjmfjlffcopnnaaDoor
open Go.RowKit

theorem byteB (c : UInt8) : (0 : Int) ≤ (c.toNat : Int) ∧ (c.toNat : Int) ≤ 255 := by have := c.toNat_lt; omega
theorem retB {a b : Bool} (h : a = b) : Ending.returned (.bool a) = .returned (.bool b) := by rw [h]
theorem retI {k : IntKind} {a b : Int} (h : a = b) : Ending.returned (.int k a) = .returned (.int k b) := by rw [h]

/-- The bytes of a text from a place on. -/
def fromL (s : ByteArray) (i : Nat) : List UInt8 := s.data.toList.drop i
theorem from_cons {s : ByteArray} {i : Nat} (h : i < s.size) : fromL s i = s[i] :: fromL s (i + 1) := by
  unfold fromL
  rw [List.drop_eq_getElem_cons (by simpa using h)]
  rfl
theorem from_nil {s : ByteArray} {i : Nat} (h : s.size ≤ i) : fromL s i = [] := by
  unfold fromL
  exact List.drop_eq_nil_of_le (by simpa using h)
theorem from_len (s : ByteArray) (i : Nat) : (fromL s i).length = s.size - i := by simp [fromL]
theorem run_cons (p : UInt8 → Bool) (c : UInt8) (r : List UInt8) : runL p (c :: r) = if p c then 1 + runL p r else 0 := by
  unfold runL
  cases h : p c
  · rw [List.takeWhile_cons_of_neg (by simp [h])]; rfl
  · rw [List.takeWhile_cons_of_pos h, List.length_cons, Nat.add_comm]; rfl
theorem run_from {p : UInt8 → Bool} {s : ByteArray} {i : Nat} (h : i < s.size) : runL p (fromL s i) = if p s[i] then 1 + runL p (fromL s (i + 1)) else 0 := by
  rw [from_cons h, run_cons]
theorem run_fromN {p : UInt8 → Bool} {s : ByteArray} {i : Nat} (h : s.size ≤ i) : runL p (fromL s i) = 0 := by rw [from_nil h]; rfl

theorem from_drop (s : ByteArray) (a b : Nat) : (fromL s a).drop b = fromL s (a + b) := by unfold fromL; rw [List.drop_drop]
theorem byte_eq {a : UInt8} {n : Nat} : (a.toNat == n) = decide ((a.toNat : Int) = n) := by
  rw [Bool.eq_iff_iff]; simp; omega
def sgnL : List UInt8 → Nat
  | c :: _ => if c.toNat == 45 then 1 else 0
  | [] => 0
theorem num_eq (l : List UInt8) : numL l = if wholeL (l.drop (sgnL l)) = 0 then 0 else
    (sgnL l + wholeL (l.drop (sgnL l)) + fracL (l.drop (sgnL l + wholeL (l.drop (sgnL l))))) + expL (l.drop (sgnL l + wholeL (l.drop (sgnL l)) + fracL (l.drop (sgnL l + wholeL (l.drop (sgnL l)))))) := by
  cases l <;> rfl
/-- Behind the sign; behind the whole number; behind the fraction; behind the exponent. -/
def nP0 (s : ByteArray) (p : Nat) : Nat := p + sgnL (fromL s p)
def nP1 (s : ByteArray) (p : Nat) : Nat := p + wholeL (fromL s p)
def nP2 (s : ByteArray) (p : Nat) : Nat := p + fracL (fromL s p)
def nP3 (s : ByteArray) (p : Nat) : Nat := p + expL (fromL s p)
theorem num_from (s : ByteArray) (p : Nat) : p + numL (fromL s p) = if wholeL (fromL s (nP0 s p)) = 0 then p else nP3 s (nP2 s (nP1 s (nP0 s p))) := by
  rw [num_eq]
  unfold nP0
  generalize sgnL (fromL s p) = g
  simp only [from_drop, nP1, nP2, nP3]
  split
  · rfl
  · simp only [Nat.add_assoc]
theorem whole_from {s : ByteArray} {p : Nat} (h : p < s.size) : wholeL (fromL s p) = if digB s[p] then (if s[p].toNat == 48 then 1 else runL digB (fromL s p)) else 0 := by
  rw [from_cons h]; rfl
theorem whole_fromN {s : ByteArray} {p : Nat} (h : s.size ≤ p) : wholeL (fromL s p) = 0 := by rw [from_nil h]; rfl
theorem whole_pos {s : ByteArray} {p : Nat} (h : p < s.size) (hd : digB s[p] = true) : wholeL (fromL s p) ≠ 0 := by
  rw [whole_from h, hd]
  simp only [if_true]
  split
  · omega
  · rw [run_from h, hd]; simp
theorem frac_from {s : ByteArray} {p : Nat} (h : p + 1 < s.size) : fracL (fromL s p) = if s[p].toNat == 46 && digB s[p + 1] then 1 + runL digB (fromL s (p + 1)) else 0 := by
  rw [from_cons (by omega : p < s.size), from_cons h]; rfl
theorem frac_fromN {s : ByteArray} {p : Nat} (h : s.size ≤ p + 1) : fracL (fromL s p) = 0 := by
  by_cases h1 : p < s.size
  · rw [from_cons h1, from_nil h]; rfl
  · rw [from_nil (by omega)]; rfl
/-- Behind the sign of the exponent, if there is one at the place. -/
def nK (s : ByteArray) (k : Nat) : Nat := k + (match fromL s k with | c :: _ => if c.toNat == 43 || c.toNat == 45 then 1 else 0 | [] => 0)
theorem pow_from (s : ByteArray) (k : Nat) : powL (fromL s k) = if runL digB (fromL s (nK s k)) = 0 then 0 else nK s k + runL digB (fromL s (nK s k)) - k := by
  by_cases h : k < s.size
  · unfold nK
    rw [from_cons h]
    unfold powL
    dsimp only
    split
    · split
      · rfl
      · omega
    · simp only [Nat.add_zero, ← from_cons h]
      split
      · omega
      · omega
  · unfold nK
    rw [from_nil (by omega)]
    dsimp only
    rw [Nat.add_zero, from_nil (by omega)]
    rfl
theorem exp_from {s : ByteArray} {p : Nat} (h : p < s.size) : nP3 s p = if s[p].toNat == 101 || s[p].toNat == 69 then (if runL digB (fromL s (nK s (p + 1))) = 0 then p else nK s (p + 1) + runL digB (fromL s (nK s (p + 1)))) else p := by
  have hk : p + 1 ≤ nK s (p + 1) := by unfold nK; omega
  unfold nP3
  rw [from_cons h]
  unfold expL
  dsimp only
  split
  · rw [pow_from]
    split
    · rw [if_pos rfl]; rfl
    · rw [if_neg (by omega)]; omega
  · rfl
theorem exp_fromN {s : ByteArray} {p : Nat} (h : s.size ≤ p) : nP3 s p = p := by unfold nP3; rw [from_nil h]; rfl
theorem run_zero {s : ByteArray} {p : Nat} : runL digB (fromL s p) = 0 ↔ ∀ h : p < s.size, digB s[p] = false := by
  constructor
  · intro h hp
    rw [run_from hp] at h
    cases hd : digB s[p]
    · rfl
    · rw [hd] at h; simp at h
  · intro h
    by_cases hp : p < s.size
    · rw [run_from hp, h hp]; rfl
    · exact run_fromN (by omega)
theorem run_end (p : UInt8 → Bool) (s : ByteArray) (i : Nat) (h : i ≤ s.size) : i + runL p (fromL s i) ≤ s.size := by
  have := run_le p (fromL s i)
  rw [from_len] at this
  omega
theorem nP0_from {s : ByteArray} {p : Nat} (h : p < s.size) : nP0 s p = if s[p].toNat == 45 then p + 1 else p := by
  unfold nP0
  rw [from_cons h]
  show p + (if s[p].toNat == 45 then 1 else 0) = _
  split <;> rfl
theorem nK_from {s : ByteArray} {p : Nat} (h : p < s.size) : nK s p = if s[p].toNat == 43 || s[p].toNat == 45 then p + 1 else p := by
  unfold nK
  rw [from_cons h]
  dsimp only
  split <;> rfl
theorem nK_fromN {s : ByteArray} {p : Nat} (h : s.size ≤ p) : nK s p = p := by unfold nK; rw [from_nil h]; rfl

def fracB (s : ByteArray) (q : Nat) : Bool := if h : q + 1 < s.size then s[q].toNat == 46 && digB s[q + 1] else false
def expB (s : ByteArray) (q : Nat) : Bool := if h : q < s.size then s[q].toNat == 101 || s[q].toNat == 69 else false
def sgB (s : ByteArray) (q : Nat) : Bool := if h : q < s.size then s[q].toNat == 43 || s[q].toNat == 45 else false
def digAt (s : ByteArray) (q : Nat) : Bool := if h : q < s.size then digB s[q] else false
theorem nP2_is (s : ByteArray) (q : Nat) : nP2 s q = if fracB s q then q + 1 + runL digB (fromL s (q + 1)) else q := by
  unfold nP2 fracB
  by_cases h : q + 1 < s.size
  · rw [frac_from h, dif_pos h]
    split
    · omega
    · rfl
  · rw [frac_fromN (by omega), dif_neg h]; rfl
theorem nK_is (s : ByteArray) (q : Nat) : nK s q = if sgB s q then q + 1 else q := by
  unfold sgB
  by_cases h : q < s.size
  · rw [nK_from h, dif_pos h]
  · rw [nK_fromN (by omega), dif_neg h]; rfl
theorem run_zeroB (s : ByteArray) (q : Nat) : runL digB (fromL s q) = 0 ↔ digAt s q = false := by
  rw [run_zero]
  unfold digAt
  by_cases h : q < s.size
  · rw [dif_pos h]; exact ⟨fun g => g h, fun g _ => g⟩
  · rw [dif_neg h]; exact ⟨fun _ => rfl, fun _ g => absurd g h⟩
theorem nP3_is (s : ByteArray) (q : Nat) : nP3 s q = if expB s q then (if digAt s (nK s (q + 1)) then nK s (q + 1) + runL digB (fromL s (nK s (q + 1))) else q) else q := by
  unfold expB
  by_cases h : q < s.size
  · rw [exp_from h, dif_pos h]
    split
    · cases hd : digAt s (nK s (q + 1))
      · rw [if_pos ((run_zeroB s _).2 hd)]; rfl
      · rw [if_neg (fun h => by rw [run_zeroB, hd] at h; cases h)]; rfl
    · rfl
  · rw [exp_fromN (by omega), dif_neg h]; rfl
theorem digAt_lt {s : ByteArray} {q : Nat} (h : digAt s q = true) : q < s.size := by
  unfold digAt at h
  split at h
  · assumption
  · cases h
theorem fracB_lt {s : ByteArray} {q : Nat} (h : fracB s q = true) : q + 1 < s.size := by
  unfold fracB at h
  split at h
  · assumption
  · cases h
theorem expB_lt {s : ByteArray} {q : Nat} (h : expB s q = true) : q < s.size := by
  unfold expB at h
  split at h
  · assumption
  · cases h
theorem sgB_lt {s : ByteArray} {q : Nat} (h : sgB s q = true) : q < s.size := by
  unfold sgB at h
  split at h
  · assumption
  · cases h

theorem quo_nil : quoL [] = (0, false) := rfl
theorem quo_one (c : UInt8) : quoL [c] = if c.toNat == 10 then (0, false) else if c.toNat == 34 then (1, true) else (1, false) := rfl
theorem quo_two (c x : UInt8) (q : List UInt8) : quoL (c :: x :: q) = if c.toNat == 10 then (0, false) else if c.toNat == 34 then (1, true) else
    if c.toNat == 92 && !(x.toNat == 10) then (2 + (quoL q).1, (quoL q).2) else (1 + (quoL (x :: q)).1, (quoL (x :: q)).2) := by
  rw [quoL.eq_def]
/-- From a place on: where the text ends; does it? -/
def qE (s : ByteArray) (i : Nat) : Nat × Bool := (i + (quoL (fromL s i)).1, (quoL (fromL s i)).2)
theorem qE_end {s : ByteArray} {i : Nat} (h : s.size ≤ i) : qE s i = (i, false) := by unfold qE; rw [from_nil h]; rfl
theorem qE_line {s : ByteArray} {i : Nat} (h : i < s.size) (h1 : (s[i].toNat == 10) = true) : qE s i = (i, false) := by
  unfold qE
  by_cases h2 : i + 1 < s.size
  · rw [from_cons h, from_cons h2, quo_two, if_pos h1]; rfl
  · rw [from_cons h, from_nil (by omega), quo_one, if_pos h1]; rfl
theorem qE_quote {s : ByteArray} {i : Nat} (h : i < s.size) (h1 : (s[i].toNat == 10) = false) (h3 : (s[i].toNat == 34) = true) : qE s i = (i + 1, true) := by
  unfold qE
  by_cases h2 : i + 1 < s.size
  · rw [from_cons h, from_cons h2, quo_two, if_neg (by simp [h1]), if_pos h3]
  · rw [from_cons h, from_nil (by omega), quo_one, if_neg (by simp [h1]), if_pos h3]
theorem qE_back {s : ByteArray} {i : Nat} (h : i + 1 < s.size) (h1 : (s[i].toNat == 10) = false) (h3 : (s[i].toNat == 34) = false) (h4 : (s[i].toNat == 92) = true) (h5 : (s[i + 1].toNat == 10) = false) : qE s i = qE s (i + 2) := by
  unfold qE
  rw [from_cons (by omega : i < s.size), from_cons h, quo_two, if_neg (by simp [h1]), if_neg (by simp [h3]), if_pos (by simp [h4, h5])]
  dsimp only
  rw [show i + 1 + 1 = i + 2 from rfl]
  congr 1; omega
theorem qE_step {s : ByteArray} {i : Nat} (h : i < s.size) (h1 : (s[i].toNat == 10) = false) (h3 : (s[i].toNat == 34) = false) (h4 : ∀ g : i + 1 < s.size, (s[i].toNat == 92) = true → (s[i + 1].toNat == 10) = true) : qE s i = qE s (i + 1) := by
  unfold qE
  by_cases h2 : i + 1 < s.size
  · have h5 := h4 h2
    rw [from_cons h, from_cons h2, quo_two, if_neg (by simp [h1]), if_neg (by simp [h3]), if_neg (by
      intro h
      simp only [Bool.and_eq_true, Bool.not_eq_true'] at h
      rw [h5 h.1] at h
      cases h.2)]
    dsimp only
    congr 1; omega
  · rw [from_cons h, from_nil (by omega), quo_one, if_neg (by simp [h1]), if_neg (by simp [h3])]; rfl
theorem retIB {k : IntKind} {a b : Int} {x y : Bool} (h : a = b) (g : x = y) : Ending.returned (.tuple #[.int k a, .bool x]) = .returned (.tuple #[.int k b, .bool y]) := by rw [h, g]

/-- From a place on: behind the next star and slash; is there one? -/
def stE (s : ByteArray) (i : Nat) : Nat × Bool := (i + (starL (fromL s i)).1, (starL (fromL s i)).2)
theorem stE_end {s : ByteArray} {i : Nat} (h : s.size ≤ i + 1) (hi : i ≤ s.size) : stE s i = (s.size, false) := by
  unfold stE
  by_cases h1 : i < s.size
  · rw [from_cons h1, from_nil (by omega)]
    show (i + 1, false) = _
    rw [show i + 1 = s.size by omega]
  · rw [from_nil (by omega)]
    show (i, false) = _
    rw [show i = s.size by omega]
theorem stE_hit {s : ByteArray} {i : Nat} (h : i + 1 < s.size) (h1 : (s[i].toNat == 42) = true) (h2 : (s[i + 1].toNat == 47) = true) : stE s i = (i + 2, true) := by
  unfold stE
  rw [from_cons (by omega : i < s.size), from_cons h]
  unfold starL
  rw [if_pos (by simp [h1, h2])]
theorem stE_step {s : ByteArray} {i : Nat} (h : i + 1 < s.size) (h1 : (s[i].toNat == 42 && s[i + 1].toNat == 47) = false) : stE s i = stE s (i + 1) := by
  unfold stE
  rw [from_cons (by omega : i < s.size), from_cons h]
  conv => lhs; unfold starL
  rw [if_neg (by simp [h1])]
  dsimp only
  congr 1; omega
/-- From the slash on: where the remark ends; is it one? -/
def reE (s : ByteArray) (i : Nat) : Nat × Bool := (i + 1 + (remL (fromL s (i + 1))).1, (remL (fromL s (i + 1))).2)
theorem rem_cons (c : UInt8) (r : List UInt8) : remL (c :: r) = if c.toNat == 47 then (runL (fun b => !(b.toNat == 10)) (c :: r), true) else if c.toNat == 42 then (1 + (starL r).1, (starL r).2) else (0, false) := rfl
theorem reE_line {s : ByteArray} {i : Nat} (h : i + 1 < s.size) (h1 : (s[i + 1].toNat == 47) = true) : reE s i = (i + 1 + runL (fun b => !(b.toNat == 10)) (fromL s (i + 1)), true) := by
  unfold reE
  rw [from_cons h, rem_cons, if_pos h1]
theorem reE_star {s : ByteArray} {i : Nat} (h : i + 1 < s.size) (h0 : (s[i + 1].toNat == 47) = false) (h1 : (s[i + 1].toNat == 42) = true) : reE s i = stE s (i + 2) := by
  unfold reE stE
  rw [from_cons h, rem_cons, if_neg (by simp [h0]), if_pos h1]
  rw [show i + 1 + 1 = i + 2 from rfl]
  dsimp only
  congr 1; omega
theorem reE_else {s : ByteArray} {i : Nat} (h1 : ∀ g : i + 1 < s.size, (s[i + 1].toNat == 47) = false ∧ (s[i + 1].toNat == 42) = false) : reE s i = (i + 1, false) := by
  unfold reE
  by_cases h : i + 1 < s.size
  · obtain ⟨a, b⟩ := h1 h
    rw [from_cons h, rem_cons, if_neg (by simp [a]), if_neg (by simp [b])]; rfl
  · rw [from_nil (by omega)]; rfl

end Go.Proofs.YtjmfjlffcopnnaaDoor
