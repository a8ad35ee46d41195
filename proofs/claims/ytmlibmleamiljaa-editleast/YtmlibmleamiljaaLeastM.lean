/-
  The pieces of an edit of four pieces in normal form, one by one; plain facts. No program, no condition.
-/
import Derived.Test.YtmlibmleamiljaaEdM
namespace Go.Proofs.Ytmlibmleamiljaa
open Go.RowKit

def kpN (n : Nat) : List C := if n = 0 then [] else [⟨0, n, e0⟩]
def ptN (p : ByteArray) : List C := if p.size = 0 then [] else [⟨1, 0, p⟩]
def ctN (n : Nat) : List C := if n = 0 then [] else [⟨2, n, e0⟩]
theorem e0_e0 : e0 ++ e0 = e0 := e0_left e0
theorem normOf_ed (a c b : Nat) (put : ByteArray) : normOf (edL a put c b) = if put.size = 0 ∧ c = 0 then kpN (a + b) else kpN a ++ (ptN put ++ (ctN c ++ kpN b)) := by
  by_cases ha : a = 0 <;> by_cases hp : put.size = 0 <;> by_cases hc : c = 0 <;> by_cases hb : b = 0 <;>
    simp [normOf, edL, addC, addR, kpN, ptN, ctN, C.sz, e0_size, ha, hp, hc, hb, C.join, e0_e0]

/-- The first piece's number, where it keeps; the last cut's number; the last text that is put. -/
def atF : List C → Int
  | [] => 0
  | c :: _ => if c.k = 0 then c.n else 0
def cutF (cs : List C) : Int := cs.foldl (fun x c => if c.k = 2 then c.n else x) 0
def putF (cs : List C) : ByteArray := cs.foldl (fun x c => if c.k = 1 then c.t else x) e0
theorem cutF_succ {cs : List C} {j : Nat} {c : C} (h : cs[j]? = some c) : cutF (cs.take (j + 1)) = if c.k = 2 then c.n else cutF (cs.take j) := by
  rw [List.take_add_one, h]; simp [cutF]
theorem putF_succ {cs : List C} {j : Nat} {c : C} (h : cs[j]? = some c) : putF (cs.take (j + 1)) = if c.k = 1 then c.t else putF (cs.take j) := by
  rw [List.take_add_one, h]; simp [putF]
theorem atF_zero {cs : List C} {c : C} (h : cs[0]? = some c) : atF cs = if c.k = 0 then c.n else 0 := by
  cases cs with
  | nil => simp at h
  | cons x r => simp at h; subst h; rfl
theorem ed_none {a b : Nat} {put : ByteArray} (hp : put.size = 0) : atF (normOf (edL a put 0 b)) = ((a + b : Nat) : Int) ∧ cutF (normOf (edL a put 0 b)) = 0 ∧ putF (normOf (edL a put 0 b)) = e0 := by
  rw [normOf_ed, if_pos ⟨hp, rfl⟩]
  unfold kpN
  split <;> simp_all [atF, cutF, putF]
theorem ed_some {a c b : Nat} {put : ByteArray} (h : ¬ (put.size = 0 ∧ c = 0)) : atF (normOf (edL a put c b)) = (a : Int) ∧ cutF (normOf (edL a put c b)) = (c : Int) ∧ putF (normOf (edL a put c b)) = put := by
  rw [normOf_ed, if_neg h]
  by_cases ha : a = 0 <;> by_cases hp : put.size = 0 <;> by_cases hc : c = 0 <;> by_cases hb : b = 0 <;>
    simp_all [kpN, ptN, ctN, atF, cutF, putF, e0_of]
/-- How many pieces do not keep. -/
def turnN (c : C) : Int := if c.k = 0 then 0 else 1
theorem ed_turns (a c b : Nat) (put : ByteArray) : sumOf turnN (normOf (edL a put c b)) ≤ 2 ∧ (put.size = 0 → c = 0 → sumOf turnN (normOf (edL a put c b)) = 0) ∧ (normOf (edL a put c b)).length ≤ 4 := by
  refine ⟨?_, ?_, normOf_length _⟩
  · rw [normOf_ed]
    by_cases ha : a = 0 <;> by_cases hp : put.size = 0 <;> by_cases hc : c = 0 <;> by_cases hb : b = 0 <;>
      simp [kpN, ptN, ctN, sumOf, turnN, ha, hp, hc, hb] <;> (try split) <;> simp [sumOf, turnN]
  · intro hp hc
    rw [normOf_ed, if_pos ⟨hp, hc⟩]
    unfold kpN
    split <;> simp [sumOf, turnN]

/-- What lies between two texts has unlike ends. -/
theorem bt_ends {s t : ByteArray} (h1 : ahd s t + bhd s t < s.size) (h2 : ahd s t + bhd s t < t.size) : fwd s t (ahd s t) = false ∧ bwd s t (bhd s t) = false := by
  have a := (cnt_is (fwd s t) (min s.size t.size)).2.2
  have b := (cnt_is (bwd s t) (min s.size t.size - ahd s t)).2.2
  change ahd s t = _ ∨ fwd s t (ahd s t) = false at a
  change bhd s t = _ ∨ bwd s t (bhd s t) = false at b
  constructor
  · rcases a with a | a
    · omega
    · exact a
  · rcases b with b | b
    · omega
    · exact b
theorem bt_same (s : ByteArray) : ahd s s = s.size ∧ bhd s s = 0 := by
  have h : ahd s s = s.size := by
    have : Cnt (fwd s s) (min s.size s.size) s.size := ⟨by omega, fun i _ => by simp [fwd], .inl (by omega)⟩
    exact (cnt_eq this).symm
  refine ⟨h, ?_⟩
  have := (alike_le s s).1
  omega

end Go.Proofs.Ytmlibmleamiljaa
