/-
  A blank more in a list of ones: the steps are spans alone. Trees of which one thing was turned may not be. No program, no condition.
-/
import Derived.Test.YtmeigoeknjoodaaRnD
namespace Go.Proofs.Ytmeigoeknjoodaa

/-- So many ones with commas between. -/
def onesL : Nat → List UInt8
  | 0 => []
  | 1 => [49]
  | n + 2 => 49 :: 44 :: onesL (n + 1)
def smallS (k : Nat) : List UInt8 := 91 :: onesL k
def smallP (k i : Nat) : Nat := if i = k then 2 * k else 1 + 2 * i
def smallU (k i : Nat) : List UInt8 := (smallS k).take (smallP k i) ++ 32 :: ((smallS k).drop (smallP k i) ++ [93])
def smallB (k i : Nat) : Bool :=
  let ss := stepsL (parN (smallS k ++ [93])) (renN (smallS k ++ [93]) (smallU k i))
  (ss.length == 2 + k - i) && ss.all (fun x => x.kd == 3)
theorem small_all : (List.range 17).all (fun k => k == 0 || (List.range (k + 1)).all (fun i => smallB k i)) = true := by decide +kernel
theorem small_is {k i : Nat} (h1 : 1 ≤ k) (h2 : k ≤ 16) (h3 : i ≤ k) : (stepsL (parN (smallS k ++ [93])) (renN (smallS k ++ [93]) (smallU k i))).length = 2 + k - i ∧
    ∀ x ∈ stepsL (parN (smallS k ++ [93])) (renN (smallS k ++ [93]) (smallU k i)), x.kd = 3 := by
  have h := List.all_eq_true.1 small_all k (List.mem_range.2 (by omega))
  have hk : (k == 0) = false := by rw [beq_eq_false_iff_ne]; omega
  rw [hk, Bool.false_or] at h
  have h := List.all_eq_true.1 h i (List.mem_range.2 (by omega))
  unfold smallB at h
  simp only [Bool.and_eq_true, beq_iff_eq, List.all_eq_true] at h
  exact h

/-! Trees with one thing turned -/

theorem may_no {ns : List Nd} {root next size : Int} {x : Nd} (hx : x ∈ ns) (h : nodeOk root next size x = false) : mayB ns root next size = false := by
  cases hm : mayB ns root next size with
  | false => rfl
  | true =>
    unfold mayB at hm
    simp only [Bool.and_eq_true, List.all_eq_true] at hm
    have := hm.1.1.1.1.1.2 x hx
    rw [h] at this
    cases this
theorem turned_root (s : List UInt8) (next size : Int) : mayB (parN s) 1 next size = false := by
  obtain ⟨k, h⟩ := par_root s
  refine may_no (get_some h).1 ?_
  simp [nodeOk]
theorem turned_next (s : List UInt8) (root size : Int) : mayB (parN s) root 0 size = false := by
  obtain ⟨k, h⟩ := par_root s
  refine may_no (get_some h).1 ?_
  simp [nodeOk]
theorem turned_from {ns : List Nd} {root next size : Int} {x : Nd} (hx : x ∈ ns) (h : x.fr < 0) : mayB ns root next size = false := by
  refine may_no hx ?_
  have : decide (0 ≤ x.fr) = false := decide_eq_false (by omega)
  simp [nodeOk, this]
/-- From a tree to itself there is no step. -/
theorem steps_self {a : List Nd} (h : risesB a = true) : stepsL a a = [] ∧ kindsB a a = true := by
  have nd := rises_nodup h
  have hw : ∀ x ∈ a, wasN a x = x := fun x hx => by unfold wasN; rw [get_mem nd hx]; rfl
  have f1 : a.filter (fun x => (getN a x.id).isNone) = [] := by
    rw [List.filter_eq_nil_iff]
    intro x hx
    rw [get_mem nd hx]; simp
  have f2 : a.filter (fun x => !(x.kids == (wasN a x).kids)) = [] := by
    rw [List.filter_eq_nil_iff]
    intro x hx
    rw [hw x hx]; simp
  have f3 : a.filter (fun x => !(x.fr == (wasN a x).fr) || !(x.to == (wasN a x).to)) = [] := by
    rw [List.filter_eq_nil_iff]
    intro x hx
    rw [hw x hx]; simp
  refine ⟨?_, ?_⟩
  · unfold stepsL dropsL makesL kidsL spansL
    rw [f1, f2, f3]; rfl
  · unfold kindsB
    rw [List.all_eq_true]
    intro x hx
    rw [get_mem nd hx]; simp
theorem par_self {s : List UInt8} (hs : s.length ≤ 300) : deltaB (parN s) 0 ((parK s).size + 1) (parN s) 0 ((parK s).size + 1) = true := by
  unfold deltaB
  rw [par_end, par_may hs, (steps_self (parN_rises s)).2]
  rfl
/-- An object is no list. -/
theorem par_unlike : deltaB (parN [91, 93]) 0 ((parK [91, 93]).size + 1) (parN [123, 125]) 0 ((parK [123, 125]).size + 1) = false := by decide +kernel
theorem val_pos (n e d : Nat) (ts : List Tk) : 1 ≤ (valF n e d ts).1.size := by
  have one : ∀ kd fr to k r, 1 ≤ (Fo.cons kd fr to k r).size := fun kd fr to k r => by simp only [Fo.size]; omega
  cases n with
  | zero =>
    unfold valF
    cases ts with
    | nil => exact one ..
    | cons t r => exact one ..
  | succ n =>
    unfold valF
    cases ts with
    | nil => exact one ..
    | cons t r =>
      dsimp only
      split
      · exact one ..
      split
      · exact one ..
      split
      · exact one ..
      split
      · exact one ..
      · exact one ..
theorem top_pos : ∀ (n e : Nat) (ts : List Tk), 1 ≤ (topF n e false ts).size
  | 0, e, ts => by
    have : topF 0 e false ts = lackF e .nil := by unfold topF; rfl
    rw [this, lack_size]; omega
  | n + 1, e, [] => by
    have : topF (n + 1) e false [] = lackF e .nil := by unfold topF; rfl
    rw [this, lack_size]; omega
  | n + 1, e, t :: r => by
    unfold topF
    split
    · simp only [Fo.size]; omega
    · dsimp only
      rw [if_neg (by decide), Fo.size_app]
      have := val_pos (4 * (r.length + 1)) e 1 (t :: r)
      omega
theorem par_two (s : List UInt8) : 2 ≤ (parN s).length := by
  rw [parN_len]
  have : 1 ≤ (parK s).size := top_pos ..
  omega

end Go.Proofs.Ytmeigoeknjoodaa
