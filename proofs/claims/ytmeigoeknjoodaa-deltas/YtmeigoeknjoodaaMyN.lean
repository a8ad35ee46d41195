/-
  The reference's TreeMay where the numbers are too great or too small. Conditions: as each theorem's premises say.
-/
import Derived.Test.YtmeigoeknjoodaaMyK
namespace Go.Proofs.Ytmeigoeknjoodaa
open Go.RowKit

theorem kids_sum {ns : List Nd} {m : Nat} (hkl : ∀ x ∈ ns, x.kids.length ≤ m) : ∀ i, (allKids (ns.take i)).length ≤ i * m
  | 0 => by simp [allKids]
  | i + 1 => by
    rw [List.take_add_one, Nat.succ_mul]
    unfold allKids
    rw [List.flatMap_append, List.length_append]
    have h1 := kids_sum hkl i
    unfold allKids at h1
    cases hx : ns[i]? with
    | none =>
      rw [show (none : Option Nd).toList = [] from rfl, List.flatMap_nil, List.length_nil]
      omega
    | some x =>
      have := hkl x (List.mem_of_getElem? hx)
      rw [show (some x).toList = [x] from rfl, List.flatMap_cons, List.flatMap_nil, List.append_nil]
      omega
theorem kids_take {ns : List Nd} {i : Nat} {x : Nd} (hx : ns[i]? = some x) : allKids (ns.take (i + 1)) = allKids (ns.take i) ++ x.kids := by
  rw [List.take_add_one, hx]
  unfold allKids
  rw [List.flatMap_append]
  simp
theorem roots_take {ns : List Nd} {i : Nat} {x : Nd} (hx : ns[i]? = some x) : (ns.take (i + 1)).countP (fun x => x.kd == 0) = (ns.take i).countP (fun x => x.kd == 0) + (if x.kd = 0 then 1 else 0) := by
  rw [List.take_add_one, hx, List.countP_append]
  congr 1
  by_cases h : x.kd = 0
  · rw [if_pos h]; simp [h]
  · rw [if_neg h]; simp [h]
theorem roots_le (ns : List Nd) (i : Nat) : (ns.take i).countP (fun x => x.kd == 0) ≤ i := Nat.le_trans List.countP_le_length (by rw [List.length_take]; omega)

set_option maxRecDepth 100000 in
set_option maxHeartbeats 4000000 in
theorem treeMay_no (root next size : Int) (p : Option Addr) (ns : List Nd) (N cap : Nat) (hN : ns.length = N) (w : World) (hl : N ≤ 140737488355328) (hbd : ¬ (1 ≤ N ∧ N ≤ 2048 ∧ 0 ≤ next ∧ next ≤ 16777216 ∧ 0 ≤ size ∧ size ≤ 4096)) : Calls Try.prog 22 #[trV root next p N cap, .int .i64 size] w (RetBelow (.returned (.bool (mayB ns root next size))) w) := by
  have NO : Hid (mayB ns root next size = false) := Lib.hid (by
    cases h : mayB ns root next size with
    | false => rfl
    | true =>
      unfold mayB at h
      simp only [Bool.and_eq_true, decide_eq_true_eq] at h
      rw [hN] at h
      exact absurd ⟨h.1.1.1.1.1.1.1.1.1.1.1, h.1.1.1.1.1.1.1.1.1.1.2, h.1.1.1.1.1.1.1.1.1.2, h.1.1.1.1.1.1.1.1.2, h.1.1.1.1.1.1.1.2, h.1.1.1.1.1.1.2⟩ hbd)
  have hcase : N < 1 ∨ (1 ≤ N ∧ 2048 < N) ∨ (1 ≤ N ∧ N ≤ 2048 ∧ next < 0) ∨ (1 ≤ N ∧ N ≤ 2048 ∧ 0 ≤ next ∧ 16777216 < next) ∨ (1 ≤ N ∧ N ≤ 2048 ∧ 0 ≤ next ∧ next ≤ 16777216 ∧ size < 0) ∨ (1 ≤ N ∧ N ≤ 2048 ∧ 0 ≤ next ∧ next ≤ 16777216 ∧ 0 ≤ size ∧ 4096 < size) := by omega
  clear hbd hN
  unfold trV
  rcases hcase with hc | hc | hc | hc | hc | hc
  all_goals
    go_enter Try.func22, Try.ntmps22
    go_wp2_with fail
    go_ret
    exact ⟨retB (by rw [NO.out]), (Below.refl _ _).alloc (Nat.le_refl _) _⟩

end Go.Proofs.Ytmeigoeknjoodaa
