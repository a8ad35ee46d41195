/-
  PfM, Pfl, in one text. Conditions: as each theorem's premises say.
-/
import Derived.Test.YtdhkjhdbaofdcaaAwP
import Derived.Test.YtdhkjhdbaofdcaaPts
namespace Go.Proofs.Ytdhkjhdbaofdcaa
open Go.RowKit

theorem and1023 (x : Int) : ∃ n : Nat, n ≤ 1023 ∧ bits BinOp.and IntKind.i64 x 1023 = (n : Int) := by
  have hv : (BitVec.ofInt 64 x &&& BitVec.ofInt 64 1023).toNat ≤ 1023 := by
    rw [BitVec.toNat_and]
    exact Nat.le_trans Nat.and_le_right (by decide)
  refine ⟨_, hv, ?_⟩
  show IntKind.i64.wrap (((BitVec.ofInt 64 x &&& BitVec.ofInt 64 1023).toNat : Nat) : Int) = _
  exact IntWalk.i64_in _ (by omega)
def nA : List Nd := [⟨0, 0, 0, 3, [1]⟩, ⟨1, 2, 0, 3, [2]⟩, ⟨2, 5, 1, 2, []⟩]
theorem nA_par : parN aA = nA := by kernel_rfl
/-- The steps that do not fit. -/
def badL (d : Int) : List St := [⟨0, 2 + d, 0, 0, 0, []⟩, ⟨0, 2, 0, 0, 0, []⟩, ⟨0, -d, 0, 0, 0, []⟩, ⟨1, 2, 4, 0, 0, []⟩, ⟨1, 2 + d, 4, 0, 0, []⟩, ⟨1, 3, 7 + d, 0, 0, []⟩, ⟨2, 2 + d, 0, 0, 0, []⟩, ⟨2, 1, 0, 0, 0, []⟩, ⟨2, 1, 0, 0, 0, [2 + d]⟩, ⟨2, 1, 0, 0, 0, [2, 2]⟩, ⟨2, 0, 0, 0, 0, [0]⟩,
  ⟨3, 2 + d, 0, 0, 1, []⟩, ⟨3, 2, 0, 2, 1, []⟩, ⟨3, 2, 0, 1, 3 + d, []⟩, ⟨3, 0, 0, 0, 2, []⟩, ⟨3, 2, 0, 1, 2, [1]⟩, ⟨3 + d, 2, 0, 0, 0, []⟩, ⟨0, 2, 0, 0, d, []⟩]
set_option maxRecDepth 100000 in
theorem bad_all : ∀ d : Fin 1024, (badL (d.val + 1 : Nat)).all (fun x => (patchP nA 0 3 [x] 3).isNone) = true := by decide +kernel

theorem wrapd {n : Nat} (h : n ≤ 1023) : wrap64 (1 + (n : Int)) = ((n + 1 : Nat) : Int) := by unfold wrap64; omega
theorem a_three : patchP nA 0 3 [] 3 = some (nA, 3) := by kernel_rfl
theorem a_more : ∀ d : Fin 1024, (patchP nA 0 3 [] ((3 : Int) + (d.val + 1 : Nat))).isNone = true := by decide +kernel
theorem a_none0 : patchP [] 0 0 [] 0 = none := by kernel_rfl
theorem nA_kids : ∀ x ∈ nA, x.kids.length ≤ 2048 := by
  intro x hx
  simp only [nA, List.mem_cons, List.not_mem_nil, or_false] at hx
  rcases hx with rfl | rfl | rfl <;> simp
theorem more_no {d : Nat} (h1 : 1 ≤ d) (h2 : d ≤ 1024) : patchP nA 0 3 [] ((3 : Int) + (d : Int)) = none := by
  have := a_more ⟨d - 1, by omega⟩
  dsimp only at this
  rw [show d - 1 + 1 = d by omega] at this
  exact Option.isNone_iff_eq_none.1 this
theorem badP_no {d : Nat} (h1 : 1 ≤ d) (h2 : d ≤ 1024) {x : St} (hx : x ∈ badL d) : patchP nA 0 3 [x] 3 = none := by
  have := bad_all ⟨d - 1, by omega⟩
  dsimp only at this
  rw [show d - 1 + 1 = d by omega, List.all_eq_true] at this
  exact Option.isNone_iff_eq_none.1 (this x hx)
theorem stepsR_nil (w : World) (p : Option Addr) : StepsR w p [] := fun i s h => by simp at h

def badP (w : World) (d : Int) : List (St × Option Addr) := [(⟨0, 2 + d, 0, 0, 0, []⟩, none), (⟨0, 2, 0, 0, 0, []⟩, none), (⟨0, -d, 0, 0, 0, []⟩, none), (⟨1, 2, 4, 0, 0, []⟩, none), (⟨1, 2 + d, 4, 0, 0, []⟩, none), (⟨1, 3, 7 + d, 0, 0, []⟩, none), (⟨2, 2 + d, 0, 0, 0, []⟩, none), (⟨2, 1, 0, 0, 0, []⟩, none), (⟨2, 1, 0, 0, 0, [2 + d]⟩, some ⟨w.heap.size, 0, none⟩), (⟨2, 1, 0, 0, 0, [2, 2]⟩, some ⟨w.heap.size + 1, 0, none⟩), (⟨2, 0, 0, 0, 0, [0]⟩, some ⟨w.heap.size + 2, 0, none⟩),
  (⟨3, 2 + d, 0, 0, 1, []⟩, none), (⟨3, 2, 0, 2, 1, []⟩, none), (⟨3, 2, 0, 1, 3 + d, []⟩, none), (⟨3, 0, 0, 0, 2, []⟩, none), (⟨3, 2, 0, 1, 2, [1]⟩, some ⟨w.heap.size + 3, 0, none⟩), (⟨3 + d, 2, 0, 0, 0, []⟩, none), (⟨0, 2, 0, 0, d, []⟩, none)]
def svP (x : St × Option Addr) : Sv := ⟨x.1.kd, x.1.id, x.1.nd, x.1.fr, St.to x.1, x.2, x.1.kids.length, x.1.kids.length⟩
def badC (w : World) (d : Int) : List Value := lyS.all ((badP w d).map svP)
def badW (w : World) (d : Int) : World := (((w.alloc (.cells #[.int .i64 (2 + d)] 3)).alloc (.cells #[.int .i64 2, .int .i64 2] 3)).alloc (.cells #[.int .i64 0] 3)).alloc (.cells #[.int .i64 1] 3)
theorem row_ints {W : World} {b : Nat} {l : List Int} (h : W.heap[b]? = some (.cells (l.map (fun x => Value.int .i64 x)).toArray 3 (0, 0))) : lyI.Row W (some ⟨b, 0, none⟩) l := by
  intro k x hx
  refine ⟨b, 0, rfl, fun j u hu => ?_⟩
  match j, hu with
  | 0, hu =>
    have : u = .int .i64 x := by simpa [lyI] using hu.symm
    subst this
    have := (obj_cells h).1 k (.int .i64 x) (by simp [hx])
    simpa [lyI] using this
  | j + 1, hu => simp [lyI] at hu
theorem bad_lit (w : World) (d : Int) : StepsR ((badW w d).alloc (.cells (badC w d).toArray 42)) (some ⟨w.heap.size + 4, 0, none⟩) (badL d) := by
  have s1 : (w.alloc (.cells #[.int .i64 (2 + d)] 3)).heap.size = w.heap.size + 1 := by simp
  have s2 : ((w.alloc (.cells #[.int .i64 (2 + d)] 3)).alloc (.cells #[.int .i64 2, .int .i64 2] 3)).heap.size = w.heap.size + 2 := by simp
  have s3 : (((w.alloc (.cells #[.int .i64 (2 + d)] 3)).alloc (.cells #[.int .i64 2, .int .i64 2] 3)).alloc (.cells #[.int .i64 0] 3)).heap.size = w.heap.size + 3 := by simp
  have s4 : (badW w d).heap.size = w.heap.size + 4 := by simp [badW]
  have hB := heap_new s4 (badC w d).toArray 42
  have k1 : ((badW w d).alloc (.cells (badC w d).toArray 42)).heap[w.heap.size]? = some (.cells #[.int .i64 (2 + d)] 3 (0, 0)) := heap_old (heap_old (heap_old (heap_old (heap_new rfl _ _) _) _) _) _
  have k2 : ((badW w d).alloc (.cells (badC w d).toArray 42)).heap[w.heap.size + 1]? = some (.cells #[.int .i64 2, .int .i64 2] 3 (0, 0)) := heap_old (heap_old (heap_old (heap_new s1 _ _) _) _) _
  have k3 : ((badW w d).alloc (.cells (badC w d).toArray 42)).heap[w.heap.size + 2]? = some (.cells #[.int .i64 0] 3 (0, 0)) := heap_old (heap_old (heap_new s2 _ _) _) _
  have k4 : ((badW w d).alloc (.cells (badC w d).toArray 42)).heap[w.heap.size + 3]? = some (.cells #[.int .i64 1] 3 (0, 0)) := heap_old (heap_new s3 _ _) _
  have kids : ∀ x ∈ badP w d, lyI.Row ((badW w d).alloc (.cells (badC w d).toArray 42)) x.2 x.1.kids := by
    intro x hx
    simp only [badP, List.mem_cons, List.not_mem_nil, or_false] at hx
    rcases hx with rfl | rfl | rfl | rfl | rfl | rfl | rfl | rfl | rfl | rfl | rfl | rfl | rfl | rfl | rfl | rfl | rfl | rfl
    all_goals first | exact Ly.Row.nil _ | exact row_ints k1 | exact row_ints k2 | exact row_ints k3 | exact row_ints k4
  intro i s hi
  have e : badL d = (badP w d).map Prod.fst := rfl
  rw [e, List.getElem?_map] at hi
  obtain ⟨x, hx, rfl⟩ := Option.map_eq_some_iff.1 hi
  refine ⟨_, _, x.2, x.1.kids.length, rfl, fun j u hu => ?_, kids x (List.mem_of_getElem? hx)⟩
  have hg : ((badP w d).map svP)[i]? = some (svP x) := by rw [List.getElem?_map, hx]; rfl
  have h6 := all_get (L := lyS) hg hu
  rw [show lyS.sz = 6 from rfl] at h6
  rw [Nat.zero_add]
  exact (obj_cells hB).1 _ _ (by simpa [badC] using h6)
theorem mod18 (x : Int) : ∃ i : Nat, i ≤ 17 ∧ (IntKind.u64.wrap x).tmod 18 = (i : Int) := by
  obtain ⟨y, hy⟩ : ∃ y : Nat, IntKind.u64.wrap x = (y : Int) := ⟨(IntKind.u64.wrap x).toNat, by rw [show IntKind.u64.wrap x = x % 18446744073709551616 from rfl]; omega⟩
  rw [hy]
  refine ⟨y % 18, Nat.le_of_lt_succ (Nat.mod_lt _ (by omega)), ?_⟩
  rw [Int.tmod_eq_emod_of_nonneg (by omega)]
  rfl

end Go.Proofs.Ytdhkjhdbaofdcaa
