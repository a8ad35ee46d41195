/-
  The walk of CompsNormal where the pieces have no normal form; plain facts for the other way. Conditions: the pieces lie in memory.
-/
import Derived.Test.YtiplhhldgkgbhaaSizes
namespace Go.Proofs.Ytiplhhldgkgbhaa
open Go.RowKit

theorem keep_bounds (c : C) (h : c.Raw) : 0 ≤ keepC c ∧ keepC c ≤ 4096 := by unfold C.Raw at h; unfold keepC; split <;> omega
theorem cut_bounds (c : C) (h : c.Raw) : 0 ≤ cutC c ∧ cutC c ≤ 4096 := by unfold C.Raw at h; unfold cutC; split <;> omega
theorem puts_len (cs : List C) : (∀ c ∈ cs, c.Raw) → (putsOf cs).length ≤ 4096 * cs.length := by
  induction cs with
  | nil => intro _; simp [putsOf]
  | cons c cs ih =>
    intro h
    have h1 := h c (by simp)
    have h2 := ih fun x hx => h x (by simp [hx])
    have h3 : (putC c).length ≤ 4096 := by
      unfold C.Raw at h1
      unfold putC
      split
      · simp
      · have : c.t.data.toList.length = c.t.size := Array.length_toList
        omega
    simp only [putsOf, List.length_append, List.length_cons]
    omega
theorem putsOf_take_succ {cs : List C} {i : Nat} {c : C} (h : cs[i]? = some c) : putsOf (cs.take (i + 1)) = putsOf (cs.take i) ++ putC c := by
  rw [List.take_add_one, h, putsOf_append]; simp [putsOf]
theorem sumOf_drop {f : C → Int} {cs : List C} {i : Nat} {c : C} (h : cs[i]? = some c) : sumOf f (cs.drop i) = f c + sumOf f (cs.drop (i + 1)) := by
  obtain ⟨hl, he⟩ := List.getElem?_eq_some_iff.1 h
  rw [List.drop_eq_getElem_cons hl, he]; rfl
theorem putsOf_drop {cs : List C} {i : Nat} {c : C} (h : cs[i]? = some c) : putsOf (cs.drop i) = putC c ++ putsOf (cs.drop (i + 1)) := by
  obtain ⟨hl, he⟩ := List.getElem?_eq_some_iff.1 h
  rw [List.drop_eq_getElem_cons hl, he]; rfl
theorem raw_drop {cs : List C} (h : ∀ c ∈ cs, c.Raw) (j : Nat) : ∀ c ∈ cs.drop j, c.Raw := fun c hc => h c (List.mem_of_mem_drop hc)

theorem puts_head {P t : ByteArray} {r : List UInt8} (h : P.data.toList = t.data.toList ++ r) : P.extract 0 t.size = t ∧ t.size ≤ P.size := by
  have hl : t.data.toList.length = t.size := Array.length_toList
  have hp : P.data.toList.length = P.size := Array.length_toList
  constructor
  · apply ByteArray.ext
    apply Array.ext'
    rw [ByteArray.data_extract, Array.toList_extract, h, List.extract_eq_take_drop, List.drop_zero, Nat.sub_zero, ← hl, List.take_left]
  · rw [← hl, ← hp, h, List.length_append]; omega
theorem puts_rest {P t : ByteArray} {a r : List UInt8} (h : P.data.toList = a) (ha : a = t.data.toList ++ r) : (P.extract t.size P.size).data.toList = r := by
  have hl : t.data.toList.length = t.size := Array.length_toList
  have hp : P.data.toList.length = P.size := Array.length_toList
  have e : P.data.toList = t.data.toList ++ r := h.trans ha
  rw [ByteArray.data_extract, Array.toList_extract, List.extract_eq_take_drop, e, ← hl, List.drop_left, List.take_of_length_le]
  rw [← hp, e, List.length_append]
  omega

set_option maxRecDepth 100000 in
set_option maxHeartbeats 1000000 in
theorem cn_no (p : Option Addr) (cs : List C) (cap : Nat) (w : World) (hr : RowC w p cs) (hno : okB cs = false) :
    Calls Try.prog 4 #[.slice p cs.length cap] w fun e w' => e = .returned (.bool true) ∧ Below w.heap.size w w' := by
  have R := Lib.hid hr; have NO := Lib.hid hno
  clear hr hno
  go_enter Try.func4, Try.ntmps4
  go_wp2_with (first | (go_at_call 19; refine (awake_true _).mono ?_; rintro e w1 ⟨rfl, hb1⟩; have B1 := Lib.hid hb1; clear hb1) | (go_at_call 14; refine (num_any _ _).mono ?_; rintro e w' ⟨rfl, rfl⟩) | (go_at_call 9; refine (normal_any _ _ _ _ (R.out.below B1.out)).mono ?_; rintro e w2 ⟨hb2, ⟨hyes, -⟩ | ⟨-, rfl⟩⟩; (rw [NO.out] at hyes; cases hyes); have B2 := Lib.hid (B1.out.trans (hb2.mono B1.out.size)); clear hb2))
  go_ret
  exact ⟨rfl, B2.out⟩

end Go.Proofs.Ytiplhhldgkgbhaa
