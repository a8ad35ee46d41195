/-
  Two edits, one behind the other, as plain lists of pieces: what they do together. No program in it; conditions: as each theorem's premises say.
-/
import Derived.Test.YtdpjkafabjhkiaaAppM
namespace Go.Proofs.Ytdpjkafabjhkiaa
open Go.RowKit

/-- The first n bytes of a piece, and what is left of it. -/
def takeC (c : C) (n : Int) : C := if c.k = 1 then ⟨1, 0, c.t.extract 0 n.toNat⟩ else ⟨c.k, n, e0⟩
def dropC (c : C) (n : Int) : C := if c.k = 1 then ⟨1, 0, c.t.extract n.toNat c.t.size⟩ else ⟨c.k, c.n - n, e0⟩
def tailC (c : C) (n : Int) (cs : List C) : List C := if n = c.sz then cs else dropC c n :: cs
/-- What becomes of bytes that the first keeps or puts, and the second keeps or cuts. -/
def meetC (a b : C) : C := if b.k = 0 then a else if a.k = 0 then b else ⟨0, 0, e0⟩

theorem soft_form {c : C} (h : c.Soft) : (∃ n, 0 ≤ n ∧ c = ⟨0, n, e0⟩) ∨ (∃ n, 0 ≤ n ∧ c = ⟨2, n, e0⟩) ∨ (∃ t, c = ⟨1, 0, t⟩) := by
  obtain ⟨k, n, t⟩ := c
  unfold C.Soft at h
  dsimp only at h
  rcases h with ⟨rfl | rfl, h0, h1⟩ | ⟨rfl, rfl⟩
  · exact .inl ⟨n, h0, by rw [e0_of h1]⟩
  · exact .inr (.inl ⟨n, h0, by rw [e0_of h1]⟩)
  · exact .inr (.inr ⟨t, rfl⟩)

theorem take_k (c : C) (n : Int) : (takeC c n).k = c.k := by unfold takeC; split <;> simp_all
theorem drop_k (c : C) (n : Int) : (dropC c n).k = c.k := by unfold dropC; split <;> simp_all
theorem take_soft {c : C} {n : Int} (hc : c.Soft) (h0 : 0 ≤ n) : (takeC c n).Soft := by
  rcases soft_form hc with ⟨m, hm, rfl⟩ | ⟨m, hm, rfl⟩ | ⟨t, rfl⟩ <;> simp [takeC, C.Soft, e0_size, h0]
theorem drop_soft {c : C} {n : Int} (hc : c.Soft) (h1 : n ≤ c.sz) : (dropC c n).Soft := by
  rcases soft_form hc with ⟨m, hm, rfl⟩ | ⟨m, hm, rfl⟩ | ⟨t, rfl⟩ <;> simp [C.sz, e0_size] at h1 <;> simp [dropC, C.Soft, e0_size, h1]
theorem take_sz {c : C} {n : Int} (hc : c.Soft) (h0 : 0 ≤ n) (h1 : n ≤ c.sz) : (takeC c n).sz = n := by
  rcases soft_form hc with ⟨m, hm, rfl⟩ | ⟨m, hm, rfl⟩ | ⟨t, rfl⟩ <;> simp [takeC, C.sz, e0_size] at h1 ⊢
  omega
theorem drop_sz {c : C} {n : Int} (hc : c.Soft) (h0 : 0 ≤ n) (h1 : n ≤ c.sz) : (dropC c n).sz = c.sz - n := by
  rcases soft_form hc with ⟨m, hm, rfl⟩ | ⟨m, hm, rfl⟩ | ⟨t, rfl⟩ <;> simp [dropC, C.sz, e0_size] at h1 ⊢
  omega
theorem take_drop {c : C} {n : Int} (hc : c.Soft) (h0 : 0 ≤ n) (h1 : n ≤ c.sz) : (takeC c n).join (dropC c n) = c := by
  rcases soft_form hc with ⟨m, hm, rfl⟩ | ⟨m, hm, rfl⟩ | ⟨t, rfl⟩
  · simp [takeC, dropC, C.join, e0_left]; omega
  · simp [takeC, dropC, C.join, e0_left]; omega
  · simp [C.sz] at h1
    simp only [takeC, dropC, C.join, if_true, C.mk.injEq, true_and]
    refine ⟨by omega, ba_ext ?_⟩
    have hl := ba_len t
    rw [ba_append_list, ba_extract, ba_extract, List.drop_zero, Nat.sub_zero, List.take_of_length_le (l := List.drop _ _) (by rw [List.length_drop]; omega), List.take_append_drop]
theorem take_all {c : C} (hc : c.Soft) : takeC c c.sz = c := by
  rcases soft_form hc with ⟨m, hm, rfl⟩ | ⟨m, hm, rfl⟩ | ⟨t, rfl⟩
  · simp [takeC, C.sz, e0_size]
  · simp [takeC, C.sz, e0_size]
  · simp only [takeC, C.sz, if_true, C.mk.injEq, true_and]
    refine ba_ext ?_
    have hl := ba_len t
    rw [ba_extract, List.drop_zero, List.take_of_length_le (by omega)]
theorem drop_zero {c : C} (hc : c.Soft) : dropC c 0 = c := by
  rcases soft_form hc with ⟨m, hm, rfl⟩ | ⟨m, hm, rfl⟩ | ⟨t, rfl⟩
  · simp [dropC]
  · simp [dropC]
  · simp only [dropC, if_true, C.mk.injEq, true_and]
    refine ba_ext ?_
    have hl := ba_len t
    rw [ba_extract, show (0 : Int).toNat = 0 from rfl, List.drop_zero, List.take_of_length_le (by omega)]
theorem drop_drop {c : C} {a b : Int} (hc : c.Soft) (h0 : 0 ≤ a) (h1 : 0 ≤ b) : dropC (dropC c a) b = dropC c (a + b) := by
  rcases soft_form hc with ⟨m, hm, rfl⟩ | ⟨m, hm, rfl⟩ | ⟨t, rfl⟩
  · simp [dropC]; omega
  · simp [dropC]; omega
  · simp only [dropC, if_true, C.mk.injEq, true_and]
    refine ba_ext ?_
    have hl := ba_len t
    rw [ba_extract, ba_extract, ba_extract, ByteArray.size_extract, List.drop_take, List.drop_drop, List.take_take]
    rw [show a.toNat + b.toNat = (a + b).toNat by omega]
    rw [List.take_of_length_le (by rw [List.length_drop]; omega), List.take_of_length_le (by rw [List.length_drop]; omega)]
theorem take_of_drop {c : C} {a n : Int} (hc : c.Soft) (h0 : 0 ≤ a) (h1 : 0 ≤ n) (h2 : a + n ≤ c.sz) : takeC (dropC c a) n = if c.k = 1 then ⟨1, 0, c.t.extract a.toNat (a + n).toNat⟩ else ⟨c.k, n, e0⟩ := by
  rcases soft_form hc with ⟨m, hm, rfl⟩ | ⟨m, hm, rfl⟩ | ⟨t, rfl⟩
  · simp [takeC, dropC]
  · simp [takeC, dropC]
  · simp [C.sz] at h2
    simp only [takeC, dropC, if_true, C.mk.injEq, true_and]
    refine ba_ext ?_
    have hl := ba_len t
    rw [ba_extract, ba_extract, ba_extract, List.drop_zero, List.take_take]
    congr 1
    omega

/-- Pieces that are soft and not empty. -/
def Gd (cs : List C) : Prop := ∀ c ∈ cs, c.Soft ∧ 0 < c.sz
theorem Gd.nil : Gd [] := fun _ h => by simp at h
theorem Gd.head {c : C} {cs : List C} (h : Gd (c :: cs)) : c.Soft ∧ 0 < c.sz := h c (by simp)
theorem Gd.tail {c : C} {cs : List C} (h : Gd (c :: cs)) : Gd cs := fun x hx => h x (by simp [hx])
theorem Gd.cons {c : C} {cs : List C} (h : c.Soft ∧ 0 < c.sz) (hs : Gd cs) : Gd (c :: cs) := fun x hx => by
  rcases List.mem_cons.1 hx with rfl | hx
  · exact h
  · exact hs x hx
theorem Gd.soft {cs : List C} (h : Gd cs) : ∀ c ∈ cs, c.Soft := fun c hc => (h c hc).1
theorem Gd.drop {cs : List C} (h : Gd cs) (i : Nat) : Gd (cs.drop i) := fun c hc => h c (List.mem_of_mem_drop hc)
theorem gd_of_may {cs : List C} (h : MayP cs) : Gd cs := fun c hc => by
  have hs := Raw.soft ((okB_iff.1 h.1).2.1 c hc)
  obtain ⟨i, hi, he⟩ := List.getElem_of_mem hc
  have := (h.2 i c (by rw [List.getElem?_eq_getElem hi, he])).1
  have := Soft.sz0 hs
  exact ⟨hs, by omega⟩
theorem Gd.tailC {c : C} {n : Int} {cs : List C} (h : Gd (c :: cs)) (h0 : 0 ≤ n) (h1 : n ≤ c.sz) : Gd (tailC c n cs) := by
  unfold Ytdpjkafabjhkiaa.tailC
  split
  · exact h.tail
  · exact Gd.cons ⟨drop_soft h.head.1 h1, by rw [drop_sz h.head.1 h0 h1]; omega⟩ h.tail
theorem sum_tail {f : C → Int} (hf : ∀ l c : C, l.k = c.k → f (l.join c) = f l + f c) {c : C} {n : Int} {cs : List C} (hc : c.Soft) (h0 : 0 ≤ n) (h1 : n ≤ c.sz) : sumOf f (tailC c n cs) = sumOf f (c :: cs) - f (takeC c n) := by
  unfold tailC
  split
  · rename_i h; rw [h, take_all hc]; simp only [sumOf]; omega
  · have e := hf (takeC c n) (dropC c n) (by rw [take_k, drop_k])
    rw [take_drop hc h0 h1] at e
    simp only [sumOf]; omega
theorem tail_length (c : C) (n : Int) (cs : List C) : (tailC c n cs).length ≤ cs.length + 1 := by unfold tailC; split <;> simp
theorem tail_length_all (c : C) (cs : List C) : (tailC c c.sz cs).length = cs.length := by unfold tailC; simp

/-- One step of two edits. -/
def stepC : List C → List C → Option (C × List C × List C)
  | [], [] => none
  | [], d :: ds => if d.k = 1 then some (d, [], ds) else none
  | c :: cs, [] => if c.k = 2 then some (c, cs, []) else none
  | c :: cs, d :: ds => if c.k = 2 then some (c, cs, d :: ds) else if d.k = 1 then some (d, c :: cs, ds) else
      some (meetC (takeC c (min c.sz d.sz)) (takeC d (min c.sz d.sz)), tailC c (min c.sz d.sz) cs, tailC d (min c.sz d.sz) ds)
def joinF : Nat → List C → List C → List C
  | 0, _, _ => []
  | f + 1, xs, ys => match stepC xs ys with
    | none => []
    | some (c, xs', ys') => c :: joinF f xs' ys'
/-- What two edits do together, one behind the other. -/
def joinL (xs ys : List C) : List C := joinF (xs.length + ys.length) xs ys

theorem step_cut {c : C} (cs ys : List C) (h : c.k = 2) : stepC (c :: cs) ys = some (c, cs, ys) := by cases ys <;> simp [stepC, h]
theorem step_put (xs : List C) {d : C} (ds : List C) (h : d.k = 1) (hx : ∀ c, xs.head? = some c → c.k ≠ 2) : stepC xs (d :: ds) = some (d, xs, ds) := by
  cases xs with
  | nil => simp [stepC, h]
  | cons c cs => have := hx c rfl; simp [stepC, h, this]
theorem step_both {c d : C} (cs ds : List C) (hc : c.k ≠ 2) (hd : d.k ≠ 1) : stepC (c :: cs) (d :: ds) = some (meetC (takeC c (min c.sz d.sz)) (takeC d (min c.sz d.sz)), tailC c (min c.sz d.sz) cs, tailC d (min c.sz d.sz) ds) := by simp [stepC, hc, hd]
theorem step_cases {X Y X' Y' : List C} {e : C} (h : stepC X Y = some (e, X', Y')) :
    (X = e :: X' ∧ e.k = 2 ∧ Y' = Y) ∨ (Y = e :: Y' ∧ e.k = 1 ∧ X' = X) ∨
    (∃ c cs d ds, X = c :: cs ∧ Y = d :: ds ∧ c.k ≠ 2 ∧ d.k ≠ 1 ∧ e = meetC (takeC c (min c.sz d.sz)) (takeC d (min c.sz d.sz)) ∧ X' = tailC c (min c.sz d.sz) cs ∧ Y' = tailC d (min c.sz d.sz) ds) := by
  cases X with
  | nil =>
    cases Y with
    | nil => simp [stepC] at h
    | cons d ds =>
      simp only [stepC] at h
      split at h
      · simp at h; obtain ⟨rfl, rfl, rfl⟩ := h; exact .inr (.inl ⟨rfl, by assumption, rfl⟩)
      · cases h
  | cons c cs =>
    by_cases hc : c.k = 2
    · rw [step_cut cs Y hc] at h; simp at h; obtain ⟨rfl, rfl, rfl⟩ := h; exact .inl ⟨rfl, hc, rfl⟩
    · cases Y with
      | nil => simp [stepC, hc] at h
      | cons d ds =>
        by_cases hd : d.k = 1
        · rw [step_put (c :: cs) ds hd (by intro x hx; simp at hx; subst hx; exact hc)] at h; simp at h; obtain ⟨rfl, rfl, rfl⟩ := h; exact .inr (.inl ⟨rfl, hd, rfl⟩)
        · rw [step_both cs ds hc hd] at h
          simp at h
          obtain ⟨h1, h2, h3⟩ := h
          exact .inr (.inr ⟨c, cs, d, ds, rfl, rfl, hc, hd, h1.symm, h2.symm, h3.symm⟩)
theorem step_lt {X Y X' Y' : List C} {e : C} (h : stepC X Y = some (e, X', Y')) : X'.length + Y'.length < X.length + Y.length := by
  rcases step_cases h with ⟨rfl, -, rfl⟩ | ⟨rfl, -, rfl⟩ | ⟨c, cs, d, ds, rfl, rfl, -, -, -, rfl, rfl⟩
  · simp
  · simp
  · have a1 := tail_length c (min c.sz d.sz) cs
    have a2 := tail_length d (min c.sz d.sz) ds
    have a3 := tail_length_all c cs
    have a4 := tail_length_all d ds
    simp only [List.length_cons]
    rcases Int.le_total c.sz d.sz with h | h
    · rw [Int.min_eq_left h] at *; omega
    · rw [Int.min_eq_right h] at *; omega
theorem joinF_enough : ∀ (f g : Nat) (X Y : List C), X.length + Y.length ≤ f → X.length + Y.length ≤ g → joinF f X Y = joinF g X Y
  | 0, 0, _, _, _, _ => rfl
  | 0, g + 1, X, Y, h, _ => by
    obtain rfl : X = [] := List.eq_nil_of_length_eq_zero (by omega)
    obtain rfl : Y = [] := List.eq_nil_of_length_eq_zero (by simpa using h)
    simp [joinF, stepC]
  | f + 1, 0, X, Y, _, h => by
    obtain rfl : X = [] := List.eq_nil_of_length_eq_zero (by omega)
    obtain rfl : Y = [] := List.eq_nil_of_length_eq_zero (by simpa using h)
    simp [joinF, stepC]
  | f + 1, g + 1, X, Y, h, h' => by
    simp only [joinF]
    cases hs : stepC X Y with
    | none => rfl
    | some r =>
      obtain ⟨e, X', Y'⟩ := r
      have := step_lt hs
      simp only
      rw [joinF_enough f g X' Y' (by omega) (by omega)]
theorem joinL_nil : joinL [] [] = [] := rfl
theorem joinL_step {X Y X' Y' : List C} {e : C} (h : stepC X Y = some (e, X', Y')) : joinL X Y = e :: joinL X' Y' := by
  have hl := step_lt h
  unfold joinL
  obtain ⟨m, hm⟩ : ∃ m, X.length + Y.length = m + 1 := ⟨X.length + Y.length - 1, by omega⟩
  rw [hm]
  simp only [joinF, h]
  rw [joinF_enough m _ X' Y' (by omega) (Nat.le_refl _)]
theorem joinL_length (X Y : List C) : (joinL X Y).length ≤ X.length + Y.length := by
  unfold joinL
  generalize X.length + Y.length = f
  induction f generalizing X Y with
  | zero => simp [joinF]
  | succ f ih =>
    simp only [joinF]
    split
    · simp
    · have := ih; simp; exact ih _ _

/-- What a step leaves. -/
structure StepOk (X Y : List C) (e : C) (X' Y' : List C) : Prop where
  gx : Gd X'
  gy : Gd Y'
  eq : sumOf toC X' = sumOf fromC Y'
  soft : e.Soft
  from' : fromC e + sumOf fromC X' = sumOf fromC X
  to' : toC e + sumOf toC Y' = sumOf toC Y

theorem meet_facts {c d : C} {n : Int} (hc : c.Soft) (hd : d.Soft) (kc : c.k ≠ 2) (kd : d.k ≠ 1) (h0 : 0 ≤ n) (h1 : n ≤ c.sz) (h2 : n ≤ d.sz) :
    (meetC (takeC c n) (takeC d n)).Soft ∧ fromC (meetC (takeC c n) (takeC d n)) = fromC (takeC c n) ∧ toC (meetC (takeC c n) (takeC d n)) = toC (takeC d n) ∧ toC (takeC c n) = n ∧ fromC (takeC d n) = n := by
  have s1 := take_soft hc h0
  have s2 := take_soft hd h0
  have z1 := take_sz hc h0 h1
  have z2 := take_sz hd h0 h2
  have k1 := take_k c n
  have k2 := take_k d n
  generalize takeC c n = a at *
  generalize takeC d n = b at *
  clear hc hd h1 h2
  rcases soft_form s1 with ⟨m, hm, rfl⟩ | ⟨m, hm, rfl⟩ | ⟨t, rfl⟩
  · rcases soft_form s2 with ⟨m', hm', rfl⟩ | ⟨m', hm', rfl⟩ | ⟨t', rfl⟩
    · simp [C.sz, e0_size] at z1 z2; simp [meetC, fromC, toC, C.Soft, C.sz, e0_size]; omega
    · simp [C.sz, e0_size] at z1 z2; simp [meetC, fromC, toC, C.Soft, C.sz, e0_size]; omega
    · dsimp only at k2; omega
  · dsimp only at k1; omega
  · rcases soft_form s2 with ⟨m', hm', rfl⟩ | ⟨m', hm', rfl⟩ | ⟨t', rfl⟩
    · simp [C.sz, e0_size] at z1 z2; simp [meetC, fromC, toC, C.Soft, C.sz, e0_size]; omega
    · simp [C.sz, e0_size] at z1 z2; simp [meetC, fromC, toC, C.Soft, C.sz, e0_size]; omega
    · dsimp only at k2; omega

theorem step_ok {X Y X' Y' : List C} {e : C} (hs : stepC X Y = some (e, X', Y')) (gx : Gd X) (gy : Gd Y) (eq : sumOf toC X = sumOf fromC Y) : StepOk X Y e X' Y' := by
  rcases step_cases hs with ⟨rfl, hk, rfl⟩ | ⟨rfl, hk, rfl⟩ | ⟨c, cs, d, ds, rfl, rfl, kc, kd, rfl, rfl, rfl⟩
  · have t0 : toC e = 0 := by unfold toC; rw [if_pos hk]
    simp only [sumOf, t0] at eq
    exact ⟨gx.tail, gy, by omega, gx.head.1, rfl, by rw [t0]; omega⟩
  · have t0 : fromC e = 0 := by unfold fromC; rw [if_pos hk]
    simp only [sumOf, t0] at eq
    exact ⟨gx, gy.tail, by omega, gy.head.1, by rw [t0]; omega, rfl⟩
  · obtain ⟨sc, pc⟩ := gx.head
    obtain ⟨sd, pd⟩ := gy.head
    have h0 : 0 ≤ min c.sz d.sz := by omega
    have h1 : min c.sz d.sz ≤ c.sz := by omega
    have h2 : min c.sz d.sz ≤ d.sz := by omega
    generalize min c.sz d.sz = n at *
    obtain ⟨m1, m2, m3, m4, m5⟩ := meet_facts sc sd kc kd h0 h1 h2
    have e1 := sum_tail (f := fromC) from_join (cs := cs) sc h0 h1
    have e2 := sum_tail (f := toC) to_join (cs := cs) sc h0 h1
    have e3 := sum_tail (f := fromC) from_join (cs := ds) sd h0 h2
    have e4 := sum_tail (f := toC) to_join (cs := ds) sd h0 h2
    exact ⟨gx.tailC h0 h1, gy.tailC h0 h2, by omega, m1, by omega, by omega⟩

theorem step_some {X Y : List C} (gx : Gd X) (gy : Gd Y) (eq : sumOf toC X = sumOf fromC Y) (hn : stepC X Y = none) : X = [] ∧ Y = [] := by
  cases X with
  | nil =>
    cases Y with
    | nil => exact ⟨rfl, rfl⟩
    | cons d ds =>
      exfalso
      simp only [stepC] at hn
      split at hn
      · cases hn
      · rename_i hk
        have h1 := sumOf_nonneg (f := fromC) (cs := ds) fun x hx => from_nonneg (gy.tail x hx).1
        obtain ⟨sd, pd⟩ := gy.head
        simp only [sumOf] at eq
        have : fromC d = d.sz := by
          rcases soft_form sd with ⟨m, hm, rfl⟩ | ⟨m, hm, rfl⟩ | ⟨t, rfl⟩
          · simp [fromC, C.sz, e0_size]
          · simp [fromC, C.sz, e0_size]
          · exact absurd rfl hk
        omega
  | cons c cs =>
    exfalso
    by_cases hc : c.k = 2
    · rw [step_cut cs Y hc] at hn; cases hn
    · cases Y with
      | nil =>
        have h1 := sumOf_nonneg (f := toC) (cs := cs) fun x hx => to_nonneg (gx.tail x hx).1
        obtain ⟨sd, pd⟩ := gx.head
        simp only [sumOf] at eq
        have : toC c = c.sz := by unfold toC; rw [if_neg hc]
        omega
      | cons d ds =>
        by_cases hd : d.k = 1
        · rw [step_put (c :: cs) ds hd (by intro x hx; simp at hx; subst hx; exact hc)] at hn; cases hn
        · rw [step_both cs ds hc hd] at hn; cases hn

/-- Step by step. -/
theorem join_ind {P : List C → List C → Prop} (h0 : P [] [])
    (h1 : ∀ X Y e X' Y', Gd X → Gd Y → sumOf toC X = sumOf fromC Y → stepC X Y = some (e, X', Y') → StepOk X Y e X' Y' → P X' Y' → P X Y) :
    ∀ (f : Nat) (X Y : List C), X.length + Y.length ≤ f → Gd X → Gd Y → sumOf toC X = sumOf fromC Y → P X Y := by
  intro f
  induction f with
  | zero =>
    intro X Y hl _ _ _
    obtain rfl : X = [] := List.eq_nil_of_length_eq_zero (by omega)
    obtain rfl : Y = [] := List.eq_nil_of_length_eq_zero (by simpa using hl)
    exact h0
  | succ f ih =>
    intro X Y hl gx gy eq
    cases hs : stepC X Y with
    | none => obtain ⟨rfl, rfl⟩ := step_some gx gy eq hs; exact h0
    | some r =>
      obtain ⟨e, X', Y'⟩ := r
      have ok := step_ok hs gx gy eq
      have := step_lt hs
      exact h1 X Y e X' Y' gx gy eq hs ok (ih X' Y' (by omega) ok.gx ok.gy ok.eq)

theorem join_sums {X Y : List C} (gx : Gd X) (gy : Gd Y) (eq : sumOf toC X = sumOf fromC Y) :
    (∀ c ∈ joinL X Y, c.Soft) ∧ sumOf fromC (joinL X Y) = sumOf fromC X ∧ sumOf toC (joinL X Y) = sumOf toC Y := by
  refine join_ind (P := fun X Y => (∀ c ∈ joinL X Y, c.Soft) ∧ sumOf fromC (joinL X Y) = sumOf fromC X ∧ sumOf toC (joinL X Y) = sumOf toC Y) ?_ ?_ _ X Y (Nat.le_refl _) gx gy eq
  · rw [joinL_nil]; exact ⟨fun c h => by simp at h, rfl, rfl⟩
  · intro X Y e X' Y' _ _ _ hs ok ⟨i1, i2, i3⟩
    rw [joinL_step hs]
    refine ⟨fun c hc => ?_, ?_, ?_⟩
    · rcases List.mem_cons.1 hc with rfl | hc
      · exact ok.soft
      · exact i1 c hc
    · simp only [sumOf]; rw [i2]; exact ok.from'
    · simp only [sumOf]; rw [i3]; exact ok.to'

theorem app_tail {s : ByteArray} {a : Int} {c : C} {n : Int} {cs : List C} (hc : c.Soft) (ha : 0 ≤ a) (h0 : 0 ≤ n) (h1 : n ≤ c.sz) : appB s a (c :: cs) = partB s a (takeC c n) ++ appB s (a + fromC (takeC c n)) (tailC c n cs) := by
  unfold tailC
  split
  · rename_i h; rw [h, take_all hc]; rfl
  · have e := take_drop hc h0 h1
    have hk : (takeC c n).k = (dropC c n).k := by rw [take_k, drop_k]
    simp only [appB]
    conv => lhs; rw [← e]
    rw [part_join ha (take_soft hc h0) (drop_soft hc h1) hk, from_join _ _ hk, ba_append_assoc, Int.add_assoc]

/-- The one behind the other does what they do together. -/
theorem join_app {s : ByteArray} {X Y : List C} (gx : Gd X) (gy : Gd Y) (eq : sumOf toC X = sumOf fromC Y) :
    ∀ a : Int, 0 ≤ a → a + sumOf fromC X ≤ s.size → appB s a (joinL X Y) = appB (appB s a X) 0 Y := by
  refine join_ind (P := fun X Y => ∀ a : Int, 0 ≤ a → a + sumOf fromC X ≤ s.size → appB s a (joinL X Y) = appB (appB s a X) 0 Y) ?_ ?_ _ X Y (Nat.le_refl _) gx gy eq
  · intro a _ _; rfl
  · intro X Y e X' Y' gx gy eq hs ok ih a ha hle
    rw [joinL_step hs]
    rcases step_cases hs with ⟨rfl, hk, rfl⟩ | ⟨rfl, hk, rfl⟩ | ⟨c, cs, d, ds, rfl, rfl, kc, kd, rfl, rfl, rfl⟩
    · have f0 := from_nonneg gx.head.1
      have p0 : partB s a e = e0 := by unfold partB; rw [if_neg (by omega), if_pos hk]
      simp only [appB, sumOf] at hle ⊢
      rw [p0, e0_left, e0_left, ih (a + fromC e) (by omega) (by omega)]
    · have f0 : fromC e = 0 := by unfold fromC; rw [if_pos hk]
      simp only [appB]
      rw [f0, Int.add_zero, Int.add_zero, ih a ha hle, part_put (a := a) (b := 0) (by omega)]
      unfold partB
      have q0 : ¬ e.k = 0 := by omega
      have q2 : ¬ e.k = 2 := by omega
      simp only [if_neg q0, if_neg q2]
    · obtain ⟨sc, pc⟩ := gx.head
      obtain ⟨sd, pd⟩ := gy.head
      have h0 : 0 ≤ min c.sz d.sz := by omega
      have h1 : min c.sz d.sz ≤ c.sz := by omega
      have h2 : min c.sz d.sz ≤ d.sz := by omega
      generalize min c.sz d.sz = n at *
      obtain ⟨m1, m2, m3, m4, m5⟩ := meet_facts sc sd kc kd h0 h1 h2
      have f0 := from_nonneg (take_soft sc h0)
      have e1 := sum_tail (f := fromC) from_join (cs := cs) sc h0 h1
      have fs : 0 ≤ sumOf fromC (tailC c n cs) := sumOf_nonneg fun x hx => from_nonneg (ok.gx x hx).1
      rw [app_tail (cs := cs) sc ha h0 h1, app_tail (cs := ds) sd (Int.le_refl 0) h0 h2]
      have hP := part_size (s := s) (a := a) (take_soft sc h0) ha (by omega)
      simp only [appB]
      rw [m2, ih (a + fromC (takeC c n)) (by omega) (by omega), m5]
      generalize appB s (a + fromC (takeC c n)) (tailC c n cs) = T
      have hR := appB_right (s := partB s a (takeC c n)) (t := T) (a := 0) ok.gy.soft (Int.le_refl 0)
      rw [Int.add_zero, hP, m4] at hR
      rw [Int.zero_add, hR]
      congr 1
      rw [part_left (take_soft sd h0) (Int.le_refl 0) (by omega)]
      have k2 := take_k d n
      have k1 := take_k c n
      by_cases hd0 : d.k = 0
      · have hl := ba_len (partB s a (takeC c n))
        have ez : (takeC d n).n = n := by unfold takeC; rw [if_neg kd]
        have em : meetC (takeC c n) (takeC d n) = takeC c n := by unfold meetC; rw [if_pos (by omega)]
        rw [em]
        generalize partB s a (takeC c n) = P at *
        unfold partB
        rw [if_pos (by omega), ez]
        refine ba_ext ?_
        rw [ba_extract, show (0 : Int).toNat = 0 from rfl, List.drop_zero, List.take_of_length_le (by omega)]
      · have hd2 : d.k = 2 := by
          rcases soft_form sd with ⟨m, hm, rfl⟩ | ⟨m, hm, rfl⟩ | ⟨t, rfl⟩
          · exact absurd rfl hd0
          · rfl
          · exact absurd rfl kd
        have er : partB (partB s a (takeC c n)) 0 (takeC d n) = e0 := by
          conv => lhs; unfold partB
          rw [if_neg (by omega), if_pos (by omega)]
        rw [er]
        by_cases hc0 : c.k = 0
        · have em : meetC (takeC c n) (takeC d n) = takeC d n := by unfold meetC; rw [if_neg (by omega), if_pos (by omega)]
          rw [em]; unfold partB; rw [if_neg (by omega), if_pos (by omega)]
        · have em : meetC (takeC c n) (takeC d n) = ⟨0, 0, e0⟩ := by unfold meetC; rw [if_neg (by omega), if_neg (by omega)]
          rw [em]; exact part_zero (by simp [C.Soft, e0_size]) (by simp [C.sz, e0_size])

/-- An edit that keeps so many bytes. -/
def kp (n : Int) : List C := if 0 < n then [⟨0, n, e0⟩] else []
theorem kp_pos {n : Int} (h : 0 < n) : kp n = [⟨0, n, e0⟩] := if_pos h
theorem kp_head (n : Int) : ∀ c, (kp n).head? = some c → c.k ≠ 2 := by
  intro c hc
  unfold kp at hc
  split at hc <;> simp at hc
  subst hc; simp
theorem kp_tail {n m : Int} (h1 : m ≤ n) : tailC ⟨0, n, e0⟩ m [] = kp (n - m) := by
  have hz : (⟨0, n, e0⟩ : C).sz = n := by simp [C.sz, e0_size]
  have hd : dropC (⟨0, n, e0⟩ : C) m = ⟨0, n - m, e0⟩ := by simp [dropC]
  unfold tailC kp
  rw [hz, hd]
  by_cases h : m = n
  · rw [if_pos h, if_neg (by omega)]
  · rw [if_neg h, if_pos (by omega)]
theorem tail_all (c : C) (cs : List C) : tailC c c.sz cs = cs := if_pos rfl

theorem join_keep_left : ∀ (a : List C) (n : Int), Gd a → n = sumOf fromC a → joinL (kp n) a = a
  | [], n, _, hn => by
    simp [sumOf] at hn; subst hn; rfl
  | d :: ds, n, g, hn => by
    simp only [sumOf] at hn
    have fs : 0 ≤ sumOf fromC ds := sumOf_nonneg fun x hx => from_nonneg (g.tail x hx).1
    obtain ⟨sd, pd⟩ := g.head
    by_cases hd : d.k = 1
    · have f0 : fromC d = 0 := by unfold fromC; rw [if_pos hd]
      rw [joinL_step (step_put (kp n) ds hd (kp_head n)), join_keep_left ds n g.tail (by omega)]
    · have f0 : fromC d = d.sz := by
        rcases soft_form sd with ⟨m, hm, rfl⟩ | ⟨m, hm, rfl⟩ | ⟨t, rfl⟩
        · simp [fromC, C.sz, e0_size]
        · simp [fromC, C.sz, e0_size]
        · exact absurd rfl hd
      rw [kp_pos (by omega), joinL_step (step_both [] ds (by simp) hd)]
      have hz : (⟨0, n, e0⟩ : C).sz = n := by simp [C.sz, e0_size]
      rw [hz, Int.min_eq_right (by omega), kp_tail (by omega), tail_all, join_keep_left ds (n - d.sz) g.tail (by omega), take_all sd]
      congr 1
      unfold meetC
      split
      · rename_i h0
        have ht : takeC (⟨0, n, e0⟩ : C) d.sz = ⟨0, d.sz, e0⟩ := by simp [takeC]
        rw [ht]
        rcases soft_form sd with ⟨m, hm, rfl⟩ | ⟨m, hm, rfl⟩ | ⟨t, rfl⟩
        · simp [C.sz, e0_size]
        · cases h0
        · cases h0
      · rw [if_pos (by rw [take_k])]
theorem join_keep_right : ∀ (a : List C) (n : Int), Gd a → n = sumOf toC a → joinL a (kp n) = a
  | [], n, _, hn => by
    simp [sumOf] at hn; subst hn; rfl
  | c :: cs, n, g, hn => by
    simp only [sumOf] at hn
    have fs : 0 ≤ sumOf toC cs := sumOf_nonneg fun x hx => to_nonneg (g.tail x hx).1
    obtain ⟨sc, pc⟩ := g.head
    by_cases hc : c.k = 2
    · have f0 : toC c = 0 := by unfold toC; rw [if_pos hc]
      rw [joinL_step (step_cut cs (kp n) hc), join_keep_right cs n g.tail (by omega)]
    · have f0 : toC c = c.sz := by unfold toC; rw [if_neg hc]
      rw [kp_pos (by omega), joinL_step (step_both cs [] hc (by simp))]
      have hz : (⟨0, n, e0⟩ : C).sz = n := by simp [C.sz, e0_size]
      rw [hz, Int.min_eq_left (by omega), kp_tail (by omega), tail_all, join_keep_right cs (n - c.sz) g.tail (by omega), take_all sc]
      unfold meetC
      rw [if_pos (by rw [take_k])]

/-- Two edits under way: what is made, what is left of each. -/
structure JI (J acc X Y : List C) (L : Nat) : Prop where
  fold : (joinL X Y).foldl addC acc = J
  gx : Gd X
  gy : Gd Y
  eq : sumOf toC X = sumOf fromC Y
  soft : ∀ c ∈ acc, c.Soft
  len : acc.length + (X.length + Y.length) ≤ L
  from' : sumOf fromC acc + sumOf fromC X ≤ 4096
  to' : sumOf toC acc + sumOf toC Y ≤ 4096

theorem JI.start {a b : List C} (ha : MayP a) (hb : MayP b) (eq : sumOf toC a = sumOf fromC b) : JI (normOf (joinL a b)) [] a b (a.length + b.length) :=
  ⟨rfl, gd_of_may ha, gd_of_may hb, eq, fun c h => by simp at h, by simp, by have := (okB_iff.1 ha.1).2.2.1; simp [sumOf]; omega, by have := (okB_iff.1 hb.1).2.2.2; simp [sumOf]; omega⟩
theorem JI.step {J acc X Y X' Y' : List C} {L : Nat} {e : C} (h : JI J acc X Y L) (hs : stepC X Y = some (e, X', Y')) : JI J (addC acc e) X' Y' L := by
  have ok := step_ok hs h.gx h.gy h.eq
  have hl := step_lt hs
  have al := addC_length acc e
  have h1 := h.len
  have h2 := h.from'
  have h3 := h.to'
  have o1 := ok.from'
  have o2 := ok.to'
  have e1 := sum_addC from_join from_zero acc ok.soft
  have e2 := sum_addC to_join to_zero acc ok.soft
  refine ⟨?_, ok.gx, ok.gy, ok.eq, addC_soft h.soft ok.soft, by omega, by omega, by omega⟩
  rw [← h.fold, joinL_step hs]; rfl
theorem JI.done {J acc : List C} {L : Nat} (h : JI J acc [] [] L) : acc = J := h.fold
theorem JI.fits {J acc X Y : List C} {L : Nat} (h : JI J acc X Y L) : ∀ x ∈ acc, Fit x := by
  have h2 := h.from'
  have h3 := h.to'
  have f1 := sumOf_nonneg (f := fromC) (cs := X) fun c hc => from_nonneg (h.gx c hc).1
  have f2 := sumOf_nonneg (f := toC) (cs := Y) fun c hc => to_nonneg (h.gy c hc).1
  exact fun x hx => fit_raw (raw_of_soft h.soft (by omega) (by omega) x hx)
theorem JI.raw {J acc X Y X' Y' : List C} {L : Nat} {e : C} (h : JI J acc X Y L) (hs : stepC X Y = some (e, X', Y')) : e.Raw := by
  have ok := step_ok hs h.gx h.gy h.eq
  have h2 := h.from'
  have h3 := h.to'
  have o1 := ok.from'
  have o2 := ok.to'
  have f1 := sumOf_nonneg (f := fromC) (cs := X') fun c hc => from_nonneg (ok.gx c hc).1
  have f2 := sumOf_nonneg (f := toC) (cs := Y') fun c hc => to_nonneg (ok.gy c hc).1
  have f3 := sumOf_nonneg (f := fromC) (cs := acc) fun c hc => from_nonneg (h.soft c hc)
  have f4 := sumOf_nonneg (f := toC) (cs := acc) fun c hc => to_nonneg (h.soft c hc)
  exact raw_of_soft (cs := [e]) (fun c hc => by simp at hc; subst hc; exact ok.soft) (by simp only [sumOf]; omega) (by simp only [sumOf]; omega) e (by simp)

theorem JI.empty {J acc X Y : List C} {L : Nat} (h : JI J acc X Y L) (hn : X = [] ∧ Y = [] → False) : ∃ e X' Y', stepC X Y = some (e, X', Y') := by
  cases hs : stepC X Y with
  | none => exact absurd (step_some h.gx h.gy h.eq hs) hn
  | some r => obtain ⟨e, X', Y'⟩ := r; exact ⟨e, X', Y', rfl⟩

/-- Where two edits have a composition. -/
def ComP (a b : List C) : Prop := MayP a ∧ MayP b ∧ sumOf toC a = sumOf fromC b ∧ MayP (normOf (joinL a b))
theorem com_sums {a b : List C} (ha : MayP a) (hb : MayP b) (eq : sumOf toC a = sumOf fromC b) : sumOf fromC (normOf (joinL a b)) = sumOf fromC a ∧ sumOf toC (normOf (joinL a b)) = sumOf toC b := by
  obtain ⟨h1, h2, h3⟩ := join_sums (gd_of_may ha) (gd_of_may hb) eq
  rw [sum_normOf from_join from_zero _ h1, sum_normOf to_join to_zero _ h1]
  exact ⟨h2, h3⟩
theorem com_may {a b : List C} (ha : MayP a) (hb : MayP b) (eq : sumOf toC a = sumOf fromC b) (hl : a.length + b.length ≤ 4096) : ComP a b := by
  obtain ⟨h1, h2, h3⟩ := join_sums (gd_of_may ha) (gd_of_may hb) eq
  have a1 := (okB_iff.1 ha.1).2.2.1
  have b1 := (okB_iff.1 hb.1).2.2.2
  have l1 := joinL_length a b
  have ok : okB (joinL a b) = true := okB_iff.2 ⟨by omega, raw_of_soft h1 (by omega) (by omega), by omega, by omega⟩
  exact ⟨ha, hb, eq, okB_normOf ok, norm_normOf h1⟩
theorem com_app {s : ByteArray} {a b : List C} (ha : MayP a) (hb : MayP b) (eq : sumOf toC a = sumOf fromC b) (hs : sumOf fromC a = s.size) : appB s 0 (normOf (joinL a b)) = appB (appB s 0 a) 0 b := by
  obtain ⟨h1, h2, h3⟩ := join_sums (gd_of_may ha) (gd_of_may hb) eq
  rw [appB_normOf (Int.le_refl 0) _ h1, join_app (gd_of_may ha) (gd_of_may hb) eq 0 (Int.le_refl 0) (by omega)]
theorem norm_of_may {a : List C} (ha : MayP a) : normOf a = a := (normOf_iff (gd_of_may ha).soft).2 ha.2
theorem kp_may {n : Int} (h0 : 0 ≤ n) (h1 : n ≤ 4096) : MayP (kp n) := by
  unfold kp
  split
  · refine ⟨okB_iff.2 ⟨by simp, ?_, by simp [sumOf, fromC, h1], by simp [sumOf, toC, C.sz, e0_size, h1]⟩, ?_⟩
    · intro c hc; simp at hc; subst hc; simp [C.Raw, e0_size, h0, h1]
    · intro i c hi
      cases i with
      | zero => simp at hi; subst hi; exact ⟨by simp [C.sz, e0_size]; omega, fun l h => absurd rfl h⟩
      | succ i => simp at hi
  · exact lit0_may
theorem kp_from {n : Int} (h0 : 0 ≤ n) : sumOf fromC (kp n) = n ∧ sumOf toC (kp n) = n := by
  unfold kp
  split
  · simp [sumOf, fromC, toC, C.sz, e0_size]
  · simp [sumOf]; omega

end Go.Proofs.Ytdpjkafabjhkiaa
