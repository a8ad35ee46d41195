/-
  Two edits of one text, each as it is behind the other, as plain lists of pieces. No program in it; conditions: as each theorem's premises say.
-/
import Derived.Test.YtkknkannjoijbaaComM
namespace Go.Proofs.Ytkknkannjoijbaa
open Go.RowKit

/-- What is left to do of a piece behind the other edit's over the same bytes. -/
def leftC (c done : C) : C := if done.k = 0 then c else ⟨0, 0, e0⟩
/-- What the other edit keeps of a put. -/
def kpC (c : C) : C := ⟨0, c.sz, e0⟩
/-- How many bytes a piece puts. -/
def putZ (c : C) : Int := if c.k = 1 then c.sz else 0

/-- One step of two edits. -/
def stepT (f : Bool) : List C → List C → Option (C × C × List C × List C)
  | [], [] => none
  | [], d :: ds => if d.k = 1 then some (kpC d, d, [], ds) else none
  | c :: cs, [] => if c.k = 1 then some (c, kpC c, cs, []) else none
  | c :: cs, d :: ds => if c.k = 1 ∧ (f = true ∨ d.k ≠ 1) then some (c, kpC c, cs, d :: ds) else if d.k = 1 then some (kpC d, d, c :: cs, ds) else if c.k = 1 then none else
      some (leftC (takeC c (min c.sz d.sz)) (takeC d (min c.sz d.sz)), leftC (takeC d (min c.sz d.sz)) (takeC c (min c.sz d.sz)), tailC c (min c.sz d.sz) cs, tailC d (min c.sz d.sz) ds)
def traF (f : Bool) : Nat → List C → List C → List (C × C)
  | 0, _, _ => []
  | m + 1, xs, ys => match stepT f xs ys with
    | none => []
    | some (p, q, xs', ys') => (p, q) :: traF f m xs' ys'
/-- Two edits, each behind the other, step by step. -/
def traL (f : Bool) (xs ys : List C) : List (C × C) := traF f (xs.length + ys.length) xs ys
/-- The first behind the second; the second behind the first. -/
def traP (f : Bool) (xs ys : List C) : List C := (traL f xs ys).map Prod.fst
def traQ (f : Bool) (xs ys : List C) : List C := (traL f xs ys).map Prod.snd

theorem stepT_A {f : Bool} {c : C} (cs Y : List C) (h : c.k = 1) (hf : f = true ∨ ∀ d ds, Y = d :: ds → d.k ≠ 1) : stepT f (c :: cs) Y = some (c, kpC c, cs, Y) := by
  cases Y with
  | nil => simp [stepT, h]
  | cons d ds =>
    have : f = true ∨ d.k ≠ 1 := hf.imp id fun g => g d ds rfl
    simp [stepT, h, this]
theorem stepT_B {f : Bool} {d : C} (X ds : List C) (h : d.k = 1) (hf : ∀ c cs, X = c :: cs → c.k = 1 → f = false) : stepT f X (d :: ds) = some (kpC d, d, X, ds) := by
  cases X with
  | nil => simp [stepT, h]
  | cons c cs =>
    by_cases hc : c.k = 1
    · simp [stepT, h, hf c cs rfl hc]
    · simp [stepT, h, hc]
theorem stepT_C {f : Bool} {c d : C} (cs ds : List C) (hc : c.k ≠ 1) (hd : d.k ≠ 1) : stepT f (c :: cs) (d :: ds) = some (leftC (takeC c (min c.sz d.sz)) (takeC d (min c.sz d.sz)), leftC (takeC d (min c.sz d.sz)) (takeC c (min c.sz d.sz)), tailC c (min c.sz d.sz) cs, tailC d (min c.sz d.sz) ds) := by simp [stepT, hc, hd]
theorem stepT_cases {f : Bool} {X Y X' Y' : List C} {p q : C} (h : stepT f X Y = some (p, q, X', Y')) :
    (X = p :: X' ∧ p.k = 1 ∧ q = kpC p ∧ Y' = Y ∧ (f = true ∨ ∀ d ds, Y = d :: ds → d.k ≠ 1)) ∨
    (Y = q :: Y' ∧ q.k = 1 ∧ p = kpC q ∧ X' = X ∧ ∀ c cs, X = c :: cs → c.k = 1 → f = false) ∨
    (∃ c cs d ds, X = c :: cs ∧ Y = d :: ds ∧ c.k ≠ 1 ∧ d.k ≠ 1 ∧ p = leftC (takeC c (min c.sz d.sz)) (takeC d (min c.sz d.sz)) ∧ q = leftC (takeC d (min c.sz d.sz)) (takeC c (min c.sz d.sz)) ∧ X' = tailC c (min c.sz d.sz) cs ∧ Y' = tailC d (min c.sz d.sz) ds) := by
  cases X with
  | nil =>
    cases Y with
    | nil => simp [stepT] at h
    | cons d ds =>
      simp only [stepT] at h
      split at h
      · simp at h; obtain ⟨rfl, rfl, rfl, rfl⟩ := h; exact .inr (.inl ⟨rfl, by assumption, rfl, rfl, fun _ _ e => by cases e⟩)
      · cases h
  | cons c cs =>
    cases Y with
    | nil =>
      simp only [stepT] at h
      split at h
      · simp at h; obtain ⟨rfl, rfl, rfl, rfl⟩ := h; exact .inl ⟨rfl, by assumption, rfl, rfl, .inr fun _ _ e => by cases e⟩
      · cases h
    | cons d ds =>
      simp only [stepT] at h
      split at h
      · rename_i hh
        simp at h; obtain ⟨rfl, rfl, rfl, rfl⟩ := h
        exact .inl ⟨rfl, hh.1, rfl, rfl, hh.2.imp id fun g d' ds' e => by cases e; exact g⟩
      · rename_i hh
        split at h
        · rename_i hd
          simp at h; obtain ⟨rfl, rfl, rfl, rfl⟩ := h
          refine .inr (.inl ⟨rfl, hd, rfl, rfl, fun c' cs' e hc => ?_⟩)
          cases e
          cases f
          · rfl
          · exact absurd ⟨hc, .inl rfl⟩ hh
        · rename_i hd
          split at h
          · cases h
          · rename_i hc
            simp at h
            obtain ⟨h1, h2, h3, h4⟩ := h
            exact .inr (.inr ⟨c, cs, d, ds, rfl, rfl, hc, hd, h1.symm, h2.symm, h3.symm, h4.symm⟩)
theorem both_lt {c d : C} {cs ds : List C} : (tailC c (min c.sz d.sz) cs).length + (tailC d (min c.sz d.sz) ds).length < (c :: cs).length + (d :: ds).length := by
  have a1 := tail_length c (min c.sz d.sz) cs
  have a2 := tail_length d (min c.sz d.sz) ds
  have a3 := tail_length_all c cs
  have a4 := tail_length_all d ds
  simp only [List.length_cons]
  rcases Int.le_total c.sz d.sz with h | h
  · rw [Int.min_eq_left h] at *; omega
  · rw [Int.min_eq_right h] at *; omega
theorem stepT_lt {f : Bool} {X Y X' Y' : List C} {p q : C} (h : stepT f X Y = some (p, q, X', Y')) : X'.length + Y'.length < X.length + Y.length := by
  rcases stepT_cases h with ⟨rfl, -, -, rfl, -⟩ | ⟨rfl, -, -, rfl, -⟩ | ⟨c, cs, d, ds, rfl, rfl, -, -, -, -, rfl, rfl⟩
  · simp
  · simp
  · exact both_lt
theorem traF_enough (f : Bool) : ∀ (m n : Nat) (X Y : List C), X.length + Y.length ≤ m → X.length + Y.length ≤ n → traF f m X Y = traF f n X Y
  | 0, 0, _, _, _, _ => rfl
  | 0, g + 1, X, Y, h, _ => by
    obtain rfl : X = [] := List.eq_nil_of_length_eq_zero (by omega)
    obtain rfl : Y = [] := List.eq_nil_of_length_eq_zero (by simpa using h)
    simp [traF, stepT]
  | m + 1, 0, X, Y, _, h => by
    obtain rfl : X = [] := List.eq_nil_of_length_eq_zero (by omega)
    obtain rfl : Y = [] := List.eq_nil_of_length_eq_zero (by simpa using h)
    simp [traF, stepT]
  | m + 1, g + 1, X, Y, h, h' => by
    simp only [traF]
    cases hs : stepT f X Y with
    | none => rfl
    | some r =>
      obtain ⟨p, q, X', Y'⟩ := r
      have := stepT_lt hs
      simp only
      rw [traF_enough f m g X' Y' (by omega) (by omega)]
theorem traL_nil (f : Bool) : traL f [] [] = [] := rfl
theorem traL_step {f : Bool} {X Y X' Y' : List C} {p q : C} (h : stepT f X Y = some (p, q, X', Y')) : traL f X Y = (p, q) :: traL f X' Y' := by
  have hl := stepT_lt h
  unfold traL
  obtain ⟨m, hm⟩ : ∃ m, X.length + Y.length = m + 1 := ⟨X.length + Y.length - 1, by omega⟩
  rw [hm]
  simp only [traF, h]
  rw [traF_enough f m _ X' Y' (by omega) (Nat.le_refl _)]
theorem traP_step {f : Bool} {X Y X' Y' : List C} {p q : C} (h : stepT f X Y = some (p, q, X', Y')) : traP f X Y = p :: traP f X' Y' := by unfold traP; rw [traL_step h]; rfl
theorem traQ_step {f : Bool} {X Y X' Y' : List C} {p q : C} (h : stepT f X Y = some (p, q, X', Y')) : traQ f X Y = q :: traQ f X' Y' := by unfold traQ; rw [traL_step h]; rfl
theorem traL_length (f : Bool) (X Y : List C) : (traL f X Y).length ≤ X.length + Y.length := by
  unfold traL
  generalize X.length + Y.length = m
  induction m generalizing X Y with
  | zero => simp [traF]
  | succ m ih =>
    simp only [traF]
    split
    · simp
    · simp; exact ih _ _
theorem traP_length (f : Bool) (X Y : List C) : (traP f X Y).length ≤ X.length + Y.length := by unfold traP; rw [List.length_map]; exact traL_length f X Y
theorem traQ_length (f : Bool) (X Y : List C) : (traQ f X Y).length ≤ X.length + Y.length := by unfold traQ; rw [List.length_map]; exact traL_length f X Y

/-- What a step leaves. -/
structure StepT (X Y : List C) (p q : C) (X' Y' : List C) : Prop where
  gx : Gd X'
  gy : Gd Y'
  eq : sumOf fromC X' = sumOf fromC Y'
  softP : p.Soft
  softQ : q.Soft
  fromP : fromC p + sumOf toC Y' = sumOf toC Y
  fromQ : fromC q + sumOf toC X' = sumOf toC X
  same : toC p = toC q
  to' : toC p + sumOf toC X' + sumOf putZ Y' ≤ sumOf toC X + sumOf putZ Y

theorem put_join (l c : C) (h : l.k = c.k) : putZ (l.join c) = putZ l + putZ c := by
  have := join_sz l c
  have hk : (l.join c).k = c.k := h
  unfold putZ; rw [hk, h, this]; split <;> omega
theorem put_nonneg {c : C} (h : c.Soft) : 0 ≤ putZ c := by have := Soft.sz0 h; unfold putZ; split <;> omega
theorem put_le {c : C} (h : c.Soft) : putZ c ≤ toC c := by have := Soft.sz0 h; unfold putZ toC; split <;> split <;> omega
theorem kpC_soft {c : C} (h : c.Soft) : (kpC c).Soft := .inl ⟨.inl rfl, Soft.sz0 h, e0_size⟩
theorem kpC_from (c : C) : fromC (kpC c) = c.sz := by simp [kpC, fromC]
theorem kpC_to (c : C) : toC (kpC c) = c.sz := by simp [kpC, toC, C.sz, e0_size]
theorem zero_soft : (⟨0, 0, e0⟩ : C).Soft := .inl ⟨.inl rfl, by simp, e0_size⟩

theorem left_facts {c d : C} {n : Int} (hc : c.Soft) (hd : d.Soft) (kc : c.k ≠ 1) (kd : d.k ≠ 1) (h0 : 0 ≤ n) (h1 : n ≤ c.sz) (h2 : n ≤ d.sz) :
    (leftC (takeC c n) (takeC d n)).Soft ∧ fromC (leftC (takeC c n) (takeC d n)) = toC (takeC d n) ∧ toC (leftC (takeC c n) (takeC d n)) ≤ toC (takeC c n) ∧
    toC (leftC (takeC c n) (takeC d n)) = toC (leftC (takeC d n) (takeC c n)) ∧ fromC (takeC c n) = n ∧ putZ (takeC c n) = 0 := by
  have s1 := take_soft hc h0
  have s2 := take_soft hd h0
  have z1 := take_sz hc h0 h1
  have z2 := take_sz hd h0 h2
  have k1 := take_k c n
  have k2 := take_k d n
  generalize takeC c n = a at *
  generalize takeC d n = b at *
  clear hc hd h1 h2
  rcases soft_form s1 with ⟨m, hm, rfl⟩ | ⟨m, hm, rfl⟩ | ⟨t, rfl⟩
  · rcases soft_form s2 with ⟨m', hm', rfl⟩ | ⟨m', hm', rfl⟩ | ⟨t', rfl⟩
    · simp [C.sz, e0_size] at z1 z2; simp [leftC, fromC, toC, putZ, C.Soft, C.sz, e0_size]; omega
    · simp [C.sz, e0_size] at z1 z2; simp [leftC, fromC, toC, putZ, C.Soft, C.sz, e0_size]; omega
    · dsimp only at k2; omega
  · rcases soft_form s2 with ⟨m', hm', rfl⟩ | ⟨m', hm', rfl⟩ | ⟨t', rfl⟩
    · simp [C.sz, e0_size] at z1 z2; simp [leftC, fromC, toC, putZ, C.Soft, C.sz, e0_size]; omega
    · simp [C.sz, e0_size] at z1 z2; simp [leftC, fromC, toC, putZ, C.Soft, C.sz, e0_size]; omega
    · dsimp only at k2; omega
  · dsimp only at k1; omega

theorem stepT_ok {f : Bool} {X Y X' Y' : List C} {p q : C} (hs : stepT f X Y = some (p, q, X', Y')) (gx : Gd X) (gy : Gd Y) (eq : sumOf fromC X = sumOf fromC Y) : StepT X Y p q X' Y' := by
  rcases stepT_cases hs with ⟨rfl, hk, rfl, rfl, -⟩ | ⟨rfl, hk, rfl, rfl, -⟩ | ⟨c, cs, d, ds, rfl, rfl, kc, kd, rfl, rfl, rfl, rfl⟩
  · have t0 : fromC p = 0 := by unfold fromC; rw [if_pos hk]
    have t1 : toC p = p.sz := by unfold toC; rw [if_neg (by omega)]
    have t2 := kpC_from p
    have t3 := kpC_to p
    simp only [sumOf, t0] at eq
    exact ⟨gx.tail, gy, by omega, gx.head.1, kpC_soft gx.head.1, by rw [t0]; omega, by simp only [sumOf]; omega, by omega, by simp only [sumOf]; omega⟩
  · have t0 : fromC q = 0 := by unfold fromC; rw [if_pos hk]
    have t1 : toC q = q.sz := by unfold toC; rw [if_neg (by omega)]
    have t4 : putZ q = q.sz := by unfold putZ; rw [if_pos hk]
    have t2 := kpC_from q
    have t3 := kpC_to q
    simp only [sumOf, t0] at eq
    exact ⟨gx, gy.tail, by omega, kpC_soft gy.head.1, gy.head.1, by simp only [sumOf]; omega, by rw [t0]; omega, by omega, by simp only [sumOf]; omega⟩
  · obtain ⟨sc, pc⟩ := gx.head
    obtain ⟨sd, pd⟩ := gy.head
    have h0 : 0 ≤ min c.sz d.sz := by omega
    have h1 : min c.sz d.sz ≤ c.sz := by omega
    have h2 : min c.sz d.sz ≤ d.sz := by omega
    generalize min c.sz d.sz = n at *
    obtain ⟨m1, m2, m3, m4, m5, m6⟩ := left_facts sc sd kc kd h0 h1 h2
    obtain ⟨n1, n2, n3, n4, n5, n6⟩ := left_facts sd sc kd kc h0 h2 h1
    have e1 := sum_tail (f := fromC) from_join (cs := cs) sc h0 h1
    have e2 := sum_tail (f := fromC) from_join (cs := ds) sd h0 h2
    have e3 := sum_tail (f := toC) to_join (cs := cs) sc h0 h1
    have e4 := sum_tail (f := toC) to_join (cs := ds) sd h0 h2
    have e5 := sum_tail (f := putZ) put_join (cs := ds) sd h0 h2
    exact ⟨gx.tailC h0 h1, gy.tailC h0 h2, by omega, m1, n1, by omega, by omega, m4, by omega⟩

theorem stepT_some {f : Bool} {X Y : List C} (gx : Gd X) (gy : Gd Y) (eq : sumOf fromC X = sumOf fromC Y) (hn : stepT f X Y = none) : X = [] ∧ Y = [] := by
  have pos : ∀ (e : C) (es : List C), Gd (e :: es) → e.k ≠ 1 → 0 < sumOf fromC (e :: es) := by
    intro e es g hk
    have h1 := sumOf_nonneg (f := fromC) (cs := es) fun x hx => from_nonneg (g.tail x hx).1
    obtain ⟨sd, pd⟩ := g.head
    have : fromC e = e.sz := by
      rcases soft_form sd with ⟨m, hm, rfl⟩ | ⟨m, hm, rfl⟩ | ⟨t, rfl⟩
      · simp [fromC, C.sz, e0_size]
      · simp [fromC, C.sz, e0_size]
      · exact absurd rfl hk
    simp only [sumOf]; omega
  cases X with
  | nil =>
    cases Y with
    | nil => exact ⟨rfl, rfl⟩
    | cons d ds =>
      exfalso
      simp only [stepT] at hn
      split at hn
      · cases hn
      · have := pos d ds gy (by assumption)
        rw [← eq] at this; simp [sumOf] at this
  | cons c cs =>
    exfalso
    cases Y with
    | nil =>
      simp only [stepT] at hn
      split at hn
      · cases hn
      · have := pos c cs gx (by assumption)
        rw [eq] at this; simp [sumOf] at this
    | cons d ds =>
      by_cases hc : c.k = 1
      · by_cases hd : d.k = 1
        · cases f
          · rw [stepT_B (c :: cs) ds hd (fun _ _ _ _ => rfl)] at hn; cases hn
          · rw [stepT_A cs (d :: ds) hc (.inl rfl)] at hn; cases hn
        · rw [stepT_A cs (d :: ds) hc (.inr fun d' ds' e => by cases e; exact hd)] at hn; cases hn
      · by_cases hd : d.k = 1
        · rw [stepT_B (c :: cs) ds hd (fun c' cs' e h => by cases e; exact absurd h hc)] at hn; cases hn
        · rw [stepT_C cs ds hc hd] at hn; cases hn

/-- Step by step. -/
theorem tra_ind {f : Bool} {P : List C → List C → Prop} (h0 : P [] [])
    (h1 : ∀ X Y p q X' Y', Gd X → Gd Y → sumOf fromC X = sumOf fromC Y → stepT f X Y = some (p, q, X', Y') → StepT X Y p q X' Y' → P X' Y' → P X Y) :
    ∀ (m : Nat) (X Y : List C), X.length + Y.length ≤ m → Gd X → Gd Y → sumOf fromC X = sumOf fromC Y → P X Y := by
  intro m
  induction m with
  | zero =>
    intro X Y hl _ _ _
    obtain rfl : X = [] := List.eq_nil_of_length_eq_zero (by omega)
    obtain rfl : Y = [] := List.eq_nil_of_length_eq_zero (by simpa using hl)
    exact h0
  | succ m ih =>
    intro X Y hl gx gy eq
    cases hs : stepT f X Y with
    | none => obtain ⟨rfl, rfl⟩ := stepT_some gx gy eq hs; exact h0
    | some r =>
      obtain ⟨p, q, X', Y'⟩ := r
      have ok := stepT_ok hs gx gy eq
      have := stepT_lt hs
      exact h1 X Y p q X' Y' gx gy eq hs ok (ih X' Y' (by omega) ok.gx ok.gy ok.eq)

structure TraS (f : Bool) (X Y : List C) : Prop where
  softP : ∀ c ∈ traP f X Y, c.Soft
  softQ : ∀ c ∈ traQ f X Y, c.Soft
  fromP : sumOf fromC (traP f X Y) = sumOf toC Y
  fromQ : sumOf fromC (traQ f X Y) = sumOf toC X
  same : sumOf toC (traP f X Y) = sumOf toC (traQ f X Y)
  to' : sumOf toC (traP f X Y) ≤ sumOf toC X + sumOf putZ Y
theorem tra_sums {f : Bool} {X Y : List C} (gx : Gd X) (gy : Gd Y) (eq : sumOf fromC X = sumOf fromC Y) : TraS f X Y := by
  refine tra_ind (f := f) (P := fun X Y => TraS f X Y) ?_ ?_ _ X Y (Nat.le_refl _) gx gy eq
  · exact ⟨fun c h => by simp [traP, traL_nil] at h, fun c h => by simp [traQ, traL_nil] at h, rfl, rfl, rfl, by simp [traP, traL_nil, sumOf]⟩
  · intro X Y p q X' Y' _ _ _ hs ok ⟨i1, i2, i3, i4, i5, i6⟩
    have e1 := traP_step hs
    have e2 := traQ_step hs
    have o1 := ok.fromP
    have o2 := ok.fromQ
    have o3 := ok.same
    have o4 := ok.to'
    refine ⟨?_, ?_, ?_, ?_, ?_, ?_⟩
    · rw [e1]; intro c hc
      rcases List.mem_cons.1 hc with rfl | hc
      · exact ok.softP
      · exact i1 c hc
    · rw [e2]; intro c hc
      rcases List.mem_cons.1 hc with rfl | hc
      · exact ok.softQ
      · exact i2 c hc
    · rw [e1]; simp only [sumOf]; omega
    · rw [e2]; simp only [sumOf]; omega
    · rw [e1, e2]; simp only [sumOf]; omega
    · rw [e1]; simp only [sumOf]; omega

/-- Bytes ahead of a text are left alone by what begins behind them. -/
theorem app_skip {B T : ByteArray} {m : Int} {P : List C} (hP : ∀ c ∈ P, c.Soft) (hB : (B.size : Int) = m) : appB (B ++ T) m P = appB T 0 P := by
  have := appB_right (s := B) (t := T) (a := 0) hP (Int.le_refl 0)
  rw [Int.add_zero, hB] at this; exact this
theorem part_keep {B T : ByteArray} {m : Int} (hB : (B.size : Int) = m) : partB (B ++ T) 0 ⟨0, m, e0⟩ = B := by
  unfold partB
  rw [if_pos rfl]
  refine ba_ext ?_
  have hl := ba_len B
  rw [ba_extract, show (0 : Int).toNat = 0 from rfl, List.drop_zero, ba_append_list, Int.zero_add, Nat.sub_zero, show (m : Int).toNat = B.data.toList.length by omega, List.take_left]
theorem keep_put {c : C} {T : ByteArray} {P : List C} (hc : c.Soft) (hk : c.k = 1) (hP : ∀ x ∈ P, x.Soft) : appB (c.t ++ T) 0 (kpC c :: P) = c.t ++ appB T 0 P := by
  have hz : (c.t.size : Int) = c.sz := by
    rcases soft_form hc with ⟨m, hm, rfl⟩ | ⟨m, hm, rfl⟩ | ⟨t, rfl⟩
    · cases hk
    · cases hk
    · simp [C.sz]
  simp only [appB, kpC_from, Int.zero_add]
  rw [app_skip hP hz, show kpC c = ⟨0, c.sz, e0⟩ from rfl, part_keep hz]
theorem put_part (s : ByteArray) (a : Int) {c : C} (hk : c.k = 1) : partB s a c = c.t := by unfold partB; rw [if_neg (by omega), if_neg (by omega)]
theorem put_app (s : ByteArray) (a : Int) {c : C} (cs : List C) (hk : c.k = 1) : appB s a (c :: cs) = c.t ++ appB s a cs := by
  have t0 : fromC c = 0 := by unfold fromC; rw [if_pos hk]
  simp only [appB]; rw [put_part s a hk, t0, Int.add_zero]

/-- What both edits leave of bytes that both have. -/
def bothB (s : ByteArray) (a : Int) (c d : C) (n : Int) : ByteArray := if c.k = 0 ∧ d.k = 0 then s.extract a.toNat (a + n).toNat else e0
theorem take_num {c : C} {n : Int} (hk : c.k ≠ 1) : takeC c n = ⟨c.k, n, e0⟩ := by unfold takeC; rw [if_neg hk]
theorem kind02 {c : C} (hc : c.Soft) (hk : c.k ≠ 1) : c.k = 0 ∨ c.k = 2 := by unfold C.Soft at hc; omega
theorem both_app {s : ByteArray} {a n : Int} {c d : C} {Y P : List C} (hc : c.Soft) (hd : d.Soft) (kc : c.k ≠ 1) (kd : d.k ≠ 1) (ha : 0 ≤ a) (h0 : 0 ≤ n) (h2 : n ≤ d.sz) (hs : a + n ≤ s.size) (hP : ∀ x ∈ P, x.Soft) :
    appB (appB s a (d :: Y)) 0 (leftC (takeC c n) (takeC d n) :: P) = bothB s a c d n ++ appB (appB s (a + n) (tailC d n Y)) 0 P := by
  rw [app_tail (cs := Y) hd ha h0 h2]
  have f1 : fromC (takeC d n) = n := by rw [take_num kd]; unfold fromC; rw [if_neg kd]
  rw [f1]
  generalize appB s (a + n) (tailC d n Y) = T
  have hz := part_size (s := s) (a := a) (take_soft hd h0) ha (by rw [f1]; exact hs)
  rw [take_num kc]
  rw [take_num kd] at hz ⊢
  rcases kind02 hd kd with kd0 | kd2
  · rw [kd0] at hz ⊢
    have tz : toC (⟨0, n, e0⟩ : C) = n := by simp [toC, C.sz, e0_size]
    rw [tz] at hz
    have ep : partB s a ⟨0, n, e0⟩ = s.extract a.toNat (a + n).toNat := by unfold partB; rw [if_pos rfl]
    have el : leftC (⟨c.k, n, e0⟩ : C) ⟨0, n, e0⟩ = ⟨c.k, n, e0⟩ := by unfold leftC; rw [if_pos rfl]
    rw [el]
    simp only [appB]
    rw [show fromC (⟨c.k, n, e0⟩ : C) = n by unfold fromC; rw [if_neg kc], Int.zero_add, app_skip hP hz]
    congr 1
    unfold bothB
    rcases kind02 hc kc with kc0 | kc2
    · rw [kc0, kd0, if_pos ⟨rfl, rfl⟩, part_keep hz, ep]
    · rw [kc2, if_neg (by omega)]; unfold partB; rw [if_neg (by simp), if_pos rfl]
  · rw [kd2]
    have ep : partB s a ⟨2, n, e0⟩ = e0 := by unfold partB; rw [if_neg (by simp), if_pos rfl]
    have el : leftC (⟨c.k, n, e0⟩ : C) ⟨2, n, e0⟩ = ⟨0, 0, e0⟩ := by unfold leftC; rw [if_neg (by simp)]
    rw [el, ep, e0_left]
    simp only [appB]
    rw [show fromC (⟨0, 0, e0⟩ : C) = 0 by simp [fromC], Int.add_zero, part_zero zero_soft (by simp [C.sz, e0_size]), e0_left]
    unfold bothB
    rw [if_neg (by omega), e0_left]
theorem bothB_comm (s : ByteArray) (a : Int) (c d : C) (n : Int) : bothB s a c d n = bothB s a d c n := by unfold bothB; simp only [And.comm]

/-- Both roads lead to one text. -/
theorem tra_app {f : Bool} {s : ByteArray} {X Y : List C} (gx : Gd X) (gy : Gd Y) (eq : sumOf fromC X = sumOf fromC Y) :
    ∀ a : Int, 0 ≤ a → a + sumOf fromC X ≤ s.size → appB (appB s a Y) 0 (traP f X Y) = appB (appB s a X) 0 (traQ f X Y) := by
  refine tra_ind (f := f) (P := fun X Y => ∀ a : Int, 0 ≤ a → a + sumOf fromC X ≤ s.size → appB (appB s a Y) 0 (traP f X Y) = appB (appB s a X) 0 (traQ f X Y)) ?_ ?_ _ X Y (Nat.le_refl _) gx gy eq
  · intro a _ _; rfl
  · intro X Y p q X' Y' gx gy eq hs ok ih a ha hle
    have S := tra_sums (f := f) ok.gx ok.gy ok.eq
    rw [traP_step hs, traQ_step hs]
    rcases stepT_cases hs with ⟨rfl, hk, rfl, rfl, -⟩ | ⟨rfl, hk, rfl, rfl, -⟩ | ⟨c, cs, d, ds, rfl, rfl, kc, kd, rfl, rfl, rfl, rfl⟩
    · have t0 : fromC p = 0 := by unfold fromC; rw [if_pos hk]
      simp only [sumOf] at hle
      rw [put_app _ _ _ hk, put_app _ _ _ hk, keep_put gx.head.1 hk S.softQ, ih a ha (by omega)]
    · rw [put_app _ _ _ hk, put_app _ _ _ hk, keep_put gy.head.1 hk S.softP, ih a ha hle]
    · obtain ⟨sc, pc⟩ := gx.head
      obtain ⟨sd, pd⟩ := gy.head
      have h0 : 0 ≤ min c.sz d.sz := by omega
      have h1 : min c.sz d.sz ≤ c.sz := by omega
      have h2 : min c.sz d.sz ≤ d.sz := by omega
      generalize min c.sz d.sz = n at *
      have f1 : fromC (takeC c n) = n := by rw [take_num kc]; unfold fromC; rw [if_neg kc]
      have e1 := sum_tail (f := fromC) from_join (cs := cs) sc h0 h1
      have fs : 0 ≤ sumOf fromC (tailC c n cs) := sumOf_nonneg fun x hx => from_nonneg (ok.gx x hx).1
      rw [both_app sc sd kc kd ha h0 h2 (by omega) S.softP, both_app sd sc kd kc ha h0 h1 (by omega) S.softQ, ih (a + n) (by omega) (by omega), bothB_comm]

/-- Turned about, with the other one first. -/
theorem step_swap (f : Bool) {X Y X' Y' : List C} {p q : C} (h : stepT f X Y = some (p, q, X', Y')) : stepT (!f) Y X = some (q, p, Y', X') := by
  rcases stepT_cases h with ⟨rfl, hk, rfl, rfl, hf⟩ | ⟨rfl, hk, rfl, rfl, hf⟩ | ⟨c, cs, d, ds, rfl, rfl, kc, kd, rfl, rfl, rfl, rfl⟩
  · refine stepT_B Y' X' hk fun d ds e hd => ?_
    rcases hf with rfl | hf
    · rfl
    · exact absurd hd (hf d ds e)
  · refine stepT_A Y' X' hk ?_
    cases f
    · exact .inl rfl
    · exact .inr fun c cs e hc => by have := hf c cs e hc; cases this
  · rw [stepT_C ds cs kd kc, Int.min_comm]
theorem traL_swap (f : Bool) {X Y : List C} (gx : Gd X) (gy : Gd Y) (eq : sumOf fromC X = sumOf fromC Y) : traL (!f) Y X = (traL f X Y).map fun r => (r.2, r.1) := by
  refine tra_ind (f := f) (P := fun X Y => traL (!f) Y X = (traL f X Y).map fun r => (r.2, r.1)) rfl ?_ _ X Y (Nat.le_refl _) gx gy eq
  intro X Y p q X' Y' _ _ _ hs _ ih
  rw [traL_step hs, traL_step (step_swap f hs), ih]; rfl
theorem traP_swap (f : Bool) {X Y : List C} (gx : Gd X) (gy : Gd Y) (eq : sumOf fromC X = sumOf fromC Y) : traP (!f) Y X = traQ f X Y := by
  unfold traP traQ; rw [traL_swap f gx gy eq, List.map_map]; rfl
theorem traQ_swap (f : Bool) {X Y : List C} (gx : Gd X) (gy : Gd Y) (eq : sumOf fromC X = sumOf fromC Y) : traQ (!f) Y X = traP f X Y := by
  unfold traP traQ; rw [traL_swap f gx gy eq, List.map_map]; rfl

/-- Two edits under way: what is made of each, what is left of each. -/
structure TI (f : Bool) (JP JQ accP accQ X Y : List C) (L : Nat) : Prop where
  foldP : (traP f X Y).foldl addC accP = JP
  foldQ : (traQ f X Y).foldl addC accQ = JQ
  gx : Gd X
  gy : Gd Y
  eq : sumOf fromC X = sumOf fromC Y
  softP : ∀ c ∈ accP, c.Soft
  softQ : ∀ c ∈ accQ, c.Soft
  lenP : accP.length + (X.length + Y.length) ≤ L
  lenQ : accQ.length + (X.length + Y.length) ≤ L
  fromP : sumOf fromC accP + sumOf toC Y ≤ 4096
  fromQ : sumOf fromC accQ + sumOf toC X ≤ 4096
  toP : sumOf toC accP + sumOf toC X + sumOf putZ Y ≤ 8192
  toQ : sumOf toC accQ + sumOf toC X + sumOf putZ Y ≤ 8192

theorem sum_put_le {cs : List C} (h : ∀ c ∈ cs, c.Soft) : sumOf putZ cs ≤ sumOf toC cs := by
  induction cs with
  | nil => simp [sumOf]
  | cons c cs ih =>
    have := put_le (h c (by simp))
    have := ih fun x hx => h x (by simp [hx])
    simp only [sumOf]; omega
theorem TI.start (f : Bool) {a b : List C} (ha : MayP a) (hb : MayP b) (eq : sumOf fromC a = sumOf fromC b) : TI f (normOf (traP f a b)) (normOf (traQ f a b)) [] [] a b (a.length + b.length) := by
  have a1 := (okB_iff.1 ha.1).2.2
  have b1 := (okB_iff.1 hb.1).2.2
  have := sum_put_le (gd_of_may hb).soft
  exact ⟨rfl, rfl, gd_of_may ha, gd_of_may hb, eq, fun c h => by simp at h, fun c h => by simp at h, by simp, by simp, by simp [sumOf]; omega, by simp [sumOf]; omega, by simp [sumOf]; omega, by simp [sumOf]; omega⟩
theorem TI.step {f : Bool} {JP JQ accP accQ X Y X' Y' : List C} {L : Nat} {p q : C} (h : TI f JP JQ accP accQ X Y L) (hs : stepT f X Y = some (p, q, X', Y')) : TI f JP JQ (addC accP p) (addC accQ q) X' Y' L := by
  have ok := stepT_ok hs h.gx h.gy h.eq
  have hl := stepT_lt hs
  have al := addC_length accP p
  have al2 := addC_length accQ q
  have h1 := h.lenP
  have h2 := h.lenQ
  have h3 := h.fromP
  have h4 := h.fromQ
  have h5 := h.toP
  have h6 := h.toQ
  have o1 := ok.fromP
  have o2 := ok.fromQ
  have o3 := ok.same
  have o4 := ok.to'
  have e1 := sum_addC from_join from_zero accP ok.softP
  have e2 := sum_addC to_join to_zero accP ok.softP
  have e3 := sum_addC from_join from_zero accQ ok.softQ
  have e4 := sum_addC to_join to_zero accQ ok.softQ
  refine ⟨?_, ?_, ok.gx, ok.gy, ok.eq, addC_soft h.softP ok.softP, addC_soft h.softQ ok.softQ, by omega, by omega, by omega, by omega, by omega, by omega⟩
  · rw [← h.foldP, traP_step hs]; rfl
  · rw [← h.foldQ, traQ_step hs]; rfl
theorem TI.done {f : Bool} {JP JQ accP accQ : List C} {L : Nat} (h : TI f JP JQ accP accQ [] [] L) : accP = JP ∧ accQ = JQ := ⟨h.foldP, h.foldQ⟩
theorem TI.empty {f : Bool} {JP JQ accP accQ X Y : List C} {L : Nat} (h : TI f JP JQ accP accQ X Y L) (hn : X = [] ∧ Y = [] → False) : ∃ p q X' Y', stepT f X Y = some (p, q, X', Y') := by
  cases hs : stepT f X Y with
  | none => exact absurd (stepT_some h.gx h.gy h.eq hs) hn
  | some r => obtain ⟨p, q, X', Y'⟩ := r; exact ⟨p, q, X', Y', rfl⟩
theorem soft_bound {c : C} (h : c.Soft) : 0 ≤ c.n ∧ c.n ≤ fromC c + toC c ∧ (c.t.size : Int) ≤ fromC c + toC c := by
  rcases soft_form h with ⟨m, hm, rfl⟩ | ⟨m, hm, rfl⟩ | ⟨t, rfl⟩
  · simp [fromC, toC, C.sz, e0_size]; omega
  · simp [fromC, toC, e0_size]; omega
  · simp [fromC, toC, C.sz]
theorem fit_soft {c : C} (h : c.Soft) (h1 : fromC c ≤ 8192) (h2 : toC c ≤ 8192) : Fit c := by
  have := soft_bound h
  unfold Fit; omega
theorem fit_sums {cs : List C} (h : ∀ c ∈ cs, c.Soft) (h1 : sumOf fromC cs ≤ 8192) (h2 : sumOf toC cs ≤ 8192) : ∀ c ∈ cs, Fit c := fun c hc => by
  have f1 := mem_le_sum (f := fromC) (fun x hx => from_nonneg (h x hx)) hc
  have f2 := mem_le_sum (f := toC) (fun x hx => to_nonneg (h x hx)) hc
  exact fit_soft (h c hc) (by omega) (by omega)
theorem TI.fits {f : Bool} {JP JQ accP accQ X Y : List C} {L : Nat} (h : TI f JP JQ accP accQ X Y L) : (∀ x ∈ accP, Fit x) ∧ ∀ x ∈ accQ, Fit x := by
  have h3 := h.fromP
  have h4 := h.fromQ
  have h5 := h.toP
  have h6 := h.toQ
  have f1 := sumOf_nonneg (f := toC) (cs := X) fun c hc => to_nonneg (h.gx c hc).1
  have f2 := sumOf_nonneg (f := toC) (cs := Y) fun c hc => to_nonneg (h.gy c hc).1
  have f3 := sumOf_nonneg (f := putZ) (cs := Y) fun c hc => put_nonneg (h.gy c hc).1
  exact ⟨fit_sums h.softP (by omega) (by omega), fit_sums h.softQ (by omega) (by omega)⟩
theorem TI.piece {f : Bool} {JP JQ accP accQ X Y X' Y' : List C} {L : Nat} {p q : C} (h : TI f JP JQ accP accQ X Y L) (hs : stepT f X Y = some (p, q, X', Y')) : (Fit p ∧ p.Soft) ∧ Fit q ∧ q.Soft := by
  have ok := stepT_ok hs h.gx h.gy h.eq
  have h3 := h.fromP
  have h4 := h.fromQ
  have h5 := h.toP
  have h6 := h.toQ
  have o1 := ok.fromP
  have o2 := ok.fromQ
  have o3 := ok.same
  have o4 := ok.to'
  have f1 := sumOf_nonneg (f := toC) (cs := X') fun c hc => to_nonneg (ok.gx c hc).1
  have f2 := sumOf_nonneg (f := toC) (cs := Y') fun c hc => to_nonneg (ok.gy c hc).1
  have f3 := sumOf_nonneg (f := putZ) (cs := Y') fun c hc => put_nonneg (ok.gy c hc).1
  have f4 := sumOf_nonneg (f := fromC) (cs := accP) fun c hc => from_nonneg (h.softP c hc)
  have f5 := sumOf_nonneg (f := fromC) (cs := accQ) fun c hc => from_nonneg (h.softQ c hc)
  have f6 := sumOf_nonneg (f := toC) (cs := accP) fun c hc => to_nonneg (h.softP c hc)
  exact ⟨⟨fit_soft ok.softP (by omega) (by omega), ok.softP⟩, fit_soft ok.softQ (by omega) (by omega), ok.softQ⟩

/-- Where two edits go behind each other. -/
def TraP (f : Bool) (a b : List C) : Prop := MayP a ∧ MayP b ∧ sumOf fromC a = sumOf fromC b ∧ MayP (normOf (traP f a b)) ∧ MayP (normOf (traQ f a b))
theorem tra_norm_sums {f : Bool} {a b : List C} (ha : MayP a) (hb : MayP b) (eq : sumOf fromC a = sumOf fromC b) :
    sumOf fromC (normOf (traP f a b)) = sumOf toC b ∧ sumOf fromC (normOf (traQ f a b)) = sumOf toC a ∧ sumOf toC (normOf (traP f a b)) = sumOf toC (normOf (traQ f a b)) ∧ sumOf toC (normOf (traP f a b)) ≤ sumOf toC a + sumOf putZ b := by
  have S := tra_sums (f := f) (gd_of_may ha) (gd_of_may hb) eq
  rw [sum_normOf from_join from_zero _ S.softP, sum_normOf to_join to_zero _ S.softP, sum_normOf from_join from_zero _ S.softQ, sum_normOf to_join to_zero _ S.softQ]
  exact ⟨S.fromP, S.fromQ, S.same, S.to'⟩
theorem tra_may {f : Bool} {a b : List C} (ha : MayP a) (hb : MayP b) (eq : sumOf fromC a = sumOf fromC b) (hl : a.length + b.length ≤ 4096) (ht : sumOf toC a + sumOf putZ b ≤ 4096) : TraP f a b := by
  have S := tra_sums (f := f) (gd_of_may ha) (gd_of_may hb) eq
  have a1 := (okB_iff.1 ha.1).2.2
  have b1 := (okB_iff.1 hb.1).2.2
  have l1 := traP_length f a b
  have l2 := traQ_length f a b
  have s1 := S.fromP
  have s2 := S.fromQ
  have s3 := S.same
  have s4 := S.to'
  have ok1 : okB (traP f a b) = true := okB_iff.2 ⟨by omega, raw_of_soft S.softP (by omega) (by omega), by omega, by omega⟩
  have ok2 : okB (traQ f a b) = true := okB_iff.2 ⟨by omega, raw_of_soft S.softQ (by omega) (by omega), by omega, by omega⟩
  exact ⟨ha, hb, eq, ⟨okB_normOf ok1, norm_normOf S.softP⟩, okB_normOf ok2, norm_normOf S.softQ⟩
theorem tra_roads {f : Bool} {s : ByteArray} {a b : List C} (ha : MayP a) (hb : MayP b) (eq : sumOf fromC a = sumOf fromC b) (hs : sumOf fromC a = s.size) : appB (appB s 0 b) 0 (normOf (traP f a b)) = appB (appB s 0 a) 0 (normOf (traQ f a b)) := by
  have S := tra_sums (f := f) (gd_of_may ha) (gd_of_may hb) eq
  rw [appB_normOf (Int.le_refl 0) _ S.softP, appB_normOf (Int.le_refl 0) _ S.softQ, tra_app (gd_of_may ha) (gd_of_may hb) eq 0 (Int.le_refl 0) (by omega)]
theorem TraP.swap {f : Bool} {a b : List C} (h : TraP f a b) : TraP (!f) b a := by
  obtain ⟨ha, hb, eq, h1, h2⟩ := h
  refine ⟨hb, ha, eq.symm, ?_, ?_⟩
  · rw [traP_swap f (gd_of_may ha) (gd_of_may hb) eq]; exact h2
  · rw [traQ_swap f (gd_of_may ha) (gd_of_may hb) eq]; exact h1

/-- Behind an edit that keeps all. -/
theorem keeps_norm : ∀ (cs : List C), (∀ c ∈ cs, c.Soft ∧ c.k = 0) → normOf cs = kp (sumOf toC cs) := by
  intro cs
  refine list_snoc (P := fun cs => (∀ c ∈ cs, c.Soft ∧ c.k = 0) → normOf cs = kp (sumOf toC cs)) ?_ ?_ cs
  · intro _; rfl
  · intro l a ih h
    have hl := ih fun c hc => h c (by simp [hc])
    obtain ⟨sa, ka⟩ := h a (by simp)
    have nn : 0 ≤ sumOf toC l := sumOf_nonneg fun c hc => to_nonneg (h c (by simp [hc])).1
    rw [normOf_snoc, hl, sumOf_append]
    rcases soft_form sa with ⟨m, hm, rfl⟩ | ⟨m, hm, rfl⟩ | ⟨t, rfl⟩
    · have hz : (⟨0, m, e0⟩ : C).sz = m := by simp [C.sz, e0_size]
      have ht : toC (⟨0, m, e0⟩ : C) = m := by simp [toC, C.sz, e0_size]
      simp only [sumOf, ht]
      unfold addC
      rw [hz]
      split
      · rename_i h0; rw [h0]; simp
      · unfold kp
        by_cases hp : 0 < sumOf toC l
        · rw [if_pos hp, if_pos (by omega)]
          simp [addR, C.join, e0_left]
        · rw [if_neg hp, if_pos (by omega)]
          simp [addR]; omega
    · cases ka
    · cases ka
theorem tra_keep (f : Bool) : ∀ (a : List C) (n : Int), Gd a → n = sumOf fromC a → traP f a (kp n) = a ∧ ∀ c ∈ traQ f a (kp n), c.k = 0
  | [], n, _, hn => by
    simp [sumOf] at hn; subst hn; exact ⟨rfl, fun c hc => by simp [traQ, kp, traL_nil] at hc⟩
  | d :: ds, n, g, hn => by
    simp only [sumOf] at hn
    have fs : 0 ≤ sumOf fromC ds := sumOf_nonneg fun x hx => from_nonneg (g.tail x hx).1
    obtain ⟨sd, pd⟩ := g.head
    by_cases hd : d.k = 1
    · have f0 : fromC d = 0 := by unfold fromC; rw [if_pos hd]
      have hs := stepT_A (f := f) ds (kp n) hd (.inr fun x xs e => by
        unfold kp at e; split at e <;> cases e; simp)
      obtain ⟨i1, i2⟩ := tra_keep f ds n g.tail (by omega)
      rw [traP_step hs, traQ_step hs, i1]
      refine ⟨rfl, fun c hc => ?_⟩
      rcases List.mem_cons.1 hc with rfl | hc
      · rfl
      · exact i2 c hc
    · have f0 : fromC d = d.sz := by
        rcases soft_form sd with ⟨m, hm, rfl⟩ | ⟨m, hm, rfl⟩ | ⟨t, rfl⟩
        · simp [fromC, C.sz, e0_size]
        · simp [fromC, C.sz, e0_size]
        · exact absurd rfl hd
      have hz : (⟨0, n, e0⟩ : C).sz = n := by simp [C.sz, e0_size]
      have hs := stepT_C (f := f) (c := d) (d := ⟨0, n, e0⟩) ds [] hd (by simp)
      rw [hz, Int.min_eq_left (by omega), kp_tail (by omega), tail_all, take_all sd] at hs
      obtain ⟨i1, i2⟩ := tra_keep f ds (n - d.sz) g.tail (by omega)
      rw [kp_pos (by omega), traP_step hs, traQ_step hs, i1]
      refine ⟨?_, fun c hc => ?_⟩
      · congr 1
      · rcases List.mem_cons.1 hc with rfl | hc
        · unfold leftC; split
          · rw [take_k]
          · rfl
        · exact i2 c hc
theorem tra_nothing (f : Bool) {a : List C} (ha : MayP a) : normOf (traP f a (kp (sumOf fromC a))) = a ∧ normOf (traQ f a (kp (sumOf fromC a))) = kp (sumOf toC a) := by
  have g := gd_of_may ha
  have a0 : 0 ≤ sumOf fromC a := sumOf_nonneg fun c hc => from_nonneg (g c hc).1
  have b1 := (okB_iff.1 ha.1).2.2
  obtain ⟨h1, h2⟩ := tra_keep f a _ g rfl
  have S := tra_sums (f := f) g (gd_of_may (kp_may a0 b1.1)) (kp_from a0).1.symm
  have s3 := S.same
  rw [h1] at s3
  refine ⟨by rw [h1, norm_of_may ha], ?_⟩
  rw [keeps_norm _ fun c hc => ⟨S.softQ c hc, h2 c hc⟩, ← s3]
theorem kp_putZ (n : Int) : sumOf putZ (kp n) = 0 := by unfold kp; split <;> simp [sumOf, putZ]

end Go.Proofs.Ytkknkannjoijbaa
