/-
  What an edit makes of a text, and facts of it. No program in it; conditions: as each theorem's premises say.
-/
import Derived.Test.YtmlibmleamiljaaW16
namespace Go.Proofs.Ytmlibmleamiljaa
open Go.RowKit

theorem ba_ext {a b : ByteArray} (h : a.data.toList = b.data.toList) : a = b := ByteArray.ext (Array.toList_inj.1 h)
theorem ba_len (a : ByteArray) : a.data.toList.length = a.size := by simp
theorem ba_extract (s : ByteArray) (i j : Nat) : (s.extract i j).data.toList = (s.data.toList.drop i).take (j - i) := by
  obtain ⟨⟨l⟩⟩ := s
  rw [ByteArray.extract_mk]
theorem e0_left (t : ByteArray) : e0 ++ t = t := ba_ext (by rw [ba_append_list]; rfl)
theorem e0_right (t : ByteArray) : t ++ e0 = t := ba_ext (by rw [ba_append_list]; simp [e0])
theorem e0_of {t : ByteArray} (h : t.size = 0) : t = e0 := ba_ext (by
  have := ba_len t
  rw [h] at this
  rw [List.eq_nil_of_length_eq_zero this]; rfl)
theorem e0_size : e0.size = 0 := rfl

/-- What a piece leaves, the text being read from a on. -/
def partB (s : ByteArray) (a : Int) (c : C) : ByteArray := if c.k = 0 then s.extract a.toNat (a + c.n).toNat else if c.k = 2 then e0 else c.t
/-- What pieces leave, one behind the other. -/
def appB (s : ByteArray) : Int → List C → ByteArray
  | _, [] => e0
  | a, c :: cs => partB s a c ++ appB s (a + fromC c) cs

theorem appB_append (s : ByteArray) (ys : List C) : ∀ (a : Int) (xs : List C), appB s a (xs ++ ys) = appB s a xs ++ appB s (a + sumOf fromC xs) ys
  | a, [] => by simp [appB, sumOf, e0_left]
  | a, x :: xs => by
    rw [List.cons_append]
    simp only [appB, sumOf]
    rw [appB_append s ys, ba_append_assoc, Int.add_assoc]
theorem appB_one (s : ByteArray) (a : Int) (c : C) : appB s a [c] = partB s a c := by simp only [appB]; exact e0_right _
theorem appB_snoc (s : ByteArray) (a : Int) (xs : List C) (c : C) : appB s a (xs ++ [c]) = appB s a xs ++ partB s (a + sumOf fromC xs) c := by rw [appB_append, appB_one]
theorem appB_take_succ (s : ByteArray) {cs : List C} {i : Nat} {c : C} (h : cs[i]? = some c) : appB s 0 (cs.take (i + 1)) = appB s 0 (cs.take i) ++ partB s (sumOf fromC (cs.take i)) c := by
  rw [List.take_add_one, h]
  simp only [Option.toList]
  rw [appB_snoc, Int.zero_add]

theorem part_size {s : ByteArray} {a : Int} {c : C} (hc : c.Soft) (h0 : 0 ≤ a) (h1 : a + fromC c ≤ s.size) : ((partB s a c).size : Int) = toC c := by
  obtain ⟨k, n, t⟩ := c
  unfold C.Soft at hc
  unfold partB toC C.sz
  unfold fromC at h1
  dsimp only at *
  rcases hc with ⟨rfl | rfl, hn, ht⟩ | ⟨rfl, rfl⟩
  · simp only [if_true, show ¬ ((0 : Int) = 2) by omega, if_false, show ¬ ((0 : Int) = 1) by omega] at *
    rw [ByteArray.size_extract]
    omega
  · simp [e0_size]
  · simp

theorem appB_size {s : ByteArray} : ∀ {cs : List C} {a : Int}, (∀ c ∈ cs, c.Soft) → 0 ≤ a → a + sumOf fromC cs ≤ s.size → ((appB s a cs).size : Int) = sumOf toC cs
  | [], a, _, _, _ => by simp [appB, sumOf, e0_size]
  | c :: cs, a, hs, h0, h1 => by
    simp only [sumOf] at h1
    have hc := hs c (by simp)
    have f0 := from_nonneg hc
    have fs : 0 ≤ sumOf fromC cs := sumOf_nonneg fun x hx => from_nonneg (hs x (by simp [hx]))
    simp only [appB, sumOf, ba_append_size]
    have e1 := part_size (s := s) (a := a) hc h0 (by omega)
    have e2 := appB_size (s := s) (cs := cs) (a := a + fromC c) (fun x hx => hs x (by simp [hx])) (by omega) (by omega)
    omega

theorem part_join {s : ByteArray} {a : Int} {l c : C} (h0 : 0 ≤ a) (hl : l.Soft) (hc : c.Soft) (hk : l.k = c.k) : partB s a (l.join c) = partB s a l ++ partB s (a + fromC l) c := by
  obtain ⟨k, n, t⟩ := l
  obtain ⟨k', n', t'⟩ := c
  dsimp only at hk
  subst hk
  unfold C.Soft at hl hc
  unfold partB fromC C.join
  dsimp only at *
  by_cases k0 : k = 0
  · subst k0
    simp only [if_true, show ¬ ((0 : Int) = 1) by omega, if_false]
    have hn : 0 ≤ n := by omega
    have hn' : 0 ≤ n' := by omega
    apply ba_ext
    rw [ba_append_list, ba_extract, ba_extract, ba_extract]
    obtain ⟨A, rfl⟩ := Int.eq_ofNat_of_zero_le h0
    obtain ⟨N, rfl⟩ := Int.eq_ofNat_of_zero_le hn
    obtain ⟨M, rfl⟩ := Int.eq_ofNat_of_zero_le hn'
    rw [show ((A : Int)).toNat = A by omega, show ((A : Int) + (N : Int)).toNat = A + N by omega, show ((A : Int) + ((N : Int) + (M : Int))).toNat = A + N + M by omega, show ((A : Int) + (N : Int) + (M : Int)).toNat = A + N + M by omega]
    rw [show A + N + M - A = N + M by omega, show A + N - A = N by omega, show A + N + M - (A + N) = M by omega, List.take_add, List.drop_drop]
  · rw [if_neg k0, if_neg k0, if_neg k0]
    by_cases k2 : k = 2
    · simp only [k2, if_true, e0_left]
    · simp only [if_neg k2]
theorem part_zero {s : ByteArray} {a : Int} {c : C} (hc : c.Soft) (hz : c.sz = 0) : partB s a c = e0 := by
  obtain ⟨h1, h2⟩ := soft_zero hc hz
  unfold partB
  split
  · apply ba_ext
    rw [ba_extract, h1, Int.add_zero, Nat.sub_self]; rfl
  · split
    · rfl
    · exact e0_of h2
theorem part_put {s : ByteArray} {a b : Int} {c : C} (hk : c.k ≠ 0) : partB s a c = partB s b c := by unfold partB; rw [if_neg hk, if_neg hk]

theorem appB_addR {s : ByteArray} {a : Int} (h0 : 0 ≤ a) {c : C} (hc : c.Soft) : ∀ r : List C, (∀ x ∈ r, x.Soft) → appB s a (addR r c).reverse = appB s a (r.reverse ++ [c])
  | [], _ => by simp [addR]
  | l :: r, hr => by
    have hl := hr l (by simp)
    have hr' : ∀ x ∈ r, x.Soft := fun x hx => hr x (by simp [hx])
    have fs : 0 ≤ sumOf fromC r.reverse := sumOf_nonneg fun x hx => from_nonneg (hr' x (by simpa using hx))
    have ih := appB_addR (s := s) h0 hc r hr'
    simp only [addR]
    split
    · rename_i hk
      rw [List.reverse_cons, List.reverse_cons, appB_snoc, part_join (by omega) hl hc hk, appB_snoc, appB_snoc, sumOf_append, ba_append_assoc]
      simp [sumOf, Int.add_assoc]
    · split
      · rename_i hk h2
        have e2 : ∀ b, partB s b l = e0 := fun b => by unfold partB; rw [if_neg (by omega), if_pos h2.1]
        rw [List.reverse_cons, appB_snoc, ih, e2, e0_right, List.reverse_cons, appB_snoc, appB_snoc, appB_snoc, e2, e0_right]
        rw [part_put (by omega)]
      · rw [List.reverse_cons]
theorem appB_addC {s : ByteArray} {a : Int} (h0 : 0 ≤ a) {c : C} (hc : c.Soft) {all : List C} (ha : ∀ x ∈ all, x.Soft) : appB s a (addC all c) = appB s a (all ++ [c]) := by
  unfold addC
  split
  · rename_i hz
    rw [appB_snoc, part_zero hc hz, e0_right]
  · rw [appB_addR h0 hc _ (rev_mem ha), List.reverse_reverse]
/-- The normal form does what the raw edit does. -/
theorem appB_normOf {s : ByteArray} {a : Int} (h0 : 0 ≤ a) (cs : List C) : (∀ c ∈ cs, c.Soft) → appB s a (normOf cs) = appB s a cs := by
  induction cs using list_snoc with
  | h0 => intro _; rfl
  | h1 cs c ih =>
    intro h
    have hs : ∀ x ∈ cs, x.Soft := fun x hx => h x (by simp [hx])
    rw [normOf_snoc, appB_addC h0 (h c (by simp)) (normOf_soft cs hs), appB_snoc, appB_snoc, ih hs, sum_normOf from_join from_zero cs hs]

theorem part_left {s t : ByteArray} {a : Int} {c : C} (hc : c.Soft) (h0 : 0 ≤ a) (h1 : a + fromC c ≤ s.size) : partB (s ++ t) a c = partB s a c := by
  unfold partB
  split
  · rename_i hk
    unfold fromC at h1
    rw [if_neg (by omega)] at h1
    have hn : 0 ≤ c.n := by unfold C.Soft at hc; omega
    apply ba_ext
    rw [ba_extract, ba_extract, ba_append_list]
    have hl := ba_len s
    rw [List.drop_append_of_le_length (by omega), List.take_append_of_le_length (by rw [List.length_drop]; omega)]
  · rfl
theorem appB_left {s t : ByteArray} : ∀ {cs : List C} {a : Int}, (∀ c ∈ cs, c.Soft) → 0 ≤ a → a + sumOf fromC cs ≤ s.size → appB (s ++ t) a cs = appB s a cs
  | [], _, _, _, _ => rfl
  | c :: cs, a, hs, h0, h1 => by
    simp only [sumOf] at h1
    have hc := hs c (by simp)
    have f0 := from_nonneg hc
    have fs : 0 ≤ sumOf fromC cs := sumOf_nonneg fun x hx => from_nonneg (hs x (by simp [hx]))
    simp only [appB]
    rw [part_left hc h0 (by omega), appB_left (fun x hx => hs x (by simp [hx])) (by omega) (by omega)]
theorem part_right {s t : ByteArray} {a : Int} {c : C} (hc : c.Soft) (h0 : 0 ≤ a) : partB (s ++ t) ((s.size : Int) + a) c = partB t a c := by
  unfold partB
  split
  · rename_i hk
    have hn : 0 ≤ c.n := by unfold C.Soft at hc; omega
    apply ba_ext
    rw [ba_extract, ba_extract, ba_append_list]
    have hl := ba_len s
    rw [show ((s.size : Int) + a).toNat = s.data.toList.length + a.toNat by omega, List.drop_append, show s.data.toList.length + a.toNat - s.data.toList.length = a.toNat by omega, List.drop_eq_nil_of_le (by omega), List.nil_append]
    congr 1
    omega
  · rfl
theorem appB_right {s t : ByteArray} : ∀ {cs : List C} {a : Int}, (∀ c ∈ cs, c.Soft) → 0 ≤ a → appB (s ++ t) ((s.size : Int) + a) cs = appB t a cs
  | [], _, _, _ => rfl
  | c :: cs, a, hs, h0 => by
    have hc := hs c (by simp)
    have f0 := from_nonneg hc
    simp only [appB]
    rw [part_right hc h0, Int.add_assoc, appB_right (fun x hx => hs x (by simp [hx])) (by omega)]
/-- Both edits' row upon both texts. -/
theorem appB_both {s t : ByteArray} {a b : List C} (ha : ∀ c ∈ a, c.Soft) (hb : ∀ c ∈ b, c.Soft) (hs : sumOf fromC a = s.size) : appB (s ++ t) 0 (a ++ b) = appB s 0 a ++ appB t 0 b := by
  rw [appB_append, appB_left ha (by omega) (by omega), Int.zero_add, hs]
  have := appB_right (s := s) (t := t) (a := 0) hb (by omega)
  rw [Int.add_zero] at this
  rw [this]

/-- What is put stands in the new text. -/
theorem appB_put {s : ByteArray} {cs : List C} {j : Nat} {c : C} (hs : ∀ c ∈ cs, c.Soft) (hf : sumOf fromC cs ≤ s.size) (hc : cs[j]? = some c) (hk : c.k = 1) :
    (appB s 0 cs).extract (sumOf toC (cs.take j)).toNat (sumOf toC (cs.take j) + c.t.size).toNat = c.t := by
  have hd : cs = cs.take j ++ (c :: cs.drop (j + 1)) := by
    obtain ⟨hl, he⟩ := List.getElem?_eq_some_iff.1 hc
    rw [← he]; simp
  have e1 := appB_append s (c :: cs.drop (j + 1)) 0 (cs.take j)
  rw [← hd] at e1
  have hst : ∀ x ∈ cs.take j, x.Soft := fun x hx => hs x (List.mem_of_mem_take hx)
  have hle := sumOf_take_le (f := fromC) (cs := cs) (fun x hx => from_nonneg (hs x hx)) j
  have e2 := appB_size (s := s) (a := 0) hst (by omega) (by omega)
  simp only [appB] at e1
  have e3 : partB s (0 + sumOf fromC (cs.take j)) c = c.t := by unfold partB; rw [if_neg (by omega), if_neg (by omega)]
  rw [e3] at e1
  rw [e1]
  apply ba_ext
  have l1 := ba_len (appB s 0 (cs.take j))
  have l2 := ba_len c.t
  rw [ba_extract, ba_append_list, ba_append_list, List.drop_left' (by omega), List.take_left' (by omega)]

end Go.Proofs.Ytmlibmleamiljaa
