/-
  Where a place stands behind an edit, as a number, and facts of it. No program in it; conditions: as each theorem's premises say.
-/
import Derived.Test.YtlfgleickaaicaaAwake
namespace Go.Proofs.Ytlfgleickaaicaa
open Go.RowKit

/-- How much of what pieces leave stands ahead of a place. -/
def movL (bh : Bool) : Int → List C → Int
  | _, [] => 0
  | l, c :: cs => (if c.k = 0 then min c.n l else if c.k = 1 ∧ (0 < l ∨ bh = true) then (c.t.size : Int) else 0) + if min c.n l < c.n then 0 else movL bh (l - min c.n l) cs

section
variable (bh : Bool) (l n : Int) (t : ByteArray) (cs : List C)
theorem mov_keep_in (h : l < n) : movL bh l (⟨0, n, t⟩ :: cs) = l := by
  simp only [movL, if_true, show min n l = l by omega, h, Int.add_zero]
theorem mov_keep_out (h : n ≤ l) : movL bh l (⟨0, n, t⟩ :: cs) = n + movL bh (l - n) cs := by
  simp only [movL, if_true, show min n l = n by omega, Int.lt_irrefl, if_false]
theorem mov_cut_in (h : l < n) : movL bh l (⟨2, n, t⟩ :: cs) = 0 := by
  have h2 : ¬ ((2 : Int) = 0) := by omega
  have h3 : ¬ ((2 : Int) = 1) := by omega
  simp only [movL, h2, h3, false_and, if_false, if_true, show min n l = l by omega, h, Int.add_zero]
theorem mov_cut_out (h : n ≤ l) : movL bh l (⟨2, n, t⟩ :: cs) = movL bh (l - n) cs := by
  have h2 : ¬ ((2 : Int) = 0) := by omega
  have h3 : ¬ ((2 : Int) = 1) := by omega
  simp only [movL, h2, h3, false_and, if_false, show min n l = n by omega, Int.lt_irrefl, Int.zero_add]
theorem mov_put_yes (h : 0 ≤ l) (hb : 0 < l ∨ bh = true) : movL bh l (⟨1, 0, t⟩ :: cs) = t.size + movL bh l cs := by
  have h2 : ¬ ((1 : Int) = 0) := by omega
  simp only [movL, h2, hb, and_self, if_false, if_true, show min 0 l = 0 by omega, Int.lt_irrefl, Int.sub_zero]
theorem mov_put_no : movL false 0 (⟨1, 0, t⟩ :: cs) = movL false 0 cs := by
  have h2 : ¬ ((1 : Int) = 0) := by omega
  simp [movL, h2]
end

/-- A piece, by its kind. -/
theorem soft_ind {P : C → Prop} (hk : ∀ n t, 0 ≤ n → ByteArray.size t = 0 → P ⟨0, n, t⟩) (hc : ∀ n t, 0 ≤ n → ByteArray.size t = 0 → P ⟨2, n, t⟩) (hp : ∀ t, P ⟨1, 0, t⟩) (c : C) (h : c.Soft) : P c := by
  obtain ⟨k, n, t⟩ := c
  rcases h with ⟨h1 | h1, h2, h3⟩ | ⟨h1, h2⟩ <;> dsimp only at h1 h2 <;> subst h1
  · exact hk n t h2 h3
  · exact hc n t h2 h3
  · subst h2; exact hp t

theorem to_keep (n : Int) (t : ByteArray) (h : t.size = 0) : toC ⟨0, n, t⟩ = n := by simp [toC, C.sz, h]
theorem to_cut (n : Int) (t : ByteArray) : toC ⟨2, n, t⟩ = 0 := by simp [toC]
theorem to_put (t : ByteArray) : toC ⟨1, 0, t⟩ = t.size := by simp [toC, C.sz]
theorem from_keep (n : Int) (t : ByteArray) : fromC ⟨0, n, t⟩ = n := by simp [fromC]
theorem from_cut (n : Int) (t : ByteArray) : fromC ⟨2, n, t⟩ = n := by simp [fromC]
theorem from_put (n : Int) (t : ByteArray) : fromC ⟨1, n, t⟩ = 0 := by simp [fromC]

theorem mov_bounds (bh : Bool) : ∀ (cs : List C) (l : Int), (∀ c ∈ cs, c.Soft) → 0 ≤ l → 0 ≤ movL bh l cs ∧ movL bh l cs ≤ sumOf toC cs
  | [], l, _, _ => by simp [movL, sumOf]
  | c :: cs, l, hs, hl => by
    have hs' : ∀ x ∈ cs, x.Soft := fun x hx => hs x (by simp [hx])
    have h0 := sumOf_nonneg (f := toC) (cs := cs) fun x hx => to_nonneg (hs' x hx)
    have ih := fun l => mov_bounds bh cs l hs'
    simp only [sumOf]
    revert c
    intro c hs
    refine soft_ind (P := fun c => 0 ≤ movL bh l (c :: cs) ∧ movL bh l (c :: cs) ≤ toC c + sumOf toC cs) ?_ ?_ ?_ c (hs c (by simp))
    · intro n t hn ht
      rw [to_keep n t ht]
      by_cases h : l < n
      · rw [mov_keep_in bh l n t cs h]; omega
      · rw [mov_keep_out bh l n t cs (by omega)]; have := ih (l - n) (by omega); omega
    · intro n t hn ht
      rw [to_cut]
      by_cases h : l < n
      · rw [mov_cut_in bh l n t cs h]; omega
      · rw [mov_cut_out bh l n t cs (by omega)]; have := ih (l - n) (by omega); omega
    · intro t
      rw [to_put]
      have := ih l hl
      by_cases h : 0 < l ∨ bh = true
      · rw [mov_put_yes bh l t cs hl h]; omega
      · have h1 : l = 0 := by omega
        have h2 : bh = false := by cases bh <;> simp_all
        subst h1; subst h2
        rw [mov_put_no]; omega

theorem mov_zero : ∀ (cs : List C), (∀ c ∈ cs, c.Soft) → movL false 0 cs = 0
  | [], _ => rfl
  | c :: cs, hs => by
    have ih := mov_zero cs fun x hx => hs x (by simp [hx])
    refine soft_ind (P := fun c => movL false 0 (c :: cs) = 0) ?_ ?_ ?_ c (hs c (by simp))
    · intro n t hn ht
      by_cases h : 0 < n
      · rw [mov_keep_in _ _ _ _ _ h]
      · obtain rfl : n = 0 := by omega
        rw [mov_keep_out _ _ _ _ _ (by omega)]; simpa using ih
    · intro n t hn ht
      by_cases h : 0 < n
      · rw [mov_cut_in _ _ _ _ _ h]
      · obtain rfl : n = 0 := by omega
        rw [mov_cut_out _ _ _ _ _ (by omega)]; simpa using ih
    · intro t
      rw [mov_put_no]; exact ih

theorem mov_end : ∀ (cs : List C), (∀ c ∈ cs, c.Soft) → movL true (sumOf fromC cs) cs = sumOf toC cs
  | [], _ => rfl
  | c :: cs, hs => by
    have hs' : ∀ x ∈ cs, x.Soft := fun x hx => hs x (by simp [hx])
    have ih := mov_end cs hs'
    have h0 := sumOf_nonneg (f := fromC) (cs := cs) fun x hx => from_nonneg (hs' x hx)
    simp only [sumOf]
    refine soft_ind (P := fun c => movL true (fromC c + sumOf fromC cs) (c :: cs) = toC c + sumOf toC cs) ?_ ?_ ?_ c (hs c (by simp))
    · intro n t hn ht
      rw [from_keep, to_keep n t ht, mov_keep_out _ _ _ _ _ (by omega), show n + sumOf fromC cs - n = sumOf fromC cs by omega, ih]
    · intro n t hn ht
      rw [from_cut, to_cut, mov_cut_out _ _ _ _ _ (by omega), show n + sumOf fromC cs - n = sumOf fromC cs by omega, ih]; omega
    · intro t
      rw [from_put, to_put, Int.zero_add, mov_put_yes _ _ _ _ h0 (.inr rfl), ih]

theorem mov_rises (bh : Bool) : ∀ (cs : List C) (l m : Int), (∀ c ∈ cs, c.Soft) → 0 ≤ l → l ≤ m → movL bh l cs ≤ movL bh m cs
  | [], l, m, _, _, _ => by simp [movL]
  | c :: cs, l, m, hs, hl, hm => by
    have hs' : ∀ x ∈ cs, x.Soft := fun x hx => hs x (by simp [hx])
    have ih := fun l m => mov_rises bh cs l m hs'
    have bd := fun l => mov_bounds bh cs l hs'
    refine soft_ind (P := fun c => movL bh l (c :: cs) ≤ movL bh m (c :: cs)) ?_ ?_ ?_ c (hs c (by simp))
    · intro n t hn ht
      by_cases h : l < n
      · rw [mov_keep_in _ _ _ _ _ h]
        by_cases h' : m < n
        · rw [mov_keep_in _ _ _ _ _ h']; exact hm
        · rw [mov_keep_out _ _ _ _ _ (by omega)]; have := bd (m - n) (by omega); omega
      · rw [mov_keep_out _ _ _ _ _ (by omega), mov_keep_out _ _ _ _ _ (by omega)]
        have := ih (l - n) (m - n) (by omega) (by omega); omega
    · intro n t hn ht
      by_cases h : l < n
      · rw [mov_cut_in _ _ _ _ _ h]
        by_cases h' : m < n
        · rw [mov_cut_in _ _ _ _ _ h']; omega
        · rw [mov_cut_out _ _ _ _ _ (by omega)]; have := bd (m - n) (by omega); omega
      · rw [mov_cut_out _ _ _ _ _ (by omega), mov_cut_out _ _ _ _ _ (by omega)]
        exact ih (l - n) (m - n) (by omega) (by omega)
    · intro t
      have i1 := ih l m hl hm
      by_cases h : 0 < l ∨ bh = true
      · rw [mov_put_yes _ _ _ _ hl h, mov_put_yes _ _ _ _ (by omega) (h.imp_left fun h => by omega)]; omega
      · have h1 : l = 0 := by omega
        have h2 : bh = false := by cases bh <;> simp_all
        subst h1; subst h2
        rw [mov_put_no]
        by_cases h' : 0 < m
        · rw [mov_put_yes _ _ _ _ (by omega) (.inl h')]; omega
        · obtain rfl : m = 0 := by omega
          rw [mov_put_no]; exact i1

theorem mov_behind : ∀ (cs : List C) (l : Int), (∀ c ∈ cs, c.Soft) → 0 ≤ l → movL false l cs ≤ movL true l cs
  | [], l, _, _ => by simp [movL]
  | c :: cs, l, hs, hl => by
    have hs' : ∀ x ∈ cs, x.Soft := fun x hx => hs x (by simp [hx])
    have ih := fun l => mov_behind cs l hs'
    refine soft_ind (P := fun c => movL false l (c :: cs) ≤ movL true l (c :: cs)) ?_ ?_ ?_ c (hs c (by simp))
    · intro n t hn ht
      by_cases h : l < n
      · rw [mov_keep_in _ _ _ _ _ h, mov_keep_in _ _ _ _ _ h]; omega
      · rw [mov_keep_out _ _ _ _ _ (by omega), mov_keep_out _ _ _ _ _ (by omega)]; have := ih (l - n) (by omega); omega
    · intro n t hn ht
      by_cases h : l < n
      · rw [mov_cut_in _ _ _ _ _ h, mov_cut_in _ _ _ _ _ h]; omega
      · rw [mov_cut_out _ _ _ _ _ (by omega), mov_cut_out _ _ _ _ _ (by omega)]; exact ih (l - n) (by omega)
    · intro t
      have i1 := ih l hl
      rw [mov_put_yes true _ _ _ hl (.inr rfl)]
      by_cases h : 0 < l
      · rw [mov_put_yes false _ _ _ hl (.inl h)]; omega
      · obtain rfl : l = 0 := by omega
        rw [mov_put_no]; omega

/-- Move answers a place. -/
def MoveP (cs : List C) (at' : Int) : Prop := MayP cs ∧ 0 ≤ at' ∧ at' ≤ sumOf fromC cs

theorem may_soft {cs : List C} (h : MayP cs) : ∀ c ∈ cs, c.Soft := soft_all (okB_iff.1 h.1).2.1
theorem drop_get {cs : List C} {j : Nat} {c : C} (h : cs[j]? = some c) : cs.drop j = c :: cs.drop (j + 1) := by
  obtain ⟨hj, rfl⟩ := List.getElem?_eq_some_iff.1 h
  exact List.drop_eq_getElem_cons hj

end Go.Proofs.Ytlfgleickaaicaa
