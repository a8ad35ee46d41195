/-
  A byte that is kept, and where it stands behind an edit. No program in it; conditions: as each theorem's premises say.
-/
import Derived.Test.YtlfgleickaaicaaMovM
namespace Go.Proofs.Ytlfgleickaaicaa
open Go.RowKit

/-- Is the byte at a place within a piece that is kept? -/
def keptL : Int → List C → Bool
  | _, [] => false
  | i, c :: cs => (decide (c.k = 0) && decide (0 ≤ i) && decide (i < c.n)) || keptL (i - fromC c) cs

theorem kept_neg : ∀ (cs : List C) (i : Int), (∀ c ∈ cs, c.Soft) → i < 0 → keptL i cs = false
  | [], _, _, _ => rfl
  | c :: cs, i, hs, hi => by
    have h0 := from_nonneg (hs c (by simp))
    simp only [keptL]
    rw [kept_neg cs (i - fromC c) (fun x hx => hs x (by simp [hx])) (by omega), decide_eq_false (p := 0 ≤ i) (by omega)]
    simp

theorem ba_get_append_left {s t : ByteArray} {i : Nat} (h : i < s.size) : (s ++ t).data.toList[i]? = s.data.toList[i]? := by
  rw [ba_append_list, List.getElem?_append_left (by rw [ba_len]; exact h)]
theorem ba_get_append_right {s t : ByteArray} {i : Nat} : (s ++ t).data.toList[s.size + i]? = t.data.toList[i]? := by
  rw [ba_append_list, List.getElem?_append_right (by rw [ba_len]; omega), ba_len]
  congr 1
  omega

theorem kept_sign (s : ByteArray) : ∀ (cs : List C) (a i : Int), (∀ c ∈ cs, c.Soft) → 0 ≤ a → 0 ≤ i → a + sumOf fromC cs ≤ s.size → keptL i cs = true →
    movL false (i + 1) cs = movL true i cs + 1 ∧ (appB s a cs).data.toList[(movL true i cs).toNat]? = s.data.toList[(a + i).toNat]?
  | [], a, i, _, _, _, _, h => by simp [keptL] at h
  | c :: cs, a, i, hs, ha, hi, hF, h => by
    have hs' : ∀ x ∈ cs, x.Soft := fun x hx => hs x (by simp [hx])
    have f0 := sumOf_nonneg (f := fromC) (cs := cs) fun x hx => from_nonneg (hs' x hx)
    have ih := fun a i => kept_sign s cs a i hs'
    have bd := fun l (hl : 0 ≤ l) => (mov_bounds true cs l hs' hl).1
    have hc := hs c (by simp)
    have psz := part_size (s := s) (a := a) (c := c) hc ha (by simp only [sumOf] at hF; omega)
    revert psz hF h
    refine soft_ind (P := fun c => a + sumOf fromC (c :: cs) ≤ s.size → keptL i (c :: cs) = true → ((partB s a c).size : Int) = toC c → movL false (i + 1) (c :: cs) = movL true i (c :: cs) + 1 ∧ (appB s a (c :: cs)).data.toList[(movL true i (c :: cs)).toNat]? = s.data.toList[(a + i).toNat]?) ?_ ?_ ?_ c hc
    · intro n t hn ht hF h psz
      rw [to_keep n t ht] at psz
      simp only [sumOf, from_keep] at hF
      simp only [keptL, from_keep] at h
      by_cases hin : i < n
      · rw [mov_keep_in true i n t cs hin]
        constructor
        · by_cases h1 : i + 1 < n
          · rw [mov_keep_in _ _ _ _ _ h1]
          · obtain rfl : n = i + 1 := by omega
            rw [mov_keep_out _ _ _ _ _ (by omega), Int.sub_self, mov_zero cs hs']; omega
        · simp only [appB]
          rw [ba_get_append_left (by omega)]
          unfold partB
          rw [if_pos rfl, ba_extract, List.getElem?_take, if_pos (by dsimp only; omega), List.getElem?_drop]
          congr 1
          omega
      · rw [decide_eq_false (p := i < n) hin] at h
        simp only [Bool.and_false, Bool.false_or] at h
        obtain ⟨e1, e2⟩ := ih (a + n) (i - n) (by omega) (by omega) (by omega) h
        have b0 := bd (i - n) (by omega)
        rw [mov_keep_out true i n t cs (by omega), mov_keep_out false (i + 1) n t cs (by omega), show i + 1 - n = i - n + 1 by omega, e1]
        refine ⟨by omega, ?_⟩
        simp only [appB, from_keep]
        rw [show (n + movL true (i - n) cs).toNat = (partB s a ⟨0, n, t⟩).size + (movL true (i - n) cs).toNat by omega, ba_get_append_right, e2]
        congr 1
        omega
    · intro n t hn ht hF h psz
      rw [to_cut] at psz
      simp only [sumOf, from_cut] at hF
      simp only [keptL, from_cut] at h
      rw [decide_eq_false (p := (2 : Int) = 0) (by omega)] at h
      simp only [Bool.false_and, Bool.false_or] at h
      by_cases hin : i < n
      · rw [kept_neg cs (i - n) hs' (by omega)] at h; cases h
      · obtain ⟨e1, e2⟩ := ih (a + n) (i - n) (by omega) (by omega) (by omega) h
        have b0 := bd (i - n) (by omega)
        rw [mov_cut_out true i n t cs (by omega), mov_cut_out false (i + 1) n t cs (by omega), show i + 1 - n = i - n + 1 by omega, e1]
        refine ⟨rfl, ?_⟩
        simp only [appB, from_cut]
        have e3 := ba_get_append_right (s := partB s a ⟨2, n, t⟩) (t := appB s (a + n) cs) (i := (movL true (i - n) cs).toNat)
        rw [show (partB s a ⟨2, n, t⟩).size = 0 by omega, Nat.zero_add] at e3
        rw [e3, e2]
        congr 1
        omega
    · intro t hF h psz
      rw [to_put] at psz
      simp only [sumOf, from_put] at hF
      simp only [keptL, from_put] at h
      rw [decide_eq_false (p := (1 : Int) = 0) (by omega)] at h
      simp only [Bool.false_and, Bool.false_or, Int.sub_zero] at h
      obtain ⟨e1, e2⟩ := ih a i ha hi (by omega) h
      have b0 := bd i hi
      rw [mov_put_yes true i t cs hi (.inr rfl), mov_put_yes false (i + 1) t cs (by omega) (.inl (by omega)), e1]
      refine ⟨by omega, ?_⟩
      simp only [appB, from_put, Int.add_zero]
      rw [show ((t.size : Int) + movL true i cs).toNat = (partB s a ⟨1, 0, t⟩).size + (movL true i cs).toNat by omega, ba_get_append_right, e2]

section
variable (i n : Int) (t : ByteArray) (cs : List C)
theorem kept_in (h0 : 0 ≤ i) (h1 : i < n) : keptL i (⟨0, n, t⟩ :: cs) = true := by simp [keptL, h0, h1]
theorem kept_out (h : i < 0 ∨ n ≤ i) : keptL i (⟨0, n, t⟩ :: cs) = keptL (i - n) cs := by
  simp only [keptL, from_keep]
  rcases h with h | h
  · rw [decide_eq_false (p := 0 ≤ i) (by omega)]; simp
  · rw [decide_eq_false (p := i < n) (by omega)]; simp
theorem kept_cut : keptL i (⟨2, n, t⟩ :: cs) = keptL (i - n) cs := by simp [keptL, from_cut]
theorem kept_put : keptL i (⟨1, n, t⟩ :: cs) = keptL i cs := by simp [keptL, from_put]
end

end Go.Proofs.Ytlfgleickaaicaa
