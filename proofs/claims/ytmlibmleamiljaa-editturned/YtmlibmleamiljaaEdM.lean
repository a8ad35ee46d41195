/-
  Edits of four pieces (keep, put, cut, keep), what two texts have alike ahead and behind; plain facts. No program, no condition.
-/
import Derived.Test.YtmlibmleamiljaaAwake
namespace Go.Proofs.Ytmlibmleamiljaa
open Go.RowKit

/-- So many of most, from 0 on, one behind the other. -/
def Cnt (f : Nat → Bool) (most n : Nat) : Prop := n ≤ most ∧ (∀ i, i < n → f i = true) ∧ (n = most ∨ f n = false)
theorem Cnt.uniq {f : Nat → Bool} {most n m : Nat} (a : Cnt f most n) (b : Cnt f most m) : n = m := by
  obtain ⟨a1, a2, a3⟩ := a
  obtain ⟨b1, b2, b3⟩ := b
  rcases Nat.lt_trichotomy n m with h | h | h
  · have := b2 n h
    rcases a3 with a3 | a3
    · omega
    · rw [this] at a3; cases a3
  · exact h
  · have := a2 m h
    rcases b3 with b3 | b3
    · omega
    · rw [this] at b3; cases b3
def cnt (f : Nat → Bool) : Nat → Nat
  | 0 => 0
  | m + 1 => if cnt f m = m ∧ f m = true then m + 1 else cnt f m
theorem cnt_is (f : Nat → Bool) : ∀ m, Cnt f m (cnt f m)
  | 0 => ⟨Nat.le_refl _, fun i h => by simp [cnt] at h, .inl rfl⟩
  | m + 1 => by
    obtain ⟨a1, a2, a3⟩ := cnt_is f m
    unfold cnt
    split
    · rename_i h
      refine ⟨Nat.le_refl _, fun i hi => ?_, .inl rfl⟩
      by_cases h2 : i < m
      · exact a2 i (by omega)
      · obtain rfl : i = m := by omega
        exact h.2
    · rename_i h
      refine ⟨by omega, a2, .inr ?_⟩
      rcases a3 with a3 | a3
      · rw [a3]
        cases hf : f m with
        | true => exact absurd ⟨a3, hf⟩ h
        | false => rfl
      · exact a3
theorem cnt_eq {f : Nat → Bool} {m n : Nat} (h : Cnt f m n) : n = cnt f m := h.uniq (cnt_is f m)

/-- Alike at a place from the front; from behind. -/
def fwd (s t : ByteArray) (i : Nat) : Bool := s.data.toList[i]? == t.data.toList[i]?
def bwd (s t : ByteArray) (i : Nat) : Bool := s.data.toList[s.size - 1 - i]? == t.data.toList[t.size - 1 - i]?
def ahd (s t : ByteArray) : Nat := cnt (fwd s t) (min s.size t.size)
def bhd (s t : ByteArray) : Nat := cnt (bwd s t) (min s.size t.size - ahd s t)

theorem byte_at (s : ByteArray) (i : Nat) (h : i < s.size) : s.data.toList[i]? = some s[i] := by
  obtain ⟨⟨l⟩⟩ := s
  exact List.getElem?_eq_getElem h
theorem fwd_is {s t : ByteArray} {i : Nat} (h1 : i < s.size) (h2 : i < t.size) : ((s[i].toNat : Int) == (t[i].toNat : Int)) = fwd s t i := by
  unfold fwd
  rw [byte_at s i h1, byte_at t i h2]
  rw [Bool.eq_iff_iff, beq_iff_eq, beq_iff_eq]
  exact ⟨fun h => by rw [UInt8.toNat_inj.1 (Int.ofNat.inj h)], fun h => by rw [Option.some.inj h]⟩
theorem bwd_is {s t : ByteArray} {i p q : Nat} (hp : s.size - 1 - i = p) (hq : t.size - 1 - i = q) (h1 : p < s.size) (h2 : q < t.size) : ((s[p].toNat : Int) == (t[q].toNat : Int)) = bwd s t i := by
  subst hp; subst hq
  unfold bwd
  rw [byte_at s _ h1, byte_at t _ h2]
  rw [Bool.eq_iff_iff, beq_iff_eq, beq_iff_eq]
  exact ⟨fun h => by rw [UInt8.toNat_inj.1 (Int.ofNat.inj h)], fun h => by rw [Option.some.inj h]⟩
theorem fwd_comm (s t : ByteArray) : fwd s t = fwd t s := by
  funext i; unfold fwd; rw [Bool.eq_iff_iff, beq_iff_eq, beq_iff_eq]; exact ⟨Eq.symm, Eq.symm⟩
theorem bwd_comm (s t : ByteArray) : bwd s t = bwd t s := by
  funext i; unfold bwd; rw [Bool.eq_iff_iff, beq_iff_eq, beq_iff_eq]; exact ⟨Eq.symm, Eq.symm⟩
theorem ahd_comm (s t : ByteArray) : ahd s t = ahd t s := by unfold ahd; rw [fwd_comm, Nat.min_comm]
theorem bhd_comm (s t : ByteArray) : bhd s t = bhd t s := by unfold bhd; rw [bwd_comm, Nat.min_comm, ahd_comm]
theorem alike_le (s t : ByteArray) : ahd s t + bhd s t ≤ s.size ∧ ahd s t + bhd s t ≤ t.size := by
  have h1 := (cnt_is (fwd s t) (min s.size t.size)).1
  have h2 := (cnt_is (bwd s t) (min s.size t.size - ahd s t)).1
  unfold bhd
  change ahd s t ≤ _ at h1
  omega

/-- Keep, put, cut, keep. -/
def edL (a : Nat) (put : ByteArray) (c b : Nat) : List C := [⟨0, a, e0⟩, ⟨1, 0, put⟩, ⟨2, c, e0⟩, ⟨0, b, e0⟩]
theorem ed_raw {a c b : Nat} {put : ByteArray} (h1 : a + c + b ≤ 4096) (h2 : put.size ≤ 4096) : ∀ x ∈ edL a put c b, x.Raw := by
  intro x hx
  simp only [edL, List.mem_cons, List.not_mem_nil, or_false] at hx
  rcases hx with rfl | rfl | rfl | rfl
  · exact .inl ⟨.inl rfl, by dsimp only; omega, by dsimp only; omega, rfl⟩
  · exact .inr ⟨rfl, rfl, h2⟩
  · exact .inl ⟨.inr rfl, by dsimp only; omega, by dsimp only; omega, rfl⟩
  · exact .inl ⟨.inl rfl, by dsimp only; omega, by dsimp only; omega, rfl⟩
theorem ed_soft (a c b : Nat) (put : ByteArray) : ∀ x ∈ edL a put c b, x.Soft := by
  intro x hx
  simp only [edL, List.mem_cons, List.not_mem_nil, or_false] at hx
  rcases hx with rfl | rfl | rfl | rfl
  · exact .inl ⟨.inl rfl, by dsimp only; omega, rfl⟩
  · exact .inr ⟨rfl, rfl⟩
  · exact .inl ⟨.inr rfl, by dsimp only; omega, rfl⟩
  · exact .inl ⟨.inl rfl, by dsimp only; omega, rfl⟩
theorem ed_sums (a c b : Nat) (put : ByteArray) : sumOf fromC (edL a put c b) = ((a + c + b : Nat) : Int) ∧ sumOf toC (edL a put c b) = ((a + put.size + b : Nat) : Int) := by
  simp only [edL, sumOf, fromC, toC, C.sz, e0_size]
  simp only [if_true, show ¬ ((0 : Int) = 1) by omega, show ¬ ((2 : Int) = 1) by omega, show ¬ ((0 : Int) = 2) by omega, show ¬ ((1 : Int) = 2) by omega, if_false]
  omega
theorem ed_ok {a c b : Nat} {put : ByteArray} (h1 : a + c + b ≤ 4096) (h2 : a + put.size + b ≤ 4096) : okB (edL a put c b) = true := by
  obtain ⟨e1, e2⟩ := ed_sums a c b put
  exact okB_iff.2 ⟨by simp [edL], ed_raw h1 (by omega), by omega, by omega⟩
theorem ed_may {a c b : Nat} {put : ByteArray} (h1 : a + c + b ≤ 4096) (h2 : a + put.size + b ≤ 4096) : MayP (normOf (edL a put c b)) :=
  ⟨okB_normOf (ed_ok h1 h2), norm_normOf (ed_soft a c b put)⟩
theorem ed_from (a c b : Nat) (put : ByteArray) : sumOf fromC (normOf (edL a put c b)) = ((a + c + b : Nat) : Int) := by
  rw [sum_normOf from_join from_zero _ (ed_soft a c b put)]; exact (ed_sums a c b put).1
/-- What such an edit does. -/
theorem ed_app {s : ByteArray} {a c b : Nat} (put : ByteArray) (h : a + c + b = s.size) : appB s 0 (normOf (edL a put c b)) = s.extract 0 a ++ put ++ s.extract (a + c) s.size := by
  have l1 := ba_len s
  rw [appB_normOf (Int.le_refl 0) _ (ed_soft a c b put)]
  refine ba_ext ?_
  simp only [edL, appB, partB, fromC, ba_append_list]
  simp only [if_true, show ¬ ((0 : Int) = 1) by omega, show ¬ ((2 : Int) = 1) by omega, show ¬ ((2 : Int) = 0) by omega, show ¬ ((1 : Int) = 0) by omega, show ¬ ((1 : Int) = 2) by omega, if_false, ba_extract]
  rw [show (0 : Int).toNat = 0 from rfl, List.drop_zero, show (0 + (a : Int)).toNat - 0 = a by omega, show a - 0 = a by omega]
  rw [show e0.data.toList = [] from rfl, List.nil_append, List.append_nil]
  rw [show (0 + (a : Int) + 0 + (c : Int)).toNat = a + c by omega, show (0 + (a : Int) + 0 + (c : Int) + (b : Int)).toNat - (a + c) = s.size - (a + c) by omega]
  simp

/-- The edit between two texts. -/
def btL (s t : ByteArray) (i j : Nat) : List C := edL i (t.extract i (t.size - j)) (s.size - i - j) j
def btw (s t : ByteArray) : List C := normOf (btL s t (ahd s t) (bhd s t))
theorem bt_put {t : ByteArray} {i j : Nat} (h : i + j ≤ t.size) : (t.extract i (t.size - j)).size = t.size - i - j := by
  have := ByteArray.size_extract (a := t) (b := i) (e := t.size - j); omega
theorem bt_may {s t : ByteArray} (hs : s.size ≤ 4096) (ht : t.size ≤ 4096) : MayP (btw s t) := by
  obtain ⟨h1, h2⟩ := alike_le s t
  exact ed_may (by omega) (by rw [bt_put h2]; omega)
theorem bt_from (s t : ByteArray) : sumOf fromC (btw s t) = s.size := by
  obtain ⟨h1, h2⟩ := alike_le s t
  unfold btw btL
  rw [ed_from]; omega
theorem pre_take {s t : ByteArray} : ∀ {i : Nat}, (∀ k, k < i → fwd s t k = true) → s.data.toList.take i = t.data.toList.take i
  | 0, _ => rfl
  | i + 1, h => by
    rw [List.take_add_one, List.take_add_one, pre_take (fun k hk => h k (by omega)), beq_iff_eq.1 (h i (by omega))]
theorem drop_last (s : ByteArray) (j : Nat) (h : j < s.size) : s.data.toList.drop (s.size - (j + 1)) = (s.data.toList[s.size - 1 - j]?).toList ++ s.data.toList.drop (s.size - j) := by
  have l1 := ba_len s
  have e1 := byte_at s (s.size - 1 - j) (by omega)
  rw [e1, show s.size - (j + 1) = s.size - 1 - j by omega, List.drop_eq_getElem_cons (by omega)]
  rw [List.getElem?_eq_getElem (by omega)] at e1
  rw [Option.some.inj e1, show s.size - 1 - j + 1 = s.size - j by omega]
  rfl
theorem suf_drop {s t : ByteArray} : ∀ {j : Nat}, j ≤ s.size → j ≤ t.size → (∀ k, k < j → bwd s t k = true) → s.data.toList.drop (s.size - j) = t.data.toList.drop (t.size - j)
  | 0, _, _, _ => by rw [Nat.sub_zero, Nat.sub_zero, List.drop_eq_nil_of_le (Nat.le_of_eq (ba_len s)), List.drop_eq_nil_of_le (Nat.le_of_eq (ba_len t))]
  | j + 1, h1, h2, h => by
    rw [drop_last s j (by omega), drop_last t j (by omega), suf_drop (by omega) (by omega) (fun k hk => h k (by omega)), beq_iff_eq.1 (h j (by omega))]
theorem bt_app (s t : ByteArray) : appB s 0 (btw s t) = t := by
  obtain ⟨h1, h2⟩ := alike_le s t
  have P := pre_take (cnt_is (fwd s t) (min s.size t.size)).2.1
  have S := suf_drop (j := bhd s t) (by omega) (by omega) (cnt_is (bwd s t) (min s.size t.size - ahd s t)).2.1
  change s.data.toList.take (ahd s t) = t.data.toList.take (ahd s t) at P
  unfold btw btL
  generalize ahd s t = i at *
  generalize bhd s t = j at *
  rw [ed_app _ (by omega)]
  have l1 := ba_len s
  have l2 := ba_len t
  refine ba_ext ?_
  rw [ba_append_list, ba_append_list, ba_extract, ba_extract, ba_extract, List.drop_zero, Nat.sub_zero, P, show i + (s.size - i - j) = s.size - j by omega, S]
  rw [List.take_of_length_le (l := List.drop _ _) (i := s.size - (s.size - j)) (by rw [List.length_drop]; omega)]
  have e1 : t.data.toList.drop (t.size - j) = (t.data.toList.drop i).drop (t.size - j - i) := by rw [List.drop_drop]; congr 1; omega
  rw [e1, List.append_assoc, List.take_append_drop, List.take_append_drop]

end Go.Proofs.Ytmlibmleamiljaa
