/-
  Plain facts on lines and columns of a text. No condition.
-/
import Derived.Lib.LastIndexByte
import Derived.Lib.Bytealg
namespace Go.Proofs.Ytijfifbjiakilaa

theorem snoc_ind {α : Type} {P : List α → Prop} (h0 : P []) (h1 : ∀ l x, P l → P (l ++ [x])) (l : List α) : P l := by
  have h : ∀ n (l : List α), l.length = n → P l := by
    intro n
    induction n with
    | zero => intro l hl; rw [List.eq_nil_of_length_eq_zero hl]; exact h0
    | succ n ih =>
      intro l hl
      have hne : l ≠ [] := fun e => by rw [e] at hl; simp at hl
      rw [← List.dropLast_concat_getLast hne]
      exact h1 _ _ (ih _ (by rw [List.length_dropLast, hl]; rfl))
  exact h _ l rfl

/-- How many bytes 10 there are. -/
def lineOf (l : List UInt8) : Nat := l.count 10
/-- How many bytes stand behind the last byte 10. -/
def colOf (l : List UInt8) : Nat := l.foldl (fun c x => if x = 10 then 0 else c + 1) 0

theorem lineOf_snoc (l : List UInt8) (x : UInt8) : lineOf (l ++ [x]) = if x = 10 then lineOf l + 1 else lineOf l := by
  unfold lineOf
  rw [List.count_append, List.count_singleton]
  by_cases h : x = 10 <;> simp [h]
theorem colOf_snoc (l : List UInt8) (x : UInt8) : colOf (l ++ [x]) = if x = 10 then 0 else colOf l + 1 := by
  unfold colOf
  rw [List.foldl_append]
  rfl
theorem colOf_le (l : List UInt8) : colOf l ≤ l.length := by
  refine snoc_ind (P := fun l => colOf l ≤ l.length) (Nat.le_refl _) (fun l x ih => ?_) l
  rw [colOf_snoc, List.length_append]
  split
  · omega
  · simp; omega
theorem lineOf_le (l : List UInt8) : lineOf l ≤ l.length := List.count_le_length

/-- Behind bytes that are not 10 the line is the same, the column is so much greater. -/
theorem line_far (a b : List UInt8) (h : ∀ x ∈ b, x ≠ 10) : lineOf (a ++ b) = lineOf a ∧ colOf (a ++ b) = colOf a + b.length := by
  revert h
  refine snoc_ind (P := fun b => (∀ x ∈ b, x ≠ 10) → lineOf (a ++ b) = lineOf a ∧ colOf (a ++ b) = colOf a + b.length) (fun _ => by simp) (fun b x ih h => ?_) b
  have h1 := ih fun y hy => h y (by simp [hy])
  have hx := h x (by simp)
  rw [← List.append_assoc, lineOf_snoc, colOf_snoc, if_neg hx, if_neg hx, h1.1, h1.2, List.length_append]
  exact ⟨rfl, by simp; omega⟩
theorem line_mono (a b : List UInt8) : lineOf a ≤ lineOf (a ++ b) := by
  unfold lineOf
  rw [List.count_append]
  omega
theorem line_same {a b : List UInt8} (h : lineOf (a ++ b) = lineOf a) : ∀ x ∈ b, x ≠ 10 := by
  unfold lineOf at h
  rw [List.count_append] at h
  have h0 : b.count 10 = 0 := by omega
  intro x hx e
  subst e
  exact List.count_eq_zero.1 h0 hx

theorem take_split (t : List UInt8) {n m : Nat} (h : n ≤ m) : t.take m = t.take n ++ (t.drop n).take (m - n) := by
  rw [show m = n + (m - n) by omega, List.take_add]
  congr 2
  omega

/-- A place is told by its line and column. -/
theorem place_unique {t : List UInt8} {n m : Nat} (hn : n ≤ t.length) (hm : m ≤ t.length) (hl : lineOf (t.take n) = lineOf (t.take m)) (hc : colOf (t.take n) = colOf (t.take m)) : n = m := by
  have key : ∀ n m : Nat, n ≤ m → m ≤ t.length → lineOf (t.take n) = lineOf (t.take m) → colOf (t.take n) = colOf (t.take m) → n = m := by
    intro n m h hm hl hc
    rw [take_split t h] at hl hc
    have h1 := line_far (t.take n) ((t.drop n).take (m - n)) (line_same hl.symm)
    rw [h1.2, List.length_take, List.length_drop] at hc
    omega
  rcases Nat.le_total n m with h | h
  · exact key n m h hm hl hc
  · exact (key m n h hn hl.symm hc.symm).symm

/-- The column by the last byte 10's place. -/
theorem lastIdx_col (s : ByteArray) : ∀ k : Nat, k ≤ s.size → (k : Int) - (Lib.lastIdx s 10 k + 1) = (colOf (s.data.toList.take k) : Int) ∧ -1 ≤ Lib.lastIdx s 10 k ∧ Lib.lastIdx s 10 k < k
  | 0, _ => by simp [Lib.lastIdx, colOf]
  | k + 1, h => by
    have ih := lastIdx_col s k (by omega)
    have hk : k < s.data.size := h
    have hl : k < s.data.toList.length := by simpa using hk
    have e : s.data.toList.take (k + 1) = s.data.toList.take k ++ [s.data[k]] := by
      rw [List.take_succ_eq_append_getElem hl]; simp
    have e2 : s.data[k]! = s.data[k] := getElem!_pos s.data k hk
    rw [e, colOf_snoc]
    by_cases hx : s.data[k] = 10
    · rw [Lib.lastIdx_hit s 10 k (by rw [e2, hx]; rfl), if_pos hx]
      omega
    · rw [Lib.lastIdx_miss s 10 k (fun h => hx (by
        rw [e2] at h
        apply UInt8.toNat_inj.1
        have : s.data[k].toNat = 10 := by omega
        rw [this]; rfl)), if_neg hx]
      have := ih.1
      omega

end Go.Proofs.Ytijfifbjiakilaa
