/-
  Plain facts on lists of bytes in pieces. No condition.
-/
namespace Go.Proofs.Ytijfifbjiakilaa

/-- Pieces of 1 to 16 bytes. -/
def Small (ls : List (List UInt8)) : Prop := ∀ l ∈ ls, 0 < l.length ∧ l.length ≤ 16
/-- Two neighbors together are more than 16 bytes. -/
def Tight (ls : List (List UInt8)) : Prop := ∀ (i : Nat) a b, ls[i]? = some a → ls[i + 1]? = some b → 16 < a.length + b.length

theorem small_nil : Small [] := fun l h => by cases h
theorem tight_nil : Tight [] := fun i a b h => by simp at h

theorem Small.append {a b : List (List UInt8)} (h : Small a) (k : Small b) : Small (a ++ b) := fun l hl => (List.mem_append.1 hl).elim (h l) (k l)
theorem Small.left {a b : List (List UInt8)} (h : Small (a ++ b)) : Small a := fun l hl => h l (List.mem_append.2 (.inl hl))
theorem Small.right {a b : List (List UInt8)} (h : Small (a ++ b)) : Small b := fun l hl => h l (List.mem_append.2 (.inr hl))
theorem Small.single {l : List UInt8} (h0 : 0 < l.length) (h : l.length ≤ 16) : Small [l] := fun x hx => by simp at hx; subst hx; exact ⟨h0, h⟩
theorem Small.cons {l : List UInt8} {r : List (List UInt8)} (h : Small (l :: r)) : 0 < l.length ∧ l.length ≤ 16 ∧ Small r := ⟨(h l (by simp)).1, (h l (by simp)).2, fun x hx => h x (by simp [hx])⟩

theorem Small.length {ls : List (List UInt8)} (h : Small ls) : ls.length ≤ ls.flatten.length := by
  induction ls with
  | nil => simp
  | cons l r ih =>
    have h1 := h.cons
    have := ih h1.2.2
    simp only [List.length_cons, List.flatten_cons, List.length_append]
    omega

/-- A piece behind, that does not fit into the last one. -/
theorem Tight.snoc {ls : List (List UInt8)} {c : List UInt8} (h : Tight ls) (hc : ∀ l, ls.getLast? = some l → 16 < l.length + c.length) : Tight (ls ++ [c]) := by
  intro i a b ha hb
  have hi : i + 1 < (ls ++ [c]).length := (List.getElem?_eq_some_iff.1 hb).1
  simp at hi
  by_cases hlt : i + 1 < ls.length
  · rw [List.getElem?_append_left (by omega)] at ha
    rw [List.getElem?_append_left hlt] at hb
    exact h i a b ha hb
  · have hil : i + 1 = ls.length := by omega
    rw [List.getElem?_append_left (by omega)] at ha
    rw [List.getElem?_append_right (by omega), hil] at hb
    simp at hb
    subst hb
    exact hc a (by rw [List.getLast?_eq_getElem?, ← hil]; simpa using ha)

/-- The last piece grows. -/
theorem Tight.grow {ls : List (List UInt8)} {l c : List UInt8} (h : Tight (ls ++ [l])) : Tight (ls ++ [l ++ c]) := by
  intro i a b ha hb
  have hi : i + 1 < (ls ++ [l ++ c]).length := (List.getElem?_eq_some_iff.1 hb).1
  simp at hi
  rw [List.getElem?_append_left (by omega)] at ha
  by_cases hlt : i + 1 < ls.length
  · rw [List.getElem?_append_left hlt] at hb
    exact h i a b (by rw [List.getElem?_append_left (by omega)]; exact ha) (by rw [List.getElem?_append_left hlt]; exact hb)
  · have hil : i + 1 = ls.length := by omega
    rw [List.getElem?_append_right (by omega), hil] at hb
    simp at hb
    subst hb
    have := h i a l (by rw [List.getElem?_append_left (by omega)]; exact ha) (by rw [List.getElem?_append_right (by omega), hil]; simp)
    rw [List.length_append]
    omega

/-- What holds of a text that is cut from the front: 'done' stands, 'rest' is to come. -/
structure CutTo (s : List UInt8) (done : List (List UInt8)) (rest : List UInt8) : Prop where
  whole : done.flatten ++ rest = s
  small : Small done
  tight : Tight done
  full : rest ≠ [] → ∀ l ∈ done, l.length = 16

theorem CutTo.start (s : List UInt8) : CutTo s [] s := ⟨rfl, small_nil, tight_nil, fun _ l h => by cases h⟩

theorem CutTo.step {s : List UInt8} {done : List (List UInt8)} {rest : List UInt8} (h : CutTo s done rest) (h0 : rest ≠ []) (k : Nat) (hk : k = min rest.length 16) : CutTo s (done ++ [rest.take k]) (rest.drop k) := by
  have hl : 0 < rest.length := List.length_pos_iff.2 h0
  have hp : (rest.take k).length = k := by rw [List.length_take]; omega
  refine ⟨?_, h.small.append (.single (by omega) (by omega)), h.tight.snoc fun l hl' => ?_, fun hr => ?_⟩
  · rw [List.flatten_append, List.append_assoc]; simp [h.whole]
  · have := h.full h0 l (List.mem_of_getLast? hl')
    omega
  · intro l hl'
    rcases List.mem_append.1 hl' with h1 | h1
    · exact h.full h0 l h1
    · simp at h1
      subst h1
      have : 0 < (rest.drop k).length := List.length_pos_iff.2 hr
      rw [List.length_drop] at this
      omega

theorem CutTo.length {s : List UInt8} {done : List (List UInt8)} {rest : List UInt8} (h : CutTo s done rest) : done.length + rest.length ≤ s.length := by
  have := h.small.length
  rw [← h.whole, List.length_append]
  omega

theorem parts_at {ls : List (List UInt8)} {k : Nat} {l : List UInt8} (hk : k < ls.length) (hl : ls[k] = l) : ls.flatten = (ls.take k).flatten ++ (l ++ (ls.drop (k + 1)).flatten) := by
  conv => lhs; rw [← List.take_append_drop k ls, List.drop_eq_getElem_cons hk, hl]
  simp

theorem split_mid {ls : List (List UInt8)} {k m n : Nat} {l : List UInt8} (hk : k < ls.length) (hl : ls[k] = l) (hn : (ls.take k).flatten.length + m = n) (hm : m ≤ l.length) :
    (ls.take k ++ [l.take m]).flatten = ls.flatten.take n ∧ (l.drop m :: ls.drop (k + 1)).flatten = ls.flatten.drop n := by
  rw [parts_at hk hl, ← hn]
  constructor
  · rw [List.take_length_add_append, List.take_append_of_le_length hm]; simp
  · rw [List.drop_length_add_append, List.drop_append_of_le_length hm]; simp

theorem split_at {ls : List (List UInt8)} {k n : Nat} (hn : (ls.take k).flatten.length = n) : (ls.take k).flatten = ls.flatten.take n ∧ (ls.drop k).flatten = ls.flatten.drop n := by
  have h : ls.flatten = (ls.take k).flatten ++ (ls.drop k).flatten := by rw [← List.flatten_append, List.take_append_drop]
  rw [h, ← hn]
  simp

theorem take_step {ls : List (List UInt8)} {k : Nat} {l : List UInt8} (hk : k < ls.length) (hl : ls[k] = l) : (ls.take (k + 1)).flatten.length = (ls.take k).flatten.length + l.length := by
  rw [List.take_succ_eq_append_getElem hk, hl]; simp

theorem Small.take {ls : List (List UInt8)} (h : Small ls) (k : Nat) : Small (ls.take k) := fun l hl => h l (List.mem_of_mem_take hl)
theorem Small.drop {ls : List (List UInt8)} (h : Small ls) (k : Nat) : Small (ls.drop k) := fun l hl => h l (List.mem_of_mem_drop hl)
theorem Small.mk {l : List UInt8} {r : List (List UInt8)} (h0 : 0 < l.length) (h1 : l.length ≤ 16) (h : Small r) : Small (l :: r) := fun x hx => by
  rcases List.mem_cons.1 hx with rfl | hx
  · exact ⟨h0, h1⟩
  · exact h x hx

theorem rows_le {rows : List (List (List UInt8))} {k j : Nat} {row : List (List UInt8)} (hk : k < rows.length) (hr : rows[k] = row) : ((rows.take k).flatten.flatten ++ (row.take j).flatten).length ≤ rows.flatten.flatten.length := by
  have h : rows.flatten.flatten = (rows.take k).flatten.flatten ++ ((row.take j).flatten ++ ((row.drop j).flatten ++ (rows.drop (k + 1)).flatten.flatten)) := by
    rw [← List.append_assoc (row.take j).flatten, ← List.flatten_append, List.take_append_drop]
    conv => lhs; rw [← List.take_append_drop k rows, List.drop_eq_getElem_cons hk, hr]
    simp
  rw [h]
  simp only [List.length_append]
  omega

theorem rows_step {rows : List (List (List UInt8))} {k : Nat} {row : List (List UInt8)} (hk : k < rows.length) (hr : rows[k] = row) : (rows.take (k + 1)).flatten.flatten = (rows.take k).flatten.flatten ++ row.flatten := by
  rw [List.take_succ_eq_append_getElem hk, hr]; simp

theorem row_step {row : List (List UInt8)} {j : Nat} {l : List UInt8} (hj : j < row.length) (hl : row[j] = l) : (row.take (j + 1)).flatten = (row.take j).flatten ++ l := by
  rw [List.take_succ_eq_append_getElem hj, hl]; simp

theorem snoc_of_pos {α : Type} {ls : List α} (h : ls ≠ []) : ∃ a l, ls = a ++ [l] := ⟨ls.dropLast, ls.getLast h, (List.dropLast_concat_getLast h).symm⟩

end Go.Proofs.Ytijfifbjiakilaa
