/-
  Walks of Line, of strings.Cut at one byte, of Place. Conditions: as each theorem's premises say.
-/
import Derived.Test.YtijfifbjiakilaaW6
import Derived.Test.YtijfifbjiakilaaLines
namespace Go.Proofs.Ytijfifbjiakilaa
open Go.RowKit

theorem ret_three {a a' b b' c : Int} (h1 : a = a') (h2 : b = b') : Ending.returned (.tuple #[.int .i64 a, .int .i64 b, .int .i64 c]) = .returned (.tuple #[.int .i64 a', .int .i64 b', .int .i64 c]) := by rw [h1, h2]

set_option maxHeartbeats 400000 in
theorem line_no (r : Nat) (t : List UInt8) (n : Int) (w : World) (h : Rope w r t) (hn : ¬ (0 ≤ n ∧ n ≤ (t.length : Int))) :
    Calls Try.prog 13 #[.pointer (some ⟨r, 0, none⟩), .int .i64 n] w fun e w' => e = .returned (.tuple #[.int .i64 0, .int .i64 0, .int .i64 100]) ∧ w = w' := by
  have R := Lib.hid h; have N := Lib.hid hn
  clear h hn
  go_enter Try.func13, Try.ntmps13
  go_wp2_with (go_at_call 12; refine (slice_no _ t _ _ _ R.out (fun h => N.out ⟨h.2.2.1, by omega⟩)).mono ?_; rintro e w' ⟨rfl, rfl⟩)
  go_ret3
  exact ⟨rfl, rfl⟩

set_option maxHeartbeats 400000 in
theorem line_ok (r : Nat) (t : List UInt8) (n : Nat) (w : World) (h : Rope w r t) (hn : n ≤ t.length) :
    Calls Try.prog 13 #[.pointer (some ⟨r, 0, none⟩), .int .i64 n] w fun e w' => e = .returned (.tuple #[.int .i64 (lineOf (t.take n) : Nat), .int .i64 (colOf (t.take n) : Nat), .int .i64 0]) ∧ Below w.heap.size w w' := by
  have hl := h.1
  have R := Lib.hid h
  clear h
  obtain ⟨T, hT⟩ : ∃ T, T = (t.drop 0).take n := ⟨_, rfl⟩
  have hTl : T.length = n := by rw [hT, List.drop_zero, List.length_take]; omega
  have hTt : T = t.take n := by rw [hT, List.drop_zero]
  rw [← hTt]
  have HT := Lib.hid hT; have TL := Lib.hid hTl
  clear hT hTl hTt
  go_enter Try.func13, Try.ntmps13
  go_wp2_with fail
  refine (slice_ok r t T 0 n w R.out (by omega) HT.out).mono ?_
  rintro e w1 ⟨rfl, hb⟩
  have B := Lib.hid hb
  clear hb
  obtain ⟨S, hS⟩ : ∃ S : ByteArray, S = ⟨T.toArray⟩ := ⟨_, rfl⟩
  rw [← hS]
  have HS := Lib.hid hS
  clear hS
  have hsz : S.size = n := by rw [HS.out, ← TL.out]; simp [ByteArray.size]
  have SZ := Lib.hid hsz
  clear hsz
  have hli := lastIdx_col S S.size (Nat.le_refl _)
  have LI := Lib.hid hli
  obtain ⟨-, hl1, hl2⟩ := hli
  rw [SZ.out] at hl2
  have hlb : Lib.lastIndexByte S 10 = Lib.lastIdx S 10 S.size := rfl
  rw [← hlb] at hl1
  rw [← SZ.out, ← hlb, SZ.out] at hl2
  clear hlb
  go_wp2_with (first | (go_at_call 26; refine (Try.strings_LastIndexByte S 10 (by rw [SZ.out]; omega) _).mono ?_; rintro e w' ⟨rfl, rfl⟩) | (go_at_call 27; refine (Try.strings_Count_one S 10 _).mono ?_; rintro e w' ⟨rfl, rfl⟩))
  go_ret3
  have hST : S.data.toList = T := by rw [HS.out]
  have hcol : (n : Int) - (Lib.lastIndexByte S 10 + 1) = (colOf T : Nat) := by
    have := LI.out.1
    rw [List.take_of_length_le (by rw [size_toList]; omega), hST, SZ.out] at this
    rw [← this, ← SZ.out]
    rfl
  exact ⟨ret_three (by rw [hST]; rfl) hcol, B.out⟩

/-- Where the first byte 10 stands. -/
theorem index_spec (l : List UInt8) : (Lib.indexByte l 10 = -1 ∧ ∀ x ∈ l, x ≠ 10) ∨ ∃ i : Nat, i < l.length ∧ Lib.indexByte l 10 = i ∧ l[i]? = some 10 ∧ ∀ x ∈ l.take i, x ≠ 10 := by
  induction l with
  | nil => exact .inl ⟨rfl, fun x h => by cases h⟩
  | cons b l ih =>
    by_cases hb : b = 10
    · exact .inr ⟨0, by simp, by simp [Lib.indexByte, hb], by simp [hb], fun x h => by simp at h⟩
    · have hb' : (b == 10) = false := by simpa using hb
      rcases ih with ⟨e, h⟩ | ⟨i, hi, e, h1, h2⟩
      · refine .inl ⟨by simp [Lib.indexByte, hb', e], fun x hx => ?_⟩
        rcases List.mem_cons.1 hx with rfl | hx
        · exact hb
        · exact h x hx
      · refine .inr ⟨i + 1, by simp; omega, ?_, by simpa using h1, fun x hx => ?_⟩
        · have : ((i : Int) == -1) = false := beq_eq_false_iff_ne.2 (by omega)
          simp only [Lib.indexByte, hb', e, this]
          simp
        · rw [List.take_succ_cons] at hx
          rcases List.mem_cons.1 hx with rfl | hx
          · exact hb
          · exact h2 x hx

set_option maxHeartbeats 400000 in
theorem lite_miss (s : ByteArray) (w : World) (h : Lib.indexByte s.data.toList 10 = -1) :
    Calls Try.prog 35 #[.string s, .string ⟨#[10]⟩] w fun e w' => e = .returned (.tuple #[.string s, .string ByteArray.empty, .bool false]) ∧ w = w' := by
  have H := Lib.hid h; clear h
  go_enter Try.func35, Try.ntmps35
  go_wp2_with (go_at_call 37; refine (Try.stringslite_Index_one s 10 _).mono ?_; rintro e w' ⟨rfl, rfl⟩; rw [H.out])
  go_ret3
  exact ⟨rfl, rfl⟩

set_option maxHeartbeats 400000 in
theorem lite_found (s : ByteArray) (i : Nat) (w : World) (h : Lib.indexByte s.data.toList 10 = i) (hi : i < s.size) (hs : s.size ≤ 4096) :
    Calls Try.prog 35 #[.string s, .string ⟨#[10]⟩] w fun e w' => e = .returned (.tuple #[.string (s.extract 0 i), .string (s.extract (i + 1) s.size), .bool true]) ∧ Below w.heap.size w w' := by
  have H := Lib.hid h; clear h
  go_enter Try.func35, Try.ntmps35
  go_wp2_with (go_at_call 37; refine (Try.stringslite_Index_one s 10 _).mono ?_; rintro e w' ⟨rfl, rfl⟩; rw [H.out])
  have hle : i ≤ s.size := by omega
  have hwr : IntKind.i64.wrap ((i : Int) + 1) = (i : Int) + 1 := IntWalk.i64_in _ (by omega)
  have h0 : (0 : Int) ≤ (i : Int) + 1 := by omega
  have h1 : (i : Int) + 1 ≤ (s.size : Int) := by omega
  have h2 : ((i : Int) + 1).toNat = i + 1 := by omega
  go_quiet (fail)
  clear hwr h0 h1 h2
  go_wp2
  go_ret3
  exact ⟨rfl, ⟨rfl, rfl, rfl, Nat.le_refl _, fun _ _ => rfl⟩⟩

set_option maxHeartbeats 400000 in
theorem cut10_miss (s : ByteArray) (w : World) (h : Lib.indexByte s.data.toList 10 = -1) :
    Calls Try.prog 28 #[.string s, .string ⟨#[10]⟩] w fun e w' => e = .returned (.tuple #[.string s, .string ByteArray.empty, .bool false]) ∧ w = w' := by
  have H := Lib.hid h; clear h
  go_enter Try.func28, Try.ntmps28
  go_wp2_with (go_at_call 35; refine (lite_miss s _ H.out).mono ?_; rintro e w' ⟨rfl, rfl⟩)
  go_ret3
  exact ⟨rfl, rfl⟩

set_option maxHeartbeats 400000 in
theorem cut10_found (s : ByteArray) (i : Nat) (w : World) (h : Lib.indexByte s.data.toList 10 = i) (hi : i < s.size) (hs : s.size ≤ 4096) :
    Calls Try.prog 28 #[.string s, .string ⟨#[10]⟩] w fun e w' => e = .returned (.tuple #[.string (s.extract 0 i), .string (s.extract (i + 1) s.size), .bool true]) ∧ Below w.heap.size w w' := by
  have H := Lib.hid h; clear h
  go_enter Try.func28, Try.ntmps28
  go_wp2_with (go_at_call 35; refine (lite_found s i _ H.out hi hs).mono ?_; rintro e w' ⟨rfl, hb⟩)
  go_ret3
  exact ⟨rfl, hb⟩

/-- A line's beginning: the place d, behind k bytes 10. -/
structure AtLine (t : List UInt8) (k d : Nat) : Prop where
  le : d ≤ t.length
  line : lineOf (t.take d) = k
  col : colOf (t.take d) = 0

theorem AtLine.start (t : List UInt8) : AtLine t 0 0 := ⟨Nat.zero_le _, rfl, rfl⟩

theorem AtLine.le4 {t : List UInt8} {k d : Nat} (h : AtLine t k d) : k ≤ t.length := by
  have := lineOf_le (t.take d)
  rw [h.line, List.length_take] at this
  omega

/-- The next line. -/
theorem AtLine.next {t : List UInt8} {k d i : Nat} (h : AtLine t k d) (hi : i < (t.drop d).length) (hx : (t.drop d)[i]? = some 10) (hn : ∀ x ∈ (t.drop d).take i, x ≠ 10) : AtLine t (k + 1) (d + (i + 1)) := by
  have hd : d + (i + 1) ≤ t.length := by rw [List.length_drop] at hi; omega
  have e : t.take (d + (i + 1)) = (t.take d ++ (t.drop d).take i) ++ [10] := by
    rw [List.take_add, List.append_assoc, List.take_succ_eq_append_getElem hi]
    congr 3
    rw [List.getElem?_eq_getElem hi] at hx
    exact Option.some.inj hx
  have hf := line_far (t.take d) ((t.drop d).take i) hn
  exact ⟨hd, by rw [e, lineOf_snoc, if_pos rfl, hf.1, h.line], by rw [e, colOf_snoc, if_pos rfl]⟩

/-- A place in the line. -/
theorem AtLine.there {t : List UInt8} {k d c : Nat} (h : AtLine t k d) (hc : d + c ≤ t.length) (hn : ∀ x ∈ (t.drop d).take c, x ≠ 10) : lineOf (t.take (d + c)) = k ∧ colOf (t.take (d + c)) = c := by
  have hf := line_far (t.take d) ((t.drop d).take c) hn
  rw [← List.take_add] at hf
  rw [hf.1, hf.2, h.line, h.col, List.length_take, List.length_drop]
  exact ⟨rfl, by omega⟩

/-- No place has a line behind the last one. -/
theorem AtLine.last {t : List UInt8} {k d : Nat} (h : AtLine t k d) (hn : ∀ x ∈ t.drop d, x ≠ 10) (n : Nat) : lineOf (t.take n) ≤ k := by
  have h1 : lineOf (t.take n) ≤ lineOf t := by
    have := line_mono (t.take n) (t.drop n)
    rwa [List.take_append_drop] at this
  have h2 := (line_far (t.take d) (t.drop d) hn).1
  rw [List.take_append_drop, h.line] at h2
  omega

/-- Where a line's places are: from its beginning to m bytes behind it, m its length. -/
theorem AtLine.within {t : List UInt8} {k d m n : Nat} (h : AtLine t k d) (hm : d + m = t.length ∨ (t.drop d)[m]? = some 10) (hn : n ≤ t.length) (hl : lineOf (t.take n) = k) : d ≤ n ∧ n ≤ d + m := by
  constructor
  · rcases Nat.lt_or_ge n d with hlt | hge
    · have hs : lineOf (t.take n ++ (t.drop n).take (d - n)) = lineOf (t.take n) := by
        rw [← take_split t (Nat.le_of_lt hlt), h.line, hl]
      have hf := line_far (t.take n) ((t.drop n).take (d - n)) (line_same hs)
      rw [← take_split t (Nat.le_of_lt hlt), h.col, List.length_take, List.length_drop] at hf
      have := h.le
      omega
    · exact hge
  · rcases hm with hm | hm
    · omega
    · rcases Nat.lt_or_ge (d + m) n with hlt | hge
      · have hge : d ≤ n := by omega
        have hs : lineOf (t.take d ++ (t.drop d).take (n - d)) = lineOf (t.take d) := by
          rw [← take_split t hge, hl, h.line]
        have := line_same hs 10 (List.mem_iff_getElem?.2 ⟨m, by rw [List.getElem?_take, if_pos (by omega)]; exact hm⟩)
        exact absurd rfl this
      · exact hge

end Go.Proofs.Ytijfifbjiakilaa
