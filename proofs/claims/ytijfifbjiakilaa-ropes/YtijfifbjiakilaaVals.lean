/-
  What Line, Place and Slice answer, as values that the reference's own answers are held against. Conditions: as each theorem's premises say.
-/
import Derived.Test.YtijfifbjiakilaaRef
namespace Go.Proofs.Ytijfifbjiakilaa
open Go.RowKit

def LA (t : List UInt8) (p : Int) : Int := if 0 ≤ p ∧ p ≤ (t.length : Int) then (lineOf (t.take p.toNat) : Nat) else 0
def LB (t : List UInt8) (p : Int) : Int := if 0 ≤ p ∧ p ≤ (t.length : Int) then (colOf (t.take p.toNat) : Nat) else 0
def LC (t : List UInt8) (p : Int) : Int := if 0 ≤ p ∧ p ≤ (t.length : Int) then 0 else 100

theorem line_val (r : Nat) (t : List UInt8) (p : Int) (w : World) (h : Rope w r t) :
    Calls Try.prog 13 #[.pointer (some ⟨r, 0, none⟩), .int .i64 p] w fun e w' => e = .returned (.tuple #[.int .i64 (LA t p), .int .i64 (LB t p), .int .i64 (LC t p)]) ∧ Below w.heap.size w w' := by
  unfold LA LB LC
  by_cases hp : 0 ≤ p ∧ p ≤ (t.length : Int)
  · rw [if_pos hp, if_pos hp, if_pos hp]
    obtain ⟨n, rfl⟩ := Int.eq_ofNat_of_zero_le hp.1
    rw [Int.toNat_natCast]
    exact line_ok r t n w h (by omega)
  · rw [if_neg hp, if_neg hp, if_neg hp]
    refine (line_no r t p w h hp).mono ?_
    rintro e w' ⟨rfl, rfl⟩
    exact ⟨rfl, Below.refl _ _⟩

theorem refLine_val (s : ByteArray) (t : List UInt8) (p : Int) (w : World) (ht : t = s.data.toList) (hs : s.size ≤ 4096) :
    Calls Try.prog 14 #[.string s, .int .i64 p] w fun e w' => e = .returned (.tuple #[.int .i64 (LA t p), .int .i64 (LB t p), .int .i64 (LC t p)]) ∧ w = w' := by
  subst ht
  unfold LA LB LC
  rw [size_toList]
  by_cases hp : 0 ≤ p ∧ p ≤ (s.size : Int)
  · rw [if_pos hp, if_pos hp, if_pos hp]
    obtain ⟨n, rfl⟩ := Int.eq_ofNat_of_zero_le hp.1
    rw [Int.toNat_natCast]
    exact refLine_ok s n w hs (by omega)
  · rw [if_neg hp, if_neg hp, if_neg hp]
    exact refLine_no s p w hp

/-- The answer of Place. -/
def PlaceRes (t : List UInt8) (L C m c : Int) : Prop :=
  (∃ n : Nat, n ≤ t.length ∧ (lineOf (t.take n) : Int) = L ∧ (colOf (t.take n) : Int) = C ∧ m = (n : Int) ∧ c = 0) ∨
    ((∀ n : Nat, n ≤ t.length → ¬ ((lineOf (t.take n) : Int) = L ∧ (colOf (t.take n) : Int) = C)) ∧ m = 0 ∧ c = 100)

theorem PlaceRes.unique {t : List UInt8} {L C m c m' c' : Int} (h : PlaceRes t L C m c) (h' : PlaceRes t L C m' c') : m = m' ∧ c = c' := by
  rcases h with ⟨n, hn, a, b, rfl, rfl⟩ | ⟨hno, rfl, rfl⟩
  · rcases h' with ⟨n', hn', a', b', rfl, rfl⟩ | ⟨hno, _, _⟩
    · have := place_unique (t := t) hn hn' (by omega) (by omega)
      subst this
      exact ⟨rfl, rfl⟩
    · exact absurd ⟨a, b⟩ (hno n hn)
  · rcases h' with ⟨n', hn', a', b', _, _⟩ | ⟨_, rfl, rfl⟩
    · exact absurd ⟨a', b'⟩ (hno n' hn')
    · exact ⟨rfl, rfl⟩

theorem place_val (r : Nat) (t : List UInt8) (L C : Int) (w : World) (h : Rope w r t) :
    Calls Try.prog 15 #[.pointer (some ⟨r, 0, none⟩), .int .i64 L, .int .i64 C] w fun e w' => ∃ m c : Int, e = .returned (.tuple #[.int .i64 m, .int .i64 c]) ∧ PlaceRes t L C m c ∧ Below w.heap.size w w' := by
  refine (place_any r t L C w h).mono ?_
  rintro e w' ⟨hb, ⟨n, hn, h1, h2, rfl⟩ | ⟨hno, rfl⟩⟩
  · exact ⟨_, _, rfl, .inl ⟨n, hn, h1, h2, rfl, rfl⟩, hb⟩
  · exact ⟨_, _, rfl, .inr ⟨hno, rfl, rfl⟩, hb⟩

theorem refPlace_val (s : ByteArray) (t : List UInt8) (L C : Int) (w : World) (ht : t = s.data.toList) (hs : s.size ≤ 4096) :
    Calls Try.prog 16 #[.string s, .int .i64 L, .int .i64 C] w fun e w' => ∃ m c : Int, e = .returned (.tuple #[.int .i64 m, .int .i64 c]) ∧ PlaceRes t L C m c ∧ w = w' := by
  subst ht
  refine (refPlace_any s L C w hs).mono ?_
  rintro e w' ⟨rfl, ⟨n, hn, h1, h2, rfl⟩ | ⟨hno, rfl⟩⟩
  · exact ⟨_, _, rfl, .inl ⟨n, hn, h1, h2, rfl, rfl⟩, rfl⟩
  · exact ⟨_, _, rfl, .inr ⟨hno, rfl, rfl⟩, rfl⟩

theorem bytes_eq {a b : ByteArray} (h : a.data.toList = b.data.toList) : a = b := by
  obtain ⟨⟨a⟩⟩ := a
  obtain ⟨⟨b⟩⟩ := b
  simp at h
  rw [h]

theorem ext_mid (s : ByteArray) (i j : Nat) : (s.extract i j).data.toList = (s.data.toList.drop i).take (j - i) := by
  obtain ⟨⟨l⟩⟩ := s
  rw [ByteArray.data_extract]
  simp [List.extract_eq_take_drop]

theorem slice_str (r : Nat) (s : ByteArray) (n k : Nat) (w : World) (h : Rope w r s.data.toList) (hn : n + k ≤ s.size) :
    Calls Try.prog 12 #[.pointer (some ⟨r, 0, none⟩), .int .i64 n, .int .i64 k] w fun e w' => e = .returned (.tuple #[.string (s.extract n (n + k)), .int .i64 0]) ∧ Below w.heap.size w w' := by
  have hT : (⟨((s.data.toList.drop n).take k).toArray⟩ : ByteArray) = s.extract n (n + k) := bytes_eq (by rw [ext_mid]; simp)
  rw [← hT]
  exact slice_ok r s.data.toList _ n k w h (by rw [size_toList]; exact hn) rfl

theorem insert_str (r : Nat) (s str : ByteArray) (n : Nat) (w : World) (h : Rope w r s.data.toList) (hn : n ≤ s.size) (hs : s.size + str.size ≤ 4096) :
    Calls Try.prog 10 #[.pointer (some ⟨r, 0, none⟩), .int .i64 n, .string str] w (OkPost r (s.extract 0 n ++ str ++ s.extract n s.size).data.toList w) :=
  insert_in r _ _ n str w h (by rw [size_toList]; exact hn) (by rw [size_toList]; exact hs) (by simp only [ByteArray.data_append, Array.toList_append, ext_take, ext_drop])

theorem delete_str (r : Nat) (s : ByteArray) (n k : Nat) (w : World) (h : Rope w r s.data.toList) (hn : n + k ≤ s.size) :
    Calls Try.prog 11 #[.pointer (some ⟨r, 0, none⟩), .int .i64 n, .int .i64 k] w (OkPost r (s.extract 0 n ++ s.extract (n + k) s.size).data.toList w) :=
  delete_in r _ _ n k w h (by rw [size_toList]; exact hn) (by simp only [ByteArray.data_append, Array.toList_append, ext_take, ext_drop])

/-- The block number n of a text. -/
def blockOf (n : Nat) : Code → Option Code
  | .block m c => if m = n then some (.block m c) else blockOf n c
  | .loop c => blockOf n c
  | .seq a b => match blockOf n a with
    | some c => some c
    | none => blockOf n b
  | .cond _ a b => match blockOf n a with
    | some c => some c
    | none => blockOf n b
  | .scope c => blockOf n c
  | _ => none

noncomputable def block1 : Code := (Try.f3.body.bind (blockOf 1)).getD .skip
noncomputable def block2 : Code := (Try.f3.body.bind (blockOf 2)).getD .skip

end Go.Proofs.Ytijfifbjiakilaa
