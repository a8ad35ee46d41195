/-
  The walk of awake: it answers true. No condition.
-/
import Derived.Test.YtijfifbjiakilaaW8
namespace Go.Proofs.Ytijfifbjiakilaa
open Go.RowKit

theorem grown_refl (w : World) (row : Option Nat) : w.grownBy w row := ⟨rfl, rfl, rfl, Nat.le_refl _, fun _ _ _ => rfl⟩

theorem insert_in (r : Nat) (t T : List UInt8) (n : Nat) (s : ByteArray) (w : World) (h : Rope w r t) (hn : n ≤ t.length) (hs : t.length + s.size ≤ 4096) (hT : T = t.take n ++ s.data.toList ++ t.drop n) :
    Calls Try.prog 10 #[.pointer (some ⟨r, 0, none⟩), .int .i64 n, .string s] w (OkPost r T w) := by
  by_cases h0 : s.size = 0
  · refine (insert_none r t n s w h (by omega) h0).mono ?_
    rintro e w' ⟨rfl, rfl⟩
    have hs0 : s.data.toList = [] := List.eq_nil_of_length_eq_zero (by rw [size_toList, h0])
    rw [hs0, List.append_nil, List.take_append_drop] at hT
    subst hT
    exact ⟨rfl, h, grown_refl _ _⟩
  · exact insert_ok r t T n s w h hn hs (by omega) hT

theorem delete_in (r : Nat) (t T : List UInt8) (n k : Nat) (w : World) (h : Rope w r t) (hn : n + k ≤ t.length) (hT : T = t.take n ++ t.drop (n + k)) :
    Calls Try.prog 11 #[.pointer (some ⟨r, 0, none⟩), .int .i64 n, .int .i64 k] w (OkPost r T w) := by
  by_cases h0 : k = 0
  · subst h0
    refine (delete_none r t n w h (by omega)).mono ?_
    rintro e w' ⟨rfl, rfl⟩
    rw [Nat.add_zero, List.take_append_drop] at hT
    subst hT
    exact ⟨rfl, h, grown_refl _ _⟩
  · exact delete_ok r t T n k w h hn (by omega) hT

theorem insert_okI (p : Int) (r : Nat) (t T : List UInt8) (n : Nat) (s : ByteArray) (w : World) (hp : p = (n : Int)) (h : Rope w r t) (hn : n ≤ t.length) (hs : t.length + s.size ≤ 4096) (hs0 : 0 < s.size) (hT : T = t.take n ++ s.data.toList ++ t.drop n) :
    Calls Try.prog 10 #[.pointer (some ⟨r, 0, none⟩), .int .i64 p, .string s] w (OkPost r T w) := by
  subst hp; exact insert_ok r t T n s w h hn hs hs0 hT
theorem delete_okI (p q : Int) (r : Nat) (t T : List UInt8) (n k : Nat) (w : World) (hp : p = (n : Int)) (hq : q = (k : Int)) (h : Rope w r t) (hn : n + k ≤ t.length) (hk0 : 0 < k) (hT : T = t.take n ++ t.drop (n + k)) :
    Calls Try.prog 11 #[.pointer (some ⟨r, 0, none⟩), .int .i64 p, .int .i64 q] w (OkPost r T w) := by
  subst hp; subst hq; exact delete_ok r t T n k w h hn hk0 hT
theorem slice_okI (p q : Int) (r : Nat) (t T : List UInt8) (n k : Nat) (w : World) (hp : p = (n : Int)) (hq : q = (k : Int)) (h : Rope w r t) (hn : n + k ≤ t.length) (hT : T = (t.drop n).take k) :
    Calls Try.prog 12 #[.pointer (some ⟨r, 0, none⟩), .int .i64 p, .int .i64 q] w fun e w' => e = .returned (.tuple #[.string ⟨T.toArray⟩, .int .i64 0]) ∧ Below w.heap.size w w' := by
  subst hp; subst hq; exact slice_ok r t T n k w h hn hT
theorem line_okI (p : Int) (a b : Int) (r : Nat) (t : List UInt8) (n : Nat) (w : World) (hp : p = (n : Int)) (h : Rope w r t) (hn : n ≤ t.length) (ha : (lineOf (t.take n) : Int) = a) (hb : (colOf (t.take n) : Int) = b) :
    Calls Try.prog 13 #[.pointer (some ⟨r, 0, none⟩), .int .i64 p] w fun e w' => e = .returned (.tuple #[.int .i64 a, .int .i64 b, .int .i64 0]) ∧ Below w.heap.size w w' := by
  subst hp; subst ha; subst hb; exact line_ok r t n w h hn
theorem place_okI (L C : Int) (m : Int) (r : Nat) (t : List UInt8) (n : Nat) (w : World) (h : Rope w r t) (hn : n ≤ t.length) (ha : (lineOf (t.take n) : Int) = L) (hb : (colOf (t.take n) : Int) = C) (hm : m = (n : Int)) :
    Calls Try.prog 15 #[.pointer (some ⟨r, 0, none⟩), .int .i64 L, .int .i64 C] w fun e w' => e = .returned (.tuple #[.int .i64 m, .int .i64 0]) ∧ Below w.heap.size w w' := by
  refine (place_any r t L C w h).mono ?_
  rintro e w' ⟨hbl, ⟨n', hn', h1, h2, rfl⟩ | ⟨hno, _⟩⟩
  · have := place_unique (t := t) hn' hn (by omega) (by omega)
    subst this
    exact ⟨by rw [hm], hbl⟩
  · exact absurd ⟨ha, hb⟩ (hno n hn)
theorem len_rope (r : Nat) (t : List UInt8) (n : Int) (w : World) (h : Rope w r t) (hn : n = (t.length : Int)) : Calls Try.prog 17 #[.pointer (some ⟨r, 0, none⟩)] w fun e w' => e = .returned (.int .i64 n) ∧ w = w' := by
  subst hn
  obtain ⟨_, ls, ⟨v, _, h1, _⟩, _, _, hfl⟩ := h
  rw [hfl] at h1
  exact len_any r _ w h1

theorem below_row {B r : Nat} {w0 w w' : World} (h : Below B w0 w) (hg : w.grownBy w' (some r)) (hB : B ≤ w.heap.size) (hr : B ≤ r) : Below B w0 w' := h.grown hg hB (fun k hk => by cases hk; exact hr)

set_option maxRecDepth 100000 in
set_option maxHeartbeats 1000000 in
theorem awake_true (w : World) : Calls Try.prog 9 #[] w fun e w' => e = .returned (.bool true) ∧ Below w.heap.size w w' := by
  go_enter Try.func9, Try.ntmps9
  go_wp2_with fail
  refine (new_ok _ _ (by decide)).mono ?_
  rintro e w1 ⟨r, rfl, hr, hrope, hb⟩
  have R1 : Hid (Rope w1 r [97, 98, 10, 99, 100]) := Lib.hid hrope
  have B1 := Lib.hid hb
  clear hrope hb
  go_wp2_with (go_at_call 8; refine (num_any _ _).mono ?_; rintro e w' ⟨rfl, rfl⟩)
  refine (insert_okI _ r [97, 98, 10, 99, 100] [97, 98, 120, 121, 10, 99, 100] 2 _ _ rfl R1.out (by decide) (by decide) (by decide) (by decide)).mono ?_
  rintro e w2 ⟨rfl, hrope, hg⟩
  have R2 := Lib.hid hrope
  have B2 := Lib.hid (below_row B1.out hg B1.out.size hr)
  clear hrope hg
  go_wp2_with fail
  refine (delete_okI _ _ r [97, 98, 120, 121, 10, 99, 100] [98, 120, 121, 10, 99, 100] 0 1 _ rfl rfl R2.out (by decide) (by decide) (by decide)).mono ?_
  rintro e w3 ⟨rfl, hrope, hg⟩
  have R3 := Lib.hid hrope
  have B3 := Lib.hid (below_row B2.out hg B2.out.size hr)
  clear hrope hg R1 R2 B1 B2
  go_wp2_with fail
  refine (slice_okI _ _ r [98, 120, 121, 10, 99, 100] [120, 121, 10] 1 3 _ rfl rfl R3.out (by decide) (by decide)).mono ?_
  rintro e w4 ⟨rfl, hb⟩
  have R4 := Lib.hid (R3.out.kept hb)
  have B4 := Lib.hid (B3.out.trans (hb.mono B3.out.size))
  clear hb R3 B3
  go_wp2_with fail
  refine (line_okI _ 1 1 r [98, 120, 121, 10, 99, 100] 5 _ rfl R4.out (by decide) (by decide) (by decide)).mono ?_
  rintro e w5 ⟨rfl, hb⟩
  have R5 := Lib.hid (R4.out.kept hb)
  have B5 := Lib.hid (B4.out.trans (hb.mono B4.out.size))
  clear hb R4 B4
  go_wp2_with fail
  refine (place_okI _ _ 5 r [98, 120, 121, 10, 99, 100] 5 _ R5.out (by decide) (by decide) (by decide) rfl).mono ?_
  rintro e w6 ⟨rfl, hb⟩
  have R6 := Lib.hid (R5.out.kept hb)
  have B6 := Lib.hid (B5.out.trans (hb.mono B5.out.size))
  clear hb R5 B5
  go_wp2_with fail
  refine (slice_no r [98, 120, 121, 10, 99, 100] _ _ _ R6.out (by decide)).mono ?_
  rintro e w7 ⟨rfl, rfl⟩
  go_wp2_with (go_at_call 8; refine (num_any _ _).mono ?_; rintro e w' ⟨rfl, rfl⟩)
  refine (Text_any r [98, 120, 121, 10, 99, 100] _ R6.out).mono ?_
  rintro e w8 ⟨rfl, hb⟩
  have R8 := Lib.hid (R6.out.kept hb)
  have B8 := Lib.hid (B6.out.trans (hb.mono B6.out.size))
  clear hb R6 B6
  go_wp2_with fail
  refine (len_rope r [98, 120, 121, 10, 99, 100] 6 _ R8.out rfl).mono ?_
  rintro e w9 ⟨rfl, rfl⟩
  go_wp2_with (first | (go_at_call 8; refine (num_any _ _).mono ?_; rintro e w' ⟨rfl, rfl⟩) | (go_at_call 10; refine (insert_nil _ _ _).mono ?_; rintro e w' ⟨rfl, rfl⟩) | (go_at_call 17; refine (len_nil _).mono ?_; rintro e w' ⟨rfl, rfl⟩))
  go_ret
  exact ⟨rfl, B8.out⟩

end Go.Proofs.Ytijfifbjiakilaa
