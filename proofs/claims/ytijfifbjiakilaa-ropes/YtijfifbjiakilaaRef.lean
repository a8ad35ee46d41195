/-
  Walks of the reference's own Line and Place. Conditions: as each theorem's premises say.
-/
import Derived.Test.YtijfifbjiakilaaActs
namespace Go.Proofs.Ytijfifbjiakilaa
open Go.RowKit

set_option maxHeartbeats 400000 in
theorem refLine_no (s : ByteArray) (n : Int) (w : World) (hn : ¬ (0 ≤ n ∧ n ≤ (s.size : Int))) :
    Calls Try.prog 14 #[.string s, .int .i64 n] w fun e w' => e = .returned (.tuple #[.int .i64 0, .int .i64 0, .int .i64 100]) ∧ w = w' := by
  by_cases h0 : 0 ≤ n
  · have h1 : ¬ n ≤ (s.size : Int) := fun h => hn ⟨h0, h⟩
    clear hn
    go_enter Try.func14, Try.ntmps14
    go_wp2
    go_ret3
    exact ⟨rfl, rfl⟩
  · clear hn
    go_enter Try.func14, Try.ntmps14
    go_wp2
    go_ret3
    exact ⟨rfl, rfl⟩

theorem byte_ne {x : UInt8} (h : ¬ x = 10) : ((x.toNat : Int) == 10) = false := beq_eq_false_iff_ne.2 fun e => h (UInt8.toNat_inj.1 (by
  have h1 : x.toNat = 10 := by omega
  rw [h1]
  rfl))

theorem take_byte (s : ByteArray) (k : Nat) (h : k < s.size) : s.data.toList.take (k + 1) = s.data.toList.take k ++ [s[k]] := by
  rw [List.take_succ_eq_append_getElem (by simpa using h)]; rfl

set_option maxHeartbeats 400000 in
theorem refLine_ok (s : ByteArray) (n : Nat) (w : World) (hs : s.size ≤ 4096) (hn : n ≤ s.size) :
    Calls Try.prog 14 #[.string s, .int .i64 n] w fun e w' => e = .returned (.tuple #[.int .i64 (lineOf (s.data.toList.take n) : Nat), .int .i64 (colOf (s.data.toList.take n) : Nat), .int .i64 0]) ∧ w = w' := by
  go_enter Try.func14, Try.ntmps14
  go_wp2
  go_loop [7, 8, 9] (fun a b i => ∃ k : Nat, k ≤ n ∧ i = .int .i64 k ∧ a = .int .i64 (lineOf (s.data.toList.take k) : Nat) ∧ b = .int .i64 (colOf (s.data.toList.take k) : Nat)) (fun _ _ i => n - (intOf i).toNat)
  case atStart => exact ⟨0, Nat.zero_le _, rfl, rfl, rfl⟩
  case round =>
    obtain ⟨k, hk, rfl, rfl, rfl⟩ := hrel
    have hl := lineOf_le (s.data.toList.take k)
    have hc := colOf_le (s.data.toList.take k)
    rw [List.length_take] at hl hc
    by_cases hlt : k < n
    · have hks : k < s.size := by omega
      have hts := take_byte s k hks
      have e1 := lineOf_snoc (s.data.toList.take k) s[k]
      have e2 := colOf_snoc (s.data.toList.take k) s[k]
      rw [← hts] at e1 e2
      have E1 := Lib.hid e1; have E2 := Lib.hid e2
      clear e1 e2 hts
      generalize hl0 : lineOf (s.data.toList.take k) = l0 at *
      generalize hc0 : colOf (s.data.toList.take k) = c0 at *
      have L0 := Lib.hid hl0; have C0 := Lib.hid hc0
      clear hl0 hc0
      have hl4 : l0 ≤ 4096 := by omega
      have hc4 : c0 ≤ 4096 := by omega
      clear hl hc
      by_cases hx : s[k] = 10
      · have hx' : ((s[k].toNat : Int) == 10) = true := by rw [hx]; rfl
        have E1' := E1.out; have E2' := E2.out
        rw [if_pos hx] at E1' E2'
        have F1 := Lib.hid E1'; have F2 := Lib.hid E2'
        clear hx E1' E2' E1 E2
        go_wp2
        go_round
        case rel => exact ⟨k + 1, hlt, by go_num, by rw [F1.out]; go_num, by rw [F2.out]; rfl⟩
        case measure => simp [intOf]; omega
      · have hx' : ((s[k].toNat : Int) == 10) = false := byte_ne hx
        have E1' := E1.out; have E2' := E2.out
        rw [if_neg hx] at E1' E2'
        have F1 := Lib.hid E1'; have F2 := Lib.hid E2'
        clear hx E1' E2' E1 E2
        go_wp2
        go_round
        case rel => exact ⟨k + 1, hlt, by go_num, by rw [F1.out], by rw [F2.out]; go_num⟩
        case measure => simp [intOf]; omega
    · go_wp2
      go_ret3
      obtain rfl : k = n := by omega
      exact ⟨rfl, rfl⟩

/-- What the reference's Place answers. -/
def RefPost (t : List UInt8) (L C : Int) (w : World) (e : Ending) (w' : World) : Prop :=
  w = w' ∧ ((∃ n : Nat, n ≤ t.length ∧ (lineOf (t.take n) : Int) = L ∧ (colOf (t.take n) : Int) = C ∧ e = .returned (.tuple #[.int .i64 (n : Int), .int .i64 0])) ∨
    ((∀ n : Nat, n ≤ t.length → ¬ ((lineOf (t.take n) : Int) = L ∧ (colOf (t.take n) : Int) = C)) ∧ e = .returned (.tuple #[.int .i64 0, .int .i64 100])))

set_option maxHeartbeats 400000 in
theorem refPlace_neg (s : ByteArray) (L C : Int) (w : World) (hn : L < 0 ∨ C < 0) : Calls Try.prog 16 #[.string s, .int .i64 L, .int .i64 C] w (RefPost s.data.toList L C w) := by
  have fin : Hid (RefPost s.data.toList L C w (.returned (.tuple #[.int .i64 0, .int .i64 100])) w) := Lib.hid ⟨rfl, .inr ⟨fun n _ h => by omega, rfl⟩⟩
  by_cases h1 : L < 0
  · clear hn
    go_enter Try.func16, Try.ntmps16
    go_wp2
    go_ret2
    exact fin.out
  · have h2 : C < 0 := by omega
    clear hn
    go_enter Try.func16, Try.ntmps16
    go_wp2
    go_ret2
    exact fin.out

set_option maxHeartbeats 400000 in
theorem refPlace_pos (s : ByteArray) (L C : Int) (w : World) (hs : s.size ≤ 4096) (hL : 0 ≤ L) (hC : 0 ≤ C) : Calls Try.prog 16 #[.string s, .int .i64 L, .int .i64 C] w (RefPost s.data.toList L C w) := by
  have hsl : s.data.toList.length = s.size := size_toList s
  have SL := Lib.hid hsl; clear hsl
  go_enter Try.func16, Try.ntmps16
  go_wp2
  go_loop [8] (fun i => ∃ k : Nat, k ≤ s.size + 1 ∧ i = .int .i64 k ∧ Hid (∀ n : Nat, n < k → ¬ ((lineOf (s.data.toList.take n) : Int) = L ∧ (colOf (s.data.toList.take n) : Int) = C))) (fun i => s.size + 1 - (intOf i).toNat)
  case atStart => exact ⟨0, Nat.zero_le _, rfl, Lib.hid fun n h => by omega⟩
  case round =>
    obtain ⟨k, hk, rfl, NO⟩ := hrel
    by_cases hlt : k ≤ s.size
    · by_cases hhit : (lineOf (s.data.toList.take k) : Int) = L ∧ (colOf (s.data.toList.take k) : Int) = C
      · obtain ⟨h1, h2⟩ := hhit
        have b1 : ((lineOf (s.data.toList.take k) : Int) == L) = true := beq_iff_eq.2 h1
        have b2 : ((colOf (s.data.toList.take k) : Int) == C) = true := beq_iff_eq.2 h2
        have H1 := Lib.hid h1; have H2 := Lib.hid h2
        clear h1 h2
        go_wp2_with (go_at_call 14; refine (refLine_ok s k _ hs hlt).mono ?_; rintro e w' ⟨rfl, rfl⟩)
        go_ret2
        exact ⟨rfl, .inl ⟨k, by rw [SL.out]; exact hlt, H1.out, H2.out, rfl⟩⟩
      · have HH := Lib.hid hhit
        by_cases h1 : (lineOf (s.data.toList.take k) : Int) = L
        · have h2 : ¬ (colOf (s.data.toList.take k) : Int) = C := fun h => hhit ⟨h1, h⟩
          have b1 : ((lineOf (s.data.toList.take k) : Int) == L) = true := beq_iff_eq.2 h1
          have b2 : ((colOf (s.data.toList.take k) : Int) == C) = false := beq_eq_false_iff_ne.2 h2
          clear h1 h2 hhit
          go_wp2_with (go_at_call 14; refine (refLine_ok s k _ hs hlt).mono ?_; rintro e w' ⟨rfl, rfl⟩)
          go_round
          case rel => exact ⟨k + 1, by omega, by go_num, Lib.hid fun n hn => by rcases Nat.lt_succ_iff_lt_or_eq.1 hn with h | rfl; exact NO.out n h; exact HH.out⟩
          case measure => simp [intOf]; omega
        · have b1 : ((lineOf (s.data.toList.take k) : Int) == L) = false := beq_eq_false_iff_ne.2 h1
          clear h1 hhit
          go_wp2_with (go_at_call 14; refine (refLine_ok s k _ hs hlt).mono ?_; rintro e w' ⟨rfl, rfl⟩)
          go_round
          case rel => exact ⟨k + 1, by omega, by go_num, Lib.hid fun n hn => by rcases Nat.lt_succ_iff_lt_or_eq.1 hn with h | rfl; exact NO.out n h; exact HH.out⟩
          case measure => simp [intOf]; omega
    · go_wp2
      go_ret2
      exact ⟨rfl, .inr ⟨fun n hn => NO.out n (by rw [SL.out] at hn; omega), rfl⟩⟩

theorem refPlace_any (s : ByteArray) (L C : Int) (w : World) (hs : s.size ≤ 4096) : Calls Try.prog 16 #[.string s, .int .i64 L, .int .i64 C] w (RefPost s.data.toList L C w) := by
  by_cases hn : L < 0 ∨ C < 0
  · exact refPlace_neg s L C w hn
  · exact refPlace_pos s L C w hs (by omega) (by omega)

end Go.Proofs.Ytijfifbjiakilaa
