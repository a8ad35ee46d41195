/-
  Lx1, Lx2, Lx3, in one text. Conditions: as each theorem's premises say.
-/
import Derived.Test.YtjmfjlffcopnnaaGreatDoorProg
import Derived.Test.YtjmfjlffcopnnaaGreatDoorPF03
import Derived.WalkKit
import Derived.WalkSpells
import Derived.WalkLawsBesides
import Derived.BigQuiet
import Derived.Lib.Hide
import Derived.IntWalk
import Derived.Deep.CutBlock
import Derived.Deep.DeepCutAuto
namespace Go.Proofs.YtjmfjlffcopnnaaGreatDoor
open Go.RowKit

theorem byteB (c : UInt8) : (0 : Int) ≤ (c.toNat : Int) ∧ (c.toNat : Int) ≤ 255 := by have := c.toNat_lt; omega
theorem retB {a b : Bool} (h : a = b) : Ending.returned (.bool a) = .returned (.bool b) := by rw [h]
theorem retI {k : IntKind} {a b : Int} (h : a = b) : Ending.returned (.int k a) = .returned (.int k b) := by rw [h]

set_option maxHeartbeats 400000 in
theorem digit_any (c : UInt8) (w : World) : Calls Tryz.prog 148 #[.int .u8 c.toNat] w fun e w' => e = .returned (.bool (digB c)) ∧ w = w' := by
  have hb := byteB c
  go_enter Tryz.func148, Tryz.ntmps148
  go_wp2
  all_goals
    go_ret
    exact ⟨retB (by rw [Bool.eq_iff_iff]; simp [digB]; omega), rfl⟩
set_option maxHeartbeats 400000 in
theorem blank_any (c : UInt8) (w : World) : Calls Tryz.prog 135 #[.int .u8 c.toNat] w fun e w' => e = .returned (.bool (blkB c)) ∧ w = w' := by
  have hb := byteB c
  go_enter Tryz.func135, Tryz.ntmps135
  go_wp2
  all_goals
    go_ret
    exact ⟨retB (by rw [Bool.eq_iff_iff]; simp [blkB]; omega), rfl⟩
set_option maxHeartbeats 400000 in
theorem letter_any (c : UInt8) (w : World) : Calls Tryz.prog 138 #[.int .u8 c.toNat] w fun e w' => e = .returned (.bool (letB c)) ∧ w = w' := by
  have hb := byteB c
  go_enter Tryz.func138, Tryz.ntmps138
  go_wp2
  all_goals
    go_ret
    exact ⟨retB (by rw [Bool.eq_iff_iff]; simp [letB]; omega), rfl⟩
/-- The bytes of a text from a place on. -/
def fromL (s : ByteArray) (i : Nat) : List UInt8 := s.data.toList.drop i
theorem from_cons {s : ByteArray} {i : Nat} (h : i < s.size) : fromL s i = s[i] :: fromL s (i + 1) := by
  unfold fromL
  rw [List.drop_eq_getElem_cons (by simpa using h)]
  rfl
theorem from_nil {s : ByteArray} {i : Nat} (h : s.size ≤ i) : fromL s i = [] := by
  unfold fromL
  exact List.drop_eq_nil_of_le (by simpa using h)
theorem from_len (s : ByteArray) (i : Nat) : (fromL s i).length = s.size - i := by simp [fromL]
theorem run_cons (p : UInt8 → Bool) (c : UInt8) (r : List UInt8) : runL p (c :: r) = if p c then 1 + runL p r else 0 := by
  unfold runL
  cases h : p c
  · rw [List.takeWhile_cons_of_neg (by simp [h])]; rfl
  · rw [List.takeWhile_cons_of_pos h, List.length_cons, Nat.add_comm]; rfl
theorem run_from {p : UInt8 → Bool} {s : ByteArray} {i : Nat} (h : i < s.size) : runL p (fromL s i) = if p s[i] then 1 + runL p (fromL s (i + 1)) else 0 := by
  rw [from_cons h, run_cons]
theorem run_fromN {p : UInt8 → Bool} {s : ByteArray} {i : Nat} (h : s.size ≤ i) : runL p (fromL s i) = 0 := by rw [from_nil h]; rfl

set_option maxHeartbeats 400000 in
theorem digits_any (s : ByteArray) (at' : Nat) (w : World) (hs : s.size ≤ 4096) (ha : at' ≤ s.size) : Calls Tryz.prog 149 #[.string s, .int .i64 at'] w fun e w' => e = .returned (.int .i64 ((at' + runL digB (fromL s at') : Nat) : Int)) ∧ w = w' := by
  go_enter Tryz.func149, Tryz.ntmps149
  go_wp2_with fail
  go_loop [1] (fun i => ∃ k : Nat, k ≤ s.size ∧ i = .int .i64 k ∧ Hid (k + runL digB (fromL s k) = at' + runL digB (fromL s at'))) (fun i => s.size - (intOf i).toNat)
  case atStart => exact ⟨at', ha, rfl, Lib.hid rfl⟩
  case round =>
    obtain ⟨k, hk, rfl, E⟩ := hrel
    by_cases hlt : k < s.size
    · cases hd : digB s[k] with
      | true =>
        have E' : Hid (k + 1 + runL digB (fromL s (k + 1)) = at' + runL digB (fromL s at')) := Lib.hid (by rw [← E.out, run_from hlt, hd]; simp; omega)
        have HD := Lib.hid hd; clear hd
        go_wp2_with (go_at_call 148; refine (digit_any _ _).mono ?_; rintro e w' ⟨rfl, rfl⟩; rw [HD.out])
        go_round
        case rel => exact ⟨k + 1, by omega, by go_num, E'⟩
        case measure => simp [intOf]; omega
      | false =>
        have E' : Hid (k = at' + runL digB (fromL s at')) := Lib.hid (by rw [← E.out, run_from hlt, hd]; simp)
        have HD := Lib.hid hd; clear hd
        go_wp2_with (go_at_call 148; refine (digit_any _ _).mono ?_; rintro e w' ⟨rfl, rfl⟩; rw [HD.out])
        go_ret
        exact ⟨retI (by have := E'.out; omega), rfl⟩
    · have E' : Hid (k = at' + runL digB (fromL s at')) := Lib.hid (by rw [← E.out, run_fromN (by omega)]; rfl)
      go_wp2_with fail
      go_ret
      exact ⟨retI (by have := E'.out; omega), rfl⟩

theorem from_drop (s : ByteArray) (a b : Nat) : (fromL s a).drop b = fromL s (a + b) := by unfold fromL; rw [List.drop_drop]
theorem byte_eq {a : UInt8} {n : Nat} : (a.toNat == n) = decide ((a.toNat : Int) = n) := by
  rw [Bool.eq_iff_iff]; simp; omega
def sgnL : List UInt8 → Nat
  | c :: _ => if c.toNat == 45 then 1 else 0
  | [] => 0
theorem num_eq (l : List UInt8) : numL l = if wholeL (l.drop (sgnL l)) = 0 then 0 else
    (sgnL l + wholeL (l.drop (sgnL l)) + fracL (l.drop (sgnL l + wholeL (l.drop (sgnL l))))) + expL (l.drop (sgnL l + wholeL (l.drop (sgnL l)) + fracL (l.drop (sgnL l + wholeL (l.drop (sgnL l)))))) := by
  cases l <;> rfl
/-- Behind the sign; behind the whole number; behind the fraction; behind the exponent. -/
def nP0 (s : ByteArray) (p : Nat) : Nat := p + sgnL (fromL s p)
def nP1 (s : ByteArray) (p : Nat) : Nat := p + wholeL (fromL s p)
def nP2 (s : ByteArray) (p : Nat) : Nat := p + fracL (fromL s p)
def nP3 (s : ByteArray) (p : Nat) : Nat := p + expL (fromL s p)
theorem num_from (s : ByteArray) (p : Nat) : p + numL (fromL s p) = if wholeL (fromL s (nP0 s p)) = 0 then p else nP3 s (nP2 s (nP1 s (nP0 s p))) := by
  rw [num_eq]
  unfold nP0
  generalize sgnL (fromL s p) = g
  simp only [from_drop, nP1, nP2, nP3]
  split
  · rfl
  · simp only [Nat.add_assoc]
theorem whole_from {s : ByteArray} {p : Nat} (h : p < s.size) : wholeL (fromL s p) = if digB s[p] then (if s[p].toNat == 48 then 1 else runL digB (fromL s p)) else 0 := by
  rw [from_cons h]; rfl
theorem whole_fromN {s : ByteArray} {p : Nat} (h : s.size ≤ p) : wholeL (fromL s p) = 0 := by rw [from_nil h]; rfl
theorem whole_pos {s : ByteArray} {p : Nat} (h : p < s.size) (hd : digB s[p] = true) : wholeL (fromL s p) ≠ 0 := by
  rw [whole_from h, hd]
  simp only [if_true]
  split
  · omega
  · rw [run_from h, hd]; simp
theorem frac_from {s : ByteArray} {p : Nat} (h : p + 1 < s.size) : fracL (fromL s p) = if s[p].toNat == 46 && digB s[p + 1] then 1 + runL digB (fromL s (p + 1)) else 0 := by
  rw [from_cons (by omega : p < s.size), from_cons h]; rfl
theorem frac_fromN {s : ByteArray} {p : Nat} (h : s.size ≤ p + 1) : fracL (fromL s p) = 0 := by
  by_cases h1 : p < s.size
  · rw [from_cons h1, from_nil h]; rfl
  · rw [from_nil (by omega)]; rfl
/-- Behind the sign of the exponent, if there is one at the place. -/
def nK (s : ByteArray) (k : Nat) : Nat := k + (match fromL s k with | c :: _ => if c.toNat == 43 || c.toNat == 45 then 1 else 0 | [] => 0)
theorem pow_from (s : ByteArray) (k : Nat) : powL (fromL s k) = if runL digB (fromL s (nK s k)) = 0 then 0 else nK s k + runL digB (fromL s (nK s k)) - k := by
  by_cases h : k < s.size
  · unfold nK
    rw [from_cons h]
    unfold powL
    dsimp only
    split
    · split
      · rfl
      · omega
    · simp only [Nat.add_zero, ← from_cons h]
      split
      · omega
      · omega
  · unfold nK
    rw [from_nil (by omega)]
    dsimp only
    rw [Nat.add_zero, from_nil (by omega)]
    rfl
theorem exp_from {s : ByteArray} {p : Nat} (h : p < s.size) : nP3 s p = if s[p].toNat == 101 || s[p].toNat == 69 then (if runL digB (fromL s (nK s (p + 1))) = 0 then p else nK s (p + 1) + runL digB (fromL s (nK s (p + 1)))) else p := by
  have hk : p + 1 ≤ nK s (p + 1) := by unfold nK; omega
  unfold nP3
  rw [from_cons h]
  unfold expL
  dsimp only
  split
  · rw [pow_from]
    split
    · rw [if_pos rfl]; rfl
    · rw [if_neg (by omega)]; omega
  · rfl
theorem exp_fromN {s : ByteArray} {p : Nat} (h : s.size ≤ p) : nP3 s p = p := by unfold nP3; rw [from_nil h]; rfl
theorem run_zero {s : ByteArray} {p : Nat} : runL digB (fromL s p) = 0 ↔ ∀ h : p < s.size, digB s[p] = false := by
  constructor
  · intro h hp
    rw [run_from hp] at h
    cases hd : digB s[p]
    · rfl
    · rw [hd] at h; simp at h
  · intro h
    by_cases hp : p < s.size
    · rw [run_from hp, h hp]; rfl
    · exact run_fromN (by omega)
theorem run_end (p : UInt8 → Bool) (s : ByteArray) (i : Nat) (h : i ≤ s.size) : i + runL p (fromL s i) ≤ s.size := by
  have := run_le p (fromL s i)
  rw [from_len] at this
  omega
theorem nP0_from {s : ByteArray} {p : Nat} (h : p < s.size) : nP0 s p = if s[p].toNat == 45 then p + 1 else p := by
  unfold nP0
  rw [from_cons h]
  show p + (if s[p].toNat == 45 then 1 else 0) = _
  split <;> rfl
theorem nK_from {s : ByteArray} {p : Nat} (h : p < s.size) : nK s p = if s[p].toNat == 43 || s[p].toNat == 45 then p + 1 else p := by
  unfold nK
  rw [from_cons h]
  dsimp only
  split <;> rfl
theorem nK_fromN {s : ByteArray} {p : Nat} (h : s.size ≤ p) : nK s p = p := by unfold nK; rw [from_nil h]; rfl

def fracB (s : ByteArray) (q : Nat) : Bool := if h : q + 1 < s.size then s[q].toNat == 46 && digB s[q + 1] else false
def expB (s : ByteArray) (q : Nat) : Bool := if h : q < s.size then s[q].toNat == 101 || s[q].toNat == 69 else false
def sgB (s : ByteArray) (q : Nat) : Bool := if h : q < s.size then s[q].toNat == 43 || s[q].toNat == 45 else false
def digAt (s : ByteArray) (q : Nat) : Bool := if h : q < s.size then digB s[q] else false
theorem nP2_is (s : ByteArray) (q : Nat) : nP2 s q = if fracB s q then q + 1 + runL digB (fromL s (q + 1)) else q := by
  unfold nP2 fracB
  by_cases h : q + 1 < s.size
  · rw [frac_from h, dif_pos h]
    split
    · omega
    · rfl
  · rw [frac_fromN (by omega), dif_neg h]; rfl
theorem nK_is (s : ByteArray) (q : Nat) : nK s q = if sgB s q then q + 1 else q := by
  unfold sgB
  by_cases h : q < s.size
  · rw [nK_from h, dif_pos h]
  · rw [nK_fromN (by omega), dif_neg h]; rfl
theorem run_zeroB (s : ByteArray) (q : Nat) : runL digB (fromL s q) = 0 ↔ digAt s q = false := by
  rw [run_zero]
  unfold digAt
  by_cases h : q < s.size
  · rw [dif_pos h]; exact ⟨fun g => g h, fun g _ => g⟩
  · rw [dif_neg h]; exact ⟨fun _ => rfl, fun _ g => absurd g h⟩
theorem nP3_is (s : ByteArray) (q : Nat) : nP3 s q = if expB s q then (if digAt s (nK s (q + 1)) then nK s (q + 1) + runL digB (fromL s (nK s (q + 1))) else q) else q := by
  unfold expB
  by_cases h : q < s.size
  · rw [exp_from h, dif_pos h]
    split
    · cases hd : digAt s (nK s (q + 1))
      · rw [if_pos ((run_zeroB s _).2 hd)]; rfl
      · rw [if_neg (fun h => by rw [run_zeroB, hd] at h; cases h)]; rfl
    · rfl
  · rw [exp_fromN (by omega), dif_neg h]; rfl
theorem fracB_lt {s : ByteArray} {q : Nat} (h : fracB s q = true) : q + 1 < s.size := by
  unfold fracB at h
  split at h
  · assumption
  · cases h

set_option maxRecDepth 100000 in
set_option maxHeartbeats 2000000 in
theorem number_any (s : ByteArray) (at' : Nat) (w : World) (hs : s.size ≤ 4096) (ha : at' < s.size) : Calls Tryz.prog 139 #[.string s, .int .i64 at'] w fun e w' => e = .returned (.int .i64 ((at' + numL (fromL s at') : Nat) : Int)) ∧ w = w' := by
  have NF := Lib.hid (num_from s at')
  have h00 : at' ≤ nP0 s at' ∧ nP0 s at' ≤ at' + 1 := by rw [nP0_from ha]; split <;> omega
  go_enter Tryz.func139, Tryz.ntmps139
  go_upto_if 12 with fail
  go_cut [5] (fun v wx => v = .int .i64 (nP0 s at' : Nat) ∧ w = wx)
  case first =>
    have N0 := Lib.hid (nP0_from ha)
    by_cases h : (s[at'].toNat : Int) = 45
    · have hq : ((s[at'].toNat : Int) == 45) = true := by simpa using h
      have N1 : Hid (nP0 s at' = at' + 1) := Lib.hid (by rw [N0.out, if_pos (by rw [byte_eq]; simpa using h)])
      clear h
      go_wp2_with fail
      go_meet
      exact ⟨by rw [N1.out]; go_num, rfl⟩
    · have hq : ((s[at'].toNat : Int) == 45) = false := by simpa using h
      have N1 : Hid (nP0 s at' = at') := Lib.hid (by rw [N0.out, if_neg (by rw [byte_eq]; simpa using h)])
      clear h
      go_wp2_with fail
      go_meet
      exact ⟨by rw [N1.out], rfl⟩
  case rest =>
    obtain ⟨rfl, rfl⟩ := hcut
    generalize nP0 s at' = p at *
    by_cases hp : p < s.size
    · cases hd : digB s[p] with
      | false =>
        have W0 : Hid (wholeL (fromL s p) = 0) := Lib.hid (by rw [whole_from hp, hd]; rfl)
        have HD := Lib.hid hd; clear hd
        go_wp2_with (go_at_call 148; refine (digit_any _ _).mono ?_; rintro e w' ⟨rfl, rfl⟩; rw [HD.out])
        go_ret
        exact ⟨retI (by have := NF.out; rw [if_pos W0.out] at this; omega), rfl⟩
      | true =>
        have W0 : Hid (wholeL (fromL s p) ≠ 0) := Lib.hid (whole_pos hp hd)
        have NF2 : Hid (at' + numL (fromL s at') = nP3 s (nP2 s (nP1 s p))) := Lib.hid (by rw [NF.out, if_neg W0.out])
        have WF : Hid (nP1 s p = if s[p].toNat == 48 then p + 1 else p + runL digB (fromL s p)) := Lib.hid (by
          unfold nP1; rw [whole_from hp, hd]; simp only [if_true]; split <;> rfl)
        have h1 : p + 1 ≤ nP1 s p ∧ nP1 s p ≤ s.size := by
          have := run_end digB s p (by omega)
          have h2 : runL digB (fromL s p) ≠ 0 := fun h => by have := run_zero.1 h hp; rw [hd] at this; cases this
          rw [WF.out]; split <;> omega
        clear NF W0
        have HD := Lib.hid hd; clear hd
        go_upto_if 32 with (go_at_call 148; refine (digit_any _ _).mono ?_; rintro e w' ⟨rfl, rfl⟩; rw [HD.out])
        go_cut [6] (fun v wx => v = .int .i64 (nP1 s p : Nat) ∧ w = wx)
        case first =>
          by_cases h : (s[p].toNat : Int) = 48
          · have hq : ((s[p].toNat : Int) != 48) = false := by simpa using h
            have hq2 : ((s[p].toNat : Int) == 48) = true := by simpa using h
            have N1 : Hid (nP1 s p = p + 1) := Lib.hid (by rw [WF.out, if_pos (by rw [byte_eq]; simpa using h)])
            clear h
            go_wp2_with fail
            go_meet
            exact ⟨by rw [N1.out]; go_num, rfl⟩
          · have hq : ((s[p].toNat : Int) != 48) = true := by simpa using h
            have hq2 : ((s[p].toNat : Int) == 48) = false := by simpa using h
            have N1 : Hid (nP1 s p = p + runL digB (fromL s p)) := Lib.hid (by rw [WF.out, if_neg (by rw [byte_eq]; simpa using h)])
            clear h
            go_wp2_with (go_at_call 149; refine (digits_any _ _ _ (by omega) (by omega)).mono ?_; rintro e w' ⟨rfl, rfl⟩)
            go_meet
            exact ⟨by rw [N1.out]; go_num, rfl⟩
        case rest =>
          obtain ⟨rfl, rfl⟩ := hcut
          clear WF
          generalize nP1 s p = q at *
          have h2 : q ≤ nP2 s q ∧ nP2 s q ≤ s.size := by
            rw [nP2_is]
            split
            · rename_i hb
              have := fracB_lt hb
              have := run_end digB s (q + 1) (by omega)
              omega
            · omega
          go_upto_region 9 with fail
          go_cut [53] (fun v wx => v = .bool (fracB s q) ∧ w = wx)
          case first =>
            by_cases g1 : q + 1 < s.size
            · have FB : Hid (fracB s q = (s[q].toNat == 46 && digB s[q + 1])) := Lib.hid (by unfold fracB; rw [dif_pos g1])
              have g2 : q < s.size := by omega
              by_cases h : (s[q].toNat : Int) = 46
              · have hq : ((s[q].toNat : Int) == 46) = true := by simpa using h
                have FB2 : Hid (fracB s q = digB s[q + 1]) := Lib.hid (by rw [FB.out, byte_eq, decide_eq_true (by simpa using h)]; rfl)
                clear h FB
                go_wp2_with (go_at_call 148; refine (digit_any _ _).mono ?_; rintro e w' ⟨rfl, rfl⟩)
                go_meet
                exact ⟨by rw [FB2.out], rfl⟩
              · have hq : ((s[q].toNat : Int) == 46) = false := by simpa using h
                have FB2 : Hid (fracB s q = false) := Lib.hid (by rw [FB.out, byte_eq, decide_eq_false (by simpa using h)]; rfl)
                clear h FB
                go_wp2_with fail
                go_meet
                exact ⟨by rw [FB2.out], rfl⟩
            · have FB : Hid (fracB s q = false) := Lib.hid (by unfold fracB; rw [dif_neg g1])
              go_wp2_with fail
              go_meet
              exact ⟨by rw [FB.out], rfl⟩
          case rest =>
            obtain ⟨rfl, rfl⟩ := hcut
            go_upto_if 53 with fail
            go_cut [6] (fun v wx => v = .int .i64 (nP2 s q : Nat) ∧ w = wx)
            case first =>
              have N2 := Lib.hid (nP2_is s q)
              cases hb : fracB s q with
              | true =>
                have := fracB_lt hb
                have N3 : Hid (nP2 s q = q + 1 + runL digB (fromL s (q + 1))) := Lib.hid (by rw [N2.out, hb]; rfl)
                clear hb
                go_wp2_with (go_at_call 149; refine (digits_any _ (q + 1) _ (by omega) (by omega)).mono ?_; rintro e w' ⟨rfl, rfl⟩)
                go_meet
                exact ⟨by rw [N3.out]; go_num, rfl⟩
              | false =>
                have N3 : Hid (nP2 s q = q) := Lib.hid (by rw [N2.out, hb]; rfl)
                clear hb
                go_wp2_with fail
                go_meet
                exact ⟨by rw [N3.out], rfl⟩
            case rest =>
              obtain ⟨rfl, rfl⟩ := hcut
              generalize nP2 s q = r at *
              have N3 := Lib.hid (nP3_is s r)
              have NK := Lib.hid (nK_is s (r + 1))
              by_cases g1 : r < s.size
              · have EB : Hid (expB s r = (s[r].toNat == 101 || s[r].toNat == 69)) := Lib.hid (by unfold expB; rw [dif_pos g1])
                have hk2 : r + 1 ≤ nK s (r + 1) ∧ nK s (r + 1) ≤ r + 2 := by rw [NK.out]; split <;> omega
                go_upto_region 11 with fail
                go_cut [73] (fun v wx => v = .bool (expB s r) ∧ w = wx)
                case first =>
                  by_cases h : (s[r].toNat : Int) = 101
                  · have hq : ((s[r].toNat : Int) == 101) = true := by simpa using h
                    have EB2 : Hid (expB s r = true) := Lib.hid (by rw [EB.out, byte_eq, decide_eq_true (by simpa using h)]; rfl)
                    clear h EB
                    go_wp2_with fail
                    go_meet
                    exact ⟨by rw [EB2.out], rfl⟩
                  · have hq : ((s[r].toNat : Int) == 101) = false := by simpa using h
                    have EB2 : Hid (expB s r = decide ((s[r].toNat : Int) = 69)) := Lib.hid (by rw [EB.out, byte_eq, decide_eq_false (by simpa using h), byte_eq]; rfl)
                    clear h EB
                    go_wp2_with fail
                    go_meet
                    exact ⟨by rw [EB2.out]; rfl, rfl⟩
                case rest =>
                  obtain ⟨rfl, rfl⟩ := hcut
                  cases hb : expB s r with
                  | false =>
                    have N4 : Hid (nP3 s r = r) := Lib.hid (by rw [N3.out, hb]; rfl)
                    clear hb
                    go_wp2_with fail
                    go_ret
                    exact ⟨retI (by rw [NF2.out, N4.out]), rfl⟩
                  | true =>
                    have N4 : Hid (nP3 s r = if digAt s (nK s (r + 1)) then nK s (r + 1) + runL digB (fromL s (nK s (r + 1))) else r) := Lib.hid (by rw [N3.out, hb]; rfl)
                    clear hb
                    go_upto_region 13 with fail
                    go_cut [91] (fun v wx => v = .bool (sgB s (r + 1)) ∧ w = wx)
                    case first =>
                      by_cases g3 : r + 1 < s.size
                      · have SB : Hid (sgB s (r + 1) = (s[r + 1].toNat == 43 || s[r + 1].toNat == 45)) := Lib.hid (by unfold sgB; rw [dif_pos g3])
                        by_cases h : (s[r + 1].toNat : Int) = 43
                        · have hq : ((s[r + 1].toNat : Int) == 43) = true := by simpa using h
                          have SB2 : Hid (sgB s (r + 1) = true) := Lib.hid (by rw [SB.out, byte_eq, decide_eq_true (by simpa using h)]; rfl)
                          clear h SB
                          go_wp2_with fail
                          go_meet
                          exact ⟨by rw [SB2.out], rfl⟩
                        · have hq : ((s[r + 1].toNat : Int) == 43) = false := by simpa using h
                          have SB2 : Hid (sgB s (r + 1) = decide ((s[r + 1].toNat : Int) = 45)) := Lib.hid (by rw [SB.out, byte_eq, decide_eq_false (by simpa using h), byte_eq]; rfl)
                          clear h SB
                          go_wp2_with fail
                          go_meet
                          exact ⟨by rw [SB2.out]; rfl, rfl⟩
                      · have SB : Hid (sgB s (r + 1) = false) := Lib.hid (by unfold sgB; rw [dif_neg g3])
                        go_wp2_with fail
                        go_meet
                        exact ⟨by rw [SB.out], rfl⟩
                    case rest =>
                      obtain ⟨rfl, rfl⟩ := hcut
                      go_upto_if 91 with fail
                      go_cut [7] (fun v wx => v = .int .i64 (nK s (r + 1) : Nat) ∧ w = wx)
                      case first =>
                        cases hb : sgB s (r + 1) with
                        | true =>
                          have NK2 : Hid (nK s (r + 1) = r + 2) := Lib.hid (by rw [NK.out, hb]; rfl)
                          clear hb
                          go_wp2_with fail
                          go_meet
                          exact ⟨by rw [NK2.out]; go_num, rfl⟩
                        | false =>
                          have NK2 : Hid (nK s (r + 1) = r + 1) := Lib.hid (by rw [NK.out, hb]; rfl)
                          clear hb
                          go_wp2_with fail
                          go_meet
                          exact ⟨by rw [NK2.out]; go_num, rfl⟩
                      case rest =>
                        obtain ⟨rfl, rfl⟩ := hcut
                        clear NK
                        generalize nK s (r + 1) = k at *
                        by_cases g4 : k < s.size
                        · have DA : Hid (digAt s k = digB s[k]) := Lib.hid (by unfold digAt; rw [dif_pos g4])
                          cases hd : digB s[k] with
                          | true =>
                            have N5 : Hid (nP3 s r = k + runL digB (fromL s k)) := Lib.hid (by rw [N4.out, DA.out, hd]; rfl)
                            have HD := Lib.hid hd; clear hd
                            go_wp2_with (first | (go_at_call 148; refine (digit_any _ _).mono ?_; rintro e w' ⟨rfl, rfl⟩; rw [HD.out]) | (go_at_call 149; refine (digits_any _ k _ (by omega) (by omega)).mono ?_; rintro e w' ⟨rfl, rfl⟩))
                            go_ret
                            exact ⟨retI (by have := NF2.out; have := N5.out; omega), rfl⟩
                          | false =>
                            have N5 : Hid (nP3 s r = r) := Lib.hid (by rw [N4.out, DA.out, hd]; rfl)
                            have HD := Lib.hid hd; clear hd
                            go_wp2_with (go_at_call 148; refine (digit_any _ _).mono ?_; rintro e w' ⟨rfl, rfl⟩; rw [HD.out])
                            go_ret
                            exact ⟨retI (by have := NF2.out; have := N5.out; omega), rfl⟩
                        · have DA : Hid (digAt s k = false) := Lib.hid (by unfold digAt; rw [dif_neg g4])
                          have N5 : Hid (nP3 s r = r) := Lib.hid (by rw [N4.out, DA.out]; rfl)
                          go_wp2_with fail
                          go_ret
                          exact ⟨retI (by have := NF2.out; have := N5.out; omega), rfl⟩
              · have N4 : Hid (nP3 s r = r) := Lib.hid (exp_fromN (by omega))
                go_wp2_with fail
                go_ret
                exact ⟨retI (by have := NF2.out; have := N4.out; omega), rfl⟩
    · have W0 : Hid (wholeL (fromL s p) = 0) := Lib.hid (whole_fromN (by omega))
      go_wp2_with fail
      go_ret
      exact ⟨retI (by have := NF.out; rw [if_pos W0.out] at this; omega), rfl⟩

theorem quo_one (c : UInt8) : quoL [c] = if c.toNat == 10 then (0, false) else if c.toNat == 34 then (1, true) else (1, false) := rfl
theorem quo_two (c x : UInt8) (q : List UInt8) : quoL (c :: x :: q) = if c.toNat == 10 then (0, false) else if c.toNat == 34 then (1, true) else
    if c.toNat == 92 && !(x.toNat == 10) then (2 + (quoL q).1, (quoL q).2) else (1 + (quoL (x :: q)).1, (quoL (x :: q)).2) := by
  rw [quoL.eq_def]
/-- From a place on: where the text ends; does it? -/
def qE (s : ByteArray) (i : Nat) : Nat × Bool := (i + (quoL (fromL s i)).1, (quoL (fromL s i)).2)
theorem qE_end {s : ByteArray} {i : Nat} (h : s.size ≤ i) : qE s i = (i, false) := by unfold qE; rw [from_nil h]; rfl
theorem qE_line {s : ByteArray} {i : Nat} (h : i < s.size) (h1 : (s[i].toNat == 10) = true) : qE s i = (i, false) := by
  unfold qE
  by_cases h2 : i + 1 < s.size
  · rw [from_cons h, from_cons h2, quo_two, if_pos h1]; rfl
  · rw [from_cons h, from_nil (by omega), quo_one, if_pos h1]; rfl
theorem qE_quote {s : ByteArray} {i : Nat} (h : i < s.size) (h1 : (s[i].toNat == 10) = false) (h3 : (s[i].toNat == 34) = true) : qE s i = (i + 1, true) := by
  unfold qE
  by_cases h2 : i + 1 < s.size
  · rw [from_cons h, from_cons h2, quo_two, if_neg (by simp [h1]), if_pos h3]
  · rw [from_cons h, from_nil (by omega), quo_one, if_neg (by simp [h1]), if_pos h3]
theorem qE_back {s : ByteArray} {i : Nat} (h : i + 1 < s.size) (h1 : (s[i].toNat == 10) = false) (h3 : (s[i].toNat == 34) = false) (h4 : (s[i].toNat == 92) = true) (h5 : (s[i + 1].toNat == 10) = false) : qE s i = qE s (i + 2) := by
  unfold qE
  rw [from_cons (by omega : i < s.size), from_cons h, quo_two, if_neg (by simp [h1]), if_neg (by simp [h3]), if_pos (by simp [h4, h5])]
  dsimp only
  rw [show i + 1 + 1 = i + 2 from rfl]
  congr 1; omega
theorem qE_step {s : ByteArray} {i : Nat} (h : i < s.size) (h1 : (s[i].toNat == 10) = false) (h3 : (s[i].toNat == 34) = false) (h4 : ∀ g : i + 1 < s.size, (s[i].toNat == 92) = true → (s[i + 1].toNat == 10) = true) : qE s i = qE s (i + 1) := by
  unfold qE
  by_cases h2 : i + 1 < s.size
  · have h5 := h4 h2
    rw [from_cons h, from_cons h2, quo_two, if_neg (by simp [h1]), if_neg (by simp [h3]), if_neg (by
      intro h
      simp only [Bool.and_eq_true, Bool.not_eq_true'] at h
      rw [h5 h.1] at h
      cases h.2)]
    dsimp only
    congr 1; omega
  · rw [from_cons h, from_nil (by omega), quo_one, if_neg (by simp [h1]), if_neg (by simp [h3])]; rfl
theorem retIB {k : IntKind} {a b : Int} {x y : Bool} (h : a = b) (g : x = y) : Ending.returned (.tuple #[.int k a, .bool x]) = .returned (.tuple #[.int k b, .bool y]) := by rw [h, g]

set_option maxHeartbeats 2000000 in
theorem quoted_any (s : ByteArray) (at' : Nat) (w : World) (hs : s.size ≤ 4096) (ha : at' < s.size) : Calls Tryz.prog 136 #[.string s, .int .i64 at'] w fun e w' => e = .returned (.tuple #[.int .i64 ((qE s (at' + 1)).1 : Nat), .bool (qE s (at' + 1)).2]) ∧ w = w' := by
  go_enter Tryz.func136, Tryz.ntmps136
  go_wp2_with fail
  go_loop [6] (fun v => ∃ k : Nat, k ≤ s.size ∧ v = .int .i64 k ∧ Hid (qE s k = qE s (at' + 1))) (fun v => s.size - (intOf v).toNat)
  case atStart => exact ⟨at' + 1, by omega, by go_num, Lib.hid rfl⟩
  case round =>
    obtain ⟨k, hk, rfl, E⟩ := hrel
    by_cases hlt : k < s.size
    · by_cases h1 : (s[k].toNat : Int) = 10
      · have q1 : ((s[k].toNat : Int) != 10) = false := by simpa using h1
        have F : Hid (qE s (at' + 1) = (k, false)) := Lib.hid (by rw [← E.out]; exact qE_line hlt (by rw [byte_eq]; simpa using h1))
        clear h1
        go_wp2_with fail
        go_ret2
        exact ⟨by rw [F.out]; rfl, rfl⟩
      · have q1 : ((s[k].toNat : Int) != 10) = true := by simpa using h1
        have n1 : (s[k].toNat == 10) = false := by rw [byte_eq]; simpa using h1
        have N1 := Lib.hid n1; clear n1
        clear h1
        by_cases h3 : (s[k].toNat : Int) = 34
        · have q3 : ((s[k].toNat : Int) == 34) = true := by simpa using h3
          have F : Hid (qE s (at' + 1) = (k + 1, true)) := Lib.hid (by rw [← E.out]; exact qE_quote hlt N1.out (by rw [byte_eq]; simpa using h3))
          clear h3
          go_wp2_with fail
          go_ret2
          exact ⟨by rw [F.out]; exact retIB (by omega) rfl, rfl⟩
        · have q3 : ((s[k].toNat : Int) == 34) = false := by simpa using h3
          have N3 : Hid ((s[k].toNat == 34) = false) := Lib.hid (by rw [byte_eq]; simpa using h3)
          clear h3
          by_cases h4 : (s[k].toNat : Int) = 92
          · have q4 : ((s[k].toNat : Int) == 92) = true := by simpa using h4
            have N4 : Hid ((s[k].toNat == 92) = true) := Lib.hid (by rw [byte_eq]; simpa using h4)
            clear h4
            by_cases h5 : k + 1 < s.size
            · by_cases h6 : (s[k + 1].toNat : Int) = 10
              · have q6 : ((s[k + 1].toNat : Int) != 10) = false := by simpa using h6
                have E' : Hid (qE s (k + 1) = qE s (at' + 1)) := Lib.hid (by rw [← E.out]; exact (qE_step hlt N1.out N3.out (fun _ _ => by rw [byte_eq]; simpa using h6)).symm)
                clear h6
                go_wp2_with fail
                go_round
                case rel => exact ⟨k + 1, by omega, by go_num, E'⟩
                case measure => simp [intOf]; omega
              · have q6 : ((s[k + 1].toNat : Int) != 10) = true := by simpa using h6
                have E' : Hid (qE s (k + 2) = qE s (at' + 1)) := Lib.hid (by rw [← E.out]; exact (qE_back h5 N1.out N3.out N4.out (by rw [byte_eq]; simpa using h6)).symm)
                clear h6
                go_wp2_with fail
                go_round
                case rel => exact ⟨k + 2, by omega, by go_num, E'⟩
                case measure => simp [intOf]; omega
            · have E' : Hid (qE s (k + 1) = qE s (at' + 1)) := Lib.hid (by rw [← E.out]; exact (qE_step hlt N1.out N3.out (fun g _ => absurd g h5)).symm)
              go_wp2_with fail
              go_round
              case rel => exact ⟨k + 1, by omega, by go_num, E'⟩
              case measure => simp [intOf]; omega
          · have q4 : ((s[k].toNat : Int) == 92) = false := by simpa using h4
            have E' : Hid (qE s (k + 1) = qE s (at' + 1)) := Lib.hid (by rw [← E.out]; exact (qE_step hlt N1.out N3.out (fun _ g => by rw [byte_eq] at g; simp at g; omega)).symm)
            clear h4
            go_wp2_with fail
            go_round
            case rel => exact ⟨k + 1, by omega, by go_num, E'⟩
            case measure => simp [intOf]; omega
    · have F : Hid (qE s (at' + 1) = (k, false)) := Lib.hid (by rw [← E.out]; exact qE_end (by omega))
      go_wp2_with fail
      go_ret2
      exact ⟨by rw [F.out]; rfl, rfl⟩

/-- From a place on: behind the next star and slash; is there one? -/
def stE (s : ByteArray) (i : Nat) : Nat × Bool := (i + (starL (fromL s i)).1, (starL (fromL s i)).2)
theorem stE_end {s : ByteArray} {i : Nat} (h : s.size ≤ i + 1) (hi : i ≤ s.size) : stE s i = (s.size, false) := by
  unfold stE
  by_cases h1 : i < s.size
  · rw [from_cons h1, from_nil (by omega)]
    show (i + 1, false) = _
    rw [show i + 1 = s.size by omega]
  · rw [from_nil (by omega)]
    show (i, false) = _
    rw [show i = s.size by omega]
theorem stE_hit {s : ByteArray} {i : Nat} (h : i + 1 < s.size) (h1 : (s[i].toNat == 42) = true) (h2 : (s[i + 1].toNat == 47) = true) : stE s i = (i + 2, true) := by
  unfold stE
  rw [from_cons (by omega : i < s.size), from_cons h]
  unfold starL
  rw [if_pos (by simp [h1, h2])]
theorem stE_step {s : ByteArray} {i : Nat} (h : i + 1 < s.size) (h1 : (s[i].toNat == 42 && s[i + 1].toNat == 47) = false) : stE s i = stE s (i + 1) := by
  unfold stE
  rw [from_cons (by omega : i < s.size), from_cons h]
  conv => lhs; unfold starL
  rw [if_neg (by simp [h1])]
  dsimp only
  congr 1; omega
/-- From the slash on: where the remark ends; is it one? -/
def reE (s : ByteArray) (i : Nat) : Nat × Bool := (i + 1 + (remL (fromL s (i + 1))).1, (remL (fromL s (i + 1))).2)
theorem rem_cons (c : UInt8) (r : List UInt8) : remL (c :: r) = if c.toNat == 47 then (runL (fun b => !(b.toNat == 10)) (c :: r), true) else if c.toNat == 42 then (1 + (starL r).1, (starL r).2) else (0, false) := rfl
theorem reE_line {s : ByteArray} {i : Nat} (h : i + 1 < s.size) (h1 : (s[i + 1].toNat == 47) = true) : reE s i = (i + 1 + runL (fun b => !(b.toNat == 10)) (fromL s (i + 1)), true) := by
  unfold reE
  rw [from_cons h, rem_cons, if_pos h1]
theorem reE_star {s : ByteArray} {i : Nat} (h : i + 1 < s.size) (h0 : (s[i + 1].toNat == 47) = false) (h1 : (s[i + 1].toNat == 42) = true) : reE s i = stE s (i + 2) := by
  unfold reE stE
  rw [from_cons h, rem_cons, if_neg (by simp [h0]), if_pos h1]
  rw [show i + 1 + 1 = i + 2 from rfl]
  dsimp only
  congr 1; omega
theorem reE_else {s : ByteArray} {i : Nat} (h1 : ∀ g : i + 1 < s.size, (s[i + 1].toNat == 47) = false ∧ (s[i + 1].toNat == 42) = false) : reE s i = (i + 1, false) := by
  unfold reE
  by_cases h : i + 1 < s.size
  · obtain ⟨a, b⟩ := h1 h
    rw [from_cons h, rem_cons, if_neg (by simp [a]), if_neg (by simp [b])]; rfl
  · rw [from_nil (by omega)]; rfl

set_option maxHeartbeats 2000000 in
theorem remark_any (s : ByteArray) (at' : Nat) (w : World) (hs : s.size ≤ 4096) (ha : at' < s.size) (h47 : (s[at'].toNat == 47) = true) : Calls Tryz.prog 137 #[.string s, .int .i64 at'] w fun e w' => e = .returned (.tuple #[.int .i64 ((reE s at').1 : Nat), .bool (reE s at').2]) ∧ w = w' := by
  have H47 := Lib.hid h47; clear h47
  by_cases h1 : at' + 1 < s.size
  · by_cases h2 : (s[at' + 1].toNat : Int) = 47
    · have q2 : ((s[at' + 1].toNat : Int) == 47) = true := by simpa using h2
      have F : Hid (reE s at' = (at' + runL (fun b => !(b.toNat == 10)) (fromL s at'), true)) := Lib.hid (by
        rw [reE_line h1 (by rw [byte_eq]; simpa using h2), run_from ha, if_pos (by have h := H47.out; rw [beq_iff_eq] at h; rw [h]; rfl)]
        congr 1; omega)
      clear h2
      go_enter Tryz.func137, Tryz.ntmps137
      go_wp2_with fail
      go_loop [6] (fun v => ∃ k : Nat, k ≤ s.size ∧ v = .int .i64 k ∧ Hid (k + runL (fun b => !(b.toNat == 10)) (fromL s k) = at' + runL (fun b => !(b.toNat == 10)) (fromL s at'))) (fun v => s.size - (intOf v).toNat)
      case atStart => exact ⟨at', by omega, rfl, Lib.hid rfl⟩
      case round =>
        obtain ⟨k, hk, rfl, E⟩ := hrel
        by_cases hlt : k < s.size
        · by_cases h4 : (s[k].toNat : Int) = 10
          · have q4 : ((s[k].toNat : Int) != 10) = false := by simpa using h4
            have E' : Hid (k = at' + runL (fun b => !(b.toNat == 10)) (fromL s at')) := Lib.hid (by rw [← E.out, run_from hlt, if_neg (by rw [byte_eq]; simpa using h4)]; rfl)
            clear h4
            go_wp2_with fail
            go_ret2
            exact ⟨by rw [F.out, ← E'.out]; rfl, rfl⟩
          · have q4 : ((s[k].toNat : Int) != 10) = true := by simpa using h4
            have E' : Hid (k + 1 + runL (fun b => !(b.toNat == 10)) (fromL s (k + 1)) = at' + runL (fun b => !(b.toNat == 10)) (fromL s at')) := Lib.hid (by rw [← E.out, run_from hlt, if_pos (by rw [byte_eq]; simpa using h4)]; omega)
            clear h4
            go_wp2_with fail
            go_round
            case rel => exact ⟨k + 1, by omega, by go_num, E'⟩
            case measure => simp [intOf]; omega
        · have E' : Hid (k = at' + runL (fun b => !(b.toNat == 10)) (fromL s at')) := Lib.hid (by rw [← E.out, run_fromN (by omega)]; rfl)
          go_wp2_with fail
          go_ret2
          exact ⟨by rw [F.out, ← E'.out]; rfl, rfl⟩
    · have q2 : ((s[at' + 1].toNat : Int) == 47) = false := by simpa using h2
      have N2 : Hid ((s[at' + 1].toNat == 47) = false) := Lib.hid (by rw [byte_eq]; simpa using h2)
      clear h2
      by_cases h3 : (s[at' + 1].toNat : Int) = 42
      · have q3 : ((s[at' + 1].toNat : Int) == 42) = true := by simpa using h3
        have F : Hid (reE s at' = stE s (at' + 2)) := Lib.hid (reE_star h1 N2.out (by rw [byte_eq]; simpa using h3))
        clear h3
        go_enter Tryz.func137, Tryz.ntmps137
        go_wp2_with fail
        go_loop [7] (fun v => ∃ k : Nat, k ≤ s.size ∧ v = .int .i64 k ∧ Hid (stE s k = stE s (at' + 2))) (fun v => s.size - (intOf v).toNat)
        case atStart => exact ⟨at' + 2, by omega, by go_num, Lib.hid rfl⟩
        case round =>
          obtain ⟨k, hk, rfl, E⟩ := hrel
          by_cases hlt : k + 1 < s.size
          · have hk1 : k < s.size := by omega
            by_cases h4 : (s[k].toNat : Int) = 42
            · have q4 : ((s[k].toNat : Int) == 42) = true := by simpa using h4
              have N4 : Hid ((s[k].toNat == 42) = true) := Lib.hid (by rw [byte_eq]; simpa using h4)
              clear h4
              by_cases h5 : (s[k + 1].toNat : Int) = 47
              · have q5 : ((s[k + 1].toNat : Int) == 47) = true := by simpa using h5
                have E' : Hid (stE s (at' + 2) = (k + 2, true)) := Lib.hid (by rw [← E.out]; exact stE_hit hlt N4.out (by rw [byte_eq]; simpa using h5))
                clear h5
                go_wp2_with fail
                go_ret2
                exact ⟨by rw [F.out, E'.out]; exact retIB (by omega) rfl, rfl⟩
              · have q5 : ((s[k + 1].toNat : Int) == 47) = false := by simpa using h5
                have E' : Hid (stE s (k + 1) = stE s (at' + 2)) := Lib.hid (by
                  rw [← E.out]
                  refine (stE_step hlt ?_).symm
                  rw [N4.out, Bool.true_and, byte_eq]; simpa using h5)
                clear h5
                go_wp2_with fail
                go_round
                case rel => exact ⟨k + 1, by omega, by go_num, E'⟩
                case measure => simp [intOf]; omega
            · have q4 : ((s[k].toNat : Int) == 42) = false := by simpa using h4
              have E' : Hid (stE s (k + 1) = stE s (at' + 2)) := Lib.hid (by
                rw [← E.out]
                refine (stE_step hlt ?_).symm
                rw [byte_eq, decide_eq_false (by simpa using h4), Bool.false_and])
              clear h4
              go_wp2_with fail
              go_round
              case rel => exact ⟨k + 1, by omega, by go_num, E'⟩
              case measure => simp [intOf]; omega
          · have E' : Hid (stE s (at' + 2) = (s.size, false)) := Lib.hid (by rw [← E.out]; exact stE_end (by omega) hk)
            go_wp2_with fail
            go_ret2
            exact ⟨by rw [F.out, E'.out]; rfl, rfl⟩
      · have q3 : ((s[at' + 1].toNat : Int) == 42) = false := by simpa using h3
        have F : Hid (reE s at' = (at' + 1, false)) := Lib.hid (reE_else (fun _ => ⟨N2.out, by rw [byte_eq]; simpa using h3⟩))
        clear h3
        go_enter Tryz.func137, Tryz.ntmps137
        go_wp2_with fail
        go_ret2
        exact ⟨by rw [F.out]; exact retIB (by omega) rfl, rfl⟩
  · have F : Hid (reE s at' = (at' + 1, false)) := Lib.hid (reE_else (fun g => absurd g h1))
    go_enter Tryz.func137, Tryz.ntmps137
    go_wp2_with fail
    go_ret2
    exact ⟨by rw [F.out]; exact retIB (by omega) rfl, rfl⟩

end Go.Proofs.YtjmfjlffcopnnaaGreatDoor
