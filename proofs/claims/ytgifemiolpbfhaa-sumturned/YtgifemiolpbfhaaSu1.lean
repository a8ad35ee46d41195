/-
  What the program's Sum must answer (SumC); minuetlaw16's awake under it; the reference's Sum. Conditions: as each theorem's premises say.
-/
import Derived.Test.YtgifemiolpbfhaaProg
import Derived.Test.YtgifemiolpbfhaaSuM
import Derived.WalkKit
import Derived.WalkSpells
import Derived.WalkLawsBesides
import Derived.BigQuiet
import Derived.Lib.Hide
import Derived.IntWalk
import Derived.Deep.CutBlock
import Derived.Deep.DeepCutAuto
namespace Go.Proofs.Ytgifemiolpbfhaa
open Go.RowKit

theorem retB {a b : Bool} (h : a = b) : Ending.returned (.bool a) = .returned (.bool b) := by rw [h]
theorem retI {k : IntKind} {a b : Int} (h : a = b) : Ending.returned (.int k a) = .returned (.int k b) := by rw [h]
/-- What the program's Sum answers, at a text no longer than may be; memory that was there stays. -/
def SumC : Prop := ∀ (s : ByteArray) (w : World), s.size ≤ 140737488355328 → Calls Try.prog 7 #[.string s] w (fun e w' => e = .returned (.int .i64 (sumS s.data.toList : Nat)) ∧ Below w.heap.size w w')

theorem num_any (n : Int) (w : World) : Calls Try.prog 10 #[.int .i64 n] w fun e w' => e = .returned (.int .i64 n) ∧ w = w' := by
  go_enter Try.func10, Try.ntmps10
  go_wp2_with fail
  go_ret
  exact ⟨rfl, rfl⟩

set_option maxRecDepth 100000 in
set_option maxHeartbeats 1000000 in
theorem awake_true (SC : SumC) (w : World) : Calls Try.prog 9 #[] w (fun e w' => e = .returned (.bool true) ∧ Below w.heap.size w w') := by
  have S0 := Lib.hid (fun W => SC ⟨#[]⟩ W (by decide))
  have S2 := Lib.hid (fun W => SC ⟨#[97, 98]⟩ W (by decide))
  have S1 := Lib.hid (fun W => SC ⟨#[97]⟩ W (by decide))
  have e0 : ((sumS (⟨#[]⟩ : ByteArray).data.toList : Nat) : Int) = 0 := by decide +kernel
  have e2 : ((sumS (⟨#[97, 98]⟩ : ByteArray).data.toList : Nat) : Int) = 293 := by decide +kernel
  have e1 : ((sumS (⟨#[97]⟩ : ByteArray).data.toList : Nat) : Int) = 97 := by decide +kernel
  rw [e0] at S0; rw [e2] at S2; rw [e1] at S1
  clear e0 e1 e2
  go_enter Try.func9, Try.ntmps9
  go_wp2_with fail
  refine (S0.out _).mono ?_
  rintro e w1 ⟨rfl, hb1⟩
  have B1 := Lib.hid hb1; clear hb1
  go_wp2_with fail
  refine (S2.out _).mono ?_
  rintro e w2 ⟨rfl, hb2⟩
  have B2 := Lib.hid hb2; clear hb2
  go_wp2_with fail
  refine (S1.out _).mono ?_
  rintro e w3 ⟨rfl, hb3⟩
  have B3 := Lib.hid hb3; clear hb3
  go_wp2_with (go_at_call 10; refine (num_any _ _).mono ?_; rintro e w4 ⟨rfl, rfl⟩)
  go_ret
  exact ⟨rfl, B1.out.trans ((B2.out.trans (B3.out.mono B2.out.size)).mono B1.out.size)⟩

theorem take_raw (s : List UInt8) (i : Nat) (b : UInt8) (h : s[i]? = some b) : rawS 0 (s.take (i + 1)) = rawS 0 (s.take i) + (i + 1) * b.toNat := by
  have hl := (List.getElem?_eq_some_iff.1 h).1
  rw [List.take_add_one, h]
  show rawS 0 (s.take i ++ [b]) = _
  rw [raw_app, List.length_take, Nat.min_eq_left (by omega), Nat.zero_add]
  simp [rawS]
theorem step_mod (i b x : Nat) : (x % 1000003 + (i % 1000003 + 1) % 1000003 * b) % 1000003 = (x + (i + 1) * b) % 1000003 := by
  have h1 : (i % 1000003 + 1) % 1000003 = (i + 1) % 1000003 := Nat.mod_add_mod ..
  have h2 : ((i + 1) % 1000003 * b) % 1000003 = ((i + 1) * b) % 1000003 := by rw [Nat.mul_mod, Nat.mod_mod, ← Nat.mul_mod]
  rw [h1, Nat.mod_add_mod, Nat.add_mod, h2, ← Nat.add_mod]

set_option maxRecDepth 100000 in
set_option maxHeartbeats 1000000 in
/-- The reference's Sum. -/
theorem rsum_any (s : ByteArray) (w : World) (hs : s.size ≤ 140737488355328) : Calls Try.prog 8 #[.string s] w (fun e w' => e = .returned (.int .i64 (sumS s.data.toList : Nat)) ∧ w = w') := by
  go_enter Try.func8, Try.ntmps8
  go_wp2_with fail
  go_loopw [3, 4] (fun x v wr => ∃ (i : Nat), i ≤ s.size ∧ v = .int .i64 i ∧ x = .int .i64 ((rawS 0 (s.data.toList.take i) % 1000003 : Nat) : Int) ∧ w = wr) (fun _ v _ => s.size - (intOf v).toNat)
  case atStart => exact ⟨0, by omega, rfl, by simp [rawS], rfl⟩
  case round =>
    obtain ⟨i, hi, rfl, rfl, rfl⟩ := hrel
    by_cases hlt : i < s.size
    · obtain ⟨b, hb⟩ : ∃ b, s.data.toList[i]? = some b := ⟨_, List.getElem?_eq_getElem (by simpa using hlt)⟩
      have TR := Lib.hid (take_raw _ i b hb)
      have hx : s[i] = b := by
        have h := (List.getElem?_eq_some_iff.1 hb).2
        rw [Array.getElem_toList] at h
        exact h
      have hb8 := b.toNat_lt
      have ST := Lib.hid (step_mod i b.toNat (rawS 0 (s.data.toList.take i)))
      obtain ⟨x, hxm⟩ : ∃ x, rawS 0 (s.data.toList.take i) % 1000003 = x := ⟨_, rfl⟩
      have hx3 : x < 1000003 := by rw [← hxm]; exact Nat.mod_lt _ (by decide)
      obtain ⟨r1, h1⟩ : ∃ r, i % 1000003 = r := ⟨_, rfl⟩
      obtain ⟨r2, h2⟩ : ∃ r, (r1 + 1) % 1000003 = r := ⟨_, rfl⟩
      have hr1 : r1 < 1000003 := by rw [← h1]; exact Nat.mod_lt _ (by decide)
      have hr2 : r2 < 1000003 := by rw [← h2]; exact Nat.mod_lt _ (by decide)
      obtain ⟨m, hm⟩ : ∃ m, r2 * b.toNat = m := ⟨_, rfl⟩
      have hm2 : m ≤ 1000003 * 256 := by rw [← hm]; exact Nat.mul_le_mul (by omega) (by omega)
      obtain ⟨x2, hx2⟩ : ∃ r, (x + m) % 1000003 = r := ⟨_, rfl⟩
      rw [hxm, h1, h2, hm, hx2] at ST
      have E1 : ((i : Nat) : Int).tmod 1000003 = (r1 : Int) := by rw [← h1]; exact (Int.ofNat_tmod i 1000003).symm
      have E2 : ((r1 : Int) + 1).tmod 1000003 = (r2 : Int) := by rw [← h2]; exact (Int.ofNat_tmod (r1 + 1) 1000003).symm
      have E3 : (r2 : Int) * (b.toNat : Int) = (m : Int) := by rw [← hm]; simp
      have E4 : ((x : Int) + (m : Int)).tmod 1000003 = (x2 : Int) := by rw [← hx2]; exact (Int.ofNat_tmod (x + m) 1000003).symm
      have hi0 : (0 : Int) ≤ (i : Int) := by omega
      have hi1 : (i : Int) < (s.size : Int) := by omega
      rw [hxm]
      have NX : Hid (((rawS 0 (s.data.toList.take (i + 1)) % 1000003 : Nat) : Int) = (x2 : Int)) := Lib.hid (by rw [TR.out, ← ST.out])
      clear h1 h2 hm hx2 hxm
      go_wp2_with fail
      go_roundw
      case rel => exact ⟨i + 1, by omega, by go_num, by rw [NX.out], trivial⟩
      case measure => simp [intOf]; omega
    · have e : i = s.size := by omega
      have F : Hid (s.data.toList.take i = s.data.toList) := Lib.hid (List.take_of_length_le (by simp; omega))
      go_wp2_with fail
      go_ret
      exact ⟨retI (by rw [F.out]; rfl), rfl⟩

end Go.Proofs.Ytgifemiolpbfhaa
