/-
  The program's Sum answers what SumC says. Conditions: as SumC says.
-/
import Derived.Test.YtgifemiolpbfhaaSu1
namespace Go.Proofs.Ytgifemiolpbfhaa
open Go.RowKit

theorem step_mod2 (i b x : Nat) : (x % 1000003 + (i + 1) % 1000003 * b) % 1000003 = (x + (i + 1) * b) % 1000003 := by
  have h2 : ((i + 1) % 1000003 * b) % 1000003 = ((i + 1) * b) % 1000003 := by rw [Nat.mul_mod, Nat.mod_mod, ← Nat.mul_mod]
  rw [Nat.mod_add_mod, Nat.add_mod, h2, ← Nat.add_mod]

set_option maxRecDepth 100000 in
set_option maxHeartbeats 1000000 in
theorem sum_same (s : ByteArray) (w : World) (hs : s.size ≤ 140737488355328) : Calls Try.prog 7 #[.string s] w (fun e w' => e = .returned (.int .i64 (sumS s.data.toList : Nat)) ∧ w = w') := by
  go_enter Try.func7, Try.ntmps7
  go_wp2_with fail
  go_loopw [3, 8] (fun x v wr => ∃ (i : Nat), i ≤ s.size ∧ v = .int .i64 i ∧ x = .int .i64 ((rawS 0 (s.data.toList.take i) % 1000003 : Nat) : Int) ∧ w = wr) (fun _ v _ => s.size - (intOf v).toNat)
  case atStart => exact ⟨0, by omega, rfl, by simp [rawS], rfl⟩
  case round =>
    obtain ⟨i, hi, rfl, rfl, rfl⟩ := hrel
    by_cases hlt : i < s.size
    · obtain ⟨b, hb⟩ : ∃ b, s.data.toList[i]? = some b := ⟨_, List.getElem?_eq_getElem (by simpa using hlt)⟩
      have TR := Lib.hid (take_raw _ i b hb)
      have hx : s[i] = b := by
        have h := (List.getElem?_eq_some_iff.1 hb).2
        rw [Array.getElem_toList] at h
        exact h
      have hb8 := b.toNat_lt
      have ST := Lib.hid (step_mod2 i b.toNat (rawS 0 (s.data.toList.take i)))
      obtain ⟨x, hxm⟩ : ∃ x, rawS 0 (s.data.toList.take i) % 1000003 = x := ⟨_, rfl⟩
      have hx3 : x < 1000003 := by rw [← hxm]; exact Nat.mod_lt _ (by decide)
      obtain ⟨r2, h2⟩ : ∃ r, (i + 1) % 1000003 = r := ⟨_, rfl⟩
      have hr2 : r2 < 1000003 := by rw [← h2]; exact Nat.mod_lt _ (by decide)
      obtain ⟨m, hm⟩ : ∃ m, r2 * b.toNat = m := ⟨_, rfl⟩
      have hm2 : m ≤ 1000003 * 256 := by rw [← hm]; exact Nat.mul_le_mul (by omega) (by omega)
      obtain ⟨x2, hx2⟩ : ∃ r, (x + m) % 1000003 = r := ⟨_, rfl⟩
      rw [hxm, h2, hm, hx2] at ST
      have E2 : ((i : Int) + 1).tmod 1000003 = (r2 : Int) := by rw [← h2]; exact (Int.ofNat_tmod (i + 1) 1000003).symm
      have E3 : (r2 : Int) * (b.toNat : Int) = (m : Int) := by rw [← hm]; simp
      have E4 : ((x : Int) + (m : Int)).tmod 1000003 = (x2 : Int) := by rw [← hx2]; exact (Int.ofNat_tmod (x + m) 1000003).symm
      have hi0 : (0 : Int) ≤ (i : Int) := by omega
      have hi1 : (i : Int) < (s.size : Int) := by omega
      rw [hxm]
      have NX : Hid (((rawS 0 (s.data.toList.take (i + 1)) % 1000003 : Nat) : Int) = (x2 : Int)) := Lib.hid (by rw [TR.out, ← ST.out])
      clear h2 hm hx2 hxm
      go_wp2_with fail
      go_roundw
      case rel => exact ⟨i + 1, by omega, by go_num, by rw [NX.out], trivial⟩
      case measure => simp [intOf]; omega
    · have e : i = s.size := by omega
      have F : Hid (s.data.toList.take i = s.data.toList) := Lib.hid (List.take_of_length_le (by simp; omega))
      go_wp2_with fail
      go_ret
      exact ⟨retI (by rw [F.out]; rfl), rfl⟩

theorem sum_any : SumC := fun s w hs => (sum_same s w hs).mono (fun _ _ h => ⟨h.1, h.2 ▸ Below.refl _ _⟩)

end Go.Proofs.Ytgifemiolpbfhaa
