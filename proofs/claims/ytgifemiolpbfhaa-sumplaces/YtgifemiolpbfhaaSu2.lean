/-
  The walks of minuetlaw16's Sums and SumParts, under what the program's Sum answers. Conditions: as each theorem's premises say.
-/
import Derived.Test.YtgifemiolpbfhaaSu1
namespace Go.Proofs.Ytgifemiolpbfhaa
open Go.RowKit

set_option maxRecDepth 100000 in
set_option maxHeartbeats 1000000 in
theorem sums_true (SC : SumC) (s : ByteArray) (w : World) (hs : s.size ≤ 140737488355328) : Calls Try.prog 3 #[.string s] w (fun e w' => e = .returned (.bool true) ∧ Below w.heap.size w w') := by
  have S0 := Lib.hid (fun W => SC s W hs)
  have R0 := Lib.hid (fun W => rsum_any s W hs)
  have AW := Lib.hid (fun W => awake_true SC W)
  generalize sumS s.data.toList = n at S0 R0
  go_enter Try.func3, Try.ntmps3
  go_wp2_with (first | (go_at_call 7; refine (S0.out _).mono ?_; rintro e w1 ⟨rfl, hb1⟩; have B1 := Lib.hid hb1; clear hb1) | (go_at_call 8; refine (R0.out _).mono ?_; rintro e w2 ⟨rfl, rfl⟩) | (go_at_call 9; refine (AW.out _).mono ?_; rintro e w3 ⟨rfl, hb3⟩; have B3 := Lib.hid hb3; clear hb3))
  go_ret
  exact ⟨rfl, B1.out.trans (B3.out.mono B1.out.size)⟩

theorem all_take (t : List UInt8) (i : Nat) (b : UInt8) (h : t[i]? = some b) : allS (t.take (i + 1)) = allS (t.take i) + b.toNat := by
  have key : ∀ (x y : List UInt8), allS (x ++ y) = allS x + allS y := by
    intro x y
    induction x with
    | nil => simp [allS]
    | cons a x ih => simp only [List.cons_append, allS, ih]; omega
  rw [List.take_add_one, h]
  show allS (t.take i ++ [b]) = _
  rw [key]
  simp [allS]
theorem all_le : ∀ (t : List UInt8), allS t ≤ t.length * 255
  | [] => by simp [allS]
  | b :: t => by
    have h1 := all_le t
    have h2 := b.toNat_lt
    simp only [allS, List.length_cons]
    omega
theorem sum_lt (s : List UInt8) : sumS s < 1000003 := Nat.mod_lt _ (by decide)

set_option maxRecDepth 100000 in
set_option maxHeartbeats 2000000 in
theorem parts_true (SC : SumC) (s t : ByteArray) (w : World) (hs : s.size ≤ 140737488355328) (ht : t.size ≤ 140737488355328) : Calls Try.prog 5 #[.string s, .string t] w (fun e w' => e = .returned (.bool true) ∧ Below w.heap.size w w') := by
  have AW := Lib.hid (fun W => awake_true SC W)
  go_enter Try.func5, Try.ntmps5
  go_upto_region 3 with (go_at_call 9; refine (AW.out _).mono ?_; rintro e w1 ⟨rfl, hb1⟩; have B1 := Lib.hid hb1; clear hb1)
  by_cases h5 : s.size + t.size ≤ 5000
  · go_wp2_with fail
    have AL := Lib.hid (all_le t.data.toList)
    have TL : Hid (t.data.toList.length = t.size) := Lib.hid (by simp)
    go_loopw [5, 6] (fun x v wr => ∃ (i : Nat), i ≤ t.size ∧ v = .int .i64 i ∧ x = .int .i64 ((allS (t.data.toList.take i) : Nat) : Int) ∧ w1 = wr) (fun _ v _ => t.size - (intOf v).toNat)
    case atStart => exact ⟨0, by omega, rfl, by simp [allS], rfl⟩
    case round =>
      obtain ⟨i, hi, rfl, rfl, rfl⟩ := hrel
      by_cases hlt : i < t.size
      · obtain ⟨b, hb⟩ : ∃ b, t.data.toList[i]? = some b := ⟨_, List.getElem?_eq_getElem (by simpa using hlt)⟩
        have TR := Lib.hid (all_take _ i b hb)
        have hx : t[i] = b := by
          have h := (List.getElem?_eq_some_iff.1 hb).2
          rw [Array.getElem_toList] at h
          exact h
        have hb8 := b.toNat_lt
        have LE := all_le (t.data.toList.take i)
        have LL : (t.data.toList.take i).length ≤ i := by rw [List.length_take]; omega
        obtain ⟨q, hq⟩ : ∃ q, allS (t.data.toList.take i) = q := ⟨_, rfl⟩
        rw [hq] at LE ⊢
        rw [hq] at TR
        have hq5 : q ≤ 5000 * 255 := Nat.le_trans LE (Nat.mul_le_mul_right _ (by omega))
        have hi0 : (0 : Int) ≤ (i : Int) := by omega
        have hi1 : (i : Int) < (t.size : Int) := by omega
        clear LE LL hq hb
        go_wp2_with fail
        go_roundw
        case rel => exact ⟨i + 1, by omega, by go_num, by rw [TR.out]; simp, trivial⟩
        case measure => simp [intOf]; omega
      · have e : i = t.size := by omega
        have F : t.data.toList.take i = t.data.toList := List.take_of_length_le (by rw [TL.out]; omega)
        rw [F]
        clear F
        have PT := Lib.hid (sum_parts s.data.toList t.data.toList)
        have hA := sum_lt s.data.toList
        have hB := sum_lt t.data.toList
        have SA := Lib.hid (fun W => SC s W (by omega))
        have SB := Lib.hid (fun W => SC t W (by omega))
        have hM : allS t.data.toList ≤ 5000 * 255 := by have := AL.out; rw [TL.out] at this; omega
        have SCC : Hid (∀ W, Calls Try.prog 7 #[.string (s ++ t)] W (fun e w' => e = .returned (.int .i64 (sumS (s.data.toList ++ t.data.toList) : Nat)) ∧ Below W.heap.size W w')) := Lib.hid (fun W => by
          have h := SC (s ++ t) W (by simp; omega)
          have e : (s ++ t).data.toList = s.data.toList ++ t.data.toList := by simp
          rwa [e] at h)
        have SL : s.data.toList.length = s.size := by simp
        rw [SL] at PT
        generalize sumS (s.data.toList ++ t.data.toList) = C at SCC PT
        generalize sumS s.data.toList = A at SA PT hA
        generalize sumS t.data.toList = B at SB PT hB
        generalize allS t.data.toList = M at PT hM ⊢
        obtain ⟨K, hK⟩ : ∃ K, s.size * M = K := ⟨_, rfl⟩
        have hK2 : K ≤ 5000 * (5000 * 255) := by rw [← hK]; exact Nat.mul_le_mul (by omega) hM
        have E1 : (s.size : Int) * (M : Int) = (K : Int) := by rw [← hK]; simp
        have E2 : ((A : Int) + (B : Int) + (K : Int)).tmod 1000003 = (C : Int) := by rw [PT.out, hK]; exact (Int.ofNat_tmod (A + B + K) 1000003).symm
        clear PT AL TL SL hK
        go_wp2_with fail
        refine (SCC.out _).mono ?_
        rintro e w2 ⟨rfl, hb2⟩
        have B2 := Lib.hid hb2; clear hb2
        go_wp2_with fail
        refine (SA.out _).mono ?_
        rintro e w3 ⟨rfl, hb3⟩
        have B3 := Lib.hid hb3; clear hb3
        go_wp2_with fail
        refine (SB.out _).mono ?_
        rintro e w4 ⟨rfl, hb4⟩
        have B4 := Lib.hid hb4; clear hb4
        go_wp2_with fail
        go_ret
        exact ⟨rfl, B1.out.trans ((B2.out.trans ((B3.out.trans (B4.out.mono B3.out.size)).mono B2.out.size)).mono B1.out.size)⟩
  · go_wp2_with fail
    go_ret
    exact ⟨rfl, B1.out⟩

end Go.Proofs.Ytgifemiolpbfhaa
