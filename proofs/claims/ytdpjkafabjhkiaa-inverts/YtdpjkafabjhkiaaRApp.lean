/-
  The walk of the reference's Apply. Conditions: as the theorems' premises say.
-/
import Derived.Test.YtdpjkafabjhkiaaAwake
namespace Go.Proofs.Ytdpjkafabjhkiaa
open Go.RowKit

set_option maxHeartbeats 2000000 in
theorem rapply_no (s : ByteArray) (p : Option Addr) (cs : List C) (cap : Nat) (w : World) (hr : RowC w p cs) (hno : ¬ (MayP cs ∧ sumOf fromC cs = s.size)) : Calls Try.prog 20 #[.string s, .slice p cs.length cap] w (ApplyPost s cs w) := by
  have R := Lib.hid hr; clear hr
  by_cases hm : MayP cs
  · have hne : ((sumOf fromC cs) != (s.size : Int)) = true := by
      rw [bne_iff_ne]
      exact fun h => hno ⟨hm, h⟩
    have HM := Lib.hid hm
    have HN := Lib.hid hno
    clear hm hno
    generalize hF : sumOf fromC cs = F at hne
    have HF := Lib.hid hF
    clear hF
    go_enter Try.func20, Try.ntmps20
    go_wp2_with (go_at_call 16; refine (rlengths_any _ _ _ _ R.out).mono ?_; rintro e w1 ⟨hb1, ⟨rfl, -⟩ | ⟨-, hno⟩⟩; rotate_left; exact absurd HM.out hno; rw [HF.out]; have B1 := Lib.hid hb1; clear hb1)
    go_ret2
    exact ⟨B1.out, .inr ⟨rfl, HN.out⟩⟩
  · have HM := Lib.hid hm
    have HN := Lib.hid hno
    clear hm hno
    go_enter Try.func20, Try.ntmps20
    go_wp2_with (go_at_call 16; refine (rlengths_any _ _ _ _ R.out).mono ?_; rintro e w1 ⟨hb1, ⟨-, hyes⟩ | ⟨rfl, -⟩⟩; exact absurd hyes HM.out; have B1 := Lib.hid hb1; clear hb1)
    go_ret2
    exact ⟨B1.out, .inr ⟨rfl, HN.out⟩⟩

set_option maxHeartbeats 4000000 in
theorem rapply_yes (s : ByteArray) (p : Option Addr) (cs : List C) (cap : Nat) (w : World) (hr : RowC w p cs) (hm : MayP cs) (hfs : sumOf fromC cs = s.size) : Calls Try.prog 20 #[.string s, .slice p cs.length cap] w (ApplyPost s cs w) := by
  have R := Lib.hid hr; clear hr
  have hok := okB_iff.1 hm.1
  have hl : cs.length ≤ 4096 := hok.1
  have hraw := hok.2.1
  have hf4 := hok.2.2.1
  have ht4 := hok.2.2.2
  have hss : s.size ≤ 4096 := by omega
  have HM := Lib.hid hm
  have HFS := Lib.hid hfs
  have HRAW := Lib.hid hraw
  have SZ : Hid (∀ j, (appB s 0 (cs.take j)).size ≤ 4096 ∧ 0 ≤ sumOf fromC (cs.take j) ∧ sumOf fromC (cs.take j) ≤ s.size) := Lib.hid (fun j => by
    have hsoft := soft_all hraw
    have b1 := mem_take_sum hsoft (f := fromC) (fun c hc => from_nonneg hc) j
    have b2 := mem_take_sum hsoft (f := toC) (fun c hc => to_nonneg hc) j
    have e := appB_size (s := s) (cs := cs.take j) (a := 0) (fun x hx => hsoft x (List.mem_of_mem_take hx)) (by omega) (by omega)
    omega)
  clear hm hok hraw hf4 ht4 hfs
  go_enter Try.func20, Try.ntmps20
  go_wp2_with (first | (go_at_call 16; refine (rlengths_any _ _ _ _ R.out).mono ?_; rintro e w1 ⟨hb1, ⟨rfl, -⟩ | ⟨-, hno⟩⟩; rotate_left; exact absurd HM.out hno; rw [HFS.out]; generalize sumOf toC cs = T; have B1 := Lib.hid hb1; clear hb1))
  go_loop [9, 10, 11] (fun v a i => ∃ j : Nat, j ≤ cs.length ∧ i = .int .i64 j ∧ a = .int .i64 (sumOf fromC (cs.take j)) ∧ v = .string (appB s 0 (cs.take j))) (fun _ _ i => cs.length - (intOf i).toNat)
  case atStart => exact ⟨0, Nat.zero_le _, rfl, rfl, rfl⟩
  case round =>
    obtain ⟨j, hj, rfl, rfl, rfl⟩ := hrel
    obtain ⟨hx4, ha0, ha1⟩ := SZ.out j
    by_cases hlt : j < cs.length
    · have hc := List.getElem?_eq_getElem hlt
      generalize cs[j] = c at hc
      have E1 := Lib.hid (sumOf_take_succ (f := fromC) hc)
      have E2 := Lib.hid (appB_take_succ s hc)
      obtain ⟨-, -, ha2⟩ := SZ.out (j + 1)
      rw [E1.out] at ha2
      have hraw := HRAW.out c (List.mem_of_getElem? hc)
      obtain ⟨b, o, rfl, hp⟩ := R.out j c hc
      obtain ⟨c0, c1, c2⟩ := hp.below B1.out
      clear hc hp
      generalize sumOf fromC (cs.take j) = A at *
      generalize appB s 0 (cs.take j) = X at *
      obtain ⟨k, n, t⟩ := c
      dsimp only at c0 c1 c2
      rcases hraw with ⟨hk | hk, h1, h2, h3⟩ | ⟨hk, h1, h2⟩ <;> dsimp only at hk h1 h2 <;> subst hk
      · have ha3 : A + n ≤ s.size := by simpa [fromC] using ha2
        have hs1 : ¬ (9223372036854775807 < X.size + (s.extract A.toNat (A + n).toNat).size) := by rw [ByteArray.size_extract]; omega
        go_wp2
        go_round
        case rel => exact ⟨j + 1, by omega, by go_num, by rw [E1.out]; rfl, by rw [E2.out]; rfl⟩
        case measure => simp [intOf]; omega
      · have ha3 : A + n ≤ s.size := by simpa [fromC] using ha2
        go_wp2
        go_round
        case rel => exact ⟨j + 1, by omega, by go_num, by rw [E1.out]; rfl, by rw [E2.out]; simp [partB, e0_right]⟩
        case measure => simp [intOf]; omega
      · subst h1
        have hs1 : ¬ (9223372036854775807 < X.size + t.size) := by omega
        go_wp2
        go_round
        case rel => exact ⟨j + 1, by omega, by go_num, by rw [E1.out]; simp [fromC], by rw [E2.out]; rfl⟩
        case measure => simp [intOf]; omega
    · have hjj : cs.take j = cs := List.take_of_length_le (by omega)
      rw [hjj] at *
      generalize hXs : appB s 0 cs = X at *
      have HXS := Lib.hid hXs
      clear hXs
      go_wp2
      go_ret2
      exact ⟨B1.out, .inl ⟨by rw [HXS.out]; rfl, HM.out, HFS.out⟩⟩

theorem rapply_any (s : ByteArray) (p : Option Addr) (cs : List C) (cap : Nat) (w : World) (hr : RowC w p cs) : Calls Try.prog 20 #[.string s, .slice p cs.length cap] w (ApplyPost s cs w) := by
  by_cases h : MayP cs ∧ sumOf fromC cs = s.size
  · exact rapply_yes s p cs cap w hr h.1 h.2
  · exact rapply_no s p cs cap w hr h

end Go.Proofs.Ytdpjkafabjhkiaa
