/-
  The walk of the reference's Invert. Conditions: as the theorems' premises say.
-/
import Derived.Test.YtdpjkafabjhkiaaInvA
import Derived.Test.YtdpjkafabjhkiaaRApp
namespace Go.Proofs.Ytdpjkafabjhkiaa
open Go.RowKit

set_option maxHeartbeats 1000000 in
theorem rinvert_no (s : ByteArray) (p : Option Addr) (cs : List C) (cap : Nat) (w : World) (hr : RowC w p cs) (hno : ¬ Does s cs) : Calls Try.prog 8 #[.string s, .slice p cs.length cap] w (InvPost s cs w) := by
  have R := Lib.hid hr; have HN := Lib.hid hno
  clear hr hno
  go_enter Try.func8, Try.ntmps8
  go_wp2_with fail
  refine (rapply_any s _ cs _ _ R.out).mono ?_
  rintro e w1 ⟨hb1, ⟨-, hyes⟩ | ⟨rfl, -⟩⟩
  · exact absurd hyes HN.out
  have B1 := Lib.hid hb1; clear hb1
  go_wp2_with fail
  go_ret2
  exact ⟨B1.out, .inr ⟨HN.out, rfl⟩⟩

set_option maxRecDepth 100000 in
set_option maxHeartbeats 4000000 in
theorem rinvert_yes (s : ByteArray) (p : Option Addr) (cs : List C) (cap : Nat) (w : World) (hr : RowC w p cs) (hD : Does s cs) : Calls Try.prog 8 #[.string s, .slice p cs.length cap] w (InvPost s cs w) := by
  have R := Lib.hid hr
  have hok := okB_iff.1 hD.1.1
  have hl : cs.length ≤ 4096 := hok.1
  have hraw := hok.2.1
  have hsz : s.size ≤ 4096 := by have := hok.2.2.1; have := hD.2; omega
  have HRAW := Lib.hid hraw
  have SZ : Hid (∀ j, 0 ≤ sumOf fromC (cs.take j) ∧ sumOf fromC (cs.take j) ≤ s.size) := Lib.hid (fun j => by
    have b1 := mem_take_sum (soft_all hraw) (f := fromC) (fun c hc => from_nonneg hc) j
    have := hD.2
    omega)
  have IRAW := Lib.hid (okB_iff.1 (inv_raw hD)).2.1
  have ILEN : Hid ((invL s 0 cs).length = cs.length) := Lib.hid (inv_length s 0 cs)
  have IGET := Lib.hid (fun j c h => inv_get s cs 0 j c h)
  have HD := Lib.hid hD
  generalize hI : invL s 0 cs = I at IRAW ILEN IGET
  have HI := Lib.hid hI
  clear hr hD hok hraw hI
  have STEP : Hid (∀ (j : Nat) (c : C), I[j]? = some c → ∀ (v : Value) (W : World), Own W w.heap.size v (normOf (I.take j)) → Below w.heap.size w W → Calls Try.prog 21 #[v, c.val] W fun e w5 => ∃ v5, e = .returned v5 ∧ Hid (Own w5 w.heap.size v5 (normOf (I.take (j + 1)))) ∧ Hid (Below w.heap.size w w5)) := Lib.hid (fun j c hc v W ho hb => by
    refine (radd_next IRAW.out (by rw [ILEN.out]; exact hl) hc w.heap.size v W ho hb.size).mono ?_
    intro e w5 hp
    have hb5 := hp.below ho hb (Nat.le_refl _) hb.size
    obtain ⟨v5, rfl, ho5, -, -⟩ := hp
    exact ⟨v5, rfl, Lib.hid ho5, Lib.hid hb5⟩)
  go_enter Try.func8, Try.ntmps8
  go_wp2_with fail
  refine (rapply_any s _ cs _ _ R.out).mono ?_
  rintro e w1 ⟨hb1, ⟨rfl, -⟩ | ⟨-, hno⟩⟩
  rotate_left
  · exact absurd HD.out hno
  have B1 := Lib.hid hb1; clear hb1
  generalize appB s 0 cs = X
  go_wp2_with fail
  go_loopw [8, 9, 10] (fun v a i wr => ∃ j : Nat, j ≤ cs.length ∧ i = .int .i64 j ∧ a = .int .i64 (sumOf fromC (cs.take j)) ∧ Hid (Own wr w.heap.size v (normOf (I.take j))) ∧ Hid (Below w.heap.size w wr)) (fun _ _ i _ => cs.length - (intOf i).toNat)
  case atStart => exact ⟨0, Nat.zero_le _, rfl, rfl, Lib.hid (Own.nil _ _), B1⟩
  case round =>
    obtain ⟨j, hj, rfl, rfl, O, B⟩ := hrel
    obtain ⟨ha0, ha1⟩ := SZ.out j
    by_cases hlt : j < cs.length
    · have hc := List.getElem?_eq_getElem hlt
      generalize cs[j] = c at hc
      have E1 := Lib.hid (sumOf_take_succ (f := fromC) hc)
      obtain ⟨-, ha2⟩ := SZ.out (j + 1)
      rw [E1.out] at ha2
      have hg := IGET.out j c hc
      rw [Int.zero_add] at hg
      have hraw := HRAW.out c (List.mem_of_getElem? hc)
      obtain ⟨b, o, rfl, hp⟩ := R.out j c hc
      have PC := Lib.hid hp
      obtain ⟨c0, c1, c2⟩ := hp.below B.out
      clear hc hp
      generalize sumOf fromC (cs.take j) = A at *
      obtain ⟨k, n, t⟩ := c
      dsimp only at c0 c1 c2
      rcases hraw with ⟨hk | hk, h1, h2, h3⟩ | ⟨hk, h1, h2⟩ <;> dsimp only at hk h1 h2 <;> subst hk
      · dsimp only at h3
        have ha3 : A + n ≤ s.size := by simpa [fromC] using ha2
        rw [turn_keep] at hg
        have GET := Lib.hid hg
        clear hg ha2
        go_wp2_with fail
        refine (STEP.out j _ GET.out _ _ O.out B.out).mono ?_
        rintro e w5 ⟨v5, rfl, O5, B5⟩
        obtain ⟨d0, d1, d2⟩ := PC.out.below B5.out
        dsimp only at d0 d1 d2
        clear c0 c1 c2
        go_wp2_with fail
        go_roundw
        case rel => exact ⟨j + 1, by omega, by go_num, by rw [E1.out]; rfl, O5, B5⟩
        case measure => simp [intOf]; omega
      · dsimp only at h3
        have ha3 : A + n ≤ s.size := by simpa [fromC] using ha2
        rw [turn_cut] at hg
        have GET := Lib.hid hg
        clear hg ha2
        go_wp2_with fail
        refine (STEP.out j _ GET.out _ _ O.out B.out).mono ?_
        rintro e w5 ⟨v5, rfl, O5, B5⟩
        obtain ⟨d0, d1, d2⟩ := PC.out.below B5.out
        dsimp only at d0 d1 d2
        clear c0 c1 c2
        go_wp2_with fail
        go_roundw
        case rel => exact ⟨j + 1, by omega, by go_num, by rw [E1.out]; rfl, O5, B5⟩
        case measure => simp [intOf]; omega
      · subst h1
        rw [turn_put] at hg
        have GET := Lib.hid hg
        clear hg ha2
        go_wp2_with fail
        refine (STEP.out j _ GET.out _ _ O.out B.out).mono ?_
        rintro e w5 ⟨v5, rfl, O5, B5⟩
        obtain ⟨d0, d1, d2⟩ := PC.out.below B5.out
        dsimp only at d0 d1 d2
        clear c0 c1 c2
        go_wp2_with fail
        go_roundw
        case rel => exact ⟨j + 1, by omega, by go_num, by rw [E1.out]; simp [fromC], O5, B5⟩
        case measure => simp [intOf]; omega
    · have hjj : I.take j = I := List.take_of_length_le (by have := ILEN.out; omega)
      have hO := O.out
      rw [hjj] at hO
      have O' := Lib.hid hO
      clear hO hjj O
      go_wp2_with fail
      go_ret2
      exact ⟨B.out, .inl ⟨HD.out, _, rfl, by rw [HI.out]; exact O'.out⟩⟩

theorem rinvert_any (s : ByteArray) (p : Option Addr) (cs : List C) (cap : Nat) (w : World) (hr : RowC w p cs) : Calls Try.prog 8 #[.string s, .slice p cs.length cap] w (InvPost s cs w) := by
  by_cases h : Does s cs
  · exact rinvert_yes s p cs cap w hr h
  · exact rinvert_no s p cs cap w hr h

end Go.Proofs.Ytdpjkafabjhkiaa
