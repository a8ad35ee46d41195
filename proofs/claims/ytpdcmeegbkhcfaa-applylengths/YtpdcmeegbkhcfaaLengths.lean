/-
  The walk of the law ApplyLengths. Conditions: as the theorems' premises say.
-/
import Derived.Test.YtpdcmeegbkhcfaaAwake
import Derived.Deep.QuietTactic
namespace Go.Proofs.Ytpdcmeegbkhcfaa
open Go.RowKit

set_option maxRecDepth 100000 in
set_option maxHeartbeats 1000000 in
theorem alen_not (s : ByteArray) (p : Option Addr) (cs : List C) (cap : Nat) (w : World) (hr : RowC w p cs) (hno : ¬ (MayP cs ∧ sumOf fromC cs = s.size)) :
    Calls Try.prog 6 #[.string s, .slice p cs.length cap] w fun e w' => e = .returned (.bool true) ∧ Below w.heap.size w w' := by
  have R := Lib.hid hr; clear hr
  have HN := Lib.hid hno
  by_cases hm : MayP cs
  · have hne : ((sumOf fromC cs) != (s.size : Int)) = true := by
      rw [bne_iff_ne]
      exact fun h => hno ⟨hm, h⟩
    have HM := Lib.hid hm
    clear hm hno
    generalize hF : sumOf fromC cs = F at hne
    have HF := Lib.hid hF
    clear hF
    go_enter Try.func6, Try.ntmps6
    go_wp2_with (first
      | (go_at_call 12; refine (awake_true _).mono ?_; rintro e w1 ⟨rfl, hb1⟩; have B1 := Lib.hid hb1; clear hb1)
      | (go_at_call 8; refine (apply_noL s p cs cs.length cap rfl _ (R.out.below B1.out) HN.out).mono ?_; rintro e w2 ⟨rfl, hb2⟩; have B2 := Lib.hid (B1.out.trans (hb2.mono B1.out.size)); clear hb2)
      | (go_at_call 15; refine (rlengths_any _ _ _ _ (R.out.below B2.out)).mono ?_; rintro e w3 ⟨hb3, ⟨rfl, -⟩ | ⟨-, hno⟩⟩; rotate_left; exact absurd HM.out hno; rw [HF.out]; have B3 := Lib.hid (B2.out.trans (hb3.mono B2.out.size)); clear hb3)
      | (go_at_call 10; refine (num_any _ _).mono ?_; rintro e w' ⟨rfl, rfl⟩))
    go_ret
    exact ⟨rfl, B3.out⟩
  · have HM := Lib.hid hm
    clear hm hno
    go_enter Try.func6, Try.ntmps6
    go_wp2_with (first
      | (go_at_call 12; refine (awake_true _).mono ?_; rintro e w1 ⟨rfl, hb1⟩; have B1 := Lib.hid hb1; clear hb1)
      | (go_at_call 8; refine (apply_noL s p cs cs.length cap rfl _ (R.out.below B1.out) HN.out).mono ?_; rintro e w2 ⟨rfl, hb2⟩; have B2 := Lib.hid (B1.out.trans (hb2.mono B1.out.size)); clear hb2)
      | (go_at_call 15; refine (rlengths_any _ _ _ _ (R.out.below B2.out)).mono ?_; rintro e w3 ⟨hb3, ⟨-, hyes⟩ | ⟨rfl, -⟩⟩; exact absurd hyes HM.out; have B3 := Lib.hid (B2.out.trans (hb3.mono B2.out.size)); clear hb3)
      | (go_at_call 10; refine (num_any _ _).mono ?_; rintro e w' ⟨rfl, rfl⟩))
    go_ret
    exact ⟨rfl, B3.out⟩

set_option maxRecDepth 100000 in
set_option maxHeartbeats 4000000 in
theorem alen_yes (s : ByteArray) (p : Option Addr) (cs : List C) (cap : Nat) (w : World) (hr : RowC w p cs) (hm : MayP cs) (hfs : sumOf fromC cs = s.size) :
    Calls Try.prog 6 #[.string s, .slice p cs.length cap] w fun e w' => e = .returned (.bool true) ∧ Below w.heap.size w w' := by
  have R := Lib.hid hr; clear hr
  have hok := okB_iff.1 hm.1
  have hl : cs.length ≤ 4096 := hok.1
  have hraw := hok.2.1
  have ht4 := hok.2.2.2
  have hss : s.size ≤ 4096 := by have := hok.2.2.1; omega
  have hsoft := soft_all hraw
  have hsz := appB_size (s := s) (cs := cs) (a := 0) hsoft (by omega) (by omega)
  have PUT : Hid (∀ j c, cs[j]? = some c → c.k = 1 → (appB s 0 cs).extract (sumOf toC (cs.take j)).toNat (sumOf toC (cs.take j) + c.t.size).toNat = c.t) := Lib.hid (fun j c hc hk => appB_put hsoft (by omega) hc hk)
  have SZ : Hid (∀ j, 0 ≤ sumOf toC (cs.take j) ∧ sumOf toC (cs.take j) ≤ sumOf toC cs) := Lib.hid (fun j => mem_take_sum hsoft (f := toC) (fun c hc => to_nonneg hc) j)
  have HM := Lib.hid hm
  have HFS := Lib.hid hfs
  have HRAW := Lib.hid hraw
  generalize hX : appB s 0 cs = X at hsz PUT
  have HX := Lib.hid hX
  have HSZ := Lib.hid hsz
  rw [← hsz] at SZ ht4
  have hx4 : X.size ≤ 4096 := by omega
  clear hm hok hraw hfs hsoft hsz hX ht4
  go_enter Try.func6, Try.ntmps6
  go_wp2_with (first
    | (go_at_call 12; refine (awake_true _).mono ?_; rintro e w1 ⟨rfl, hb1⟩; have B1 := Lib.hid hb1; clear hb1)
    | (go_at_call 8; refine (apply_yesL s p cs cs.length cap rfl _ (R.out.below B1.out) HM.out HFS.out X HX.out).mono ?_; rintro e w2 ⟨rfl, hb2⟩; have B2 := Lib.hid (B1.out.trans (hb2.mono B1.out.size)); clear hb2)
    | (go_at_call 15; refine (rlengths_any _ _ _ _ (R.out.below B2.out)).mono ?_; rintro e w3 ⟨hb3, ⟨rfl, -⟩ | ⟨-, hno⟩⟩; rotate_left; exact absurd HM.out hno; rw [HFS.out, ← HSZ.out]; have B3 := Lib.hid (B2.out.trans (hb3.mono B2.out.size)); clear hb3)
    | (go_at_call 10; refine (num_any _ _).mono ?_; rintro e w' ⟨rfl, rfl⟩))
  go_loopw [10, 11] (fun a i wr => ∃ j : Nat, j ≤ cs.length ∧ i = .int .i64 j ∧ a = .int .i64 (sumOf toC (cs.take j)) ∧ Hid (Below w.heap.size w wr)) (fun _ i _ => cs.length - (intOf i).toNat)
  case atStart => exact ⟨0, Nat.zero_le _, rfl, rfl, B3⟩
  case round =>
    obtain ⟨j, hj, rfl, rfl, B⟩ := hrel
    obtain ⟨ha0, ha1⟩ := SZ.out j
    by_cases hlt : j < cs.length
    · have hc := List.getElem?_eq_getElem hlt
      generalize cs[j] = c at hc
      have E1 := Lib.hid (sumOf_take_succ (f := toC) hc)
      have hput := PUT.out j c hc
      obtain ⟨-, ha2⟩ := SZ.out (j + 1)
      rw [E1.out] at ha2
      have hraw := HRAW.out c (List.mem_of_getElem? hc)
      obtain ⟨b, o, rfl, hp⟩ := R.out j c hc
      obtain ⟨c0, c1, c2⟩ := hp.below B.out
      clear hc hp
      generalize sumOf toC (cs.take j) = A at *
      obtain ⟨k, n, t⟩ := c
      dsimp only at c0 c1 c2 hput
      rcases hraw with ⟨hk | hk, h1, h2, h3⟩ | ⟨hk, h1, h2⟩ <;> dsimp only at hk h1 h2 <;> subst hk
      · clear hput
        dsimp only at h3
        go_wp2
        go_roundw
        case rel => exact ⟨j + 1, by omega, by go_num, by rw [E1.out]; simp [toC, C.sz, h3], B⟩
        case measure => simp [intOf]; omega
      · clear hput
        go_wp2
        go_roundw
        case rel => exact ⟨j + 1, by omega, by go_num, by rw [E1.out]; simp [toC], B⟩
        case measure => simp [intOf]; omega
      · subst h1
        have hput' := hput rfl
        clear hput
        have ha3 : A + (t.size : Int) ≤ (X.size : Int) := by simpa [toC, C.sz] using ha2
        have hd : decide ((X.size : Int) - (t.size : Int) < A) = false := decide_eq_false (by omega)
        have hI0 : (0 : Int) ≤ (j : Int) := by omega
        have hI1 : (j : Int) < (cs.length : Int) := by omega
        clear ha2
        go_wp2_with fail
        go_quiet (fail)
        go_wp2
        go_roundw
        case rel => exact ⟨j + 1, by omega, by go_num, by rw [E1.out]; simp [toC, C.sz], Lib.hid (B.out.trans ((dr_below wr nq).mono B.out.size))⟩
        case measure => simp [intOf]; omega
    · have hjj : cs.take j = cs := List.take_of_length_le (by omega)
      rw [hjj, ← HSZ.out] at *
      clear hjj
      go_wp2
      go_ret
      exact ⟨rfl, B.out⟩

theorem alen_true (s : ByteArray) (p : Option Addr) (cs : List C) (cap : Nat) (w : World) (hr : RowC w p cs) :
    Calls Try.prog 6 #[.string s, .slice p cs.length cap] w fun e w' => e = .returned (.bool true) ∧ Below w.heap.size w w' := by
  by_cases h : MayP cs ∧ sumOf fromC cs = s.size
  · exact alen_yes s p cs cap w hr h.1 h.2
  · exact alen_not s p cs cap w hr h

end Go.Proofs.Ytpdcmeegbkhcfaa
