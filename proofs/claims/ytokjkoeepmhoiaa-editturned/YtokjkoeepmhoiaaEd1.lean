/-
  The walks of replace, Make and of the two tests that Between hands on. Conditions: as the theorems' premises say.
-/
import Derived.Test.YtokjkoeepmhoiaaEdM
import Derived.BigQuiet
namespace Go.Proofs.Ytokjkoeepmhoiaa
open Go.RowKit

/-- An edit, a list of the call's own, and no error. -/
def EdYes (out : List C) (w : World) (e : Ending) (w' : World) : Prop :=
  ∃ p cap, e = .returned (.tuple #[.slice p out.length cap, .int .i64 0]) ∧ Own w' w.heap.size (.slice p out.length cap) out ∧ Below w.heap.size w w'
def EdNo (n : Int) (w : World) (e : Ending) (w' : World) : Prop := e = .returned (.tuple #[.slice none 0 0, .int .i64 n]) ∧ Below w.heap.size w w'
theorem EdYes.from {out : List C} {w W : World} {e : Ending} {w' : World} (h : EdYes out W e w') (hb : Below w.heap.size w W) : EdYes out w e w' := by
  obtain ⟨p, cap, rfl, ho, hb2⟩ := h
  exact ⟨p, cap, rfl, ho.mono hb.size, hb.trans (hb2.mono hb.size)⟩

theorem normal_yesL (p : Option Addr) (cs out : List C) (n cap : Nat) (hn : cs.length = n) (w : World) (hr : RowC w p cs) (hok : okB cs = true) (ho : normOf cs = out) : Calls Try.prog 25 #[.slice p n cap] w (EdYes out w) := by
  subst hn; subst ho
  refine (normal_any p cs cap w hr).mono ?_
  rintro e w' ⟨hb, ⟨-, v, rfl, ho⟩ | ⟨hno, -⟩⟩
  · obtain ⟨pv, cv, rfl⟩ := ho.form
    exact ⟨pv, cv, rfl, ho, hb⟩
  · rw [hok] at hno; cases hno

set_option maxHeartbeats 1000000 in
theorem replace_any (a c b : Nat) (put : ByteArray) (h1 : a + c + b ≤ 4096) (h2 : a + put.size + b ≤ 4096) (w : World) :
    Calls Try.prog 19 #[.int .i64 a, .string put, .int .i64 c, .int .i64 b] w (EdYes (normOf (edL a put c b)) w) := by
  have OK := Lib.hid (ed_ok h1 h2)
  clear h1 h2
  go_enter Try.func19, Try.ntmps19
  go_wp2_with fail
  show Calls Try.prog 25 _ (w.alloc (.cells (cellsC (edL a put c b)).toArray 38)) _
  have F := Lib.hid (lit_row w (edL a put c b) _ rfl)
  have B0 := Lib.hid ((Below.refl w.heap.size w).alloc (Nat.le_refl _) (.cells (cellsC (edL a put c b)).toArray 38))
  generalize w.alloc (.cells (cellsC (edL a put c b)).toArray 38) = W at F B0 ⊢
  refine (normal_yesL _ (edL a put c b) (normOf (edL a put c b)) 4 _ rfl _ F.out OK.out rfl).mono ?_
  intro e w1 h
  obtain ⟨p1, c1, rfl, ho1, hb1⟩ := h.from B0.out
  have O1 := Lib.hid ho1; have B1 := Lib.hid hb1; clear ho1 hb1 h
  go_wp2_with fail
  go_ret2
  exact ⟨p1, c1, rfl, O1.out, B1.out⟩
theorem replace_L (a c b : Nat) (x : Int) (hx : x = (b : Int)) (put : ByteArray) (out : List C) (ho : normOf (edL a put c b) = out) (h1 : a + c + b ≤ 4096) (h2 : a + put.size + b ≤ 4096) (w : World) :
    Calls Try.prog 19 #[.int .i64 a, .string put, .int .i64 c, .int .i64 x] w (EdYes out w) := by
  subst hx; subst ho; exact replace_any a c b put h1 h2 w

/-- The first test: two bytes at one place from the front. -/
theorem front_any (s t : ByteArray) (bs bt i : Nat) (w : World) (cs : w.cell? ⟨bs, 0, none⟩ = some (.string s)) (ct : w.cell? ⟨bt, 0, none⟩ = some (.string t)) (h1 : i < s.size) (h2 : i < t.size) :
    Calls Try.prog 22 #[.int .i64 i, .pointer (some ⟨bs, 0, none⟩), .pointer (some ⟨bt, 0, none⟩)] w fun e w' => e = .returned (.bool (fwd s t i)) ∧ Below w.heap.size w w' := by
  have hq := fwd_is h1 h2
  go_enter Try.func22, Try.ntmps22
  go_wp2_with fail
  go_quiet (fail)
  go_wp2_with fail
  go_ret
  exact ⟨rfl, dr_below _ _⟩

/-- The second test: two bytes at one place from behind. -/
theorem back_any (s t : ByteArray) (bs bt i : Nat) (w : World) (cs : w.cell? ⟨bs, 0, none⟩ = some (.string s)) (ct : w.cell? ⟨bt, 0, none⟩ = some (.string t)) (hs : s.size ≤ 4096) (ht : t.size ≤ 4096) (h1 : i < s.size) (h2 : i < t.size) :
    Calls Try.prog 23 #[.int .i64 i, .pointer (some ⟨bs, 0, none⟩), .pointer (some ⟨bt, 0, none⟩)] w fun e w' => e = .returned (.bool (bwd s t i)) ∧ Below w.heap.size w w' := by
  obtain ⟨S1, hS1⟩ : ∃ S1 : Nat, S1 + 1 = s.size := ⟨s.size - 1, by omega⟩
  obtain ⟨T1, hT1⟩ : ∃ T1 : Nat, T1 + 1 = t.size := ⟨t.size - 1, by omega⟩
  obtain ⟨P1, hP1⟩ : ∃ P1 : Nat, P1 + i = S1 := ⟨S1 - i, by omega⟩
  obtain ⟨Q1, hQ1⟩ : ∃ Q1 : Nat, Q1 + i = T1 := ⟨T1 - i, by omega⟩
  have w3 : IntKind.i64.wrap ((s.size : Int) - 1) = (S1 : Int) := by rw [IntWalk.i64_in _ (by omega)]; omega
  have w4 : IntKind.i64.wrap ((S1 : Int) - (i : Int)) = (P1 : Int) := by rw [IntWalk.i64_in _ (by omega)]; omega
  have w5 : IntKind.i64.wrap ((t.size : Int) - 1) = (T1 : Int) := by rw [IntWalk.i64_in _ (by omega)]; omega
  have w6 : IntKind.i64.wrap ((T1 : Int) - (i : Int)) = (Q1 : Int) := by rw [IntWalk.i64_in _ (by omega)]; omega
  have b1 : P1 < s.size := by omega
  have b2 : Q1 < t.size := by omega
  have b3 : (0 : Int) ≤ (P1 : Int) := by omega
  have b4 : (P1 : Int) < (s.size : Int) := by omega
  have b5 : (0 : Int) ≤ (Q1 : Int) := by omega
  have b6 : (Q1 : Int) < (t.size : Int) := by omega
  have hq := bwd_is (show s.size - 1 - i = P1 by omega) (show t.size - 1 - i = Q1 by omega) b1 b2
  clear hS1 hT1 hP1 hQ1
  go_enter Try.func23, Try.ntmps23
  go_wp2_with fail
  go_quiet (fail)
  go_wp2_with fail
  go_ret
  exact ⟨rfl, dr_below _ _⟩

theorem Cnt.go {f : Nat → Bool} {n : Nat} (h : ∀ i, i < n → f i = true) (hf : f n = true) : ∀ i, i < n + 1 → f i = true := fun i hi => by
  by_cases h2 : i < n
  · exact h i h2
  · obtain rfl : i = n := by omega
    exact hf

set_option maxHeartbeats 1000000 in
theorem alike_front (s t : ByteArray) (bs bt most : Nat) (w : World) (cs : w.cell? ⟨bs, 0, none⟩ = some (.string s)) (ct : w.cell? ⟨bt, 0, none⟩ = some (.string t)) (hb : bs < w.heap.size) (hb2 : bt < w.heap.size) (h1 : most ≤ s.size) (h2 : most ≤ t.size) (hm : most ≤ 4096) :
    Calls Try.prog 21 #[.int .i64 most, .func (.func 22) #[] #[.pointer (some ⟨bs, 0, none⟩), .pointer (some ⟨bt, 0, none⟩)]] w fun e w' => e = .returned (.int .i64 (cnt (fwd s t) most : Nat)) ∧ Below w.heap.size w w' := by
  have CS := Lib.hid cs; have CT := Lib.hid ct
  clear cs ct
  go_enter Try.func21, Try.ntmps21
  go_wp2_with fail
  go_loopw [5] (fun v wr => ∃ n : Nat, v = .int .i64 n ∧ n ≤ most ∧ Hid (∀ i, i < n → fwd s t i = true) ∧ Hid (Below w.heap.size w wr)) (fun v _ => most - (intOf v).toNat)
  case atStart => exact ⟨0, rfl, by omega, Lib.hid (fun i h => by omega), Lib.hid (Below.refl _ _)⟩
  case round =>
    obtain ⟨n, rfl, hn, P, B⟩ := hrel
    by_cases hlt : n < most
    · have CALL : Hid (Calls Try.prog 22 #[.int .i64 n, .pointer (some ⟨bs, 0, none⟩), .pointer (some ⟨bt, 0, none⟩)] wr fun e w' => e = .returned (.bool (fwd s t n)) ∧ Below wr.heap.size wr w') := Lib.hid (front_any s t bs bt n wr (by rw [B.out.cell hb]; exact CS.out) (by rw [B.out.cell hb2]; exact CT.out) (by omega) (by omega))
      cases he : fwd s t n with
      | true =>
        rw [he] at CALL
        have P' := Lib.hid (Cnt.go P.out he)
        clear he P
        go_wp2_with (go_at_call 22; refine CALL.out.mono ?_; rintro e w1 ⟨rfl, hb1⟩; have B1 := Lib.hid (B.out.trans (hb1.mono B.out.size)); clear hb1)
        go_roundw
        case rel => exact ⟨n + 1, by go_num, by omega, P', B1⟩
        case measure => simp [intOf]; omega
      | false =>
        rw [he] at CALL
        have E := Lib.hid (cnt_eq (f := fwd s t) (m := most) ⟨hn, P.out, .inr he⟩)
        clear he
        go_wp2_with (go_at_call 22; refine CALL.out.mono ?_; rintro e w1 ⟨rfl, hb1⟩; have B1 := Lib.hid (B.out.trans (hb1.mono B.out.size)); clear hb1)
        go_ret
        exact ⟨by rw [← E.out]; rfl, B1.out⟩
    · have E := Lib.hid (cnt_eq (f := fwd s t) (m := most) ⟨hn, P.out, .inl (by omega)⟩)
      go_wp2_with fail
      go_ret
      exact ⟨by rw [← E.out]; rfl, B.out⟩

set_option maxHeartbeats 1000000 in
theorem alike_back (s t : ByteArray) (bs bt most : Nat) (w : World) (cs : w.cell? ⟨bs, 0, none⟩ = some (.string s)) (ct : w.cell? ⟨bt, 0, none⟩ = some (.string t)) (hb : bs < w.heap.size) (hb2 : bt < w.heap.size) (hs : s.size ≤ 4096) (ht : t.size ≤ 4096) (h1 : most ≤ s.size) (h2 : most ≤ t.size) (hm : most ≤ 4096) :
    Calls Try.prog 21 #[.int .i64 most, .func (.func 23) #[] #[.pointer (some ⟨bs, 0, none⟩), .pointer (some ⟨bt, 0, none⟩)]] w fun e w' => e = .returned (.int .i64 (cnt (bwd s t) most : Nat)) ∧ Below w.heap.size w w' := by
  have CS := Lib.hid cs; have CT := Lib.hid ct
  clear cs ct
  go_enter Try.func21, Try.ntmps21
  go_wp2_with fail
  go_loopw [5] (fun v wr => ∃ n : Nat, v = .int .i64 n ∧ n ≤ most ∧ Hid (∀ i, i < n → bwd s t i = true) ∧ Hid (Below w.heap.size w wr)) (fun v _ => most - (intOf v).toNat)
  case atStart => exact ⟨0, rfl, by omega, Lib.hid (fun i h => by omega), Lib.hid (Below.refl _ _)⟩
  case round =>
    obtain ⟨n, rfl, hn, P, B⟩ := hrel
    by_cases hlt : n < most
    · have CALL : Hid (Calls Try.prog 23 #[.int .i64 n, .pointer (some ⟨bs, 0, none⟩), .pointer (some ⟨bt, 0, none⟩)] wr fun e w' => e = .returned (.bool (bwd s t n)) ∧ Below wr.heap.size wr w') := Lib.hid (back_any s t bs bt n wr (by rw [B.out.cell hb]; exact CS.out) (by rw [B.out.cell hb2]; exact CT.out) hs ht (by omega) (by omega))
      cases he : bwd s t n with
      | true =>
        rw [he] at CALL
        have P' := Lib.hid (Cnt.go P.out he)
        clear he P
        go_wp2_with (go_at_call 23; refine CALL.out.mono ?_; rintro e w1 ⟨rfl, hb1⟩; have B1 := Lib.hid (B.out.trans (hb1.mono B.out.size)); clear hb1)
        go_roundw
        case rel => exact ⟨n + 1, by go_num, by omega, P', B1⟩
        case measure => simp [intOf]; omega
      | false =>
        rw [he] at CALL
        have E := Lib.hid (cnt_eq (f := bwd s t) (m := most) ⟨hn, P.out, .inr he⟩)
        clear he
        go_wp2_with (go_at_call 23; refine CALL.out.mono ?_; rintro e w1 ⟨rfl, hb1⟩; have B1 := Lib.hid (B.out.trans (hb1.mono B.out.size)); clear hb1)
        go_ret
        exact ⟨by rw [← E.out]; rfl, B1.out⟩
    · have E := Lib.hid (cnt_eq (f := bwd s t) (m := most) ⟨hn, P.out, .inl (by omega)⟩)
      go_wp2_with fail
      go_ret
      exact ⟨by rw [← E.out]; rfl, B.out⟩

end Go.Proofs.Ytokjkoeepmhoiaa
