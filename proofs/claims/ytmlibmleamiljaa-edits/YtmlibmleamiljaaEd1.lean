/-
  The walks of replace, Make and of ends.Alike with the test that Between hands on. Conditions: as the theorems' premises say.
-/
import Derived.Test.YtmlibmleamiljaaEdM
import Derived.BigQuiet
namespace Go.Proofs.Ytmlibmleamiljaa
open Go.RowKit

/-- An edit, a list of the call's own, and no error. -/
def EdYes (out : List C) (w : World) (e : Ending) (w' : World) : Prop :=
  ∃ p cap, e = .returned (.tuple #[.slice p out.length cap, .int .i64 0]) ∧ Own w' w.heap.size (.slice p out.length cap) out ∧ Below w.heap.size w w'
def EdNo (n : Int) (w : World) (e : Ending) (w' : World) : Prop := e = .returned (.tuple #[.slice none 0 0, .int .i64 n]) ∧ Below w.heap.size w w'
theorem EdYes.from {out : List C} {w W : World} {e : Ending} {w' : World} (h : EdYes out W e w') (hb : Below w.heap.size w W) : EdYes out w e w' := by
  obtain ⟨p, cap, rfl, ho, hb2⟩ := h
  exact ⟨p, cap, rfl, ho.mono hb.size, hb.trans (hb2.mono hb.size)⟩

theorem normal_yesL (p : Option Addr) (cs out : List C) (n cap : Nat) (hn : cs.length = n) (w : World) (hr : RowC w p cs) (hok : okB cs = true) (ho : normOf cs = out) : Calls Try.prog 24 #[.slice p n cap] w (EdYes out w) := by
  subst hn; subst ho
  refine (normal_any p cs cap w hr).mono ?_
  rintro e w' ⟨hb, ⟨-, v, rfl, ho⟩ | ⟨hno, -⟩⟩
  · obtain ⟨pv, cv, rfl⟩ := ho.form
    exact ⟨pv, cv, rfl, ho, hb⟩
  · rw [hok] at hno; cases hno

set_option maxHeartbeats 1000000 in
theorem replace_any (a c b : Nat) (put : ByteArray) (h1 : a + c + b ≤ 4096) (h2 : a + put.size + b ≤ 4096) (w : World) :
    Calls Try.prog 19 #[.int .i64 a, .string put, .int .i64 c, .int .i64 b] w (EdYes (normOf (edL a put c b)) w) := by
  have OK := Lib.hid (ed_ok h1 h2)
  clear h1 h2
  go_enter Try.func19, Try.ntmps19
  go_wp2_with fail
  show Calls Try.prog 24 _ (w.alloc (.cells (cellsC (edL a put c b)).toArray 38)) _
  have F := Lib.hid (lit_row w (edL a put c b) _ rfl)
  have B0 := Lib.hid ((Below.refl w.heap.size w).alloc (Nat.le_refl _) (.cells (cellsC (edL a put c b)).toArray 38))
  generalize w.alloc (.cells (cellsC (edL a put c b)).toArray 38) = W at F B0 ⊢
  refine (normal_yesL _ (edL a put c b) (normOf (edL a put c b)) 4 _ rfl _ F.out OK.out rfl).mono ?_
  intro e w1 h
  obtain ⟨p1, c1, rfl, ho1, hb1⟩ := h.from B0.out
  have O1 := Lib.hid ho1; have B1 := Lib.hid hb1; clear ho1 hb1 h
  go_wp2_with fail
  go_ret2
  exact ⟨p1, c1, rfl, O1.out, B1.out⟩
theorem replace_L (a c b : Nat) (x : Int) (hx : x = (b : Int)) (put : ByteArray) (out : List C) (ho : normOf (edL a put c b) = out) (h1 : a + c + b ≤ 4096) (h2 : a + put.size + b ≤ 4096) (w : World) :
    Calls Try.prog 19 #[.int .i64 a, .string put, .int .i64 c, .int .i64 x] w (EdYes out w) := by
  subst hx; subst ho; exact replace_any a c b put h1 h2 w

/-- Are two bytes alike? -/
def twoB (s t : ByteArray) (i j : Nat) : Bool := s.data.toList[i]? == t.data.toList[j]?
theorem twoB_is {s t : ByteArray} {i j : Nat} (h1 : i < s.size) (h2 : j < t.size) : ((s[i].toNat : Int) == (t[j].toNat : Int)) = twoB s t i j := by
  unfold twoB
  rw [byte_at s i h1, byte_at t j h2]
  rw [Bool.eq_iff_iff, beq_iff_eq, beq_iff_eq]
  exact ⟨fun h => by rw [UInt8.toNat_inj.1 (Int.ofNat.inj h)], fun h => by rw [Option.some.inj h]⟩
/-- The test: two bytes, each at its place. -/
theorem pair_any (s t : ByteArray) (bs bt i j : Nat) (w : World) (cs : w.cell? ⟨bs, 0, none⟩ = some (.string s)) (ct : w.cell? ⟨bt, 0, none⟩ = some (.string t)) (h1 : i < s.size) (h2 : j < t.size) :
    Calls Try.prog 22 #[.int .i64 i, .int .i64 j, .pointer (some ⟨bs, 0, none⟩), .pointer (some ⟨bt, 0, none⟩)] w fun e w' => e = .returned (.bool (twoB s t i j)) ∧ Below w.heap.size w w' := by
  have hq := twoB_is h1 h2
  go_enter Try.func22, Try.ntmps22
  go_wp2_with fail
  go_quiet (fail)
  go_wp2_with fail
  go_ret
  exact ⟨rfl, dr_below _ _⟩
theorem pair_L (s t : ByteArray) (bs bt i j : Nat) (x y : Int) (hx : x = (i : Int)) (hy : y = (j : Int)) (b : Bool) (hb : twoB s t i j = b) (w : World) (cs : w.cell? ⟨bs, 0, none⟩ = some (.string s)) (ct : w.cell? ⟨bt, 0, none⟩ = some (.string t)) (h1 : i < s.size) (h2 : j < t.size) :
    Calls Try.prog 22 #[.int .i64 x, .int .i64 y, .pointer (some ⟨bs, 0, none⟩), .pointer (some ⟨bt, 0, none⟩)] w fun e w' => e = .returned (.bool b) ∧ Below w.heap.size w w' := by
  subst hx; subst hy; subst hb; exact pair_any s t bs bt i j w cs ct h1 h2

theorem Cnt.go {f : Nat → Bool} {n : Nat} (h : ∀ i, i < n → f i = true) (hf : f n = true) : ∀ i, i < n + 1 → f i = true := fun i hi => by
  by_cases h2 : i < n
  · exact h i h2
  · obtain rfl : i = n := by omega
    exact hf

def AlPost (s t : ByteArray) (M : Nat) (w : World) (e : Ending) (w' : World) : Prop :=
  ∃ i j : Nat, e = .returned (.tuple #[.int .i64 i, .int .i64 j]) ∧ i = cnt (fwd s t) M ∧ j = cnt (bwd s t) (M - i) ∧ Below w.heap.size w w'
set_option maxHeartbeats 4000000 in
theorem alike_any (s t : ByteArray) (bs bt M : Nat) (w : World) (cs : w.cell? ⟨bs, 0, none⟩ = some (.string s)) (ct : w.cell? ⟨bt, 0, none⟩ = some (.string t)) (hb : bs < w.heap.size) (hb2 : bt < w.heap.size) (hs : s.size ≤ 4096) (ht : t.size ≤ 4096) (hM : min s.size t.size = M) :
    Calls Try.prog 21 #[.int .i64 s.size, .int .i64 t.size, .func (.func 22) #[] #[.pointer (some ⟨bs, 0, none⟩), .pointer (some ⟨bt, 0, none⟩)]] w (AlPost s t M w) := by
  have hmin : min (s.size : Int) (t.size : Int) = (M : Int) := by omega
  have h1 : M ≤ s.size := by omega
  have h2 : M ≤ t.size := by omega
  have CS := Lib.hid cs; have CT := Lib.hid ct
  clear cs ct hM
  go_enter Try.func21, Try.ntmps21
  go_wp2_with fail
  go_loopw [9] (fun v wr => ∃ n : Nat, v = .int .i64 n ∧ n ≤ M ∧ Hid (∀ i, i < n → fwd s t i = true) ∧ Hid (Below w.heap.size w wr)) (fun v _ => M - (intOf v).toNat)
  case atStart => exact ⟨0, rfl, by omega, Lib.hid (fun i h => by omega), Lib.hid (Below.refl _ _)⟩
  case round =>
    obtain ⟨n, rfl, hn, P, B⟩ := hrel
    by_cases hlt : n < M
    · have D1 : Hid (wr.cell? ⟨bs, 0, none⟩ = some (.string s)) := Lib.hid (by rw [B.out.cell hb]; exact CS.out)
      have D2 : Hid (wr.cell? ⟨bt, 0, none⟩ = some (.string t)) := Lib.hid (by rw [B.out.cell hb2]; exact CT.out)
      cases he : fwd s t n with
      | true =>
        have P' := Lib.hid (Cnt.go P.out he)
        have HE := Lib.hid he
        clear he P
        go_wp2_with (go_at_call 22; refine (pair_L s t bs bt n n _ _ rfl rfl true HE.out _ D1.out D2.out (by omega) (by omega)).mono ?_; rintro e w1 ⟨rfl, hb1⟩; have B1 := Lib.hid (B.out.trans (hb1.mono B.out.size)); clear hb1)
        go_roundw
        case rel => exact ⟨n + 1, by go_num, by omega, P', B1⟩
        case measure => simp [intOf]; omega
      | false =>
        have E := Lib.hid (cnt_eq (f := fwd s t) (m := M) ⟨hn, P.out, .inr he⟩)
        have HE := Lib.hid he
        clear he
        go_wp2_with (go_at_call 22; refine (pair_L s t bs bt n n _ _ rfl rfl false HE.out _ D1.out D2.out (by omega) (by omega)).mono ?_; rintro e w1 ⟨rfl, hb1⟩; have BX := Lib.hid (B.out.trans (hb1.mono B.out.size)); clear hb1)
        clear D1 D2 B P HE
        go_wp2_with fail
        go_loopw [10] (fun v wr => ∃ k : Nat, v = .int .i64 k ∧ k ≤ M - n ∧ Hid (∀ i, i < k → bwd s t i = true) ∧ Hid (Below w.heap.size w wr)) (fun v _ => M - (intOf v).toNat)
        case atStart => exact ⟨0, rfl, by omega, Lib.hid (fun i h => by omega), BX⟩
        case round =>
          obtain ⟨k, rfl, hk, P2, B2⟩ := hrel
          by_cases hlt2 : k < M - n
          · have D1 : Hid (wr.cell? ⟨bs, 0, none⟩ = some (.string s)) := Lib.hid (by rw [B2.out.cell hb]; exact CS.out)
            have D2 : Hid (wr.cell? ⟨bt, 0, none⟩ = some (.string t)) := Lib.hid (by rw [B2.out.cell hb2]; exact CT.out)
            cases he2 : bwd s t k with
            | true =>
              have P2' := Lib.hid (Cnt.go P2.out he2)
              have HE := Lib.hid he2
              clear he2 P2
              go_wp2_with (go_at_call 22; refine (pair_L s t bs bt (s.size - 1 - k) (t.size - 1 - k) _ _ (by omega) (by omega) true HE.out _ D1.out D2.out (by omega) (by omega)).mono ?_; rintro e w1 ⟨rfl, hb1⟩; have B3 := Lib.hid (B2.out.trans (hb1.mono B2.out.size)); clear hb1)
              go_roundw
              case rel => exact ⟨k + 1, by go_num, by omega, P2', B3⟩
              case measure => simp [intOf]; omega
            | false =>
              have E2 := Lib.hid (cnt_eq (f := bwd s t) (m := M - n) ⟨hk, P2.out, .inr he2⟩)
              have HE := Lib.hid he2
              clear he2
              go_wp2_with (go_at_call 22; refine (pair_L s t bs bt (s.size - 1 - k) (t.size - 1 - k) _ _ (by omega) (by omega) false HE.out _ D1.out D2.out (by omega) (by omega)).mono ?_; rintro e w1 ⟨rfl, hb1⟩; have B3 := Lib.hid (B2.out.trans (hb1.mono B2.out.size)); clear hb1)
              go_ret2
              exact ⟨n, k, rfl, E.out, E2.out, B3.out⟩
          · have E2 := Lib.hid (cnt_eq (f := bwd s t) (m := M - n) ⟨hk, P2.out, .inl (by omega)⟩)
            go_wp2_with fail
            go_ret2
            exact ⟨n, k, rfl, E.out, E2.out, B2.out⟩
    · have E := Lib.hid (cnt_eq (f := fwd s t) (m := M) ⟨hn, P.out, .inl (by omega)⟩)
      have BX := B
      clear B P
      go_wp2_with fail
      go_loopw [10] (fun v wr => ∃ k : Nat, v = .int .i64 k ∧ k ≤ M - n ∧ Hid (∀ i, i < k → bwd s t i = true) ∧ Hid (Below w.heap.size w wr)) (fun v _ => M - (intOf v).toNat)
      case atStart => exact ⟨0, rfl, by omega, Lib.hid (fun i h => by omega), BX⟩
      case round =>
        obtain ⟨k, rfl, hk, P2, B2⟩ := hrel
        by_cases hlt2 : k < M - n
        · exact absurd hlt2 (by omega)
        · have E2 := Lib.hid (cnt_eq (f := bwd s t) (m := M - n) ⟨hk, P2.out, .inl (by omega)⟩)
          go_wp2_with fail
          go_ret2
          exact ⟨n, k, rfl, E.out, E2.out, B2.out⟩

end Go.Proofs.Ytmlibmleamiljaa
