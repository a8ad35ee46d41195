/-
  The walks of Between and Make. Conditions: as the theorems' premises say.
-/
import Derived.Test.YtmlibmleamiljaaEd1
import Derived.Deep.RegionHeld3
namespace Go.Proofs.Ytmlibmleamiljaa
open Go.RowKit

theorem alike_L (s t : ByteArray) (bs bt M i j : Nat) (hi : cnt (fwd s t) M = i) (hj : cnt (bwd s t) (M - i) = j) (w : World) (cs : w.cell? ⟨bs, 0, none⟩ = some (.string s)) (ct : w.cell? ⟨bt, 0, none⟩ = some (.string t)) (hb : bs < w.heap.size) (hb2 : bt < w.heap.size) (hs : s.size ≤ 4096) (ht : t.size ≤ 4096) (hM : min s.size t.size = M) :
    Calls Try.prog 21 #[.int .i64 s.size, .int .i64 t.size, .func (.func 22) #[] #[.pointer (some ⟨bs, 0, none⟩), .pointer (some ⟨bt, 0, none⟩)]] w fun e w' => e = .returned (.tuple #[.int .i64 i, .int .i64 j]) ∧ Below w.heap.size w w' := by
  refine (alike_any s t bs bt M w cs ct hb hb2 hs ht hM).mono ?_
  rintro e w' ⟨i2, j2, rfl, e1, e2, hb3⟩
  obtain rfl : i2 = i := e1.trans hi
  obtain rfl : j2 = j := e2.trans hj
  exact ⟨rfl, hb3⟩

set_option maxHeartbeats 2000000 in
theorem between_yes (s t : ByteArray) (w : World) (hs : s.size ≤ 4096) (ht : t.size ≤ 4096) : Calls Try.prog 10 #[.string s, .string t] w (EdYes (btw s t) w) := by
  have hmf : ∀ (fn : Fn) (first cap : Array Value) (w : World), (Instr.makeFunc fn first cap).run Try.prog w = .ok (.func fn first cap) w := fun _ _ _ _ => rfl
  obtain ⟨g1, g2⟩ := alike_le s t
  obtain ⟨M, hM⟩ : ∃ M : Nat, min s.size t.size = M := ⟨_, rfl⟩
  obtain ⟨i, hi⟩ : ∃ i : Nat, ahd s t = i := ⟨_, rfl⟩
  obtain ⟨j, hj⟩ : ∃ j : Nat, bhd s t = j := ⟨_, rfl⟩
  obtain ⟨out, hout⟩ : ∃ out, btw s t = out := ⟨_, rfl⟩
  have hiM : i ≤ M := by rw [← hi, ← hM]; exact (cnt_is (fwd s t) (min s.size t.size)).1
  have CI : Hid (cnt (fwd s t) M = i) := Lib.hid (by rw [← hM]; exact hi)
  have CJ : Hid (cnt (bwd s t) (M - i) = j) := Lib.hid (by rw [← hM, ← hi]; exact hj)
  have HM := Lib.hid hM
  have OUT : Hid (normOf (btL s t i j) = out) := Lib.hid (by rw [← hi, ← hj]; exact hout)
  rw [hi, hj] at g1 g2
  rw [hout]
  clear hM hi hj hout
  have A0 := Lib.hid (((Below.refl w.heap.size w).alloc (Nat.le_refl _) (.cells #[.string s] 9)).alloc (by simp) (.cells #[.string t] 9))
  have c1 : ((w.alloc (.cells #[.string s] 9)).alloc (.cells #[.string t] 9)).cell? ⟨w.heap.size, 0, none⟩ = some (.string s) := by
    rw [World.cell?_alloc_past _ _ _ (by simp), World.cell?_alloc_at _ _ _ _ rfl]; rfl
  have c2 : ((w.alloc (.cells #[.string s] 9)).alloc (.cells #[.string t] 9)).cell? ⟨w.heap.size + 1, 0, none⟩ = some (.string t) := by
    rw [World.cell?_alloc_at _ _ _ _ (by simp)]; rfl
  go_enter Try.func10, Try.ntmps10
  go_wp2_with fail
  refine (alike_L s t w.heap.size (w.heap.size + 1) M i j CI.out CJ.out _ c1 c2 (by simp; omega) (by simp) hs ht HM.out).mono ?_
  rintro e w2 ⟨rfl, hb1⟩
  have e1 := (hb1.cell (p := ⟨w.heap.size, 0, none⟩) (by simp; omega)).trans c1
  have e2 := (hb1.cell (p := ⟨w.heap.size + 1, 0, none⟩) (by simp)).trans c2
  have l2 : w.heap.size + 1 < w2.heap.size := Nat.lt_of_lt_of_le (by simp) hb1.size
  have B2 := Lib.hid (A0.out.trans (hb1.mono A0.out.size))
  clear hb1 c1 c2 A0
  obtain ⟨T, hT⟩ : ∃ T : Nat, T + j = t.size := ⟨t.size - j, by omega⟩
  obtain ⟨A, hA⟩ : ∃ A : Nat, A + i = s.size := ⟨s.size - i, by omega⟩
  obtain ⟨D, hD⟩ : ∃ D : Nat, D + j = A := ⟨A - j, by omega⟩
  have w1' : IntKind.i64.wrap ((t.size : Int) - (j : Int)) = (T : Int) := by rw [IntWalk.i64_in _ (by omega)]; omega
  have w2' : IntKind.i64.wrap ((s.size : Int) - (i : Int)) = (A : Int) := by rw [IntWalk.i64_in _ (by omega)]; omega
  have w3' : IntKind.i64.wrap ((A : Int) - (j : Int)) = (D : Int) := by rw [IntWalk.i64_in _ (by omega)]; omega
  have b1 : i ≤ T := by omega
  have b2 : T ≤ t.size := by omega
  have b3 : (i : Int) ≤ (T : Int) := by omega
  have b4 : (T : Int) ≤ (t.size : Int) := by omega
  have CALL : Hid (∀ W, Below w2.heap.size w2 W → Calls Try.prog 19 #[.int .i64 i, .string (t.extract i T), .int .i64 D, .int .i64 j] W fun e w5 => ∃ p cap, e = .returned (.tuple #[.slice p out.length cap, .int .i64 0]) ∧ Hid (Own w5 w.heap.size (.slice p out.length cap) out) ∧ Hid (Below w.heap.size w w5) ∧ w5.cell? ⟨w.heap.size, 0, none⟩ = some (.string s) ∧ w5.cell? ⟨w.heap.size + 1, 0, none⟩ = some (.string t)) := Lib.hid (fun W hW => by
    have hb := B2.out.trans (hW.mono B2.out.size)
    have k1 := (hW.cell (p := ⟨w.heap.size, 0, none⟩) (by dsimp only; omega)).trans e1
    have k2 := (hW.cell (p := ⟨w.heap.size + 1, 0, none⟩) (by dsimp only; omega)).trans e2
    have hl := hW.size
    have hp := bt_put (t := t) (i := i) (j := j) g2
    have e3 : t.size - j = T := by omega
    have e4 : s.size - i - j = D := by omega
    have ho := OUT.out
    unfold btL at ho
    rw [e3, e4] at ho
    rw [e3] at hp
    refine (replace_L i D j _ rfl (t.extract i T) out ho (by omega) (by omega) W).mono ?_
    rintro e w5 ⟨p, cap, rfl, ho5, hb5⟩
    exact ⟨p, cap, rfl, Lib.hid (ho5.mono hb.size), Lib.hid (hb.trans (hb5.mono hb.size)), (hb5.cell (by dsimp only; omega)).trans k1, (hb5.cell (by dsimp only; omega)).trans k2⟩)
  clear hT hA hD OUT CI CJ HM
  go_wp2_with fail
  go_region_held3 (fun W => W.cell? ⟨w.heap.size, 0, none⟩ = some (.string s) ∧ W.cell? ⟨w.heap.size + 1, 0, none⟩ = some (.string t)) (first | go_keep | exact ⟨k0, k1⟩ | fail)
    (first | (go_at_call 19; refine (CALL.out _ (Below.refl w2.heap.size w2).drew).mono ?_; rintro e w5 ⟨p5, cap5, rfl, O5, B5, k0, k1⟩) | fail)
  go_wp2_with fail
  go_ret2
  exact ⟨p5, cap5, rfl, O5.out, B5.out⟩

set_option maxHeartbeats 1000000 in
theorem between_no (s t : ByteArray) (w : World) (h : 4096 < s.size ∨ 4096 < t.size) : Calls Try.prog 10 #[.string s, .string t] w (EdNo 800 w) := by
  have A0 := Lib.hid (((Below.refl w.heap.size w).alloc (Nat.le_refl _) (.cells #[.string s] 9)).alloc (by simp) (.cells #[.string t] 9))
  by_cases h1 : 4096 < s.size
  · clear h
    go_enter Try.func10, Try.ntmps10
    go_wp2_with fail
    go_ret2
    exact ⟨rfl, A0.out⟩
  · have h2 : 4096 < t.size := by omega
    clear h
    go_enter Try.func10, Try.ntmps10
    go_wp2_with fail
    go_ret2
    exact ⟨rfl, A0.out⟩

/-- Wrong places; too long. -/
def FormBad (s : ByteArray) (at_ cut : Int) : Prop := 4096 < s.size ∨ at_ < 0 ∨ (s.size : Int) < at_ ∨ cut < 0 ∨ (s.size : Int) - at_ < cut
def LongBad (s put : ByteArray) (cut : Int) : Prop := 300 < put.size ∨ 300 < (s.size : Int) - cut + put.size
theorem good_form {s : ByteArray} {at_ cut : Int} (h : ¬ FormBad s at_ cut) : ∃ a c b : Nat, at_ = a ∧ cut = c ∧ a + c + b = s.size ∧ s.size ≤ 4096 := by
  unfold FormBad at h
  obtain ⟨a, rfl⟩ := Int.eq_ofNat_of_zero_le (a := at_) (by omega)
  obtain ⟨c, rfl⟩ := Int.eq_ofNat_of_zero_le (a := cut) (by omega)
  exact ⟨a, c, s.size - a - c, rfl, rfl, by omega, by omega⟩

set_option maxHeartbeats 1000000 in
theorem make_form (s put : ByteArray) (at_ cut : Int) (w : World) (h : FormBad s at_ cut) : Calls Try.prog 8 #[.string s, .int .i64 at_, .int .i64 cut, .string put] w (EdNo 800 w) := by
  unfold FormBad at h
  by_cases h1 : 4096 < s.size
  · clear h
    go_enter Try.func8, Try.ntmps8
    go_wp2_with fail
    go_ret2
    exact ⟨rfl, Below.refl _ _⟩
  · by_cases h2 : at_ < 0
    · clear h
      go_enter Try.func8, Try.ntmps8
      go_wp2_with fail
      go_ret2
      exact ⟨rfl, Below.refl _ _⟩
    · by_cases h3 : (s.size : Int) < at_
      · clear h
        go_enter Try.func8, Try.ntmps8
        go_wp2_with fail
        go_ret2
        exact ⟨rfl, Below.refl _ _⟩
      · by_cases h4 : cut < 0
        · clear h
          go_enter Try.func8, Try.ntmps8
          go_wp2_with fail
          go_ret2
          exact ⟨rfl, Below.refl _ _⟩
        · have h5 : (s.size : Int) - at_ < cut := by omega
          clear h
          go_enter Try.func8, Try.ntmps8
          go_wp2_with fail
          go_ret2
          exact ⟨rfl, Below.refl _ _⟩

set_option maxHeartbeats 1000000 in
theorem make_long (s put : ByteArray) (a c b : Nat) (w : World) (hs : a + c + b = s.size) (hm : s.size ≤ 4096) (h : LongBad s put c) : Calls Try.prog 8 #[.string s, .int .i64 a, .int .i64 c, .string put] w (EdNo 801 w) := by
  unfold LongBad at h
  have h6 : (a : Int) ≤ (s.size : Int) := by omega
  have h7 : (c : Int) ≤ (s.size : Int) - (a : Int) := by omega
  have h8 : (c : Int) ≤ (s.size : Int) := by omega
  clear hs
  by_cases h1 : 300 < put.size
  · clear h
    go_enter Try.func8, Try.ntmps8
    go_wp2_with fail
    go_ret2
    exact ⟨rfl, Below.refl _ _⟩
  · have h2 : 300 < (s.size : Int) - c + put.size := by omega
    clear h
    go_enter Try.func8, Try.ntmps8
    go_wp2_with fail
    go_ret2
    exact ⟨rfl, Below.refl _ _⟩

set_option maxHeartbeats 1000000 in
theorem make_yes (s put : ByteArray) (a c b : Nat) (w : World) (hs : a + c + b = s.size) (hm : s.size ≤ 4096) (hp : put.size ≤ 300) (hl : s.size + put.size ≤ 300 + c) : Calls Try.prog 8 #[.string s, .int .i64 a, .int .i64 c, .string put] w (EdYes (normOf (edL a put c b)) w) := by
  have h6 : (a : Int) ≤ (s.size : Int) := by omega
  have h7 : (c : Int) ≤ (s.size : Int) - (a : Int) := by omega
  have h8 : (c : Int) ≤ (s.size : Int) := by omega
  have h9 : (s.size : Int) - (c : Int) + (put.size : Int) ≤ 300 := by omega
  have HS := Lib.hid hs
  clear hs hl
  go_enter Try.func8, Try.ntmps8
  go_wp2_with fail
  refine (replace_L a c b _ (by have := HS.out; omega) put _ rfl (by have := HS.out; omega) (by have := HS.out; omega) _).mono ?_
  rintro e w1 ⟨p1, c1, rfl, ho1, hb1⟩
  have O1 := Lib.hid ho1; have B1 := Lib.hid hb1; clear ho1 hb1
  go_wp2_with fail
  go_ret2
  exact ⟨p1, c1, rfl, O1.out, B1.out⟩

end Go.Proofs.Ytmlibmleamiljaa
