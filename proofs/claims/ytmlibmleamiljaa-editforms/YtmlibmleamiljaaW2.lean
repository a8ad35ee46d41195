/-
  Rows of pieces in memory; the walk of measure. Conditions: as each theorem's premises say.
-/
import Derived.Test.YtmlibmleamiljaaW1
namespace Go.Proofs.Ytmlibmleamiljaa
open Go.RowKit

theorem add_plain (b o i : Nat) : (⟨b, o, none⟩ : Addr).add i = ⟨b, o + i, none⟩ := by unfold Addr.add; split <;> simp_all

/-- One piece lies at an address. -/
def PieceAt (w : World) (b o : Nat) (c : C) : Prop :=
  w.cell? ⟨b, o, none⟩ = some (.int .i64 c.k) ∧ w.cell? ⟨b, o + 1, none⟩ = some (.int .i64 c.n) ∧ w.cell? ⟨b, o + 2, none⟩ = some (.string c.t)

/-- The pieces of a slice, as they lie in memory. -/
def RowC (w : World) (p : Option Addr) (cs : List C) : Prop :=
  ∀ (i : Nat) c, cs[i]? = some c → ∃ b o, p = some ⟨b, o, none⟩ ∧ PieceAt w b (o + i * 3) c

theorem PieceAt.below {w w' : World} {b o : Nat} {c : C} (h : PieceAt w b o c) (hb : Below w.heap.size w w') : PieceAt w' b o c :=
  ⟨cell_later hb h.1, cell_later hb h.2.1, cell_later hb h.2.2⟩
theorem RowC.below {w w' : World} {p : Option Addr} {cs : List C} (h : RowC w p cs) (hb : Below w.heap.size w w') : RowC w' p cs := fun i c hi => by
  obtain ⟨b, o, hp, hc⟩ := h i c hi
  exact ⟨b, o, hp, hc.below hb⟩

theorem new_piece (w : World) (k n : Int) (t : ByteArray) : PieceAt (w.alloc (.cells #[.int .i64 k, .int .i64 n, .string t] 38)) w.heap.size 0 ⟨k, n, t⟩ := by
  refine ⟨?_, ?_, ?_⟩ <;> (rw [World.cell?_alloc_mark]; rfl)

theorem sum_bounds {f : C → Int} (hf : ∀ c : C, c.Raw → 0 ≤ f c ∧ f c ≤ 4096) (cs : List C) : (∀ c ∈ cs, c.Raw) → 0 ≤ sumOf f cs ∧ sumOf f cs ≤ 4096 * cs.length := by
  induction cs with
  | nil => intro _; simp [sumOf]
  | cons c cs ih =>
    intro h
    have h1 := hf c (h c (by simp))
    have h2 := ih fun x hx => h x (by simp [hx])
    simp only [sumOf, List.length_cons]
    omega
theorem from_bounds (c : C) (h : c.Raw) : 0 ≤ fromC c ∧ fromC c ≤ 4096 := by unfold C.Raw at h; unfold fromC; split <;> omega
theorem to_bounds (c : C) (h : c.Raw) : 0 ≤ toC c ∧ toC c ≤ 4096 := by unfold C.Raw at h; unfold toC C.sz; split <;> omega
theorem raw_step {cs : List C} {j : Nat} {c : C} (h : ∀ x ∈ cs.take j, x.Raw) (hc : cs[j]? = some c) (hr : c.Raw) : ∀ x ∈ cs.take (j + 1), x.Raw := by
  intro x hx
  rw [List.take_add_one, hc] at hx
  rcases List.mem_append.1 hx with hx | hx
  · exact h x hx
  · simp at hx; subst hx; exact hr

def MeasPost (cs : List C) (w : World) (e : Ending) (w' : World) : Prop :=
  e = .returned (if okB cs then .tuple #[.int .i64 (sumOf fromC cs), .int .i64 (sumOf toC cs), .bool true] else .tuple #[.int .i64 0, .int .i64 0, .bool false]) ∧ Below w.heap.size w w'

set_option maxHeartbeats 400000 in
theorem measure_long (p : Option Addr) (cs : List C) (cap : Nat) (w : World) (hl : 4096 < cs.length) : Calls Try.prog 27 #[.slice p cs.length cap] w (MeasPost cs w) := by
  have h0 : okB cs = false := by simp [okB]; omega
  go_enter Try.func27, Try.ntmps27
  go_wp2
  go_ret3
  exact ⟨by rw [h0]; rfl, Below.refl _ _⟩

set_option maxHeartbeats 2000000 in
theorem measure_short (p : Option Addr) (cs : List C) (cap : Nat) (w : World) (hr : RowC w p cs) (hl : cs.length ≤ 4096) : Calls Try.prog 27 #[.slice p cs.length cap] w (MeasPost cs w) := by
  have R := Lib.hid hr; clear hr
  go_enter Try.func27, Try.ntmps27
  go_wp2
  go_loopw [5, 6, 14] (fun f t i wr => ∃ j : Nat, j ≤ cs.length ∧ i = .int .i64 j ∧ f = .int .i64 (sumOf fromC (cs.take j)) ∧ t = .int .i64 (sumOf toC (cs.take j)) ∧ Hid (∀ c ∈ cs.take j, c.Raw) ∧ Hid (Below w.heap.size w wr)) (fun _ _ i _ => cs.length - (intOf i).toNat)
  case atStart => exact ⟨0, Nat.zero_le _, rfl, rfl, rfl, Lib.hid (by simp), Lib.hid (Below.refl _ _)⟩
  case round =>
    obtain ⟨j, hj, rfl, rfl, rfl, HR, B⟩ := hrel
    have hf1 := sum_bounds from_bounds _ HR.out
    have ht1 := sum_bounds to_bounds _ HR.out
    rw [List.length_take] at hf1 ht1
    have hf0 : 0 ≤ sumOf fromC (cs.take j) := hf1.1
    have hf2 : sumOf fromC (cs.take j) ≤ 16777216 := by omega
    have ht0 : 0 ≤ sumOf toC (cs.take j) := ht1.1
    have ht2 : sumOf toC (cs.take j) ≤ 16777216 := by omega
    clear hf1 ht1
    by_cases hlt : j < cs.length
    · have hc := List.getElem?_eq_getElem hlt
      generalize cs[j] = c at hc
      have e1 := sumOf_take_succ (f := fromC) hc
      have e2 := sumOf_take_succ (f := toC) hc
      obtain ⟨b, o, rfl, hp⟩ := R.out j c hc
      obtain ⟨c0, c1, c2⟩ := hp.below B.out
      have E1 := Lib.hid e1; have E2 := Lib.hid e2; have HC := Lib.hid hc
      clear e1 e2 hc hp
      obtain ⟨k, n, t⟩ := c
      dsimp only at c0 c1 c2
      by_cases hraw : C.Raw ⟨k, n, t⟩
      · have HRS := Lib.hid (raw_step HR.out HC.out hraw)
        have hrb : rawB ⟨k, n, t⟩ = true := decide_eq_true hraw
        have HRB := Lib.hid hrb; clear hrb
        rcases hraw with ⟨hk | hk, h1, h2, h3⟩ | ⟨hk, h1, h2⟩ <;> dsimp only at hk h1 h2 <;> subst hk
        · dsimp only at h3
          go_wp2_with (first | (go_at_call 30; refine (raw_any ⟨0, n, t⟩ _).mono ?_; rintro e w1 ⟨rfl, hb1⟩; rw [HRB.out]; obtain ⟨d0, d1, d2⟩ := (new_piece wr 0 n t).below hb1; simp only [Nat.zero_add] at d0 d1 d2; have B1 := Lib.hid ((B.out.alloc B.out.size _).trans (hb1.mono (by simp; have := B.out.size; omega))); clear hb1) | (go_at_call 31; refine (size_any _ _ _ _ h1 (by omega) (by omega)).mono ?_; rintro e w2 ⟨rfl, hb2⟩))
          go_roundw
          case rel => exact ⟨j + 1, by omega, by go_num, by rw [E1.out]; rfl, by rw [E2.out]; simp [toC, C.sz, h3], HRS, Lib.hid (B1.out.trans (hb2.mono B1.out.size))⟩
          case measure => simp [intOf]; omega
        · dsimp only at h3
          go_wp2_with (first | (go_at_call 30; refine (raw_any ⟨2, n, t⟩ _).mono ?_; rintro e w1 ⟨rfl, hb1⟩; rw [HRB.out]; obtain ⟨d0, d1, d2⟩ := (new_piece wr 2 n t).below hb1; simp only [Nat.zero_add] at d0 d1 d2; have B1 := Lib.hid ((B.out.alloc B.out.size _).trans (hb1.mono (by simp; have := B.out.size; omega))); clear hb1) | (go_at_call 31; refine (size_any _ _ _ _ h1 (by omega) (by omega)).mono ?_; rintro e w2 ⟨rfl, hb2⟩))
          go_roundw
          case rel => exact ⟨j + 1, by omega, by go_num, by rw [E1.out]; rfl, by rw [E2.out]; simp [toC], HRS, B1⟩
          case measure => simp [intOf]; omega
        · subst h1
          go_wp2_with (first | (go_at_call 30; refine (raw_any ⟨1, 0, t⟩ _).mono ?_; rintro e w1 ⟨rfl, hb1⟩; rw [HRB.out]; obtain ⟨d0, d1, d2⟩ := (new_piece wr 1 0 t).below hb1; simp only [Nat.zero_add] at d0 d1 d2; have B1 := Lib.hid ((B.out.alloc B.out.size _).trans (hb1.mono (by simp; have := B.out.size; omega))); clear hb1) | (go_at_call 31; refine (size_any _ _ _ _ (by omega) (by omega) (by omega)).mono ?_; rintro e w2 ⟨rfl, hb2⟩))
          go_roundw
          case rel => exact ⟨j + 1, by omega, by go_num, by rw [E1.out]; simp [fromC], by rw [E2.out]; simp [toC, C.sz], HRS, Lib.hid (B1.out.trans (hb2.mono B1.out.size))⟩
          case measure => simp [intOf]; omega
      · go_wp2_with (go_at_call 30; refine (raw_any ⟨k, n, t⟩ _).mono ?_; rintro e w1 ⟨rfl, hb1⟩; rw [show rawB ⟨k, n, t⟩ = false from decide_eq_false hraw])
        go_ret3
        have h0 : okB cs = false := by
          cases h : okB cs with
          | false => rfl
          | true => exact absurd ((okB_iff.1 h).2.1 _ (List.mem_of_getElem? HC.out)) hraw
        exact ⟨by rw [h0]; rfl, (B.out.alloc B.out.size _).trans (hb1.mono (by simp; have := B.out.size; omega))⟩
    · have hjj : j = cs.length := by omega
      subst hjj
      rw [List.take_length] at *
      have OK := Lib.hid (okB_iff (cs := cs))
      by_cases g1 : sumOf fromC cs ≤ 4096
      · by_cases g2 : sumOf toC cs ≤ 4096
        · go_wp2
          go_ret3
          have h0 : okB cs = true := OK.out.2 ⟨hl, HR.out, g1, g2⟩
          exact ⟨by rw [h0]; rfl, B.out⟩
        · go_wp2
          go_ret3
          have h0 : okB cs = false := by
            cases h : okB cs with
            | false => rfl
            | true => have := (OK.out.1 h).2.2.2; omega
          exact ⟨by rw [h0]; rfl, B.out⟩
      · go_wp2
        go_ret3
        have h0 : okB cs = false := by
          cases h : okB cs with
          | false => rfl
          | true => have := (OK.out.1 h).2.2.1; omega
        exact ⟨by rw [h0]; rfl, B.out⟩

theorem measure_any (p : Option Addr) (cs : List C) (cap : Nat) (w : World) (hr : RowC w p cs) : Calls Try.prog 27 #[.slice p cs.length cap] w (MeasPost cs w) := by
  by_cases h : cs.length ≤ 4096
  · exact measure_short p cs cap w hr h
  · exact measure_long p cs cap w (by omega)

end Go.Proofs.Ytmlibmleamiljaa
