/-
  The walks of sizes (how much an edit keeps, cuts, puts) and of SameInts at three numbers. Conditions: as the theorems' premises say.
-/
import Derived.Test.YtmlibmleamiljaaAw
namespace Go.Proofs.Ytmlibmleamiljaa
open Go.RowKit

/-- A block of three numbers. -/
def Three (w : World) (g : Nat) (a b c : Int) : Prop := w.heap[g]? = some (.cells #[.int .i64 a, .int .i64 b, .int .i64 c] 3)
theorem Three.cells {w : World} {g : Nat} {a b c : Int} (h : Three w g a b c) : w.cell? ⟨g, 0, none⟩ = some (.int .i64 a) ∧ w.cell? ⟨g, 1, none⟩ = some (.int .i64 b) ∧ w.cell? ⟨g, 2, none⟩ = some (.int .i64 c) := by
  unfold Three at h
  refine ⟨?_, ?_, ?_⟩ <;> simp [World.cell?, h]
theorem Three.frozen {w : World} {g : Nat} {a b c : Int} (h : Three w g a b c) (i : Nat) : w.frozen? ⟨g, i, none⟩ = false := by
  unfold Three at h
  simp [World.frozen?, h]
theorem Three.set0 {w : World} {g : Nat} {a b c : Int} (h : Three w g a b c) (x : Int) : Three (w.setCell ⟨g, 0, none⟩ (.int .i64 x)) g x b c := heap_setCell_at h _
theorem Three.set1 {w : World} {g : Nat} {a b c : Int} (h : Three w g a b c) (x : Int) : Three (w.setCell ⟨g, 1, none⟩ (.int .i64 x)) g a x c := heap_setCell_at h _
theorem Three.set2 {w : World} {g : Nat} {a b c : Int} (h : Three w g a b c) (x : Int) : Three (w.setCell ⟨g, 2, none⟩ (.int .i64 x)) g a b x := heap_setCell_at h _
theorem Three.drew {w : World} {g : Nat} {a b c : Int} (h : Three w g a b c) : Three w.drew g a b c := h
theorem Three.below {w w' : World} {g : Nat} {a b c : Int} (h : Three w g a b c) (hb : Below w.heap.size w w') : Three w' g a b c := by
  unfold Three at *
  rw [hb.block g (by rcases Nat.lt_or_ge g w.heap.size with h2 | h2; exact h2; rw [Array.getElem?_eq_none h2] at h; cases h)]
  exact h
theorem Three.new (w : World) (a b c : Int) : Three (w.alloc (.cells #[.int .i64 a, .int .i64 b, .int .i64 c] 3)) w.heap.size a b c := by
  show (w.heap.push _)[w.heap.size]? = _
  simp

/-- What is put, as a number. -/
def putN (c : C) : Int := if c.k = 1 then c.t.size else 0
theorem keepB (c : C) (h : c.Raw) : 0 ≤ keepC c ∧ keepC c ≤ 4096 := by unfold C.Raw at h; unfold keepC; split <;> omega
theorem cutB (c : C) (h : c.Raw) : 0 ≤ cutC c ∧ cutC c ≤ 4096 := by unfold C.Raw at h; unfold cutC; split <;> omega
theorem putB (c : C) (h : c.Raw) : 0 ≤ putN c ∧ putN c ≤ 4096 := by unfold C.Raw at h; unfold putN; split <;> omega
theorem take_bounds {f : C → Int} (hf : ∀ c : C, c.Raw → 0 ≤ f c ∧ f c ≤ 4096) {cs : List C} (h : ∀ c ∈ cs, c.Raw) (hl : cs.length ≤ 4096) (j : Nat) : 0 ≤ sumOf f (cs.take j) ∧ sumOf f (cs.take j) ≤ 16777216 := by
  have b := sum_bounds hf (cs.take j) (raw_take h j)
  have l : (cs.take j).length ≤ 4096 := by rw [List.length_take]; omega
  omega

def SzPost (cs : List C) (w : World) (e : Ending) (w' : World) : Prop :=
  ∃ g, e = .returned (.slice (some ⟨g, 0, none⟩) 3 3) ∧ w.heap.size ≤ g ∧ Three w' g (sumOf keepC cs) (sumOf cutC cs) (sumOf putN cs) ∧ Below w.heap.size w w'

theorem below_setNew {B : Nat} {w w' : World} (h : Below B w w') {g : Nat} (hg : B ≤ g) (i : Nat) (v : Value) : Below B w (w'.setCell ⟨g, i, none⟩ v) :=
  ⟨h.os, h.tape, h.output, Nat.le_trans h.size (by simp), fun k hk => by rw [heap_setCell_other _ _ _ _ (by dsimp only; omega)]; exact h.block k hk⟩

set_option maxHeartbeats 2000000 in
theorem sizes_any (p : Option Addr) (cs : List C) (cap : Nat) (w : World) (hr : RowC w p cs) (hraw : ∀ c ∈ cs, c.Raw) (hl : cs.length ≤ 4096) : Calls Try.prog 18 #[.slice p cs.length cap] w (SzPost cs w) := by
  have R := Lib.hid hr; have RAW := Lib.hid hraw
  clear hr hraw
  go_enter Try.func18, Try.ntmps18
  go_wp2_with fail
  have T0 := Lib.hid (Three.new w 0 0 0)
  have B0 := Lib.hid ((Below.refl w.heap.size w).alloc (Nat.le_refl _) (.cells #[.int .i64 0, .int .i64 0, .int .i64 0] 3))
  go_loopw [4] (fun v wr => ∃ j : Nat, j ≤ cs.length ∧ v = .int .i64 j ∧ Hid (Three wr w.heap.size (sumOf keepC (cs.take j)) (sumOf cutC (cs.take j)) (sumOf putN (cs.take j))) ∧ Hid (Below w.heap.size w wr)) (fun v _ => cs.length - (intOf v).toNat)
  case atStart => exact ⟨0, Nat.zero_le _, rfl, T0, B0⟩
  case round =>
    clear T0 B0
    obtain ⟨j, hj, rfl, T, B⟩ := hrel
    by_cases hlt : j < cs.length
    · have hc := List.getElem?_eq_getElem hlt
      generalize cs[j] = c at hc
      have hcr := RAW.out c (List.mem_of_getElem? hc)
      obtain ⟨a0, a1⟩ := take_bounds keepB RAW.out hl j
      obtain ⟨b0, b1⟩ := take_bounds cutB RAW.out hl j
      obtain ⟨p0, p1⟩ := take_bounds putB RAW.out hl j
      have E1 := Lib.hid (sumOf_take_succ (f := keepC) hc)
      have E2 := Lib.hid (sumOf_take_succ (f := cutC) hc)
      have E3 := Lib.hid (sumOf_take_succ (f := putN) hc)
      obtain ⟨b, o, rfl, hp⟩ := R.out j c hc
      obtain ⟨c0, c1, c2⟩ := hp.below B.out
      clear hc hp
      generalize sumOf keepC (cs.take j) = x at *
      generalize sumOf cutC (cs.take j) = y at *
      generalize sumOf putN (cs.take j) = z at *
      obtain ⟨k, n, t⟩ := c
      dsimp only at c0 c1 c2
      obtain ⟨t0, t1, t2⟩ := T.out.cells
      have f0 := T.out.frozen 0
      have f1 := T.out.frozen 1
      have f2 := T.out.frozen 2
      rcases hcr with ⟨hk | hk, h1, h2, h3⟩ | ⟨hk, h1, h2⟩ <;> dsimp only at hk h1 h2 <;> subst hk
      · have T' := Lib.hid (T.out.set0 (x + n)).drew
        have B' := Lib.hid (below_setNew B.out (Nat.le_refl _) 0 (.int .i64 (x + n))).drew
        go_wp2_with fail
        go_region
        go_wp2_with fail
        go_roundw
        case rel => exact ⟨j + 1, by omega, by go_num, by rw [E1.out, E2.out, E3.out]; simpa [keepC, cutC, putN] using T', B'⟩
        case measure => simp [intOf]; omega
      · have T' := Lib.hid (T.out.set1 (y + n)).drew
        have B' := Lib.hid (below_setNew B.out (Nat.le_refl _) 1 (.int .i64 (y + n))).drew
        go_wp2_with fail
        go_region
        go_wp2_with fail
        go_roundw
        case rel => exact ⟨j + 1, by omega, by go_num, by rw [E1.out, E2.out, E3.out]; simpa [keepC, cutC, putN] using T', B'⟩
        case measure => simp [intOf]; omega
      · subst h1
        have T' := Lib.hid (T.out.set2 (z + (t.size : Int))).drew
        have B' := Lib.hid (below_setNew B.out (Nat.le_refl _) 2 (.int .i64 (z + (t.size : Int)))).drew
        go_wp2_with fail
        go_region
        go_wp2_with fail
        go_roundw
        case rel => exact ⟨j + 1, by omega, by go_num, by rw [E1.out, E2.out, E3.out]; simpa [keepC, cutC, putN] using T', B'⟩
        case measure => simp [intOf]; omega
    · go_wp2_with fail
      go_ret
      have := T.out
      rw [List.take_of_length_le (by omega)] at this
      exact ⟨_, rfl, Nat.le_refl _, this, B.out⟩

set_option maxHeartbeats 2000000 in
theorem sameInts_yes (g h : Nat) (a b c : Int) (cap cap2 : Nat) (w : World) (hg : Three w g a b c) (hh : Three w h a b c) : Calls Try.prog 17 #[.slice (some ⟨g, 0, none⟩) 3 cap, .slice (some ⟨h, 0, none⟩) 3 cap2] w fun e w' => e = .returned (.bool true) ∧ Below w.heap.size w w' := by
  have G := Lib.hid hg; have H := Lib.hid hh
  clear hg hh
  go_enter Try.func17, Try.ntmps17
  go_wp2_with fail
  go_loopw [5] (fun v wr => ∃ j : Nat, j ≤ 3 ∧ v = .int .i64 j ∧ Hid (Below w.heap.size w wr)) (fun v _ => 3 - (intOf v).toNat)
  case atStart => exact ⟨0, Nat.zero_le _, rfl, Lib.hid (Below.refl _ _)⟩
  case round =>
    obtain ⟨j, hj, rfl, B⟩ := hrel
    obtain ⟨g0, g1, g2⟩ := (G.out.below B.out).cells
    obtain ⟨h0, h1, h2⟩ := (H.out.below B.out).cells
    by_cases hlt : j < 3
    · obtain ⟨x, x1, x2⟩ : ∃ x : Int, wr.cell? ⟨g, 0 + j, none⟩ = some (.int .i64 x) ∧ wr.cell? ⟨h, 0 + j, none⟩ = some (.int .i64 x) := by
        rcases (show j = 0 ∨ j = 1 ∨ j = 2 by omega) with rfl | rfl | rfl
        · exact ⟨a, g0, h0⟩
        · exact ⟨b, g1, h1⟩
        · exact ⟨c, g2, h2⟩
      simp only [Nat.zero_add] at x1 x2
      clear g0 g1 g2 h0 h1 h2
      go_wp2_with fail
      go_quiet (fail)
      go_wp2_with fail
      go_roundw
      case rel => exact ⟨j + 1, by omega, by go_num, Lib.hid (B.out.trans ((dr_below _ _).mono B.out.size))⟩
      case measure => simp [intOf]; omega
    · clear g0 g1 g2 h0 h1 h2
      go_wp2_with fail
      go_ret
      exact ⟨rfl, B.out⟩

end Go.Proofs.Ytmlibmleamiljaa
