/-
  The walks of normal, May, Lengths. Conditions: as the theorems' premises say.
-/
import Derived.Test.YtmlibmleamiljaaW7
import Derived.Test.YtmlibmleamiljaaExt
namespace Go.Proofs.Ytmlibmleamiljaa
open Go.RowKit

def NormAt (cs : List C) (i : Nat) : Prop := ∀ c, cs[i]? = some c → c.sz ≠ 0 ∧ ∀ l, (i = 0 → False) → cs[i - 1]? = some l → fol l.k c.k

theorem norm_of {cs : List C} (h : ∀ i, i < cs.length → NormAt cs i) : Norm cs := fun i c hi => h i (List.getElem?_eq_some_iff.1 hi).1 c hi

def NmPost (cs : List C) (w : World) (e : Ending) (w' : World) : Prop :=
  Below w.heap.size w w' ∧ ((e = .returned (.bool true) ∧ Norm cs) ∨ (e = .returned (.bool false) ∧ ¬ Norm cs))

set_option maxHeartbeats 2000000 in
theorem nm_any (p : Option Addr) (cs : List C) (cap : Nat) (w : World) (hr : RowC w p cs) (hl : cs.length ≤ 4096) (hraw : ∀ c ∈ cs, c.Raw) : Calls Try.prog 29 #[.slice p cs.length cap] w (NmPost cs w) := by
  have R := Lib.hid hr; have RAW := Lib.hid hraw
  clear hr hraw
  go_enter Try.func29, Try.ntmps29
  go_wp2_with (go_at_call 31; fail)
  go_loopw [7] (fun i wr => ∃ j : Nat, j ≤ cs.length ∧ i = .int .i64 j ∧ Hid (∀ i, i < j → NormAt cs i) ∧ Hid (Below w.heap.size w wr)) (fun i _ => cs.length - (intOf i).toNat)
  case atStart => exact ⟨0, Nat.zero_le _, rfl, Lib.hid (fun i h => by omega), Lib.hid (Below.refl _ _)⟩
  case round =>
    obtain ⟨j, hj, rfl, N, B⟩ := hrel
    by_cases hlt : j < cs.length
    · have hc := List.getElem?_eq_getElem hlt
      generalize cs[j] = c at hc
      have hcr := RAW.out c (List.mem_of_getElem? hc)
      have hfit := fit_raw hcr
      have HC := Lib.hid hc
      obtain ⟨b, o, rfl, hp⟩ := R.out j c hc
      obtain ⟨c0, c1, c2⟩ := hp.below B.out
      obtain ⟨k, n, t⟩ := c
      dsimp only at c0 c1 c2
      obtain ⟨f1, f2, f3⟩ := hfit
      dsimp only at f1 f2 f3
      clear hc hcr hp
      have X1 : Hid (Box w (wr.alloc (.cells #[.int .i64 k, .int .i64 n, .string t] 38)) wr.heap.size ⟨k, n, t⟩) := Lib.hid ⟨B.out.alloc B.out.size _, (Box.new wr k n t).2.1, (Box.new wr k n t).2.2.1, B.out.size, (Box.new wr k n t).2.2.2.2⟩
      by_cases hz : n + (t.size : Int) = 0
      · have hz' : ((n + (t.size : Int)) == 0) = true := beq_iff_eq.2 hz
        have HZ := Lib.hid hz
        clear hz
        go_wp2_with (go_at_call 31; fail)
        generalize wr.alloc (.cells #[.int .i64 k, .int .i64 n, .string t] 38) = w1 at X1 ⊢
        generalize wr.heap.size = bx at X1 ⊢
        clear c0 c1 c2
        obtain ⟨d0, d1, d2⟩ := X1.out.cells
        have x0 : ∀ X : Ext w1, X.w.cell? ⟨bx, 0, none⟩ = some (.int .i64 k) := fun X => X.cell d0
        have x1 : ∀ X : Ext w1, X.w.cell? ⟨bx, 1, none⟩ = some (.int .i64 n) := fun X => X.cell d1
        have x2 : ∀ X : Ext w1, X.w.cell? ⟨bx, 2, none⟩ = some (.string t) := fun X => X.cell d2
        refine wp_region_ext (by kernel_rfl) (by kernel_rfl) ?_
        repeat (go_big_quiet_step ((go_at_call 31; exact Ext.calls (size_any _ _ _ _ f1 f2 f3))))
        refine wpQuiet_nil ?_
        rintro _ ⟨X, rfl⟩
        clear x0 x1 x2
        go_wp2_with (go_at_call 31; fail)
        go_ret
        exact ⟨X1.out.1.trans (X.below.mono X1.out.1.size), .inr ⟨rfl, fun h => (h j _ HC.out).1 HZ.out⟩⟩
      · have hz' : ((n + (t.size : Int)) == 0) = false := beq_eq_false_iff_ne.2 hz
        have HZ := Lib.hid hz
        clear hz
        rcases Nat.eq_zero_or_pos j with hj0 | hj0
        · subst hj0
          simp only [Nat.zero_mul, Nat.add_zero] at c0 c1 c2
          go_wp2_with (go_at_call 31; fail)
          generalize wr.alloc (.cells #[.int .i64 k, .int .i64 n, .string t] 38) = w1 at X1 ⊢
          generalize wr.heap.size = bx at X1 ⊢
          clear c0 c1 c2
          obtain ⟨d0, d1, d2⟩ := X1.out.cells
          have x0 : ∀ X : Ext w1, X.w.cell? ⟨bx, 0, none⟩ = some (.int .i64 k) := fun X => X.cell d0
          have x1 : ∀ X : Ext w1, X.w.cell? ⟨bx, 1, none⟩ = some (.int .i64 n) := fun X => X.cell d1
          have x2 : ∀ X : Ext w1, X.w.cell? ⟨bx, 2, none⟩ = some (.string t) := fun X => X.cell d2
          refine wp_region_ext (by kernel_rfl) (by kernel_rfl) ?_
          repeat (go_big_quiet_step ((go_at_call 31; exact Ext.calls (size_any _ _ _ _ f1 f2 f3))))
          refine wpQuiet_nil ?_
          rintro _ ⟨X, rfl⟩
          clear x0 x1 x2
          go_wp2_with (go_at_call 31; fail)
          go_roundw
          case rel => exact ⟨1, hlt, rfl, Lib.hid (fun i hi => by obtain rfl : i = 0 := by omega
                                                                  exact fun c hc => by rw [HC.out] at hc; cases hc; exact ⟨HZ.out, fun l h0 => absurd rfl h0⟩), Lib.hid (X1.out.1.trans (X.below.mono X1.out.1.size))⟩
          case measure => simp [intOf]; omega
        · obtain ⟨q, rfl⟩ : ∃ q, j = q + 1 := ⟨j - 1, by omega⟩
          have hq := List.getElem?_eq_getElem (show q < cs.length by omega)
          generalize cs[q] = l at hq
          have HQ := Lib.hid hq
          obtain ⟨b', o', hbo, hpl⟩ := R.out q l hq
          cases hbo
          have a0 := (hpl.below B.out).1
          obtain ⟨lk, ln, lt⟩ := l
          dsimp only at a0
          have A0 : Hid ((wr.alloc (.cells #[.int .i64 k, .int .i64 n, .string t] 38)).cell? ⟨b, o + q * 3, none⟩ = some (.int .i64 lk)) := Lib.hid (cell_later ((Below.refl _ _).alloc (Nat.le_refl _) _) a0)
          clear hq hpl a0
          by_cases hf : fol lk k
          · have HF := Lib.hid hf; clear hf
            go_wp2_with (go_at_call 31; fail)
            generalize wr.alloc (.cells #[.int .i64 k, .int .i64 n, .string t] 38) = w1 at X1 A0 ⊢
            generalize wr.heap.size = bx at X1 ⊢
            clear c0 c1 c2
            obtain ⟨d0, d1, d2⟩ := X1.out.cells
            have x0 : ∀ X : Ext w1, X.w.cell? ⟨bx, 0, none⟩ = some (.int .i64 k) := fun X => X.cell d0
            have x1 : ∀ X : Ext w1, X.w.cell? ⟨bx, 1, none⟩ = some (.int .i64 n) := fun X => X.cell d1
            have x2 : ∀ X : Ext w1, X.w.cell? ⟨bx, 2, none⟩ = some (.string t) := fun X => X.cell d2
            have x3 : ∀ X : Ext w1, X.w.cell? ⟨b, o + q * 3, none⟩ = some (.int .i64 lk) := fun X => X.cell A0.out
            have y1 : (0 : Int) ≤ (q : Int) := by omega
            have y2 : (q : Int) < (cs.length : Int) := by omega
            have y3 : (0 : Int) < (q : Int) + 1 := by omega
            refine wp_region_ext (by kernel_rfl) (by kernel_rfl) ?_
            repeat (go_big_quiet_step (first | (go_at_call 31; exact Ext.calls (size_any _ _ _ _ f1 f2 f3)) | (go_at_call 32; exact Ext.calls ((follows_yes _ _ _ HF.out).mono (by rintro e w' ⟨rfl, rfl⟩; exact ⟨rfl, Below.refl _ _⟩)))))
            refine wpQuiet_nil ?_
            rintro _ ⟨X, rfl⟩
            clear x0 x1 x2 x3
            go_wp2_with (go_at_call 31; fail)
            go_roundw
            case rel => exact ⟨q + 2, by omega, by go_num, Lib.hid (fun i hi => by
                          by_cases hi2 : i < q + 1
                          · exact N.out i hi2
                          · obtain rfl : i = q + 1 := by omega
                            exact fun c hc => by rw [HC.out] at hc; cases hc; exact ⟨HZ.out, fun l _ hl => by rw [show q + 1 - 1 = q by omega, HQ.out] at hl; cases hl; exact HF.out⟩), Lib.hid (X1.out.1.trans (X.below.mono X1.out.1.size))⟩
            case measure => simp [intOf]; omega
          · have HF := Lib.hid hf; clear hf
            go_wp2_with (go_at_call 31; fail)
            generalize wr.alloc (.cells #[.int .i64 k, .int .i64 n, .string t] 38) = w1 at X1 A0 ⊢
            generalize wr.heap.size = bx at X1 ⊢
            clear c0 c1 c2
            obtain ⟨d0, d1, d2⟩ := X1.out.cells
            have x0 : ∀ X : Ext w1, X.w.cell? ⟨bx, 0, none⟩ = some (.int .i64 k) := fun X => X.cell d0
            have x1 : ∀ X : Ext w1, X.w.cell? ⟨bx, 1, none⟩ = some (.int .i64 n) := fun X => X.cell d1
            have x2 : ∀ X : Ext w1, X.w.cell? ⟨bx, 2, none⟩ = some (.string t) := fun X => X.cell d2
            have x3 : ∀ X : Ext w1, X.w.cell? ⟨b, o + q * 3, none⟩ = some (.int .i64 lk) := fun X => X.cell A0.out
            have y1 : (0 : Int) ≤ (q : Int) := by omega
            have y2 : (q : Int) < (cs.length : Int) := by omega
            have y3 : (0 : Int) < (q : Int) + 1 := by omega
            refine wp_region_ext (by kernel_rfl) (by kernel_rfl) ?_
            repeat (go_big_quiet_step (first | (go_at_call 31; exact Ext.calls (size_any _ _ _ _ f1 f2 f3)) | (go_at_call 32; exact Ext.calls ((follows_no _ _ _ HF.out).mono (by rintro e w' ⟨rfl, rfl⟩; exact ⟨rfl, Below.refl _ _⟩)))))
            refine wpQuiet_nil ?_
            rintro _ ⟨X, rfl⟩
            clear x0 x1 x2 x3
            go_wp2_with (go_at_call 31; fail)
            go_ret
            exact ⟨X1.out.1.trans (X.below.mono X1.out.1.size), .inr ⟨rfl, fun h => HF.out ((h (q + 1) _ HC.out).2 _ (by omega) HQ.out)⟩⟩
    · go_wp2_with (go_at_call 31; fail)
      go_ret
      exact ⟨B.out, .inl ⟨rfl, norm_of fun i hi => N.out i (by omega)⟩⟩

end Go.Proofs.Ytmlibmleamiljaa
