/-
  KW3, KW4, KW5, KW6, KW7, KExt, KW8, KW9, KEq, KW10, KW11, KSizes, KW12, KW13, in one text. Conditions: as each theorem's premises say.
-/
import Derived.Test.YtjmfjlffcopnnaaGreatDoorPM00
import Derived.BigQuiet
import Derived.Deep.RegionHeld3
import Derived.Deep.RegionLaw
import Derived.IntWalk
import Derived.BigRegion
import Derived.Below
import Derived.WalkKit
import Derived.WalkSpells
import Derived.Laws.StructEq
import Derived.Laws.OwnMore
namespace Go.Proofs.YtjmfjlffcopnnaaGreatDoor.K
open Go.RowKit

end Go.Proofs.YtjmfjlffcopnnaaGreatDoor.K

namespace Go.Proofs.YtjmfjlffcopnnaaGreatDoor.K
open Go.RowKit

theorem follows_yes (a b : Int) (w : World) (h : fol a b) : Calls Tryz.prog 121 #[.int .i64 a, .int .i64 b] w fun e w' => e = .returned (.bool true) ∧ w' = w := by
  refine (follows_any a b w).mono ?_
  rintro e w' ⟨rfl, rfl⟩
  exact ⟨by rw [decide_eq_true h], rfl⟩
theorem follows_no (a b : Int) (w : World) (h : ¬ fol a b) : Calls Tryz.prog 121 #[.int .i64 a, .int .i64 b] w fun e w' => e = .returned (.bool false) ∧ w' = w := by
  refine (follows_any a b w).mono ?_
  rintro e w' ⟨rfl, rfl⟩
  exact ⟨by rw [decide_eq_false h], rfl⟩

end Go.Proofs.YtjmfjlffcopnnaaGreatDoor.K

namespace Go.Proofs.YtjmfjlffcopnnaaGreatDoor.K
open Go.RowKit

end Go.Proofs.YtjmfjlffcopnnaaGreatDoor.K

namespace Go.Proofs.YtjmfjlffcopnnaaGreatDoor.K
open Go.RowKit

theorem addR_bound (c : C) (r : List C) (h : r.length ≤ 8192) : (addR r c).length ≤ 8193 := by
  have := addR_length c r
  omega

end Go.Proofs.YtjmfjlffcopnnaaGreatDoor.K

namespace Go.Proofs.YtjmfjlffcopnnaaGreatDoor.K
open Go.RowKit

theorem fit_norm {cs : List C} (h : ∀ c ∈ cs, c.Raw) (hl : cs.length ≤ 4096) : ∀ x ∈ normOf cs, Fit x := by
  intro x hx
  have hs := soft_all h
  have s := normOf_soft cs hs x hx
  have a := mem_le_sum (f := fromC) (fun c hc => from_nonneg (normOf_soft cs hs c hc)) hx
  have b := mem_le_sum (f := toC) (fun c hc => to_nonneg (normOf_soft cs hs c hc)) hx
  rw [sum_normOf from_join from_zero cs hs] at a
  rw [sum_normOf to_join to_zero cs hs] at b
  have a1 := Int.le_trans a (sum_bounds from_bounds cs h).2
  have b1 := Int.le_trans b (sum_bounds to_bounds cs h).2
  clear a b
  unfold C.Soft at s
  unfold fromC at a1
  unfold toC C.sz at b1
  unfold Fit
  rcases s with s | s
  · rw [if_neg (by omega)] at a1; omega
  · rw [if_neg (by omega)] at b1; omega
theorem fit_raw {c : C} (h : c.Raw) : Fit c := by unfold C.Raw at h; unfold Fit; omega

def NormPost (cs : List C) (w : World) (e : Ending) (w' : World) : Prop :=
  Below w.heap.size w w' ∧ ((okB cs = true ∧ ∃ v, e = .returned (.tuple #[v, .int .i64 0]) ∧ Own w' w.heap.size v (normOf cs)) ∨ (okB cs = false ∧ e = .returned (.tuple #[.slice none 0 0, .int .i64 200])))

theorem normOf_take_succ {cs : List C} {j : Nat} {c : C} (h : cs[j]? = some c) : normOf (cs.take (j + 1)) = addC (normOf (cs.take j)) c := by
  rw [List.take_add_one, h]; exact normOf_snoc _ _

theorem AddPost.below {base : Nat} {v : Value} {out cs : List C} {w w1 : World} {e : Ending} {B : Nat} {w0 : World} (h : AddPost base v out w e w1) (hO : Own w base v cs) (hB : Below B w0 w) (hb : B ≤ base) (hs : B ≤ w.heap.size) : Below B w0 w1 := by
  obtain ⟨v', rfl, _, hg, _⟩ := h
  exact hB.grown hg hs (fun k hk => Nat.le_trans hb (hO.lt hk).1)

end Go.Proofs.YtjmfjlffcopnnaaGreatDoor.K

namespace Go.Proofs.YtjmfjlffcopnnaaGreatDoor.K
open Go.RowKit

/-- A world in which all that was there in w is as it was. -/
def Ext (w : World) : Type := { W : World // Below w.heap.size w W }
instance (w : World) : Nonempty (Ext w) := ⟨⟨w, Below.refl _ _⟩⟩
def Ext.w {w : World} (X : Ext w) : World := X.1
theorem Ext.below {w : World} (X : Ext w) : Below w.heap.size w X.w := X.2
theorem Ext.cell {w : World} {a : Addr} {v : Value} (h : w.cell? a = some v) (X : Ext w) : X.w.cell? a = some v := cell_later X.below h
theorem wp_region_ext {P : Program} {id : Nat} {Q : Exit → Act → World → Prop} {a : Act} {w : World} {l : List Oper} (hm : P.follows .mixedOrders = true) (hB : Region.lexB .any l.toArray = true)
    (h : wpQuiet P l.toArray (fun w' => ∃ X : Ext w, w' = X.w) (fun a' => ∀ w', (∃ X : Ext w, w' = X.w) → Q .normal a' w') l a) : (Code.region id l.toArray true).wp P Q a w :=
  wp_region_quiet (C := fun w' => ∃ X : Ext w, w' = X.w) hm hB ⟨⟨{ w with drawn := w.drawn + 1 }, ⟨rfl, rfl, rfl, Nat.le_refl _, fun _ _ => rfl⟩⟩, rfl⟩ (by simpa using h)
theorem Ext.calls {P : Program} {f : FuncId} {args : Array Value} {w : World} {X : Ext w} {v : Value} (h : Calls P f args X.w fun e w' => e = .returned v ∧ Below X.w.heap.size X.w w') :
    Calls P f args X.w fun e w'' => e = .returned v ∧ ∃ Y : Ext w, w'' = Y.w :=
  h.mono fun _ w'' ⟨he, hb⟩ => ⟨he, ⟨w'', X.below.trans (hb.mono X.below.size)⟩, rfl⟩

end Go.Proofs.YtjmfjlffcopnnaaGreatDoor.K

namespace Go.Proofs.YtjmfjlffcopnnaaGreatDoor.K
open Go.RowKit

def NormAt (cs : List C) (i : Nat) : Prop := ∀ c, cs[i]? = some c → c.sz ≠ 0 ∧ ∀ l, (i = 0 → False) → cs[i - 1]? = some l → fol l.k c.k

theorem norm_of {cs : List C} (h : ∀ i, i < cs.length → NormAt cs i) : Norm cs := fun i c hi => h i (List.getElem?_eq_some_iff.1 hi).1 c hi

def NmPost (cs : List C) (w : World) (e : Ending) (w' : World) : Prop :=
  Below w.heap.size w w' ∧ ((e = .returned (.bool true) ∧ Norm cs) ∨ (e = .returned (.bool false) ∧ ¬ Norm cs))

set_option maxHeartbeats 2000000 in
theorem nm_any (p : Option Addr) (cs : List C) (cap : Nat) (w : World) (hr : RowC w p cs) (hl : cs.length ≤ 4096) (hraw : ∀ c ∈ cs, c.Raw) : Calls Tryz.prog 88 #[.slice p cs.length cap] w (NmPost cs w) := by
  have R := Lib.hid hr; have RAW := Lib.hid hraw
  clear hr hraw
  go_enter Tryz.func88, Tryz.ntmps88
  go_wp2_with (go_at_call 120; fail)
  go_loopw [7] (fun i wr => ∃ j : Nat, j ≤ cs.length ∧ i = .int .i64 j ∧ Hid (∀ i, i < j → NormAt cs i) ∧ Hid (Below w.heap.size w wr)) (fun i _ => cs.length - (intOf i).toNat)
  case atStart => exact ⟨0, Nat.zero_le _, rfl, Lib.hid (fun i h => by omega), Lib.hid (Below.refl _ _)⟩
  case round =>
    obtain ⟨j, hj, rfl, N, B⟩ := hrel
    by_cases hlt : j < cs.length
    · have hc := List.getElem?_eq_getElem hlt
      generalize cs[j] = c at hc
      have hcr := RAW.out c (List.mem_of_getElem? hc)
      have hfit := fit_raw hcr
      have HC := Lib.hid hc
      obtain ⟨b, o, rfl, hp⟩ := R.out j c hc
      obtain ⟨c0, c1, c2⟩ := hp.below B.out
      obtain ⟨k, n, t⟩ := c
      dsimp only at c0 c1 c2
      obtain ⟨f1, f2, f3⟩ := hfit
      dsimp only at f1 f2 f3
      clear hc hcr hp
      have X1 : Hid (Box w (wr.alloc (.cells #[.int .i64 k, .int .i64 n, .string t] 48)) wr.heap.size ⟨k, n, t⟩) := Lib.hid ⟨B.out.alloc B.out.size _, (Box.new wr k n t).2.1, (Box.new wr k n t).2.2.1, B.out.size, (Box.new wr k n t).2.2.2.2⟩
      by_cases hz : n + (t.size : Int) = 0
      · have hz' : ((n + (t.size : Int)) == 0) = true := beq_iff_eq.2 hz
        have HZ := Lib.hid hz
        clear hz
        go_wp2_with (go_at_call 120; fail)
        generalize wr.alloc (.cells #[.int .i64 k, .int .i64 n, .string t] 48) = w1 at X1 ⊢
        generalize wr.heap.size = bx at X1 ⊢
        clear c0 c1 c2
        obtain ⟨d0, d1, d2⟩ := X1.out.cells
        have x0 : ∀ X : Ext w1, X.w.cell? ⟨bx, 0, none⟩ = some (.int .i64 k) := fun X => X.cell d0
        have x1 : ∀ X : Ext w1, X.w.cell? ⟨bx, 1, none⟩ = some (.int .i64 n) := fun X => X.cell d1
        have x2 : ∀ X : Ext w1, X.w.cell? ⟨bx, 2, none⟩ = some (.string t) := fun X => X.cell d2
        refine wp_region_ext (by kernel_rfl) (by kernel_rfl) ?_
        repeat (go_big_quiet_step ((go_at_call 120; exact Ext.calls (size_any _ _ _ _ f1 f2 f3))))
        refine wpQuiet_nil ?_
        rintro _ ⟨X, rfl⟩
        clear x0 x1 x2
        go_wp2_with (go_at_call 120; fail)
        go_ret
        exact ⟨X1.out.1.trans (X.below.mono X1.out.1.size), .inr ⟨rfl, fun h => (h j _ HC.out).1 HZ.out⟩⟩
      · have hz' : ((n + (t.size : Int)) == 0) = false := beq_eq_false_iff_ne.2 hz
        have HZ := Lib.hid hz
        clear hz
        rcases Nat.eq_zero_or_pos j with hj0 | hj0
        · subst hj0
          simp only [Nat.zero_mul, Nat.add_zero] at c0 c1 c2
          go_wp2_with (go_at_call 120; fail)
          generalize wr.alloc (.cells #[.int .i64 k, .int .i64 n, .string t] 48) = w1 at X1 ⊢
          generalize wr.heap.size = bx at X1 ⊢
          clear c0 c1 c2
          obtain ⟨d0, d1, d2⟩ := X1.out.cells
          have x0 : ∀ X : Ext w1, X.w.cell? ⟨bx, 0, none⟩ = some (.int .i64 k) := fun X => X.cell d0
          have x1 : ∀ X : Ext w1, X.w.cell? ⟨bx, 1, none⟩ = some (.int .i64 n) := fun X => X.cell d1
          have x2 : ∀ X : Ext w1, X.w.cell? ⟨bx, 2, none⟩ = some (.string t) := fun X => X.cell d2
          refine wp_region_ext (by kernel_rfl) (by kernel_rfl) ?_
          repeat (go_big_quiet_step ((go_at_call 120; exact Ext.calls (size_any _ _ _ _ f1 f2 f3))))
          refine wpQuiet_nil ?_
          rintro _ ⟨X, rfl⟩
          clear x0 x1 x2
          go_wp2_with (go_at_call 120; fail)
          go_roundw
          case rel => exact ⟨1, hlt, rfl, Lib.hid (fun i hi => by obtain rfl : i = 0 := by omega
                                                                  exact fun c hc => by rw [HC.out] at hc; cases hc; exact ⟨HZ.out, fun l h0 => absurd rfl h0⟩), Lib.hid (X1.out.1.trans (X.below.mono X1.out.1.size))⟩
          case measure => simp [intOf]; omega
        · obtain ⟨q, rfl⟩ : ∃ q, j = q + 1 := ⟨j - 1, by omega⟩
          have hq := List.getElem?_eq_getElem (show q < cs.length by omega)
          generalize cs[q] = l at hq
          have HQ := Lib.hid hq
          obtain ⟨b', o', hbo, hpl⟩ := R.out q l hq
          cases hbo
          have a0 := (hpl.below B.out).1
          obtain ⟨lk, ln, lt⟩ := l
          dsimp only at a0
          have A0 : Hid ((wr.alloc (.cells #[.int .i64 k, .int .i64 n, .string t] 48)).cell? ⟨b, o + q * 3, none⟩ = some (.int .i64 lk)) := Lib.hid (cell_later ((Below.refl _ _).alloc (Nat.le_refl _) _) a0)
          clear hq hpl a0
          by_cases hf : fol lk k
          · have HF := Lib.hid hf; clear hf
            go_wp2_with (go_at_call 120; fail)
            generalize wr.alloc (.cells #[.int .i64 k, .int .i64 n, .string t] 48) = w1 at X1 A0 ⊢
            generalize wr.heap.size = bx at X1 ⊢
            clear c0 c1 c2
            obtain ⟨d0, d1, d2⟩ := X1.out.cells
            have x0 : ∀ X : Ext w1, X.w.cell? ⟨bx, 0, none⟩ = some (.int .i64 k) := fun X => X.cell d0
            have x1 : ∀ X : Ext w1, X.w.cell? ⟨bx, 1, none⟩ = some (.int .i64 n) := fun X => X.cell d1
            have x2 : ∀ X : Ext w1, X.w.cell? ⟨bx, 2, none⟩ = some (.string t) := fun X => X.cell d2
            have x3 : ∀ X : Ext w1, X.w.cell? ⟨b, o + q * 3, none⟩ = some (.int .i64 lk) := fun X => X.cell A0.out
            have y1 : (0 : Int) ≤ (q : Int) := by omega
            have y2 : (q : Int) < (cs.length : Int) := by omega
            have y3 : (0 : Int) < (q : Int) + 1 := by omega
            refine wp_region_ext (by kernel_rfl) (by kernel_rfl) ?_
            repeat (go_big_quiet_step (first | (go_at_call 120; exact Ext.calls (size_any _ _ _ _ f1 f2 f3)) | (go_at_call 121; exact Ext.calls ((follows_yes _ _ _ HF.out).mono (by rintro e w' ⟨rfl, rfl⟩; exact ⟨rfl, Below.refl _ _⟩)))))
            refine wpQuiet_nil ?_
            rintro _ ⟨X, rfl⟩
            clear x0 x1 x2 x3
            go_wp2_with (go_at_call 120; fail)
            go_roundw
            case rel => exact ⟨q + 2, by omega, by go_num, Lib.hid (fun i hi => by
                          by_cases hi2 : i < q + 1
                          · exact N.out i hi2
                          · obtain rfl : i = q + 1 := by omega
                            exact fun c hc => by rw [HC.out] at hc; cases hc; exact ⟨HZ.out, fun l _ hl => by rw [show q + 1 - 1 = q by omega, HQ.out] at hl; cases hl; exact HF.out⟩), Lib.hid (X1.out.1.trans (X.below.mono X1.out.1.size))⟩
            case measure => simp [intOf]; omega
          · have HF := Lib.hid hf; clear hf
            go_wp2_with (go_at_call 120; fail)
            generalize wr.alloc (.cells #[.int .i64 k, .int .i64 n, .string t] 48) = w1 at X1 A0 ⊢
            generalize wr.heap.size = bx at X1 ⊢
            clear c0 c1 c2
            obtain ⟨d0, d1, d2⟩ := X1.out.cells
            have x0 : ∀ X : Ext w1, X.w.cell? ⟨bx, 0, none⟩ = some (.int .i64 k) := fun X => X.cell d0
            have x1 : ∀ X : Ext w1, X.w.cell? ⟨bx, 1, none⟩ = some (.int .i64 n) := fun X => X.cell d1
            have x2 : ∀ X : Ext w1, X.w.cell? ⟨bx, 2, none⟩ = some (.string t) := fun X => X.cell d2
            have x3 : ∀ X : Ext w1, X.w.cell? ⟨b, o + q * 3, none⟩ = some (.int .i64 lk) := fun X => X.cell A0.out
            have y1 : (0 : Int) ≤ (q : Int) := by omega
            have y2 : (q : Int) < (cs.length : Int) := by omega
            have y3 : (0 : Int) < (q : Int) + 1 := by omega
            refine wp_region_ext (by kernel_rfl) (by kernel_rfl) ?_
            repeat (go_big_quiet_step (first | (go_at_call 120; exact Ext.calls (size_any _ _ _ _ f1 f2 f3)) | (go_at_call 121; exact Ext.calls ((follows_no _ _ _ HF.out).mono (by rintro e w' ⟨rfl, rfl⟩; exact ⟨rfl, Below.refl _ _⟩)))))
            refine wpQuiet_nil ?_
            rintro _ ⟨X, rfl⟩
            clear x0 x1 x2 x3
            go_wp2_with (go_at_call 120; fail)
            go_ret
            exact ⟨X1.out.1.trans (X.below.mono X1.out.1.size), .inr ⟨rfl, fun h => HF.out ((h (q + 1) _ HC.out).2 _ (by omega) HQ.out)⟩⟩
    · go_wp2_with (go_at_call 120; fail)
      go_ret
      exact ⟨B.out, .inl ⟨rfl, norm_of fun i hi => N.out i (by omega)⟩⟩

end Go.Proofs.YtjmfjlffcopnnaaGreatDoor.K

namespace Go.Proofs.YtjmfjlffcopnnaaGreatDoor.K
open Go.RowKit

def MayP (cs : List C) : Prop := okB cs = true ∧ Norm cs

def MayPost (cs : List C) (w : World) (e : Ending) (w' : World) : Prop :=
  Below w.heap.size w w' ∧ ((e = .returned (.bool true) ∧ MayP cs) ∨ (e = .returned (.bool false) ∧ ¬ MayP cs))

set_option maxHeartbeats 1000000 in
theorem may_any (p : Option Addr) (cs : List C) (cap : Nat) (w : World) (hr : RowC w p cs) : Calls Tryz.prog 38 #[.slice p cs.length cap] w (MayPost cs w) := by
  have R := Lib.hid hr; clear hr
  cases hok : okB cs with
  | false =>
    have HOK := Lib.hid hok; clear hok
    go_enter Tryz.func38, Tryz.ntmps38
    go_wp2_with (go_at_call 87; refine (measure_any _ _ _ _ R.out).mono ?_; rintro e w1 ⟨rfl, hb1⟩; rw [HOK.out]; dsimp only [Bool.false_eq_true, if_false])
    go_ret
    exact ⟨hb1, .inr ⟨rfl, fun h => by have := h.1; rw [HOK.out] at this; cases this⟩⟩
  | true =>
    have HOK := Lib.hid hok; clear hok
    have hl : cs.length ≤ 4096 := (okB_iff.1 HOK.out).1
    have RAW : Hid (∀ c ∈ cs, c.Raw) := Lib.hid (okB_iff.1 HOK.out).2.1
    by_cases hn : Norm cs
    · have HN := Lib.hid hn; clear hn
      go_enter Tryz.func38, Tryz.ntmps38
      go_wp2_with (first | (go_at_call 87; refine (measure_any _ _ _ _ R.out).mono ?_; rintro e w1 ⟨rfl, hb1⟩; rw [HOK.out]; dsimp only [if_true]; have B1 := Lib.hid hb1; clear hb1) | (go_at_call 88; refine (nm_any _ _ _ _ (R.out.below B1.out) hl RAW.out).mono ?_; rintro e w2 ⟨hb2, ⟨rfl, -⟩ | ⟨-, hno⟩⟩; rotate_left; exact absurd HN.out hno; have B2 := Lib.hid hb2; clear hb2))
      go_ret
      exact ⟨B1.out.trans (B2.out.mono B1.out.size), .inl ⟨rfl, HOK.out, HN.out⟩⟩
    · have HN := Lib.hid hn; clear hn
      go_enter Tryz.func38, Tryz.ntmps38
      go_wp2_with (first | (go_at_call 87; refine (measure_any _ _ _ _ R.out).mono ?_; rintro e w1 ⟨rfl, hb1⟩; rw [HOK.out]; dsimp only [if_true]; have B1 := Lib.hid hb1; clear hb1) | (go_at_call 88; refine (nm_any _ _ _ _ (R.out.below B1.out) hl RAW.out).mono ?_; rintro e w2 ⟨hb2, ⟨-, hyes⟩ | ⟨rfl, -⟩⟩; exact absurd hyes HN.out; have B2 := Lib.hid hb2; clear hb2))
      go_ret
      exact ⟨B1.out.trans (B2.out.mono B1.out.size), .inr ⟨rfl, fun h => HN.out h.2⟩⟩

end Go.Proofs.YtjmfjlffcopnnaaGreatDoor.K

namespace Go.Proofs.YtjmfjlffcopnnaaGreatDoor.K
open Go.RowKit

def eqC (a b : C) : Bool := a.k == b.k && (a.n == b.n && a.t.toList == b.t.toList)
theorem eqC_iff {a b : C} : eqC a b = true ↔ a = b := by
  obtain ⟨k, n, t⟩ := a
  obtain ⟨k', n', t'⟩ := b
  simp only [eqC, Bool.and_eq_true, beq_iff_eq, C.mk.injEq, Lib.toList_data]
  constructor
  · rintro ⟨h1, h2, h3⟩
    exact ⟨h1, h2, ByteArray.ext (Array.ext' h3)⟩
  · rintro ⟨h1, h2, h3⟩
    exact ⟨h1, h2, by rw [h3]⟩

theorem eq39 (a b : C) (w : World) : (Op.equalIn 10000 48 (.agg #[.int .i64 a.k, .int .i64 a.n, .string a.t]) (.agg #[.int .i64 b.k, .int .i64 b.n, .string b.t])).run Tryz.prog w = .ok (eqC a b) w := by
  have u3 := Tryz.underlying3
  have a3 := Tryz.isAgg3
  have z3 := Tryz.sizeOf3
  have u9 := Tryz.underlying9
  have a9 := Tryz.isAgg9
  have z9 := Tryz.sizeOf9
  have hS : Tryz.prog.underlying 48 = some (.struct (Tryz.prog.fieldsOf 48)) := by kernel_rfl
  have hp : Tryz.prog.stoodInHeld 48 = false := by kernel_rfl
  rw [show (10000 : Nat) = 9999 + 1 from rfl, run_equalIn_agg w 9999 48 _ _ hS hp]
  simp only [Program.fieldsOf, Tryz.underlying48]
  go_simp
  unfold eqC
  by_cases h1 : a.k = b.k <;> by_cases h2 : a.n = b.n <;> by_cases h3 : a.t.toList = b.t.toList <;> simp [h1, h2, h3]

theorem neq39 (a b : C) (w : World) : (binOp .neq 48 (.agg #[.int .i64 a.k, .int .i64 a.n, .string a.t]) (.agg #[.int .i64 b.k, .int .i64 b.n, .string b.t])).run Tryz.prog w = .ok (.bool (!eqC a b)) w := by
  rw [run_neq_struct, eq39]; rfl
theorem guard39 (op : BinOp) (x y : Operand) (xs ys : Array Value) (w : World) : (eqGuard op 48 x y (.agg xs) (.agg ys)).run Tryz.prog w = .ok () w := run_eqGuard_agg w op 48 x y xs ys (by kernel_rfl)

end Go.Proofs.YtjmfjlffcopnnaaGreatDoor.K

namespace Go.Proofs.YtjmfjlffcopnnaaGreatDoor.K
open Go.RowKit

def SamePost (xs ys : List C) (w : World) (e : Ending) (w' : World) : Prop :=
  Below w.heap.size w w' ∧ ((e = .returned (.bool true) ∧ xs = ys) ∨ (e = .returned (.bool false) ∧ xs ≠ ys))

set_option maxHeartbeats 1000000 in
theorem same_any (p q : Option Addr) (xs ys : List C) (cap cap2 : Nat) (w : World) (ha : RowC w p xs) (hb : RowC w q ys) (hx : xs.length ≤ 140737488355328) : Calls Tryz.prog 35 #[.slice p xs.length cap, .slice q ys.length cap2] w (SamePost xs ys w) := by
  have RA := Lib.hid ha; have RB := Lib.hid hb
  clear ha hb
  by_cases hl : xs.length = ys.length
  · go_enter Tryz.func35, Tryz.ntmps35
    go_wp2
    go_loopw [5] (fun i wr => ∃ j : Nat, j ≤ xs.length ∧ i = .int .i64 j ∧ Hid (∀ i, i < j → xs[i]? = ys[i]?) ∧ Hid (Below w.heap.size w wr)) (fun i _ => xs.length - (intOf i).toNat)
    case atStart => exact ⟨0, Nat.zero_le _, rfl, Lib.hid (fun i h => by omega), Lib.hid (Below.refl _ _)⟩
    case round =>
      obtain ⟨j, hj, rfl, N, B⟩ := hrel
      by_cases hlt : j < xs.length
      · have hc := List.getElem?_eq_getElem hlt
        have hd := List.getElem?_eq_getElem (show j < ys.length by omega)
        generalize xs[j] = c at hc
        generalize ys[j] = d at hd
        obtain ⟨b, o, rfl, hp⟩ := RA.out j c hc
        obtain ⟨b2, o2, rfl, hp2⟩ := RB.out j d hd
        obtain ⟨c0, c1, c2⟩ := hp.below B.out
        obtain ⟨d0, d1, d2⟩ := hp2.below B.out
        obtain ⟨k, n, t⟩ := c
        obtain ⟨k', n', t'⟩ := d
        dsimp only at c0 c1 c2 d0 d1 d2
        have HC := Lib.hid hc; have HD := Lib.hid hd
        clear hc hd hp hp2
        have hlt2 : j < ys.length := by omega
        have hg := fun op x y => guard39 op x y #[.int .i64 k, .int .i64 n, .string t] #[.int .i64 k', .int .i64 n', .string t']
        have hn := neq39 ⟨k, n, t⟩ ⟨k', n', t'⟩
        dsimp only at hn
        cases he : eqC ⟨k, n, t⟩ ⟨k', n', t'⟩ with
        | true =>
          rw [he] at hn
          have HE := Lib.hid he; clear he
          go_wp2
          go_quiet (fail)
          go_wp2
          go_roundw
          case rel => exact ⟨j + 1, by omega, by go_num, Lib.hid (fun i hi => by
                        by_cases hi2 : i < j
                        · exact N.out i hi2
                        · obtain rfl : i = j := by omega
                          rw [HC.out, HD.out, eqC_iff.1 HE.out]), Lib.hid (B.out.trans ((dr_below _ _).mono B.out.size))⟩
          case measure => simp [intOf]; omega
        | false =>
          rw [he] at hn
          have HE := Lib.hid he; clear he
          go_wp2
          go_quiet (fail)
          go_wp2
          go_ret
          refine ⟨B.out.trans ((dr_below _ _).mono B.out.size), .inr ⟨rfl, fun h => ?_⟩⟩
          subst h
          have h1 := HC.out
          rw [HD.out] at h1
          have h2 := HE.out
          rw [eqC_iff.2 (Option.some.inj h1).symm] at h2
          cases h2
      · go_wp2
        go_ret
        refine ⟨B.out, .inl ⟨rfl, List.ext_getElem? fun i => ?_⟩⟩
        by_cases hi : i < j
        · exact N.out i hi
        · rw [List.getElem?_eq_none (by omega), List.getElem?_eq_none (by omega)]
  · have hl' : ((xs.length : Int) != (ys.length : Int)) = true := by simp; omega
    have HL := Lib.hid hl; clear hl
    go_enter Tryz.func35, Tryz.ntmps35
    go_wp2
    go_ret
    exact ⟨Below.refl _ _, .inr ⟨rfl, fun h => HL.out (by rw [h])⟩⟩

end Go.Proofs.YtjmfjlffcopnnaaGreatDoor.K

namespace Go.Proofs.YtjmfjlffcopnnaaGreatDoor.K
open Go.RowKit

def e0 : ByteArray := ⟨#[]⟩

end Go.Proofs.YtjmfjlffcopnnaaGreatDoor.K

namespace Go.Proofs.YtjmfjlffcopnnaaGreatDoor.K
open Go.RowKit

theorem RowC.take {w : World} {p : Option Addr} {cs : List C} (h : RowC w p cs) (k : Nat) : RowC w p (cs.take k) := fun i c hi => h i c (by
  rw [List.getElem?_take] at hi
  split at hi
  · exact hi
  · cases hi)
theorem RowC.drop {w : World} {b o : Nat} {cs : List C} (h : RowC w (some ⟨b, o, none⟩) cs) (k : Nat) : RowC w (some ⟨b, o + k * 3, none⟩) (cs.drop k) := fun i c hi => by
  rw [List.getElem?_drop] at hi
  obtain ⟨b', o', hp, hc⟩ := h _ c hi
  cases hp
  exact ⟨b, o + k * 3, rfl, by rw [show o + k * 3 + i * 3 = o + (k + i) * 3 by omega]; exact hc⟩

end Go.Proofs.YtjmfjlffcopnnaaGreatDoor.K

namespace Go.Proofs.YtjmfjlffcopnnaaGreatDoor.K
open Go.RowKit

theorem cellsC_inv {cs : List C} {j : Nat} {u : Value} (h : (cellsC cs)[j]? = some u) : ∃ c, cs[j / 3]? = some c ∧ (C.cells c)[j % 3]? = some u := by
  have hj := (List.getElem?_eq_some_iff.1 h).1
  rw [cellsC_length] at hj
  have hi : j / 3 < cs.length := by omega
  have hc := List.getElem?_eq_getElem hi
  refine ⟨_, hc, ?_⟩
  obtain ⟨h0, h1, h2⟩ := cellsC_get hc
  have hjj : j = j / 3 * 3 + j % 3 := by omega
  have hm : j % 3 = 0 ∨ j % 3 = 1 ∨ j % 3 = 2 := by omega
  rcases hm with hm | hm | hm
  · rw [hm] at hjj ⊢; rw [hjj, Nat.add_zero, h0] at h; exact h
  · rw [hm] at hjj ⊢; rw [hjj, h1] at h; exact h
  · rw [hm] at hjj ⊢; rw [hjj, h2] at h; exact h

theorem RowC.news {w : World} {b o : Nat} {cs : List C} (h : RowC w (some ⟨b, o, none⟩) cs) : ∀ j u, (cellsC cs)[j]? = some u → w.cell? ((⟨b, o, none⟩ : Addr).add j) = some u := by
  intro j u hu
  obtain ⟨c, hc, hcu⟩ := cellsC_inv hu
  obtain ⟨b', o', hp, h0, h1, h2⟩ := h _ c hc
  cases hp
  rw [add_plain]
  have hjj : j = j / 3 * 3 + j % 3 := by omega
  have hm : j % 3 = 0 ∨ j % 3 = 1 ∨ j % 3 = 2 := by omega
  rcases hm with hm | hm | hm <;> rw [hm] at hcu hjj <;> rw [hjj] <;> simp only [C.cells, List.getElem?_cons_zero, List.getElem?_cons_succ, Option.some.injEq] at hcu <;> subst hcu
  · simpa using h0
  · rw [← Nat.add_assoc]; exact h1
  · rw [← Nat.add_assoc]; exact h2

/-- What copying answers. -/
def CopyPost (cs : List C) (w : World) (e : Ending) (w' : World) : Prop :=
  ∃ v, e = .returned v ∧ Own w' w.heap.size v cs ∧ v ≠ .slice none 0 0 ∧ Below w.heap.size w w'

set_option maxHeartbeats 400000 in
theorem copy_nil (p : Option Addr) (cap : Nat) (w : World) : Calls Tryz.prog 18 #[.slice p 0 cap] w (CopyPost [] w) := by
  obtain ⟨i0, hi, hz0, hz1, hz2⟩ := info_parts info39
  have OW : Hid ((w.alloc (.cells #[] 48)).ownsRow w.heap.size 48 3 (.slice (some ⟨w.heap.size, 0, none⟩) 0 0) 0 []) := Lib.hid (World.ownsRow_lit w #[] 0 (Nat.le_refl _) (by decide) rfl)
  cases p with
  | none =>
    go_enter Tryz.func18, Tryz.ntmps18
    go_wp2
    go_ret
    exact ⟨_, rfl, OW.out, by simp, (Below.refl _ _).alloc (Nat.le_refl _) _⟩
  | some a =>
    go_enter Tryz.func18, Tryz.ntmps18
    go_wp2_with (at_builtin; refine wpList_append_own _ rfl _ _ 22 rfl w.heap.size 48 i0 _ 3 32 Tryz.underlying22 hi hz0 hz1 hz2 rfl (by decide) (.slice (some ⟨w.heap.size, 0, none⟩) 0 0) 0 [] rfl OW.out a 0 cap [] rfl rfl (fun j u h => by simp at h) (fun u h => by simp at h) (by decide) (by decide) (by simp) ?_; intro v' w6 hown hgrow hnn)
    go_ret
    exact ⟨_, rfl, hown, fun h => by have := (hnn.1 h).1; simp at this, ((Below.refl _ _).alloc (Nat.le_refl _) _).grown hgrow (by simp) (fun k h => by cases h; exact Nat.le_refl _)⟩

set_option maxHeartbeats 400000 in
theorem copy_some (b o cap : Nat) (cs : List C) (w : World) (hr : RowC w (some ⟨b, o, none⟩) cs) (hl : cs.length * 32 ≤ 140737488355328) (h0 : 0 < cs.length) : Calls Tryz.prog 18 #[.slice (some ⟨b, o, none⟩) cs.length cap] w (CopyPost cs w) := by
  obtain ⟨i0, hi, hz0, hz1, hz2⟩ := info_parts info39
  have R := Lib.hid hr; clear hr
  have OW : Hid ((w.alloc (.cells #[] 48)).ownsRow w.heap.size 48 3 (.slice (some ⟨w.heap.size, 0, none⟩) 0 0) 0 []) := Lib.hid (World.ownsRow_lit w #[] 0 (Nat.le_refl _) (by decide) rfl)
  have NW : Hid (∀ j u, (cellsC cs)[j]? = some u → (w.alloc (.cells #[] 48)).cell? ((⟨b, o, none⟩ : Addr).add j) = some u) := Lib.hid (R.out.below ((Below.refl _ _).alloc (Nat.le_refl _) _)).news
  go_enter Tryz.func18, Tryz.ntmps18
  go_wp2_with (at_builtin; refine wpList_append_lies _ rfl _ _ 22 rfl w.heap.size 48 i0 _ 3 32 Tryz.underlying22 hi hz0 hz1 hz2 rfl (by decide) (.slice (some ⟨w.heap.size, 0, none⟩) 0 0) 0 [] rfl OW.out ⟨b, o, none⟩ cs.length cap (cellsC cs) rfl (cellsC_length cs) NW.out (cellsC_one cs) h0 (by unfold maxLen; omega) (by omega) (by simp) (w.heap.size + 1) (by simp) ?_; intro g cap' w6 hown hgrow hgg hlt)
  go_ret
  refine ⟨_, rfl, ?_, by simp, ((Below.refl _ _).alloc (Nat.le_refl _) _).grown hgrow (by simp) (fun k h => by cases h; exact Nat.le_refl _)⟩
  simpa [Own] using hown

theorem copy_any (p : Option Addr) (cs : List C) (cap : Nat) (w : World) (hr : RowC w p cs) (hl : cs.length * 32 ≤ 140737488355328) : Calls Tryz.prog 18 #[.slice p cs.length cap] w (CopyPost cs w) := by
  cases cs with
  | nil => exact copy_nil p cap w
  | cons c cs =>
    obtain ⟨b, o, rfl, _⟩ := hr 0 c rfl
    exact copy_some b o cap _ w hr hl (by simp)

def mk : C := ⟨0, 77777, e0⟩

/-- They stand as they were lent. -/
def Lent (w : World) (g : Nat) (cs : List C) : Prop := RowC w (some ⟨g, 0, none⟩) (cs ++ [mk, mk])

theorem Lent.row {w : World} {g : Nat} {cs : List C} (h : Lent w g cs) : RowC w (some ⟨g, 0, none⟩) cs := by
  have := RowC.take h cs.length
  rwa [List.take_left] at this
theorem Lent.below {w w' : World} {g : Nat} {cs : List C} (h : Lent w g cs) (hb : Below w.heap.size w w') : Lent w' g cs := RowC.below h hb

def Mid (xs : List Value) (n : Nat) : Prop := ∀ i, i < n → ∃ z, xs[i * 3 + 1]? = some (.int .i64 z)
theorem Mid.set {xs : List Value} {n : Nat} (h : Mid xs n) (k : Nat) (z : Int) : Mid (xs.set k (.int .i64 z)) n := fun i hi => by
  obtain ⟨y, hy⟩ := h i hi
  rw [List.getElem?_set]
  split
  · rename_i e
    rw [if_pos (by rw [e]; exact (List.getElem?_eq_some_iff.1 hy).1)]
    exact ⟨z, rfl⟩
  · exact ⟨y, hy⟩
theorem Mid.of_cells (cs : List C) : Mid (cellsC cs) cs.length := fun _ hi => ⟨_, (cellsC_get (List.getElem?_eq_getElem hi)).2.1⟩

set_option maxHeartbeats 1000000 in
theorem spoil_any (base : Nat) (v : Value) (cs : List C) (w : World) (ho : Own w base v cs) (hn : cs.length ≤ 4096) :
    Calls Tryz.prog 49 #[v] w fun e w' => e = .returned (.tuple #[]) ∧ w.grownBy w' v.ownBlock := by
  obtain ⟨p, cap, rfl⟩ := ho.form
  have OWN := Lib.hid ho; have X := Lib.hid (Mid.of_cells cs)
  unfold Own at OWN
  generalize cellsC cs = xs at OWN X
  clear ho
  generalize cs.length = n at *
  go_enter Tryz.func49, Tryz.ntmps49
  go_wp2
  go_loopw [2] (fun i wr => ∃ (k : Nat) (ys : List Value), k ≤ n ∧ i = .int .i64 k ∧ Hid (wr.ownsRow base 48 3 (.slice p n cap) n ys) ∧ Hid (Mid ys n) ∧ Hid (w.grownBy wr (Value.slice p n cap).ownBlock)) (fun i _ => n - (intOf i).toNat)
  case atStart => exact ⟨0, xs, Nat.zero_le _, rfl, OWN, X, Lib.hid (grown_refl _ _)⟩
  case round =>
    obtain ⟨k, ys, hk, rfl, O, Y, G⟩ := hrel
    clear OWN X
    by_cases hlt : k < n
    · obtain ⟨g, hp⟩ : ∃ g, p = some ⟨g, 0, none⟩ := by
        rcases O.out.2 with ⟨h, rfl⟩ | ⟨g, _, _, h, _⟩
        · omega
        · cases h; exact ⟨_, rfl⟩
      subst hp
      obtain ⟨z, hz⟩ := Y.out k hlt
      have hc : wr.cell? ⟨g, k * 3 + 1, none⟩ = some (.int .i64 z) := by
        have := O.out.cells (g := g) rfl _ _ hz
        rwa [add_plain, Nat.zero_add] at this
      have hf : wr.frozen? ⟨g, k * 3 + 1, none⟩ = false := World.ownsRow.frozenAt O.out _
      clear hz
      go_wp2
      go_roundw
      case rel =>
        refine ⟨k + 1, ys.set (k * 3 + 1) (.int .i64 _), by omega, by go_num, Lib.hid (owns_set O.out _), Lib.hid (Y.out.set _ _), Lib.hid ?_⟩
        exact grown_set G.out _
      case measure => simp [intOf]; omega
    · go_wp2
      go_end0
      exact ⟨rfl, G.out⟩

end Go.Proofs.YtjmfjlffcopnnaaGreatDoor.K

namespace Go.Proofs.YtjmfjlffcopnnaaGreatDoor.K
open Go.RowKit

set_option maxHeartbeats 400000 in
theorem rmay_any (c : C) (w : World) : Calls Tryz.prog 132 #[.agg #[.int .i64 c.k, .int .i64 c.n, .string c.t]] w fun e w' => e = .returned (.bool (rawB c)) ∧ Below w.heap.size w w' := by
  obtain ⟨k, n, t⟩ := c
  dsimp only
  go_enter Tryz.func132, Tryz.ntmps132
  go_wp2
  all_goals go_ret
  all_goals refine ⟨congrArg (fun b => Ending.returned (Value.bool b)) ?_, (Below.refl _ _).alloc (Nat.le_refl _) _⟩
  all_goals (rw [Bool.eq_iff_iff, rawB_iff]; unfold C.Raw; try rw [isEmpty_size])
  all_goals (dsimp only; generalize t.size = m at *; simp at *; try omega)

set_option maxHeartbeats 400000 in
theorem rsize_any (k n : Int) (t : ByteArray) (w : World) (hs : C.Soft ⟨k, n, t⟩) : Calls Tryz.prog 147 #[.agg #[.int .i64 k, .int .i64 n, .string t]] w fun e w' => e = .returned (.int .i64 (n + t.size)) ∧ Below w.heap.size w w' := by
  rcases hs with ⟨hk, h1, h2⟩ | ⟨hk, h1⟩ <;> dsimp only at hk h1
  · dsimp only at h2
    have hk1 : (k == 1) = false := beq_eq_false_iff_ne.2 (by omega)
    have hz : n + (t.size : Int) = n := by omega
    have HZ := Lib.hid hz
    clear hk h1 h2 hz
    go_enter Tryz.func147, Tryz.ntmps147
    go_wp2
    go_ret
    exact ⟨by rw [HZ.out]; rfl, (Below.refl _ _).alloc (Nat.le_refl _) _⟩
  · subst hk h1
    go_enter Tryz.func147, Tryz.ntmps147
    go_wp2
    go_ret
    exact ⟨by simp, (Below.refl _ _).alloc (Nat.le_refl _) _⟩

set_option maxHeartbeats 1000000 in
theorem radd_none (base : Nat) (r : List C) (c : C) (v : Value) (w : World) (ho : Own w base v r) (hc : c.Soft) (h0 : c.sz = 0) :
    Calls Tryz.prog 133 #[v, c.val] w (AddPost base v r w) := by
  obtain ⟨p, cap, hv⟩ := ho.form
  have O := Lib.hid ho; clear ho
  subst hv
  obtain ⟨k, n, t⟩ := c
  have HS := Lib.hid hc
  have h00 : n + (t.size : Int) = 0 := h0
  have H0 := Lib.hid h00
  clear h0 h00 hc
  unfold C.val
  dsimp only
  go_enter Tryz.func133, Tryz.ntmps133
  go_wp2_with (go_at_call 147; refine (rsize_any _ _ _ _ HS.out).mono ?_; rintro e w2 ⟨rfl, hb2⟩; rw [H0.out])
  go_ret
  have hb : Below w.heap.size w w2 := (((Below.refl _ _).alloc (Nat.le_refl _) _).trans (hb2.mono (by simp)))
  exact ⟨_, rfl, O.out.below hb, grown_of_below hb _, fun g h => .inl h⟩

set_option maxHeartbeats 1000000 in
theorem radd_first (base : Nat) (c : C) (v : Value) (w : World) (ho : Own w base v []) (hbase : base ≤ w.heap.size) (hf : Fit c) (hc : c.Soft) (h0 : 0 < c.sz) :
    Calls Tryz.prog 133 #[v, c.val] w (AddPost base v [c] w) := by
  obtain ⟨i0, hi, hz0, hz1, hz2⟩ := info_parts info39
  obtain ⟨p, cap, hv⟩ := ho.form
  have O := Lib.hid ho; clear ho
  subst hv
  obtain ⟨k, n, t⟩ := c
  have HS := Lib.hid hc
  obtain ⟨f1, f2, f3⟩ := hf
  dsimp only at f1 f2 f3
  have h00 : ((n + (t.size : Int)) == 0) = false := beq_eq_false_iff_ne.2 (by unfold C.sz at h0; dsimp only at h0; omega)
  clear h0 hc
  unfold C.val
  dsimp only [List.length_nil]
  go_enter Tryz.func133, Tryz.ntmps133
  go_wp2_with (go_at_call 147; refine (rsize_any _ _ _ _ HS.out).mono ?_; rintro e w2 ⟨rfl, hb2⟩)
  have X2 := Lib.hid ((Box.new w k n t).below hb2)
  clear hb2
  go_quiet (fail)
  have X3 := Lib.hid (X2.out.dr nq)
  generalize w2.drewN nq = w3 at X3 ⊢
  clear X2
  obtain ⟨d0, d1, d2⟩ := X3.out.cells
  have B3 : Hid (∀ o, Below w.heap.size w (w3.alloc o)) := Lib.hid (fun o => X3.out.1.alloc X3.out.1.size o)
  go_wp2_with (at_builtin; refine wpList_append_lies _ rfl _ _ 22 rfl base 48 i0 _ 3 32 Tryz.underlying22 hi hz0 hz1 hz2 rfl (by decide) (.slice p 0 cap) 0 [] rfl (O.out.below (B3.out _)) ⟨w3.heap.size, 0, none⟩ 1 1 (C.cells ⟨k, n, t⟩) rfl rfl (three_new rfl ⟨k, n, t⟩) (cells_one _) (by decide) (by unfold maxLen; omega) (by omega) (Nat.le_trans hbase (B3.out _).size) (w3.heap.size + 1) (by simp) ?_; intro g cap' w6 hown hgrow hgg hlt)
  go_ret
  exact AddPost.of_append (cs := []) (B3.out _) rfl hown hgrow (by simpa using hgg)

end Go.Proofs.YtjmfjlffcopnnaaGreatDoor.K
