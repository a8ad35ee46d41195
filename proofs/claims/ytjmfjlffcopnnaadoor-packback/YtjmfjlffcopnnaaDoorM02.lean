/-
  KW3, KW4, KW5, KW6, KW7, KExt, KW8, in one text. Conditions: as each theorem's premises say.
-/
import Derived.Test.YtjmfjlffcopnnaaDoorM01
import Derived.BigQuiet
import Derived.Deep.RegionHeld3
import Derived.Deep.RegionLaw
import Derived.IntWalk
import Derived.BigRegion
import Derived.Below
import Derived.WalkKit
import Derived.WalkSpells
namespace Go.Proofs.YtjmfjlffcopnnaaDoor.K
open Go.RowKit

end Go.Proofs.YtjmfjlffcopnnaaDoor.K

namespace Go.Proofs.YtjmfjlffcopnnaaDoor.K
open Go.RowKit

theorem follows_yes (a b : Int) (w : World) (h : fol a b) : Calls Tryd.prog 69 #[.int .i64 a, .int .i64 b] w fun e w' => e = .returned (.bool true) ∧ w' = w := by
  refine (follows_any a b w).mono ?_
  rintro e w' ⟨rfl, rfl⟩
  exact ⟨by rw [decide_eq_true h], rfl⟩
theorem follows_no (a b : Int) (w : World) (h : ¬ fol a b) : Calls Tryd.prog 69 #[.int .i64 a, .int .i64 b] w fun e w' => e = .returned (.bool false) ∧ w' = w := by
  refine (follows_any a b w).mono ?_
  rintro e w' ⟨rfl, rfl⟩
  exact ⟨by rw [decide_eq_false h], rfl⟩

end Go.Proofs.YtjmfjlffcopnnaaDoor.K

namespace Go.Proofs.YtjmfjlffcopnnaaDoor.K
open Go.RowKit

end Go.Proofs.YtjmfjlffcopnnaaDoor.K

namespace Go.Proofs.YtjmfjlffcopnnaaDoor.K
open Go.RowKit

theorem cell_far' {w5 W w6 : World} {g : Nat} {a : Addr} {u : Value} (hB : Below w5.heap.size w5 W) (hg : W.grownBy w6 (some g)) (h : w5.cell? a = some u) (hne : a.block ≠ g) : w6.cell? a = some u :=
  (hg.cell_far a (Nat.lt_of_lt_of_le (World.block_lt_of_cell? w5 a h) hB.size) (by simpa using hne)).trans (cell_later hB h)

theorem news_far {w5 w6 : World} {g : Nat} (c : C) (hg : ((w5.alloc (.cells #[.int .i64 c.k, .int .i64 c.n, .string c.t] 42)).drew).grownBy w6 (some g)) (hne : w5.heap.size ≠ g) : ∀ j u, (C.cells c)[j]? = some u → w6.cell? ((⟨w5.heap.size, 0, none⟩ : Addr).add j) = some u := fun j u hu => by
  have h := three_new (w := w5) rfl c j u hu
  rw [add_plain] at h ⊢
  exact (hg.cell_far _ (by simp) (by simpa using hne)).trans h

theorem AddPost.of_behind {base g n cap n' g3 cap3 : Nat} {v2 : Value} {out : List C} {l : C} {w W w6 W6 w7 : World} (hB : Below w.heap.size w W) (h1 : W.grownBy w6 (some g)) (h2 : ∀ h, v2.ownBlock = some h → some g = some h ∨ W.heap.size ≤ h) (hB6 : Below w6.heap.size w6 W6) (hg : W6.grownBy w7 v2.ownBlock) (hgg : v2.ownBlock = some g3 ∨ w6.heap.size ≤ g3)
    (hn : n' = out.length + 1) (ho : w7.ownsRow base 42 3 (.slice (some ⟨g3, 0, none⟩) n' cap3) n' (cellsC out ++ C.cells l)) :
    AddPost base (.slice (some ⟨g, 0, none⟩) n cap) (out ++ [l]) w (.returned (.slice (some ⟨g3, 0, none⟩) n' cap3)) w7 := by
  have s1 := hB.size
  have s2 := h1.size
  refine ⟨_, rfl, ?_, ?_, ?_⟩
  · unfold Own
    rw [List.length_append, List.length_singleton, ← hn, cellsC_append]
    have : cellsC [l] = C.cells l := by simp [cellsC]
    rw [this]; exact ho
  · refine grown_trans (grown_trans (grown_trans (grown_of_below hB _) h1 (fun g h => .inl h)) (grown_of_below hB6 none) (fun g h => by cases h)) hg (fun h e => ?_)
    rcases h2 h e with h | h
    · exact .inl h
    · right; omega
  · intro g' h
    simp only [Value.ownBlock, Option.some.injEq] at h ⊢
    subst h
    rcases hgg with h | h
    · rcases h2 _ h with h | h
      · left; simpa using h
      · right; omega
    · right; omega

theorem addR_bound (c : C) (r : List C) (h : r.length ≤ 8192) : (addR r c).length ≤ 8193 := by
  have := addR_length c r
  omega

end Go.Proofs.YtjmfjlffcopnnaaDoor.K

namespace Go.Proofs.YtjmfjlffcopnnaaDoor.K
open Go.RowKit

theorem fit_norm {cs : List C} (h : ∀ c ∈ cs, c.Raw) (hl : cs.length ≤ 4096) : ∀ x ∈ normOf cs, Fit x := by
  intro x hx
  have hs := soft_all h
  have s := normOf_soft cs hs x hx
  have a := mem_le_sum (f := fromC) (fun c hc => from_nonneg (normOf_soft cs hs c hc)) hx
  have b := mem_le_sum (f := toC) (fun c hc => to_nonneg (normOf_soft cs hs c hc)) hx
  rw [sum_normOf from_join from_zero cs hs] at a
  rw [sum_normOf to_join to_zero cs hs] at b
  have a1 := Int.le_trans a (sum_bounds from_bounds cs h).2
  have b1 := Int.le_trans b (sum_bounds to_bounds cs h).2
  clear a b
  unfold C.Soft at s
  unfold fromC at a1
  unfold toC C.sz at b1
  unfold Fit
  rcases s with s | s
  · rw [if_neg (by omega)] at a1; omega
  · rw [if_neg (by omega)] at b1; omega
theorem fit_raw {c : C} (h : c.Raw) : Fit c := by unfold C.Raw at h; unfold Fit; omega

def NormPost (cs : List C) (w : World) (e : Ending) (w' : World) : Prop :=
  Below w.heap.size w w' ∧ ((okB cs = true ∧ ∃ v, e = .returned (.tuple #[v, .int .i64 0]) ∧ Own w' w.heap.size v (normOf cs)) ∨ (okB cs = false ∧ e = .returned (.tuple #[.slice none 0 0, .int .i64 200])))

theorem raw_take {cs : List C} (h : ∀ c ∈ cs, c.Raw) (j : Nat) : ∀ c ∈ cs.take j, c.Raw := fun c hc => h c (List.mem_of_mem_take hc)
theorem normOf_take_succ {cs : List C} {j : Nat} {c : C} (h : cs[j]? = some c) : normOf (cs.take (j + 1)) = addC (normOf (cs.take j)) c := by
  rw [List.take_add_one, h]; exact normOf_snoc _ _

theorem AddPost.below {base : Nat} {v : Value} {out cs : List C} {w w1 : World} {e : Ending} {B : Nat} {w0 : World} (h : AddPost base v out w e w1) (hO : Own w base v cs) (hB : Below B w0 w) (hb : B ≤ base) (hs : B ≤ w.heap.size) : Below B w0 w1 := by
  obtain ⟨v', rfl, _, hg, _⟩ := h
  exact hB.grown hg hs (fun k hk => Nat.le_trans hb (hO.lt hk).1)

end Go.Proofs.YtjmfjlffcopnnaaDoor.K

namespace Go.Proofs.YtjmfjlffcopnnaaDoor.K
open Go.RowKit

/-- A world in which all that was there in w is as it was. -/
def Ext (w : World) : Type := { W : World // Below w.heap.size w W }
instance (w : World) : Nonempty (Ext w) := ⟨⟨w, Below.refl _ _⟩⟩
def Ext.w {w : World} (X : Ext w) : World := X.1
theorem Ext.below {w : World} (X : Ext w) : Below w.heap.size w X.w := X.2
theorem Ext.cell {w : World} {a : Addr} {v : Value} (h : w.cell? a = some v) (X : Ext w) : X.w.cell? a = some v := cell_later X.below h
theorem wp_region_ext {P : Program} {id : Nat} {Q : Exit → Act → World → Prop} {a : Act} {w : World} {l : List Oper} (hm : P.follows .mixedOrders = true) (hB : Region.lexB .any l.toArray = true)
    (h : wpQuiet P l.toArray (fun w' => ∃ X : Ext w, w' = X.w) (fun a' => ∀ w', (∃ X : Ext w, w' = X.w) → Q .normal a' w') l a) : (Code.region id l.toArray true).wp P Q a w :=
  wp_region_quiet (C := fun w' => ∃ X : Ext w, w' = X.w) hm hB ⟨⟨{ w with drawn := w.drawn + 1 }, ⟨rfl, rfl, rfl, Nat.le_refl _, fun _ _ => rfl⟩⟩, rfl⟩ (by simpa using h)
theorem Ext.calls {P : Program} {f : FuncId} {args : Array Value} {w : World} {X : Ext w} {v : Value} (h : Calls P f args X.w fun e w' => e = .returned v ∧ Below X.w.heap.size X.w w') :
    Calls P f args X.w fun e w'' => e = .returned v ∧ ∃ Y : Ext w, w'' = Y.w :=
  h.mono fun _ w'' ⟨he, hb⟩ => ⟨he, ⟨w'', X.below.trans (hb.mono X.below.size)⟩, rfl⟩

end Go.Proofs.YtjmfjlffcopnnaaDoor.K

namespace Go.Proofs.YtjmfjlffcopnnaaDoor.K
open Go.RowKit

def NormAt (cs : List C) (i : Nat) : Prop := ∀ c, cs[i]? = some c → c.sz ≠ 0 ∧ ∀ l, (i = 0 → False) → cs[i - 1]? = some l → fol l.k c.k

theorem norm_of {cs : List C} (h : ∀ i, i < cs.length → NormAt cs i) : Norm cs := fun i c hi => h i (List.getElem?_eq_some_iff.1 hi).1 c hi

def NmPost (cs : List C) (w : World) (e : Ending) (w' : World) : Prop :=
  Below w.heap.size w w' ∧ ((e = .returned (.bool true) ∧ Norm cs) ∨ (e = .returned (.bool false) ∧ ¬ Norm cs))

set_option maxHeartbeats 2000000 in
theorem nm_any (p : Option Addr) (cs : List C) (cap : Nat) (w : World) (hr : RowC w p cs) (hl : cs.length ≤ 4096) (hraw : ∀ c ∈ cs, c.Raw) : Calls Tryd.prog 46 #[.slice p cs.length cap] w (NmPost cs w) := by
  have R := Lib.hid hr; have RAW := Lib.hid hraw
  clear hr hraw
  go_enter Tryd.func46, Tryd.ntmps46
  go_wp2_with (go_at_call 68; fail)
  go_loopw [7] (fun i wr => ∃ j : Nat, j ≤ cs.length ∧ i = .int .i64 j ∧ Hid (∀ i, i < j → NormAt cs i) ∧ Hid (Below w.heap.size w wr)) (fun i _ => cs.length - (intOf i).toNat)
  case atStart => exact ⟨0, Nat.zero_le _, rfl, Lib.hid (fun i h => by omega), Lib.hid (Below.refl _ _)⟩
  case round =>
    obtain ⟨j, hj, rfl, N, B⟩ := hrel
    by_cases hlt : j < cs.length
    · have hc := List.getElem?_eq_getElem hlt
      generalize cs[j] = c at hc
      have hcr := RAW.out c (List.mem_of_getElem? hc)
      have hfit := fit_raw hcr
      have HC := Lib.hid hc
      obtain ⟨b, o, rfl, hp⟩ := R.out j c hc
      obtain ⟨c0, c1, c2⟩ := hp.below B.out
      obtain ⟨k, n, t⟩ := c
      dsimp only at c0 c1 c2
      obtain ⟨f1, f2, f3⟩ := hfit
      dsimp only at f1 f2 f3
      clear hc hcr hp
      have X1 : Hid (Box w (wr.alloc (.cells #[.int .i64 k, .int .i64 n, .string t] 42)) wr.heap.size ⟨k, n, t⟩) := Lib.hid ⟨B.out.alloc B.out.size _, (Box.new wr k n t).2.1, (Box.new wr k n t).2.2.1, B.out.size, (Box.new wr k n t).2.2.2.2⟩
      by_cases hz : n + (t.size : Int) = 0
      · have hz' : ((n + (t.size : Int)) == 0) = true := beq_iff_eq.2 hz
        have HZ := Lib.hid hz
        clear hz
        go_wp2_with (go_at_call 68; fail)
        generalize wr.alloc (.cells #[.int .i64 k, .int .i64 n, .string t] 42) = w1 at X1 ⊢
        generalize wr.heap.size = bx at X1 ⊢
        clear c0 c1 c2
        obtain ⟨d0, d1, d2⟩ := X1.out.cells
        have x0 : ∀ X : Ext w1, X.w.cell? ⟨bx, 0, none⟩ = some (.int .i64 k) := fun X => X.cell d0
        have x1 : ∀ X : Ext w1, X.w.cell? ⟨bx, 1, none⟩ = some (.int .i64 n) := fun X => X.cell d1
        have x2 : ∀ X : Ext w1, X.w.cell? ⟨bx, 2, none⟩ = some (.string t) := fun X => X.cell d2
        refine wp_region_ext (by kernel_rfl) (by kernel_rfl) ?_
        repeat (go_big_quiet_step ((go_at_call 68; exact Ext.calls (size_any _ _ _ _ f1 f2 f3))))
        refine wpQuiet_nil ?_
        rintro _ ⟨X, rfl⟩
        clear x0 x1 x2
        go_wp2_with (go_at_call 68; fail)
        go_ret
        exact ⟨X1.out.1.trans (X.below.mono X1.out.1.size), .inr ⟨rfl, fun h => (h j _ HC.out).1 HZ.out⟩⟩
      · have hz' : ((n + (t.size : Int)) == 0) = false := beq_eq_false_iff_ne.2 hz
        have HZ := Lib.hid hz
        clear hz
        rcases Nat.eq_zero_or_pos j with hj0 | hj0
        · subst hj0
          simp only [Nat.zero_mul, Nat.add_zero] at c0 c1 c2
          go_wp2_with (go_at_call 68; fail)
          generalize wr.alloc (.cells #[.int .i64 k, .int .i64 n, .string t] 42) = w1 at X1 ⊢
          generalize wr.heap.size = bx at X1 ⊢
          clear c0 c1 c2
          obtain ⟨d0, d1, d2⟩ := X1.out.cells
          have x0 : ∀ X : Ext w1, X.w.cell? ⟨bx, 0, none⟩ = some (.int .i64 k) := fun X => X.cell d0
          have x1 : ∀ X : Ext w1, X.w.cell? ⟨bx, 1, none⟩ = some (.int .i64 n) := fun X => X.cell d1
          have x2 : ∀ X : Ext w1, X.w.cell? ⟨bx, 2, none⟩ = some (.string t) := fun X => X.cell d2
          refine wp_region_ext (by kernel_rfl) (by kernel_rfl) ?_
          repeat (go_big_quiet_step ((go_at_call 68; exact Ext.calls (size_any _ _ _ _ f1 f2 f3))))
          refine wpQuiet_nil ?_
          rintro _ ⟨X, rfl⟩
          clear x0 x1 x2
          go_wp2_with (go_at_call 68; fail)
          go_roundw
          case rel => exact ⟨1, hlt, rfl, Lib.hid (fun i hi => by obtain rfl : i = 0 := by omega
                                                                  exact fun c hc => by rw [HC.out] at hc; cases hc; exact ⟨HZ.out, fun l h0 => absurd rfl h0⟩), Lib.hid (X1.out.1.trans (X.below.mono X1.out.1.size))⟩
          case measure => simp [intOf]; omega
        · obtain ⟨q, rfl⟩ : ∃ q, j = q + 1 := ⟨j - 1, by omega⟩
          have hq := List.getElem?_eq_getElem (show q < cs.length by omega)
          generalize cs[q] = l at hq
          have HQ := Lib.hid hq
          obtain ⟨b', o', hbo, hpl⟩ := R.out q l hq
          cases hbo
          have a0 := (hpl.below B.out).1
          obtain ⟨lk, ln, lt⟩ := l
          dsimp only at a0
          have A0 : Hid ((wr.alloc (.cells #[.int .i64 k, .int .i64 n, .string t] 42)).cell? ⟨b, o + q * 3, none⟩ = some (.int .i64 lk)) := Lib.hid (cell_later ((Below.refl _ _).alloc (Nat.le_refl _) _) a0)
          clear hq hpl a0
          by_cases hf : fol lk k
          · have HF := Lib.hid hf; clear hf
            go_wp2_with (go_at_call 68; fail)
            generalize wr.alloc (.cells #[.int .i64 k, .int .i64 n, .string t] 42) = w1 at X1 A0 ⊢
            generalize wr.heap.size = bx at X1 ⊢
            clear c0 c1 c2
            obtain ⟨d0, d1, d2⟩ := X1.out.cells
            have x0 : ∀ X : Ext w1, X.w.cell? ⟨bx, 0, none⟩ = some (.int .i64 k) := fun X => X.cell d0
            have x1 : ∀ X : Ext w1, X.w.cell? ⟨bx, 1, none⟩ = some (.int .i64 n) := fun X => X.cell d1
            have x2 : ∀ X : Ext w1, X.w.cell? ⟨bx, 2, none⟩ = some (.string t) := fun X => X.cell d2
            have x3 : ∀ X : Ext w1, X.w.cell? ⟨b, o + q * 3, none⟩ = some (.int .i64 lk) := fun X => X.cell A0.out
            have y1 : (0 : Int) ≤ (q : Int) := by omega
            have y2 : (q : Int) < (cs.length : Int) := by omega
            have y3 : (0 : Int) < (q : Int) + 1 := by omega
            refine wp_region_ext (by kernel_rfl) (by kernel_rfl) ?_
            repeat (go_big_quiet_step (first | (go_at_call 68; exact Ext.calls (size_any _ _ _ _ f1 f2 f3)) | (go_at_call 69; exact Ext.calls ((follows_yes _ _ _ HF.out).mono (by rintro e w' ⟨rfl, rfl⟩; exact ⟨rfl, Below.refl _ _⟩)))))
            refine wpQuiet_nil ?_
            rintro _ ⟨X, rfl⟩
            clear x0 x1 x2 x3
            go_wp2_with (go_at_call 68; fail)
            go_roundw
            case rel => exact ⟨q + 2, by omega, by go_num, Lib.hid (fun i hi => by
                          by_cases hi2 : i < q + 1
                          · exact N.out i hi2
                          · obtain rfl : i = q + 1 := by omega
                            exact fun c hc => by rw [HC.out] at hc; cases hc; exact ⟨HZ.out, fun l _ hl => by rw [show q + 1 - 1 = q by omega, HQ.out] at hl; cases hl; exact HF.out⟩), Lib.hid (X1.out.1.trans (X.below.mono X1.out.1.size))⟩
            case measure => simp [intOf]; omega
          · have HF := Lib.hid hf; clear hf
            go_wp2_with (go_at_call 68; fail)
            generalize wr.alloc (.cells #[.int .i64 k, .int .i64 n, .string t] 42) = w1 at X1 A0 ⊢
            generalize wr.heap.size = bx at X1 ⊢
            clear c0 c1 c2
            obtain ⟨d0, d1, d2⟩ := X1.out.cells
            have x0 : ∀ X : Ext w1, X.w.cell? ⟨bx, 0, none⟩ = some (.int .i64 k) := fun X => X.cell d0
            have x1 : ∀ X : Ext w1, X.w.cell? ⟨bx, 1, none⟩ = some (.int .i64 n) := fun X => X.cell d1
            have x2 : ∀ X : Ext w1, X.w.cell? ⟨bx, 2, none⟩ = some (.string t) := fun X => X.cell d2
            have x3 : ∀ X : Ext w1, X.w.cell? ⟨b, o + q * 3, none⟩ = some (.int .i64 lk) := fun X => X.cell A0.out
            have y1 : (0 : Int) ≤ (q : Int) := by omega
            have y2 : (q : Int) < (cs.length : Int) := by omega
            have y3 : (0 : Int) < (q : Int) + 1 := by omega
            refine wp_region_ext (by kernel_rfl) (by kernel_rfl) ?_
            repeat (go_big_quiet_step (first | (go_at_call 68; exact Ext.calls (size_any _ _ _ _ f1 f2 f3)) | (go_at_call 69; exact Ext.calls ((follows_no _ _ _ HF.out).mono (by rintro e w' ⟨rfl, rfl⟩; exact ⟨rfl, Below.refl _ _⟩)))))
            refine wpQuiet_nil ?_
            rintro _ ⟨X, rfl⟩
            clear x0 x1 x2 x3
            go_wp2_with (go_at_call 68; fail)
            go_ret
            exact ⟨X1.out.1.trans (X.below.mono X1.out.1.size), .inr ⟨rfl, fun h => HF.out ((h (q + 1) _ HC.out).2 _ (by omega) HQ.out)⟩⟩
    · go_wp2_with (go_at_call 68; fail)
      go_ret
      exact ⟨B.out, .inl ⟨rfl, norm_of fun i hi => N.out i (by omega)⟩⟩

end Go.Proofs.YtjmfjlffcopnnaaDoor.K
