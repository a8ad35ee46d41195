/-
  KW9, KEq, KW10, KW11, KSizes, KW12, KW13, KW14, KW15, KW16, KArgs, in one text. Conditions: as each theorem's premises say.
-/
import Derived.Test.YtjmfjlffcopnnaaDoorM02
import Derived.Laws.StructEq
import Derived.Laws.OwnMore
import Derived.Maps.AppendAt
import Derived.Test.YtjmfjlffcopnnaaDoorM01
import Derived.ProofKit
import Derived.OpenShut
import Derived.Deep.Slices
import Derived.SizedLaws
namespace Go.Proofs.YtjmfjlffcopnnaaDoor.K
open Go.RowKit

def MayP (cs : List C) : Prop := okB cs = true ∧ Norm cs

def MayPost (cs : List C) (w : World) (e : Ending) (w' : World) : Prop :=
  Below w.heap.size w w' ∧ ((e = .returned (.bool true) ∧ MayP cs) ∨ (e = .returned (.bool false) ∧ ¬ MayP cs))

set_option maxHeartbeats 1000000 in
theorem may_any (p : Option Addr) (cs : List C) (cap : Nat) (w : World) (hr : RowC w p cs) : Calls Tryd.prog 17 #[.slice p cs.length cap] w (MayPost cs w) := by
  have R := Lib.hid hr; clear hr
  cases hok : okB cs with
  | false =>
    have HOK := Lib.hid hok; clear hok
    go_enter Tryd.func17, Tryd.ntmps17
    go_wp2_with (go_at_call 45; refine (measure_any _ _ _ _ R.out).mono ?_; rintro e w1 ⟨rfl, hb1⟩; rw [HOK.out]; dsimp only [Bool.false_eq_true, if_false])
    go_ret
    exact ⟨hb1, .inr ⟨rfl, fun h => by have := h.1; rw [HOK.out] at this; cases this⟩⟩
  | true =>
    have HOK := Lib.hid hok; clear hok
    have hl : cs.length ≤ 4096 := (okB_iff.1 HOK.out).1
    have RAW : Hid (∀ c ∈ cs, c.Raw) := Lib.hid (okB_iff.1 HOK.out).2.1
    by_cases hn : Norm cs
    · have HN := Lib.hid hn; clear hn
      go_enter Tryd.func17, Tryd.ntmps17
      go_wp2_with (first | (go_at_call 45; refine (measure_any _ _ _ _ R.out).mono ?_; rintro e w1 ⟨rfl, hb1⟩; rw [HOK.out]; dsimp only [if_true]; have B1 := Lib.hid hb1; clear hb1) | (go_at_call 46; refine (nm_any _ _ _ _ (R.out.below B1.out) hl RAW.out).mono ?_; rintro e w2 ⟨hb2, ⟨rfl, -⟩ | ⟨-, hno⟩⟩; rotate_left; exact absurd HN.out hno; have B2 := Lib.hid hb2; clear hb2))
      go_ret
      exact ⟨B1.out.trans (B2.out.mono B1.out.size), .inl ⟨rfl, HOK.out, HN.out⟩⟩
    · have HN := Lib.hid hn; clear hn
      go_enter Tryd.func17, Tryd.ntmps17
      go_wp2_with (first | (go_at_call 45; refine (measure_any _ _ _ _ R.out).mono ?_; rintro e w1 ⟨rfl, hb1⟩; rw [HOK.out]; dsimp only [if_true]; have B1 := Lib.hid hb1; clear hb1) | (go_at_call 46; refine (nm_any _ _ _ _ (R.out.below B1.out) hl RAW.out).mono ?_; rintro e w2 ⟨hb2, ⟨-, hyes⟩ | ⟨rfl, -⟩⟩; exact absurd hyes HN.out; have B2 := Lib.hid hb2; clear hb2))
      go_ret
      exact ⟨B1.out.trans (B2.out.mono B1.out.size), .inr ⟨rfl, fun h => HN.out h.2⟩⟩

def LenPost (cs : List C) (w : World) (e : Ending) (w' : World) : Prop :=
  Below w.heap.size w w' ∧ ((e = .returned (.tuple #[.int .i64 (sumOf fromC cs), .int .i64 (sumOf toC cs), .int .i64 0]) ∧ MayP cs) ∨ (e = .returned (.tuple #[.int .i64 0, .int .i64 0, .int .i64 200]) ∧ ¬ MayP cs))

end Go.Proofs.YtjmfjlffcopnnaaDoor.K

namespace Go.Proofs.YtjmfjlffcopnnaaDoor.K
open Go.RowKit

def eqC (a b : C) : Bool := a.k == b.k && (a.n == b.n && a.t.toList == b.t.toList)
theorem eqC_iff {a b : C} : eqC a b = true ↔ a = b := by
  obtain ⟨k, n, t⟩ := a
  obtain ⟨k', n', t'⟩ := b
  simp only [eqC, Bool.and_eq_true, beq_iff_eq, C.mk.injEq, Lib.toList_data]
  constructor
  · rintro ⟨h1, h2, h3⟩
    exact ⟨h1, h2, ByteArray.ext (Array.ext' h3)⟩
  · rintro ⟨h1, h2, h3⟩
    exact ⟨h1, h2, by rw [h3]⟩

theorem eq39 (a b : C) (w : World) : (Op.equalIn 10000 42 (.agg #[.int .i64 a.k, .int .i64 a.n, .string a.t]) (.agg #[.int .i64 b.k, .int .i64 b.n, .string b.t])).run Tryd.prog w = .ok (eqC a b) w := by
  have u3 := Tryd.underlying3
  have a3 := Tryd.isAgg3
  have z3 := Tryd.sizeOf3
  have u9 := Tryd.underlying9
  have a9 := Tryd.isAgg9
  have z9 := Tryd.sizeOf9
  have hS : Tryd.prog.underlying 42 = some (.struct (Tryd.prog.fieldsOf 42)) := by kernel_rfl
  have hp : Tryd.prog.stoodInHeld 42 = false := by kernel_rfl
  rw [show (10000 : Nat) = 9999 + 1 from rfl, run_equalIn_agg w 9999 42 _ _ hS hp]
  simp only [Program.fieldsOf, Tryd.underlying42]
  go_simp
  unfold eqC
  by_cases h1 : a.k = b.k <;> by_cases h2 : a.n = b.n <;> by_cases h3 : a.t.toList = b.t.toList <;> simp [h1, h2, h3]

theorem eql39 (a b : C) (w : World) : (binOp .eql 42 (.agg #[.int .i64 a.k, .int .i64 a.n, .string a.t]) (.agg #[.int .i64 b.k, .int .i64 b.n, .string b.t])).run Tryd.prog w = .ok (.bool (eqC a b)) w := by
  rw [run_eql_struct, eq39]; rfl
theorem neq39 (a b : C) (w : World) : (binOp .neq 42 (.agg #[.int .i64 a.k, .int .i64 a.n, .string a.t]) (.agg #[.int .i64 b.k, .int .i64 b.n, .string b.t])).run Tryd.prog w = .ok (.bool (!eqC a b)) w := by
  rw [run_neq_struct, eq39]; rfl
theorem guard39 (op : BinOp) (x y : Operand) (xs ys : Array Value) (w : World) : (eqGuard op 42 x y (.agg xs) (.agg ys)).run Tryd.prog w = .ok () w := run_eqGuard_agg w op 42 x y xs ys (by kernel_rfl)

end Go.Proofs.YtjmfjlffcopnnaaDoor.K

namespace Go.Proofs.YtjmfjlffcopnnaaDoor.K
open Go.RowKit

def SamePost (xs ys : List C) (w : World) (e : Ending) (w' : World) : Prop :=
  Below w.heap.size w w' ∧ ((e = .returned (.bool true) ∧ xs = ys) ∨ (e = .returned (.bool false) ∧ xs ≠ ys))

set_option maxHeartbeats 1000000 in
theorem same_any (p q : Option Addr) (xs ys : List C) (cap cap2 : Nat) (w : World) (ha : RowC w p xs) (hb : RowC w q ys) (hx : xs.length ≤ 140737488355328) : Calls Tryd.prog 14 #[.slice p xs.length cap, .slice q ys.length cap2] w (SamePost xs ys w) := by
  have RA := Lib.hid ha; have RB := Lib.hid hb
  clear ha hb
  by_cases hl : xs.length = ys.length
  · go_enter Tryd.func14, Tryd.ntmps14
    go_wp2
    go_loopw [5] (fun i wr => ∃ j : Nat, j ≤ xs.length ∧ i = .int .i64 j ∧ Hid (∀ i, i < j → xs[i]? = ys[i]?) ∧ Hid (Below w.heap.size w wr)) (fun i _ => xs.length - (intOf i).toNat)
    case atStart => exact ⟨0, Nat.zero_le _, rfl, Lib.hid (fun i h => by omega), Lib.hid (Below.refl _ _)⟩
    case round =>
      obtain ⟨j, hj, rfl, N, B⟩ := hrel
      by_cases hlt : j < xs.length
      · have hc := List.getElem?_eq_getElem hlt
        have hd := List.getElem?_eq_getElem (show j < ys.length by omega)
        generalize xs[j] = c at hc
        generalize ys[j] = d at hd
        obtain ⟨b, o, rfl, hp⟩ := RA.out j c hc
        obtain ⟨b2, o2, rfl, hp2⟩ := RB.out j d hd
        obtain ⟨c0, c1, c2⟩ := hp.below B.out
        obtain ⟨d0, d1, d2⟩ := hp2.below B.out
        obtain ⟨k, n, t⟩ := c
        obtain ⟨k', n', t'⟩ := d
        dsimp only at c0 c1 c2 d0 d1 d2
        have HC := Lib.hid hc; have HD := Lib.hid hd
        clear hc hd hp hp2
        have hlt2 : j < ys.length := by omega
        have hg := fun op x y => guard39 op x y #[.int .i64 k, .int .i64 n, .string t] #[.int .i64 k', .int .i64 n', .string t']
        have hn := neq39 ⟨k, n, t⟩ ⟨k', n', t'⟩
        dsimp only at hn
        cases he : eqC ⟨k, n, t⟩ ⟨k', n', t'⟩ with
        | true =>
          rw [he] at hn
          have HE := Lib.hid he; clear he
          go_wp2
          go_quiet (fail)
          go_wp2
          go_roundw
          case rel => exact ⟨j + 1, by omega, by go_num, Lib.hid (fun i hi => by
                        by_cases hi2 : i < j
                        · exact N.out i hi2
                        · obtain rfl : i = j := by omega
                          rw [HC.out, HD.out, eqC_iff.1 HE.out]), Lib.hid (B.out.trans ((dr_below _ _).mono B.out.size))⟩
          case measure => simp [intOf]; omega
        | false =>
          rw [he] at hn
          have HE := Lib.hid he; clear he
          go_wp2
          go_quiet (fail)
          go_wp2
          go_ret
          refine ⟨B.out.trans ((dr_below _ _).mono B.out.size), .inr ⟨rfl, fun h => ?_⟩⟩
          subst h
          have h1 := HC.out
          rw [HD.out] at h1
          have h2 := HE.out
          rw [eqC_iff.2 (Option.some.inj h1).symm] at h2
          cases h2
      · go_wp2
        go_ret
        refine ⟨B.out, .inl ⟨rfl, List.ext_getElem? fun i => ?_⟩⟩
        by_cases hi : i < j
        · exact N.out i hi
        · rw [List.getElem?_eq_none (by omega), List.getElem?_eq_none (by omega)]
  · have hl' : ((xs.length : Int) != (ys.length : Int)) = true := by simp; omega
    have HL := Lib.hid hl; clear hl
    go_enter Tryd.func14, Tryd.ntmps14
    go_wp2
    go_ret
    exact ⟨Below.refl _ _, .inr ⟨rfl, fun h => HL.out (by rw [h])⟩⟩

end Go.Proofs.YtjmfjlffcopnnaaDoor.K

namespace Go.Proofs.YtjmfjlffcopnnaaDoor.K
open Go.RowKit

theorem lit_row (w : World) (cs : List C) (xs : Array Value) (hx : xs = (cellsC cs).toArray) : RowC (w.alloc (.cells xs 42)) (some ⟨w.heap.size, 0, none⟩) cs := by
  intro i c hi
  obtain ⟨h0, h1, h2⟩ := cellsC_get hi
  subst hx
  refine ⟨w.heap.size, 0, rfl, ?_, ?_, ?_⟩ <;> rw [World.cell?_alloc_mark, Nat.zero_add] <;> simpa

def e0 : ByteArray := ⟨#[]⟩
def lit1 : List C := [⟨0, 2, e0⟩, ⟨2, 1, e0⟩, ⟨1, 0, ⟨#[97]⟩⟩, ⟨0, 0, e0⟩, ⟨1, 0, ⟨#[98]⟩⟩, ⟨2, 3, e0⟩]
def lit2 : List C := [⟨0, 2, e0⟩, ⟨1, 0, ⟨#[97, 98]⟩⟩, ⟨2, 4, e0⟩]
theorem lit1_ok : okB lit1 = true := by decide +kernel
theorem lit1_norm : normOf lit1 = lit2 := by kernel_rfl
theorem lit2_may : MayP lit2 := by
  rw [← lit1_norm]
  exact ⟨okB_normOf lit1_ok, norm_normOf (soft_all (okB_iff.1 lit1_ok).2.1)⟩
theorem lit3_may : ¬ MayP [⟨0, 0, e0⟩] := fun h => (h.2 0 _ rfl).1 rfl
theorem lit4_no : okB [⟨0, -1, e0⟩] = false := by decide +kernel
theorem lit5_may : ¬ MayP [⟨0, 1, e0⟩, ⟨0, 1, e0⟩] := fun h => ((h.2 1 _ rfl).2 _ (by omega) rfl).1 rfl
theorem lit0_may : MayP [] := ⟨by decide, fun i c h => by simp at h⟩
theorem nil_row (w : World) : RowC w none [] := fun i c h => by simp at h

end Go.Proofs.YtjmfjlffcopnnaaDoor.K

namespace Go.Proofs.YtjmfjlffcopnnaaDoor.K
open Go.RowKit

theorem place_mod (a : Int) (n : Nat) (hn : n ≤ 4096) : ∃ q : Nat, wrap64 ((IntKind.u64.wrap a).tmod ((n : Int) + 1)) = (q : Int) ∧ q ≤ n := by
  have h0 : 0 ≤ IntKind.u64.wrap a := by
    unfold IntKind.wrap
    simp only [IntKind.signed, Bool.false_and]
    exact Int.emod_nonneg _ (by decide)
  have h1 : 0 ≤ (IntKind.u64.wrap a).tmod ((n : Int) + 1) := Int.tmod_nonneg _ h0
  have h2 : (IntKind.u64.wrap a).tmod ((n : Int) + 1) < (n : Int) + 1 := Int.tmod_lt_of_pos _ (by omega)
  refine ⟨((IntKind.u64.wrap a).tmod ((n : Int) + 1)).toNat, ?_, by omega⟩
  rw [IntWalk.wrap64_in _ (by omega)]
  omega

theorem RowC.take {w : World} {p : Option Addr} {cs : List C} (h : RowC w p cs) (k : Nat) : RowC w p (cs.take k) := fun i c hi => h i c (by
  rw [List.getElem?_take] at hi
  split at hi
  · exact hi
  · cases hi)
theorem RowC.drop {w : World} {b o : Nat} {cs : List C} (h : RowC w (some ⟨b, o, none⟩) cs) (k : Nat) : RowC w (some ⟨b, o + k * 3, none⟩) (cs.drop k) := fun i c hi => by
  rw [List.getElem?_drop] at hi
  obtain ⟨b', o', hp, hc⟩ := h _ c hi
  cases hp
  exact ⟨b, o + k * 3, rfl, by rw [show o + k * 3 + i * 3 = o + (k + i) * 3 by omega]; exact hc⟩

theorem may_parts {cs : List C} (h : MayP cs) (k : Nat) : MayP (cs.take k) ∧ MayP (cs.drop k) := by
  obtain ⟨hok, hn⟩ := h
  obtain ⟨h1, h2, h3, h4⟩ := okB_iff.1 hok
  have hs := soft_all h2
  have e1 := sumOf_append fromC (cs.take k) (cs.drop k)
  have e2 := sumOf_append toC (cs.take k) (cs.drop k)
  rw [List.take_append_drop] at e1 e2
  have a1 := sumOf_nonneg (f := fromC) (cs := cs.take k) fun c hc => from_nonneg (hs c (List.mem_of_mem_take hc))
  have a2 := sumOf_nonneg (f := fromC) (cs := cs.drop k) fun c hc => from_nonneg (hs c (List.mem_of_mem_drop hc))
  have a3 := sumOf_nonneg (f := toC) (cs := cs.take k) fun c hc => to_nonneg (hs c (List.mem_of_mem_take hc))
  have a4 := sumOf_nonneg (f := toC) (cs := cs.drop k) fun c hc => to_nonneg (hs c (List.mem_of_mem_drop hc))
  refine ⟨⟨okB_iff.2 ⟨by rw [List.length_take]; omega, fun c hc => h2 c (List.mem_of_mem_take hc), by omega, by omega⟩, fun i c hi => ?_⟩, ⟨okB_iff.2 ⟨by rw [List.length_drop]; omega, fun c hc => h2 c (List.mem_of_mem_drop hc), by omega, by omega⟩, fun i c hi => ?_⟩⟩
  · have hik := (List.getElem?_eq_some_iff.1 hi).1
    rw [List.length_take] at hik
    rw [List.getElem?_take_of_lt (by omega)] at hi
    obtain ⟨g1, g2⟩ := hn i c hi
    exact ⟨g1, fun l h0 hl => g2 l h0 (by rwa [List.getElem?_take_of_lt (by omega)] at hl)⟩
  · rw [List.getElem?_drop] at hi
    obtain ⟨g1, g2⟩ := hn _ c hi
    refine ⟨g1, fun l h0 hl => g2 l (fun h => h0 (by omega)) ?_⟩
    have h0' : ¬ i = 0 := h0
    rw [List.getElem?_drop] at hl
    rwa [show k + i - 1 = k + (i - 1) by omega]

theorem ret_bool {b : Bool} (h : b = true) : Ending.returned (.bool b) = .returned (.bool true) := by rw [h]

end Go.Proofs.YtjmfjlffcopnnaaDoor.K

namespace Go.Proofs.YtjmfjlffcopnnaaDoor.K
open Go.RowKit

theorem cellsC_inv {cs : List C} {j : Nat} {u : Value} (h : (cellsC cs)[j]? = some u) : ∃ c, cs[j / 3]? = some c ∧ (C.cells c)[j % 3]? = some u := by
  have hj := (List.getElem?_eq_some_iff.1 h).1
  rw [cellsC_length] at hj
  have hi : j / 3 < cs.length := by omega
  have hc := List.getElem?_eq_getElem hi
  refine ⟨_, hc, ?_⟩
  obtain ⟨h0, h1, h2⟩ := cellsC_get hc
  have hjj : j = j / 3 * 3 + j % 3 := by omega
  have hm : j % 3 = 0 ∨ j % 3 = 1 ∨ j % 3 = 2 := by omega
  rcases hm with hm | hm | hm
  · rw [hm] at hjj ⊢; rw [hjj, Nat.add_zero, h0] at h; exact h
  · rw [hm] at hjj ⊢; rw [hjj, h1] at h; exact h
  · rw [hm] at hjj ⊢; rw [hjj, h2] at h; exact h

theorem RowC.news {w : World} {b o : Nat} {cs : List C} (h : RowC w (some ⟨b, o, none⟩) cs) : ∀ j u, (cellsC cs)[j]? = some u → w.cell? ((⟨b, o, none⟩ : Addr).add j) = some u := by
  intro j u hu
  obtain ⟨c, hc, hcu⟩ := cellsC_inv hu
  obtain ⟨b', o', hp, h0, h1, h2⟩ := h _ c hc
  cases hp
  rw [add_plain]
  have hjj : j = j / 3 * 3 + j % 3 := by omega
  have hm : j % 3 = 0 ∨ j % 3 = 1 ∨ j % 3 = 2 := by omega
  rcases hm with hm | hm | hm <;> rw [hm] at hcu hjj <;> rw [hjj] <;> simp only [C.cells, List.getElem?_cons_zero, List.getElem?_cons_succ, Option.some.injEq] at hcu <;> subst hcu
  · simpa using h0
  · rw [← Nat.add_assoc]; exact h1
  · rw [← Nat.add_assoc]; exact h2

/-- What copying answers. -/
def CopyPost (cs : List C) (w : World) (e : Ending) (w' : World) : Prop :=
  ∃ v, e = .returned v ∧ Own w' w.heap.size v cs ∧ v ≠ .slice none 0 0 ∧ Below w.heap.size w w'

def mk : C := ⟨0, 77777, e0⟩

def LendPost (cs : List C) (w : World) (e : Ending) (w' : World) : Prop :=
  ∃ g cap, e = .returned (.slice (some ⟨g, 0, none⟩) cs.length cap) ∧ Own w' w.heap.size (.slice (some ⟨g, 0, none⟩) (cs.length + 2) cap) (cs ++ [mk, mk]) ∧ cs.length + 2 ≤ cap ∧ Below w.heap.size w w'

/-- They stand as they were lent. -/
def Lent (w : World) (g : Nat) (cs : List C) : Prop := RowC w (some ⟨g, 0, none⟩) (cs ++ [mk, mk])

theorem Lent.row {w : World} {g : Nat} {cs : List C} (h : Lent w g cs) : RowC w (some ⟨g, 0, none⟩) cs := by
  have := RowC.take h cs.length
  rwa [List.take_left] at this
theorem Lent.below {w w' : World} {g : Nat} {cs : List C} (h : Lent w g cs) (hb : Below w.heap.size w w') : Lent w' g cs := RowC.below h hb

def Mid (xs : List Value) (n : Nat) : Prop := ∀ i, i < n → ∃ z, xs[i * 3 + 1]? = some (.int .i64 z)
theorem Mid.set {xs : List Value} {n : Nat} (h : Mid xs n) (k : Nat) (z : Int) : Mid (xs.set k (.int .i64 z)) n := fun i hi => by
  obtain ⟨y, hy⟩ := h i hi
  rw [List.getElem?_set]
  split
  · rename_i e
    rw [if_pos (by rw [e]; exact (List.getElem?_eq_some_iff.1 hy).1)]
    exact ⟨z, rfl⟩
  · exact ⟨y, hy⟩
theorem Mid.of_cells (cs : List C) : Mid (cellsC cs) cs.length := fun _ hi => ⟨_, (cellsC_get (List.getElem?_eq_getElem hi)).2.1⟩

end Go.Proofs.YtjmfjlffcopnnaaDoor.K

namespace Go.Proofs.YtjmfjlffcopnnaaDoor.K
open Go.RowKit

end Go.Proofs.YtjmfjlffcopnnaaDoor.K

namespace Go.Proofs.YtjmfjlffcopnnaaDoor.K
open Go.RowKit

theorem cellsC_set3 {cs : List C} {l : C} (k' n' : Int) (t' : ByteArray) : (((cellsC (cs ++ [l])).set (cs.length * 3) (.int .i64 k')).set (cs.length * 3 + 1) (.int .i64 n')).set (cs.length * 3 + 2) (.string t') = cellsC (cs ++ [⟨k', n', t'⟩]) := by
  have h0 := List.set_append_right (i := cs.length * 3) (s := cellsC cs) (t := cellsC [l]) (x := .int .i64 k') (by rw [cellsC_length]; omega)
  rw [cellsC_append, h0, List.set_append_right _ _ (by rw [cellsC_length]; omega), List.set_append_right _ _ (by rw [cellsC_length]; omega), cellsC_append, cellsC_length, Nat.sub_self, Nat.add_sub_cancel_left, Nat.add_sub_cancel_left]
  rfl
theorem Own.setLast3 {w : World} {base g n cap : Nat} {cs : List C} {l : C} (hn : n = cs.length + 1) (h : Own w base (.slice (some ⟨g, 0, none⟩) n cap) (cs ++ [l])) (k' n' : Int) (t' : ByteArray) :
    Own (((w.setCell ⟨g, cs.length * 3, none⟩ (.int .i64 k')).setCell ⟨g, cs.length * 3 + 1, none⟩ (.int .i64 n')).setCell ⟨g, cs.length * 3 + 2, none⟩ (.string t')) base (.slice (some ⟨g, 0, none⟩) n cap) (cs ++ [⟨k', n', t'⟩]) := by
  unfold Own at *
  rw [List.length_append, List.length_singleton, ← hn] at *
  have := owns_set (i := cs.length * 3 + 2) (owns_set (i := cs.length * 3 + 1) (owns_set (i := cs.length * 3) h (.int .i64 k')) (.int .i64 n')) (.string t')
  rwa [cellsC_set3] at this

end Go.Proofs.YtjmfjlffcopnnaaDoor.K

namespace Go.Proofs.YtjmfjlffcopnnaaDoor.K
open Go.RowKit

end Go.Proofs.YtjmfjlffcopnnaaDoor.K

namespace Go.Proofs.YtjmfjlffcopnnaaDoor.K
open Go.RowKit

def RLenPost (cs : List C) (w : World) (e : Ending) (w' : World) : Prop :=
  e = .returned (.tuple #[.int .i64 (sumOf fromC cs), .int .i64 (sumOf toC cs)]) ∧ Below w.heap.size w w'

theorem mem_take_sum {cs : List C} (hs : ∀ c ∈ cs, c.Soft) {f : C → Int} (hf : ∀ c : C, c.Soft → 0 ≤ f c) (j : Nat) : 0 ≤ sumOf f (cs.take j) ∧ sumOf f (cs.take j) ≤ sumOf f cs :=
  ⟨sumOf_nonneg fun c hc => hf c (hs c (List.mem_of_mem_take hc)), sumOf_take_le (fun c hc => hf c (hs c hc)) j⟩

end Go.Proofs.YtjmfjlffcopnnaaDoor.K

namespace Go.Proofs.YtjmfjlffcopnnaaDoor.K
open Go.ChangeShapes Go.WideShapes Go.ChangeAt Go.RowKit Go.Deep

theorem cells39 : Tryd.prog.cellsOf 42 = 3 := by kernel_rfl
theorem bytes39 : Tryd.prog.bytesOf 42 = 32 := by kernel_rfl
theorem cells3 : Tryd.prog.cellsOf 3 = 1 := by kernel_rfl
theorem cells9 : Tryd.prog.cellsOf 9 = 1 := by kernel_rfl

theorem plain_of_cell {w : World} {a : Addr} {v : Value} (h : w.cell? a = some v) : a.spot = none := by
  unfold World.cell? at h
  split at h
  · cases hs : a.spot with
    | none => rfl
    | some s => simp [hs] at h
  · cases h

theorem list_of {α : Type} [Inhabited α] {P : Nat → α → Prop} (n : Nat) (h : ∀ i, i < n → ∃ c, P i c) : ∃ cs : List α, cs.length = n ∧ ∀ (i : Nat) c, cs[i]? = some c → P i c := by
  induction n with
  | zero => exact ⟨[], rfl, fun i c hi => by simp at hi⟩
  | succ n ih =>
    obtain ⟨cs, hl, hc⟩ := ih fun i hi => h i (by omega)
    obtain ⟨c, hp⟩ := h n (by omega)
    refine ⟨cs ++ [c], by simp [hl], fun i d hi => ?_⟩
    by_cases hil : i < cs.length
    · rw [List.getElem?_append_left hil] at hi
      exact hc i d hi
    · rw [List.getElem?_append_right (by omega)] at hi
      have h0 : i - cs.length = 0 := by
        have := (List.getElem?_eq_some_iff.1 hi).1
        simp at this; omega
      rw [h0] at hi
      simp at hi
      subst hi
      obtain rfl : i = n := by omega
      exact hp

instance : Inhabited C := ⟨⟨0, 0, ⟨#[]⟩⟩⟩

section
variable {H : Type} {enc : TypeId × Value → H} {w : World} {base : Nat} {held : Bool}
set_option maxRecDepth 100000 in
theorem comps_open {fuel : Nat} {p : Option Addr} {n cap : Nat} {x : DataW H × List MemPlace} (h : DataW.trod enc Tryd.prog w base (fun _ => true) held fuel 22 [.slice p n cap] = some x) :
    ∃ cs : List C, cs.length = n ∧ n ≤ cap ∧ RowC w p cs ∧ ∀ c ∈ cs, c.t.size ≤ maxLen := by
  rcases open_slice Tryd.underlying22 h with ⟨h0, _⟩ | ⟨a, len, cap', m, k, D, Pl, hcs, _, hl, _, hmm, _, hi⟩
  · cases h0
    exact ⟨[], rfl, Nat.le_refl _, fun i c hi => by simp at hi, fun c hc => by simp at hc⟩
  · cases hcs
    have hmm : m = cap := by rw [hmm]; simp
    subst hmm
    obtain ⟨cs, hcl, hat⟩ := list_of (P := fun i (c : C) => (∃ b o, a = ⟨b, o, none⟩ ∧ PieceAt w b (o + i * 3) c) ∧ c.t.size ≤ maxLen) n (fun i hil => by
      obtain ⟨b, o, sp⟩ := a
      obtain ⟨cs', hc, ht⟩ := hi i (by omega)
      rw [cells39] at hc
      obtain ⟨_, hcl, hat⟩ := World.cells?_some hc
      obtain ⟨ys, n', _, _, _, hyl, hf⟩ := DataW.trod_struct Tryd.underlying42 ht
      obtain rfl : sp = none := by
        obtain ⟨cs0, hc0, _⟩ := hi 0 (by omega)
        rw [cells39] at hc0
        obtain ⟨_, hcl0, hat0⟩ := World.cells?_some hc0
        have h0 := hat0 0 (by omega)
        rw [List.getElem?_eq_getElem (by omega)] at h0
        rw [Nat.zero_mul] at h0
        exact plain_of_cell h0
      match cs', hcl with
      | [c0, c1, c2], _ =>
        have e0 := hat 0 (by omega)
        have e1 := hat 1 (by omega)
        have e2 := hat 2 (by omega)
        simp only [add_plain] at e0 e1 e2
        have hyl3 : ys.length = 3 := hyl
        have hy : ∀ j, j < 3 → ∃ y, ys[j]? = some y := fun j hj => ⟨_, List.getElem?_eq_getElem (by omega : j < ys.length)⟩
        obtain ⟨y0, k0⟩ := hy 0 (by omega)
        obtain ⟨y1, k1⟩ := hy 1 (by omega)
        obtain ⟨y2, k2⟩ := hy 2 (by omega)
        have g0 := (hf 0 _ rfl).trans k0
        have g1 := (hf 1 _ rfl).trans k1
        have g2 := (hf 2 _ rfl).trans k2
        obtain ⟨kd, h0, _⟩ := DataW.trod_int Tryd.underlying3 g0
        obtain ⟨nn, h1, _⟩ := DataW.trod_int Tryd.underlying3 g1
        obtain ⟨s, h2, _, hs⟩ := DataW.trod_string Tryd.underlying9 g2
        simp [cells3, cells9] at h0 h1 h2
        subst h0; subst h1; subst h2
        exact ⟨⟨kd, nn, s⟩, ⟨b, o, rfl, by simpa using e0, by simpa using e1, by simpa using e2⟩, hs⟩)
    refine ⟨cs, hcl, hl, fun i c hi => ?_, fun c hc => ?_⟩
    · obtain ⟨⟨b, o, rfl, hp⟩, _⟩ := hat i c hi
      exact ⟨b, o, rfl, hp⟩
    · obtain ⟨i, hi⟩ := List.mem_iff_getElem?.1 hc
      exact (hat i c hi).2

theorem comps_sized {fuel : Nat} {p : Option Addr} {n cap : Nat} {d : DataW H} {pl : List MemPlace} {ts : List TypeId} {ds : List (DataW H)} (h : DataW.trod enc Tryd.prog w base (fun _ => true) held fuel 22 [.slice p n cap] = some (d, pl)) (hsz : (DataW.weightsEach Tryd.prog (22 :: ts) (d :: ds)).all (· ≤ reachBytes) = true) : n * 32 ≤ reachBytes := by
  rcases open_slice Tryd.underlying22 h with ⟨h0, _⟩ | ⟨a, len, cap', m, k, D, Pl, hcs, _, hl, _, hmm, hx, hi⟩
  · cases h0; simp
  · cases hcs
    simp only [Prod.mk.injEq] at hx
    obtain ⟨rfl, _⟩ := hx
    have := sized_slice hsz (j := 0) (t := 22) rfl rfl Tryd.underlying22
    rw [bytes39] at this
    simp only [List.length_map, List.length_range] at this
    exact Nat.le_trans (Nat.mul_le_mul_right _ (by omega)) this
end

end Go.Proofs.YtjmfjlffcopnnaaDoor.K
