/-
  KW9, KEq, KW10, KW11, KSizes, KW12, KW13, KW14, KW15, KW16, KArgs, in one text. Conditions: as each theorem's premises say.
-/
import Derived.Test.YtjmfjlffcopnnaaGreatDoorPF01
import Derived.Laws.StructEq
import Derived.Laws.OwnMore
import Derived.Maps.AppendAt
import Derived.Test.YtjmfjlffcopnnaaGreatDoorPF00
import Derived.ProofKit
import Derived.OpenShut
import Derived.Deep.Slices
import Derived.SizedLaws
namespace Go.Proofs.YtjmfjlffcopnnaaGreatDoor.K
open Go.RowKit

def MayP (cs : List C) : Prop := okB cs = true ∧ Norm cs

def MayPost (cs : List C) (w : World) (e : Ending) (w' : World) : Prop :=
  Below w.heap.size w w' ∧ ((e = .returned (.bool true) ∧ MayP cs) ∨ (e = .returned (.bool false) ∧ ¬ MayP cs))

set_option maxHeartbeats 1000000 in
theorem may_any (p : Option Addr) (cs : List C) (cap : Nat) (w : World) (hr : RowC w p cs) : Calls Tryz.prog 38 #[.slice p cs.length cap] w (MayPost cs w) := by
  have R := Lib.hid hr; clear hr
  cases hok : okB cs with
  | false =>
    have HOK := Lib.hid hok; clear hok
    go_enter Tryz.func38, Tryz.ntmps38
    go_wp2_with (go_at_call 87; refine (measure_any _ _ _ _ R.out).mono ?_; rintro e w1 ⟨rfl, hb1⟩; rw [HOK.out]; dsimp only [Bool.false_eq_true, if_false])
    go_ret
    exact ⟨hb1, .inr ⟨rfl, fun h => by have := h.1; rw [HOK.out] at this; cases this⟩⟩
  | true =>
    have HOK := Lib.hid hok; clear hok
    have hl : cs.length ≤ 4096 := (okB_iff.1 HOK.out).1
    have RAW : Hid (∀ c ∈ cs, c.Raw) := Lib.hid (okB_iff.1 HOK.out).2.1
    by_cases hn : Norm cs
    · have HN := Lib.hid hn; clear hn
      go_enter Tryz.func38, Tryz.ntmps38
      go_wp2_with (first | (go_at_call 87; refine (measure_any _ _ _ _ R.out).mono ?_; rintro e w1 ⟨rfl, hb1⟩; rw [HOK.out]; dsimp only [if_true]; have B1 := Lib.hid hb1; clear hb1) | (go_at_call 88; refine (nm_any _ _ _ _ (R.out.below B1.out) hl RAW.out).mono ?_; rintro e w2 ⟨hb2, ⟨rfl, -⟩ | ⟨-, hno⟩⟩; rotate_left; exact absurd HN.out hno; have B2 := Lib.hid hb2; clear hb2))
      go_ret
      exact ⟨B1.out.trans (B2.out.mono B1.out.size), .inl ⟨rfl, HOK.out, HN.out⟩⟩
    · have HN := Lib.hid hn; clear hn
      go_enter Tryz.func38, Tryz.ntmps38
      go_wp2_with (first | (go_at_call 87; refine (measure_any _ _ _ _ R.out).mono ?_; rintro e w1 ⟨rfl, hb1⟩; rw [HOK.out]; dsimp only [if_true]; have B1 := Lib.hid hb1; clear hb1) | (go_at_call 88; refine (nm_any _ _ _ _ (R.out.below B1.out) hl RAW.out).mono ?_; rintro e w2 ⟨hb2, ⟨-, hyes⟩ | ⟨rfl, -⟩⟩; exact absurd hyes HN.out; have B2 := Lib.hid hb2; clear hb2))
      go_ret
      exact ⟨B1.out.trans (B2.out.mono B1.out.size), .inr ⟨rfl, fun h => HN.out h.2⟩⟩

end Go.Proofs.YtjmfjlffcopnnaaGreatDoor.K

namespace Go.Proofs.YtjmfjlffcopnnaaGreatDoor.K
open Go.RowKit

def eqC (a b : C) : Bool := a.k == b.k && (a.n == b.n && a.t.toList == b.t.toList)
theorem eqC_iff {a b : C} : eqC a b = true ↔ a = b := by
  obtain ⟨k, n, t⟩ := a
  obtain ⟨k', n', t'⟩ := b
  simp only [eqC, Bool.and_eq_true, beq_iff_eq, C.mk.injEq, Lib.toList_data]
  constructor
  · rintro ⟨h1, h2, h3⟩
    exact ⟨h1, h2, ByteArray.ext (Array.ext' h3)⟩
  · rintro ⟨h1, h2, h3⟩
    exact ⟨h1, h2, by rw [h3]⟩

theorem eq39 (a b : C) (w : World) : (Op.equalIn 10000 48 (.agg #[.int .i64 a.k, .int .i64 a.n, .string a.t]) (.agg #[.int .i64 b.k, .int .i64 b.n, .string b.t])).run Tryz.prog w = .ok (eqC a b) w := by
  have u3 := Tryz.underlying3
  have a3 := Tryz.isAgg3
  have z3 := Tryz.sizeOf3
  have u9 := Tryz.underlying9
  have a9 := Tryz.isAgg9
  have z9 := Tryz.sizeOf9
  have hS : Tryz.prog.underlying 48 = some (.struct (Tryz.prog.fieldsOf 48)) := by kernel_rfl
  have hp : Tryz.prog.stoodInHeld 48 = false := by kernel_rfl
  rw [show (10000 : Nat) = 9999 + 1 from rfl, run_equalIn_agg w 9999 48 _ _ hS hp]
  simp only [Program.fieldsOf, Tryz.underlying48]
  go_simp
  unfold eqC
  by_cases h1 : a.k = b.k <;> by_cases h2 : a.n = b.n <;> by_cases h3 : a.t.toList = b.t.toList <;> simp [h1, h2, h3]

theorem neq39 (a b : C) (w : World) : (binOp .neq 48 (.agg #[.int .i64 a.k, .int .i64 a.n, .string a.t]) (.agg #[.int .i64 b.k, .int .i64 b.n, .string b.t])).run Tryz.prog w = .ok (.bool (!eqC a b)) w := by
  rw [run_neq_struct, eq39]; rfl
theorem guard39 (op : BinOp) (x y : Operand) (xs ys : Array Value) (w : World) : (eqGuard op 48 x y (.agg xs) (.agg ys)).run Tryz.prog w = .ok () w := run_eqGuard_agg w op 48 x y xs ys (by kernel_rfl)

end Go.Proofs.YtjmfjlffcopnnaaGreatDoor.K

namespace Go.Proofs.YtjmfjlffcopnnaaGreatDoor.K
open Go.RowKit

def SamePost (xs ys : List C) (w : World) (e : Ending) (w' : World) : Prop :=
  Below w.heap.size w w' ∧ ((e = .returned (.bool true) ∧ xs = ys) ∨ (e = .returned (.bool false) ∧ xs ≠ ys))

set_option maxHeartbeats 1000000 in
theorem same_any (p q : Option Addr) (xs ys : List C) (cap cap2 : Nat) (w : World) (ha : RowC w p xs) (hb : RowC w q ys) (hx : xs.length ≤ 140737488355328) : Calls Tryz.prog 35 #[.slice p xs.length cap, .slice q ys.length cap2] w (SamePost xs ys w) := by
  have RA := Lib.hid ha; have RB := Lib.hid hb
  clear ha hb
  by_cases hl : xs.length = ys.length
  · go_enter Tryz.func35, Tryz.ntmps35
    go_wp2
    go_loopw [5] (fun i wr => ∃ j : Nat, j ≤ xs.length ∧ i = .int .i64 j ∧ Hid (∀ i, i < j → xs[i]? = ys[i]?) ∧ Hid (Below w.heap.size w wr)) (fun i _ => xs.length - (intOf i).toNat)
    case atStart => exact ⟨0, Nat.zero_le _, rfl, Lib.hid (fun i h => by omega), Lib.hid (Below.refl _ _)⟩
    case round =>
      obtain ⟨j, hj, rfl, N, B⟩ := hrel
      by_cases hlt : j < xs.length
      · have hc := List.getElem?_eq_getElem hlt
        have hd := List.getElem?_eq_getElem (show j < ys.length by omega)
        generalize xs[j] = c at hc
        generalize ys[j] = d at hd
        obtain ⟨b, o, rfl, hp⟩ := RA.out j c hc
        obtain ⟨b2, o2, rfl, hp2⟩ := RB.out j d hd
        obtain ⟨c0, c1, c2⟩ := hp.below B.out
        obtain ⟨d0, d1, d2⟩ := hp2.below B.out
        obtain ⟨k, n, t⟩ := c
        obtain ⟨k', n', t'⟩ := d
        dsimp only at c0 c1 c2 d0 d1 d2
        have HC := Lib.hid hc; have HD := Lib.hid hd
        clear hc hd hp hp2
        have hlt2 : j < ys.length := by omega
        have hg := fun op x y => guard39 op x y #[.int .i64 k, .int .i64 n, .string t] #[.int .i64 k', .int .i64 n', .string t']
        have hn := neq39 ⟨k, n, t⟩ ⟨k', n', t'⟩
        dsimp only at hn
        cases he : eqC ⟨k, n, t⟩ ⟨k', n', t'⟩ with
        | true =>
          rw [he] at hn
          have HE := Lib.hid he; clear he
          go_wp2
          go_quiet (fail)
          go_wp2
          go_roundw
          case rel => exact ⟨j + 1, by omega, by go_num, Lib.hid (fun i hi => by
                        by_cases hi2 : i < j
                        · exact N.out i hi2
                        · obtain rfl : i = j := by omega
                          rw [HC.out, HD.out, eqC_iff.1 HE.out]), Lib.hid (B.out.trans ((dr_below _ _).mono B.out.size))⟩
          case measure => simp [intOf]; omega
        | false =>
          rw [he] at hn
          have HE := Lib.hid he; clear he
          go_wp2
          go_quiet (fail)
          go_wp2
          go_ret
          refine ⟨B.out.trans ((dr_below _ _).mono B.out.size), .inr ⟨rfl, fun h => ?_⟩⟩
          subst h
          have h1 := HC.out
          rw [HD.out] at h1
          have h2 := HE.out
          rw [eqC_iff.2 (Option.some.inj h1).symm] at h2
          cases h2
      · go_wp2
        go_ret
        refine ⟨B.out, .inl ⟨rfl, List.ext_getElem? fun i => ?_⟩⟩
        by_cases hi : i < j
        · exact N.out i hi
        · rw [List.getElem?_eq_none (by omega), List.getElem?_eq_none (by omega)]
  · have hl' : ((xs.length : Int) != (ys.length : Int)) = true := by simp; omega
    have HL := Lib.hid hl; clear hl
    go_enter Tryz.func35, Tryz.ntmps35
    go_wp2
    go_ret
    exact ⟨Below.refl _ _, .inr ⟨rfl, fun h => HL.out (by rw [h])⟩⟩

end Go.Proofs.YtjmfjlffcopnnaaGreatDoor.K

namespace Go.Proofs.YtjmfjlffcopnnaaGreatDoor.K
open Go.RowKit

def e0 : ByteArray := ⟨#[]⟩

end Go.Proofs.YtjmfjlffcopnnaaGreatDoor.K

namespace Go.Proofs.YtjmfjlffcopnnaaGreatDoor.K
open Go.RowKit

theorem RowC.take {w : World} {p : Option Addr} {cs : List C} (h : RowC w p cs) (k : Nat) : RowC w p (cs.take k) := fun i c hi => h i c (by
  rw [List.getElem?_take] at hi
  split at hi
  · exact hi
  · cases hi)
theorem RowC.drop {w : World} {b o : Nat} {cs : List C} (h : RowC w (some ⟨b, o, none⟩) cs) (k : Nat) : RowC w (some ⟨b, o + k * 3, none⟩) (cs.drop k) := fun i c hi => by
  rw [List.getElem?_drop] at hi
  obtain ⟨b', o', hp, hc⟩ := h _ c hi
  cases hp
  exact ⟨b, o + k * 3, rfl, by rw [show o + k * 3 + i * 3 = o + (k + i) * 3 by omega]; exact hc⟩

end Go.Proofs.YtjmfjlffcopnnaaGreatDoor.K

namespace Go.Proofs.YtjmfjlffcopnnaaGreatDoor.K
open Go.RowKit

def mk : C := ⟨0, 77777, e0⟩

/-- They stand as they were lent. -/
def Lent (w : World) (g : Nat) (cs : List C) : Prop := RowC w (some ⟨g, 0, none⟩) (cs ++ [mk, mk])

theorem Lent.row {w : World} {g : Nat} {cs : List C} (h : Lent w g cs) : RowC w (some ⟨g, 0, none⟩) cs := by
  have := RowC.take h cs.length
  rwa [List.take_left] at this
theorem Lent.below {w w' : World} {g : Nat} {cs : List C} (h : Lent w g cs) (hb : Below w.heap.size w w') : Lent w' g cs := RowC.below h hb

def Mid (xs : List Value) (n : Nat) : Prop := ∀ i, i < n → ∃ z, xs[i * 3 + 1]? = some (.int .i64 z)
theorem Mid.set {xs : List Value} {n : Nat} (h : Mid xs n) (k : Nat) (z : Int) : Mid (xs.set k (.int .i64 z)) n := fun i hi => by
  obtain ⟨y, hy⟩ := h i hi
  rw [List.getElem?_set]
  split
  · rename_i e
    rw [if_pos (by rw [e]; exact (List.getElem?_eq_some_iff.1 hy).1)]
    exact ⟨z, rfl⟩
  · exact ⟨y, hy⟩

end Go.Proofs.YtjmfjlffcopnnaaGreatDoor.K

namespace Go.Proofs.YtjmfjlffcopnnaaGreatDoor.K
open Go.RowKit

end Go.Proofs.YtjmfjlffcopnnaaGreatDoor.K

namespace Go.Proofs.YtjmfjlffcopnnaaGreatDoor.K
open Go.RowKit

end Go.Proofs.YtjmfjlffcopnnaaGreatDoor.K

namespace Go.Proofs.YtjmfjlffcopnnaaGreatDoor.K
open Go.RowKit

end Go.Proofs.YtjmfjlffcopnnaaGreatDoor.K

namespace Go.Proofs.YtjmfjlffcopnnaaGreatDoor.K
open Go.RowKit

end Go.Proofs.YtjmfjlffcopnnaaGreatDoor.K

namespace Go.Proofs.YtjmfjlffcopnnaaGreatDoor.K
open Go.ChangeShapes Go.WideShapes Go.ChangeAt Go.RowKit Go.Deep

section
variable {H : Type} {enc : TypeId × Value → H} {w : World} {base : Nat} {held : Bool}

end

end Go.Proofs.YtjmfjlffcopnnaaGreatDoor.K
