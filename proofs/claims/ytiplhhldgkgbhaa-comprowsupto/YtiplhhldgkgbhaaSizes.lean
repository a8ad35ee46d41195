/-
  The walk of CompSizes: it answers true. Conditions: the pieces lie in memory.
-/
import Derived.Test.YtiplhhldgkgbhaaW11
namespace Go.Proofs.Ytiplhhldgkgbhaa
open Go.RowKit

theorem place_mod (a : Int) (n : Nat) (hn : n ≤ 4096) : ∃ q : Nat, wrap64 ((IntKind.u64.wrap a).tmod ((n : Int) + 1)) = (q : Int) ∧ q ≤ n := by
  have h0 : 0 ≤ IntKind.u64.wrap a := by
    unfold IntKind.wrap
    simp only [IntKind.signed, Bool.false_and]
    exact Int.emod_nonneg _ (by decide)
  have h1 : 0 ≤ (IntKind.u64.wrap a).tmod ((n : Int) + 1) := Int.tmod_nonneg _ h0
  have h2 : (IntKind.u64.wrap a).tmod ((n : Int) + 1) < (n : Int) + 1 := Int.tmod_lt_of_pos _ (by omega)
  refine ⟨((IntKind.u64.wrap a).tmod ((n : Int) + 1)).toNat, ?_, by omega⟩
  rw [IntWalk.wrap64_in _ (by omega)]
  omega

theorem RowC.take {w : World} {p : Option Addr} {cs : List C} (h : RowC w p cs) (k : Nat) : RowC w p (cs.take k) := fun i c hi => h i c (by
  rw [List.getElem?_take] at hi
  split at hi
  · exact hi
  · cases hi)
theorem RowC.drop {w : World} {b o : Nat} {cs : List C} (h : RowC w (some ⟨b, o, none⟩) cs) (k : Nat) : RowC w (some ⟨b, o + k * 3, none⟩) (cs.drop k) := fun i c hi => by
  rw [List.getElem?_drop] at hi
  obtain ⟨b', o', hp, hc⟩ := h _ c hi
  cases hp
  exact ⟨b, o + k * 3, rfl, by rw [show o + k * 3 + i * 3 = o + (k + i) * 3 by omega]; exact hc⟩

theorem may_parts {cs : List C} (h : MayP cs) (k : Nat) : MayP (cs.take k) ∧ MayP (cs.drop k) := by
  obtain ⟨hok, hn⟩ := h
  obtain ⟨h1, h2, h3, h4⟩ := okB_iff.1 hok
  have hs := soft_all h2
  have e1 := sumOf_append fromC (cs.take k) (cs.drop k)
  have e2 := sumOf_append toC (cs.take k) (cs.drop k)
  rw [List.take_append_drop] at e1 e2
  have a1 := sumOf_nonneg (f := fromC) (cs := cs.take k) fun c hc => from_nonneg (hs c (List.mem_of_mem_take hc))
  have a2 := sumOf_nonneg (f := fromC) (cs := cs.drop k) fun c hc => from_nonneg (hs c (List.mem_of_mem_drop hc))
  have a3 := sumOf_nonneg (f := toC) (cs := cs.take k) fun c hc => to_nonneg (hs c (List.mem_of_mem_take hc))
  have a4 := sumOf_nonneg (f := toC) (cs := cs.drop k) fun c hc => to_nonneg (hs c (List.mem_of_mem_drop hc))
  refine ⟨⟨okB_iff.2 ⟨by rw [List.length_take]; omega, fun c hc => h2 c (List.mem_of_mem_take hc), by omega, by omega⟩, fun i c hi => ?_⟩, ⟨okB_iff.2 ⟨by rw [List.length_drop]; omega, fun c hc => h2 c (List.mem_of_mem_drop hc), by omega, by omega⟩, fun i c hi => ?_⟩⟩
  · have hik := (List.getElem?_eq_some_iff.1 hi).1
    rw [List.length_take] at hik
    rw [List.getElem?_take_of_lt (by omega)] at hi
    obtain ⟨g1, g2⟩ := hn i c hi
    exact ⟨g1, fun l h0 hl => g2 l h0 (by rwa [List.getElem?_take_of_lt (by omega)] at hl)⟩
  · rw [List.getElem?_drop] at hi
    obtain ⟨g1, g2⟩ := hn _ c hi
    refine ⟨g1, fun l h0 hl => g2 l (fun h => h0 (by omega)) ?_⟩
    have h0' : ¬ i = 0 := h0
    rw [List.getElem?_drop] at hl
    rwa [show k + i - 1 = k + (i - 1) by omega]

theorem ret_bool {b : Bool} (h : b = true) : Ending.returned (.bool b) = .returned (.bool true) := by rw [h]

set_option maxRecDepth 100000 in
set_option maxHeartbeats 1000000 in
theorem sizes_not (p : Option Addr) (cs : List C) (cap : Nat) (x : Value) (w : World) (hr : RowC w p cs) (hm : ¬ MayP cs) :
    Calls Try.prog 7 #[.slice p cs.length cap, x] w fun e w' => e = .returned (.bool true) ∧ Below w.heap.size w w' := by
  have R := Lib.hid hr; have HM := Lib.hid hm; clear hr hm
  go_enter Try.func7, Try.ntmps7
  go_wp2_with (first | (go_at_call 19; refine (awake_true _).mono ?_; rintro e w1 ⟨rfl, hb1⟩; have B1 := Lib.hid hb1; clear hb1) | (go_at_call 14; refine (num_any _ _).mono ?_; rintro e w' ⟨rfl, rfl⟩) | (go_at_call 11; refine (lengths_any _ _ _ _ (R.out.below B1.out)).mono ?_; rintro e w2 ⟨hb2, ⟨-, hyes⟩ | ⟨rfl, -⟩⟩; exact absurd hyes HM.out; have B2 := Lib.hid (B1.out.trans (hb2.mono B1.out.size)); clear hb2) | (go_at_call 15; refine (may_any _ _ _ _ (R.out.below B2.out)).mono ?_; rintro e w3 ⟨hb3, ⟨-, hyes⟩ | ⟨rfl, -⟩⟩; exact absurd hyes HM.out; have B3 := Lib.hid (B2.out.trans (hb3.mono B2.out.size)); clear hb3))
  go_ret
  exact ⟨rfl, B3.out⟩

set_option maxRecDepth 100000 in
set_option maxHeartbeats 1000000 in
theorem sizes_some (b o : Nat) (cs : List C) (cap : Nat) (x : Int) (w : World) (hr : RowC w (some ⟨b, o, none⟩) cs) (hcap : cs.length ≤ cap) (hm : MayP cs) :
    Calls Try.prog 7 #[.slice (some ⟨b, o, none⟩) cs.length cap, .int .i64 x] w fun e w' => e = .returned (.bool true) ∧ Below w.heap.size w w' := by
  have R := Lib.hid hr; have HM := Lib.hid hm
  have hl : cs.length ≤ 4096 := (okB_iff.1 hm.1).1
  clear hr hm
  obtain ⟨q, hq, hqs⟩ := place_mod x cs.length hl
  have hqc : q ≤ cap := by omega
  have hqi : (q : Int) ≤ (cap : Int) := by omega
  have hqj : (q : Int) ≤ (cs.length : Int) := by omega
  have e1 := sumOf_append fromC (cs.take q) (cs.drop q)
  have e2 := sumOf_append toC (cs.take q) (cs.drop q)
  rw [List.take_append_drop] at e1 e2
  have E1 := Lib.hid e1; have E2 := Lib.hid e2
  clear e1 e2
  have PM := Lib.hid (may_parts HM.out q)
  have b1 := (okB_iff.1 PM.out.1.1).2.2
  have b2 := (okB_iff.1 PM.out.2.1).2.2
  have b3 := sum_bounds from_bounds _ (okB_iff.1 PM.out.1.1).2.1
  have b4 := sum_bounds from_bounds _ (okB_iff.1 PM.out.2.1).2.1
  have b5 := sum_bounds to_bounds _ (okB_iff.1 PM.out.1.1).2.1
  have b6 := sum_bounds to_bounds _ (okB_iff.1 PM.out.2.1).2.1
  have tl : (cs.take q).length = q := by rw [List.length_take]; omega
  have dl : (cs.drop q).length = cs.length - q := by rw [List.length_drop]
  have TL := Lib.hid tl; have DL := Lib.hid dl
  clear tl dl
  obtain ⟨f1, hf1⟩ : ∃ f, f = sumOf fromC (cs.take q) := ⟨_, rfl⟩
  obtain ⟨f2, hf2⟩ : ∃ f, f = sumOf fromC (cs.drop q) := ⟨_, rfl⟩
  obtain ⟨t1, ht1⟩ : ∃ f, f = sumOf toC (cs.take q) := ⟨_, rfl⟩
  obtain ⟨t2, ht2⟩ : ∃ f, f = sumOf toC (cs.drop q) := ⟨_, rfl⟩
  rw [← hf1, ← ht1] at b1
  rw [← hf2, ← ht2] at b2
  rw [← hf1] at b3
  rw [← hf2] at b4
  rw [← ht1] at b5
  rw [← ht2] at b6
  have E1' : Hid (sumOf fromC cs = f1 + f2) := Lib.hid (by rw [hf1, hf2]; exact E1.out)
  have E2' : Hid (sumOf toC cs = t1 + t2) := Lib.hid (by rw [ht1, ht2]; exact E2.out)
  have g1 := b3.1; have g2 := b4.1; have g3 := b5.1; have g4 := b6.1
  have g5 := b1.1; have g6 := b1.2; have g7 := b2.1; have g8 := b2.2
  clear b1 b2 b3 b4 b5 b6 E1 E2
  have L1 : Hid (∀ W, Below w.heap.size w W → Calls Try.prog 11 #[.slice (some ⟨b, o, none⟩) q cap] W fun e W' => e = .returned (.tuple #[.int .i64 f1, .int .i64 t1, .int .i64 0]) ∧ Below W.heap.size W W') := Lib.hid (fun W hW => by
    have h := lengths_any (some ⟨b, o, none⟩) (cs.take q) cap W ((R.out.take q).below hW)
    rw [TL.out] at h
    refine h.mono ?_
    rintro e W' ⟨hb, ⟨rfl, -⟩ | ⟨-, hno⟩⟩
    · exact ⟨by rw [hf1, ht1], hb⟩
    · exact absurd PM.out.1 hno)
  obtain ⟨ad, hsrc, L2⟩ : ∃ ad, (if cap = q then some (⟨b, o, none⟩ : Addr) else some ⟨b, o + q * 3, none⟩) = some ad ∧ Hid (∀ W, Below w.heap.size w W → Calls Try.prog 11 #[.slice (some ad) (cs.length - q) (cap - q)] W fun e W' => e = .returned (.tuple #[.int .i64 f2, .int .i64 t2, .int .i64 0]) ∧ Below W.heap.size W W') := by
    have key : ∀ ad : Addr, RowC w (some ad) (cs.drop q) → ∀ W, Below w.heap.size w W → Calls Try.prog 11 #[.slice (some ad) (cs.length - q) (cap - q)] W fun e W' => e = .returned (.tuple #[.int .i64 f2, .int .i64 t2, .int .i64 0]) ∧ Below W.heap.size W W' := by
      intro ad hrow W hW
      have h := lengths_any (some ad) (cs.drop q) (cap - q) W (hrow.below hW)
      rw [DL.out] at h
      refine h.mono ?_
      rintro e W' ⟨hb, ⟨rfl, -⟩ | ⟨-, hno⟩⟩
      · exact ⟨by rw [hf2, ht2], hb⟩
      · exact absurd PM.out.2 hno
    by_cases hcq : cap = q
    · rw [if_pos hcq]
      refine ⟨_, rfl, Lib.hid (key _ ?_)⟩
      intro i c hi
      have := (List.getElem?_eq_some_iff.1 hi).1
      rw [DL.out] at this
      omega
    · rw [if_neg hcq]
      exact ⟨_, rfl, Lib.hid (key _ (R.out.drop q))⟩
  clear hf1 hf2 ht1 ht2
  go_enter Try.func7, Try.ntmps7
  go_wp2_with (go_at_call 19; refine (awake_true _).mono ?_; rintro e w1 ⟨rfl, hb1⟩; have B1 := Lib.hid hb1; clear hb1)
  refine (lengths_any _ cs _ _ (R.out.below B1.out)).mono ?_
  rintro e w2 ⟨hb2, ⟨rfl, -⟩ | ⟨-, hno⟩⟩
  rotate_left
  · exact absurd HM.out hno
  have B2 := Lib.hid (B1.out.trans (hb2.mono B1.out.size))
  clear hb2
  rw [E1'.out, E2'.out]
  go_wp2_with (go_at_call 14; refine (num_any _ _).mono ?_; rintro e w' ⟨rfl, rfl⟩)
  refine (L1.out _ B2.out).mono ?_
  rintro e w3 ⟨rfl, hb3⟩
  have B3 := Lib.hid (B2.out.trans (hb3.mono B2.out.size))
  clear hb3
  go_wp2_with fail
  refine (L2.out _ B3.out).mono ?_
  rintro e w4 ⟨rfl, hb4⟩
  have B4 := Lib.hid (B3.out.trans (hb4.mono B3.out.size))
  clear hb4
  go_wp2_with (go_at_call 14; refine (num_any _ _).mono ?_; rintro e w' ⟨rfl, rfl⟩)
  go_ret
  exact ⟨rfl, B4.out⟩

set_option maxRecDepth 100000 in
set_option maxHeartbeats 1000000 in
theorem sizes_empty (p : Option Addr) (cap : Nat) (x : Int) (w : World) :
    Calls Try.prog 7 #[.slice p 0 cap, .int .i64 x] w fun e w' => e = .returned (.bool true) ∧ Below w.heap.size w w' := by
  have L : Hid (∀ q c W, Calls Try.prog 11 #[.slice q 0 c] W fun e W' => e = .returned (.tuple #[.int .i64 0, .int .i64 0, .int .i64 0]) ∧ Below W.heap.size W W') := Lib.hid (fun q c W => by
    refine (lengths_any q [] c W (fun i c hi => by simp at hi)).mono ?_
    rintro e W' ⟨hb, ⟨rfl, -⟩ | ⟨-, hno⟩⟩
    · exact ⟨rfl, hb⟩
    · exact absurd lit0_may hno)
  obtain ⟨q, hq, hqs⟩ := place_mod x 0 (by omega)
  obtain rfl : q = 0 := by omega
  clear hqs
  simp only [Int.natCast_zero, Int.zero_add] at hq
  cases p with
  | none =>
    go_enter Try.func7, Try.ntmps7
    go_wp2_with (first | (go_at_call 19; refine (awake_true _).mono ?_; rintro e w1 ⟨rfl, hb1⟩; have B1 := Lib.hid hb1; clear hb1) | (go_at_call 14; refine (num_any _ _).mono ?_; rintro e w' ⟨rfl, rfl⟩) | (go_at_call 11; refine (L.out _ _ _).mono ?_; rintro e w9 ⟨rfl, hb9⟩; replace B1 := Lib.hid (B1.out.trans (hb9.mono B1.out.size)); clear hb9))
    all_goals (go_ret; exact ⟨rfl, B1.out⟩)
  | some a =>
    go_enter Try.func7, Try.ntmps7
    go_wp2_with (first | (go_at_call 19; refine (awake_true _).mono ?_; rintro e w1 ⟨rfl, hb1⟩; have B1 := Lib.hid hb1; clear hb1) | (go_at_call 14; refine (num_any _ _).mono ?_; rintro e w' ⟨rfl, rfl⟩) | (go_at_call 11; refine (L.out _ _ _).mono ?_; rintro e w9 ⟨rfl, hb9⟩; replace B1 := Lib.hid (B1.out.trans (hb9.mono B1.out.size)); clear hb9))
    all_goals (go_ret; exact ⟨rfl, B1.out⟩)

end Go.Proofs.Ytiplhhldgkgbhaa
