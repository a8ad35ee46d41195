/-
  KW1, KW2, KOwn, in one text. Conditions: as each theorem's premises say.
-/
import Derived.Test.YtjmfjlffcopnnaaDoorProg
import Derived.Test.YtjmfjlffcopnnaaDoorM00
import Derived.Lib.Bytes
import Derived.BigQuiet
import Derived.Lib.Hide
import Derived.Deep.AppendLies
namespace Go.Proofs.YtjmfjlffcopnnaaDoor.K
open Go.RowKit

theorem isEmpty_size (t : ByteArray) : t.toList.isEmpty = decide (t.size = 0) := by
  rw [Go.Lib.toList_data]
  obtain ⟨⟨l⟩⟩ := t
  cases l <;> simp [ByteArray.size]

set_option maxHeartbeats 400000 in
theorem num_any (n : Int) (w : World) : Calls Tryd.prog 7 #[.int .i64 n] w fun e w' => e = .returned (.int .i64 n) ∧ w = w' := by
  go_enter Tryd.func7, Tryd.ntmps7
  go_wp2
  go_ret
  exact ⟨rfl, rfl⟩

set_option maxHeartbeats 400000 in
theorem size_any (k n : Int) (t : ByteArray) (w : World) (_hn0 : 0 ≤ n) (_hn : n ≤ 16777216) (_ht : t.size ≤ 16777216) : Calls Tryd.prog 68 #[.agg #[.int .i64 k, .int .i64 n, .string t]] w fun e w' => e = .returned (.int .i64 (n + t.size)) ∧ Below w.heap.size w w' := by
  go_enter Tryd.func68, Tryd.ntmps68
  go_wp2
  go_ret
  exact ⟨rfl, (Below.refl _ _).alloc (Nat.le_refl _) _⟩

set_option maxHeartbeats 400000 in
theorem follows_any (a b : Int) (w : World) : Calls Tryd.prog 69 #[.int .i64 a, .int .i64 b] w fun e w' => e = .returned (.bool (decide (fol a b))) ∧ w = w' := by
  go_enter Tryd.func69, Tryd.ntmps69
  go_wp2
  all_goals go_ret
  all_goals refine ⟨congrArg (fun b => Ending.returned (Value.bool b)) ?_, rfl⟩
  all_goals (rw [Bool.eq_iff_iff, decide_eq_true_iff]; unfold fol; simp at *; try omega)

set_option maxHeartbeats 400000 in
theorem raw_any (c : C) (w : World) : Calls Tryd.prog 67 #[.agg #[.int .i64 c.k, .int .i64 c.n, .string c.t]] w fun e w' => e = .returned (.bool (rawB c)) ∧ Below w.heap.size w w' := by
  obtain ⟨k, n, t⟩ := c
  dsimp only
  go_enter Tryd.func67, Tryd.ntmps67
  go_wp2
  all_goals go_ret
  all_goals refine ⟨congrArg (fun b => Ending.returned (Value.bool b)) ?_, (Below.refl _ _).alloc (Nat.le_refl _) _⟩
  all_goals (rw [Bool.eq_iff_iff, rawB_iff]; unfold C.Raw; try rw [isEmpty_size])
  all_goals (dsimp only; generalize t.size = m at *; simp at *; try omega)

end Go.Proofs.YtjmfjlffcopnnaaDoor.K

namespace Go.Proofs.YtjmfjlffcopnnaaDoor.K
open Go.RowKit

theorem add_plain (b o i : Nat) : (⟨b, o, none⟩ : Addr).add i = ⟨b, o + i, none⟩ := by unfold Addr.add; split <;> simp_all

/-- One piece lies at an address. -/
def PieceAt (w : World) (b o : Nat) (c : C) : Prop :=
  w.cell? ⟨b, o, none⟩ = some (.int .i64 c.k) ∧ w.cell? ⟨b, o + 1, none⟩ = some (.int .i64 c.n) ∧ w.cell? ⟨b, o + 2, none⟩ = some (.string c.t)

/-- The pieces of a slice, as they lie in memory. -/
def RowC (w : World) (p : Option Addr) (cs : List C) : Prop :=
  ∀ (i : Nat) c, cs[i]? = some c → ∃ b o, p = some ⟨b, o, none⟩ ∧ PieceAt w b (o + i * 3) c

theorem PieceAt.below {w w' : World} {b o : Nat} {c : C} (h : PieceAt w b o c) (hb : Below w.heap.size w w') : PieceAt w' b o c :=
  ⟨cell_later hb h.1, cell_later hb h.2.1, cell_later hb h.2.2⟩
theorem RowC.below {w w' : World} {p : Option Addr} {cs : List C} (h : RowC w p cs) (hb : Below w.heap.size w w') : RowC w' p cs := fun i c hi => by
  obtain ⟨b, o, hp, hc⟩ := h i c hi
  exact ⟨b, o, hp, hc.below hb⟩

theorem new_piece (w : World) (k n : Int) (t : ByteArray) : PieceAt (w.alloc (.cells #[.int .i64 k, .int .i64 n, .string t] 42)) w.heap.size 0 ⟨k, n, t⟩ := by
  refine ⟨?_, ?_, ?_⟩ <;> (rw [World.cell?_alloc_mark]; rfl)

theorem sum_bounds {f : C → Int} (hf : ∀ c : C, c.Raw → 0 ≤ f c ∧ f c ≤ 4096) (cs : List C) : (∀ c ∈ cs, c.Raw) → 0 ≤ sumOf f cs ∧ sumOf f cs ≤ 4096 * cs.length := by
  induction cs with
  | nil => intro _; simp [sumOf]
  | cons c cs ih =>
    intro h
    have h1 := hf c (h c (by simp))
    have h2 := ih fun x hx => h x (by simp [hx])
    simp only [sumOf, List.length_cons]
    omega
theorem from_bounds (c : C) (h : c.Raw) : 0 ≤ fromC c ∧ fromC c ≤ 4096 := by unfold C.Raw at h; unfold fromC; split <;> omega
theorem to_bounds (c : C) (h : c.Raw) : 0 ≤ toC c ∧ toC c ≤ 4096 := by unfold C.Raw at h; unfold toC C.sz; split <;> omega
theorem raw_step {cs : List C} {j : Nat} {c : C} (h : ∀ x ∈ cs.take j, x.Raw) (hc : cs[j]? = some c) (hr : c.Raw) : ∀ x ∈ cs.take (j + 1), x.Raw := by
  intro x hx
  rw [List.take_add_one, hc] at hx
  rcases List.mem_append.1 hx with hx | hx
  · exact h x hx
  · simp at hx; subst hx; exact hr

def MeasPost (cs : List C) (w : World) (e : Ending) (w' : World) : Prop :=
  e = .returned (if okB cs then .tuple #[.int .i64 (sumOf fromC cs), .int .i64 (sumOf toC cs), .bool true] else .tuple #[.int .i64 0, .int .i64 0, .bool false]) ∧ Below w.heap.size w w'

set_option maxHeartbeats 400000 in
theorem measure_long (p : Option Addr) (cs : List C) (cap : Nat) (w : World) (hl : 4096 < cs.length) : Calls Tryd.prog 45 #[.slice p cs.length cap] w (MeasPost cs w) := by
  have h0 : okB cs = false := by simp [okB]; omega
  go_enter Tryd.func45, Tryd.ntmps45
  go_wp2
  go_ret3
  exact ⟨by rw [h0]; rfl, Below.refl _ _⟩

set_option maxHeartbeats 2000000 in
theorem measure_short (p : Option Addr) (cs : List C) (cap : Nat) (w : World) (hr : RowC w p cs) (hl : cs.length ≤ 4096) : Calls Tryd.prog 45 #[.slice p cs.length cap] w (MeasPost cs w) := by
  have R := Lib.hid hr; clear hr
  go_enter Tryd.func45, Tryd.ntmps45
  go_wp2
  go_loopw [5, 6, 14] (fun f t i wr => ∃ j : Nat, j ≤ cs.length ∧ i = .int .i64 j ∧ f = .int .i64 (sumOf fromC (cs.take j)) ∧ t = .int .i64 (sumOf toC (cs.take j)) ∧ Hid (∀ c ∈ cs.take j, c.Raw) ∧ Hid (Below w.heap.size w wr)) (fun _ _ i _ => cs.length - (intOf i).toNat)
  case atStart => exact ⟨0, Nat.zero_le _, rfl, rfl, rfl, Lib.hid (by simp), Lib.hid (Below.refl _ _)⟩
  case round =>
    obtain ⟨j, hj, rfl, rfl, rfl, HR, B⟩ := hrel
    have hf1 := sum_bounds from_bounds _ HR.out
    have ht1 := sum_bounds to_bounds _ HR.out
    rw [List.length_take] at hf1 ht1
    have hf0 : 0 ≤ sumOf fromC (cs.take j) := hf1.1
    have hf2 : sumOf fromC (cs.take j) ≤ 16777216 := by omega
    have ht0 : 0 ≤ sumOf toC (cs.take j) := ht1.1
    have ht2 : sumOf toC (cs.take j) ≤ 16777216 := by omega
    clear hf1 ht1
    by_cases hlt : j < cs.length
    · have hc := List.getElem?_eq_getElem hlt
      generalize cs[j] = c at hc
      have e1 := sumOf_take_succ (f := fromC) hc
      have e2 := sumOf_take_succ (f := toC) hc
      obtain ⟨b, o, rfl, hp⟩ := R.out j c hc
      obtain ⟨c0, c1, c2⟩ := hp.below B.out
      have E1 := Lib.hid e1; have E2 := Lib.hid e2; have HC := Lib.hid hc
      clear e1 e2 hc hp
      obtain ⟨k, n, t⟩ := c
      dsimp only at c0 c1 c2
      by_cases hraw : C.Raw ⟨k, n, t⟩
      · have HRS := Lib.hid (raw_step HR.out HC.out hraw)
        have hrb : rawB ⟨k, n, t⟩ = true := decide_eq_true hraw
        have HRB := Lib.hid hrb; clear hrb
        rcases hraw with ⟨hk | hk, h1, h2, h3⟩ | ⟨hk, h1, h2⟩ <;> dsimp only at hk h1 h2 <;> subst hk
        · dsimp only at h3
          go_wp2_with (first | (go_at_call 67; refine (raw_any ⟨0, n, t⟩ _).mono ?_; rintro e w1 ⟨rfl, hb1⟩; rw [HRB.out]; obtain ⟨d0, d1, d2⟩ := (new_piece wr 0 n t).below hb1; simp only [Nat.zero_add] at d0 d1 d2; have B1 := Lib.hid ((B.out.alloc B.out.size _).trans (hb1.mono (by simp; have := B.out.size; omega))); clear hb1) | (go_at_call 68; refine (size_any _ _ _ _ h1 (by omega) (by omega)).mono ?_; rintro e w2 ⟨rfl, hb2⟩))
          go_roundw
          case rel => exact ⟨j + 1, by omega, by go_num, by rw [E1.out]; rfl, by rw [E2.out]; simp [toC, C.sz, h3], HRS, Lib.hid (B1.out.trans (hb2.mono B1.out.size))⟩
          case measure => simp [intOf]; omega
        · dsimp only at h3
          go_wp2_with (first | (go_at_call 67; refine (raw_any ⟨2, n, t⟩ _).mono ?_; rintro e w1 ⟨rfl, hb1⟩; rw [HRB.out]; obtain ⟨d0, d1, d2⟩ := (new_piece wr 2 n t).below hb1; simp only [Nat.zero_add] at d0 d1 d2; have B1 := Lib.hid ((B.out.alloc B.out.size _).trans (hb1.mono (by simp; have := B.out.size; omega))); clear hb1) | (go_at_call 68; refine (size_any _ _ _ _ h1 (by omega) (by omega)).mono ?_; rintro e w2 ⟨rfl, hb2⟩))
          go_roundw
          case rel => exact ⟨j + 1, by omega, by go_num, by rw [E1.out]; rfl, by rw [E2.out]; simp [toC], HRS, B1⟩
          case measure => simp [intOf]; omega
        · subst h1
          go_wp2_with (first | (go_at_call 67; refine (raw_any ⟨1, 0, t⟩ _).mono ?_; rintro e w1 ⟨rfl, hb1⟩; rw [HRB.out]; obtain ⟨d0, d1, d2⟩ := (new_piece wr 1 0 t).below hb1; simp only [Nat.zero_add] at d0 d1 d2; have B1 := Lib.hid ((B.out.alloc B.out.size _).trans (hb1.mono (by simp; have := B.out.size; omega))); clear hb1) | (go_at_call 68; refine (size_any _ _ _ _ (by omega) (by omega) (by omega)).mono ?_; rintro e w2 ⟨rfl, hb2⟩))
          go_roundw
          case rel => exact ⟨j + 1, by omega, by go_num, by rw [E1.out]; simp [fromC], by rw [E2.out]; simp [toC, C.sz], HRS, Lib.hid (B1.out.trans (hb2.mono B1.out.size))⟩
          case measure => simp [intOf]; omega
      · go_wp2_with (go_at_call 67; refine (raw_any ⟨k, n, t⟩ _).mono ?_; rintro e w1 ⟨rfl, hb1⟩; rw [show rawB ⟨k, n, t⟩ = false from decide_eq_false hraw])
        go_ret3
        have h0 : okB cs = false := by
          cases h : okB cs with
          | false => rfl
          | true => exact absurd ((okB_iff.1 h).2.1 _ (List.mem_of_getElem? HC.out)) hraw
        exact ⟨by rw [h0]; rfl, (B.out.alloc B.out.size _).trans (hb1.mono (by simp; have := B.out.size; omega))⟩
    · have hjj : j = cs.length := by omega
      subst hjj
      rw [List.take_length] at *
      have OK := Lib.hid (okB_iff (cs := cs))
      by_cases g1 : sumOf fromC cs ≤ 4096
      · by_cases g2 : sumOf toC cs ≤ 4096
        · go_wp2
          go_ret3
          have h0 : okB cs = true := OK.out.2 ⟨hl, HR.out, g1, g2⟩
          exact ⟨by rw [h0]; rfl, B.out⟩
        · go_wp2
          go_ret3
          have h0 : okB cs = false := by
            cases h : okB cs with
            | false => rfl
            | true => have := (OK.out.1 h).2.2.2; omega
          exact ⟨by rw [h0]; rfl, B.out⟩
      · go_wp2
        go_ret3
        have h0 : okB cs = false := by
          cases h : okB cs with
          | false => rfl
          | true => have := (OK.out.1 h).2.2.1; omega
        exact ⟨by rw [h0]; rfl, B.out⟩

theorem measure_any (p : Option Addr) (cs : List C) (cap : Nat) (w : World) (hr : RowC w p cs) : Calls Tryd.prog 45 #[.slice p cs.length cap] w (MeasPost cs w) := by
  by_cases h : cs.length ≤ 4096
  · exact measure_short p cs cap w hr h
  · exact measure_long p cs cap w (by omega)

end Go.Proofs.YtjmfjlffcopnnaaDoor.K

namespace Go.Proofs.YtjmfjlffcopnnaaDoor.K
open Go.RowKit

theorem info39 : (Tryd.prog.info? 42).map (fun i => (i.zero, i.size, i.bytes)) = some (some (.agg #[.int .i64 0, .int .i64 0, .string ⟨#[]⟩]), 3, 32) := by kernel_rfl

theorem cellsC_nil : cellsC [] = [] := rfl
theorem cellsC_append (a b : List C) : cellsC (a ++ b) = cellsC a ++ cellsC b := by simp [cellsC]
theorem cellsC_length (cs : List C) : (cellsC cs).length = cs.length * 3 := by
  induction cs with
  | nil => rfl
  | cons c cs ih =>
    have : cellsC (c :: cs) = C.cells c ++ cellsC cs := by simp [cellsC]
    rw [this, List.length_append, ih, List.length_cons]; simp [C.cells]; omega
theorem cellsC_one (cs : List C) : ∀ u ∈ cellsC cs, u.oneCell' = true := by
  intro u hu
  obtain ⟨c, _, hc⟩ := List.mem_flatMap.1 hu
  simp [C.cells] at hc
  rcases hc with rfl | rfl | rfl <;> rfl
theorem cellsC_get {cs : List C} {i : Nat} {c : C} (h : cs[i]? = some c) : (cellsC cs)[i * 3]? = some (.int .i64 c.k) ∧ (cellsC cs)[i * 3 + 1]? = some (.int .i64 c.n) ∧ (cellsC cs)[i * 3 + 2]? = some (.string c.t) := by
  obtain ⟨hl, he⟩ := List.getElem?_eq_some_iff.1 h
  have h1 : cs = cs.take i ++ (c :: cs.drop (i + 1)) := by
    rw [← he]; simp
  have h2 : cellsC cs = cellsC (cs.take i) ++ (C.cells c ++ cellsC (cs.drop (i + 1))) := by
    conv => lhs; rw [h1]
    rw [cellsC_append]; simp [cellsC]
  have h3 : (cellsC (cs.take i)).length = i * 3 := by rw [cellsC_length, List.length_take]; congr 1; omega
  rw [h2]
  refine ⟨?_, ?_, ?_⟩
  · rw [List.getElem?_append_right (by omega), h3, Nat.sub_self]; rfl
  · rw [List.getElem?_append_right (by omega), h3, Nat.add_sub_cancel_left]; rfl
  · rw [List.getElem?_append_right (by omega), h3, Nat.add_sub_cancel_left]; rfl

/-- v is a slice of these pieces in memory of the call's own, from block base on. -/
def Own (w : World) (base : Nat) (v : Value) (cs : List C) : Prop := w.ownsRow base 42 3 v cs.length (cellsC cs)

theorem Own.nil (w : World) (base : Nat) : Own w base (.slice none 0 0) [] := World.ownsRow_nil _ _ _ _
theorem Own.form {w : World} {base : Nat} {v : Value} {cs : List C} (h : Own w base v cs) : ∃ p cap, v = .slice p cs.length cap := by
  rcases h.2 with ⟨h, hn⟩ | ⟨g, cap, _, h, _⟩
  · rw [hn]; exact ⟨_, _, h⟩
  · exact ⟨_, _, h⟩
theorem Own.formS {w : World} {base : Nat} {v : Value} {cs : List C} {l : C} (h : Own w base v (cs ++ [l])) : ∃ g cap, v = .slice (some ⟨g, 0, none⟩) (cs.length + 1) cap ∧ base ≤ g ∧ g < w.heap.size ∧ cs.length + 1 ≤ cap := by
  rcases h.2 with ⟨h, hn⟩ | ⟨g, cap, _, h, hb, hg, hc, _⟩
  · simp at hn
  · exact ⟨g, cap, by simpa using h, hb, (Array.getElem?_eq_some_iff.1 hg).1, by simpa using hc⟩
theorem Own.piece {w : World} {base : Nat} {g n cap : Nat} {cs : List C} (h : Own w base (.slice (some ⟨g, 0, none⟩) n cap) cs) {i : Nat} {c : C} (hi : cs[i]? = some c) : PieceAt w g (i * 3) c := by
  obtain ⟨h0, h1, h2⟩ := cellsC_get hi
  have e0 := World.ownsRow.cells h (g := g) rfl _ _ h0
  have e1 := World.ownsRow.cells h (g := g) rfl _ _ h1
  have e2 := World.ownsRow.cells h (g := g) rfl _ _ h2
  rw [add_plain, Nat.zero_add] at e0 e1 e2
  exact ⟨e0, e1, e2⟩
theorem Own.row {w : World} {base : Nat} {p : Option Addr} {n cap : Nat} {cs : List C} (h : Own w base (.slice p n cap) cs) : RowC w p cs := by
  intro i c hi
  rcases h.2 with ⟨_, hn⟩ | ⟨g, _, _, hv, _⟩
  · have := (List.getElem?_eq_some_iff.1 hi).1; omega
  · cases hv
    exact ⟨g, 0, rfl, by rw [Nat.zero_add]; exact h.piece hi⟩
theorem Own.front {w : World} {base : Nat} {g n cap : Nat} {cs : List C} {l : C} (h : Own w base (.slice (some ⟨g, 0, none⟩) n cap) (cs ++ [l])) : Own w base (.slice (some ⟨g, 0, none⟩) cs.length cap) cs := by
  refine ⟨cellsC_length cs, ?_⟩
  rcases h.2 with ⟨_, hn⟩ | ⟨g', cap', cur, hv, hb, hg, hc, hm, hs, ht⟩
  · simp at hn
  · cases hv
    refine .inr ⟨g, cap, cur, rfl, hb, hg, by simp at hc; omega, hm, hs, ?_⟩
    have e := congrArg (List.take (cs.length * 3)) ht
    rw [List.take_take, cellsC_append, List.take_append_of_le_length (by rw [cellsC_length]; omega), List.take_of_length_le (l := cellsC cs) (by rw [cellsC_length]; omega), List.length_append, Nat.min_eq_left (by simp; omega)] at e
    exact e
theorem Own.lt {w : World} {base : Nat} {v : Value} {cs : List C} (h : Own w base v cs) {g : Nat} (hg : v.ownBlock = some g) : base ≤ g ∧ g < w.heap.size := World.ownsRow.lt h g hg
theorem Own.below {w w' : World} {base : Nat} {v : Value} {cs : List C} (h : Own w base v cs) (hb : Below w.heap.size w w') : Own w' base v cs :=
  World.ownsRow.kept (row := none) h ⟨hb.os, hb.tape, hb.output, hb.size, fun k hk _ => hb.block k hk⟩ (by cases v.ownBlock <;> simp)
theorem Own.mono {w : World} {base base' : Nat} {v : Value} {cs : List C} (h : Own w base v cs) (hb : base' ≤ base) : Own w base' v cs := by
  refine ⟨h.1, ?_⟩
  rcases h.2 with h | ⟨g, cap, cur, hv, h1, h2⟩
  · exact .inl h
  · exact .inr ⟨g, cap, cur, hv, Nat.le_trans hb h1, h2⟩

theorem heap_setCell_at {w : World} {g i : Nat} {cur : Array Value} {e : TypeId} {fr : Nat × Nat} (h : w.heap[g]? = some (.cells cur e fr)) (u : Value) : (w.setCell ⟨g, i, none⟩ u).heap[g]? = some (.cells (cur.setIfInBounds i u) e fr) := by
  simp [World.setCell, Array.getElem?_modify, h]

theorem owns_set {w : World} {base e size g n cap i : Nat} {xs : List Value} (h : w.ownsRow base e size (.slice (some ⟨g, 0, none⟩) n cap) n xs) (u : Value) :
    (w.setCell ⟨g, i, none⟩ u).ownsRow base e size (.slice (some ⟨g, 0, none⟩) n cap) n (xs.set i u) := by
  refine ⟨by rw [List.length_set]; exact h.1, ?_⟩
  rcases h.2 with ⟨hv, _⟩ | ⟨g', cap', cur, hv, hb, hg, hnc, hm, hs, ht⟩
  · cases hv
  · cases hv
    refine .inr ⟨g, cap, _, rfl, hb, heap_setCell_at hg u, hnc, hm, by simpa using hs, ?_⟩
    rw [Array.toList_setIfInBounds, List.take_set, ht]

theorem cellsC_set {cs : List C} {l : C} (n' : Int) (t' : ByteArray) : ((cellsC (cs ++ [l])).set (cs.length * 3 + 1) (.int .i64 n')).set (cs.length * 3 + 2) (.string t') = cellsC (cs ++ [⟨l.k, n', t'⟩]) := by
  rw [cellsC_append, cellsC_append, List.set_append_right _ _ (by rw [cellsC_length]; omega), List.set_append_right _ _ (by rw [cellsC_length]; omega), cellsC_length, Nat.add_sub_cancel_left, Nat.add_sub_cancel_left]
  rfl

theorem Own.setLast {w : World} {base g n cap : Nat} {cs : List C} {l : C} (hn : n = cs.length + 1) (h : Own w base (.slice (some ⟨g, 0, none⟩) n cap) (cs ++ [l])) (n' : Int) (t' : ByteArray) :
    Own ((w.setCell ⟨g, cs.length * 3 + 1, none⟩ (.int .i64 n')).setCell ⟨g, cs.length * 3 + 2, none⟩ (.string t')) base (.slice (some ⟨g, 0, none⟩) n cap) (cs ++ [⟨l.k, n', t'⟩]) := by
  unfold Own at *
  rw [List.length_append, List.length_singleton, ← hn] at *
  have := owns_set (i := cs.length * 3 + 2) (owns_set (i := cs.length * 3 + 1) h (.int .i64 n')) (.string t')
  rwa [cellsC_set] at this

theorem Own.frozen {w : World} {base g n cap : Nat} {cs : List C} (h : Own w base (.slice (some ⟨g, 0, none⟩) n cap) cs) (i : Nat) : w.frozen? ⟨g, i, none⟩ = false := by
  rcases h.2 with ⟨hv, _⟩ | ⟨g', cap', cur, hv, hb, hg, _⟩
  · cases hv
  · cases hv
    simp [World.frozen?, hg]

theorem grown_refl (w : World) (row : Option Nat) : w.grownBy w row := ⟨rfl, rfl, rfl, Nat.le_refl _, fun _ _ _ => rfl⟩
theorem grown_of_below {w w' : World} (h : Below w.heap.size w w') (row : Option Nat) : w.grownBy w' row := ⟨h.os, h.tape, h.output, h.size, fun k hk _ => h.block k hk⟩
theorem grown_trans {w w1 w2 : World} {row row1 : Option Nat} (h : w.grownBy w1 row) (h1 : w1.grownBy w2 row1) (hr : ∀ g, row1 = some g → row = some g ∨ w.heap.size ≤ g) : w.grownBy w2 row :=
  ⟨h1.os.trans h.os, h1.tape.trans h.tape, h1.output.trans h.output, Nat.le_trans h.size h1.size, fun k hk hne => (h1.block k (Nat.lt_of_lt_of_le hk h.size) (fun e => by rcases hr k e.symm with h | h; exact hne h.symm; omega)).trans (h.block k hk hne)⟩
theorem grown_set {w w1 : World} {g i : Nat} (h : w.grownBy w1 (some g)) (u : Value) : w.grownBy (w1.setCell ⟨g, i, none⟩ u) (some g) :=
  ⟨h.os, h.tape, h.output, by simpa using h.size, fun k hk hne => by
    have : k ≠ g := fun e => hne (by rw [e])
    rw [← h.block k hk hne]
    simp [World.setCell, Array.getElem?_modify, this.symm]⟩

theorem grown_drew {w w1 : World} {row : Option Nat} (h : w.grownBy w1 row) : w.grownBy w1.drew row := ⟨h.os, h.tape, h.output, h.size, h.block⟩

/-- What add answers. -/
def AddPost (base : Nat) (v : Value) (out : List C) (w : World) (e : Ending) (w' : World) : Prop :=
  ∃ v', e = .returned v' ∧ Own w' base v' out ∧ w.grownBy w' v.ownBlock ∧ ∀ g, v'.ownBlock = some g → v.ownBlock = some g ∨ w.heap.size ≤ g

def Fit (c : C) : Prop := 0 ≤ c.n ∧ c.n ≤ 16777216 ∧ c.t.size ≤ 16777216

theorem dr_below (w : World) (m : Nat) : Below w.heap.size w (w.drewN m) := ⟨rfl, rfl, rfl, Nat.le_refl _, fun _ _ => rfl⟩

theorem three_new {w : World} {H : Nat} (hH : w.heap.size = H) (c : C) : ∀ j u, (C.cells c)[j]? = some u → (w.alloc (.cells #[.int .i64 c.k, .int .i64 c.n, .string c.t] 42)).cell? ((⟨H, 0, none⟩ : Addr).add j) = some u := by
  subst hH
  exact World.news_of_block (heap_alloc_new w _)
theorem cells_one (c : C) : ∀ u ∈ C.cells c, u.oneCell' = true := by
  intro u hu
  simp [C.cells] at hu
  rcases hu with rfl | rfl | rfl <;> rfl
/-- What append gives. -/
theorem AddPost.of_append {base : Nat} {v : Value} {cs : List C} {c : C} {w W w' : World} {g n cap : Nat} (hB : Below w.heap.size w W) (hn : n = cs.length + 1) (ho : w'.ownsRow base 42 3 (.slice (some ⟨g, 0, none⟩) n cap) n (cellsC cs ++ C.cells c)) (hg : W.grownBy w' v.ownBlock) (hgg : v.ownBlock = some g ∨ g = W.heap.size) :
    AddPost base v (cs ++ [c]) w (.returned (.slice (some ⟨g, 0, none⟩) n cap)) w' := by
  refine ⟨_, rfl, ?_, ?_, ?_⟩
  · unfold Own
    rw [List.length_append, List.length_singleton, ← hn, cellsC_append]
    have : cellsC [c] = C.cells c := by simp [cellsC]
    rw [this]; exact ho
  · exact grown_trans (grown_of_below hB _) hg (fun g h => .inl h)
  · intro g' h
    simp only [Value.ownBlock, Option.some.injEq] at h
    subst h
    rcases hgg with h | h
    · exact .inl h
    · right; rw [h]; exact hB.size

/-- A box of the call's own with one piece in it; nothing of w0 has turned. -/
def Box (w0 w : World) (b : Nat) (c : C) : Prop :=
  Below w0.heap.size w0 w ∧ PieceAt w b 0 c ∧ (∀ i, w.frozen? ⟨b, i, none⟩ = false) ∧ w0.heap.size ≤ b ∧ b < w.heap.size
theorem Box.new (w : World) (k n : Int) (t : ByteArray) : Box w (w.alloc (.cells #[.int .i64 k, .int .i64 n, .string t] 42)) w.heap.size ⟨k, n, t⟩ :=
  ⟨(Below.refl _ _).alloc (Nat.le_refl _) _, new_piece w k n t, fun i => by simp [World.frozen?_alloc_mark], Nat.le_refl _, by simp⟩
theorem Box.below {w0 w w' : World} {b : Nat} {c : C} (h : Box w0 w b c) (hb : Below w.heap.size w w') : Box w0 w' b c :=
  ⟨h.1.trans (hb.mono h.1.size), h.2.1.below hb, fun i => (hb.frozen (p := ⟨b, i, none⟩) h.2.2.2.2).trans (h.2.2.1 i), h.2.2.2.1, Nat.lt_of_lt_of_le h.2.2.2.2 hb.size⟩
theorem Box.dr {w0 w : World} {b : Nat} {c : C} (h : Box w0 w b c) (m : Nat) : Box w0 (w.drewN m) b c := h.below (dr_below w m)
theorem Box.cells {w0 w : World} {b : Nat} {k n : Int} {t : ByteArray} (h : Box w0 w b ⟨k, n, t⟩) : w.cell? ⟨b, 0, none⟩ = some (.int .i64 k) ∧ w.cell? ⟨b, 1, none⟩ = some (.int .i64 n) ∧ w.cell? ⟨b, 2, none⟩ = some (.string t) := by
  have := h.2.1
  simpa [PieceAt] using this

end Go.Proofs.YtjmfjlffcopnnaaDoor.K
