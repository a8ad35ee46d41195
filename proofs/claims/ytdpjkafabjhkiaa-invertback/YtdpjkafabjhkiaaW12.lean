/-
  The walks of CopyComps, LendComps, KeptComps, SpoilComps. Conditions: as the theorems' premises say.
-/
import Derived.Test.YtdpjkafabjhkiaaSizes
import Derived.Laws.OwnMore
namespace Go.Proofs.Ytdpjkafabjhkiaa
open Go.RowKit

theorem cellsC_inv {cs : List C} {j : Nat} {u : Value} (h : (cellsC cs)[j]? = some u) : ∃ c, cs[j / 3]? = some c ∧ (C.cells c)[j % 3]? = some u := by
  have hj := (List.getElem?_eq_some_iff.1 h).1
  rw [cellsC_length] at hj
  have hi : j / 3 < cs.length := by omega
  have hc := List.getElem?_eq_getElem hi
  refine ⟨_, hc, ?_⟩
  obtain ⟨h0, h1, h2⟩ := cellsC_get hc
  have hjj : j = j / 3 * 3 + j % 3 := by omega
  have hm : j % 3 = 0 ∨ j % 3 = 1 ∨ j % 3 = 2 := by omega
  rcases hm with hm | hm | hm
  · rw [hm] at hjj ⊢; rw [hjj, Nat.add_zero, h0] at h; exact h
  · rw [hm] at hjj ⊢; rw [hjj, h1] at h; exact h
  · rw [hm] at hjj ⊢; rw [hjj, h2] at h; exact h

theorem RowC.news {w : World} {b o : Nat} {cs : List C} (h : RowC w (some ⟨b, o, none⟩) cs) : ∀ j u, (cellsC cs)[j]? = some u → w.cell? ((⟨b, o, none⟩ : Addr).add j) = some u := by
  intro j u hu
  obtain ⟨c, hc, hcu⟩ := cellsC_inv hu
  obtain ⟨b', o', hp, h0, h1, h2⟩ := h _ c hc
  cases hp
  rw [add_plain]
  have hjj : j = j / 3 * 3 + j % 3 := by omega
  have hm : j % 3 = 0 ∨ j % 3 = 1 ∨ j % 3 = 2 := by omega
  rcases hm with hm | hm | hm <;> rw [hm] at hcu hjj <;> rw [hjj] <;> simp only [C.cells, List.getElem?_cons_zero, List.getElem?_cons_succ, Option.some.injEq] at hcu <;> subst hcu
  · simpa using h0
  · rw [← Nat.add_assoc]; exact h1
  · rw [← Nat.add_assoc]; exact h2

/-- What copying answers. -/
def CopyPost (cs : List C) (w : World) (e : Ending) (w' : World) : Prop :=
  ∃ v, e = .returned v ∧ Own w' w.heap.size v cs ∧ v ≠ .slice none 0 0 ∧ Below w.heap.size w w'

set_option maxHeartbeats 400000 in
theorem copy_nil (p : Option Addr) (cap : Nat) (w : World) : Calls Try.prog 17 #[.slice p 0 cap] w (CopyPost [] w) := by
  obtain ⟨i0, hi, hz0, hz1, hz2⟩ := info_parts info39
  have OW : Hid ((w.alloc (.cells #[] 40)).ownsRow w.heap.size 40 3 (.slice (some ⟨w.heap.size, 0, none⟩) 0 0) 0 []) := Lib.hid (World.ownsRow_lit w #[] 0 (Nat.le_refl _) (by decide) rfl)
  cases p with
  | none =>
    go_enter Try.func17, Try.ntmps17
    go_wp2
    go_ret
    exact ⟨_, rfl, OW.out, by simp, (Below.refl _ _).alloc (Nat.le_refl _) _⟩
  | some a =>
    go_enter Try.func17, Try.ntmps17
    go_wp2_with (at_builtin; refine wpList_append_own _ rfl _ _ 22 rfl w.heap.size 40 i0 _ 3 32 Try.underlying22 hi hz0 hz1 hz2 rfl (by decide) (.slice (some ⟨w.heap.size, 0, none⟩) 0 0) 0 [] rfl OW.out a 0 cap [] rfl rfl (fun j u h => by simp at h) (fun u h => by simp at h) (by decide) (by decide) (by simp) ?_; intro v' w6 hown hgrow hnn)
    go_ret
    exact ⟨_, rfl, hown, fun h => by have := (hnn.1 h).1; simp at this, ((Below.refl _ _).alloc (Nat.le_refl _) _).grown hgrow (by simp) (fun k h => by cases h; exact Nat.le_refl _)⟩

set_option maxHeartbeats 400000 in
theorem copy_some (b o cap : Nat) (cs : List C) (w : World) (hr : RowC w (some ⟨b, o, none⟩) cs) (hl : cs.length * 32 ≤ 140737488355328) (h0 : 0 < cs.length) : Calls Try.prog 17 #[.slice (some ⟨b, o, none⟩) cs.length cap] w (CopyPost cs w) := by
  obtain ⟨i0, hi, hz0, hz1, hz2⟩ := info_parts info39
  have R := Lib.hid hr; clear hr
  have OW : Hid ((w.alloc (.cells #[] 40)).ownsRow w.heap.size 40 3 (.slice (some ⟨w.heap.size, 0, none⟩) 0 0) 0 []) := Lib.hid (World.ownsRow_lit w #[] 0 (Nat.le_refl _) (by decide) rfl)
  have NW : Hid (∀ j u, (cellsC cs)[j]? = some u → (w.alloc (.cells #[] 40)).cell? ((⟨b, o, none⟩ : Addr).add j) = some u) := Lib.hid (R.out.below ((Below.refl _ _).alloc (Nat.le_refl _) _)).news
  go_enter Try.func17, Try.ntmps17
  go_wp2_with (at_builtin; refine wpList_append_lies _ rfl _ _ 22 rfl w.heap.size 40 i0 _ 3 32 Try.underlying22 hi hz0 hz1 hz2 rfl (by decide) (.slice (some ⟨w.heap.size, 0, none⟩) 0 0) 0 [] rfl OW.out ⟨b, o, none⟩ cs.length cap (cellsC cs) rfl (cellsC_length cs) NW.out (cellsC_one cs) h0 (by unfold maxLen; omega) (by omega) (by simp) (w.heap.size + 1) (by simp) ?_; intro g cap' w6 hown hgrow hgg hlt)
  go_ret
  refine ⟨_, rfl, ?_, by simp, ((Below.refl _ _).alloc (Nat.le_refl _) _).grown hgrow (by simp) (fun k h => by cases h; exact Nat.le_refl _)⟩
  simpa [Own] using hown

theorem copy_any (p : Option Addr) (cs : List C) (cap : Nat) (w : World) (hr : RowC w p cs) (hl : cs.length * 32 ≤ 140737488355328) : Calls Try.prog 17 #[.slice p cs.length cap] w (CopyPost cs w) := by
  cases cs with
  | nil => exact copy_nil p cap w
  | cons c cs =>
    obtain ⟨b, o, rfl, _⟩ := hr 0 c rfl
    exact copy_some b o cap _ w hr hl (by simp)

def mk : C := ⟨0, 77777, e0⟩

def LendPost (cs : List C) (w : World) (e : Ending) (w' : World) : Prop :=
  ∃ g cap, e = .returned (.slice (some ⟨g, 0, none⟩) cs.length cap) ∧ Own w' w.heap.size (.slice (some ⟨g, 0, none⟩) (cs.length + 2) cap) (cs ++ [mk, mk]) ∧ cs.length + 2 ≤ cap ∧ Below w.heap.size w w'

set_option maxHeartbeats 1000000 in
theorem lend_any (p : Option Addr) (cs : List C) (cap : Nat) (w : World) (hr : RowC w p cs) (hl : (cs.length + 2) * 32 ≤ 140737488355328) : Calls Try.prog 6 #[.slice p cs.length cap] w (LendPost cs w) := by
  obtain ⟨i0, hi, hz0, hz1, hz2⟩ := info_parts info39
  have R := Lib.hid hr; clear hr
  go_enter Try.func6, Try.ntmps6
  go_wp2_with (first | (go_at_call 17; refine (copy_any _ _ _ _ R.out (by omega)).mono ?_; rintro e w1 ⟨v1, rfl, hown1, -, hb1⟩; obtain ⟨p1, cap1, hv1⟩ := hown1.form; subst hv1; have O1 := Lib.hid hown1; have B1 := Lib.hid hb1; clear hown1 hb1) | (at_builtin; refine wpList_append_lies _ rfl _ _ 22 rfl w.heap.size 40 i0 _ 3 32 Try.underlying22 hi hz0 hz1 hz2 rfl (by decide) (.slice p1 cs.length cap1) cs.length (cellsC cs) rfl (World.ownsRow.alloc O1.out _) ⟨w1.heap.size, 0, none⟩ 2 2 (cellsC [mk, mk]) rfl rfl (lit_row _ [mk, mk] _ rfl).news (cellsC_one _) (by decide) (by unfold maxLen; omega) (by omega) (Nat.le_trans B1.out.size (by simp)) (w1.heap.size + 1) (by simp) ?_; intro g cap3 w6 hown hgrow hgg hlt; have hcap : cs.length + 2 ≤ cap3 := (by rcases hown.2 with ⟨h, _⟩ | ⟨_, _, _, h, _, _, hc, _⟩; cases h; cases h; exact hc); have hcap' : (cs.length : Int) ≤ (cap3 : Int) := (by omega); have OW := Lib.hid hown; clear hown))
  go_ret
  refine ⟨g, cap3, rfl, ?_, hcap, (B1.out.alloc B1.out.size _).grown hgrow (by have := B1.out.size; simp; omega) (fun k h => (O1.out.lt h).1)⟩
  unfold Own
  rw [List.length_append, cellsC_append]
  exact OW.out

/-- They stand as they were lent. -/
def Lent (w : World) (g : Nat) (cs : List C) : Prop := RowC w (some ⟨g, 0, none⟩) (cs ++ [mk, mk])

theorem Lent.row {w : World} {g : Nat} {cs : List C} (h : Lent w g cs) : RowC w (some ⟨g, 0, none⟩) cs := by
  have := RowC.take h cs.length
  rwa [List.take_left] at this
theorem Lent.below {w w' : World} {g : Nat} {cs : List C} (h : Lent w g cs) (hb : Below w.heap.size w w') : Lent w' g cs := RowC.below h hb

set_option maxHeartbeats 1000000 in
theorem kept_any (p : Option Addr) (cs : List C) (cap g cap2 : Nat) (w : World) (hr : RowC w p cs) (hL : Lent w g cs) (hc : cs.length + 2 ≤ cap2) (hl : cs.length + 2 ≤ 140737488355328) : Calls Try.prog 12 #[.slice (some ⟨g, 0, none⟩) cs.length cap2, .slice p cs.length cap] w fun e w' => e = .returned (.bool true) ∧ Below w.heap.size w w' := by
  have R := Lib.hid hr; have L := Lib.hid hL
  obtain ⟨_, _, h1, a0, a1, a2⟩ := hL cs.length mk (by simp)
  cases h1
  obtain ⟨_, _, h1, b0, b1, b2⟩ := hL (cs.length + 1) mk (by simp)
  cases h1
  clear hr hL
  simp only [Nat.zero_add] at a0 a1 a2 b0 b1 b2
  have i1 : (cs.length : Int) + 2 ≤ (cap2 : Int) := by omega
  have hg := fun op x y => guard39 op x y #[.int .i64 0, .int .i64 77777, .string ⟨#[]⟩] #[.int .i64 0, .int .i64 77777, .string ⟨#[]⟩]
  have hn := eql39 mk mk
  rw [eqC_iff.2 rfl] at hn
  dsimp only [mk, e0] at hn a0 a1 a2 b0 b1 b2
  go_enter Try.func12, Try.ntmps12
  go_wp2_with (go_at_call 9; refine (same_any _ _ cs cs _ _ _ L.out.row R.out (by omega)).mono ?_; rintro e w1 ⟨hb1, ⟨rfl, -⟩ | ⟨-, hno⟩⟩; rotate_left; exact absurd rfl hno; have B1 := Lib.hid hb1; replace a0 := cell_later hb1 a0; replace a1 := cell_later hb1 a1; replace a2 := cell_later hb1 a2; replace b0 := cell_later hb1 b0; replace b1 := cell_later hb1 b1; replace b2 := cell_later hb1 b2; clear hb1)
  go_ret
  exact ⟨rfl, B1.out⟩

def Mid (xs : List Value) (n : Nat) : Prop := ∀ i, i < n → ∃ z, xs[i * 3 + 1]? = some (.int .i64 z)
theorem Mid.set {xs : List Value} {n : Nat} (h : Mid xs n) (k : Nat) (z : Int) : Mid (xs.set k (.int .i64 z)) n := fun i hi => by
  obtain ⟨y, hy⟩ := h i hi
  rw [List.getElem?_set]
  split
  · rename_i e
    rw [if_pos (by rw [e]; exact (List.getElem?_eq_some_iff.1 hy).1)]
    exact ⟨z, rfl⟩
  · exact ⟨y, hy⟩
theorem Mid.of_cells (cs : List C) : Mid (cellsC cs) cs.length := fun _ hi => ⟨_, (cellsC_get (List.getElem?_eq_getElem hi)).2.1⟩

set_option maxHeartbeats 1000000 in
theorem spoil_any (base : Nat) (v : Value) (cs : List C) (w : World) (ho : Own w base v cs) (hn : cs.length ≤ 4096) :
    Calls Try.prog 11 #[v] w fun e w' => e = .returned (.tuple #[]) ∧ w.grownBy w' v.ownBlock := by
  obtain ⟨p, cap, rfl⟩ := ho.form
  have OWN := Lib.hid ho; have X := Lib.hid (Mid.of_cells cs)
  unfold Own at OWN
  generalize cellsC cs = xs at OWN X
  clear ho
  generalize cs.length = n at *
  go_enter Try.func11, Try.ntmps11
  go_wp2
  go_loopw [2] (fun i wr => ∃ (k : Nat) (ys : List Value), k ≤ n ∧ i = .int .i64 k ∧ Hid (wr.ownsRow base 40 3 (.slice p n cap) n ys) ∧ Hid (Mid ys n) ∧ Hid (w.grownBy wr (Value.slice p n cap).ownBlock)) (fun i _ => n - (intOf i).toNat)
  case atStart => exact ⟨0, xs, Nat.zero_le _, rfl, OWN, X, Lib.hid (grown_refl _ _)⟩
  case round =>
    obtain ⟨k, ys, hk, rfl, O, Y, G⟩ := hrel
    clear OWN X
    by_cases hlt : k < n
    · obtain ⟨g, hp⟩ : ∃ g, p = some ⟨g, 0, none⟩ := by
        rcases O.out.2 with ⟨h, rfl⟩ | ⟨g, _, _, h, _⟩
        · omega
        · cases h; exact ⟨_, rfl⟩
      subst hp
      obtain ⟨z, hz⟩ := Y.out k hlt
      have hc : wr.cell? ⟨g, k * 3 + 1, none⟩ = some (.int .i64 z) := by
        have := O.out.cells (g := g) rfl _ _ hz
        rwa [add_plain, Nat.zero_add] at this
      have hf : wr.frozen? ⟨g, k * 3 + 1, none⟩ = false := World.ownsRow.frozenAt O.out _
      clear hz
      go_wp2
      go_roundw
      case rel =>
        refine ⟨k + 1, ys.set (k * 3 + 1) (.int .i64 _), by omega, by go_num, Lib.hid (owns_set O.out _), Lib.hid (Y.out.set _ _), Lib.hid ?_⟩
        exact grown_set G.out _
      case measure => simp [intOf]; omega
    · go_wp2
      go_end0
      exact ⟨rfl, G.out⟩

end Go.Proofs.Ytdpjkafabjhkiaa
