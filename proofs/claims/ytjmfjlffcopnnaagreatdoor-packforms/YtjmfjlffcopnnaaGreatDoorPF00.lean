/-
  KBase, KMath, KW1, KW2, in one text. Conditions: as each theorem's premises say.
-/
import Derived.WalkKit
import Derived.WalkSpells
import Derived.WalkLawsBesides
import Derived.Test.YtjmfjlffcopnnaaGreatDoorProg
import Derived.Lib.Bytes
import Derived.BigQuiet
import Derived.Lib.Hide
namespace Go.Proofs.YtjmfjlffcopnnaaGreatDoor.K
open Go.RowKit

/-- A piece: its kind, its number, its text. -/
structure C where
  k : Int
  n : Int
  t : ByteArray

def C.cells (c : C) : List Value := [.int .i64 c.k, .int .i64 c.n, .string c.t]
def cellsC (cs : List C) : List Value := cs.flatMap C.cells

end Go.Proofs.YtjmfjlffcopnnaaGreatDoor.K

namespace Go.Proofs.YtjmfjlffcopnnaaGreatDoor.K

theorem C.ext' {a b : C} (hk : a.k = b.k) (hn : a.n = b.n) (ht : a.t = b.t) : a = b := by
  cases a; cases b; simp_all

def C.sz (c : C) : Int := c.n + c.t.size

def C.Raw (c : C) : Prop := ((c.k = 0 ∨ c.k = 2) ∧ 0 ≤ c.n ∧ c.n ≤ 4096 ∧ c.t.size = 0) ∨ (c.k = 1 ∧ c.n = 0 ∧ c.t.size ≤ 4096)
instance (c : C) : Decidable c.Raw := by unfold C.Raw; exact inferInstance
def rawB (c : C) : Bool := decide c.Raw
theorem rawB_iff {c : C} : rawB c = true ↔ c.Raw := decide_eq_true_iff

def fromC (c : C) : Int := if c.k = 1 then 0 else c.n
def toC (c : C) : Int := if c.k = 2 then 0 else c.sz
def sumOf (f : C → Int) : List C → Int
  | [] => 0
  | c :: cs => f c + sumOf f cs

theorem sumOf_append (f : C → Int) (a b : List C) : sumOf f (a ++ b) = sumOf f a + sumOf f b := by
  induction a with
  | nil => simp [sumOf]
  | cons c a ih => simp only [List.cons_append, sumOf, ih]; omega

def okB (cs : List C) : Bool := decide (cs.length ≤ 4096) && cs.all rawB && decide (sumOf fromC cs ≤ 4096) && decide (sumOf toC cs ≤ 4096)
theorem okB_iff {cs : List C} : okB cs = true ↔ cs.length ≤ 4096 ∧ (∀ c ∈ cs, c.Raw) ∧ sumOf fromC cs ≤ 4096 ∧ sumOf toC cs ≤ 4096 := by
  simp [okB, rawB_iff, and_assoc]

theorem list_snoc {α : Type} {P : List α → Prop} (h0 : P []) (h1 : ∀ l a, P l → P (l ++ [a])) (l : List α) : P l := by
  have : ∀ r : List α, P r.reverse := fun r => by
    induction r with
    | nil => exact h0
    | cons a r ih => rw [List.reverse_cons]; exact h1 _ _ ih
  simpa using this l.reverse

theorem sumOf_take_succ {f : C → Int} {cs : List C} {i : Nat} {c : C} (h : cs[i]? = some c) : sumOf f (cs.take (i + 1)) = sumOf f (cs.take i) + f c := by
  rw [List.take_add_one, h, sumOf_append]; simp [sumOf]

/-- The normal form. -/
def fol (a b : Int) : Prop := a ≠ b ∧ (a ≠ 2 ∨ b ≠ 1)
instance (a b : Int) : Decidable (fol a b) := by unfold fol; exact inferInstance
def NormR : List C → Prop
  | [] => True
  | c :: r => c.sz ≠ 0 ∧ (∀ l, r.head? = some l → fol l.k c.k) ∧ NormR r

/-- Piece by piece, as the program asks. -/
def Norm (cs : List C) : Prop := ∀ (i : Nat) c, cs[i]? = some c → c.sz ≠ 0 ∧ ∀ l, (i = 0 → False) → cs[i - 1]? = some l → fol l.k c.k

theorem norm_snoc {cs : List C} {a : C} : Norm (cs ++ [a]) ↔ Norm cs ∧ a.sz ≠ 0 ∧ ∀ l, cs.getLast? = some l → fol l.k a.k := by
  constructor
  · intro h
    refine ⟨fun i c hi => ?_, ?_, ?_⟩
    · have hl := (List.getElem?_eq_some_iff.1 hi).1
      obtain ⟨h1, h2⟩ := h i c (by rw [List.getElem?_append_left hl]; exact hi)
      exact ⟨h1, fun l h0 hl' => h2 l h0 (by rw [List.getElem?_append_left (by omega)]; exact hl')⟩
    · exact (h cs.length a (by simp)).1
    · intro l hl
      have hne : cs ≠ [] := by rintro rfl; simp at hl
      have hp : 0 < cs.length := List.length_pos_iff.2 hne
      refine (h cs.length a (by simp)).2 l (by omega) ?_
      rw [List.getElem?_append_left (by omega)]
      rw [List.getLast?_eq_getElem?] at hl
      exact hl
  · rintro ⟨h, h0, h1⟩ i c hi
    by_cases hl : i < cs.length
    · rw [List.getElem?_append_left hl] at hi
      obtain ⟨g1, g2⟩ := h i c hi
      exact ⟨g1, fun l hi0 hl' => g2 l hi0 (by rwa [List.getElem?_append_left (by omega)] at hl')⟩
    · rw [List.getElem?_append_right (by omega)] at hi
      have hi1 : i = cs.length := by
        have := (List.getElem?_eq_some_iff.1 hi).1
        simp at this; omega
      rw [show i - cs.length = 0 by omega] at hi
      simp at hi; subst hi
      refine ⟨h0, fun l hi0 hl' => h1 l ?_⟩
      subst hi1
      have hi2 : ¬ cs.length = 0 := hi0
      rw [List.getElem?_append_left (by omega)] at hl'
      rw [List.getLast?_eq_getElem?]
      exact hl'

theorem norm_iff (cs : List C) : Norm cs ↔ NormR cs.reverse := by
  refine list_snoc (P := fun cs => Norm cs ↔ NormR cs.reverse) ?_ ?_ cs
  · simp [Norm, NormR]
  · intro l a ih
    rw [norm_snoc, ih, List.reverse_append]
    simp only [List.reverse_cons, List.reverse_nil, List.nil_append, List.cons_append, NormR, List.head?_reverse]
    exact ⟨fun ⟨x, y, z⟩ => ⟨y, z, x⟩, fun ⟨y, z, x⟩ => ⟨x, y, z⟩⟩

end Go.Proofs.YtjmfjlffcopnnaaGreatDoor.K

namespace Go.Proofs.YtjmfjlffcopnnaaGreatDoor.K
open Go.RowKit

theorem isEmpty_size (t : ByteArray) : t.toList.isEmpty = decide (t.size = 0) := by
  rw [Go.Lib.toList_data]
  obtain ⟨⟨l⟩⟩ := t
  cases l <;> simp [ByteArray.size]

set_option maxHeartbeats 400000 in
theorem num_any (n : Int) (w : World) : Calls Tryz.prog 10 #[.int .i64 n] w fun e w' => e = .returned (.int .i64 n) ∧ w = w' := by
  go_enter Tryz.func10, Tryz.ntmps10
  go_wp2
  go_ret
  exact ⟨rfl, rfl⟩

set_option maxHeartbeats 400000 in
theorem size_any (k n : Int) (t : ByteArray) (w : World) (_hn0 : 0 ≤ n) (_hn : n ≤ 16777216) (_ht : t.size ≤ 16777216) : Calls Tryz.prog 120 #[.agg #[.int .i64 k, .int .i64 n, .string t]] w fun e w' => e = .returned (.int .i64 (n + t.size)) ∧ Below w.heap.size w w' := by
  go_enter Tryz.func120, Tryz.ntmps120
  go_wp2
  go_ret
  exact ⟨rfl, (Below.refl _ _).alloc (Nat.le_refl _) _⟩

set_option maxHeartbeats 400000 in
theorem follows_any (a b : Int) (w : World) : Calls Tryz.prog 121 #[.int .i64 a, .int .i64 b] w fun e w' => e = .returned (.bool (decide (fol a b))) ∧ w = w' := by
  go_enter Tryz.func121, Tryz.ntmps121
  go_wp2
  all_goals go_ret
  all_goals refine ⟨congrArg (fun b => Ending.returned (Value.bool b)) ?_, rfl⟩
  all_goals (rw [Bool.eq_iff_iff, decide_eq_true_iff]; unfold fol; simp at *; try omega)

set_option maxHeartbeats 400000 in
theorem raw_any (c : C) (w : World) : Calls Tryz.prog 119 #[.agg #[.int .i64 c.k, .int .i64 c.n, .string c.t]] w fun e w' => e = .returned (.bool (rawB c)) ∧ Below w.heap.size w w' := by
  obtain ⟨k, n, t⟩ := c
  dsimp only
  go_enter Tryz.func119, Tryz.ntmps119
  go_wp2
  all_goals go_ret
  all_goals refine ⟨congrArg (fun b => Ending.returned (Value.bool b)) ?_, (Below.refl _ _).alloc (Nat.le_refl _) _⟩
  all_goals (rw [Bool.eq_iff_iff, rawB_iff]; unfold C.Raw; try rw [isEmpty_size])
  all_goals (dsimp only; generalize t.size = m at *; simp at *; try omega)

end Go.Proofs.YtjmfjlffcopnnaaGreatDoor.K

namespace Go.Proofs.YtjmfjlffcopnnaaGreatDoor.K
open Go.RowKit

theorem add_plain (b o i : Nat) : (⟨b, o, none⟩ : Addr).add i = ⟨b, o + i, none⟩ := by unfold Addr.add; split <;> simp_all

/-- One piece lies at an address. -/
def PieceAt (w : World) (b o : Nat) (c : C) : Prop :=
  w.cell? ⟨b, o, none⟩ = some (.int .i64 c.k) ∧ w.cell? ⟨b, o + 1, none⟩ = some (.int .i64 c.n) ∧ w.cell? ⟨b, o + 2, none⟩ = some (.string c.t)

/-- The pieces of a slice, as they lie in memory. -/
def RowC (w : World) (p : Option Addr) (cs : List C) : Prop :=
  ∀ (i : Nat) c, cs[i]? = some c → ∃ b o, p = some ⟨b, o, none⟩ ∧ PieceAt w b (o + i * 3) c

theorem PieceAt.below {w w' : World} {b o : Nat} {c : C} (h : PieceAt w b o c) (hb : Below w.heap.size w w') : PieceAt w' b o c :=
  ⟨cell_later hb h.1, cell_later hb h.2.1, cell_later hb h.2.2⟩
theorem RowC.below {w w' : World} {p : Option Addr} {cs : List C} (h : RowC w p cs) (hb : Below w.heap.size w w') : RowC w' p cs := fun i c hi => by
  obtain ⟨b, o, hp, hc⟩ := h i c hi
  exact ⟨b, o, hp, hc.below hb⟩

theorem new_piece (w : World) (k n : Int) (t : ByteArray) : PieceAt (w.alloc (.cells #[.int .i64 k, .int .i64 n, .string t] 48)) w.heap.size 0 ⟨k, n, t⟩ := by
  refine ⟨?_, ?_, ?_⟩ <;> (rw [World.cell?_alloc_mark]; rfl)

theorem sum_bounds {f : C → Int} (hf : ∀ c : C, c.Raw → 0 ≤ f c ∧ f c ≤ 4096) (cs : List C) : (∀ c ∈ cs, c.Raw) → 0 ≤ sumOf f cs ∧ sumOf f cs ≤ 4096 * cs.length := by
  induction cs with
  | nil => intro _; simp [sumOf]
  | cons c cs ih =>
    intro h
    have h1 := hf c (h c (by simp))
    have h2 := ih fun x hx => h x (by simp [hx])
    simp only [sumOf, List.length_cons]
    omega
theorem from_bounds (c : C) (h : c.Raw) : 0 ≤ fromC c ∧ fromC c ≤ 4096 := by unfold C.Raw at h; unfold fromC; split <;> omega
theorem to_bounds (c : C) (h : c.Raw) : 0 ≤ toC c ∧ toC c ≤ 4096 := by unfold C.Raw at h; unfold toC C.sz; split <;> omega
theorem raw_step {cs : List C} {j : Nat} {c : C} (h : ∀ x ∈ cs.take j, x.Raw) (hc : cs[j]? = some c) (hr : c.Raw) : ∀ x ∈ cs.take (j + 1), x.Raw := by
  intro x hx
  rw [List.take_add_one, hc] at hx
  rcases List.mem_append.1 hx with hx | hx
  · exact h x hx
  · simp at hx; subst hx; exact hr

def MeasPost (cs : List C) (w : World) (e : Ending) (w' : World) : Prop :=
  e = .returned (if okB cs then .tuple #[.int .i64 (sumOf fromC cs), .int .i64 (sumOf toC cs), .bool true] else .tuple #[.int .i64 0, .int .i64 0, .bool false]) ∧ Below w.heap.size w w'

set_option maxHeartbeats 400000 in
theorem measure_long (p : Option Addr) (cs : List C) (cap : Nat) (w : World) (hl : 4096 < cs.length) : Calls Tryz.prog 87 #[.slice p cs.length cap] w (MeasPost cs w) := by
  have h0 : okB cs = false := by simp [okB]; omega
  go_enter Tryz.func87, Tryz.ntmps87
  go_wp2
  go_ret3
  exact ⟨by rw [h0]; rfl, Below.refl _ _⟩

set_option maxHeartbeats 2000000 in
theorem measure_short (p : Option Addr) (cs : List C) (cap : Nat) (w : World) (hr : RowC w p cs) (hl : cs.length ≤ 4096) : Calls Tryz.prog 87 #[.slice p cs.length cap] w (MeasPost cs w) := by
  have R := Lib.hid hr; clear hr
  go_enter Tryz.func87, Tryz.ntmps87
  go_wp2
  go_loopw [5, 6, 14] (fun f t i wr => ∃ j : Nat, j ≤ cs.length ∧ i = .int .i64 j ∧ f = .int .i64 (sumOf fromC (cs.take j)) ∧ t = .int .i64 (sumOf toC (cs.take j)) ∧ Hid (∀ c ∈ cs.take j, c.Raw) ∧ Hid (Below w.heap.size w wr)) (fun _ _ i _ => cs.length - (intOf i).toNat)
  case atStart => exact ⟨0, Nat.zero_le _, rfl, rfl, rfl, Lib.hid (by simp), Lib.hid (Below.refl _ _)⟩
  case round =>
    obtain ⟨j, hj, rfl, rfl, rfl, HR, B⟩ := hrel
    have hf1 := sum_bounds from_bounds _ HR.out
    have ht1 := sum_bounds to_bounds _ HR.out
    rw [List.length_take] at hf1 ht1
    have hf0 : 0 ≤ sumOf fromC (cs.take j) := hf1.1
    have hf2 : sumOf fromC (cs.take j) ≤ 16777216 := by omega
    have ht0 : 0 ≤ sumOf toC (cs.take j) := ht1.1
    have ht2 : sumOf toC (cs.take j) ≤ 16777216 := by omega
    clear hf1 ht1
    by_cases hlt : j < cs.length
    · have hc := List.getElem?_eq_getElem hlt
      generalize cs[j] = c at hc
      have e1 := sumOf_take_succ (f := fromC) hc
      have e2 := sumOf_take_succ (f := toC) hc
      obtain ⟨b, o, rfl, hp⟩ := R.out j c hc
      obtain ⟨c0, c1, c2⟩ := hp.below B.out
      have E1 := Lib.hid e1; have E2 := Lib.hid e2; have HC := Lib.hid hc
      clear e1 e2 hc hp
      obtain ⟨k, n, t⟩ := c
      dsimp only at c0 c1 c2
      by_cases hraw : C.Raw ⟨k, n, t⟩
      · have HRS := Lib.hid (raw_step HR.out HC.out hraw)
        have hrb : rawB ⟨k, n, t⟩ = true := decide_eq_true hraw
        have HRB := Lib.hid hrb; clear hrb
        rcases hraw with ⟨hk | hk, h1, h2, h3⟩ | ⟨hk, h1, h2⟩ <;> dsimp only at hk h1 h2 <;> subst hk
        · dsimp only at h3
          go_wp2_with (first | (go_at_call 119; refine (raw_any ⟨0, n, t⟩ _).mono ?_; rintro e w1 ⟨rfl, hb1⟩; rw [HRB.out]; obtain ⟨d0, d1, d2⟩ := (new_piece wr 0 n t).below hb1; simp only [Nat.zero_add] at d0 d1 d2; have B1 := Lib.hid ((B.out.alloc B.out.size _).trans (hb1.mono (by simp; have := B.out.size; omega))); clear hb1) | (go_at_call 120; refine (size_any _ _ _ _ h1 (by omega) (by omega)).mono ?_; rintro e w2 ⟨rfl, hb2⟩))
          go_roundw
          case rel => exact ⟨j + 1, by omega, by go_num, by rw [E1.out]; rfl, by rw [E2.out]; simp [toC, C.sz, h3], HRS, Lib.hid (B1.out.trans (hb2.mono B1.out.size))⟩
          case measure => simp [intOf]; omega
        · dsimp only at h3
          go_wp2_with (first | (go_at_call 119; refine (raw_any ⟨2, n, t⟩ _).mono ?_; rintro e w1 ⟨rfl, hb1⟩; rw [HRB.out]; obtain ⟨d0, d1, d2⟩ := (new_piece wr 2 n t).below hb1; simp only [Nat.zero_add] at d0 d1 d2; have B1 := Lib.hid ((B.out.alloc B.out.size _).trans (hb1.mono (by simp; have := B.out.size; omega))); clear hb1) | (go_at_call 120; refine (size_any _ _ _ _ h1 (by omega) (by omega)).mono ?_; rintro e w2 ⟨rfl, hb2⟩))
          go_roundw
          case rel => exact ⟨j + 1, by omega, by go_num, by rw [E1.out]; rfl, by rw [E2.out]; simp [toC], HRS, B1⟩
          case measure => simp [intOf]; omega
        · subst h1
          go_wp2_with (first | (go_at_call 119; refine (raw_any ⟨1, 0, t⟩ _).mono ?_; rintro e w1 ⟨rfl, hb1⟩; rw [HRB.out]; obtain ⟨d0, d1, d2⟩ := (new_piece wr 1 0 t).below hb1; simp only [Nat.zero_add] at d0 d1 d2; have B1 := Lib.hid ((B.out.alloc B.out.size _).trans (hb1.mono (by simp; have := B.out.size; omega))); clear hb1) | (go_at_call 120; refine (size_any _ _ _ _ (by omega) (by omega) (by omega)).mono ?_; rintro e w2 ⟨rfl, hb2⟩))
          go_roundw
          case rel => exact ⟨j + 1, by omega, by go_num, by rw [E1.out]; simp [fromC], by rw [E2.out]; simp [toC, C.sz], HRS, Lib.hid (B1.out.trans (hb2.mono B1.out.size))⟩
          case measure => simp [intOf]; omega
      · go_wp2_with (go_at_call 119; refine (raw_any ⟨k, n, t⟩ _).mono ?_; rintro e w1 ⟨rfl, hb1⟩; rw [show rawB ⟨k, n, t⟩ = false from decide_eq_false hraw])
        go_ret3
        have h0 : okB cs = false := by
          cases h : okB cs with
          | false => rfl
          | true => exact absurd ((okB_iff.1 h).2.1 _ (List.mem_of_getElem? HC.out)) hraw
        exact ⟨by rw [h0]; rfl, (B.out.alloc B.out.size _).trans (hb1.mono (by simp; have := B.out.size; omega))⟩
    · have hjj : j = cs.length := by omega
      subst hjj
      rw [List.take_length] at *
      have OK := Lib.hid (okB_iff (cs := cs))
      by_cases g1 : sumOf fromC cs ≤ 4096
      · by_cases g2 : sumOf toC cs ≤ 4096
        · go_wp2
          go_ret3
          have h0 : okB cs = true := OK.out.2 ⟨hl, HR.out, g1, g2⟩
          exact ⟨by rw [h0]; rfl, B.out⟩
        · go_wp2
          go_ret3
          have h0 : okB cs = false := by
            cases h : okB cs with
            | false => rfl
            | true => have := (OK.out.1 h).2.2.2; omega
          exact ⟨by rw [h0]; rfl, B.out⟩
      · go_wp2
        go_ret3
        have h0 : okB cs = false := by
          cases h : okB cs with
          | false => rfl
          | true => have := (OK.out.1 h).2.2.1; omega
        exact ⟨by rw [h0]; rfl, B.out⟩

theorem measure_any (p : Option Addr) (cs : List C) (cap : Nat) (w : World) (hr : RowC w p cs) : Calls Tryz.prog 87 #[.slice p cs.length cap] w (MeasPost cs w) := by
  by_cases h : cs.length ≤ 4096
  · exact measure_short p cs cap w hr h
  · exact measure_long p cs cap w (by omega)

end Go.Proofs.YtjmfjlffcopnnaaGreatDoor.K
