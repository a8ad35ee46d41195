/-
  KOwn, KW3, KW4, KW5, KW6, KW7, KExt, KW8, in one text. Conditions: as each theorem's premises say.
-/
import Derived.Test.YtjmfjlffcopnnaaGreatDoorPF00
import Derived.Deep.AppendLies
import Derived.BigQuiet
import Derived.Deep.RegionHeld3
import Derived.Deep.RegionLaw
import Derived.IntWalk
import Derived.BigRegion
import Derived.Below
import Derived.WalkKit
import Derived.WalkSpells
namespace Go.Proofs.YtjmfjlffcopnnaaGreatDoor.K
open Go.RowKit

theorem cellsC_append (a b : List C) : cellsC (a ++ b) = cellsC a ++ cellsC b := by simp [cellsC]
theorem cellsC_length (cs : List C) : (cellsC cs).length = cs.length * 3 := by
  induction cs with
  | nil => rfl
  | cons c cs ih =>
    have : cellsC (c :: cs) = C.cells c ++ cellsC cs := by simp [cellsC]
    rw [this, List.length_append, ih, List.length_cons]; simp [C.cells]; omega
theorem cellsC_get {cs : List C} {i : Nat} {c : C} (h : cs[i]? = some c) : (cellsC cs)[i * 3]? = some (.int .i64 c.k) ∧ (cellsC cs)[i * 3 + 1]? = some (.int .i64 c.n) ∧ (cellsC cs)[i * 3 + 2]? = some (.string c.t) := by
  obtain ⟨hl, he⟩ := List.getElem?_eq_some_iff.1 h
  have h1 : cs = cs.take i ++ (c :: cs.drop (i + 1)) := by
    rw [← he]; simp
  have h2 : cellsC cs = cellsC (cs.take i) ++ (C.cells c ++ cellsC (cs.drop (i + 1))) := by
    conv => lhs; rw [h1]
    rw [cellsC_append]; simp [cellsC]
  have h3 : (cellsC (cs.take i)).length = i * 3 := by rw [cellsC_length, List.length_take]; congr 1; omega
  rw [h2]
  refine ⟨?_, ?_, ?_⟩
  · rw [List.getElem?_append_right (by omega), h3, Nat.sub_self]; rfl
  · rw [List.getElem?_append_right (by omega), h3, Nat.add_sub_cancel_left]; rfl
  · rw [List.getElem?_append_right (by omega), h3, Nat.add_sub_cancel_left]; rfl

/-- v is a slice of these pieces in memory of the call's own, from block base on. -/
def Own (w : World) (base : Nat) (v : Value) (cs : List C) : Prop := w.ownsRow base 48 3 v cs.length (cellsC cs)

theorem Own.nil (w : World) (base : Nat) : Own w base (.slice none 0 0) [] := World.ownsRow_nil _ _ _ _
theorem Own.form {w : World} {base : Nat} {v : Value} {cs : List C} (h : Own w base v cs) : ∃ p cap, v = .slice p cs.length cap := by
  rcases h.2 with ⟨h, hn⟩ | ⟨g, cap, _, h, _⟩
  · rw [hn]; exact ⟨_, _, h⟩
  · exact ⟨_, _, h⟩
theorem Own.piece {w : World} {base : Nat} {g n cap : Nat} {cs : List C} (h : Own w base (.slice (some ⟨g, 0, none⟩) n cap) cs) {i : Nat} {c : C} (hi : cs[i]? = some c) : PieceAt w g (i * 3) c := by
  obtain ⟨h0, h1, h2⟩ := cellsC_get hi
  have e0 := World.ownsRow.cells h (g := g) rfl _ _ h0
  have e1 := World.ownsRow.cells h (g := g) rfl _ _ h1
  have e2 := World.ownsRow.cells h (g := g) rfl _ _ h2
  rw [add_plain, Nat.zero_add] at e0 e1 e2
  exact ⟨e0, e1, e2⟩
theorem Own.row {w : World} {base : Nat} {p : Option Addr} {n cap : Nat} {cs : List C} (h : Own w base (.slice p n cap) cs) : RowC w p cs := by
  intro i c hi
  rcases h.2 with ⟨_, hn⟩ | ⟨g, _, _, hv, _⟩
  · have := (List.getElem?_eq_some_iff.1 hi).1; omega
  · cases hv
    exact ⟨g, 0, rfl, by rw [Nat.zero_add]; exact h.piece hi⟩
theorem Own.lt {w : World} {base : Nat} {v : Value} {cs : List C} (h : Own w base v cs) {g : Nat} (hg : v.ownBlock = some g) : base ≤ g ∧ g < w.heap.size := World.ownsRow.lt h g hg
theorem Own.below {w w' : World} {base : Nat} {v : Value} {cs : List C} (h : Own w base v cs) (hb : Below w.heap.size w w') : Own w' base v cs :=
  World.ownsRow.kept (row := none) h ⟨hb.os, hb.tape, hb.output, hb.size, fun k hk _ => hb.block k hk⟩ (by cases v.ownBlock <;> simp)
theorem Own.mono {w : World} {base base' : Nat} {v : Value} {cs : List C} (h : Own w base v cs) (hb : base' ≤ base) : Own w base' v cs := by
  refine ⟨h.1, ?_⟩
  rcases h.2 with h | ⟨g, cap, cur, hv, h1, h2⟩
  · exact .inl h
  · exact .inr ⟨g, cap, cur, hv, Nat.le_trans hb h1, h2⟩

theorem heap_setCell_at {w : World} {g i : Nat} {cur : Array Value} {e : TypeId} {fr : Nat × Nat} (h : w.heap[g]? = some (.cells cur e fr)) (u : Value) : (w.setCell ⟨g, i, none⟩ u).heap[g]? = some (.cells (cur.setIfInBounds i u) e fr) := by
  simp [World.setCell, Array.getElem?_modify, h]

theorem Own.frozen {w : World} {base g n cap : Nat} {cs : List C} (h : Own w base (.slice (some ⟨g, 0, none⟩) n cap) cs) (i : Nat) : w.frozen? ⟨g, i, none⟩ = false := by
  rcases h.2 with ⟨hv, _⟩ | ⟨g', cap', cur, hv, hb, hg, _⟩
  · cases hv
  · cases hv
    simp [World.frozen?, hg]

theorem grown_refl (w : World) (row : Option Nat) : w.grownBy w row := ⟨rfl, rfl, rfl, Nat.le_refl _, fun _ _ _ => rfl⟩
theorem grown_of_below {w w' : World} (h : Below w.heap.size w w') (row : Option Nat) : w.grownBy w' row := ⟨h.os, h.tape, h.output, h.size, fun k hk _ => h.block k hk⟩
theorem grown_trans {w w1 w2 : World} {row row1 : Option Nat} (h : w.grownBy w1 row) (h1 : w1.grownBy w2 row1) (hr : ∀ g, row1 = some g → row = some g ∨ w.heap.size ≤ g) : w.grownBy w2 row :=
  ⟨h1.os.trans h.os, h1.tape.trans h.tape, h1.output.trans h.output, Nat.le_trans h.size h1.size, fun k hk hne => (h1.block k (Nat.lt_of_lt_of_le hk h.size) (fun e => by rcases hr k e.symm with h | h; exact hne h.symm; omega)).trans (h.block k hk hne)⟩
theorem grown_set {w w1 : World} {g i : Nat} (h : w.grownBy w1 (some g)) (u : Value) : w.grownBy (w1.setCell ⟨g, i, none⟩ u) (some g) :=
  ⟨h.os, h.tape, h.output, by simpa using h.size, fun k hk hne => by
    have : k ≠ g := fun e => hne (by rw [e])
    rw [← h.block k hk hne]
    simp [World.setCell, Array.getElem?_modify, this.symm]⟩

/-- What add answers. -/
def AddPost (base : Nat) (v : Value) (out : List C) (w : World) (e : Ending) (w' : World) : Prop :=
  ∃ v', e = .returned v' ∧ Own w' base v' out ∧ w.grownBy w' v.ownBlock ∧ ∀ g, v'.ownBlock = some g → v.ownBlock = some g ∨ w.heap.size ≤ g

def Fit (c : C) : Prop := 0 ≤ c.n ∧ c.n ≤ 16777216 ∧ c.t.size ≤ 16777216

theorem dr_below (w : World) (m : Nat) : Below w.heap.size w (w.drewN m) := ⟨rfl, rfl, rfl, Nat.le_refl _, fun _ _ => rfl⟩

/-- A box of the call's own with one piece in it; nothing of w0 has turned. -/
def Box (w0 w : World) (b : Nat) (c : C) : Prop :=
  Below w0.heap.size w0 w ∧ PieceAt w b 0 c ∧ (∀ i, w.frozen? ⟨b, i, none⟩ = false) ∧ w0.heap.size ≤ b ∧ b < w.heap.size
theorem Box.new (w : World) (k n : Int) (t : ByteArray) : Box w (w.alloc (.cells #[.int .i64 k, .int .i64 n, .string t] 48)) w.heap.size ⟨k, n, t⟩ :=
  ⟨(Below.refl _ _).alloc (Nat.le_refl _) _, new_piece w k n t, fun i => by simp [World.frozen?_alloc_mark], Nat.le_refl _, by simp⟩
theorem Box.below {w0 w w' : World} {b : Nat} {c : C} (h : Box w0 w b c) (hb : Below w.heap.size w w') : Box w0 w' b c :=
  ⟨h.1.trans (hb.mono h.1.size), h.2.1.below hb, fun i => (hb.frozen (p := ⟨b, i, none⟩) h.2.2.2.2).trans (h.2.2.1 i), h.2.2.2.1, Nat.lt_of_lt_of_le h.2.2.2.2 hb.size⟩
theorem Box.cells {w0 w : World} {b : Nat} {k n : Int} {t : ByteArray} (h : Box w0 w b ⟨k, n, t⟩) : w.cell? ⟨b, 0, none⟩ = some (.int .i64 k) ∧ w.cell? ⟨b, 1, none⟩ = some (.int .i64 n) ∧ w.cell? ⟨b, 2, none⟩ = some (.string t) := by
  have := h.2.1
  simpa [PieceAt] using this

end Go.Proofs.YtjmfjlffcopnnaaGreatDoor.K

namespace Go.Proofs.YtjmfjlffcopnnaaGreatDoor.K
open Go.RowKit

end Go.Proofs.YtjmfjlffcopnnaaGreatDoor.K

namespace Go.Proofs.YtjmfjlffcopnnaaGreatDoor.K
open Go.RowKit

theorem follows_yes (a b : Int) (w : World) (h : fol a b) : Calls Tryz.prog 121 #[.int .i64 a, .int .i64 b] w fun e w' => e = .returned (.bool true) ∧ w' = w := by
  refine (follows_any a b w).mono ?_
  rintro e w' ⟨rfl, rfl⟩
  exact ⟨by rw [decide_eq_true h], rfl⟩
theorem follows_no (a b : Int) (w : World) (h : ¬ fol a b) : Calls Tryz.prog 121 #[.int .i64 a, .int .i64 b] w fun e w' => e = .returned (.bool false) ∧ w' = w := by
  refine (follows_any a b w).mono ?_
  rintro e w' ⟨rfl, rfl⟩
  exact ⟨by rw [decide_eq_false h], rfl⟩

end Go.Proofs.YtjmfjlffcopnnaaGreatDoor.K

namespace Go.Proofs.YtjmfjlffcopnnaaGreatDoor.K
open Go.RowKit

end Go.Proofs.YtjmfjlffcopnnaaGreatDoor.K

namespace Go.Proofs.YtjmfjlffcopnnaaGreatDoor.K
open Go.RowKit

end Go.Proofs.YtjmfjlffcopnnaaGreatDoor.K

namespace Go.Proofs.YtjmfjlffcopnnaaGreatDoor.K
open Go.RowKit

theorem fit_raw {c : C} (h : c.Raw) : Fit c := by unfold C.Raw at h; unfold Fit; omega

theorem AddPost.below {base : Nat} {v : Value} {out cs : List C} {w w1 : World} {e : Ending} {B : Nat} {w0 : World} (h : AddPost base v out w e w1) (hO : Own w base v cs) (hB : Below B w0 w) (hb : B ≤ base) (hs : B ≤ w.heap.size) : Below B w0 w1 := by
  obtain ⟨v', rfl, _, hg, _⟩ := h
  exact hB.grown hg hs (fun k hk => Nat.le_trans hb (hO.lt hk).1)

end Go.Proofs.YtjmfjlffcopnnaaGreatDoor.K

namespace Go.Proofs.YtjmfjlffcopnnaaGreatDoor.K
open Go.RowKit

/-- A world in which all that was there in w is as it was. -/
def Ext (w : World) : Type := { W : World // Below w.heap.size w W }
instance (w : World) : Nonempty (Ext w) := ⟨⟨w, Below.refl _ _⟩⟩
def Ext.w {w : World} (X : Ext w) : World := X.1
theorem Ext.below {w : World} (X : Ext w) : Below w.heap.size w X.w := X.2
theorem Ext.cell {w : World} {a : Addr} {v : Value} (h : w.cell? a = some v) (X : Ext w) : X.w.cell? a = some v := cell_later X.below h
theorem wp_region_ext {P : Program} {id : Nat} {Q : Exit → Act → World → Prop} {a : Act} {w : World} {l : List Oper} (hm : P.follows .mixedOrders = true) (hB : Region.lexB .any l.toArray = true)
    (h : wpQuiet P l.toArray (fun w' => ∃ X : Ext w, w' = X.w) (fun a' => ∀ w', (∃ X : Ext w, w' = X.w) → Q .normal a' w') l a) : (Code.region id l.toArray true).wp P Q a w :=
  wp_region_quiet (C := fun w' => ∃ X : Ext w, w' = X.w) hm hB ⟨⟨{ w with drawn := w.drawn + 1 }, ⟨rfl, rfl, rfl, Nat.le_refl _, fun _ _ => rfl⟩⟩, rfl⟩ (by simpa using h)
theorem Ext.calls {P : Program} {f : FuncId} {args : Array Value} {w : World} {X : Ext w} {v : Value} (h : Calls P f args X.w fun e w' => e = .returned v ∧ Below X.w.heap.size X.w w') :
    Calls P f args X.w fun e w'' => e = .returned v ∧ ∃ Y : Ext w, w'' = Y.w :=
  h.mono fun _ w'' ⟨he, hb⟩ => ⟨he, ⟨w'', X.below.trans (hb.mono X.below.size)⟩, rfl⟩

end Go.Proofs.YtjmfjlffcopnnaaGreatDoor.K

namespace Go.Proofs.YtjmfjlffcopnnaaGreatDoor.K
open Go.RowKit

def NormAt (cs : List C) (i : Nat) : Prop := ∀ c, cs[i]? = some c → c.sz ≠ 0 ∧ ∀ l, (i = 0 → False) → cs[i - 1]? = some l → fol l.k c.k

theorem norm_of {cs : List C} (h : ∀ i, i < cs.length → NormAt cs i) : Norm cs := fun i c hi => h i (List.getElem?_eq_some_iff.1 hi).1 c hi

def NmPost (cs : List C) (w : World) (e : Ending) (w' : World) : Prop :=
  Below w.heap.size w w' ∧ ((e = .returned (.bool true) ∧ Norm cs) ∨ (e = .returned (.bool false) ∧ ¬ Norm cs))

set_option maxHeartbeats 2000000 in
theorem nm_any (p : Option Addr) (cs : List C) (cap : Nat) (w : World) (hr : RowC w p cs) (hl : cs.length ≤ 4096) (hraw : ∀ c ∈ cs, c.Raw) : Calls Tryz.prog 88 #[.slice p cs.length cap] w (NmPost cs w) := by
  have R := Lib.hid hr; have RAW := Lib.hid hraw
  clear hr hraw
  go_enter Tryz.func88, Tryz.ntmps88
  go_wp2_with (go_at_call 120; fail)
  go_loopw [7] (fun i wr => ∃ j : Nat, j ≤ cs.length ∧ i = .int .i64 j ∧ Hid (∀ i, i < j → NormAt cs i) ∧ Hid (Below w.heap.size w wr)) (fun i _ => cs.length - (intOf i).toNat)
  case atStart => exact ⟨0, Nat.zero_le _, rfl, Lib.hid (fun i h => by omega), Lib.hid (Below.refl _ _)⟩
  case round =>
    obtain ⟨j, hj, rfl, N, B⟩ := hrel
    by_cases hlt : j < cs.length
    · have hc := List.getElem?_eq_getElem hlt
      generalize cs[j] = c at hc
      have hcr := RAW.out c (List.mem_of_getElem? hc)
      have hfit := fit_raw hcr
      have HC := Lib.hid hc
      obtain ⟨b, o, rfl, hp⟩ := R.out j c hc
      obtain ⟨c0, c1, c2⟩ := hp.below B.out
      obtain ⟨k, n, t⟩ := c
      dsimp only at c0 c1 c2
      obtain ⟨f1, f2, f3⟩ := hfit
      dsimp only at f1 f2 f3
      clear hc hcr hp
      have X1 : Hid (Box w (wr.alloc (.cells #[.int .i64 k, .int .i64 n, .string t] 48)) wr.heap.size ⟨k, n, t⟩) := Lib.hid ⟨B.out.alloc B.out.size _, (Box.new wr k n t).2.1, (Box.new wr k n t).2.2.1, B.out.size, (Box.new wr k n t).2.2.2.2⟩
      by_cases hz : n + (t.size : Int) = 0
      · have hz' : ((n + (t.size : Int)) == 0) = true := beq_iff_eq.2 hz
        have HZ := Lib.hid hz
        clear hz
        go_wp2_with (go_at_call 120; fail)
        generalize wr.alloc (.cells #[.int .i64 k, .int .i64 n, .string t] 48) = w1 at X1 ⊢
        generalize wr.heap.size = bx at X1 ⊢
        clear c0 c1 c2
        obtain ⟨d0, d1, d2⟩ := X1.out.cells
        have x0 : ∀ X : Ext w1, X.w.cell? ⟨bx, 0, none⟩ = some (.int .i64 k) := fun X => X.cell d0
        have x1 : ∀ X : Ext w1, X.w.cell? ⟨bx, 1, none⟩ = some (.int .i64 n) := fun X => X.cell d1
        have x2 : ∀ X : Ext w1, X.w.cell? ⟨bx, 2, none⟩ = some (.string t) := fun X => X.cell d2
        refine wp_region_ext (by kernel_rfl) (by kernel_rfl) ?_
        repeat (go_big_quiet_step ((go_at_call 120; exact Ext.calls (size_any _ _ _ _ f1 f2 f3))))
        refine wpQuiet_nil ?_
        rintro _ ⟨X, rfl⟩
        clear x0 x1 x2
        go_wp2_with (go_at_call 120; fail)
        go_ret
        exact ⟨X1.out.1.trans (X.below.mono X1.out.1.size), .inr ⟨rfl, fun h => (h j _ HC.out).1 HZ.out⟩⟩
      · have hz' : ((n + (t.size : Int)) == 0) = false := beq_eq_false_iff_ne.2 hz
        have HZ := Lib.hid hz
        clear hz
        rcases Nat.eq_zero_or_pos j with hj0 | hj0
        · subst hj0
          simp only [Nat.zero_mul, Nat.add_zero] at c0 c1 c2
          go_wp2_with (go_at_call 120; fail)
          generalize wr.alloc (.cells #[.int .i64 k, .int .i64 n, .string t] 48) = w1 at X1 ⊢
          generalize wr.heap.size = bx at X1 ⊢
          clear c0 c1 c2
          obtain ⟨d0, d1, d2⟩ := X1.out.cells
          have x0 : ∀ X : Ext w1, X.w.cell? ⟨bx, 0, none⟩ = some (.int .i64 k) := fun X => X.cell d0
          have x1 : ∀ X : Ext w1, X.w.cell? ⟨bx, 1, none⟩ = some (.int .i64 n) := fun X => X.cell d1
          have x2 : ∀ X : Ext w1, X.w.cell? ⟨bx, 2, none⟩ = some (.string t) := fun X => X.cell d2
          refine wp_region_ext (by kernel_rfl) (by kernel_rfl) ?_
          repeat (go_big_quiet_step ((go_at_call 120; exact Ext.calls (size_any _ _ _ _ f1 f2 f3))))
          refine wpQuiet_nil ?_
          rintro _ ⟨X, rfl⟩
          clear x0 x1 x2
          go_wp2_with (go_at_call 120; fail)
          go_roundw
          case rel => exact ⟨1, hlt, rfl, Lib.hid (fun i hi => by obtain rfl : i = 0 := by omega
                                                                  exact fun c hc => by rw [HC.out] at hc; cases hc; exact ⟨HZ.out, fun l h0 => absurd rfl h0⟩), Lib.hid (X1.out.1.trans (X.below.mono X1.out.1.size))⟩
          case measure => simp [intOf]; omega
        · obtain ⟨q, rfl⟩ : ∃ q, j = q + 1 := ⟨j - 1, by omega⟩
          have hq := List.getElem?_eq_getElem (show q < cs.length by omega)
          generalize cs[q] = l at hq
          have HQ := Lib.hid hq
          obtain ⟨b', o', hbo, hpl⟩ := R.out q l hq
          cases hbo
          have a0 := (hpl.below B.out).1
          obtain ⟨lk, ln, lt⟩ := l
          dsimp only at a0
          have A0 : Hid ((wr.alloc (.cells #[.int .i64 k, .int .i64 n, .string t] 48)).cell? ⟨b, o + q * 3, none⟩ = some (.int .i64 lk)) := Lib.hid (cell_later ((Below.refl _ _).alloc (Nat.le_refl _) _) a0)
          clear hq hpl a0
          by_cases hf : fol lk k
          · have HF := Lib.hid hf; clear hf
            go_wp2_with (go_at_call 120; fail)
            generalize wr.alloc (.cells #[.int .i64 k, .int .i64 n, .string t] 48) = w1 at X1 A0 ⊢
            generalize wr.heap.size = bx at X1 ⊢
            clear c0 c1 c2
            obtain ⟨d0, d1, d2⟩ := X1.out.cells
            have x0 : ∀ X : Ext w1, X.w.cell? ⟨bx, 0, none⟩ = some (.int .i64 k) := fun X => X.cell d0
            have x1 : ∀ X : Ext w1, X.w.cell? ⟨bx, 1, none⟩ = some (.int .i64 n) := fun X => X.cell d1
            have x2 : ∀ X : Ext w1, X.w.cell? ⟨bx, 2, none⟩ = some (.string t) := fun X => X.cell d2
            have x3 : ∀ X : Ext w1, X.w.cell? ⟨b, o + q * 3, none⟩ = some (.int .i64 lk) := fun X => X.cell A0.out
            have y1 : (0 : Int) ≤ (q : Int) := by omega
            have y2 : (q : Int) < (cs.length : Int) := by omega
            have y3 : (0 : Int) < (q : Int) + 1 := by omega
            refine wp_region_ext (by kernel_rfl) (by kernel_rfl) ?_
            repeat (go_big_quiet_step (first | (go_at_call 120; exact Ext.calls (size_any _ _ _ _ f1 f2 f3)) | (go_at_call 121; exact Ext.calls ((follows_yes _ _ _ HF.out).mono (by rintro e w' ⟨rfl, rfl⟩; exact ⟨rfl, Below.refl _ _⟩)))))
            refine wpQuiet_nil ?_
            rintro _ ⟨X, rfl⟩
            clear x0 x1 x2 x3
            go_wp2_with (go_at_call 120; fail)
            go_roundw
            case rel => exact ⟨q + 2, by omega, by go_num, Lib.hid (fun i hi => by
                          by_cases hi2 : i < q + 1
                          · exact N.out i hi2
                          · obtain rfl : i = q + 1 := by omega
                            exact fun c hc => by rw [HC.out] at hc; cases hc; exact ⟨HZ.out, fun l _ hl => by rw [show q + 1 - 1 = q by omega, HQ.out] at hl; cases hl; exact HF.out⟩), Lib.hid (X1.out.1.trans (X.below.mono X1.out.1.size))⟩
            case measure => simp [intOf]; omega
          · have HF := Lib.hid hf; clear hf
            go_wp2_with (go_at_call 120; fail)
            generalize wr.alloc (.cells #[.int .i64 k, .int .i64 n, .string t] 48) = w1 at X1 A0 ⊢
            generalize wr.heap.size = bx at X1 ⊢
            clear c0 c1 c2
            obtain ⟨d0, d1, d2⟩ := X1.out.cells
            have x0 : ∀ X : Ext w1, X.w.cell? ⟨bx, 0, none⟩ = some (.int .i64 k) := fun X => X.cell d0
            have x1 : ∀ X : Ext w1, X.w.cell? ⟨bx, 1, none⟩ = some (.int .i64 n) := fun X => X.cell d1
            have x2 : ∀ X : Ext w1, X.w.cell? ⟨bx, 2, none⟩ = some (.string t) := fun X => X.cell d2
            have x3 : ∀ X : Ext w1, X.w.cell? ⟨b, o + q * 3, none⟩ = some (.int .i64 lk) := fun X => X.cell A0.out
            have y1 : (0 : Int) ≤ (q : Int) := by omega
            have y2 : (q : Int) < (cs.length : Int) := by omega
            have y3 : (0 : Int) < (q : Int) + 1 := by omega
            refine wp_region_ext (by kernel_rfl) (by kernel_rfl) ?_
            repeat (go_big_quiet_step (first | (go_at_call 120; exact Ext.calls (size_any _ _ _ _ f1 f2 f3)) | (go_at_call 121; exact Ext.calls ((follows_no _ _ _ HF.out).mono (by rintro e w' ⟨rfl, rfl⟩; exact ⟨rfl, Below.refl _ _⟩)))))
            refine wpQuiet_nil ?_
            rintro _ ⟨X, rfl⟩
            clear x0 x1 x2 x3
            go_wp2_with (go_at_call 120; fail)
            go_ret
            exact ⟨X1.out.1.trans (X.below.mono X1.out.1.size), .inr ⟨rfl, fun h => HF.out ((h (q + 1) _ HC.out).2 _ (by omega) HQ.out)⟩⟩
    · go_wp2_with (go_at_call 120; fail)
      go_ret
      exact ⟨B.out, .inl ⟨rfl, norm_of fun i hi => N.out i (by omega)⟩⟩

end Go.Proofs.YtjmfjlffcopnnaaGreatDoor.K
