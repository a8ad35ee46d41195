/-
  Two readers and a row of the call's own under way. Conditions: as each theorem's premises say.
-/
import Derived.Test.YtdpjkafabjhkiaaRd3
import Derived.Test.YtdpjkafabjhkiaaKeeps
namespace Go.Proofs.Ytdpjkafabjhkiaa
open Go.RowKit

/-- What a reader stands for does not hang on other blocks. -/
def Far (R : World → Nat → List C → Prop) : Prop := ∀ w w' b X row, R w b X → w.grownBy w' row → row ≠ some b → R w' b X

/-- Two readers and the row that is made. -/
structure JW (R : World → Nat → List C → Prop) (w0 w : World) (ba bb : Nat) (v : Value) (acc X Y : List C) : Prop where
  own : Own w w0.heap.size v acc
  ra : R w ba X
  rb : R w bb Y
  below : Below w0.heap.size w0 w
  na : v.ownBlock ≠ some ba
  nb : v.ownBlock ≠ some bb
  ab : ba ≠ bb
  ha : w0.heap.size ≤ ba
  hb : w0.heap.size ≤ bb
  la : ba < w.heap.size
  lb : bb < w.heap.size

theorem JW.next {R : World → Nat → List C → Prop} (F : Far R) {w0 w w' : World} {ba bb : Nat} {v : Value} {acc X Y : List C} (h : JW R w0 w ba bb v acc X Y) (hb : Below w.heap.size w w') : JW R w0 w' ba bb v acc X Y :=
  ⟨h.own.below hb, F _ _ _ _ none h.ra (grown_of_below hb none) (by simp), F _ _ _ _ none h.rb (grown_of_below hb none) (by simp), h.below.trans (hb.mono h.below.size), h.na, h.nb, h.ab, h.ha, h.hb, Nat.lt_of_lt_of_le h.la hb.size, Nat.lt_of_lt_of_le h.lb hb.size⟩
theorem JW.takeA {R : World → Nat → List C → Prop} (F : Far R) {w0 w w' : World} {ba bb : Nat} {v : Value} {acc X Y X' : List C} (h : JW R w0 w ba bb v acc X Y) (hg : w.grownBy w' (some ba)) (hr : R w' ba X') : JW R w0 w' ba bb v acc X' Y :=
  ⟨h.own.grown hg (.inr h.na), hr, F _ _ _ _ _ h.rb hg (by simpa using h.ab), h.below.grown hg h.below.size (fun k e => by cases e; exact h.ha), h.na, h.nb, h.ab, h.ha, h.hb, Nat.lt_of_lt_of_le h.la hg.size, Nat.lt_of_lt_of_le h.lb hg.size⟩
theorem JW.takeB {R : World → Nat → List C → Prop} (F : Far R) {w0 w w' : World} {ba bb : Nat} {v : Value} {acc X Y Y' : List C} (h : JW R w0 w ba bb v acc X Y) (hg : w.grownBy w' (some bb)) (hr : R w' bb Y') : JW R w0 w' ba bb v acc X Y' :=
  ⟨h.own.grown hg (.inr h.nb), F _ _ _ _ _ h.ra hg (by simpa using h.ab.symm), hr, h.below.grown hg h.below.size (fun k e => by cases e; exact h.hb), h.na, h.nb, h.ab, h.ha, h.hb, Nat.lt_of_lt_of_le h.la hg.size, Nat.lt_of_lt_of_le h.lb hg.size⟩
theorem JW.add {R : World → Nat → List C → Prop} (F : Far R) {w0 w w' : World} {ba bb : Nat} {v : Value} {acc out X Y : List C} {e : Ending} (h : JW R w0 w ba bb v acc X Y) (hp : AddPost w0.heap.size v out w e w') : ∃ v', e = .returned v' ∧ JW R w0 w' ba bb v' out X Y := by
  have hB := hp.below h.own h.below (Nat.le_refl _) h.below.size
  obtain ⟨v', rfl, ho, hg, hn⟩ := hp
  have la := h.la
  have lb := h.lb
  refine ⟨v', rfl, ho, F _ _ _ _ _ h.ra hg h.na, F _ _ _ _ _ h.rb hg h.nb, hB, ?_, ?_, h.ab, h.ha, h.hb, Nat.lt_of_lt_of_le la hg.size, Nat.lt_of_lt_of_le lb hg.size⟩
  · intro e
    rcases hn _ e with e | e
    · exact h.na e
    · omega
  · intro e
    rcases hn _ e with e | e
    · exact h.nb e
    · omega

theorem rd_far (w0 : World) : Far (Rd w0) := fun _ _ _ _ _ h hg hr => h.far hg hr

theorem JI.add {J acc X Y X' Y' : List C} {L : Nat} {e : C} (h : JI J acc X Y L) (hL : L ≤ 8192) (hs : stepC X Y = some (e, X', Y')) {base : Nat} {v : Value} {w : World} (ho : Own w base v acc) (hb : base ≤ w.heap.size) : Calls Try.prog 18 #[v, e.val] w (AddPost base v (addC acc e) w) := by
  have hr := h.raw hs
  have hl := h.len
  exact add_any base e (fit_raw hr) (Soft.sz0 (Raw.soft hr)) acc (by omega) h.fits v w ho hb
theorem JI.radd {J acc X Y X' Y' : List C} {L : Nat} {e : C} (h : JI J acc X Y L) (hL : L ≤ 8192) (hs : stepC X Y = some (e, X', Y')) {base : Nat} {v : Value} {w : World} (ho : Own w base v acc) (hb : base ≤ w.heap.size) : Calls Try.prog 21 #[v, e.val] w (AddPost base v (addC acc e) w) := by
  have hr := h.raw hs
  have hl := h.len
  exact radd_any base e (fit_raw hr) (Raw.soft hr) acc (by omega) h.fits v w ho hb

theorem rd_take_all {w0 w : World} {b : Nat} {c : C} {X : List C} (h : Rd w0 w b (c :: X)) (hb : Below w0.heap.size w0 w) (hc : c.Soft ∧ 0 < c.sz) : Calls Try.prog 35 #[.pointer (some ⟨b, 0, none⟩), .int .i64 c.sz] w (TakePost w0 b c X w) := by
  have := rd_take h hb c.sz (by omega) (Int.le_refl _)
  rwa [take_all hc.1, tail_all] at this
theorem step_put_head {X Y' : List C} {e : C} (h : stepC X (e :: Y') = some (e, X, Y')) : ∀ c cs, X = c :: cs → c.k ≠ 2 := by
  rintro c cs rfl hk
  rw [step_cut cs _ hk] at h
  simp at h

def JoinPost (w0 : World) (J : List C) (e : Ending) (w' : World) : Prop := ∃ v, e = .returned v ∧ Own w' w0.heap.size v J ∧ Below w0.heap.size w0 w'

end Go.Proofs.Ytdpjkafabjhkiaa
