/-
  Compose where it answers an edit, and where it does not; the walk of awake: it answers true. Conditions: as the theorems' premises say.
-/
import Derived.Test.YtdpjkafabjhkiaaJoin2
namespace Go.Proofs.Ytdpjkafabjhkiaa
open Go.RowKit

def ComYes (out : List C) (w : World) (e : Ending) (w' : World) : Prop :=
  ∃ p cap, e = .returned (.tuple #[.slice p out.length cap, .int .i64 0]) ∧ Own w' w.heap.size (.slice p out.length cap) out ∧ Below w.heap.size w w'
def ComNo (w : World) (e : Ending) (w' : World) : Prop := e = .returned (.tuple #[.slice none 0 0, .int .i64 400]) ∧ Below w.heap.size w w'

theorem compose_yesL (p q : Option Addr) (a b out : List C) (la lb cap cap2 : Nat) (hla : a.length = la) (hlb : b.length = lb) (w : World) (ra : RowC w p a) (rb : RowC w q b) (ca : la ≤ cap) (cb : lb ≤ cap2) (hc : ComP a b) (ho : normOf (joinL a b) = out) :
    Calls Try.prog 15 #[.slice p la cap, .slice q lb cap2] w (ComYes out w) := by
  subst hla; subst hlb; subst ho
  refine (compose_any p q a b cap cap2 w ra rb ca cb).mono ?_
  rintro e w' ⟨hb, ⟨-, v, rfl, ho⟩ | ⟨hno, -⟩⟩
  · obtain ⟨pv, cv, rfl⟩ := ho.form
    exact ⟨pv, cv, rfl, ho, hb⟩
  · exact absurd hc hno
theorem compose_noL (p q : Option Addr) (a b : List C) (la lb cap cap2 : Nat) (hla : a.length = la) (hlb : b.length = lb) (w : World) (ra : RowC w p a) (rb : RowC w q b) (ca : la ≤ cap) (cb : lb ≤ cap2) (hc : ¬ ComP a b) :
    Calls Try.prog 15 #[.slice p la cap, .slice q lb cap2] w (ComNo w) := by
  subst hla; subst hlb
  refine (compose_any p q a b cap cap2 w ra rb ca cb).mono ?_
  rintro e w' ⟨hb, ⟨hyes, -⟩ | ⟨-, rfl⟩⟩
  · exact absurd hyes hc
  · exact ⟨rfl, hb⟩
theorem Own.capL {w : World} {base : Nat} {p : Option Addr} {n cap : Nat} {cs : List C} (h : Own w base (.slice p n cap) cs) : cs.length ≤ cap := by
  rcases h.2 with ⟨hv, hn⟩ | ⟨g, cap', _, hv, _, _, hc, _⟩
  · omega
  · cases hv; exact hc

def awA : List C := [⟨0, 2, e0⟩, ⟨1, 0, ⟨#[120, 121]⟩⟩, ⟨0, 1, e0⟩]
def awB : List C := [⟨0, 1, e0⟩, ⟨2, 2, e0⟩, ⟨1, 0, ⟨#[122]⟩⟩, ⟨0, 2, e0⟩]
def awC : List C := [⟨0, 1, e0⟩, ⟨1, 0, ⟨#[122]⟩⟩, ⟨2, 2, e0⟩, ⟨0, 2, e0⟩]
def awD : List C := [⟨0, 1, e0⟩, ⟨1, 0, ⟨#[122, 121]⟩⟩, ⟨2, 1, e0⟩, ⟨0, 1, e0⟩]
theorem awA_may : MayP awA := may_of (by decide +kernel) (by kernel_rfl)
theorem awC_may : MayP awC := may_of (by decide +kernel) (by kernel_rfl)
theorem awAC : ComP awA awC := com_may awA_may awC_may (by decide +kernel) (by decide +kernel)
theorem awAC_out : normOf (joinL awA awC) = awD := by kernel_rfl
theorem awAA : ¬ ComP awA awA := fun h => absurd h.2.2.1 (by decide +kernel)
theorem awAB : ¬ ComP awA awB := fun h => by
  have := (h.2.1.2 2 ⟨1, 0, ⟨#[122]⟩⟩ rfl).2 ⟨2, 2, e0⟩ (by omega) rfl
  exact absurd this (by decide)

theorem aw_lits (w : World) : (RowC (((w.alloc (.cells (cellsC awA).toArray 40)).alloc (.cells (cellsC awB).toArray 40)).alloc (.cells (cellsC awC).toArray 40)) (some ⟨w.heap.size, 0, none⟩) awA ∧
    RowC (((w.alloc (.cells (cellsC awA).toArray 40)).alloc (.cells (cellsC awB).toArray 40)).alloc (.cells (cellsC awC).toArray 40)) (some ⟨w.heap.size + 1, 0, none⟩) awB ∧
    RowC (((w.alloc (.cells (cellsC awA).toArray 40)).alloc (.cells (cellsC awB).toArray 40)).alloc (.cells (cellsC awC).toArray 40)) (some ⟨w.heap.size + 1 + 1, 0, none⟩) awC) ∧
    Below w.heap.size w (((w.alloc (.cells (cellsC awA).toArray 40)).alloc (.cells (cellsC awB).toArray 40)).alloc (.cells (cellsC awC).toArray 40)) := by
  have B1 := (Below.refl w.heap.size w).alloc (Nat.le_refl _) (.cells (cellsC awA).toArray 40)
  have R1 := lit_row w awA _ rfl
  have s1 : (w.alloc (.cells (cellsC awA).toArray 40)).heap.size = w.heap.size + 1 := by simp
  generalize w.alloc (.cells (cellsC awA).toArray 40) = w1 at *
  have B2 := (Below.refl w1.heap.size w1).alloc (Nat.le_refl _) (.cells (cellsC awB).toArray 40)
  have R2 := lit_row w1 awB _ rfl
  have s2 : (w1.alloc (.cells (cellsC awB).toArray 40)).heap.size = w1.heap.size + 1 := by simp
  generalize w1.alloc (.cells (cellsC awB).toArray 40) = w2 at *
  have B3 := (Below.refl w2.heap.size w2).alloc (Nat.le_refl _) (.cells (cellsC awC).toArray 40)
  have R3 := lit_row w2 awC _ rfl
  rw [s2, s1] at R3
  rw [s1] at R2
  exact ⟨⟨(R1.below B2).below B3, R2.below B3, R3⟩, (B1.trans (B2.mono B1.size)).trans (B3.mono (Nat.le_trans B1.size B2.size))⟩

end Go.Proofs.Ytdpjkafabjhkiaa
