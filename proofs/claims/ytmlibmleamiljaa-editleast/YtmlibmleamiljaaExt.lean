/-
  Regions that draw their order, whose callees read and make new memory alone: one walk serves every order. No condition.
-/
import Derived.BigQuiet
import Derived.Below
import Derived.WalkKit
import Derived.WalkSpells
namespace Go.Proofs.Ytmlibmleamiljaa
open Go.RowKit

/-- A world in which all that was there in w is as it was. -/
def Ext (w : World) : Type := { W : World // Below w.heap.size w W }
instance (w : World) : Nonempty (Ext w) := ⟨⟨w, Below.refl _ _⟩⟩
def Ext.w {w : World} (X : Ext w) : World := X.1
theorem Ext.below {w : World} (X : Ext w) : Below w.heap.size w X.w := X.2
theorem Ext.cell {w : World} {a : Addr} {v : Value} (h : w.cell? a = some v) (X : Ext w) : X.w.cell? a = some v := cell_later X.below h
theorem wp_region_ext {P : Program} {id : Nat} {Q : Exit → Act → World → Prop} {a : Act} {w : World} {l : List Oper} (hm : P.follows .mixedOrders = true) (hB : Region.lexB .any l.toArray = true)
    (h : wpQuiet P l.toArray (fun w' => ∃ X : Ext w, w' = X.w) (fun a' => ∀ w', (∃ X : Ext w, w' = X.w) → Q .normal a' w') l a) : (Code.region id l.toArray true).wp P Q a w :=
  wp_region_quiet (C := fun w' => ∃ X : Ext w, w' = X.w) hm hB ⟨⟨{ w with drawn := w.drawn + 1 }, ⟨rfl, rfl, rfl, Nat.le_refl _, fun _ _ => rfl⟩⟩, rfl⟩ (by simpa using h)
theorem Ext.calls {P : Program} {f : FuncId} {args : Array Value} {w : World} {X : Ext w} {v : Value} (h : Calls P f args X.w fun e w' => e = .returned v ∧ Below X.w.heap.size X.w w') :
    Calls P f args X.w fun e w'' => e = .returned v ∧ ∃ Y : Ext w, w'' = Y.w :=
  h.mono fun _ w'' ⟨he, hb⟩ => ⟨he, ⟨w'', X.below.trans (hb.mono X.below.size)⟩, rfl⟩

end Go.Proofs.Ytmlibmleamiljaa
