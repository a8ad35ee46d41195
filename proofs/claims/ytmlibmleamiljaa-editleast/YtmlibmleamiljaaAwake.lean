/-
  Apply where it answers a text, and where it does not; the walk of awake: it answers true. Conditions: as the theorems' premises say.
-/
import Derived.Test.YtmlibmleamiljaaApp
namespace Go.Proofs.Ytmlibmleamiljaa
open Go.RowKit

theorem apply_yesL (s : ByteArray) (p : Option Addr) (cs : List C) (L cap : Nat) (hL : cs.length = L) (w : World) (hr : RowC w p cs) (hm : MayP cs) (hf : sumOf fromC cs = s.size) (X : ByteArray) (hX : appB s 0 cs = X) :
    Calls Try.prog 15 #[.string s, .slice p L cap] w fun e w' => e = .returned (.tuple #[.string X, .int .i64 0]) ∧ Below w.heap.size w w' := by
  subst hL; subst hX
  refine (apply_any s p cs cap w hr).mono ?_
  rintro e w' ⟨hb, ⟨rfl, -⟩ | ⟨-, hno⟩⟩
  · exact ⟨rfl, hb⟩
  · exact absurd ⟨hm, hf⟩ hno
theorem apply_noL (s : ByteArray) (p : Option Addr) (cs : List C) (L cap : Nat) (hL : cs.length = L) (w : World) (hr : RowC w p cs) (hno : ¬ (MayP cs ∧ sumOf fromC cs = s.size)) :
    Calls Try.prog 15 #[.string s, .slice p L cap] w fun e w' => e = .returned (.tuple #[.string ⟨#[]⟩, .int .i64 300]) ∧ Below w.heap.size w w' := by
  subst hL
  refine (apply_any s p cs cap w hr).mono ?_
  rintro e w' ⟨hb, ⟨-, hyes⟩ | ⟨rfl, -⟩⟩
  · exact absurd hyes hno
  · exact ⟨rfl, hb⟩

theorem may_of {cs : List C} (h : okB cs = true) (hn : normOf cs = cs) : MayP cs := ⟨h, (normOf_iff (soft_all (okB_iff.1 h).2.1)).1 hn⟩

def abc : List C := [⟨0, 2, e0⟩, ⟨1, 0, ⟨#[120, 121]⟩⟩, ⟨2, 3, e0⟩, ⟨0, 1, e0⟩]
theorem abc_may : MayP abc := may_of (by decide +kernel) (by kernel_rfl)
theorem abc_from : sumOf fromC abc = (ByteArray.mk #[97, 98, 99, 100, 101, 102]).size := by decide +kernel
theorem abc_app : appB ⟨#[97, 98, 99, 100, 101, 102]⟩ 0 abc = ⟨#[97, 98, 120, 121, 102]⟩ := by kernel_rfl
theorem two_no : ¬ (MayP [⟨0, 2, e0⟩] ∧ sumOf fromC [⟨0, 2, e0⟩] = (ByteArray.mk #[97, 98, 99]).size) := fun h => absurd h.2 (by decide +kernel)

end Go.Proofs.Ytmlibmleamiljaa
