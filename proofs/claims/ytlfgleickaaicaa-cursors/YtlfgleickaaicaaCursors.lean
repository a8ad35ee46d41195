/-
  The walk of the law Cursors. Conditions: as the theorem's premises say.
-/
import Derived.Test.YtlfgleickaaicaaRMov
import Derived.Test.YtlfgleickaaicaaAw
namespace Go.Proofs.Ytlfgleickaaicaa
open Go.RowKit

/-- Both Moves answer the same two numbers. -/
theorem mov_like (bh : Bool) (at' : Int) (cs : List C) : ∃ a n : Int, ∀ (w : World) (e : Ending) (w' : World), MovePost bh at' cs w e w' → e = .returned (.tuple #[.int .i64 a, .int .i64 n]) ∧ Below w.heap.size w w' := by
  by_cases h : MoveP cs at'
  · refine ⟨movL bh at' cs, 0, ?_⟩
    rintro w e w' ⟨hb, ⟨rfl, -⟩ | ⟨-, hno⟩⟩
    · exact ⟨rfl, hb⟩
    · exact absurd h hno
  · refine ⟨0, 600, ?_⟩
    rintro w e w' ⟨hb, ⟨-, hyes⟩ | ⟨rfl, -⟩⟩
    · exact absurd hyes h
    · exact ⟨rfl, hb⟩

set_option maxHeartbeats 2000000 in
theorem cursors_true (p : Option Addr) (cs : List C) (cap : Nat) (at' : Int) (bh : Bool) (w : World) (hr : RowC w p cs) (hl : (cs.length + 2) * 32 ≤ 140737488355328) :
    Calls Try.prog 3 #[.slice p cs.length cap, .int .i64 at', .bool bh] w fun e w' => e = .returned (.bool true) ∧ Below w.heap.size w w' := by
  have R := Lib.hid hr
  obtain ⟨a, n, hc⟩ := mov_like bh at' cs
  have HC := Lib.hid hc
  clear hr hc
  go_enter Try.func3, Try.ntmps3
  go_wp2_with fail
  refine (lend_any _ _ _ _ R.out hl).mono ?_
  rintro e w1 ⟨g1, c1, rfl, ho1, hc1, hb1⟩
  have L1 : Hid (Lent w1 g1 cs) := Lib.hid ho1.row
  have B1 := Lib.hid hb1; clear ho1 hb1
  go_wp2_with fail
  refine (move_any _ cs _ _ _ _ L1.out.row).mono ?_
  intro e w2 h2
  obtain ⟨rfl, hb2⟩ := HC.out _ _ _ h2
  have D2 := Lib.hid hb2; clear h2 hb2
  go_wp2_with fail
  refine (rmove_any _ cs _ _ _ _ (R.out.below (B1.out.trans (D2.out.mono B1.out.size)))).mono ?_
  intro e w3 h3
  obtain ⟨rfl, hb3⟩ := HC.out _ _ _ h3
  have D3 := Lib.hid (D2.out.trans (hb3.mono D2.out.size)); clear h3 hb3 D2
  go_wp2_with (go_at_call 11; refine (num_any _ _).mono ?_; rintro e w' ⟨rfl, rfl⟩)
  refine (kept_any _ cs _ _ _ _ (R.out.below (B1.out.trans (D3.out.mono B1.out.size))) (L1.out.below D3.out) hc1 (by omega)).mono ?_
  rintro e w4 ⟨rfl, hb4⟩
  have D4 := Lib.hid (D3.out.trans (hb4.mono D3.out.size)); clear hb4 D3
  go_wp2_with fail
  refine (awake_true _).mono ?_
  rintro e w5 ⟨rfl, hb5⟩
  have D5 := Lib.hid (D4.out.trans (hb5.mono D4.out.size)); clear hb5 D4
  go_wp2_with fail
  go_ret
  exact ⟨rfl, B1.out.trans (D5.out.mono B1.out.size)⟩

end Go.Proofs.Ytlfgleickaaicaa
