/-
  The walk of the law Inverts. Conditions: as the theorem's premises say.
-/
import Derived.Test.YtdpjkafabjhkiaaRInv
namespace Go.Proofs.Ytdpjkafabjhkiaa
open Go.RowKit

def InvLike (N : List C) (n : Int) (w : World) (e : Ending) (w' : World) : Prop :=
  ∃ p cap, e = .returned (.tuple #[.slice p N.length cap, .int .i64 n]) ∧ Own w' w.heap.size (.slice p N.length cap) N ∧ Below w.heap.size w w'
/-- Both Inverts answer the same. -/
theorem inv_like (s : ByteArray) (cs : List C) : ∃ (N : List C) (n : Int), N.length ≤ 4096 ∧ ∀ (w : World) (e : Ending) (w' : World), InvPost s cs w e w' → InvLike N n w e w' := by
  by_cases h : Does s cs
  · refine ⟨normOf (invL s 0 cs), 0, (okB_iff.1 (inv_may h).1.1).1, ?_⟩
    rintro w e w' ⟨hb, ⟨-, v, rfl, ho⟩ | ⟨hno, -⟩⟩
    · obtain ⟨pv, cv, rfl⟩ := ho.form
      exact ⟨pv, cv, rfl, ho, hb⟩
    · exact absurd h hno
  · refine ⟨[], 700, by simp, ?_⟩
    rintro w e w' ⟨hb, ⟨hyes, -⟩ | ⟨-, rfl⟩⟩
    · exact absurd hyes h
    · exact ⟨none, 0, rfl, Own.nil _ _, hb⟩

set_option maxHeartbeats 2000000 in
theorem inverts_true (s : ByteArray) (p : Option Addr) (cs : List C) (cap : Nat) (w : World) (hr : RowC w p cs) (hl : (cs.length + 2) * 32 ≤ 140737488355328) :
    Calls Try.prog 3 #[.string s, .slice p cs.length cap] w fun e w' => e = .returned (.bool true) ∧ Below w.heap.size w w' := by
  have R := Lib.hid hr
  obtain ⟨N, n, hN, hc⟩ := inv_like s cs
  have HC := Lib.hid hc
  clear hr hc
  go_enter Try.func3, Try.ntmps3
  go_wp2_with fail
  refine (lend_any _ _ _ _ R.out hl).mono ?_
  rintro e w1 ⟨g1, c1, rfl, ho1, hc1, hb1⟩
  have L1 : Hid (Lent w1 g1 cs) := Lib.hid ho1.row
  have B1 := Lib.hid hb1; clear ho1 hb1
  go_wp2_with fail
  refine (invert_any _ _ cs _ _ L1.out.row).mono ?_
  intro e w3 h3
  obtain ⟨p3, c3, rfl, ho3, hb3⟩ := HC.out _ _ _ h3
  have O3 := Lib.hid ho3; have D3 := Lib.hid hb3
  clear h3 ho3 hb3
  go_wp2_with fail
  refine (rinvert_any _ _ cs _ _ (R.out.below (B1.out.trans (D3.out.mono B1.out.size)))).mono ?_
  intro e w4 h4
  obtain ⟨p4, c4, rfl, ho4, hb4⟩ := HC.out _ _ _ h4
  have O4 := Lib.hid (O3.out.below hb4); have Q4 := Lib.hid ho4; have D4 := Lib.hid (D3.out.trans (hb4.mono D3.out.size))
  clear h4 ho4 hb4 O3 D3
  go_wp2_with fail
  refine (same_yes _ _ N _ _ _ _ rfl rfl hN _ O4.out.row Q4.out.row).mono ?_
  rintro e w5 ⟨rfl, hb5⟩
  have O5 := Lib.hid (O4.out.below hb5); have D5 := Lib.hid (D4.out.trans (hb5.mono D4.out.size))
  clear hb5 O4 Q4 D4
  go_wp2_with (go_at_call 10; refine (num_any _ _).mono ?_; rintro e w' ⟨rfl, rfl⟩)
  refine (spoil_any _ _ N _ O5.out hN).mono ?_
  rintro e w6 ⟨rfl, hg6⟩
  have D6 := Lib.hid (D5.out.grown hg6 D5.out.size (fun k hk => (O5.out.lt hk).1))
  clear hg6 O5 D5
  go_wp2_with fail
  refine (kept_any _ cs _ _ _ _ (R.out.below (B1.out.trans (D6.out.mono B1.out.size))) (L1.out.below D6.out) hc1 (by omega)).mono ?_
  rintro e w7 ⟨rfl, hb7⟩
  have D7 := Lib.hid (D6.out.trans (hb7.mono D6.out.size)); clear hb7 D6
  go_wp2_with fail
  refine (awake_true _).mono ?_
  rintro e w9 ⟨rfl, hb9⟩
  have D9 := Lib.hid (D7.out.trans (hb9.mono D7.out.size)); clear hb9 D7
  go_wp2_with fail
  go_ret
  exact ⟨rfl, B1.out.trans (D9.out.mono B1.out.size)⟩

end Go.Proofs.Ytdpjkafabjhkiaa
