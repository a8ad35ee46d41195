/-
  The walk of the law Composes. Conditions: as the theorem's premises say.
-/
import Derived.Test.YtoihbacdonjagaaRCom
import Derived.Test.YtoihbacdonjagaaAw
namespace Go.Proofs.Ytoihbacdonjagaa
open Go.RowKit

def ComLike (N : List C) (n : Int) (w : World) (e : Ending) (w' : World) : Prop :=
  ∃ p cap, e = .returned (.tuple #[.slice p N.length cap, .int .i64 n]) ∧ Own w' w.heap.size (.slice p N.length cap) N ∧ Below w.heap.size w w'
theorem com_like (a b : List C) : ∃ (N : List C) (n : Int), N.length ≤ 4096 ∧ ∀ (w : World) (e : Ending) (w' : World), ComPost a b w e w' → ComLike N n w e w' := by
  by_cases h : ComP a b
  · refine ⟨normOf (joinL a b), 0, (okB_iff.1 h.2.2.2.1).1, ?_⟩
    rintro w e w' ⟨hb, ⟨-, v, rfl, ho⟩ | ⟨hno, -⟩⟩
    · obtain ⟨pv, cv, rfl⟩ := ho.form
      exact ⟨pv, cv, rfl, ho, hb⟩
    · exact absurd h hno
  · refine ⟨[], 400, by simp, ?_⟩
    rintro w e w' ⟨hb, ⟨hyes, -⟩ | ⟨-, rfl⟩⟩
    · exact absurd hyes h
    · exact ⟨none, 0, rfl, Own.nil _ _, hb⟩

set_option maxHeartbeats 2000000 in
theorem composes_true (p q : Option Addr) (a b : List C) (cap cap2 : Nat) (w : World) (ra : RowC w p a) (rb : RowC w q b) (hla : (a.length + 2) * 32 ≤ 140737488355328) (hlb : (b.length + 2) * 32 ≤ 140737488355328) :
    Calls Try.prog 3 #[.slice p a.length cap, .slice q b.length cap2] w fun e w' => e = .returned (.bool true) ∧ Below w.heap.size w w' := by
  have RA := Lib.hid ra; have RB := Lib.hid rb
  obtain ⟨N, n, hN, hc⟩ := com_like a b
  have HC := Lib.hid hc
  clear ra rb hc
  go_enter Try.func3, Try.ntmps3
  go_wp2_with fail
  refine (lend_any _ _ _ _ RA.out hla).mono ?_
  rintro e w1 ⟨g1, c1, rfl, ho1, hc1, hb1⟩
  have L1 : Hid (Lent w1 g1 a) := Lib.hid ho1.row
  have B1 := Lib.hid hb1; clear ho1 hb1
  go_wp2_with fail
  refine (lend_any _ _ _ _ (RB.out.below B1.out) hlb).mono ?_
  rintro e w2 ⟨g2, c2, rfl, ho2, hc2, hb2⟩
  have L2 : Hid (Lent w2 g2 b) := Lib.hid ho2.row
  have K2 : Hid (Lent w2 g1 a) := Lib.hid (L1.out.below hb2)
  have B2 := Lib.hid (B1.out.trans (hb2.mono B1.out.size)); clear ho2 hb2 L1 B1
  go_wp2_with fail
  refine (compose_any _ _ a b _ _ _ K2.out.row L2.out.row (by omega) (by omega)).mono ?_
  intro e w3 h3
  obtain ⟨p3, c3, rfl, ho3, hb3⟩ := HC.out _ _ _ h3
  have O3 := Lib.hid ho3; have D3 := Lib.hid hb3
  clear h3 ho3 hb3
  go_wp2_with fail
  refine (rcompose_any _ _ a b _ _ _ (RA.out.below (B2.out.trans (D3.out.mono B2.out.size))) (RB.out.below (B2.out.trans (D3.out.mono B2.out.size)))).mono ?_
  intro e w4 h4
  obtain ⟨p4, c4, rfl, ho4, hb4⟩ := HC.out _ _ _ h4
  have O4 := Lib.hid (O3.out.below hb4); have Q4 := Lib.hid ho4; have D4 := Lib.hid (D3.out.trans (hb4.mono D3.out.size))
  clear h4 ho4 hb4 O3 D3
  go_wp2_with fail
  refine (same_any _ _ N N _ _ _ O4.out.row Q4.out.row (by omega)).mono ?_
  rintro e w5 ⟨hb5, ⟨rfl, -⟩ | ⟨-, hno⟩⟩
  rotate_left
  · exact absurd rfl hno
  have O5 := Lib.hid (O4.out.below hb5); have D5 := Lib.hid (D4.out.trans (hb5.mono D4.out.size))
  clear hb5 O4 Q4 D4
  go_wp2_with (go_at_call 11; refine (num_any _ _).mono ?_; rintro e w' ⟨rfl, rfl⟩)
  refine (spoil_any _ _ N _ O5.out hN).mono ?_
  rintro e w6 ⟨rfl, hg6⟩
  have D6 := Lib.hid (D5.out.grown hg6 D5.out.size (fun k hk => (O5.out.lt hk).1))
  clear hg6 O5 D5
  go_wp2_with fail
  refine (kept_any _ a _ _ _ _ (RA.out.below (B2.out.trans (D6.out.mono B2.out.size))) (K2.out.below D6.out) hc1 (by omega)).mono ?_
  rintro e w7 ⟨rfl, hb7⟩
  have D7 := Lib.hid (D6.out.trans (hb7.mono D6.out.size)); clear hb7 D6
  go_wp2_with fail
  refine (kept_any _ b _ _ _ _ (RB.out.below (B2.out.trans (D7.out.mono B2.out.size))) (L2.out.below D7.out) hc2 (by omega)).mono ?_
  rintro e w8 ⟨rfl, hb8⟩
  have D8 := Lib.hid (D7.out.trans (hb8.mono D7.out.size)); clear hb8 D7
  go_wp2_with fail
  refine (awake_true _).mono ?_
  rintro e w9 ⟨rfl, hb9⟩
  have D9 := Lib.hid (D8.out.trans (hb9.mono D8.out.size)); clear hb9 D8
  go_wp2_with fail
  go_ret
  exact ⟨rfl, B2.out.trans (D9.out.mono B2.out.size)⟩

end Go.Proofs.Ytoihbacdonjagaa
