/-
  The walk of the law Transforms. Conditions: as the theorem's premises say.
-/
import Derived.Test.YtkknkannjoijbaaRTra
import Derived.Test.YtkknkannjoijbaaTra4
import Derived.Test.YtkknkannjoijbaaW12
namespace Go.Proofs.Ytkknkannjoijbaa
open Go.RowKit

def TraLike (N M : List C) (n : Int) (w : World) (e : Ending) (w' : World) : Prop :=
  ∃ p cap q cap2, e = .returned (.tuple #[.slice p N.length cap, .slice q M.length cap2, .int .i64 n]) ∧ Own w' w.heap.size (.slice p N.length cap) N ∧ Own w' w.heap.size (.slice q M.length cap2) M ∧ (∀ g, (Value.slice p N.length cap).ownBlock = some g → (Value.slice q M.length cap2).ownBlock = some g → False) ∧ Below w.heap.size w w'
theorem tra_like (f : Bool) (a b : List C) : ∃ (N M : List C) (n : Int), (N.length ≤ 4096 ∧ M.length ≤ 4096) ∧ ∀ (w : World) (e : Ending) (w' : World), TraPost f a b w e w' → TraLike N M n w e w' := by
  by_cases h : TraP f a b
  · refine ⟨normOf (traP f a b), normOf (traQ f a b), 0, ⟨(okB_iff.1 h.2.2.2.1.1).1, (okB_iff.1 h.2.2.2.2.1).1⟩, ?_⟩
    rintro w e w' ⟨hb, ⟨-, v, u, rfl, ho, hu, hap⟩ | ⟨hno, -⟩⟩
    · obtain ⟨pv, cv, rfl⟩ := ho.form
      obtain ⟨pu, cu, rfl⟩ := hu.form
      exact ⟨pv, cv, pu, cu, rfl, ho, hu, hap, hb⟩
    · exact absurd h hno
  · refine ⟨[], [], 500, by simp, ?_⟩
    rintro w e w' ⟨hb, ⟨hyes, -⟩ | ⟨-, rfl⟩⟩
    · exact absurd hyes h
    · exact ⟨none, 0, none, 0, rfl, Own.nil _ _, Own.nil _ _, fun g h => by simp [Value.ownBlock] at h, hb⟩
theorem same_eq (p q : Option Addr) (cs : List C) (cap cap2 : Nat) (hl : cs.length ≤ 4096) (w : World) (hr : RowC w p cs) (hq : RowC w q cs) :
    Calls Try.prog 13 #[.slice p cs.length cap, .slice q cs.length cap2] w fun e w' => e = .returned (.bool true) ∧ Below w.heap.size w w' := by
  refine (same_any p q cs cs cap cap2 _ hr hq (by omega)).mono ?_
  rintro e w4 ⟨hb4, ⟨rfl, -⟩ | ⟨-, hno⟩⟩
  · exact ⟨rfl, hb4⟩
  · exact absurd rfl hno

set_option maxHeartbeats 2000000 in
theorem transforms_true (p q : Option Addr) (a b : List C) (f : Bool) (cap cap2 : Nat) (w : World) (ra : RowC w p a) (rb : RowC w q b) (hla : (a.length + 2) * 32 ≤ 140737488355328) (hlb : (b.length + 2) * 32 ≤ 140737488355328) :
    Calls Try.prog 3 #[.slice p a.length cap, .slice q b.length cap2, .bool f] w fun e w' => e = .returned (.bool true) ∧ Below w.heap.size w w' := by
  have RA := Lib.hid ra; have RB := Lib.hid rb
  obtain ⟨N, M, n, ⟨hN, hM⟩, hc⟩ := tra_like f a b
  have HC := Lib.hid hc
  clear ra rb hc
  go_enter Try.func3, Try.ntmps3
  go_wp2_with fail
  refine (lend_any _ _ _ _ RA.out hla).mono ?_
  rintro e w1 ⟨g1, c1, rfl, ho1, hc1, hb1⟩
  have L1 : Hid (Lent w1 g1 a) := Lib.hid ho1.row
  have B1 := Lib.hid hb1; clear ho1 hb1
  go_wp2_with fail
  refine (lend_any _ _ _ _ (RB.out.below B1.out) hlb).mono ?_
  rintro e w2 ⟨g2, c2, rfl, ho2, hc2, hb2⟩
  have L2 : Hid (Lent w2 g2 b) := Lib.hid ho2.row
  have K2 : Hid (Lent w2 g1 a) := Lib.hid (L1.out.below hb2)
  have B2 := Lib.hid (B1.out.trans (hb2.mono B1.out.size)); clear ho2 hb2 L1 B1
  go_wp2_with fail
  refine (transform_any _ _ a b f _ _ _ K2.out.row L2.out.row (by omega) (by omega)).mono ?_
  intro e w3 h3
  obtain ⟨p3, c3, q3, d3, rfl, ho3, hu3, hap3, hb3⟩ := HC.out _ _ _ h3
  have O3 := Lib.hid ho3; have U3 := Lib.hid hu3; have AP := Lib.hid hap3; have D3 := Lib.hid hb3
  clear h3 ho3 hu3 hap3 hb3
  go_wp2_with fail
  refine (rtransform_any _ _ a b f _ _ _ (RA.out.below (B2.out.trans (D3.out.mono B2.out.size))) (RB.out.below (B2.out.trans (D3.out.mono B2.out.size)))).mono ?_
  intro e w4 h4
  obtain ⟨p4, c4, q4, d4, rfl, ho4, hu4, -, hb4⟩ := HC.out _ _ _ h4
  have O4 := Lib.hid (O3.out.below hb4); have U4 := Lib.hid (U3.out.below hb4); have P4 := Lib.hid ho4.row; have Q4 := Lib.hid hu4.row; have D4 := Lib.hid (D3.out.trans (hb4.mono D3.out.size))
  clear h4 ho4 hu4 hb4 O3 U3 D3
  go_wp2_with fail
  refine (same_eq _ _ N _ _ hN _ O4.out.row P4.out).mono ?_
  rintro e w5 ⟨rfl, hb5⟩
  have O5 := Lib.hid (O4.out.below hb5); have U5 := Lib.hid (U4.out.below hb5); have Q5 := Lib.hid (Q4.out.below hb5); have D5 := Lib.hid (D4.out.trans (hb5.mono D4.out.size))
  clear hb5 O4 U4 P4 Q4 D4
  go_wp2_with fail
  refine (same_eq _ _ M _ _ hM _ U5.out.row Q5.out).mono ?_
  rintro e w6 ⟨rfl, hb6⟩
  have O6 := Lib.hid (O5.out.below hb6); have U6 := Lib.hid (U5.out.below hb6); have D6 := Lib.hid (D5.out.trans (hb6.mono D5.out.size))
  clear hb6 O5 U5 Q5 D5
  go_wp2_with (go_at_call 14; refine (num_any _ _).mono ?_; rintro e w' ⟨rfl, rfl⟩)
  refine (spoil_any _ _ N _ O6.out hN).mono ?_
  rintro e w7 ⟨rfl, hg7⟩
  have D7 := Lib.hid (D6.out.grown hg7 D6.out.size (fun k hk => (O6.out.lt hk).1))
  have U7 : Hid (Own w7 w2.heap.size (.slice q3 M.length d3) M) := Lib.hid (U6.out.grown hg7 (by
    cases hu : (Value.slice q3 M.length d3).ownBlock with
    | none => exact .inl rfl
    | some g => exact .inr fun e => AP.out g e.symm hu))
  clear hg7 O6 U6 D6
  go_wp2_with fail
  refine (spoil_any _ _ M _ U7.out hM).mono ?_
  rintro e w8 ⟨rfl, hg8⟩
  have D8 := Lib.hid (D7.out.grown hg8 D7.out.size (fun k hk => (U7.out.lt hk).1))
  clear hg8 U7 D7
  go_wp2_with fail
  refine (kept_any _ a _ _ _ _ (RA.out.below (B2.out.trans (D8.out.mono B2.out.size))) (K2.out.below D8.out) hc1 (by omega)).mono ?_
  rintro e w9 ⟨rfl, hb9⟩
  have D9 := Lib.hid (D8.out.trans (hb9.mono D8.out.size)); clear hb9 D8
  go_wp2_with fail
  refine (kept_any _ b _ _ _ _ (RB.out.below (B2.out.trans (D9.out.mono B2.out.size))) (L2.out.below D9.out) hc2 (by omega)).mono ?_
  rintro e w10 ⟨rfl, hb10⟩
  have D10 := Lib.hid (D9.out.trans (hb10.mono D9.out.size)); clear hb10 D9
  go_wp2_with fail
  refine (awake_true _).mono ?_
  rintro e w11 ⟨rfl, hb11⟩
  have D11 := Lib.hid (D10.out.trans (hb11.mono D10.out.size)); clear hb11 D10
  go_wp2_with fail
  go_ret
  exact ⟨rfl, B2.out.trans (D11.out.mono B2.out.size)⟩

end Go.Proofs.Ytkknkannjoijbaa
