/-
  The walk of transform's Transform; where it answers edits, and where it does not. Conditions: as the theorems' premises say.
-/
import Derived.Test.YtkknkannjoijbaaTra2
namespace Go.Proofs.Ytkknkannjoijbaa
open Go.RowKit

/-- What Transform answers. -/
def TraPost (f : Bool) (a b : List C) (w : World) (e : Ending) (w' : World) : Prop :=
  Below w.heap.size w w' ∧ ((TraP f a b ∧ ∃ v u, e = .returned (.tuple #[v, u, .int .i64 0]) ∧ Own w' w.heap.size v (normOf (traP f a b)) ∧ Own w' w.heap.size u (normOf (traQ f a b)) ∧ ∀ g, v.ownBlock = some g → u.ownBlock = some g → False) ∨ (¬ TraP f a b ∧ e = .returned (.tuple #[.slice none 0 0, .slice none 0 0, .int .i64 500])))

set_option maxHeartbeats 1000000 in
theorem transform_no (p q : Option Addr) (a b : List C) (f : Bool) (cap cap2 : Nat) (w : World) (ra : RowC w p a) (rb : RowC w q b) (hn : ¬ (MayP a ∧ MayP b ∧ sumOf fromC a = sumOf fromC b)) : Calls Try.prog 11 #[.slice p a.length cap, .slice q b.length cap2, .bool f] w (TraPost f a b w) := by
  have RA := Lib.hid ra; have RB := Lib.hid rb
  have NO : Hid (¬ TraP f a b) := Lib.hid (fun h => hn ⟨h.1, h.2.1, h.2.2.1⟩)
  clear ra rb
  by_cases ha : MayP a
  · by_cases hb : MayP b
    · have hne : (sumOf fromC a != sumOf fromC b) = true := by rw [bne_iff_ne]; exact fun h => hn ⟨ha, hb, h⟩
      have HA := Lib.hid ha; have HB := Lib.hid hb
      clear hn ha hb
      go_enter Try.func11, Try.ntmps11
      go_wp2_with fail
      refine (lengths_any _ _ _ _ RA.out).mono ?_
      rintro e w1 ⟨hb1, ⟨rfl, -⟩ | ⟨-, hno⟩⟩
      rotate_left
      · exact absurd HA.out hno
      have B1 := Lib.hid hb1; clear hb1
      generalize sumOf toC a = A1
      generalize sumOf fromC a = A2 at *
      go_wp2_with fail
      refine (lengths_any _ _ _ _ (RB.out.below B1.out)).mono ?_
      rintro e w2 ⟨hb2, ⟨rfl, -⟩ | ⟨-, hno⟩⟩
      rotate_left
      · exact absurd HB.out hno
      have B2 := Lib.hid (B1.out.trans (hb2.mono B1.out.size)); clear hb2
      generalize sumOf fromC b = A3 at *
      generalize sumOf toC b = A4
      go_wp2_with fail
      go_ret3
      exact ⟨B2.out, .inr ⟨NO.out, rfl⟩⟩
    · have HA := Lib.hid ha; have HB := Lib.hid hb
      clear hn ha hb
      go_enter Try.func11, Try.ntmps11
      go_wp2_with fail
      refine (lengths_any _ _ _ _ RA.out).mono ?_
      rintro e w1 ⟨hb1, ⟨rfl, -⟩ | ⟨-, hno⟩⟩
      rotate_left
      · exact absurd HA.out hno
      have B1 := Lib.hid hb1; clear hb1
      generalize sumOf toC a = A1
      generalize sumOf fromC a = A2 at *
      go_wp2_with fail
      refine (lengths_any _ _ _ _ (RB.out.below B1.out)).mono ?_
      rintro e w2 ⟨hb2, ⟨-, hyes⟩ | ⟨rfl, -⟩⟩
      · exact absurd hyes HB.out
      have B2 := Lib.hid (B1.out.trans (hb2.mono B1.out.size)); clear hb2
      go_wp2_with fail
      go_ret3
      exact ⟨B2.out, .inr ⟨NO.out, rfl⟩⟩
  · have HA := Lib.hid ha
    clear hn ha
    go_enter Try.func11, Try.ntmps11
    go_wp2_with fail
    refine (lengths_any _ _ _ _ RA.out).mono ?_
    rintro e w1 ⟨hb1, ⟨-, hyes⟩ | ⟨rfl, -⟩⟩
    · exact absurd hyes HA.out
    have B1 := Lib.hid hb1; clear hb1
    go_wp2_with fail
    refine (lengths_any _ _ _ _ (RB.out.below B1.out)).mono ?_
    rintro e w2 ⟨hb2, ⟨rfl, -⟩ | ⟨rfl, -⟩⟩
    · have B2 := Lib.hid (B1.out.trans (hb2.mono B1.out.size)); clear hb2
      generalize sumOf fromC b = A3 at *
      generalize sumOf toC b = A4
      go_wp2_with fail
      go_ret3
      exact ⟨B2.out, .inr ⟨NO.out, rfl⟩⟩
    · have B2 := Lib.hid (B1.out.trans (hb2.mono B1.out.size)); clear hb2
      go_wp2_with fail
      go_ret3
      exact ⟨B2.out, .inr ⟨NO.out, rfl⟩⟩

set_option maxHeartbeats 1000000 in
theorem transform_yes (p q : Option Addr) (a b : List C) (f : Bool) (cap cap2 : Nat) (w : World) (ra : RowC w p a) (rb : RowC w q b) (ca : a.length ≤ cap) (cb : b.length ≤ cap2) (ha : MayP a) (hb : MayP b) (heq : sumOf fromC a = sumOf fromC b) : Calls Try.prog 11 #[.slice p a.length cap, .slice q b.length cap2, .bool f] w (TraPost f a b w) := by
  have RA := Lib.hid ra; have RB := Lib.hid rb
  have HA := Lib.hid ha; have HB := Lib.hid hb; have HE := Lib.hid heq
  have JI0 := Lib.hid (TI.start f ha hb heq)
  have hla : a.length ≤ 4096 := (okB_iff.1 ha.1).1
  have hlb : b.length ≤ 4096 := (okB_iff.1 hb.1).1
  clear ra rb ha hb heq
  go_enter Try.func11, Try.ntmps11
  go_wp2_with fail
  refine (lengths_any _ _ _ _ RA.out).mono ?_
  rintro e w1 ⟨hb1, ⟨rfl, -⟩ | ⟨-, hno⟩⟩
  rotate_left
  · exact absurd HA.out hno
  have B1 := Lib.hid hb1; clear hb1
  rw [HE.out]
  generalize sumOf toC a = A1
  go_wp2_with fail
  refine (lengths_any _ _ _ _ (RB.out.below B1.out)).mono ?_
  rintro e w2 ⟨hb2, ⟨rfl, -⟩ | ⟨-, hno⟩⟩
  rotate_left
  · exact absurd HB.out hno
  have B2 := Lib.hid (B1.out.trans (hb2.mono B1.out.size)); clear hb2
  generalize sumOf fromC b = A3
  generalize sumOf toC b = A4
  go_wp2_with fail
  refine (new_any _ _ _ _).mono ?_
  rintro e w3 ⟨rfl, hw3⟩
  have B23 : Below w2.heap.size w2 w3 := by rw [hw3]; exact (Below.refl _ _).alloc (Nat.le_refl _) _
  have B3 := Lib.hid (B2.out.trans (B23.mono B2.out.size))
  have R3 : Hid (Rd w w3 w2.heap.size a) := Lib.hid (by rw [hw3]; exact rd_new p a cap RA.out ca HA.out)
  have S3 : Hid (w3.heap.size = w2.heap.size + 1) := Lib.hid (by rw [hw3]; simp)
  clear hw3 B23
  go_wp2_with fail
  refine (new_any _ _ _ _).mono ?_
  rintro e w4 ⟨rfl, hw4⟩
  have B34 : Below w3.heap.size w3 w4 := by rw [hw4]; exact (Below.refl _ _).alloc (Nat.le_refl _) _
  have B4 := Lib.hid (B3.out.trans (B34.mono B3.out.size))
  have R4 : Hid (Rd w w4 w3.heap.size b) := Lib.hid (by rw [hw4]; exact rd_new q b cap2 RB.out cb HB.out)
  have HW : Hid (JW (Rd w) w w4 w2.heap.size w3.heap.size (.slice none 0 0) [] a b) := Lib.hid ⟨Own.nil _ _, R3.out.below B34, R4.out, B4.out, by simp [Value.ownBlock], by simp [Value.ownBlock], by have := S3.out; omega, B2.out.size, B3.out.size, (R3.out.below B34).lt, R4.out.lt⟩
  clear hw4 B34
  go_wp2_with fail
  refine (cross_any w w4 _ _ a b _ _ f _ JI0.out (by omega) ⟨HW.out, HW.out, fun g h => by simp [Value.ownBlock] at h⟩).mono ?_
  rintro e w5 ⟨v, u, rfl, ho, hu, hap, hb5⟩
  obtain ⟨pv, cv, rfl⟩ := ho.form
  obtain ⟨pu, cu, rfl⟩ := hu.form
  have O5 := Lib.hid ho; have U5 := Lib.hid hu; have B5 := Lib.hid hb5; have AP := Lib.hid hap
  clear ho hu hb5 hap
  generalize hN : normOf (traP f a b) = N at O5 AP
  generalize hM : normOf (traQ f a b) = M at U5 AP
  have HN := Lib.hid hN; have HM := Lib.hid hM; clear hN hM
  go_wp2_with fail
  refine (may_any _ _ _ _ O5.out.row).mono ?_
  rintro e w6 ⟨hb6, ⟨rfl, hm⟩ | ⟨rfl, hm⟩⟩
  · have B6 := Lib.hid hb6; have M6 := Lib.hid hm; clear hb6 hm
    go_wp2_with fail
    refine (may_any _ _ _ _ (U5.out.below B6.out).row).mono ?_
    rintro e w7 ⟨hb7, ⟨rfl, hm⟩ | ⟨rfl, hm⟩⟩
    · go_wp2_with fail
      go_ret3
      exact ⟨(B5.out.trans (B6.out.mono B5.out.size)).trans (hb7.mono (Nat.le_trans B5.out.size B6.out.size)), .inl ⟨⟨HA.out, HB.out, HE.out, by rw [HN.out]; exact M6.out, by rw [HM.out]; exact hm⟩, _, _, rfl, by rw [HN.out]; exact (O5.out.below B6.out).below hb7, by rw [HM.out]; exact (U5.out.below B6.out).below hb7, AP.out⟩⟩
    · go_wp2_with fail
      go_ret3
      exact ⟨(B5.out.trans (B6.out.mono B5.out.size)).trans (hb7.mono (Nat.le_trans B5.out.size B6.out.size)), .inr ⟨fun h => hm (by rw [← HM.out]; exact h.2.2.2.2), rfl⟩⟩
  · go_wp2_with fail
    go_ret3
    exact ⟨B5.out.trans (hb6.mono B5.out.size), .inr ⟨fun h => hm (by rw [← HN.out]; exact h.2.2.2.1), rfl⟩⟩

theorem transform_any (p q : Option Addr) (a b : List C) (f : Bool) (cap cap2 : Nat) (w : World) (ra : RowC w p a) (rb : RowC w q b) (ca : a.length ≤ cap) (cb : b.length ≤ cap2) : Calls Try.prog 11 #[.slice p a.length cap, .slice q b.length cap2, .bool f] w (TraPost f a b w) := by
  by_cases h : MayP a ∧ MayP b ∧ sumOf fromC a = sumOf fromC b
  · exact transform_yes p q a b f cap cap2 w ra rb ca cb h.1 h.2.1 h.2.2
  · exact transform_no p q a b f cap cap2 w ra rb h

def TraYes (P Q : List C) (w : World) (e : Ending) (w' : World) : Prop :=
  ∃ p cap q cap2, e = .returned (.tuple #[.slice p P.length cap, .slice q Q.length cap2, .int .i64 0]) ∧ Own w' w.heap.size (.slice p P.length cap) P ∧ Own w' w.heap.size (.slice q Q.length cap2) Q ∧ Below w.heap.size w w'
def TraNo (w : World) (e : Ending) (w' : World) : Prop := e = .returned (.tuple #[.slice none 0 0, .slice none 0 0, .int .i64 500]) ∧ Below w.heap.size w w'
theorem transform_yesL (p q : Option Addr) (a b P Q : List C) (f : Bool) (la lb cap cap2 : Nat) (hla : a.length = la) (hlb : b.length = lb) (w : World) (ra : RowC w p a) (rb : RowC w q b) (ca : la ≤ cap) (cb : lb ≤ cap2) (hc : TraP f a b) (hP : normOf (traP f a b) = P) (hQ : normOf (traQ f a b) = Q) :
    Calls Try.prog 11 #[.slice p la cap, .slice q lb cap2, .bool f] w (TraYes P Q w) := by
  subst hla; subst hlb; subst hP; subst hQ
  refine (transform_any p q a b f cap cap2 w ra rb ca cb).mono ?_
  rintro e w' ⟨hb, ⟨-, v, u, rfl, ho, hu, -⟩ | ⟨hno, -⟩⟩
  · obtain ⟨pv, cv, rfl⟩ := ho.form
    obtain ⟨pu, cu, rfl⟩ := hu.form
    exact ⟨pv, cv, pu, cu, rfl, ho, hu, hb⟩
  · exact absurd hc hno
theorem transform_noL (p q : Option Addr) (a b : List C) (f : Bool) (la lb cap cap2 : Nat) (hla : a.length = la) (hlb : b.length = lb) (w : World) (ra : RowC w p a) (rb : RowC w q b) (ca : la ≤ cap) (cb : lb ≤ cap2) (hc : ¬ TraP f a b) :
    Calls Try.prog 11 #[.slice p la cap, .slice q lb cap2, .bool f] w (TraNo w) := by
  subst hla; subst hlb
  refine (transform_any p q a b f cap cap2 w ra rb ca cb).mono ?_
  rintro e w' ⟨hb, ⟨hyes, -⟩ | ⟨-, rfl⟩⟩
  · exact absurd hyes hc
  · exact ⟨rfl, hb⟩
theorem Own.capL' {w : World} {base : Nat} {p : Option Addr} {n cap : Nat} {cs : List C} (h : Own w base (.slice p n cap) cs) : cs.length ≤ cap := by
  rcases h.2 with ⟨hv, hn⟩ | ⟨g, cap', _, hv, _, _, hc, _⟩
  · omega
  · cases hv; exact hc

end Go.Proofs.Ytkknkannjoijbaa
