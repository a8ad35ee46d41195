/-
  The walk of compose's join. Conditions: as the theorem's premises say.
-/
import Derived.Test.YtdpjkafabjhkiaaJoin1
namespace Go.Proofs.Ytdpjkafabjhkiaa
open Go.RowKit

set_option maxHeartbeats 4000000 in
theorem join_any (w0 w : World) (ba bb : Nat) (a b J : List C) (L : Nat) (hJ : JI J [] a b L) (hL : L ≤ 8192) (hw : JW (Rd w0) w0 w ba bb (.slice none 0 0) [] a b) :
    Calls Try.prog 23 #[.pointer (some ⟨ba, 0, none⟩), .pointer (some ⟨bb, 0, none⟩)] w (JoinPost w0 J) := by
  have HJ := Lib.hid hJ; have HW := Lib.hid hw
  clear hJ hw
  have FAR := Lib.hid (rd_far w0)
  go_enter Try.func23, Try.ntmps23
  go_wp2_with fail
  go_loopw [5] (fun v wr => ∃ acc X Y : List C, Hid (JI J acc X Y L) ∧ Hid (JW (Rd w0) w0 wr ba bb v acc X Y)) (fun _ wr => rdLen wr ba + rdLen wr bb)
  case atStart => exact ⟨[], a, b, HJ, HW⟩
  case round =>
    clear HJ HW
    obtain ⟨acc, X, Y, HJ, HW⟩ := hrel
    by_cases hne : X = [] ∧ Y = []
    · obtain ⟨rfl, rfl⟩ := hne
      go_wp2_with fail
      refine (rd_more_no HW.out.ra).mono ?_
      rintro e1 w1 ⟨rfl, rfl⟩
      go_wp2_with fail
      refine (rd_more_no HW.out.rb).mono ?_
      rintro e1 w1 ⟨rfl, rfl⟩
      go_wp2_with fail
      go_ret
      exact ⟨_, rfl, by rw [← HJ.out.done]; exact HW.out.own, HW.out.below⟩
    · obtain ⟨e, X', Y', hs⟩ := HJ.out.empty hne
      have HS := Lib.hid hs
      have HJ' := Lib.hid (HJ.out.step hs)
      rcases step_cases hs with ⟨rfl, hk, rfl⟩ | ⟨rfl, hk, rfl⟩ | ⟨c, cs, d, ds, rfl, rfl, kc, kd, rfl, rfl, rfl⟩
      · clear hs hne
        have hkb : (e.k == 2) = true := beq_iff_eq.2 hk
        clear hk
        have hz := HJ.out.gx.head
        go_wp2_with fail
        refine (rd_more_yes HW.out.ra).mono ?_
        rintro e1 w1 ⟨rfl, rfl⟩
        go_wp2_with fail
        refine (rd_at_yes HW.out.ra HW.out.below 2).mono ?_
        rintro e1 w1 ⟨rfl, rfl⟩
        rw [hkb]
        go_wp2_with fail
        refine (rd_left HW.out.ra HW.out.below).mono ?_
        rintro e1 w1 ⟨rfl, hb1⟩
        have HW1 := Lib.hid (HW.out.next FAR.out hb1)
        clear hb1
        go_wp2_with fail
        refine (rd_take_all HW1.out.ra HW1.out.below hz).mono ?_
        rintro e1 w2 ⟨rfl, hg2, hr2⟩
        have HW2 := Lib.hid (HW1.out.takeA FAR.out hg2 hr2)
        clear hg2 hr2
        go_wp2_with fail
        refine (HJ.out.add hL HS.out HW2.out.own HW2.out.below.size).mono ?_
        intro e1 w3 hp
        obtain ⟨v', rfl, hw3⟩ := HW2.out.add FAR.out hp
        have HW3 := Lib.hid hw3
        clear hp hw3
        go_wp2_with fail
        go_roundw
        case rel => exact ⟨_, _, _, HJ', HW3⟩
        case measure => rw [HW3.out.ra.length, HW3.out.rb.length, HW.out.ra.length, HW.out.rb.length]; exact step_lt HS.out
      · have hx := step_put_head hs
        clear hs hne
        have hkb : (e.k == 1) = true := beq_iff_eq.2 hk
        clear hk
        have hz := HJ.out.gy.head
        cases X' with
        | nil =>
          go_wp2_with fail
          refine (rd_more_no HW.out.ra).mono ?_
          rintro e1 w1 ⟨rfl, rfl⟩
          go_wp2_with fail
          refine (rd_more_yes HW.out.rb).mono ?_
          rintro e1 w1 ⟨rfl, rfl⟩
          go_wp2_with fail
          refine (rd_at_no HW.out.ra 2).mono ?_
          rintro e1 w1 ⟨rfl, rfl⟩
          go_wp2_with fail
          refine (rd_at_yes HW.out.rb HW.out.below 1).mono ?_
          rintro e1 w1 ⟨rfl, rfl⟩
          rw [hkb]
          go_wp2_with fail
          refine (rd_left HW.out.rb HW.out.below).mono ?_
          rintro e1 w1 ⟨rfl, hb1⟩
          have HW1 := Lib.hid (HW.out.next FAR.out hb1)
          clear hb1
          go_wp2_with fail
          refine (rd_take_all HW1.out.rb HW1.out.below hz).mono ?_
          rintro e1 w2 ⟨rfl, hg2, hr2⟩
          have HW2 := Lib.hid (HW1.out.takeB FAR.out hg2 hr2)
          clear hg2 hr2
          go_wp2_with fail
          refine (HJ.out.add hL HS.out HW2.out.own HW2.out.below.size).mono ?_
          intro e1 w3 hp
          obtain ⟨v', rfl, hw3⟩ := HW2.out.add FAR.out hp
          have HW3 := Lib.hid hw3
          clear hp hw3
          go_wp2_with fail
          go_roundw
          case rel => exact ⟨_, _, _, HJ', HW3⟩
          case measure => rw [HW3.out.ra.length, HW3.out.rb.length, HW.out.ra.length, HW.out.rb.length]; exact step_lt HS.out
        | cons c cs =>
          have hkc : (c.k == 2) = false := beq_eq_false_iff_ne.2 (hx c cs rfl)
          clear hx
          go_wp2_with fail
          refine (rd_more_yes HW.out.ra).mono ?_
          rintro e1 w1 ⟨rfl, rfl⟩
          go_wp2_with fail
          refine (rd_at_yes HW.out.ra HW.out.below 2).mono ?_
          rintro e1 w1 ⟨rfl, rfl⟩
          rw [hkc]
          go_wp2_with fail
          refine (rd_at_yes HW.out.rb HW.out.below 1).mono ?_
          rintro e1 w1 ⟨rfl, rfl⟩
          rw [hkb]
          go_wp2_with fail
          refine (rd_left HW.out.rb HW.out.below).mono ?_
          rintro e1 w1 ⟨rfl, hb1⟩
          have HW1 := Lib.hid (HW.out.next FAR.out hb1)
          clear hb1
          go_wp2_with fail
          refine (rd_take_all HW1.out.rb HW1.out.below hz).mono ?_
          rintro e1 w2 ⟨rfl, hg2, hr2⟩
          have HW2 := Lib.hid (HW1.out.takeB FAR.out hg2 hr2)
          clear hg2 hr2
          go_wp2_with fail
          refine (HJ.out.add hL HS.out HW2.out.own HW2.out.below.size).mono ?_
          intro e1 w3 hp
          obtain ⟨v', rfl, hw3⟩ := HW2.out.add FAR.out hp
          have HW3 := Lib.hid hw3
          clear hp hw3
          go_wp2_with fail
          go_roundw
          case rel => exact ⟨_, _, _, HJ', HW3⟩
          case measure => rw [HW3.out.ra.length, HW3.out.rb.length, HW.out.ra.length, HW.out.rb.length]; exact step_lt HS.out
      · clear hs hne
        have hkc : (c.k == 2) = false := beq_eq_false_iff_ne.2 kc
        have hkd : (d.k == 1) = false := beq_eq_false_iff_ne.2 kd
        clear kc kd
        have hz := HJ.out.gx.head
        have hy := HJ.out.gy.head
        go_wp2_with fail
        refine (rd_more_yes HW.out.ra).mono ?_
        rintro e1 w1 ⟨rfl, rfl⟩
        go_wp2_with fail
        refine (rd_at_yes HW.out.ra HW.out.below 2).mono ?_
        rintro e1 w1 ⟨rfl, rfl⟩
        rw [hkc]
        go_wp2_with fail
        refine (rd_at_yes HW.out.rb HW.out.below 1).mono ?_
        rintro e1 w1 ⟨rfl, rfl⟩
        rw [hkd]
        go_wp2_with fail
        refine (rd_left HW.out.ra HW.out.below).mono ?_
        rintro e1 w1 ⟨rfl, hb1⟩
        have HW1 := Lib.hid (HW.out.next FAR.out hb1)
        clear hb1
        go_wp2_with fail
        refine (rd_left HW1.out.rb HW1.out.below).mono ?_
        rintro e1 w2 ⟨rfl, hb2⟩
        have HW2 := Lib.hid (HW1.out.next FAR.out hb2)
        clear hb2
        go_wp2_with fail
        refine (rd_take HW2.out.ra HW2.out.below _ (by omega) (by omega)).mono ?_
        rintro e1 w3 ⟨rfl, hg3, hr3⟩
        have HW3 := Lib.hid (HW2.out.takeA FAR.out hg3 hr3)
        clear hg3 hr3
        go_wp2_with fail
        refine (rd_take HW3.out.rb HW3.out.below _ (by omega) (by omega)).mono ?_
        rintro e1 w4 ⟨rfl, hg4, hr4⟩
        have HW4 := Lib.hid (HW3.out.takeB FAR.out hg4 hr4)
        clear hg4 hr4
        go_wp2_with fail
        refine (meet_any _ _ _).mono ?_
        rintro e1 w5 ⟨rfl, hb5⟩
        have HW5 := Lib.hid (HW4.out.next FAR.out hb5)
        clear hb5
        go_wp2_with fail
        refine (HJ.out.add hL HS.out HW5.out.own HW5.out.below.size).mono ?_
        intro e1 w6 hp
        obtain ⟨v', rfl, hw6⟩ := HW5.out.add FAR.out hp
        have HW6 := Lib.hid hw6
        clear hp hw6
        go_wp2_with fail
        go_roundw
        case rel => exact ⟨_, _, _, HJ', HW6⟩
        case measure => rw [HW6.out.ra.length, HW6.out.rb.length, HW.out.ra.length, HW.out.rb.length]; exact step_lt HS.out

/-- What Compose answers. -/
def ComPost (a b : List C) (w : World) (e : Ending) (w' : World) : Prop :=
  Below w.heap.size w w' ∧ ((ComP a b ∧ ∃ v, e = .returned (.tuple #[v, .int .i64 0]) ∧ Own w' w.heap.size v (normOf (joinL a b))) ∨ (¬ ComP a b ∧ e = .returned (.tuple #[.slice none 0 0, .int .i64 400])))

set_option maxHeartbeats 1000000 in
theorem compose_no (p q : Option Addr) (a b : List C) (cap cap2 : Nat) (w : World) (ra : RowC w p a) (rb : RowC w q b) (hn : ¬ (MayP a ∧ MayP b ∧ sumOf toC a = sumOf fromC b)) : Calls Try.prog 15 #[.slice p a.length cap, .slice q b.length cap2] w (ComPost a b w) := by
  have RA := Lib.hid ra; have RB := Lib.hid rb
  have NO : Hid (¬ ComP a b) := Lib.hid (fun h => hn ⟨h.1, h.2.1, h.2.2.1⟩)
  clear ra rb
  by_cases ha : MayP a
  · by_cases hb : MayP b
    · have hne : (sumOf toC a != sumOf fromC b) = true := by rw [bne_iff_ne]; exact fun h => hn ⟨ha, hb, h⟩
      have HA := Lib.hid ha; have HB := Lib.hid hb
      clear hn ha hb
      go_enter Try.func15, Try.ntmps15
      go_wp2_with fail
      refine (lengths_any _ _ _ _ RA.out).mono ?_
      rintro e w1 ⟨hb1, ⟨rfl, -⟩ | ⟨-, hno⟩⟩
      rotate_left
      · exact absurd HA.out hno
      have B1 := Lib.hid hb1; clear hb1
      generalize sumOf fromC a = A1
      generalize sumOf toC a = A2 at *
      go_wp2_with fail
      refine (lengths_any _ _ _ _ (RB.out.below B1.out)).mono ?_
      rintro e w2 ⟨hb2, ⟨rfl, -⟩ | ⟨-, hno⟩⟩
      rotate_left
      · exact absurd HB.out hno
      have B2 := Lib.hid (B1.out.trans (hb2.mono B1.out.size)); clear hb2
      generalize sumOf fromC b = A3 at *
      generalize sumOf toC b = A4
      go_wp2_with fail
      go_ret2
      exact ⟨B2.out, .inr ⟨NO.out, rfl⟩⟩
    · have HA := Lib.hid ha; have HB := Lib.hid hb
      clear hn ha hb
      go_enter Try.func15, Try.ntmps15
      go_wp2_with fail
      refine (lengths_any _ _ _ _ RA.out).mono ?_
      rintro e w1 ⟨hb1, ⟨rfl, -⟩ | ⟨-, hno⟩⟩
      rotate_left
      · exact absurd HA.out hno
      have B1 := Lib.hid hb1; clear hb1
      generalize sumOf fromC a = A1
      generalize sumOf toC a = A2 at *
      go_wp2_with fail
      refine (lengths_any _ _ _ _ (RB.out.below B1.out)).mono ?_
      rintro e w2 ⟨hb2, ⟨-, hyes⟩ | ⟨rfl, -⟩⟩
      · exact absurd hyes HB.out
      have B2 := Lib.hid (B1.out.trans (hb2.mono B1.out.size)); clear hb2
      go_wp2_with fail
      go_ret2
      exact ⟨B2.out, .inr ⟨NO.out, rfl⟩⟩
  · have HA := Lib.hid ha
    clear hn ha
    go_enter Try.func15, Try.ntmps15
    go_wp2_with fail
    refine (lengths_any _ _ _ _ RA.out).mono ?_
    rintro e w1 ⟨hb1, ⟨-, hyes⟩ | ⟨rfl, -⟩⟩
    · exact absurd hyes HA.out
    have B1 := Lib.hid hb1; clear hb1
    go_wp2_with fail
    refine (lengths_any _ _ _ _ (RB.out.below B1.out)).mono ?_
    rintro e w2 ⟨hb2, ⟨rfl, -⟩ | ⟨rfl, -⟩⟩
    · have B2 := Lib.hid (B1.out.trans (hb2.mono B1.out.size)); clear hb2
      generalize sumOf fromC b = A3 at *
      generalize sumOf toC b = A4
      go_wp2_with fail
      go_ret2
      exact ⟨B2.out, .inr ⟨NO.out, rfl⟩⟩
    · have B2 := Lib.hid (B1.out.trans (hb2.mono B1.out.size)); clear hb2
      go_wp2_with fail
      go_ret2
      exact ⟨B2.out, .inr ⟨NO.out, rfl⟩⟩

set_option maxHeartbeats 1000000 in
theorem compose_yes (p q : Option Addr) (a b : List C) (cap cap2 : Nat) (w : World) (ra : RowC w p a) (rb : RowC w q b) (ca : a.length ≤ cap) (cb : b.length ≤ cap2) (ha : MayP a) (hb : MayP b) (heq : sumOf toC a = sumOf fromC b) : Calls Try.prog 15 #[.slice p a.length cap, .slice q b.length cap2] w (ComPost a b w) := by
  have RA := Lib.hid ra; have RB := Lib.hid rb
  have HA := Lib.hid ha; have HB := Lib.hid hb; have HE := Lib.hid heq
  have JI0 := Lib.hid (JI.start ha hb heq)
  have hla : a.length ≤ 4096 := (okB_iff.1 ha.1).1
  have hlb : b.length ≤ 4096 := (okB_iff.1 hb.1).1
  clear ra rb ha hb heq
  go_enter Try.func15, Try.ntmps15
  go_wp2_with fail
  refine (lengths_any _ _ _ _ RA.out).mono ?_
  rintro e w1 ⟨hb1, ⟨rfl, -⟩ | ⟨-, hno⟩⟩
  rotate_left
  · exact absurd HA.out hno
  have B1 := Lib.hid hb1; clear hb1
  rw [HE.out]
  generalize sumOf fromC a = A1
  go_wp2_with fail
  refine (lengths_any _ _ _ _ (RB.out.below B1.out)).mono ?_
  rintro e w2 ⟨hb2, ⟨rfl, -⟩ | ⟨-, hno⟩⟩
  rotate_left
  · exact absurd HB.out hno
  have B2 := Lib.hid (B1.out.trans (hb2.mono B1.out.size)); clear hb2
  generalize sumOf fromC b = A3
  generalize sumOf toC b = A4
  go_wp2_with fail
  refine (new_any _ _ _ _).mono ?_
  rintro e w3 ⟨rfl, hw3⟩
  have B23 : Below w2.heap.size w2 w3 := by rw [hw3]; exact (Below.refl _ _).alloc (Nat.le_refl _) _
  have B3 := Lib.hid (B2.out.trans (B23.mono B2.out.size))
  have R3 : Hid (Rd w w3 w2.heap.size a) := Lib.hid (by rw [hw3]; exact rd_new p a cap RA.out ca HA.out)
  have S3 : Hid (w3.heap.size = w2.heap.size + 1) := Lib.hid (by rw [hw3]; simp)
  clear hw3 B23
  go_wp2_with fail
  refine (new_any _ _ _ _).mono ?_
  rintro e w4 ⟨rfl, hw4⟩
  have B34 : Below w3.heap.size w3 w4 := by rw [hw4]; exact (Below.refl _ _).alloc (Nat.le_refl _) _
  have B4 := Lib.hid (B3.out.trans (B34.mono B3.out.size))
  have R4 : Hid (Rd w w4 w3.heap.size b) := Lib.hid (by rw [hw4]; exact rd_new q b cap2 RB.out cb HB.out)
  have HW : Hid (JW (Rd w) w w4 w2.heap.size w3.heap.size (.slice none 0 0) [] a b) := Lib.hid ⟨Own.nil _ _, R3.out.below B34, R4.out, B4.out, by simp [Value.ownBlock], by simp [Value.ownBlock], by have := S3.out; omega, B2.out.size, B3.out.size, (R3.out.below B34).lt, R4.out.lt⟩
  clear hw4 B34
  go_wp2_with fail
  refine (join_any w w4 _ _ a b _ _ JI0.out (by omega) HW.out).mono ?_
  rintro e w5 ⟨v, rfl, ho, hb5⟩
  obtain ⟨pv, cv, rfl⟩ := ho.form
  have O5 := Lib.hid ho; have B5 := Lib.hid hb5
  clear ho hb5
  generalize hN : normOf (joinL a b) = N at O5
  have HN := Lib.hid hN; clear hN
  go_wp2_with fail
  refine (may_any _ _ _ _ O5.out.row).mono ?_
  rintro e w6 ⟨hb6, ⟨rfl, hm⟩ | ⟨rfl, hm⟩⟩
  · go_wp2_with fail
    go_ret2
    exact ⟨B5.out.trans (hb6.mono B5.out.size), .inl ⟨⟨HA.out, HB.out, HE.out, by rw [HN.out]; exact hm⟩, _, rfl, by rw [HN.out]; exact O5.out.below hb6⟩⟩
  · go_wp2_with fail
    go_ret2
    exact ⟨B5.out.trans (hb6.mono B5.out.size), .inr ⟨fun h => hm (by rw [← HN.out]; exact h.2.2.2), rfl⟩⟩

theorem compose_any (p q : Option Addr) (a b : List C) (cap cap2 : Nat) (w : World) (ra : RowC w p a) (rb : RowC w q b) (ca : a.length ≤ cap) (cb : b.length ≤ cap2) : Calls Try.prog 15 #[.slice p a.length cap, .slice q b.length cap2] w (ComPost a b w) := by
  by_cases h : MayP a ∧ MayP b ∧ sumOf toC a = sumOf fromC b
  · exact compose_yes p q a b cap cap2 w ra rb ca cb h.1 h.2.1 h.2.2
  · exact compose_no p q a b cap cap2 w ra rb h

end Go.Proofs.Ytdpjkafabjhkiaa
