/-
  The walk of the reference's Compose. Conditions: as the theorems' premises say.
-/
import Derived.Test.YtkknkannjoijbaaRRd
import Derived.Test.YtkknkannjoijbaaJoin2
namespace Go.Proofs.Ytkknkannjoijbaa
open Go.RowKit

set_option maxHeartbeats 1000000 in
theorem rcompose_no (p q : Option Addr) (a b : List C) (cap cap2 : Nat) (w : World) (ra : RowC w p a) (rb : RowC w q b) (hn : ¬ (MayP a ∧ MayP b ∧ sumOf toC a = sumOf fromC b)) : Calls Try.prog 24 #[.slice p a.length cap, .slice q b.length cap2] w (ComPost a b w) := by
  have RA := Lib.hid ra; have RB := Lib.hid rb
  have NO : Hid (¬ ComP a b) := Lib.hid (fun h => hn ⟨h.1, h.2.1, h.2.2.1⟩)
  clear ra rb
  by_cases ha : MayP a
  · by_cases hb : MayP b
    · have hne : (sumOf toC a != sumOf fromC b) = true := by rw [bne_iff_ne]; exact fun h => hn ⟨ha, hb, h⟩
      have HA := Lib.hid ha; have HB := Lib.hid hb
      clear hn ha hb
      go_enter Try.func24, Try.ntmps24
      go_wp2_with fail
      refine (rlengths_any _ _ _ _ RA.out).mono ?_
      rintro e w1 ⟨hb1, ⟨rfl, -⟩ | ⟨-, hno⟩⟩
      rotate_left
      · exact absurd HA.out hno
      have B1 := Lib.hid hb1; clear hb1
      generalize sumOf fromC a = A1
      generalize sumOf toC a = A2 at *
      go_wp2_with fail
      refine (rlengths_any _ _ _ _ (RB.out.below B1.out)).mono ?_
      rintro e w2 ⟨hb2, ⟨rfl, -⟩ | ⟨-, hno⟩⟩
      rotate_left
      · exact absurd HB.out hno
      have B2 := Lib.hid (B1.out.trans (hb2.mono B1.out.size)); clear hb2
      generalize sumOf fromC b = A3 at *
      generalize sumOf toC b = A4
      go_wp2_with fail
      go_ret2
      exact ⟨B2.out, .inr ⟨NO.out, rfl⟩⟩
    · have HA := Lib.hid ha; have HB := Lib.hid hb
      clear hn ha hb
      go_enter Try.func24, Try.ntmps24
      go_wp2_with fail
      refine (rlengths_any _ _ _ _ RA.out).mono ?_
      rintro e w1 ⟨hb1, ⟨rfl, -⟩ | ⟨-, hno⟩⟩
      rotate_left
      · exact absurd HA.out hno
      have B1 := Lib.hid hb1; clear hb1
      generalize sumOf fromC a = A1
      generalize sumOf toC a = A2 at *
      go_wp2_with fail
      refine (rlengths_any _ _ _ _ (RB.out.below B1.out)).mono ?_
      rintro e w2 ⟨hb2, ⟨-, hyes⟩ | ⟨rfl, -⟩⟩
      · exact absurd hyes HB.out
      have B2 := Lib.hid (B1.out.trans (hb2.mono B1.out.size)); clear hb2
      go_wp2_with fail
      go_ret2
      exact ⟨B2.out, .inr ⟨NO.out, rfl⟩⟩
  · have HA := Lib.hid ha
    clear hn ha
    go_enter Try.func24, Try.ntmps24
    go_wp2_with fail
    refine (rlengths_any _ _ _ _ RA.out).mono ?_
    rintro e w1 ⟨hb1, ⟨-, hyes⟩ | ⟨rfl, -⟩⟩
    · exact absurd hyes HA.out
    have B1 := Lib.hid hb1; clear hb1
    go_wp2_with fail
    refine (rlengths_any _ _ _ _ (RB.out.below B1.out)).mono ?_
    rintro e w2 ⟨hb2, ⟨rfl, -⟩ | ⟨rfl, -⟩⟩
    · have B2 := Lib.hid (B1.out.trans (hb2.mono B1.out.size)); clear hb2
      generalize sumOf fromC b = A3 at *
      generalize sumOf toC b = A4
      go_wp2_with fail
      go_ret2
      exact ⟨B2.out, .inr ⟨NO.out, rfl⟩⟩
    · have B2 := Lib.hid (B1.out.trans (hb2.mono B1.out.size)); clear hb2
      go_wp2_with fail
      go_ret2
      exact ⟨B2.out, .inr ⟨NO.out, rfl⟩⟩

theorem rcom_start (p q : Option Addr) (a b : List C) (cap cap2 : Nat) (w w2 : World) (ra : RowC w p a) (rb : RowC w q b) (ha : MayP a) (hb : MayP b) (B2 : Below w.heap.size w w2) : JW (RRd w) w ((w2.alloc (.cells #[.slice p a.length cap, .int .i64 0, .int .i64 0] 62)).alloc (.cells #[.slice q b.length cap2, .int .i64 0, .int .i64 0] 62)) w2.heap.size (w2.heap.size + 1) (.slice none 0 0) [] a b := by
  have R3 := rrd_new (w := w2) p a cap ra ha B2.size
  have B3 := B2.alloc B2.size (.cells #[.slice p a.length cap, .int .i64 0, .int .i64 0] 62)
  have s3 : (w2.alloc (.cells #[.slice p a.length cap, .int .i64 0, .int .i64 0] 62)).heap.size = w2.heap.size + 1 := by simp
  generalize w2.alloc (.cells #[.slice p a.length cap, .int .i64 0, .int .i64 0] 62) = w3 at *
  have R4 := rrd_new (w := w3) q b cap2 rb hb B3.size
  have B34 := (Below.refl w3.heap.size w3).alloc (Nat.le_refl _) (.cells #[.slice q b.length cap2, .int .i64 0, .int .i64 0] 62)
  have s4 : (w3.alloc (.cells #[.slice q b.length cap2, .int .i64 0, .int .i64 0] 62)).heap.size = w3.heap.size + 1 := by simp
  generalize w3.alloc (.cells #[.slice q b.length cap2, .int .i64 0, .int .i64 0] 62) = w4 at *
  have B4 := B3.trans (B34.mono B3.size)
  have hs := B2.size
  rw [s3] at R4
  exact ⟨Own.nil _ _, rrd_far w _ _ _ _ none R3 (grown_of_below B34 none) (by simp), R4, B4, by simp [Value.ownBlock], by simp [Value.ownBlock], by omega, hs, by omega, by omega, by omega⟩

/-- A box with one piece in it. -/
def BX (w : World) (D : Nat) (c : C) : Prop := PieceAt w D 0 c ∧ D < w.heap.size
theorem BX.new (w : World) (k n : Int) (t : ByteArray) : BX (w.alloc (.cells #[.int .i64 k, .int .i64 n, .string t] 41)) w.heap.size ⟨k, n, t⟩ := ⟨new_piece w k n t, by simp⟩
theorem BX.below {w w' : World} {D : Nat} {c : C} (h : BX w D c) (hb : Below w.heap.size w w') : BX w' D c := ⟨h.1.below hb, Nat.lt_of_lt_of_le h.2 hb.size⟩
theorem BX.grown {w w' : World} {D : Nat} {c : C} {row : Option Nat} (h : BX w D c) (hg : w.grownBy w' row) (hr : some D ≠ row) : BX w' D c := ⟨⟨hg.cell h.1.1 hr, hg.cell h.1.2.1 hr, hg.cell h.1.2.2 hr⟩, Nat.lt_of_lt_of_le h.2 hg.size⟩
theorem raw_sz {c : C} (h : c.Raw) : c.sz ≤ 4096 := by unfold C.Raw at h; unfold C.sz; omega
theorem add_zero_piece (acc : List C) : addC acc ⟨0, 0, e0⟩ = acc := by simp [addC, C.sz, e0_size]
theorem meet_right {c d : C} {n : Int} (kc : c.k = 0) (kd : d.k ≠ 1) : meetC (takeC c n) (takeC d n) = takeC d n := by
  have k1 := take_k c n
  have k2 := take_k d n
  unfold meetC
  split
  · rename_i hk
    unfold takeC
    rw [if_neg (by omega), if_neg kd, kc]
    rw [show d.k = 0 by omega]
  · rw [if_pos (by omega)]

set_option maxRecDepth 100000 in
set_option maxHeartbeats 8000000 in
theorem rcompose_yes (p q : Option Addr) (a b : List C) (cap cap2 : Nat) (w : World) (ra : RowC w p a) (rb : RowC w q b) (ha : MayP a) (hb : MayP b) (heq : sumOf toC a = sumOf fromC b) : Calls Try.prog 24 #[.slice p a.length cap, .slice q b.length cap2] w (ComPost a b w) := by
  have RA := Lib.hid ra; have RB := Lib.hid rb
  have HA := Lib.hid ha; have HB := Lib.hid hb; have HE := Lib.hid heq
  have JI0 := Lib.hid (JI.start ha hb heq)
  have hla : a.length ≤ 4096 := (okB_iff.1 ha.1).1
  have hlb : b.length ≤ 4096 := (okB_iff.1 hb.1).1
  have FAR := Lib.hid (rrd_far w)
  clear ra rb ha hb heq
  go_enter Try.func24, Try.ntmps24
  go_wp2_with fail
  refine (rlengths_any _ _ _ _ RA.out).mono ?_
  rintro e w1 ⟨hb1, ⟨rfl, -⟩ | ⟨-, hno⟩⟩
  rotate_left
  · exact absurd HA.out hno
  have B1 := Lib.hid hb1; clear hb1
  rw [HE.out]
  generalize sumOf fromC a = A1
  go_wp2_with fail
  refine (rlengths_any _ _ _ _ (RB.out.below B1.out)).mono ?_
  rintro e w2 ⟨hb2, ⟨rfl, -⟩ | ⟨-, hno⟩⟩
  rotate_left
  · exact absurd HB.out hno
  have B2 := Lib.hid (B1.out.trans (hb2.mono B1.out.size)); clear hb2
  generalize sumOf fromC b = A3
  generalize sumOf toC b = A4
  go_wp2_with fail
  have S0 : Hid (JW (RRd w) w ((w2.alloc (.cells #[.slice p a.length cap, .int .i64 0, .int .i64 0] 62)).alloc (.cells #[.slice q b.length cap2, .int .i64 0, .int .i64 0] 62)) w2.heap.size (w2.heap.size + 1) (.slice none 0 0) [] a b) := Lib.hid (rcom_start p q a b cap cap2 w w2 RA.out RB.out HA.out HB.out B2.out)
  generalize (w2.alloc (.cells #[.slice p a.length cap, .int .i64 0, .int .i64 0] 62)).alloc (.cells #[.slice q b.length cap2, .int .i64 0, .int .i64 0] 62) = W0 at S0 ⊢
  generalize hb1 : w2.heap.size + 1 = bb at S0 ⊢
  generalize hb2 : w2.heap.size = ba at S0 ⊢
  clear hb1 hb2 B1 B2
  generalize hN : normOf (joinL a b) = N at JI0
  have HN := Lib.hid hN; clear hN
  generalize hLL : a.length + b.length = L at JI0
  have hL : L ≤ 8192 := by omega
  clear hLL
  go_loopw [14] (fun v wr => ∃ acc X Y : List C, Hid (JI N acc X Y L) ∧ Hid (JW (RRd w) w wr ba bb v acc X Y)) (fun _ wr => rrLen wr ba + rrLen wr bb)
  case atStart => exact ⟨[], a, b, JI0, S0⟩
  case round =>
    clear JI0 S0
    obtain ⟨acc, X, Y, HJ, HW⟩ := hrel
    by_cases hne : X = [] ∧ Y = []
    · obtain ⟨rfl, rfl⟩ := hne
      have HD := Lib.hid HJ.out.done
      have hl := HJ.out.len
      go_wp2_with fail
      refine (rrd_peek_no HW.out.ra).mono ?_
      rintro e1 w1 ⟨rfl, hb1⟩
      have HW1 := Lib.hid (HW.out.next FAR.out hb1); clear hb1
      unfold C.val
      dsimp only [e0]
      go_wp2_with fail
      have HW2 := Lib.hid (HW1.out.next FAR.out (box_new w1 0 0 ⟨#[]⟩).2.2.1)
      have X1 := Lib.hid (BX.new w1 0 0 ⟨#[]⟩)
      generalize w1.alloc (.cells #[.int .i64 0, .int .i64 0, .string ⟨#[]⟩] 41) = w2 at HW2 X1 ⊢
      generalize w1.heap.size = D1 at X1 ⊢
      refine (rrd_peek_no HW2.out.rb).mono ?_
      rintro e1 w3 ⟨rfl, hb3⟩
      have HW3 := Lib.hid (HW2.out.next FAR.out hb3)
      have X3 := Lib.hid (X1.out.below hb3)
      clear hb3 X1
      unfold C.val
      dsimp only [e0]
      obtain ⟨x0, x1, x2⟩ := X3.out.1
      dsimp only [e0] at x0 x1 x2
      have hx3 := X3.out.2
      go_wp2_with fail
      have HW4 := Lib.hid (HW3.out.next FAR.out (box_new w3 0 0 ⟨#[]⟩).2.2.1)
      have X4 := Lib.hid (X3.out.below (box_new w3 0 0 ⟨#[]⟩).2.2.1)
      have Y4 := Lib.hid (BX.new w3 0 0 ⟨#[]⟩)
      generalize w3.alloc (.cells #[.int .i64 0, .int .i64 0, .string ⟨#[]⟩] 41) = w4 at HW4 X4 Y4 ⊢
      generalize w3.heap.size = D2 at Y4 ⊢
      clear x0 x1 x2 hx3 X3
      obtain ⟨p4, c4, hv4⟩ := HW4.out.own.form
      subst hv4
      refine (rcmay_any _ _ _ _ HW4.out.own.row).mono ?_
      rintro e1 w5 ⟨hb5, ⟨rfl, hm⟩ | ⟨rfl, hm⟩⟩
      · go_wp2_with fail
        go_ret2
        exact ⟨HW4.out.below.trans (hb5.mono HW4.out.below.size), .inl ⟨⟨HA.out, HB.out, HE.out, by rw [HN.out, ← HD.out]; exact hm⟩, _, rfl, by rw [HN.out, ← HD.out]; exact HW4.out.own.below hb5⟩⟩
      · go_wp2_with fail
        go_ret2
        exact ⟨HW4.out.below.trans (hb5.mono HW4.out.below.size), .inr ⟨fun h => hm (by rw [HD.out, ← HN.out]; exact h.2.2.2), rfl⟩⟩
    · obtain ⟨e, X', Y', hs⟩ := HJ.out.empty hne
      have HS := Lib.hid hs
      have HJ' := Lib.hid (HJ.out.step hs)
      rcases step_cases hs with ⟨rfl, hk, rfl⟩ | ⟨rfl, hk, rfl⟩ | ⟨c, cs, d, ds, rfl, rfl, kc, kd, rfl, rfl, rfl⟩
      · clear hs hne
        have hz := HJ.out.gx.head
        have hz4 := raw_sz (HJ.out.raw HS.out)
        obtain ⟨ek, en, et⟩ := e
        dsimp only at hk
        subst hk
        cases Y' with
        | nil =>
          go_wp2_with fail
          refine (rrd_peek_yes HW.out.ra HW.out.below).mono ?_
          rintro e1 w1 ⟨rfl, hb1⟩
          have HW1 := Lib.hid (HW.out.next FAR.out hb1); clear hb1
          unfold C.val
          dsimp only
          go_wp2_with fail
          have HW2 := Lib.hid (HW1.out.next FAR.out (box_new w1 2 en et).2.2.1)
          have X1 := Lib.hid (BX.new w1 2 en et)
          generalize w1.alloc (.cells #[.int .i64 2, .int .i64 en, .string et] 41) = w2 at HW2 X1 ⊢
          generalize w1.heap.size = D1 at X1 ⊢
          refine (rrd_peek_no HW2.out.rb).mono ?_
          rintro e1 w3 ⟨rfl, hb3⟩
          have HW3 := Lib.hid (HW2.out.next FAR.out hb3)
          have X3 := Lib.hid (X1.out.below hb3)
          clear hb3 X1
          unfold C.val
          dsimp only [e0]
          obtain ⟨x0, x1, x2⟩ := X3.out.1
          have hx3 := X3.out.2
          go_wp2_with fail
          have HW4 := Lib.hid (HW3.out.next FAR.out (box_new w3 0 0 ⟨#[]⟩).2.2.1)
          have X4 := Lib.hid (X3.out.below (box_new w3 0 0 ⟨#[]⟩).2.2.1)
          have Y4 := Lib.hid (BX.new w3 0 0 ⟨#[]⟩)
          generalize w3.alloc (.cells #[.int .i64 0, .int .i64 0, .string ⟨#[]⟩] 41) = w4 at HW4 X4 Y4 ⊢
          generalize w3.heap.size = D2 at Y4 ⊢
          clear x0 x1 x2 hx3 X3
          refine (rrd_take_all HW4.out.ra HW4.out.below hz 4096 hz4).mono ?_
          rintro e1 w5 ⟨rfl, hg5, hr5⟩
          have HW5 := Lib.hid (HW4.out.takeA FAR.out hg5 hr5)
          clear hg5 hr5
          go_wp2_with fail
          refine (HJ.out.radd hL HS.out HW5.out.own HW5.out.below.size).mono ?_
          intro e1 w6 hp
          obtain ⟨v', rfl, hw6⟩ := HW5.out.add FAR.out hp
          have HW6 := Lib.hid hw6
          clear hp hw6
          go_wp2_with fail
          go_roundw
          case rel => exact ⟨_, _, _, HJ', HW6⟩
          case measure => rw [HW6.out.ra.length, HW6.out.rb.length, HW.out.ra.length, HW.out.rb.length]; exact step_lt HS.out
        | cons d ds =>
          obtain ⟨dk, dn, dt⟩ := d
          go_wp2_with fail
          refine (rrd_peek_yes HW.out.ra HW.out.below).mono ?_
          rintro e1 w1 ⟨rfl, hb1⟩
          have HW1 := Lib.hid (HW.out.next FAR.out hb1); clear hb1
          unfold C.val
          dsimp only
          go_wp2_with fail
          have HW2 := Lib.hid (HW1.out.next FAR.out (box_new w1 2 en et).2.2.1)
          have X1 := Lib.hid (BX.new w1 2 en et)
          generalize w1.alloc (.cells #[.int .i64 2, .int .i64 en, .string et] 41) = w2 at HW2 X1 ⊢
          generalize w1.heap.size = D1 at X1 ⊢
          refine (rrd_peek_yes HW2.out.rb HW2.out.below).mono ?_
          rintro e1 w3 ⟨rfl, hb3⟩
          have HW3 := Lib.hid (HW2.out.next FAR.out hb3)
          have X3 := Lib.hid (X1.out.below hb3)
          clear hb3 X1
          unfold C.val
          dsimp only
          obtain ⟨x0, x1, x2⟩ := X3.out.1
          have hx3 := X3.out.2
          go_wp2_with fail
          have HW4 := Lib.hid (HW3.out.next FAR.out (box_new w3 dk dn dt).2.2.1)
          have X4 := Lib.hid (X3.out.below (box_new w3 dk dn dt).2.2.1)
          have Y4 := Lib.hid (BX.new w3 dk dn dt)
          generalize w3.alloc (.cells #[.int .i64 dk, .int .i64 dn, .string dt] 41) = w4 at HW4 X4 Y4 ⊢
          generalize w3.heap.size = D2 at Y4 ⊢
          clear x0 x1 x2 hx3 X3
          refine (rrd_take_all HW4.out.ra HW4.out.below hz 4096 hz4).mono ?_
          rintro e1 w5 ⟨rfl, hg5, hr5⟩
          have HW5 := Lib.hid (HW4.out.takeA FAR.out hg5 hr5)
          clear hg5 hr5
          go_wp2_with fail
          refine (HJ.out.radd hL HS.out HW5.out.own HW5.out.below.size).mono ?_
          intro e1 w6 hp
          obtain ⟨v', rfl, hw6⟩ := HW5.out.add FAR.out hp
          have HW6 := Lib.hid hw6
          clear hp hw6
          go_wp2_with fail
          go_roundw
          case rel => exact ⟨_, _, _, HJ', HW6⟩
          case measure => rw [HW6.out.ra.length, HW6.out.rb.length, HW.out.ra.length, HW.out.rb.length]; exact step_lt HS.out
      · have hx := step_put_head hs
        clear hs hne
        have hz := HJ.out.gy.head
        have hz4 := raw_sz (HJ.out.raw HS.out)
        obtain ⟨ek, en, et⟩ := e
        dsimp only at hk
        subst hk
        cases X' with
        | nil =>
          clear hx
          go_wp2_with fail
          refine (rrd_peek_no HW.out.ra).mono ?_
          rintro e1 w1 ⟨rfl, hb1⟩
          have HW1 := Lib.hid (HW.out.next FAR.out hb1); clear hb1
          unfold C.val
          dsimp only [e0]
          go_wp2_with fail
          have HW2 := Lib.hid (HW1.out.next FAR.out (box_new w1 0 0 ⟨#[]⟩).2.2.1)
          have X1 := Lib.hid (BX.new w1 0 0 ⟨#[]⟩)
          generalize w1.alloc (.cells #[.int .i64 0, .int .i64 0, .string ⟨#[]⟩] 41) = w2 at HW2 X1 ⊢
          generalize w1.heap.size = D1 at X1 ⊢
          refine (rrd_peek_yes HW2.out.rb HW2.out.below).mono ?_
          rintro e1 w3 ⟨rfl, hb3⟩
          have HW3 := Lib.hid (HW2.out.next FAR.out hb3)
          have X3 := Lib.hid (X1.out.below hb3)
          clear hb3 X1
          unfold C.val
          dsimp only
          obtain ⟨x0, x1, x2⟩ := X3.out.1
          dsimp only [e0] at x0 x1 x2
          have hx3 := X3.out.2
          go_wp2_with fail
          have HW4 := Lib.hid (HW3.out.next FAR.out (box_new w3 1 en et).2.2.1)
          have X4 := Lib.hid (X3.out.below (box_new w3 1 en et).2.2.1)
          have Y4 := Lib.hid (BX.new w3 1 en et)
          generalize w3.alloc (.cells #[.int .i64 1, .int .i64 en, .string et] 41) = w4 at HW4 X4 Y4 ⊢
          generalize w3.heap.size = D2 at Y4 ⊢
          clear x0 x1 x2 hx3 X3
          refine (rrd_take_all HW4.out.rb HW4.out.below hz 4096 hz4).mono ?_
          rintro e1 w5 ⟨rfl, hg5, hr5⟩
          have HW5 := Lib.hid (HW4.out.takeB FAR.out hg5 hr5)
          clear hg5 hr5
          go_wp2_with fail
          refine (HJ.out.radd hL HS.out HW5.out.own HW5.out.below.size).mono ?_
          intro e1 w6 hp
          obtain ⟨v', rfl, hw6⟩ := HW5.out.add FAR.out hp
          have HW6 := Lib.hid hw6
          clear hp hw6
          go_wp2_with fail
          go_roundw
          case rel => exact ⟨_, _, _, HJ', HW6⟩
          case measure => rw [HW6.out.ra.length, HW6.out.rb.length, HW.out.ra.length, HW.out.rb.length]; exact step_lt HS.out
        | cons c cs =>
          have hkc : (c.k == 2) = false := beq_eq_false_iff_ne.2 (hx c cs rfl)
          clear hx
          obtain ⟨ck, cn, ct⟩ := c
          dsimp only at hkc
          go_wp2_with fail
          refine (rrd_peek_yes HW.out.ra HW.out.below).mono ?_
          rintro e1 w1 ⟨rfl, hb1⟩
          have HW1 := Lib.hid (HW.out.next FAR.out hb1); clear hb1
          unfold C.val
          dsimp only
          go_wp2_with fail
          have HW2 := Lib.hid (HW1.out.next FAR.out (box_new w1 ck cn ct).2.2.1)
          have X1 := Lib.hid (BX.new w1 ck cn ct)
          generalize w1.alloc (.cells #[.int .i64 ck, .int .i64 cn, .string ct] 41) = w2 at HW2 X1 ⊢
          generalize w1.heap.size = D1 at X1 ⊢
          refine (rrd_peek_yes HW2.out.rb HW2.out.below).mono ?_
          rintro e1 w3 ⟨rfl, hb3⟩
          have HW3 := Lib.hid (HW2.out.next FAR.out hb3)
          have X3 := Lib.hid (X1.out.below hb3)
          clear hb3 X1
          unfold C.val
          dsimp only
          obtain ⟨x0, x1, x2⟩ := X3.out.1
          have hx3 := X3.out.2
          go_wp2_with fail
          have HW4 := Lib.hid (HW3.out.next FAR.out (box_new w3 1 en et).2.2.1)
          have X4 := Lib.hid (X3.out.below (box_new w3 1 en et).2.2.1)
          have Y4 := Lib.hid (BX.new w3 1 en et)
          generalize w3.alloc (.cells #[.int .i64 1, .int .i64 en, .string et] 41) = w4 at HW4 X4 Y4 ⊢
          generalize w3.heap.size = D2 at Y4 ⊢
          clear x0 x1 x2 hx3 X3
          refine (rrd_take_all HW4.out.rb HW4.out.below hz 4096 hz4).mono ?_
          rintro e1 w5 ⟨rfl, hg5, hr5⟩
          have HW5 := Lib.hid (HW4.out.takeB FAR.out hg5 hr5)
          clear hg5 hr5
          go_wp2_with fail
          refine (HJ.out.radd hL HS.out HW5.out.own HW5.out.below.size).mono ?_
          intro e1 w6 hp
          obtain ⟨v', rfl, hw6⟩ := HW5.out.add FAR.out hp
          have HW6 := Lib.hid hw6
          clear hp hw6
          go_wp2_with fail
          go_roundw
          case rel => exact ⟨_, _, _, HJ', HW6⟩
          case measure => rw [HW6.out.ra.length, HW6.out.rb.length, HW.out.ra.length, HW.out.rb.length]; exact step_lt HS.out
      · clear hs hne
        have hz := HJ.out.gx.head
        have hy := HJ.out.gy.head
        have h0 : 0 ≤ min c.sz d.sz := by omega
        have h1 : min c.sz d.sz ≤ c.sz := by omega
        have h2 : min c.sz d.sz ≤ d.sz := by omega
        generalize hm : min c.sz d.sz = n at HS HJ' h0 h1 h2
        have HM := Lib.hid hm; clear hm
        have TKA : Hid (∀ W, RRd w W ba (c :: cs) → Below w.heap.size w W → Calls Try.prog 32 #[.pointer (some ⟨ba, 0, none⟩), .int .i64 n] W (RTakePost w ba (takeC c n) (tailC c n cs) W)) := Lib.hid (fun W h hb => rrd_take h hb n n h0 (by omega))
        have TKB : Hid (∀ W, RRd w W bb (d :: ds) → Below w.heap.size w W → Calls Try.prog 32 #[.pointer (some ⟨bb, 0, none⟩), .int .i64 n] W (RTakePost w bb (takeC d n) (tailC d n ds) W)) := Lib.hid (fun W h hb => rrd_take h hb n n h0 (by omega))
        have EQ : Hid (c.k = 0 → meetC (takeC c n) (takeC d n) = takeC d n) := Lib.hid (fun h => meet_right h kd)
        have pk_ := take_k c n
        have qk_ := take_k d n
        generalize tailC c n cs = XT at TKA HS HJ'
        generalize tailC d n ds = YT at TKB HS HJ'
        generalize takeC c n = P at TKA EQ HS HJ' pk_
        generalize takeC d n = Q at TKB EQ HS HJ' qk_
        have hkc : (c.k == 2) = false := beq_eq_false_iff_ne.2 kc
        have hkd : (d.k == 1) = false := beq_eq_false_iff_ne.2 kd
        have SC := hz.1
        have SD := hy.1
        have hcases : (c.k = 1 ∧ d.k = 2) ∨ (c.k = 1 ∧ d.k = 0) ∨ c.k = 0 := by
          unfold C.Soft at SC SD
          omega
        clear hz hy h1 h2 kc kd
        obtain ⟨ck, cn, ct⟩ := c
        obtain ⟨dk, dn, dt⟩ := d
        obtain ⟨pk, pn, pt⟩ := P
        obtain ⟨qk, qn, qt⟩ := Q
        dsimp only at hkc hkd pk_ qk_ hcases EQ
        have HCS := Lib.hid hcases; clear hcases
        have HPK := Lib.hid pk_; have HQK := Lib.hid qk_
        clear pk_ qk_
        go_wp2_with fail
        refine (rrd_peek_yes HW.out.ra HW.out.below).mono ?_
        rintro e1 w1 ⟨rfl, hb1⟩
        have HW1 := Lib.hid (HW.out.next FAR.out hb1); clear hb1
        unfold C.val
        dsimp only
        go_wp2_with fail
        have HW2 := Lib.hid (HW1.out.next FAR.out (box_new w1 ck cn ct).2.2.1)
        have X1 := Lib.hid (BX.new w1 ck cn ct)
        generalize w1.alloc (.cells #[.int .i64 ck, .int .i64 cn, .string ct] 41) = w2 at HW2 X1 ⊢
        generalize w1.heap.size = D1 at X1 ⊢
        refine (rrd_peek_yes HW2.out.rb HW2.out.below).mono ?_
        rintro e1 w3 ⟨rfl, hb3⟩
        have HW3 := Lib.hid (HW2.out.next FAR.out hb3)
        have X3 := Lib.hid (X1.out.below hb3)
        clear hb3 X1
        unfold C.val
        dsimp only
        obtain ⟨x0, x1, x2⟩ := X3.out.1
        have hx3 := X3.out.2
        go_wp2_with fail
        have HW4 := Lib.hid (HW3.out.next FAR.out (box_new w3 dk dn dt).2.2.1)
        have X4 := Lib.hid (X3.out.below (box_new w3 dk dn dt).2.2.1)
        have Y4 := Lib.hid (BX.new w3 dk dn dt)
        generalize w3.alloc (.cells #[.int .i64 dk, .int .i64 dn, .string dt] 41) = w4 at HW4 X4 Y4 ⊢
        generalize w3.heap.size = D2 at Y4 ⊢
        clear x0 x1 x2 hx3 X3
        have SCH := Lib.hid SC; have SDH := Lib.hid SD
        clear SC SD
        have z0 : ∀ X : Ext w4, X.w.cell? ⟨D1, 0, none⟩ = some (.int .i64 ck) := fun X => X.cell X4.out.1.1
        have z1 : ∀ X : Ext w4, X.w.cell? ⟨D1, 1, none⟩ = some (.int .i64 cn) := fun X => X.cell X4.out.1.2.1
        have z2 : ∀ X : Ext w4, X.w.cell? ⟨D1, 2, none⟩ = some (.string ct) := fun X => X.cell X4.out.1.2.2
        have z3 : ∀ X : Ext w4, X.w.cell? ⟨D2, 0, none⟩ = some (.int .i64 dk) := fun X => X.cell Y4.out.1.1
        have z4 : ∀ X : Ext w4, X.w.cell? ⟨D2, 1, none⟩ = some (.int .i64 dn) := fun X => X.cell Y4.out.1.2.1
        have z5 : ∀ X : Ext w4, X.w.cell? ⟨D2, 2, none⟩ = some (.string dt) := fun X => X.cell Y4.out.1.2.2
        have hM' : min (cn + (ct.size : Int)) (dn + (dt.size : Int)) = n := HM.out
        refine wp_region_ext (by kernel_rfl) (by kernel_rfl) ?_
        repeat (go_big_quiet_step ((go_at_call 34; first | exact Ext.calls (rsize_any _ _ _ _ SCH.out) | exact Ext.calls (rsize_any _ _ _ _ SDH.out))))
        refine wpQuiet_nil ?_
        rintro _ ⟨X, rfl⟩
        clear z0 z1 z2 z3 z4 z5
        have HW6 := Lib.hid (HW4.out.next FAR.out X.below)
        generalize X.w = w6 at HW6 ⊢
        clear X
        (try rw [hM'])
        clear hM' X4 Y4
        have hcases := HCS.out
        rcases hcases with ⟨g1, g2⟩ | ⟨g1, g2⟩ | g1
        · have p1 := HPK.out; have q1 := HQK.out
          rw [g1] at p1; rw [g2] at q1
          subst p1; subst q1
          have em : meetC ⟨1, pn, pt⟩ ⟨2, qn, qt⟩ = ⟨0, 0, e0⟩ := by simp [meetC]
          rw [em, add_zero_piece] at HJ'
          clear em g1 g2 HCS HPK HQK EQ
          go_wp2_with fail
          refine (TKA.out w6 HW6.out.ra HW6.out.below).mono ?_
          rintro e1 w7 ⟨rfl, hg7, hr7⟩
          have HW7 := Lib.hid (HW6.out.takeA FAR.out hg7 hr7)
          clear hg7 hr7
          unfold C.val
          dsimp only
          go_wp2_with fail
          have HW8 := Lib.hid (HW7.out.next FAR.out (box_new w7 1 pn pt).2.2.1)
          have X8 := Lib.hid (BX.new w7 1 pn pt)
          have NB : Hid (some w7.heap.size ≠ some bb) := Lib.hid (fun e => absurd HW7.out.lb (by rw [Option.some.inj e]; exact Nat.lt_irrefl _))
          generalize w7.alloc (.cells #[.int .i64 1, .int .i64 pn, .string pt] 41) = w8 at HW8 X8 ⊢
          generalize w7.heap.size = D3 at X8 NB ⊢
          refine (TKB.out w8 HW8.out.rb HW8.out.below).mono ?_
          rintro e1 w9 ⟨rfl, hg9, hr9⟩
          have HW9 := Lib.hid (HW8.out.takeB FAR.out hg9 hr9)
          have X9 := Lib.hid (X8.out.grown hg9 NB.out)
          clear hg9 hr9 X8
          unfold C.val
          dsimp only
          obtain ⟨x0, x1, x2⟩ := X9.out.1
          have hx9 := X9.out.2
          go_wp2_with fail
          have HW10 := Lib.hid (HW9.out.next FAR.out (box_new w9 2 qn qt).2.2.1)
          go_roundw
          case rel => exact ⟨_, _, _, HJ', HW10⟩
          case measure => rw [HW10.out.ra.length, HW10.out.rb.length, HW.out.ra.length, HW.out.rb.length]; exact step_lt HS.out
        · have p1 := HPK.out; have q1 := HQK.out
          rw [g1] at p1; rw [g2] at q1
          subst p1; subst q1
          have em : meetC ⟨1, pn, pt⟩ ⟨0, qn, qt⟩ = ⟨1, pn, pt⟩ := by simp [meetC]
          rw [em] at HJ' HS
          clear em g1 g2 HCS HPK HQK EQ
          go_wp2_with fail
          refine (TKA.out w6 HW6.out.ra HW6.out.below).mono ?_
          rintro e1 w7 ⟨rfl, hg7, hr7⟩
          have HW7 := Lib.hid (HW6.out.takeA FAR.out hg7 hr7)
          clear hg7 hr7
          unfold C.val
          dsimp only
          go_wp2_with fail
          have HW8 := Lib.hid (HW7.out.next FAR.out (box_new w7 1 pn pt).2.2.1)
          have X8 := Lib.hid (BX.new w7 1 pn pt)
          have NB : Hid (some w7.heap.size ≠ some bb) := Lib.hid (fun e => absurd HW7.out.lb (by rw [Option.some.inj e]; exact Nat.lt_irrefl _))
          generalize w7.alloc (.cells #[.int .i64 1, .int .i64 pn, .string pt] 41) = w8 at HW8 X8 ⊢
          generalize w7.heap.size = D3 at X8 NB ⊢
          refine (TKB.out w8 HW8.out.rb HW8.out.below).mono ?_
          rintro e1 w9 ⟨rfl, hg9, hr9⟩
          have HW9 := Lib.hid (HW8.out.takeB FAR.out hg9 hr9)
          have X9 := Lib.hid (X8.out.grown hg9 NB.out)
          clear hg9 hr9 X8
          unfold C.val
          dsimp only
          obtain ⟨x0, x1, x2⟩ := X9.out.1
          have hx9 := X9.out.2
          go_wp2_with fail
          have HW10 := Lib.hid (HW9.out.next FAR.out (box_new w9 0 qn qt).2.2.1)
          generalize w9.alloc (.cells #[.int .i64 0, .int .i64 qn, .string qt] 41) = w10 at HW10 ⊢
          clear x0 x1 x2 hx9
          refine (HJ.out.radd hL HS.out HW10.out.own HW10.out.below.size).mono ?_
          intro e1 w11 hp
          obtain ⟨v', rfl, hw11⟩ := HW10.out.add FAR.out hp
          have HW11 := Lib.hid hw11
          clear hp hw11
          go_wp2_with fail
          go_roundw
          case rel => exact ⟨_, _, _, HJ', HW11⟩
          case measure => rw [HW11.out.ra.length, HW11.out.rb.length, HW.out.ra.length, HW.out.rb.length]; exact step_lt HS.out
        · have p1 := HPK.out
          rw [g1] at p1
          subst p1
          have em := EQ.out g1
          rw [em] at HJ' HS
          clear em g1 HCS HPK HQK EQ
          go_wp2_with fail
          refine (TKA.out w6 HW6.out.ra HW6.out.below).mono ?_
          rintro e1 w7 ⟨rfl, hg7, hr7⟩
          have HW7 := Lib.hid (HW6.out.takeA FAR.out hg7 hr7)
          clear hg7 hr7
          unfold C.val
          dsimp only
          go_wp2_with fail
          have HW8 := Lib.hid (HW7.out.next FAR.out (box_new w7 0 pn pt).2.2.1)
          have X8 := Lib.hid (BX.new w7 0 pn pt)
          have NB : Hid (some w7.heap.size ≠ some bb) := Lib.hid (fun e => absurd HW7.out.lb (by rw [Option.some.inj e]; exact Nat.lt_irrefl _))
          generalize w7.alloc (.cells #[.int .i64 0, .int .i64 pn, .string pt] 41) = w8 at HW8 X8 ⊢
          generalize w7.heap.size = D3 at X8 NB ⊢
          refine (TKB.out w8 HW8.out.rb HW8.out.below).mono ?_
          rintro e1 w9 ⟨rfl, hg9, hr9⟩
          have HW9 := Lib.hid (HW8.out.takeB FAR.out hg9 hr9)
          have X9 := Lib.hid (X8.out.grown hg9 NB.out)
          clear hg9 hr9 X8
          unfold C.val
          dsimp only
          obtain ⟨x0, x1, x2⟩ := X9.out.1
          have hx9 := X9.out.2
          go_wp2_with fail
          have HW10 := Lib.hid (HW9.out.next FAR.out (box_new w9 qk qn qt).2.2.1)
          generalize w9.alloc (.cells #[.int .i64 qk, .int .i64 qn, .string qt] 41) = w10 at HW10 ⊢
          clear x0 x1 x2 hx9
          refine (HJ.out.radd hL HS.out HW10.out.own HW10.out.below.size).mono ?_
          intro e1 w11 hp
          obtain ⟨v', rfl, hw11⟩ := HW10.out.add FAR.out hp
          have HW11 := Lib.hid hw11
          clear hp hw11
          go_wp2_with fail
          go_roundw
          case rel => exact ⟨_, _, _, HJ', HW11⟩
          case measure => rw [HW11.out.ra.length, HW11.out.rb.length, HW.out.ra.length, HW.out.rb.length]; exact step_lt HS.out

theorem rcompose_any (p q : Option Addr) (a b : List C) (cap cap2 : Nat) (w : World) (ra : RowC w p a) (rb : RowC w q b) : Calls Try.prog 24 #[.slice p a.length cap, .slice q b.length cap2] w (ComPost a b w) := by
  by_cases h : MayP a ∧ MayP b ∧ sumOf toC a = sumOf fromC b
  · exact rcompose_yes p q a b cap cap2 w ra rb h.1 h.2.1 h.2.2
  · exact rcompose_no p q a b cap cap2 w ra rb h

end Go.Proofs.Ytkknkannjoijbaa
