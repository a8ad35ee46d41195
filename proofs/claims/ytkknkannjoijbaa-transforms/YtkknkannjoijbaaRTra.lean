/-
  The walks of the reference's whole and Transform. Conditions: as the theorems' premises say.
-/
import Derived.Test.YtkknkannjoijbaaTra3
import Derived.Test.YtkknkannjoijbaaRCom
namespace Go.Proofs.Ytkknkannjoijbaa
open Go.RowKit

set_option maxHeartbeats 1000000 in
theorem whole_any (p q : Option Addr) (P Q : List C) (cap cap2 : Nat) (w : World) (rp : RowC w p P) (rq : RowC w q Q) : Calls Try.prog 31 #[.slice p P.length cap, .slice q Q.length cap2] w fun e w' => Below w.heap.size w w' ∧ ((MayP P ∧ MayP Q ∧ e = .returned (.tuple #[.slice p P.length cap, .slice q Q.length cap2, .int .i64 0])) ∨ (¬ (MayP P ∧ MayP Q) ∧ e = .returned (.tuple #[.slice none 0 0, .slice none 0 0, .int .i64 500]))) := by
  have RP := Lib.hid rp; have RQ := Lib.hid rq
  clear rp rq
  go_enter Try.func31, Try.ntmps31
  go_wp2_with fail
  refine (rcmay_any _ _ _ _ RP.out).mono ?_
  rintro e w1 ⟨hb1, ⟨rfl, hm⟩ | ⟨rfl, hm⟩⟩
  · have B1 := Lib.hid hb1; have M1 := Lib.hid hm; clear hb1 hm
    go_wp2_with fail
    refine (rcmay_any _ _ _ _ (RQ.out.below B1.out)).mono ?_
    rintro e w2 ⟨hb2, ⟨rfl, hm⟩ | ⟨rfl, hm⟩⟩
    · go_wp2_with fail
      go_ret3
      exact ⟨B1.out.trans (hb2.mono B1.out.size), .inl ⟨M1.out, hm, rfl⟩⟩
    · go_wp2_with fail
      go_ret3
      exact ⟨B1.out.trans (hb2.mono B1.out.size), .inr ⟨fun h => hm h.2, rfl⟩⟩
  · go_wp2_with fail
    go_ret3
    exact ⟨hb1, .inr ⟨fun h => hm h.1, rfl⟩⟩

theorem TI.raddP {f : Bool} {JP JQ P Q X Y X' Y' : List C} {L : Nat} {p q : C} (h : TI f JP JQ P Q X Y L) (hL : L ≤ 8192) (hs : stepT f X Y = some (p, q, X', Y')) {R : World → Nat → List C → Prop} {w0 w : World} {ba bb : Nat} {v u : Value} {Q2 A B : List C} (hw : TW R w0 w ba bb v u P Q2 A B) : Calls Try.prog 33 #[v, p.val] w (AddPost w0.heap.size v (addC P p) w) :=
  radd_any w0.heap.size p (h.piece hs).1.1 (h.piece hs).1.2 P (by have := h.lenP; omega) h.fits.1 v w hw.one.own hw.one.below.size
theorem TI.raddQ {f : Bool} {JP JQ P Q X Y X' Y' : List C} {L : Nat} {p q : C} (h : TI f JP JQ P Q X Y L) (hL : L ≤ 8192) (hs : stepT f X Y = some (p, q, X', Y')) {R : World → Nat → List C → Prop} {w0 w : World} {ba bb : Nat} {v u : Value} {P2 A B : List C} (hw : TW R w0 w ba bb v u P2 Q A B) : Calls Try.prog 33 #[u, q.val] w (AddPost w0.heap.size u (addC Q q) w) :=
  radd_any w0.heap.size q (h.piece hs).2.1 (h.piece hs).2.2 Q (by have := h.lenQ; omega) h.fits.2 u w hw.two.own hw.two.below.size
theorem TI.szA {f : Bool} {JP JQ P Q X Y : List C} {L : Nat} {p : C} (h : TI f JP JQ P Q (p :: X) Y L) (hk : p.k = 1) : p.sz ≤ 4096 := by
  have h1 := h.fromQ
  have f5 := sumOf_nonneg (f := fromC) (cs := Q) fun c hc => from_nonneg (h.softQ c hc)
  have f6 := sumOf_nonneg (f := toC) (cs := X) fun c hc => to_nonneg (h.gx.tail c hc).1
  have : toC p = p.sz := by unfold toC; rw [if_neg (by omega)]
  simp only [sumOf] at h1; omega
theorem TI.szB {f : Bool} {JP JQ P Q X Y : List C} {L : Nat} {q : C} (h : TI f JP JQ P Q X (q :: Y) L) (hk : q.k = 1) : q.sz ≤ 4096 := by
  have h1 := h.fromP
  have f5 := sumOf_nonneg (f := fromC) (cs := P) fun c hc => from_nonneg (h.softP c hc)
  have f6 := sumOf_nonneg (f := toC) (cs := Y) fun c hc => to_nonneg (h.gy.tail c hc).1
  have : toC q = q.sz := by unfold toC; rw [if_neg (by omega)]
  simp only [sumOf] at h1; omega
theorem put_form {p : C} (h : p.Soft) (hk : p.k = 1) : ∃ t, p = ⟨1, 0, t⟩ := by
  rcases soft_form h with ⟨m, hm, rfl⟩ | ⟨m, hm, rfl⟩ | ⟨t, rfl⟩
  · cases hk
  · cases hk
  · exact ⟨t, rfl⟩
theorem kpC_put (t : ByteArray) : kpC ⟨1, 0, t⟩ = ⟨0, t.size, e0⟩ := by simp [kpC, C.sz]
theorem Bw.take {w w' : World} {v u : Value} {D bb : Nat} {c : C} (h : Bw w v u D c) (hg : w.grownBy w' (some bb)) (hn : bb ≠ D) : Bw w' v u D c :=
  ⟨h.1.grown hg (fun g e => by cases e; exact hn), Nat.lt_of_lt_of_le h.2.1 hg.size, h.2.2⟩

set_option maxHeartbeats 1000000 in
theorem rtransform_no (p q : Option Addr) (a b : List C) (f : Bool) (cap cap2 : Nat) (w : World) (ra : RowC w p a) (rb : RowC w q b) (hn : ¬ (MayP a ∧ MayP b ∧ sumOf fromC a = sumOf fromC b)) : Calls Try.prog 12 #[.slice p a.length cap, .slice q b.length cap2, .bool f] w (TraPost f a b w) := by
  have RA := Lib.hid ra; have RB := Lib.hid rb
  have NO : Hid (¬ TraP f a b) := Lib.hid (fun h => hn ⟨h.1, h.2.1, h.2.2.1⟩)
  clear ra rb
  by_cases ha : MayP a
  · by_cases hb : MayP b
    · have hne : (sumOf fromC a != sumOf fromC b) = true := by rw [bne_iff_ne]; exact fun h => hn ⟨ha, hb, h⟩
      have HA := Lib.hid ha; have HB := Lib.hid hb
      clear hn ha hb
      go_enter Try.func12, Try.ntmps12
      go_wp2_with fail
      refine (rlengths_any _ _ _ _ RA.out).mono ?_
      rintro e w1 ⟨hb1, ⟨rfl, -⟩ | ⟨-, hno⟩⟩
      rotate_left
      · exact absurd HA.out hno
      have B1 := Lib.hid hb1; clear hb1
      generalize sumOf toC a = A1
      generalize sumOf fromC a = A2 at *
      go_wp2_with fail
      refine (rlengths_any _ _ _ _ (RB.out.below B1.out)).mono ?_
      rintro e w2 ⟨hb2, ⟨rfl, -⟩ | ⟨-, hno⟩⟩
      rotate_left
      · exact absurd HB.out hno
      have B2 := Lib.hid (B1.out.trans (hb2.mono B1.out.size)); clear hb2
      generalize sumOf fromC b = A3 at *
      generalize sumOf toC b = A4
      go_wp2_with fail
      go_ret3
      exact ⟨B2.out, .inr ⟨NO.out, rfl⟩⟩
    · have HA := Lib.hid ha; have HB := Lib.hid hb
      clear hn ha hb
      go_enter Try.func12, Try.ntmps12
      go_wp2_with fail
      refine (rlengths_any _ _ _ _ RA.out).mono ?_
      rintro e w1 ⟨hb1, ⟨rfl, -⟩ | ⟨-, hno⟩⟩
      rotate_left
      · exact absurd HA.out hno
      have B1 := Lib.hid hb1; clear hb1
      generalize sumOf toC a = A1
      generalize sumOf fromC a = A2 at *
      go_wp2_with fail
      refine (rlengths_any _ _ _ _ (RB.out.below B1.out)).mono ?_
      rintro e w2 ⟨hb2, ⟨-, hyes⟩ | ⟨rfl, -⟩⟩
      · exact absurd hyes HB.out
      have B2 := Lib.hid (B1.out.trans (hb2.mono B1.out.size)); clear hb2
      go_wp2_with fail
      go_ret3
      exact ⟨B2.out, .inr ⟨NO.out, rfl⟩⟩
  · have HA := Lib.hid ha
    clear hn ha
    go_enter Try.func12, Try.ntmps12
    go_wp2_with fail
    refine (rlengths_any _ _ _ _ RA.out).mono ?_
    rintro e w1 ⟨hb1, ⟨-, hyes⟩ | ⟨rfl, -⟩⟩
    · exact absurd hyes HA.out
    have B1 := Lib.hid hb1; clear hb1
    go_wp2_with fail
    refine (rlengths_any _ _ _ _ (RB.out.below B1.out)).mono ?_
    rintro e w2 ⟨hb2, ⟨rfl, -⟩ | ⟨rfl, -⟩⟩
    · have B2 := Lib.hid (B1.out.trans (hb2.mono B1.out.size)); clear hb2
      generalize sumOf fromC b = A3 at *
      generalize sumOf toC b = A4
      go_wp2_with fail
      go_ret3
      exact ⟨B2.out, .inr ⟨NO.out, rfl⟩⟩
    · have B2 := Lib.hid (B1.out.trans (hb2.mono B1.out.size)); clear hb2
      go_wp2_with fail
      go_ret3
      exact ⟨B2.out, .inr ⟨NO.out, rfl⟩⟩

set_option maxRecDepth 100000 in
set_option maxHeartbeats 8000000 in
theorem rtransform_yes (p q : Option Addr) (a b : List C) (f : Bool) (cap cap2 : Nat) (w : World) (ra : RowC w p a) (rb : RowC w q b) (ha : MayP a) (hb : MayP b) (heq : sumOf fromC a = sumOf fromC b) : Calls Try.prog 12 #[.slice p a.length cap, .slice q b.length cap2, .bool f] w (TraPost f a b w) := by
  have RA := Lib.hid ra; have RB := Lib.hid rb
  have HA := Lib.hid ha; have HB := Lib.hid hb; have HE := Lib.hid heq
  have JI0 := Lib.hid (TI.start f ha hb heq)
  have hla : a.length ≤ 4096 := (okB_iff.1 ha.1).1
  have hlb : b.length ≤ 4096 := (okB_iff.1 hb.1).1
  have FAR := Lib.hid (rrd_far w)
  clear ra rb ha hb heq
  go_enter Try.func12, Try.ntmps12
  go_wp2_with fail
  refine (rlengths_any _ _ _ _ RA.out).mono ?_
  rintro e w1 ⟨hb1, ⟨rfl, -⟩ | ⟨-, hno⟩⟩
  rotate_left
  · exact absurd HA.out hno
  have B1 := Lib.hid hb1; clear hb1
  rw [HE.out]
  generalize sumOf toC a = A1
  go_wp2_with fail
  refine (rlengths_any _ _ _ _ (RB.out.below B1.out)).mono ?_
  rintro e w2 ⟨hb2, ⟨rfl, -⟩ | ⟨-, hno⟩⟩
  rotate_left
  · exact absurd HB.out hno
  have B2 := Lib.hid (B1.out.trans (hb2.mono B1.out.size)); clear hb2
  generalize sumOf fromC b = A3
  generalize sumOf toC b = A4
  go_wp2_with fail
  have S0 : Hid (JW (RRd w) w ((w2.alloc (.cells #[.slice p a.length cap, .int .i64 0, .int .i64 0] 62)).alloc (.cells #[.slice q b.length cap2, .int .i64 0, .int .i64 0] 62)) w2.heap.size (w2.heap.size + 1) (.slice none 0 0) [] a b) := Lib.hid (rcom_start p q a b cap cap2 w w2 RA.out RB.out HA.out HB.out B2.out)
  generalize (w2.alloc (.cells #[.slice p a.length cap, .int .i64 0, .int .i64 0] 62)).alloc (.cells #[.slice q b.length cap2, .int .i64 0, .int .i64 0] 62) = W0 at S0 ⊢
  generalize hb1 : w2.heap.size + 1 = bb at S0 ⊢
  generalize hb2 : w2.heap.size = ba at S0 ⊢
  clear hb1 hb2 B1 B2
  generalize hN : normOf (traP f a b) = N at JI0
  generalize hM : normOf (traQ f a b) = M at JI0
  have HN := Lib.hid hN; have HM := Lib.hid hM; clear hN hM
  generalize hLL : a.length + b.length = L at JI0
  have hL : L ≤ 8192 := by omega
  clear hLL
  go_loopw [17, 18] (fun v u wr => ∃ P Q X Y : List C, Hid (TI f N M P Q X Y L) ∧ Hid (TW (RRd w) w wr ba bb v u P Q X Y)) (fun _ _ wr => rrLen wr ba + rrLen wr bb)
  case atStart => exact ⟨[], [], a, b, JI0, Lib.hid ⟨S0.out, S0.out, fun g h => by simp [Value.ownBlock] at h⟩⟩
  case round =>
    clear JI0 S0
    obtain ⟨P, Q, X, Y, HJ, HW⟩ := hrel
    by_cases hne : X = [] ∧ Y = []
    · obtain ⟨rfl, rfl⟩ := hne
      have HD := Lib.hid HJ.out.done
      go_wp2_with fail
      refine (rrd_peek_no HW.out.one.ra).mono ?_
      rintro e1 w1 ⟨rfl, hb1⟩
      have HW1 := Lib.hid (HW.out.next FAR.out hb1); clear hb1
      unfold C.val
      dsimp only [e0]
      go_wp2_with fail
      have HW2 := Lib.hid (HW1.out.next FAR.out (box_new w1 0 0 ⟨#[]⟩).2.2.1)
      have X1 := Lib.hid (BX.new w1 0 0 ⟨#[]⟩)
      generalize w1.alloc (.cells #[.int .i64 0, .int .i64 0, .string ⟨#[]⟩] 41) = w2 at HW2 X1 ⊢
      generalize w1.heap.size = D1 at X1 ⊢
      refine (rrd_peek_no HW2.out.one.rb).mono ?_
      rintro e1 w3 ⟨rfl, hb3⟩
      have HW3 := Lib.hid (HW2.out.next FAR.out hb3)
      have X3 := Lib.hid (X1.out.below hb3)
      clear hb3 X1 HW1 HW2
      unfold C.val
      dsimp only [e0]
      obtain ⟨x0, x1, x2⟩ := X3.out.1
      dsimp only [e0] at x0 x1 x2
      have hx3 := X3.out.2
      go_wp2_with fail
      have HW4 := Lib.hid (HW3.out.next FAR.out (box_new w3 0 0 ⟨#[]⟩).2.2.1)
      have X4 := Lib.hid (X3.out.below (box_new w3 0 0 ⟨#[]⟩).2.2.1)
      have Y4 := Lib.hid (BX.new w3 0 0 ⟨#[]⟩)
      generalize w3.alloc (.cells #[.int .i64 0, .int .i64 0, .string ⟨#[]⟩] 41) = w4 at HW4 X4 Y4 ⊢
      generalize w3.heap.size = D2 at Y4 ⊢
      clear x0 x1 x2 hx3 X3 HW3
      obtain ⟨p4, c4, hv4⟩ := HW4.out.one.own.form
      subst hv4
      obtain ⟨p5, c5, hv5⟩ := HW4.out.two.own.form
      subst hv5
      clear X4 Y4
      refine (whole_any _ _ P Q _ _ _ HW4.out.one.own.row HW4.out.two.own.row).mono ?_
      rintro e1 w5 ⟨hb5, ⟨m1, m2, rfl⟩ | ⟨hm, rfl⟩⟩
      · go_wp2_with fail
        go_ret3
        exact ⟨HW4.out.one.below.trans (hb5.mono HW4.out.one.below.size), .inl ⟨⟨HA.out, HB.out, HE.out, by rw [HN.out, ← HD.out.1]; exact m1, by rw [HM.out, ← HD.out.2]; exact m2⟩, _, _, rfl, by rw [HN.out, ← HD.out.1]; exact HW4.out.one.own.below hb5, by rw [HM.out, ← HD.out.2]; exact HW4.out.two.own.below hb5, HW4.out.apart⟩⟩
      · go_wp2_with fail
        go_ret3
        exact ⟨HW4.out.one.below.trans (hb5.mono HW4.out.one.below.size), .inr ⟨fun h => hm ⟨by rw [HD.out.1, ← HN.out]; exact h.2.2.2.1, by rw [HD.out.2, ← HM.out]; exact h.2.2.2.2⟩, rfl⟩⟩
    · obtain ⟨p1, q1, X', Y', hs⟩ := HJ.out.empty hne
      have HS := Lib.hid hs
      have HJ' := Lib.hid (HJ.out.step hs)
      rcases stepT_cases hs with ⟨rfl, hk, rfl, rfl, hf⟩ | ⟨rfl, hk, rfl, rfl, hf⟩ | ⟨c, cs, d, ds, rfl, rfl, kc, kd, rfl, rfl, rfl, rfl⟩
      · clear hs hne
        have hz := HJ.out.gx.head
        have hz4 := HJ.out.szA hk
        obtain ⟨et, rfl⟩ := put_form hz.1 hk
        rw [kpC_put] at HS HJ'
        clear hk
        cases f with
        | true =>
          clear hf
          cases Y' with
          | nil =>
            go_wp2_with fail
            refine (rrd_peek_yes HW.out.one.ra HW.out.one.below).mono ?_
            rintro e1 w1 ⟨rfl, hb1⟩
            have HW1 := Lib.hid (HW.out.next FAR.out hb1); clear hb1
            unfold C.val
            dsimp only
            go_wp2_with fail
            have HW2 := Lib.hid (HW1.out.next FAR.out (box_new w1 1 0 et).2.2.1)
            have X1 := Lib.hid (BX.new w1 1 0 et)
            generalize w1.alloc (.cells #[.int .i64 1, .int .i64 0, .string et] 41) = w2 at HW2 X1 ⊢
            generalize w1.heap.size = D1 at X1 ⊢
            refine (rrd_peek_no HW2.out.one.rb).mono ?_
            rintro e1 w3 ⟨rfl, hb3⟩
            have HW3 := Lib.hid (HW2.out.next FAR.out hb3)
            have X3 := Lib.hid (X1.out.below hb3)
            clear hb3 X1 HW1 HW2
            unfold C.val
            dsimp only [e0]
            obtain ⟨x0, x1, x2⟩ := X3.out.1
            have hx3 := X3.out.2
            go_wp2_with fail
            have HW4 := Lib.hid (HW3.out.next FAR.out (box_new w3 0 0 ⟨#[]⟩).2.2.1)
            have X4 := Lib.hid (X3.out.below (box_new w3 0 0 ⟨#[]⟩).2.2.1)
            have Y4 := Lib.hid (BX.new w3 0 0 ⟨#[]⟩)
            generalize w3.alloc (.cells #[.int .i64 0, .int .i64 0, .string ⟨#[]⟩] 41) = w4 at HW4 X4 Y4 ⊢
            generalize w3.heap.size = D2 at Y4 ⊢
            clear x0 x1 x2 hx3 X3 HW3
            clear X4 Y4
            refine (rrd_take_all HW4.out.one.ra HW4.out.one.below hz 4096 hz4).mono ?_
            rintro e1 w5 ⟨rfl, hg5, hr5⟩
            have HW5 := Lib.hid (HW4.out.takeA FAR.out hg5 hr5)
            clear hg5 hr5 HW4
            unfold C.val
            dsimp only
            go_wp2_with fail
            have HW6 := Lib.hid (HW5.out.next FAR.out (box_new w5 1 0 et).2.2.1)
            have Z6 := Lib.hid (Bw.new HW5.out 1 0 et)
            generalize w5.alloc (.cells #[.int .i64 1, .int .i64 0, .string et] 41) = w6 at HW6 Z6 ⊢
            generalize w5.heap.size = D3 at Z6 ⊢
            clear HW5
            refine (HJ.out.raddP hL HS.out HW6.out).mono ?_
            intro e1 w7 hp
            have hz7 := (Z6.out.add hp).2.2.2
            obtain ⟨v', rfl, hw7⟩ := HW6.out.add FAR.out hp
            have HW7 := Lib.hid hw7
            have Z7 := Lib.hid (hz7 v' rfl)
            clear hp hw7 hz7 HW6 Z6
            obtain ⟨x0, x1, x2⟩ := Z7.out.1
            dsimp only at x0 x1 x2
            go_wp2_with fail
            refine (HJ.out.raddQ hL HS.out HW7.out).mono ?_
            intro e1 w8 hp
            obtain ⟨u', rfl, hw8⟩ := HW7.out.add2 FAR.out hp
            have HW8 := Lib.hid hw8
            clear hp hw8 x0 x1 x2 Z7 HW7
            go_wp2_with fail
            go_roundw
            case rel => exact ⟨_, _, _, _, HJ', HW8⟩
            case measure => rw [HW8.out.one.ra.length, HW8.out.one.rb.length, HW.out.one.ra.length, HW.out.one.rb.length]; exact stepT_lt HS.out
          | cons d ds =>
            obtain ⟨dk, dn, dt⟩ := d
            go_wp2_with fail
            refine (rrd_peek_yes HW.out.one.ra HW.out.one.below).mono ?_
            rintro e1 w1 ⟨rfl, hb1⟩
            have HW1 := Lib.hid (HW.out.next FAR.out hb1); clear hb1
            unfold C.val
            dsimp only
            go_wp2_with fail
            have HW2 := Lib.hid (HW1.out.next FAR.out (box_new w1 1 0 et).2.2.1)
            have X1 := Lib.hid (BX.new w1 1 0 et)
            generalize w1.alloc (.cells #[.int .i64 1, .int .i64 0, .string et] 41) = w2 at HW2 X1 ⊢
            generalize w1.heap.size = D1 at X1 ⊢
            refine (rrd_peek_yes HW2.out.one.rb HW2.out.one.below).mono ?_
            rintro e1 w3 ⟨rfl, hb3⟩
            have HW3 := Lib.hid (HW2.out.next FAR.out hb3)
            have X3 := Lib.hid (X1.out.below hb3)
            clear hb3 X1 HW1 HW2
            unfold C.val
            dsimp only
            obtain ⟨x0, x1, x2⟩ := X3.out.1
            have hx3 := X3.out.2
            go_wp2_with fail
            have HW4 := Lib.hid (HW3.out.next FAR.out (box_new w3 dk dn dt).2.2.1)
            have X4 := Lib.hid (X3.out.below (box_new w3 dk dn dt).2.2.1)
            have Y4 := Lib.hid (BX.new w3 dk dn dt)
            generalize w3.alloc (.cells #[.int .i64 dk, .int .i64 dn, .string dt] 41) = w4 at HW4 X4 Y4 ⊢
            generalize w3.heap.size = D2 at Y4 ⊢
            clear x0 x1 x2 hx3 X3 HW3
            clear X4 Y4
            refine (rrd_take_all HW4.out.one.ra HW4.out.one.below hz 4096 hz4).mono ?_
            rintro e1 w5 ⟨rfl, hg5, hr5⟩
            have HW5 := Lib.hid (HW4.out.takeA FAR.out hg5 hr5)
            clear hg5 hr5 HW4
            unfold C.val
            dsimp only
            go_wp2_with fail
            have HW6 := Lib.hid (HW5.out.next FAR.out (box_new w5 1 0 et).2.2.1)
            have Z6 := Lib.hid (Bw.new HW5.out 1 0 et)
            generalize w5.alloc (.cells #[.int .i64 1, .int .i64 0, .string et] 41) = w6 at HW6 Z6 ⊢
            generalize w5.heap.size = D3 at Z6 ⊢
            clear HW5
            refine (HJ.out.raddP hL HS.out HW6.out).mono ?_
            intro e1 w7 hp
            have hz7 := (Z6.out.add hp).2.2.2
            obtain ⟨v', rfl, hw7⟩ := HW6.out.add FAR.out hp
            have HW7 := Lib.hid hw7
            have Z7 := Lib.hid (hz7 v' rfl)
            clear hp hw7 hz7 HW6 Z6
            obtain ⟨x0, x1, x2⟩ := Z7.out.1
            dsimp only at x0 x1 x2
            go_wp2_with fail
            refine (HJ.out.raddQ hL HS.out HW7.out).mono ?_
            intro e1 w8 hp
            obtain ⟨u', rfl, hw8⟩ := HW7.out.add2 FAR.out hp
            have HW8 := Lib.hid hw8
            clear hp hw8 x0 x1 x2 Z7 HW7
            go_wp2_with fail
            go_roundw
            case rel => exact ⟨_, _, _, _, HJ', HW8⟩
            case measure => rw [HW8.out.one.ra.length, HW8.out.one.rb.length, HW.out.one.ra.length, HW.out.one.rb.length]; exact stepT_lt HS.out
        | false =>
          cases Y' with
          | nil =>
            clear hf
            go_wp2_with fail
            refine (rrd_peek_yes HW.out.one.ra HW.out.one.below).mono ?_
            rintro e1 w1 ⟨rfl, hb1⟩
            have HW1 := Lib.hid (HW.out.next FAR.out hb1); clear hb1
            unfold C.val
            dsimp only
            go_wp2_with fail
            have HW2 := Lib.hid (HW1.out.next FAR.out (box_new w1 1 0 et).2.2.1)
            have X1 := Lib.hid (BX.new w1 1 0 et)
            generalize w1.alloc (.cells #[.int .i64 1, .int .i64 0, .string et] 41) = w2 at HW2 X1 ⊢
            generalize w1.heap.size = D1 at X1 ⊢
            refine (rrd_peek_no HW2.out.one.rb).mono ?_
            rintro e1 w3 ⟨rfl, hb3⟩
            have HW3 := Lib.hid (HW2.out.next FAR.out hb3)
            have X3 := Lib.hid (X1.out.below hb3)
            clear hb3 X1 HW1 HW2
            unfold C.val
            dsimp only [e0]
            obtain ⟨x0, x1, x2⟩ := X3.out.1
            have hx3 := X3.out.2
            go_wp2_with fail
            have HW4 := Lib.hid (HW3.out.next FAR.out (box_new w3 0 0 ⟨#[]⟩).2.2.1)
            have X4 := Lib.hid (X3.out.below (box_new w3 0 0 ⟨#[]⟩).2.2.1)
            have Y4 := Lib.hid (BX.new w3 0 0 ⟨#[]⟩)
            generalize w3.alloc (.cells #[.int .i64 0, .int .i64 0, .string ⟨#[]⟩] 41) = w4 at HW4 X4 Y4 ⊢
            generalize w3.heap.size = D2 at Y4 ⊢
            clear x0 x1 x2 hx3 X3 HW3
            clear X4 Y4
            refine (rrd_take_all HW4.out.one.ra HW4.out.one.below hz 4096 hz4).mono ?_
            rintro e1 w5 ⟨rfl, hg5, hr5⟩
            have HW5 := Lib.hid (HW4.out.takeA FAR.out hg5 hr5)
            clear hg5 hr5 HW4
            unfold C.val
            dsimp only
            go_wp2_with fail
            have HW6 := Lib.hid (HW5.out.next FAR.out (box_new w5 1 0 et).2.2.1)
            have Z6 := Lib.hid (Bw.new HW5.out 1 0 et)
            generalize w5.alloc (.cells #[.int .i64 1, .int .i64 0, .string et] 41) = w6 at HW6 Z6 ⊢
            generalize w5.heap.size = D3 at Z6 ⊢
            clear HW5
            refine (HJ.out.raddP hL HS.out HW6.out).mono ?_
            intro e1 w7 hp
            have hz7 := (Z6.out.add hp).2.2.2
            obtain ⟨v', rfl, hw7⟩ := HW6.out.add FAR.out hp
            have HW7 := Lib.hid hw7
            have Z7 := Lib.hid (hz7 v' rfl)
            clear hp hw7 hz7 HW6 Z6
            obtain ⟨x0, x1, x2⟩ := Z7.out.1
            dsimp only at x0 x1 x2
            go_wp2_with fail
            refine (HJ.out.raddQ hL HS.out HW7.out).mono ?_
            intro e1 w8 hp
            obtain ⟨u', rfl, hw8⟩ := HW7.out.add2 FAR.out hp
            have HW8 := Lib.hid hw8
            clear hp hw8 x0 x1 x2 Z7 HW7
            go_wp2_with fail
            go_roundw
            case rel => exact ⟨_, _, _, _, HJ', HW8⟩
            case measure => rw [HW8.out.one.ra.length, HW8.out.one.rb.length, HW.out.one.ra.length, HW.out.one.rb.length]; exact stepT_lt HS.out
          | cons d ds =>
            have hkd : (d.k == 1) = false := beq_eq_false_iff_ne.2 (hf.elim (fun h => by cases h) fun h => h d ds rfl)
            clear hf
            obtain ⟨dk, dn, dt⟩ := d
            dsimp only at hkd
            go_wp2_with fail
            refine (rrd_peek_yes HW.out.one.ra HW.out.one.below).mono ?_
            rintro e1 w1 ⟨rfl, hb1⟩
            have HW1 := Lib.hid (HW.out.next FAR.out hb1); clear hb1
            unfold C.val
            dsimp only
            go_wp2_with fail
            have HW2 := Lib.hid (HW1.out.next FAR.out (box_new w1 1 0 et).2.2.1)
            have X1 := Lib.hid (BX.new w1 1 0 et)
            generalize w1.alloc (.cells #[.int .i64 1, .int .i64 0, .string et] 41) = w2 at HW2 X1 ⊢
            generalize w1.heap.size = D1 at X1 ⊢
            refine (rrd_peek_yes HW2.out.one.rb HW2.out.one.below).mono ?_
            rintro e1 w3 ⟨rfl, hb3⟩
            have HW3 := Lib.hid (HW2.out.next FAR.out hb3)
            have X3 := Lib.hid (X1.out.below hb3)
            clear hb3 X1 HW1 HW2
            unfold C.val
            dsimp only
            obtain ⟨x0, x1, x2⟩ := X3.out.1
            have hx3 := X3.out.2
            go_wp2_with fail
            have HW4 := Lib.hid (HW3.out.next FAR.out (box_new w3 dk dn dt).2.2.1)
            have X4 := Lib.hid (X3.out.below (box_new w3 dk dn dt).2.2.1)
            have Y4 := Lib.hid (BX.new w3 dk dn dt)
            generalize w3.alloc (.cells #[.int .i64 dk, .int .i64 dn, .string dt] 41) = w4 at HW4 X4 Y4 ⊢
            generalize w3.heap.size = D2 at Y4 ⊢
            clear x0 x1 x2 hx3 X3 HW3
            clear X4 Y4
            refine (rrd_take_all HW4.out.one.ra HW4.out.one.below hz 4096 hz4).mono ?_
            rintro e1 w5 ⟨rfl, hg5, hr5⟩
            have HW5 := Lib.hid (HW4.out.takeA FAR.out hg5 hr5)
            clear hg5 hr5 HW4
            unfold C.val
            dsimp only
            go_wp2_with fail
            have HW6 := Lib.hid (HW5.out.next FAR.out (box_new w5 1 0 et).2.2.1)
            have Z6 := Lib.hid (Bw.new HW5.out 1 0 et)
            generalize w5.alloc (.cells #[.int .i64 1, .int .i64 0, .string et] 41) = w6 at HW6 Z6 ⊢
            generalize w5.heap.size = D3 at Z6 ⊢
            clear HW5
            refine (HJ.out.raddP hL HS.out HW6.out).mono ?_
            intro e1 w7 hp
            have hz7 := (Z6.out.add hp).2.2.2
            obtain ⟨v', rfl, hw7⟩ := HW6.out.add FAR.out hp
            have HW7 := Lib.hid hw7
            have Z7 := Lib.hid (hz7 v' rfl)
            clear hp hw7 hz7 HW6 Z6
            obtain ⟨x0, x1, x2⟩ := Z7.out.1
            dsimp only at x0 x1 x2
            go_wp2_with fail
            refine (HJ.out.raddQ hL HS.out HW7.out).mono ?_
            intro e1 w8 hp
            obtain ⟨u', rfl, hw8⟩ := HW7.out.add2 FAR.out hp
            have HW8 := Lib.hid hw8
            clear hp hw8 x0 x1 x2 Z7 HW7
            go_wp2_with fail
            go_roundw
            case rel => exact ⟨_, _, _, _, HJ', HW8⟩
            case measure => rw [HW8.out.one.ra.length, HW8.out.one.rb.length, HW.out.one.ra.length, HW.out.one.rb.length]; exact stepT_lt HS.out
      · clear hs hne
        have hz := HJ.out.gy.head
        have hz4 := HJ.out.szB hk
        obtain ⟨et, rfl⟩ := put_form hz.1 hk
        rw [kpC_put] at HS HJ'
        clear hk
        cases X' with
        | nil =>
          clear hf
          go_wp2_with fail
          refine (rrd_peek_no HW.out.one.ra).mono ?_
          rintro e1 w1 ⟨rfl, hb1⟩
          have HW1 := Lib.hid (HW.out.next FAR.out hb1); clear hb1
          unfold C.val
          dsimp only [e0]
          go_wp2_with fail
          have HW2 := Lib.hid (HW1.out.next FAR.out (box_new w1 0 0 ⟨#[]⟩).2.2.1)
          have X1 := Lib.hid (BX.new w1 0 0 ⟨#[]⟩)
          generalize w1.alloc (.cells #[.int .i64 0, .int .i64 0, .string ⟨#[]⟩] 41) = w2 at HW2 X1 ⊢
          generalize w1.heap.size = D1 at X1 ⊢
          refine (rrd_peek_yes HW2.out.one.rb HW2.out.one.below).mono ?_
          rintro e1 w3 ⟨rfl, hb3⟩
          have HW3 := Lib.hid (HW2.out.next FAR.out hb3)
          have X3 := Lib.hid (X1.out.below hb3)
          clear hb3 X1 HW1 HW2
          unfold C.val
          dsimp only
          obtain ⟨x0, x1, x2⟩ := X3.out.1
          dsimp only [e0] at x0 x1 x2
          have hx3 := X3.out.2
          go_wp2_with fail
          have HW4 := Lib.hid (HW3.out.next FAR.out (box_new w3 1 0 et).2.2.1)
          have X4 := Lib.hid (X3.out.below (box_new w3 1 0 et).2.2.1)
          have Y4 := Lib.hid (BX.new w3 1 0 et)
          generalize w3.alloc (.cells #[.int .i64 1, .int .i64 0, .string et] 41) = w4 at HW4 X4 Y4 ⊢
          generalize w3.heap.size = D2 at Y4 ⊢
          clear x0 x1 x2 hx3 X3 HW3
          clear X4 Y4
          refine (rrd_take_all HW4.out.one.rb HW4.out.one.below hz 4096 hz4).mono ?_
          rintro e1 w5 ⟨rfl, hg5, hr5⟩
          have HW5 := Lib.hid (HW4.out.takeB FAR.out hg5 hr5)
          clear hg5 hr5 HW4
          unfold C.val
          dsimp only
          go_wp2_with fail
          have HW6 := Lib.hid (HW5.out.next FAR.out (box_new w5 1 0 et).2.2.1)
          have Z6 := Lib.hid (Bw.new HW5.out 1 0 et)
          generalize w5.alloc (.cells #[.int .i64 1, .int .i64 0, .string et] 41) = w6 at HW6 Z6 ⊢
          generalize w5.heap.size = D3 at Z6 ⊢
          clear HW5
          refine (HJ.out.raddQ hL HS.out HW6.out).mono ?_
          intro e1 w7 hp
          have hz7 := (Z6.out.swap.add hp).2.2.2
          obtain ⟨v', rfl, hw7⟩ := HW6.out.add2 FAR.out hp
          have HW7 := Lib.hid hw7
          have Z7 := Lib.hid (hz7 v' rfl)
          clear hp hw7 hz7 HW6 Z6
          obtain ⟨x0, x1, x2⟩ := Z7.out.1
          dsimp only at x0 x1 x2
          go_wp2_with fail
          refine (HJ.out.raddP hL HS.out HW7.out).mono ?_
          intro e1 w8 hp
          obtain ⟨u', rfl, hw8⟩ := HW7.out.add FAR.out hp
          have HW8 := Lib.hid hw8
          clear hp hw8 x0 x1 x2 Z7 HW7
          go_wp2_with fail
          go_roundw
          case rel => exact ⟨_, _, _, _, HJ', HW8⟩
          case measure => rw [HW8.out.one.ra.length, HW8.out.one.rb.length, HW.out.one.ra.length, HW.out.one.rb.length]; exact stepT_lt HS.out
        | cons c cs =>
          obtain ⟨ck, cn, ct⟩ := c
          by_cases hc : ck = 1
          · subst hc
            obtain rfl := hf _ _ rfl rfl
            clear hf
            go_wp2_with fail
            refine (rrd_peek_yes HW.out.one.ra HW.out.one.below).mono ?_
            rintro e1 w1 ⟨rfl, hb1⟩
            have HW1 := Lib.hid (HW.out.next FAR.out hb1); clear hb1
            unfold C.val
            dsimp only
            go_wp2_with fail
            have HW2 := Lib.hid (HW1.out.next FAR.out (box_new w1 1 cn ct).2.2.1)
            have X1 := Lib.hid (BX.new w1 1 cn ct)
            generalize w1.alloc (.cells #[.int .i64 1, .int .i64 cn, .string ct] 41) = w2 at HW2 X1 ⊢
            generalize w1.heap.size = D1 at X1 ⊢
            refine (rrd_peek_yes HW2.out.one.rb HW2.out.one.below).mono ?_
            rintro e1 w3 ⟨rfl, hb3⟩
            have HW3 := Lib.hid (HW2.out.next FAR.out hb3)
            have X3 := Lib.hid (X1.out.below hb3)
            clear hb3 X1 HW1 HW2
            unfold C.val
            dsimp only
            obtain ⟨x0, x1, x2⟩ := X3.out.1
            have hx3 := X3.out.2
            go_wp2_with fail
            have HW4 := Lib.hid (HW3.out.next FAR.out (box_new w3 1 0 et).2.2.1)
            have X4 := Lib.hid (X3.out.below (box_new w3 1 0 et).2.2.1)
            have Y4 := Lib.hid (BX.new w3 1 0 et)
            generalize w3.alloc (.cells #[.int .i64 1, .int .i64 0, .string et] 41) = w4 at HW4 X4 Y4 ⊢
            generalize w3.heap.size = D2 at Y4 ⊢
            clear x0 x1 x2 hx3 X3 HW3
            clear X4 Y4
            refine (rrd_take_all HW4.out.one.rb HW4.out.one.below hz 4096 hz4).mono ?_
            rintro e1 w5 ⟨rfl, hg5, hr5⟩
            have HW5 := Lib.hid (HW4.out.takeB FAR.out hg5 hr5)
            clear hg5 hr5 HW4
            unfold C.val
            dsimp only
            go_wp2_with fail
            have HW6 := Lib.hid (HW5.out.next FAR.out (box_new w5 1 0 et).2.2.1)
            have Z6 := Lib.hid (Bw.new HW5.out 1 0 et)
            generalize w5.alloc (.cells #[.int .i64 1, .int .i64 0, .string et] 41) = w6 at HW6 Z6 ⊢
            generalize w5.heap.size = D3 at Z6 ⊢
            clear HW5
            refine (HJ.out.raddQ hL HS.out HW6.out).mono ?_
            intro e1 w7 hp
            have hz7 := (Z6.out.swap.add hp).2.2.2
            obtain ⟨v', rfl, hw7⟩ := HW6.out.add2 FAR.out hp
            have HW7 := Lib.hid hw7
            have Z7 := Lib.hid (hz7 v' rfl)
            clear hp hw7 hz7 HW6 Z6
            obtain ⟨x0, x1, x2⟩ := Z7.out.1
            dsimp only at x0 x1 x2
            go_wp2_with fail
            refine (HJ.out.raddP hL HS.out HW7.out).mono ?_
            intro e1 w8 hp
            obtain ⟨u', rfl, hw8⟩ := HW7.out.add FAR.out hp
            have HW8 := Lib.hid hw8
            clear hp hw8 x0 x1 x2 Z7 HW7
            go_wp2_with fail
            go_roundw
            case rel => exact ⟨_, _, _, _, HJ', HW8⟩
            case measure => rw [HW8.out.one.ra.length, HW8.out.one.rb.length, HW.out.one.ra.length, HW.out.one.rb.length]; exact stepT_lt HS.out
          · clear hf
            have hkc : (ck == 1) = false := beq_eq_false_iff_ne.2 hc
            clear hc
            go_wp2_with fail
            refine (rrd_peek_yes HW.out.one.ra HW.out.one.below).mono ?_
            rintro e1 w1 ⟨rfl, hb1⟩
            have HW1 := Lib.hid (HW.out.next FAR.out hb1); clear hb1
            unfold C.val
            dsimp only
            go_wp2_with fail
            have HW2 := Lib.hid (HW1.out.next FAR.out (box_new w1 ck cn ct).2.2.1)
            have X1 := Lib.hid (BX.new w1 ck cn ct)
            generalize w1.alloc (.cells #[.int .i64 ck, .int .i64 cn, .string ct] 41) = w2 at HW2 X1 ⊢
            generalize w1.heap.size = D1 at X1 ⊢
            refine (rrd_peek_yes HW2.out.one.rb HW2.out.one.below).mono ?_
            rintro e1 w3 ⟨rfl, hb3⟩
            have HW3 := Lib.hid (HW2.out.next FAR.out hb3)
            have X3 := Lib.hid (X1.out.below hb3)
            clear hb3 X1 HW1 HW2
            unfold C.val
            dsimp only
            obtain ⟨x0, x1, x2⟩ := X3.out.1
            have hx3 := X3.out.2
            go_wp2_with fail
            have HW4 := Lib.hid (HW3.out.next FAR.out (box_new w3 1 0 et).2.2.1)
            have X4 := Lib.hid (X3.out.below (box_new w3 1 0 et).2.2.1)
            have Y4 := Lib.hid (BX.new w3 1 0 et)
            generalize w3.alloc (.cells #[.int .i64 1, .int .i64 0, .string et] 41) = w4 at HW4 X4 Y4 ⊢
            generalize w3.heap.size = D2 at Y4 ⊢
            clear x0 x1 x2 hx3 X3 HW3
            clear X4 Y4
            refine (rrd_take_all HW4.out.one.rb HW4.out.one.below hz 4096 hz4).mono ?_
            rintro e1 w5 ⟨rfl, hg5, hr5⟩
            have HW5 := Lib.hid (HW4.out.takeB FAR.out hg5 hr5)
            clear hg5 hr5 HW4
            unfold C.val
            dsimp only
            go_wp2_with fail
            have HW6 := Lib.hid (HW5.out.next FAR.out (box_new w5 1 0 et).2.2.1)
            have Z6 := Lib.hid (Bw.new HW5.out 1 0 et)
            generalize w5.alloc (.cells #[.int .i64 1, .int .i64 0, .string et] 41) = w6 at HW6 Z6 ⊢
            generalize w5.heap.size = D3 at Z6 ⊢
            clear HW5
            refine (HJ.out.raddQ hL HS.out HW6.out).mono ?_
            intro e1 w7 hp
            have hz7 := (Z6.out.swap.add hp).2.2.2
            obtain ⟨v', rfl, hw7⟩ := HW6.out.add2 FAR.out hp
            have HW7 := Lib.hid hw7
            have Z7 := Lib.hid (hz7 v' rfl)
            clear hp hw7 hz7 HW6 Z6
            obtain ⟨x0, x1, x2⟩ := Z7.out.1
            dsimp only at x0 x1 x2
            go_wp2_with fail
            refine (HJ.out.raddP hL HS.out HW7.out).mono ?_
            intro e1 w8 hp
            obtain ⟨u', rfl, hw8⟩ := HW7.out.add FAR.out hp
            have HW8 := Lib.hid hw8
            clear hp hw8 x0 x1 x2 Z7 HW7
            go_wp2_with fail
            go_roundw
            case rel => exact ⟨_, _, _, _, HJ', HW8⟩
            case measure => rw [HW8.out.one.ra.length, HW8.out.one.rb.length, HW.out.one.ra.length, HW.out.one.rb.length]; exact stepT_lt HS.out
      · clear hs hne
        have hz := HJ.out.gx.head
        have hy := HJ.out.gy.head
        have h0 : 0 ≤ min c.sz d.sz := by omega
        have h1 : min c.sz d.sz ≤ c.sz := by omega
        have h2 : min c.sz d.sz ≤ d.sz := by omega
        generalize hm : min c.sz d.sz = n at HS HJ' h0 h1 h2
        have HMN := Lib.hid hm; clear hm
        have TKA : Hid (∀ W, RRd w W ba (c :: cs) → Below w.heap.size w W → Calls Try.prog 32 #[.pointer (some ⟨ba, 0, none⟩), .int .i64 n] W (RTakePost w ba (takeC c n) (tailC c n cs) W)) := Lib.hid (fun W h hb => rrd_take h hb n n h0 (by omega))
        have TKB : Hid (∀ W, RRd w W bb (d :: ds) → Below w.heap.size w W → Calls Try.prog 32 #[.pointer (some ⟨bb, 0, none⟩), .int .i64 n] W (RTakePost w bb (takeC d n) (tailC d n ds) W)) := Lib.hid (fun W h hb => rrd_take h hb n n h0 (by omega))
        have pk_ := take_k c n
        have qk_ := take_k d n
        generalize tailC c n cs = XT at TKA HS HJ'
        generalize tailC d n ds = YT at TKB HS HJ'
        generalize takeC c n = PP at TKA HS HJ' pk_
        generalize takeC d n = QQ at TKB HS HJ' qk_
        have hkc : (c.k == 1) = false := beq_eq_false_iff_ne.2 kc
        have hkd : (d.k == 1) = false := beq_eq_false_iff_ne.2 kd
        have SC := hz.1
        have SD := hy.1
        have hcases : (c.k = 0 ∨ c.k = 2) ∧ (d.k = 0 ∨ d.k = 2) := ⟨kind02 SC kc, kind02 SD kd⟩
        clear hz hy h1 h2 kc kd
        obtain ⟨ck, cn, ct⟩ := c
        obtain ⟨dk, dn, dt⟩ := d
        obtain ⟨pk, pn, pt⟩ := PP
        obtain ⟨qk, qn, qt⟩ := QQ
        dsimp only at hkc hkd pk_ qk_ hcases
        have HCS := Lib.hid hcases; clear hcases
        have HPK := Lib.hid pk_; have HQK := Lib.hid qk_
        clear pk_ qk_
        go_wp2_with fail
        refine (rrd_peek_yes HW.out.one.ra HW.out.one.below).mono ?_
        rintro e1 w1 ⟨rfl, hb1⟩
        have HW1 := Lib.hid (HW.out.next FAR.out hb1); clear hb1
        unfold C.val
        dsimp only
        go_wp2_with fail
        have HW2 := Lib.hid (HW1.out.next FAR.out (box_new w1 ck cn ct).2.2.1)
        have X1 := Lib.hid (BX.new w1 ck cn ct)
        generalize w1.alloc (.cells #[.int .i64 ck, .int .i64 cn, .string ct] 41) = w2 at HW2 X1 ⊢
        generalize w1.heap.size = D1 at X1 ⊢
        refine (rrd_peek_yes HW2.out.one.rb HW2.out.one.below).mono ?_
        rintro e1 w3 ⟨rfl, hb3⟩
        have HW3 := Lib.hid (HW2.out.next FAR.out hb3)
        have X3 := Lib.hid (X1.out.below hb3)
        clear hb3 X1 HW1 HW2
        unfold C.val
        dsimp only
        obtain ⟨x0, x1, x2⟩ := X3.out.1
        have hx3 := X3.out.2
        go_wp2_with fail
        have HW4 := Lib.hid (HW3.out.next FAR.out (box_new w3 dk dn dt).2.2.1)
        have X4 := Lib.hid (X3.out.below (box_new w3 dk dn dt).2.2.1)
        have Y4 := Lib.hid (BX.new w3 dk dn dt)
        generalize w3.alloc (.cells #[.int .i64 dk, .int .i64 dn, .string dt] 41) = w4 at HW4 X4 Y4 ⊢
        generalize w3.heap.size = D2 at Y4 ⊢
        clear x0 x1 x2 hx3 X3 HW3
        have SCH := Lib.hid SC; have SDH := Lib.hid SD
        clear SC SD
        have z0 : ∀ X : Ext w4, X.w.cell? ⟨D1, 0, none⟩ = some (.int .i64 ck) := fun X => X.cell X4.out.1.1
        have z1 : ∀ X : Ext w4, X.w.cell? ⟨D1, 1, none⟩ = some (.int .i64 cn) := fun X => X.cell X4.out.1.2.1
        have z2 : ∀ X : Ext w4, X.w.cell? ⟨D1, 2, none⟩ = some (.string ct) := fun X => X.cell X4.out.1.2.2
        have z3 : ∀ X : Ext w4, X.w.cell? ⟨D2, 0, none⟩ = some (.int .i64 dk) := fun X => X.cell Y4.out.1.1
        have z4 : ∀ X : Ext w4, X.w.cell? ⟨D2, 1, none⟩ = some (.int .i64 dn) := fun X => X.cell Y4.out.1.2.1
        have z5 : ∀ X : Ext w4, X.w.cell? ⟨D2, 2, none⟩ = some (.string dt) := fun X => X.cell Y4.out.1.2.2
        have hM' : min (cn + (ct.size : Int)) (dn + (dt.size : Int)) = n := HMN.out
        refine wp_region_ext (by kernel_rfl) (by kernel_rfl) ?_
        repeat (go_big_quiet_step ((go_at_call 34; first | exact Ext.calls (rsize_any _ _ _ _ SCH.out) | exact Ext.calls (rsize_any _ _ _ _ SDH.out))))
        refine wpQuiet_nil ?_
        rintro _ ⟨X, rfl⟩
        clear z0 z1 z2 z3 z4 z5
        have HW6 := Lib.hid (HW4.out.next FAR.out X.below)
        generalize X.w = w6 at HW6 ⊢
        clear X
        (try rw [hM'])
        clear hM' X4 Y4 HW4
        obtain ⟨hc1, hc2⟩ := HCS.out
        rcases hc1 with g1 | g1 <;> rcases hc2 with g2 | g2
        · have p1 := HPK.out; have q1 := HQK.out
          rw [g1] at p1; rw [g2] at q1
          subst p1; subst q1
          have em : leftC ⟨0, pn, pt⟩ ⟨0, qn, qt⟩ = ⟨0, pn, pt⟩ := by simp [leftC]
          have en : leftC ⟨0, qn, qt⟩ ⟨0, pn, pt⟩ = ⟨0, qn, qt⟩ := by simp [leftC]
          rw [em] at HJ' HS
          rw [en] at HJ' HS
          clear em en g1 g2 HCS HPK HQK
          go_wp2_with fail
          refine (TKA.out w6 HW6.out.one.ra HW6.out.one.below).mono ?_
          rintro e1 w7 ⟨rfl, hg7, hr7⟩
          have HW7 := Lib.hid (HW6.out.takeA FAR.out hg7 hr7)
          clear hg7 hr7
          unfold C.val
          dsimp only
          go_wp2_with fail
          have HW8 := Lib.hid (HW7.out.next FAR.out (box_new w7 0 pn pt).2.2.1)
          have Z8 := Lib.hid (Bw.new HW7.out 0 pn pt)
          have NB : Hid (bb ≠ w7.heap.size) := Lib.hid (Nat.ne_of_lt HW7.out.one.lb)
          generalize w7.alloc (.cells #[.int .i64 0, .int .i64 pn, .string pt] 41) = w8 at HW8 Z8 ⊢
          generalize w7.heap.size = D3 at Z8 NB ⊢
          refine (TKB.out w8 HW8.out.one.rb HW8.out.one.below).mono ?_
          rintro e1 w9 ⟨rfl, hg9, hr9⟩
          have HW9 := Lib.hid (HW8.out.takeB FAR.out hg9 hr9)
          have Z9 := Lib.hid (Z8.out.take hg9 NB.out)
          clear hg9 hr9 Z8 HW6 HW7 HW8
          unfold C.val
          dsimp only
          obtain ⟨x0, x1, x2⟩ := Z9.out.1
          dsimp only at x0 x1 x2
          have hx9 := Z9.out.2.1
          go_wp2_with fail
          have HW10 := Lib.hid (HW9.out.next FAR.out (box_new w9 0 qn qt).2.2.1)
          have Z10 := Lib.hid (Z9.out.next (box_new w9 0 qn qt).2.2.1)
          have Y10 := Lib.hid (Bw.new HW9.out 0 qn qt)
          generalize w9.alloc (.cells #[.int .i64 0, .int .i64 qn, .string qt] 41) = w10 at HW10 Z10 Y10 ⊢
          generalize w9.heap.size = D4 at Y10 ⊢
          clear x0 x1 x2 hx9 Z9 HW9
          refine (HJ.out.raddP hL HS.out HW10.out).mono ?_
          intro e1 w11 hp
          have hz11 := (Z10.out.add hp).2.2.2
          have hy11 := (Y10.out.add hp).2.2.2
          obtain ⟨v', rfl, hw11⟩ := HW10.out.add FAR.out hp
          have HW11 := Lib.hid hw11
          have Z11 := Lib.hid (hz11 v' rfl)
          have Y11 := Lib.hid (hy11 v' rfl)
          clear hp hw11 hz11 hy11 HW10 Z10 Y10
          obtain ⟨x0, x1, x2⟩ := Z11.out.1
          obtain ⟨y0, y1, y2⟩ := Y11.out.1
          dsimp only at x0 x1 x2 y0 y1 y2
          go_wp2_with fail
          refine (HJ.out.raddQ hL HS.out HW11.out).mono ?_
          intro e1 w12 hp
          obtain ⟨u', rfl, hw12⟩ := HW11.out.add2 FAR.out hp
          have HW12 := Lib.hid hw12
          clear hp hw12
          go_wp2_with fail
          go_roundw
          case rel => exact ⟨_, _, _, _, HJ', HW12⟩
          case measure => rw [HW12.out.one.ra.length, HW12.out.one.rb.length, HW.out.one.ra.length, HW.out.one.rb.length]; exact stepT_lt HS.out
        · have p1 := HPK.out; have q1 := HQK.out
          rw [g1] at p1; rw [g2] at q1
          subst p1; subst q1
          have em : leftC ⟨0, pn, pt⟩ ⟨2, qn, qt⟩ = ⟨0, 0, e0⟩ := by simp [leftC]
          have en : leftC ⟨2, qn, qt⟩ ⟨0, pn, pt⟩ = ⟨2, qn, qt⟩ := by simp [leftC]
          rw [em] at HJ' HS
          rw [en] at HJ' HS
          rw [add_zero_piece] at HJ'
          clear em en g1 g2 HCS HPK HQK
          go_wp2_with fail
          refine (TKA.out w6 HW6.out.one.ra HW6.out.one.below).mono ?_
          rintro e1 w7 ⟨rfl, hg7, hr7⟩
          have HW7 := Lib.hid (HW6.out.takeA FAR.out hg7 hr7)
          clear hg7 hr7
          unfold C.val
          dsimp only
          go_wp2_with fail
          have HW8 := Lib.hid (HW7.out.next FAR.out (box_new w7 0 pn pt).2.2.1)
          have Z8 := Lib.hid (Bw.new HW7.out 0 pn pt)
          have NB : Hid (bb ≠ w7.heap.size) := Lib.hid (Nat.ne_of_lt HW7.out.one.lb)
          generalize w7.alloc (.cells #[.int .i64 0, .int .i64 pn, .string pt] 41) = w8 at HW8 Z8 ⊢
          generalize w7.heap.size = D3 at Z8 NB ⊢
          refine (TKB.out w8 HW8.out.one.rb HW8.out.one.below).mono ?_
          rintro e1 w9 ⟨rfl, hg9, hr9⟩
          have HW9 := Lib.hid (HW8.out.takeB FAR.out hg9 hr9)
          have Z9 := Lib.hid (Z8.out.take hg9 NB.out)
          clear hg9 hr9 Z8 HW6 HW7 HW8
          unfold C.val
          dsimp only
          obtain ⟨x0, x1, x2⟩ := Z9.out.1
          dsimp only at x0 x1 x2
          have hx9 := Z9.out.2.1
          go_wp2_with fail
          have HW10 := Lib.hid (HW9.out.next FAR.out (box_new w9 2 qn qt).2.2.1)
          have Z10 := Lib.hid (Z9.out.next (box_new w9 2 qn qt).2.2.1)
          have Y10 := Lib.hid (Bw.new HW9.out 2 qn qt)
          generalize w9.alloc (.cells #[.int .i64 2, .int .i64 qn, .string qt] 41) = w10 at HW10 Z10 Y10 ⊢
          generalize w9.heap.size = D4 at Y10 ⊢
          clear x0 x1 x2 hx9 Z9 HW9
          refine (HJ.out.raddQ hL HS.out HW10.out).mono ?_
          intro e1 w11 hp
          obtain ⟨u', rfl, hw11⟩ := HW10.out.add2 FAR.out hp
          have HW11 := Lib.hid hw11
          clear hp hw11 HW10 Z10 Y10
          go_wp2_with fail
          go_roundw
          case rel => exact ⟨_, _, _, _, HJ', HW11⟩
          case measure => rw [HW11.out.one.ra.length, HW11.out.one.rb.length, HW.out.one.ra.length, HW.out.one.rb.length]; exact stepT_lt HS.out
        · have p1 := HPK.out; have q1 := HQK.out
          rw [g1] at p1; rw [g2] at q1
          subst p1; subst q1
          have em : leftC ⟨2, pn, pt⟩ ⟨0, qn, qt⟩ = ⟨2, pn, pt⟩ := by simp [leftC]
          have en : leftC ⟨0, qn, qt⟩ ⟨2, pn, pt⟩ = ⟨0, 0, e0⟩ := by simp [leftC]
          rw [em] at HJ' HS
          rw [en] at HJ' HS
          rw [add_zero_piece] at HJ'
          clear em en g1 g2 HCS HPK HQK
          go_wp2_with fail
          refine (TKA.out w6 HW6.out.one.ra HW6.out.one.below).mono ?_
          rintro e1 w7 ⟨rfl, hg7, hr7⟩
          have HW7 := Lib.hid (HW6.out.takeA FAR.out hg7 hr7)
          clear hg7 hr7
          unfold C.val
          dsimp only
          go_wp2_with fail
          have HW8 := Lib.hid (HW7.out.next FAR.out (box_new w7 2 pn pt).2.2.1)
          have Z8 := Lib.hid (Bw.new HW7.out 2 pn pt)
          have NB : Hid (bb ≠ w7.heap.size) := Lib.hid (Nat.ne_of_lt HW7.out.one.lb)
          generalize w7.alloc (.cells #[.int .i64 2, .int .i64 pn, .string pt] 41) = w8 at HW8 Z8 ⊢
          generalize w7.heap.size = D3 at Z8 NB ⊢
          refine (TKB.out w8 HW8.out.one.rb HW8.out.one.below).mono ?_
          rintro e1 w9 ⟨rfl, hg9, hr9⟩
          have HW9 := Lib.hid (HW8.out.takeB FAR.out hg9 hr9)
          have Z9 := Lib.hid (Z8.out.take hg9 NB.out)
          clear hg9 hr9 Z8 HW6 HW7 HW8
          unfold C.val
          dsimp only
          obtain ⟨x0, x1, x2⟩ := Z9.out.1
          dsimp only at x0 x1 x2
          have hx9 := Z9.out.2.1
          go_wp2_with fail
          have HW10 := Lib.hid (HW9.out.next FAR.out (box_new w9 0 qn qt).2.2.1)
          have Z10 := Lib.hid (Z9.out.next (box_new w9 0 qn qt).2.2.1)
          have Y10 := Lib.hid (Bw.new HW9.out 0 qn qt)
          generalize w9.alloc (.cells #[.int .i64 0, .int .i64 qn, .string qt] 41) = w10 at HW10 Z10 Y10 ⊢
          generalize w9.heap.size = D4 at Y10 ⊢
          clear x0 x1 x2 hx9 Z9 HW9
          refine (HJ.out.raddP hL HS.out HW10.out).mono ?_
          intro e1 w11 hp
          have hz11 := (Z10.out.add hp).2.2.2
          obtain ⟨v', rfl, hw11⟩ := HW10.out.add FAR.out hp
          have HW11 := Lib.hid hw11
          have Z11 := Lib.hid (hz11 v' rfl)
          clear hp hw11 hz11 HW10 Z10 Y10
          obtain ⟨x0, x1, x2⟩ := Z11.out.1
          dsimp only at x0 x1 x2
          go_wp2_with fail
          go_roundw
          case rel => exact ⟨_, _, _, _, HJ', HW11⟩
          case measure => rw [HW11.out.one.ra.length, HW11.out.one.rb.length, HW.out.one.ra.length, HW.out.one.rb.length]; exact stepT_lt HS.out
        · have p1 := HPK.out; have q1 := HQK.out
          rw [g1] at p1; rw [g2] at q1
          subst p1; subst q1
          have em : leftC ⟨2, pn, pt⟩ ⟨2, qn, qt⟩ = ⟨0, 0, e0⟩ := by simp [leftC]
          have en : leftC ⟨2, qn, qt⟩ ⟨2, pn, pt⟩ = ⟨0, 0, e0⟩ := by simp [leftC]
          rw [em] at HJ' HS
          (try rw [en] at HJ' HS)
          rw [add_zero_piece, add_zero_piece] at HJ'
          clear em en g1 g2 HCS HPK HQK
          go_wp2_with fail
          refine (TKA.out w6 HW6.out.one.ra HW6.out.one.below).mono ?_
          rintro e1 w7 ⟨rfl, hg7, hr7⟩
          have HW7 := Lib.hid (HW6.out.takeA FAR.out hg7 hr7)
          clear hg7 hr7
          unfold C.val
          dsimp only
          go_wp2_with fail
          have HW8 := Lib.hid (HW7.out.next FAR.out (box_new w7 2 pn pt).2.2.1)
          have Z8 := Lib.hid (Bw.new HW7.out 2 pn pt)
          have NB : Hid (bb ≠ w7.heap.size) := Lib.hid (Nat.ne_of_lt HW7.out.one.lb)
          generalize w7.alloc (.cells #[.int .i64 2, .int .i64 pn, .string pt] 41) = w8 at HW8 Z8 ⊢
          generalize w7.heap.size = D3 at Z8 NB ⊢
          refine (TKB.out w8 HW8.out.one.rb HW8.out.one.below).mono ?_
          rintro e1 w9 ⟨rfl, hg9, hr9⟩
          have HW9 := Lib.hid (HW8.out.takeB FAR.out hg9 hr9)
          have Z9 := Lib.hid (Z8.out.take hg9 NB.out)
          clear hg9 hr9 Z8 HW6 HW7 HW8
          unfold C.val
          dsimp only
          obtain ⟨x0, x1, x2⟩ := Z9.out.1
          dsimp only at x0 x1 x2
          have hx9 := Z9.out.2.1
          go_wp2_with fail
          have HW10 := Lib.hid (HW9.out.next FAR.out (box_new w9 2 qn qt).2.2.1)
          go_roundw
          case rel => exact ⟨_, _, _, _, HJ', HW10⟩
          case measure => rw [HW10.out.one.ra.length, HW10.out.one.rb.length, HW.out.one.ra.length, HW.out.one.rb.length]; exact stepT_lt HS.out

theorem rtransform_any (p q : Option Addr) (a b : List C) (f : Bool) (cap cap2 : Nat) (w : World) (ra : RowC w p a) (rb : RowC w q b) : Calls Try.prog 12 #[.slice p a.length cap, .slice q b.length cap2, .bool f] w (TraPost f a b w) := by
  by_cases h : MayP a ∧ MayP b ∧ sumOf fromC a = sumOf fromC b
  · exact rtransform_yes p q a b f cap cap2 w ra rb h.1 h.2.1 h.2.2
  · exact rtransform_no p q a b f cap cap2 w ra rb h

end Go.Proofs.Ytkknkannjoijbaa
