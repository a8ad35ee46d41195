/-
  The walk of transform's cross. Conditions: as the theorem's premises say.
-/
import Derived.Test.YtkknkannjoijbaaTra1
namespace Go.Proofs.Ytkknkannjoijbaa
open Go.RowKit

theorem TI.addP {f : Bool} {JP JQ P Q X Y X' Y' : List C} {L : Nat} {p q : C} (h : TI f JP JQ P Q X Y L) (hL : L ≤ 8192) (hs : stepT f X Y = some (p, q, X', Y')) {w0 w : World} {ba bb : Nat} {v u : Value} {Q2 A B : List C} (hw : TW (Rd w0) w0 w ba bb v u P Q2 A B) : Calls Try.prog 43 #[v, p.val] w (AddPost w0.heap.size v (addC P p) w) :=
  hw.addC' (by have := h.lenP; omega) h.fits.1 p (h.piece hs).1
theorem TI.addQ {f : Bool} {JP JQ P Q X Y X' Y' : List C} {L : Nat} {p q : C} (h : TI f JP JQ P Q X Y L) (hL : L ≤ 8192) (hs : stepT f X Y = some (p, q, X', Y')) {w0 w : World} {ba bb : Nat} {v u : Value} {P2 A B : List C} (hw : TW (Rd w0) w0 w ba bb v u P2 Q A B) : Calls Try.prog 43 #[u, q.val] w (AddPost w0.heap.size u (addC Q q) w) :=
  hw.swap.addC' (by have := h.lenQ; omega) h.fits.2 q (h.piece hs).2
theorem TI.passA {f : Bool} {JP JQ P Q X Y : List C} {L : Nat} {p : C} (h : TI f JP JQ P Q (p :: X) Y L) (hL : L ≤ 8192) (hs : stepT f (p :: X) Y = some (p, kpC p, X, Y)) {w0 w : World} {ba bb : Nat} {v u : Value} (hw : TW (Rd w0) w0 w ba bb v u P Q (p :: X) Y) :
    Calls Try.prog 40 #[v, u, .pointer (some ⟨ba, 0, none⟩)] w (PassPost w0 ba bb (addC P p) (addC Q (kpC p)) X Y) :=
  pass_any p hw h.gx.head (by have := h.lenP; omega) (by have := h.lenQ; omega) h.fits.1 h.fits.2 (h.piece hs).1 (h.piece hs).2
theorem TI.passB {f : Bool} {JP JQ P Q X Y : List C} {L : Nat} {q : C} (h : TI f JP JQ P Q X (q :: Y) L) (hL : L ≤ 8192) (hs : stepT f X (q :: Y) = some (kpC q, q, X, Y)) {w0 w : World} {ba bb : Nat} {v u : Value} (hw : TW (Rd w0) w0 w ba bb v u P Q X (q :: Y)) :
    Calls Try.prog 40 #[u, v, .pointer (some ⟨bb, 0, none⟩)] w fun e w' => ∃ u' v', e = .returned (.tuple #[u', v']) ∧ TW (Rd w0) w0 w' ba bb v' u' (addC P (kpC q)) (addC Q q) X Y :=
  (pass_any q hw.flip h.gy.head (by have := h.lenQ; omega) (by have := h.lenP; omega) h.fits.2 h.fits.1 (h.piece hs).2 (h.piece hs).1).mono fun _ _ ⟨v', u', e, hh⟩ => ⟨v', u', e, hh.flip⟩

/-- What cross answers. -/
def CrossPost (w0 : World) (JP JQ : List C) (e : Ending) (w' : World) : Prop := ∃ v u, e = .returned (.tuple #[v, u]) ∧ Own w' w0.heap.size v JP ∧ Own w' w0.heap.size u JQ ∧ (∀ g, v.ownBlock = some g → u.ownBlock = some g → False) ∧ Below w0.heap.size w0 w'
/-- A box that neither row is. -/
def Bw (w : World) (v u : Value) (D : Nat) (c : C) : Prop := PieceAt w D 0 c ∧ D < w.heap.size ∧ v.ownBlock ≠ some D ∧ u.ownBlock ≠ some D
theorem Bw.new {R : World → Nat → List C → Prop} {w0 w : World} {ba bb : Nat} {v u : Value} {P Q X Y : List C} (h : TW R w0 w ba bb v u P Q X Y) (k n : Int) (t : ByteArray) : Bw (w.alloc (.cells #[.int .i64 k, .int .i64 n, .string t] 41)) v u w.heap.size ⟨k, n, t⟩ :=
  ⟨(box_new w k n t).1, (box_new w k n t).2.2.2, fun e => absurd (h.one.own.lt e).2 (Nat.lt_irrefl _), fun e => absurd (h.two.own.lt e).2 (Nat.lt_irrefl _)⟩
theorem Bw.next {w w' : World} {v u : Value} {D : Nat} {c : C} (h : Bw w v u D c) (hb : Below w.heap.size w w') : Bw w' v u D c := ⟨h.1.below hb, Nat.lt_of_lt_of_le h.2.1 hb.size, h.2.2⟩
/-- Behind an Add to the first row. -/
theorem Bw.add {w w' : World} {v u : Value} {D : Nat} {c : C} {base : Nat} {out : List C} {e : Ending} (h : Bw w v u D c) (hp : AddPost base v out w e w') : PieceAt w' D 0 c ∧ D < w'.heap.size ∧ u.ownBlock ≠ some D ∧ ∀ v', e = .returned v' → Bw w' v' u D c := by
  obtain ⟨v', rfl, -, hg, hn⟩ := hp
  have hp' := h.1.grown hg (fun g e1 e2 => h.2.2.1 (e2 ▸ e1))
  have hlt := Nat.lt_of_lt_of_le h.2.1 hg.size
  refine ⟨hp', hlt, h.2.2.2, fun v2 e2 => ?_⟩
  cases e2
  refine ⟨hp', hlt, fun e => ?_, h.2.2.2⟩
  rcases hn _ e with e | e
  · exact h.2.2.1 e
  · have := h.2.1; omega
theorem Bw.swap {w : World} {v u : Value} {D : Nat} {c : C} (h : Bw w v u D c) : Bw w u v D c := ⟨h.1, h.2.1, h.2.2.2, h.2.2.1⟩

set_option maxRecDepth 100000 in
set_option maxHeartbeats 8000000 in
theorem cross_any (w0 w : World) (ba bb : Nat) (a b JP JQ : List C) (f : Bool) (L : Nat) (hJ : TI f JP JQ [] [] a b L) (hL : L ≤ 8192) (hw : TW (Rd w0) w0 w ba bb (.slice none 0 0) (.slice none 0 0) [] [] a b) :
    Calls Try.prog 27 #[.pointer (some ⟨ba, 0, none⟩), .pointer (some ⟨bb, 0, none⟩), .bool f] w (CrossPost w0 JP JQ) := by
  have HJ := Lib.hid hJ; have HW := Lib.hid hw
  clear hJ hw
  have FAR := Lib.hid (rd_far w0)
  go_enter Try.func27, Try.ntmps27
  go_wp2_with fail
  go_loopw [8, 9] (fun v u wr => ∃ P Q X Y : List C, Hid (TI f JP JQ P Q X Y L) ∧ Hid (TW (Rd w0) w0 wr ba bb v u P Q X Y)) (fun _ _ wr => rdLen wr ba + rdLen wr bb)
  case atStart => exact ⟨[], [], a, b, HJ, HW⟩
  case round =>
    clear HJ HW
    obtain ⟨P, Q, X, Y, HJ, HW⟩ := hrel
    by_cases hne : X = [] ∧ Y = []
    · obtain ⟨rfl, rfl⟩ := hne
      go_wp2_with fail
      refine (rd_more_no HW.out.one.ra).mono ?_
      rintro e1 w1 ⟨rfl, rfl⟩
      go_wp2_with fail
      refine (rd_more_no HW.out.one.rb).mono ?_
      rintro e1 w1 ⟨rfl, rfl⟩
      go_wp2_with fail
      go_ret2
      exact ⟨_, _, rfl, by rw [← HJ.out.done.1]; exact HW.out.one.own, by rw [← HJ.out.done.2]; exact HW.out.two.own, HW.out.apart, HW.out.one.below⟩
    · obtain ⟨p, q, X', Y', hs⟩ := HJ.out.empty hne
      have HS := Lib.hid hs
      have HJ' := Lib.hid (HJ.out.step hs)
      rcases stepT_cases hs with ⟨rfl, hk, rfl, rfl, hf⟩ | ⟨rfl, hk, rfl, rfl, hf⟩ | ⟨c, cs, d, ds, rfl, rfl, kc, kd, rfl, rfl, rfl, rfl⟩
      · clear hs hne
        have hkb : (p.k == 1) = true := beq_iff_eq.2 hk
        clear hk
        cases f with
        | true =>
          clear hf
          go_wp2_with fail
          refine (rd_more_yes HW.out.one.ra).mono ?_
          rintro e1 w1 ⟨rfl, rfl⟩
          go_wp2_with fail
          refine (rd_at_yes HW.out.one.ra HW.out.one.below 1).mono ?_
          rintro e1 w1 ⟨rfl, rfl⟩
          rw [hkb]
          go_wp2_with fail
          refine (HJ.out.passA hL HS.out HW.out).mono ?_
          rintro e1 w2 ⟨v', u', rfl, hw2⟩
          have HW2 := Lib.hid hw2; clear hw2
          go_wp2_with fail
          go_roundw
          case rel => exact ⟨_, _, _, _, HJ', HW2⟩
          case measure => rw [HW2.out.one.ra.length, HW2.out.one.rb.length, HW.out.one.ra.length, HW.out.one.rb.length]; exact stepT_lt HS.out
        | false =>
          cases Y' with
          | nil =>
            clear hf
            go_wp2_with fail
            refine (rd_more_yes HW.out.one.ra).mono ?_
            rintro e1 w1 ⟨rfl, rfl⟩
            go_wp2_with fail
            refine (rd_at_yes HW.out.one.ra HW.out.one.below 1).mono ?_
            rintro e1 w1 ⟨rfl, rfl⟩
            rw [hkb]
            go_wp2_with fail
            refine (rd_at_no HW.out.one.rb 1).mono ?_
            rintro e1 w1 ⟨rfl, rfl⟩
            go_wp2_with fail
            refine (HJ.out.passA hL HS.out HW.out).mono ?_
            rintro e1 w2 ⟨v', u', rfl, hw2⟩
            have HW2 := Lib.hid hw2; clear hw2
            go_wp2_with fail
            go_roundw
            case rel => exact ⟨_, _, _, _, HJ', HW2⟩
            case measure => rw [HW2.out.one.ra.length, HW2.out.one.rb.length, HW.out.one.ra.length, HW.out.one.rb.length]; exact stepT_lt HS.out
          | cons d ds =>
            have hkd : (d.k == 1) = false := beq_eq_false_iff_ne.2 (hf.elim (fun h => by cases h) fun h => h d ds rfl)
            clear hf
            go_wp2_with fail
            refine (rd_more_yes HW.out.one.ra).mono ?_
            rintro e1 w1 ⟨rfl, rfl⟩
            go_wp2_with fail
            refine (rd_at_yes HW.out.one.ra HW.out.one.below 1).mono ?_
            rintro e1 w1 ⟨rfl, rfl⟩
            rw [hkb]
            go_wp2_with fail
            refine (rd_at_yes HW.out.one.rb HW.out.one.below 1).mono ?_
            rintro e1 w1 ⟨rfl, rfl⟩
            rw [hkd]
            go_wp2_with fail
            refine (HJ.out.passA hL HS.out HW.out).mono ?_
            rintro e1 w2 ⟨v', u', rfl, hw2⟩
            have HW2 := Lib.hid hw2; clear hw2
            go_wp2_with fail
            go_roundw
            case rel => exact ⟨_, _, _, _, HJ', HW2⟩
            case measure => rw [HW2.out.one.ra.length, HW2.out.one.rb.length, HW.out.one.ra.length, HW.out.one.rb.length]; exact stepT_lt HS.out
      · clear hs hne
        have hkb : (q.k == 1) = true := beq_iff_eq.2 hk
        clear hk
        cases X' with
        | nil =>
          clear hf
          go_wp2_with fail
          refine (rd_more_no HW.out.one.ra).mono ?_
          rintro e1 w1 ⟨rfl, rfl⟩
          go_wp2_with fail
          refine (rd_more_yes HW.out.one.rb).mono ?_
          rintro e1 w1 ⟨rfl, rfl⟩
          go_wp2_with fail
          refine (rd_at_no HW.out.one.ra 1).mono ?_
          rintro e1 w1 ⟨rfl, rfl⟩
          go_wp2_with fail
          refine (rd_at_yes HW.out.one.rb HW.out.one.below 1).mono ?_
          rintro e1 w1 ⟨rfl, rfl⟩
          rw [hkb]
          go_wp2_with fail
          refine (HJ.out.passB hL HS.out HW.out).mono ?_
          rintro e1 w2 ⟨v', u', rfl, hw2⟩
          have HW2 := Lib.hid hw2; clear hw2
          go_wp2_with fail
          go_roundw
          case rel => exact ⟨_, _, _, _, HJ', HW2⟩
          case measure => rw [HW2.out.one.ra.length, HW2.out.one.rb.length, HW.out.one.ra.length, HW.out.one.rb.length]; exact stepT_lt HS.out
        | cons c cs =>
          by_cases hc : c.k = 1
          · obtain rfl := hf c cs rfl hc
            clear hf
            have hkc : (c.k == 1) = true := beq_iff_eq.2 hc
            clear hc
            go_wp2_with fail
            refine (rd_more_yes HW.out.one.ra).mono ?_
            rintro e1 w1 ⟨rfl, rfl⟩
            go_wp2_with fail
            refine (rd_at_yes HW.out.one.ra HW.out.one.below 1).mono ?_
            rintro e1 w1 ⟨rfl, rfl⟩
            rw [hkc]
            go_wp2_with fail
            refine (rd_at_yes HW.out.one.rb HW.out.one.below 1).mono ?_
            rintro e1 w1 ⟨rfl, rfl⟩
            rw [hkb]
            go_wp2_with fail
            refine (rd_at_yes HW.out.one.rb HW.out.one.below 1).mono ?_
            rintro e1 w1 ⟨rfl, rfl⟩
            rw [hkb]
            go_wp2_with fail
            refine (HJ.out.passB hL HS.out HW.out).mono ?_
            rintro e1 w2 ⟨v', u', rfl, hw2⟩
            have HW2 := Lib.hid hw2; clear hw2
            go_wp2_with fail
            go_roundw
            case rel => exact ⟨_, _, _, _, HJ', HW2⟩
            case measure => rw [HW2.out.one.ra.length, HW2.out.one.rb.length, HW.out.one.ra.length, HW.out.one.rb.length]; exact stepT_lt HS.out
          · clear hf
            have hkc : (c.k == 1) = false := beq_eq_false_iff_ne.2 hc
            clear hc
            go_wp2_with fail
            refine (rd_more_yes HW.out.one.ra).mono ?_
            rintro e1 w1 ⟨rfl, rfl⟩
            go_wp2_with fail
            refine (rd_at_yes HW.out.one.ra HW.out.one.below 1).mono ?_
            rintro e1 w1 ⟨rfl, rfl⟩
            rw [hkc]
            go_wp2_with fail
            refine (rd_at_yes HW.out.one.rb HW.out.one.below 1).mono ?_
            rintro e1 w1 ⟨rfl, rfl⟩
            rw [hkb]
            go_wp2_with fail
            refine (HJ.out.passB hL HS.out HW.out).mono ?_
            rintro e1 w2 ⟨v', u', rfl, hw2⟩
            have HW2 := Lib.hid hw2; clear hw2
            go_wp2_with fail
            go_roundw
            case rel => exact ⟨_, _, _, _, HJ', HW2⟩
            case measure => rw [HW2.out.one.ra.length, HW2.out.one.rb.length, HW.out.one.ra.length, HW.out.one.rb.length]; exact stepT_lt HS.out
      · clear hs hne
        have hkc : (c.k == 1) = false := beq_eq_false_iff_ne.2 kc
        have hkd : (d.k == 1) = false := beq_eq_false_iff_ne.2 kd
        clear kc kd
        have hz := HJ.out.gx.head
        have hy := HJ.out.gy.head
        go_wp2_with fail
        refine (rd_more_yes HW.out.one.ra).mono ?_
        rintro e1 w1 ⟨rfl, rfl⟩
        go_wp2_with fail
        refine (rd_at_yes HW.out.one.ra HW.out.one.below 1).mono ?_
        rintro e1 w1 ⟨rfl, rfl⟩
        rw [hkc]
        go_wp2_with fail
        refine (rd_at_yes HW.out.one.rb HW.out.one.below 1).mono ?_
        rintro e1 w1 ⟨rfl, rfl⟩
        rw [hkd]
        go_wp2_with fail
        refine (rd_left HW.out.one.ra HW.out.one.below).mono ?_
        rintro e1 w1 ⟨rfl, hb1⟩
        have HW1 := Lib.hid (HW.out.next FAR.out hb1)
        clear hb1
        go_wp2_with fail
        refine (rd_left HW1.out.one.rb HW1.out.one.below).mono ?_
        rintro e1 w2 ⟨rfl, hb2⟩
        have HW2 := Lib.hid (HW1.out.next FAR.out hb2)
        clear hb2
        go_wp2_with fail
        refine (rd_take HW2.out.one.ra HW2.out.one.below _ (by omega) (by omega)).mono ?_
        rintro e1 w3 ⟨rfl, hg3, hr3⟩
        have HW3 := Lib.hid (HW2.out.takeA FAR.out hg3 hr3)
        clear hg3 hr3
        go_wp2_with fail
        refine (rd_take HW3.out.one.rb HW3.out.one.below _ (by omega) (by omega)).mono ?_
        rintro e1 w4 ⟨rfl, hg4, hr4⟩
        have HW4 := Lib.hid (HW3.out.takeB FAR.out hg4 hr4)
        clear hg4 hr4 HW1 HW2 HW3 hz hy
        generalize takeC c (min c.sz d.sz) = x1 at HS HJ' ⊢
        generalize takeC d (min c.sz d.sz) = x2 at HS HJ' ⊢
        generalize tailC c (min c.sz d.sz) cs = X' at HS HJ' HW4 ⊢
        generalize tailC d (min c.sz d.sz) ds = Y' at HS HJ' HW4 ⊢
        generalize min c.sz d.sz = m
        obtain ⟨k1, n1, t1⟩ := x1
        obtain ⟨k2, n2, t2⟩ := x2
        unfold C.val
        dsimp only
        go_wp2_with (go_at_call 44; fail)
        have HW5 := Lib.hid (HW4.out.next FAR.out (box_new w4 k1 n1 t1).2.2.1)
        have Z5 := Lib.hid (Bw.new HW4.out k1 n1 t1)
        have hs5 : (w4.alloc (.cells #[.int .i64 k1, .int .i64 n1, .string t1] 41)).heap.size = w4.heap.size + 1 := by simp
        generalize w4.alloc (.cells #[.int .i64 k1, .int .i64 n1, .string t1] 41) = w5 at HW5 Z5 hs5 ⊢
        rw [← hs5]
        clear hs5
        generalize w4.heap.size = D1 at Z5 ⊢
        have HW6 := Lib.hid (HW5.out.next FAR.out (box_new w5 k2 n2 t2).2.2.1)
        have Z6 := Lib.hid (Z5.out.next (box_new w5 k2 n2 t2).2.2.1)
        have Y6 := Lib.hid (Bw.new HW5.out k2 n2 t2)
        generalize w5.alloc (.cells #[.int .i64 k2, .int .i64 n2, .string t2] 41) = w6 at HW6 Z6 Y6 ⊢
        generalize w5.heap.size = D2 at Y6 ⊢
        clear HW4 HW5 Z5
        refine (left_any ⟨k1, n1, t1⟩ ⟨k2, n2, t2⟩ _).mono ?_
        rintro e1 w7 ⟨rfl, hb7⟩
        have HW7 := Lib.hid (HW6.out.next FAR.out hb7)
        have Z7 := Lib.hid (Z6.out.next hb7)
        have Y7 := Lib.hid (Y6.out.next hb7)
        clear HW6 Z6 Y6 hb7
        go_wp2_with fail
        refine (HJ.out.addP hL HS.out HW7.out).mono ?_
        intro e1 w8 hp
        have hz8 := (Z7.out.add hp).2.2.2
        have hy8 := (Y7.out.add hp).2.2.2
        obtain ⟨v', rfl, hw8⟩ := HW7.out.add FAR.out hp
        have HW8 := Lib.hid hw8
        have Z8 := Lib.hid (hz8 v' rfl)
        have Y8 := Lib.hid (hy8 v' rfl)
        clear hp hw8 hz8 hy8 HW7 Z7 Y7
        obtain ⟨x0, x1, x2⟩ := Z8.out.1
        obtain ⟨y0, y1, y2⟩ := Y8.out.1
        dsimp only at x0 x1 x2 y0 y1 y2
        go_wp2_with (go_at_call 44; fail)
        refine (left_any ⟨k2, n2, t2⟩ ⟨k1, n1, t1⟩ _).mono ?_
        rintro e1 w9 ⟨rfl, hb9⟩
        have HW9 := Lib.hid (HW8.out.next FAR.out hb9)
        clear HW8 hb9 x0 x1 x2 y0 y1 y2 Z8 Y8
        go_wp2_with fail
        refine (HJ.out.addQ hL HS.out HW9.out).mono ?_
        intro e1 w10 hp
        obtain ⟨u', rfl, hw10⟩ := HW9.out.add2 FAR.out hp
        have HW10 := Lib.hid hw10
        clear hp hw10
        go_wp2_with fail
        go_roundw
        case rel => exact ⟨_, _, _, _, HJ', HW10⟩
        case measure => rw [HW10.out.one.ra.length, HW10.out.one.rb.length, HW.out.one.ra.length, HW.out.one.rb.length]; exact stepT_lt HS.out

end Go.Proofs.Ytkknkannjoijbaa
