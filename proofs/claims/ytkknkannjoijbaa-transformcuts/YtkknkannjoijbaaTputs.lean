/-
  The walk of the law TransformPuts. Conditions: as the theorems' premises say.
-/
import Derived.Test.YtkknkannjoijbaaMake
import Derived.Test.YtkknkannjoijbaaPutM
import Derived.Test.YtkknkannjoijbaaBoth
namespace Go.Proofs.Ytkknkannjoijbaa
open Go.RowKit

set_option maxRecDepth 100000 in
set_option maxHeartbeats 1000000 in
theorem tputs_long (s : ByteArray) (i j : Int) (f : Bool) (w : World) (h : 200 < s.size) :
    Calls Try.prog 7 #[.string s, .int .i64 i, .int .i64 j, .bool f] w fun e w' => e = .returned (.bool true) ∧ Below w.heap.size w w' := by
  go_enter Try.func7, Try.ntmps7
  go_wp2_with fail
  refine (awake_true _).mono ?_
  rintro e w1 ⟨rfl, hb1⟩
  have B1 := Lib.hid hb1; clear hb1
  go_wp2_with fail
  go_ret
  exact ⟨rfl, B1.out⟩

def tAA : ByteArray := ⟨#[65, 65]⟩
def tB : ByteArray := ⟨#[66]⟩
/-- The roads of two made edits. -/
structure Roads (f : Bool) (s : ByteArray) (a b P Q : List C) (T V U : ByteArray) : Prop where
  tra : TraP f a b
  eP : normOf (traP f a b) = P
  eQ : normOf (traQ f a b) = Q
  fa : sumOf fromC a = s.size
  fb : sumOf fromC b = s.size
  ta : appB s 0 a = V
  tb : appB s 0 b = T
  mP : MayP P
  mQ : MayP Q
  fP : sumOf fromC P = T.size
  fQ : sumOf fromC Q = V.size
  uP : appB T 0 P = U
  uQ : appB V 0 Q = U
theorem made_roads {f : Bool} {s : ByteArray} {x p y q : Nat} {A B : ByteArray} {a b : List C} (ha : Made s.size x p A a) (hb : Made s.size y q B b) (hs : (s.size : Int) + A.size + B.size ≤ 4096) :
    ∃ P Q T V, Roads f s a b P Q T V (specB f s (keptAt x p) (keptAt y q) (putAt x A) (putAt y B) s.size 0) := by
  obtain ⟨tp, e1, e2⟩ := made_two (f := f) ha hb hs
  obtain ⟨n1, n2, -, -⟩ := tra_norm_sums (f := f) tp.1 tp.2.1 tp.2.2.1
  have sa := appB_size (s := s) (cs := a) (a := 0) (gd_of_may tp.1).soft (by omega) (by rw [ha.from']; omega)
  have sb := appB_size (s := s) (cs := b) (a := 0) (gd_of_may tp.2.1).soft (by omega) (by rw [hb.from']; omega)
  exact ⟨_, _, _, _, tp, rfl, rfl, ha.from', hb.from', rfl, rfl, tp.2.2.2.1, tp.2.2.2.2, by rw [n1, sb], by rw [n2, sa], e1, e2⟩

set_option maxRecDepth 100000 in
set_option maxHeartbeats 1000000 in
theorem tputs_1 (s : ByteArray) (i j : Int) (f : Bool) (w : World) (h : s.size ≤ 200) (x y : Nat) (hx : wrap64 ((IntKind.u64.wrap i).tmod ((s.size : Int) + 1)) = (x : Int)) (hy : wrap64 ((IntKind.u64.wrap j).tmod ((s.size : Int) + 1)) = (y : Int)) (hxs : x ≤ s.size) (hys : y ≤ s.size) (hxy : x < y) :
    Calls Try.prog 7 #[.string s, .int .i64 i, .int .i64 j, .bool f] w fun e w' => e = .returned (.bool true) ∧ Below w.heap.size w w' := by
  have HX := Lib.hid hx; have HY := Lib.hid hy
  have WANT : Hid (s.extract 0 x ++ ⟨#[65, 65]⟩ ++ s.extract x y ++ ⟨#[66]⟩ ++ s.extract y s.size = specB f s (keptAt x 0) (keptAt y 0) (putAt x tAA) (putAt y tB) s.size 0) := Lib.hid (two_less f s tAA tB hxy hys)
  generalize hU : specB f s (keptAt x 0) (keptAt y 0) (putAt x tAA) (putAt y tB) s.size 0 = U at WANT
  have HU := Lib.hid hU
  clear hx hy hU
  have hI1 : (x : Int) < (y : Int) := by omega
  have hI2 : (y : Int) ≤ (s.size : Int) := by omega
  have hI3 : (x : Int) ≤ (y : Int) := by omega
  have hI4 : (x : Int) ≤ (s.size : Int) := by omega
  go_enter Try.func7, Try.ntmps7
  go_wp2_with fail
  refine (awake_true _).mono ?_
  rintro e w1 ⟨rfl, hb1⟩
  have B1 := Lib.hid hb1; clear hb1
  go_wp2_with fail
  go_quiet (fail)
  rw [HX.out, HY.out]
  have B2 : Hid (Below w.heap.size w (w1.drewN nq)) := Lib.hid (B1.out.trans ((dr_below w1 nq).mono B1.out.size))
  generalize w1.drewN nq = w2 at B2 ⊢
  clear B1
  go_wp2_with fail
  refine (make_ok s ⟨#[65, 65]⟩ x 0 w2 (by omega) (by omega) (by decide) (by have h1 : (ByteArray.mk #[65, 65]).size = 2 := rfl; omega)).mono ?_
  rintro e w3 ⟨p3, c3, a, rfl, ho3, hm3, hb3⟩
  have B3 := Lib.hid (B2.out.trans (hb3.mono B2.out.size)); have A3 := Lib.hid ho3.row; have ca := ho3.capL'; have MA := Lib.hid hm3
  clear ho3 hm3 hb3 B2
  go_wp2_with fail
  refine (make_ok s ⟨#[66]⟩ y 0 w3 (by omega) (by omega) (by decide) (by have h1 : (ByteArray.mk #[66]).size = 1 := rfl; omega)).mono ?_
  rintro e w4 ⟨p4, c4, b, rfl, ho4, hm4, hb4⟩
  have B4 := Lib.hid (B3.out.trans (hb4.mono B3.out.size)); have A4 := Lib.hid (A3.out.below hb4); have BB4 := Lib.hid ho4.row; have cb := ho4.capL'; have MB := Lib.hid hm4
  clear ho4 hm4 hb4 B3 A3
  obtain ⟨P, Q, T, V, hro⟩ := made_roads (f := f) (A := tAA) (B := tB) MA.out MB.out (by have h1 : tAA.size = 2 := rfl; have h2 : tB.size = 1 := rfl; omega)
  rw [HU.out] at hro
  have RO := Lib.hid hro
  have la := MA.out.len
  have lb := MB.out.len
  clear hro MA MB HU
  go_wp2_with fail
  refine (transform_yesL _ _ a b P Q f _ _ _ _ rfl rfl _ A4.out BB4.out ca cb RO.out.tra RO.out.eP RO.out.eQ).mono ?_
  rintro e w5 ⟨p5, c5, q5, d5, rfl, ho5, hu5, hb5⟩
  have B5 := Lib.hid (B4.out.trans (hb5.mono B4.out.size)); have A5 := Lib.hid (A4.out.below hb5); have BB5 := Lib.hid (BB4.out.below hb5); have P5 := Lib.hid ho5.row; have Q5 := Lib.hid hu5.row
  clear ho5 hu5 hb5 B4 A4 BB4
  go_wp2_with fail
  refine (rapply_yesL s _ b _ _ rfl _ BB5.out RO.out.tra.2.1 RO.out.fb T RO.out.tb).mono ?_
  rintro e w6 ⟨rfl, hb6⟩
  have B6 := Lib.hid (B5.out.trans (hb6.mono B5.out.size)); have A6 := Lib.hid (A5.out.below hb6); have P6 := Lib.hid (P5.out.below hb6); have Q6 := Lib.hid (Q5.out.below hb6)
  clear hb6 B5 A5 BB5 P5 Q5
  go_wp2_with fail
  refine (rapply_yesL T _ P _ _ rfl _ P6.out RO.out.mP RO.out.fP U RO.out.uP).mono ?_
  rintro e w7 ⟨rfl, hb7⟩
  have B7 := Lib.hid (B6.out.trans (hb7.mono B6.out.size)); have A7 := Lib.hid (A6.out.below hb7); have Q7 := Lib.hid (Q6.out.below hb7)
  clear hb7 B6 A6 P6 Q6
  go_wp2_with fail
  refine (rapply_yesL s _ a _ _ rfl _ A7.out RO.out.tra.1 RO.out.fa V RO.out.ta).mono ?_
  rintro e w8 ⟨rfl, hb8⟩
  have B8 := Lib.hid (B7.out.trans (hb8.mono B7.out.size)); have Q8 := Lib.hid (Q7.out.below hb8)
  clear hb8 B7 A7 Q7
  go_wp2_with fail
  refine (rapply_yesL V _ Q _ _ rfl _ Q8.out RO.out.mQ RO.out.fQ U RO.out.uQ).mono ?_
  rintro e w9 ⟨rfl, hb9⟩
  have B9 := Lib.hid (B8.out.trans (hb9.mono B8.out.size))
  clear hb9 B8 Q8
  go_wp2_with fail
  go_quiet (fail)
  rw [WANT.out]
  have B10 : Hid (Below w.heap.size w (w9.drewN nq)) := Lib.hid (B9.out.trans ((dr_below w9 nq).mono B9.out.size))
  generalize w9.drewN nq = w10 at B10 ⊢
  go_wp2_with (go_at_call 14; refine (num_any _ _).mono ?_; rintro e w' ⟨rfl, rfl⟩)
  go_ret
  exact ⟨rfl, B10.out⟩
set_option maxRecDepth 100000 in
set_option maxHeartbeats 1000000 in
theorem tputs_2 (s : ByteArray) (i j : Int) (w : World) (h : s.size ≤ 200) (x : Nat) (hx : wrap64 ((IntKind.u64.wrap i).tmod ((s.size : Int) + 1)) = (x : Int)) (hy : wrap64 ((IntKind.u64.wrap j).tmod ((s.size : Int) + 1)) = (x : Int)) (hxs : x ≤ s.size) :
    Calls Try.prog 7 #[.string s, .int .i64 i, .int .i64 j, .bool true] w fun e w' => e = .returned (.bool true) ∧ Below w.heap.size w w' := by
  have HX := Lib.hid hx; have HY := Lib.hid hy
  have WANT : Hid (s.extract 0 x ++ ⟨#[65, 65]⟩ ++ ⟨#[66]⟩ ++ s.extract x s.size = specB true s (keptAt x 0) (keptAt x 0) (putAt x tAA) (putAt x tB) s.size 0) := Lib.hid (by have hh := two_first s tAA tB hxs; rw [ext_nil, e0_right] at hh; exact hh)
  generalize hU : specB true s (keptAt x 0) (keptAt x 0) (putAt x tAA) (putAt x tB) s.size 0 = U at WANT
  have HU := Lib.hid hU
  clear hx hy hU
  have hI4 : (x : Int) ≤ (s.size : Int) := by omega
  go_enter Try.func7, Try.ntmps7
  go_wp2_with fail
  refine (awake_true _).mono ?_
  rintro e w1 ⟨rfl, hb1⟩
  have B1 := Lib.hid hb1; clear hb1
  go_wp2_with fail
  go_quiet (fail)
  rw [HX.out, HY.out]
  have B2 : Hid (Below w.heap.size w (w1.drewN nq)) := Lib.hid (B1.out.trans ((dr_below w1 nq).mono B1.out.size))
  generalize w1.drewN nq = w2 at B2 ⊢
  clear B1
  go_wp2_with fail
  refine (make_ok s ⟨#[65, 65]⟩ x 0 w2 (by omega) (by omega) (by decide) (by have h1 : (ByteArray.mk #[65, 65]).size = 2 := rfl; omega)).mono ?_
  rintro e w3 ⟨p3, c3, a, rfl, ho3, hm3, hb3⟩
  have B3 := Lib.hid (B2.out.trans (hb3.mono B2.out.size)); have A3 := Lib.hid ho3.row; have ca := ho3.capL'; have MA := Lib.hid hm3
  clear ho3 hm3 hb3 B2
  go_wp2_with fail
  refine (make_ok s ⟨#[66]⟩ x 0 w3 (by omega) (by omega) (by decide) (by have h1 : (ByteArray.mk #[66]).size = 1 := rfl; omega)).mono ?_
  rintro e w4 ⟨p4, c4, b, rfl, ho4, hm4, hb4⟩
  have B4 := Lib.hid (B3.out.trans (hb4.mono B3.out.size)); have A4 := Lib.hid (A3.out.below hb4); have BB4 := Lib.hid ho4.row; have cb := ho4.capL'; have MB := Lib.hid hm4
  clear ho4 hm4 hb4 B3 A3
  obtain ⟨P, Q, T, V, hro⟩ := made_roads (f := true) (A := tAA) (B := tB) MA.out MB.out (by have h1 : tAA.size = 2 := rfl; have h2 : tB.size = 1 := rfl; omega)
  rw [HU.out] at hro
  have RO := Lib.hid hro
  have la := MA.out.len
  have lb := MB.out.len
  clear hro MA MB HU
  go_wp2_with fail
  refine (transform_yesL _ _ a b P Q true _ _ _ _ rfl rfl _ A4.out BB4.out ca cb RO.out.tra RO.out.eP RO.out.eQ).mono ?_
  rintro e w5 ⟨p5, c5, q5, d5, rfl, ho5, hu5, hb5⟩
  have B5 := Lib.hid (B4.out.trans (hb5.mono B4.out.size)); have A5 := Lib.hid (A4.out.below hb5); have BB5 := Lib.hid (BB4.out.below hb5); have P5 := Lib.hid ho5.row; have Q5 := Lib.hid hu5.row
  clear ho5 hu5 hb5 B4 A4 BB4
  go_wp2_with fail
  refine (rapply_yesL s _ b _ _ rfl _ BB5.out RO.out.tra.2.1 RO.out.fb T RO.out.tb).mono ?_
  rintro e w6 ⟨rfl, hb6⟩
  have B6 := Lib.hid (B5.out.trans (hb6.mono B5.out.size)); have A6 := Lib.hid (A5.out.below hb6); have P6 := Lib.hid (P5.out.below hb6); have Q6 := Lib.hid (Q5.out.below hb6)
  clear hb6 B5 A5 BB5 P5 Q5
  go_wp2_with fail
  refine (rapply_yesL T _ P _ _ rfl _ P6.out RO.out.mP RO.out.fP U RO.out.uP).mono ?_
  rintro e w7 ⟨rfl, hb7⟩
  have B7 := Lib.hid (B6.out.trans (hb7.mono B6.out.size)); have A7 := Lib.hid (A6.out.below hb7); have Q7 := Lib.hid (Q6.out.below hb7)
  clear hb7 B6 A6 P6 Q6
  go_wp2_with fail
  refine (rapply_yesL s _ a _ _ rfl _ A7.out RO.out.tra.1 RO.out.fa V RO.out.ta).mono ?_
  rintro e w8 ⟨rfl, hb8⟩
  have B8 := Lib.hid (B7.out.trans (hb8.mono B7.out.size)); have Q8 := Lib.hid (Q7.out.below hb8)
  clear hb8 B7 A7 Q7
  go_wp2_with fail
  refine (rapply_yesL V _ Q _ _ rfl _ Q8.out RO.out.mQ RO.out.fQ U RO.out.uQ).mono ?_
  rintro e w9 ⟨rfl, hb9⟩
  have B9 := Lib.hid (B8.out.trans (hb9.mono B8.out.size))
  clear hb9 B8 Q8
  go_wp2_with fail
  go_quiet (fail)
  rw [WANT.out]
  have B10 : Hid (Below w.heap.size w (w9.drewN nq)) := Lib.hid (B9.out.trans ((dr_below w9 nq).mono B9.out.size))
  generalize w9.drewN nq = w10 at B10 ⊢
  go_wp2_with (go_at_call 14; refine (num_any _ _).mono ?_; rintro e w' ⟨rfl, rfl⟩)
  go_ret
  exact ⟨rfl, B10.out⟩
set_option maxRecDepth 100000 in
set_option maxHeartbeats 1000000 in
theorem tputs_3 (s : ByteArray) (i j : Int) (f : Bool) (w : World) (h : s.size ≤ 200) (x y : Nat) (hx : wrap64 ((IntKind.u64.wrap i).tmod ((s.size : Int) + 1)) = (x : Int)) (hy : wrap64 ((IntKind.u64.wrap j).tmod ((s.size : Int) + 1)) = (y : Int)) (hxs : x ≤ s.size) (hys : y ≤ s.size) (hxy : y < x) :
    Calls Try.prog 7 #[.string s, .int .i64 i, .int .i64 j, .bool f] w fun e w' => e = .returned (.bool true) ∧ Below w.heap.size w w' := by
  have HX := Lib.hid hx; have HY := Lib.hid hy
  have WANT : Hid (s.extract 0 y ++ ⟨#[66]⟩ ++ s.extract y x ++ ⟨#[65, 65]⟩ ++ s.extract x s.size = specB f s (keptAt x 0) (keptAt y 0) (putAt x tAA) (putAt y tB) s.size 0) := Lib.hid (two_more f s tAA tB hxy hxs)
  generalize hU : specB f s (keptAt x 0) (keptAt y 0) (putAt x tAA) (putAt y tB) s.size 0 = U at WANT
  have HU := Lib.hid hU
  clear hx hy hU
  have hI1 : ¬ (x : Int) < (y : Int) := by omega
  have hI0 : ¬ (x : Int) = (y : Int) := by omega
  have hI2 : (y : Int) ≤ (s.size : Int) := by omega
  have hI3 : (y : Int) ≤ (x : Int) := by omega
  have hI4 : (x : Int) ≤ (s.size : Int) := by omega
  go_enter Try.func7, Try.ntmps7
  go_wp2_with fail
  refine (awake_true _).mono ?_
  rintro e w1 ⟨rfl, hb1⟩
  have B1 := Lib.hid hb1; clear hb1
  go_wp2_with fail
  go_quiet (fail)
  rw [HX.out, HY.out]
  have B2 : Hid (Below w.heap.size w (w1.drewN nq)) := Lib.hid (B1.out.trans ((dr_below w1 nq).mono B1.out.size))
  generalize w1.drewN nq = w2 at B2 ⊢
  clear B1
  go_wp2_with fail
  refine (make_ok s ⟨#[65, 65]⟩ x 0 w2 (by omega) (by omega) (by decide) (by have h1 : (ByteArray.mk #[65, 65]).size = 2 := rfl; omega)).mono ?_
  rintro e w3 ⟨p3, c3, a, rfl, ho3, hm3, hb3⟩
  have B3 := Lib.hid (B2.out.trans (hb3.mono B2.out.size)); have A3 := Lib.hid ho3.row; have ca := ho3.capL'; have MA := Lib.hid hm3
  clear ho3 hm3 hb3 B2
  go_wp2_with fail
  refine (make_ok s ⟨#[66]⟩ y 0 w3 (by omega) (by omega) (by decide) (by have h1 : (ByteArray.mk #[66]).size = 1 := rfl; omega)).mono ?_
  rintro e w4 ⟨p4, c4, b, rfl, ho4, hm4, hb4⟩
  have B4 := Lib.hid (B3.out.trans (hb4.mono B3.out.size)); have A4 := Lib.hid (A3.out.below hb4); have BB4 := Lib.hid ho4.row; have cb := ho4.capL'; have MB := Lib.hid hm4
  clear ho4 hm4 hb4 B3 A3
  obtain ⟨P, Q, T, V, hro⟩ := made_roads (f := f) (A := tAA) (B := tB) MA.out MB.out (by have h1 : tAA.size = 2 := rfl; have h2 : tB.size = 1 := rfl; omega)
  rw [HU.out] at hro
  have RO := Lib.hid hro
  have la := MA.out.len
  have lb := MB.out.len
  clear hro MA MB HU
  go_wp2_with fail
  refine (transform_yesL _ _ a b P Q f _ _ _ _ rfl rfl _ A4.out BB4.out ca cb RO.out.tra RO.out.eP RO.out.eQ).mono ?_
  rintro e w5 ⟨p5, c5, q5, d5, rfl, ho5, hu5, hb5⟩
  have B5 := Lib.hid (B4.out.trans (hb5.mono B4.out.size)); have A5 := Lib.hid (A4.out.below hb5); have BB5 := Lib.hid (BB4.out.below hb5); have P5 := Lib.hid ho5.row; have Q5 := Lib.hid hu5.row
  clear ho5 hu5 hb5 B4 A4 BB4
  go_wp2_with fail
  refine (rapply_yesL s _ b _ _ rfl _ BB5.out RO.out.tra.2.1 RO.out.fb T RO.out.tb).mono ?_
  rintro e w6 ⟨rfl, hb6⟩
  have B6 := Lib.hid (B5.out.trans (hb6.mono B5.out.size)); have A6 := Lib.hid (A5.out.below hb6); have P6 := Lib.hid (P5.out.below hb6); have Q6 := Lib.hid (Q5.out.below hb6)
  clear hb6 B5 A5 BB5 P5 Q5
  go_wp2_with fail
  refine (rapply_yesL T _ P _ _ rfl _ P6.out RO.out.mP RO.out.fP U RO.out.uP).mono ?_
  rintro e w7 ⟨rfl, hb7⟩
  have B7 := Lib.hid (B6.out.trans (hb7.mono B6.out.size)); have A7 := Lib.hid (A6.out.below hb7); have Q7 := Lib.hid (Q6.out.below hb7)
  clear hb7 B6 A6 P6 Q6
  go_wp2_with fail
  refine (rapply_yesL s _ a _ _ rfl _ A7.out RO.out.tra.1 RO.out.fa V RO.out.ta).mono ?_
  rintro e w8 ⟨rfl, hb8⟩
  have B8 := Lib.hid (B7.out.trans (hb8.mono B7.out.size)); have Q8 := Lib.hid (Q7.out.below hb8)
  clear hb8 B7 A7 Q7
  go_wp2_with fail
  refine (rapply_yesL V _ Q _ _ rfl _ Q8.out RO.out.mQ RO.out.fQ U RO.out.uQ).mono ?_
  rintro e w9 ⟨rfl, hb9⟩
  have B9 := Lib.hid (B8.out.trans (hb9.mono B8.out.size))
  clear hb9 B8 Q8
  go_wp2_with fail
  go_quiet (fail)
  rw [WANT.out]
  have B10 : Hid (Below w.heap.size w (w9.drewN nq)) := Lib.hid (B9.out.trans ((dr_below w9 nq).mono B9.out.size))
  generalize w9.drewN nq = w10 at B10 ⊢
  go_wp2_with (go_at_call 14; refine (num_any _ _).mono ?_; rintro e w' ⟨rfl, rfl⟩)
  go_ret
  exact ⟨rfl, B10.out⟩
set_option maxRecDepth 100000 in
set_option maxHeartbeats 1000000 in
theorem tputs_4 (s : ByteArray) (i j : Int) (w : World) (h : s.size ≤ 200) (x : Nat) (hx : wrap64 ((IntKind.u64.wrap i).tmod ((s.size : Int) + 1)) = (x : Int)) (hy : wrap64 ((IntKind.u64.wrap j).tmod ((s.size : Int) + 1)) = (x : Int)) (hxs : x ≤ s.size) :
    Calls Try.prog 7 #[.string s, .int .i64 i, .int .i64 j, .bool false] w fun e w' => e = .returned (.bool true) ∧ Below w.heap.size w w' := by
  have HX := Lib.hid hx; have HY := Lib.hid hy
  have WANT : Hid (s.extract 0 x ++ ⟨#[66]⟩ ++ ⟨#[65, 65]⟩ ++ s.extract x s.size = specB false s (keptAt x 0) (keptAt x 0) (putAt x tAA) (putAt x tB) s.size 0) := Lib.hid (by have hh := two_second s tAA tB hxs; rw [ext_nil, e0_right] at hh; exact hh)
  generalize hU : specB false s (keptAt x 0) (keptAt x 0) (putAt x tAA) (putAt x tB) s.size 0 = U at WANT
  have HU := Lib.hid hU
  clear hx hy hU
  have hI4 : (x : Int) ≤ (s.size : Int) := by omega
  go_enter Try.func7, Try.ntmps7
  go_wp2_with fail
  refine (awake_true _).mono ?_
  rintro e w1 ⟨rfl, hb1⟩
  have B1 := Lib.hid hb1; clear hb1
  go_wp2_with fail
  go_quiet (fail)
  rw [HX.out, HY.out]
  have B2 : Hid (Below w.heap.size w (w1.drewN nq)) := Lib.hid (B1.out.trans ((dr_below w1 nq).mono B1.out.size))
  generalize w1.drewN nq = w2 at B2 ⊢
  clear B1
  go_wp2_with fail
  refine (make_ok s ⟨#[65, 65]⟩ x 0 w2 (by omega) (by omega) (by decide) (by have h1 : (ByteArray.mk #[65, 65]).size = 2 := rfl; omega)).mono ?_
  rintro e w3 ⟨p3, c3, a, rfl, ho3, hm3, hb3⟩
  have B3 := Lib.hid (B2.out.trans (hb3.mono B2.out.size)); have A3 := Lib.hid ho3.row; have ca := ho3.capL'; have MA := Lib.hid hm3
  clear ho3 hm3 hb3 B2
  go_wp2_with fail
  refine (make_ok s ⟨#[66]⟩ x 0 w3 (by omega) (by omega) (by decide) (by have h1 : (ByteArray.mk #[66]).size = 1 := rfl; omega)).mono ?_
  rintro e w4 ⟨p4, c4, b, rfl, ho4, hm4, hb4⟩
  have B4 := Lib.hid (B3.out.trans (hb4.mono B3.out.size)); have A4 := Lib.hid (A3.out.below hb4); have BB4 := Lib.hid ho4.row; have cb := ho4.capL'; have MB := Lib.hid hm4
  clear ho4 hm4 hb4 B3 A3
  obtain ⟨P, Q, T, V, hro⟩ := made_roads (f := false) (A := tAA) (B := tB) MA.out MB.out (by have h1 : tAA.size = 2 := rfl; have h2 : tB.size = 1 := rfl; omega)
  rw [HU.out] at hro
  have RO := Lib.hid hro
  have la := MA.out.len
  have lb := MB.out.len
  clear hro MA MB HU
  go_wp2_with fail
  refine (transform_yesL _ _ a b P Q false _ _ _ _ rfl rfl _ A4.out BB4.out ca cb RO.out.tra RO.out.eP RO.out.eQ).mono ?_
  rintro e w5 ⟨p5, c5, q5, d5, rfl, ho5, hu5, hb5⟩
  have B5 := Lib.hid (B4.out.trans (hb5.mono B4.out.size)); have A5 := Lib.hid (A4.out.below hb5); have BB5 := Lib.hid (BB4.out.below hb5); have P5 := Lib.hid ho5.row; have Q5 := Lib.hid hu5.row
  clear ho5 hu5 hb5 B4 A4 BB4
  go_wp2_with fail
  refine (rapply_yesL s _ b _ _ rfl _ BB5.out RO.out.tra.2.1 RO.out.fb T RO.out.tb).mono ?_
  rintro e w6 ⟨rfl, hb6⟩
  have B6 := Lib.hid (B5.out.trans (hb6.mono B5.out.size)); have A6 := Lib.hid (A5.out.below hb6); have P6 := Lib.hid (P5.out.below hb6); have Q6 := Lib.hid (Q5.out.below hb6)
  clear hb6 B5 A5 BB5 P5 Q5
  go_wp2_with fail
  refine (rapply_yesL T _ P _ _ rfl _ P6.out RO.out.mP RO.out.fP U RO.out.uP).mono ?_
  rintro e w7 ⟨rfl, hb7⟩
  have B7 := Lib.hid (B6.out.trans (hb7.mono B6.out.size)); have A7 := Lib.hid (A6.out.below hb7); have Q7 := Lib.hid (Q6.out.below hb7)
  clear hb7 B6 A6 P6 Q6
  go_wp2_with fail
  refine (rapply_yesL s _ a _ _ rfl _ A7.out RO.out.tra.1 RO.out.fa V RO.out.ta).mono ?_
  rintro e w8 ⟨rfl, hb8⟩
  have B8 := Lib.hid (B7.out.trans (hb8.mono B7.out.size)); have Q8 := Lib.hid (Q7.out.below hb8)
  clear hb8 B7 A7 Q7
  go_wp2_with fail
  refine (rapply_yesL V _ Q _ _ rfl _ Q8.out RO.out.mQ RO.out.fQ U RO.out.uQ).mono ?_
  rintro e w9 ⟨rfl, hb9⟩
  have B9 := Lib.hid (B8.out.trans (hb9.mono B8.out.size))
  clear hb9 B8 Q8
  go_wp2_with fail
  go_quiet (fail)
  rw [WANT.out]
  have B10 : Hid (Below w.heap.size w (w9.drewN nq)) := Lib.hid (B9.out.trans ((dr_below w9 nq).mono B9.out.size))
  generalize w9.drewN nq = w10 at B10 ⊢
  go_wp2_with (go_at_call 14; refine (num_any _ _).mono ?_; rintro e w' ⟨rfl, rfl⟩)
  go_ret
  exact ⟨rfl, B10.out⟩
theorem tputs_true (s : ByteArray) (i j : Int) (f : Bool) (w : World) :
    Calls Try.prog 7 #[.string s, .int .i64 i, .int .i64 j, .bool f] w fun e w' => e = .returned (.bool true) ∧ Below w.heap.size w w' := by
  by_cases h : 200 < s.size
  · exact tputs_long s i j f w h
  · obtain ⟨x, hx, hxs⟩ := place_mod i s.size (by omega)
    obtain ⟨y, hy, hys⟩ := place_mod j s.size (by omega)
    rcases Nat.lt_trichotomy x y with hxy | rfl | hxy
    · exact tputs_1 s i j f w (by omega) x y hx hy hxs hys hxy
    · cases f
      · exact tputs_4 s i j w (by omega) x hx hy hxs
      · exact tputs_2 s i j w (by omega) x hx hy hxs
    · exact tputs_3 s i j f w (by omega) x y hx hy hxs hys hxy

end Go.Proofs.Ytkknkannjoijbaa
