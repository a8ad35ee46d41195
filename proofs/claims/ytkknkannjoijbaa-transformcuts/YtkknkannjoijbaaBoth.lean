/-
  The walk of the law TransformBoth. Conditions: as the theorems' premises say.
-/
import Derived.Test.YtkknkannjoijbaaBet
import Derived.Test.YtkknkannjoijbaaMeets
import Derived.Test.YtkknkannjoijbaaRCom
import Derived.Test.YtkknkannjoijbaaRApp
namespace Go.Proofs.Ytkknkannjoijbaa
open Go.RowKit

def BetSome (w : World) (e : Ending) (w' : World) : Prop := ∃ (p : Option Addr) (c : List C) (cap : Nat) (n : Int), e = .returned (.tuple #[.slice p c.length cap, .int .i64 n]) ∧ RowC w' p c ∧ c.length ≤ cap ∧ Below w.heap.size w w'
theorem between_some (s t : ByteArray) (w : World) : Calls Try.prog 23 #[.string s, .string t] w (BetSome w) := by
  by_cases h : 4096 < s.size ∨ 4096 < t.size
  · exact (between_no s t w h).mono fun _ _ ⟨h1, h2⟩ => ⟨none, [], 0, _, h1, nil_row _, Nat.le_refl _, h2⟩
  · refine (between_ok s t w (by omega) (by omega)).mono ?_
    rintro e w' ⟨p, cap, c, rfl, ho, -, hb⟩
    exact ⟨_, _, _, _, rfl, ho.row, ho.capL', hb⟩
theorem rapply_yesL (s : ByteArray) (p : Option Addr) (cs : List C) (L cap : Nat) (hL : cs.length = L) (w : World) (hr : RowC w p cs) (hm : MayP cs) (hf : sumOf fromC cs = s.size) (X : ByteArray) (hX : appB s 0 cs = X) :
    Calls Try.prog 22 #[.string s, .slice p L cap] w fun e w' => e = .returned (.tuple #[.string X, .int .i64 0]) ∧ Below w.heap.size w w' := by
  subst hL; subst hX
  refine (rapply_any s p cs cap w hr).mono ?_
  rintro e w' ⟨hb, ⟨rfl, -⟩ | ⟨-, hno⟩⟩
  · exact ⟨rfl, hb⟩
  · exact absurd ⟨hm, hf⟩ hno
theorem rapply_noL (s : ByteArray) (p : Option Addr) (cs : List C) (L cap : Nat) (hL : cs.length = L) (w : World) (hr : RowC w p cs) (hno : ¬ (MayP cs ∧ sumOf fromC cs = s.size)) :
    Calls Try.prog 22 #[.string s, .slice p L cap] w fun e w' => e = .returned (.tuple #[.string ⟨#[]⟩, .int .i64 300]) ∧ Below w.heap.size w w' := by
  subst hL
  refine (rapply_any s p cs cap w hr).mono ?_
  rintro e w' ⟨hb, ⟨-, hyes⟩ | ⟨rfl, -⟩⟩
  · exact absurd hyes hno
  · exact ⟨rfl, hb⟩
def SomeCom (w : World) (e : Ending) (w' : World) : Prop := ∃ (v : Value) (n : Int), e = .returned (.tuple #[v, .int .i64 n]) ∧ Below w.heap.size w w'
theorem rcompose_some (p q : Option Addr) (a b : List C) (cap cap2 : Nat) (w : World) (ra : RowC w p a) (rb : RowC w q b) : Calls Try.prog 24 #[.slice p a.length cap, .slice q b.length cap2] w (SomeCom w) := by
  refine (rcompose_any p q a b cap cap2 w ra rb).mono ?_
  rintro e w' ⟨hb, ⟨-, v, rfl, -⟩ | ⟨-, rfl⟩⟩
  · exact ⟨_, _, rfl, hb⟩
  · exact ⟨_, _, rfl, hb⟩
theorem rcompose_yesL (p q : Option Addr) (a b out : List C) (cap cap2 : Nat) (w : World) (ra : RowC w p a) (rb : RowC w q b) (hc : ComP a b) (ho : normOf (joinL a b) = out) :
    Calls Try.prog 24 #[.slice p a.length cap, .slice q b.length cap2] w fun e w' => ∃ p' cap', e = .returned (.tuple #[.slice p' out.length cap', .int .i64 0]) ∧ RowC w' p' out ∧ out.length ≤ cap' ∧ Below w.heap.size w w' := by
  subst ho
  refine (rcompose_any p q a b cap cap2 w ra rb).mono ?_
  rintro e w' ⟨hb, ⟨-, v, rfl, ho⟩ | ⟨hno, -⟩⟩
  · obtain ⟨pv, cv, rfl⟩ := ho.form
    exact ⟨pv, cv, rfl, ho.row, ho.capL', hb⟩
  · exact absurd hc hno
theorem rcompose_noL (p q : Option Addr) (a b : List C) (cap cap2 : Nat) (w : World) (ra : RowC w p a) (rb : RowC w q b) (hc : ¬ ComP a b) :
    Calls Try.prog 24 #[.slice p a.length cap, .slice q b.length cap2] w fun e w' => e = .returned (.tuple #[.slice none 0 0, .int .i64 400]) ∧ Below w.heap.size w w' := by
  refine (rcompose_any p q a b cap cap2 w ra rb).mono ?_
  rintro e w' ⟨hb, ⟨hyes, -⟩ | ⟨-, rfl⟩⟩
  · exact absurd hyes hc
  · exact ⟨rfl, hb⟩

theorem to_le {cs : List C} (h : ∀ c ∈ cs, c.Soft) : sumOf toC cs ≤ sumOf fromC cs + sumOf putZ cs := by
  induction cs with
  | nil => simp [sumOf]
  | cons c cs ih =>
    have h1 := ih fun x hx => h x (by simp [hx])
    have h2 : toC c ≤ fromC c + putZ c := by
      rcases soft_form (h c (by simp)) with ⟨m, hm, rfl⟩ | ⟨m, hm, rfl⟩ | ⟨t, rfl⟩
      · simp [toC, fromC, putZ, C.sz, e0_size]
      · simp [toC, fromC, putZ]; exact hm
      · simp [toC, fromC, putZ]
    simp only [sumOf]; omega
/-- What is small goes behind what is small. -/
theorem both_ab {f : Bool} {s t : ByteArray} {a b : List C} (ha : MayP a) (hb : MayP b) (hsb : sumOf fromC b = s.size) (eq : sumOf fromC a = sumOf fromC b) (hsm : (a.length : Int) + b.length + s.size + t.size + sumOf putZ a + sumOf putZ b ≤ 1000) : TraP f a b := by
  have h1 := to_le (gd_of_may ha).soft
  have p1 := sumOf_nonneg (f := putZ) (cs := a) fun c hc => put_nonneg (gd_of_may ha c hc).1
  have p2 := sumOf_nonneg (f := putZ) (cs := b) fun c hc => put_nonneg (gd_of_may hb c hc).1
  exact tra_may ha hb eq (by omega) (by omega)
theorem both_pc {f : Bool} {s t : ByteArray} {a b c : List C} (h : TraP f a b) (hsb : sumOf fromC b = s.size) (hc : Leads (appB s 0 b) t c) (hsm : (a.length : Int) + b.length + s.size + t.size + sumOf putZ a + sumOf putZ b ≤ 1000) : TraP f (normOf (traP f a b)) c := by
  obtain ⟨ha, hb, eq, hP, -⟩ := h
  obtain ⟨cm, cl, cf, ct, -⟩ := hc
  have h1 := to_le (gd_of_may ha).soft
  have p1 := sumOf_nonneg (f := putZ) (cs := a) fun c hc => put_nonneg (gd_of_may ha c hc).1
  have p2 := sumOf_nonneg (f := putZ) (cs := b) fun c hc => put_nonneg (gd_of_may hb c hc).1
  have p3 := sum_put_le (gd_of_may cm).soft
  obtain ⟨n1, n2, n3, n4⟩ := tra_norm_sums (f := f) ha hb eq
  have l1 := traP_length f a b
  have l2 := normOf_length (traP f a b)
  have sb := appB_size (s := s) (cs := b) (a := 0) (gd_of_may hb).soft (by omega) (by omega)
  exact tra_may hP cm (by omega) (by omega) (by omega)
theorem both_ad {f : Bool} {s t : ByteArray} {a b c : List C} (ha : MayP a) (hsb : sumOf fromC b = s.size) (eq : sumOf fromC a = sumOf fromC b) (hc : Leads (appB s 0 b) t c) (hd : ComP b c) (hsm : (a.length : Int) + b.length + s.size + t.size + sumOf putZ a + sumOf putZ b ≤ 1000) : TraP f a (normOf (joinL b c)) := by
  obtain ⟨hb, cm, bc, dm⟩ := hd
  obtain ⟨-, cl, cf, ct, -⟩ := hc
  have h1 := to_le (gd_of_may ha).soft
  have p1 := sumOf_nonneg (f := putZ) (cs := a) fun c hc => put_nonneg (gd_of_may ha c hc).1
  have p2 := sumOf_nonneg (f := putZ) (cs := b) fun c hc => put_nonneg (gd_of_may hb c hc).1
  have p3 := sum_put_le (gd_of_may dm).soft
  obtain ⟨n1, n2⟩ := com_sums hb cm bc
  have l1 := joinL_length b c
  have l2 := normOf_length (joinL b c)
  exact tra_may ha dm (by omega) (by omega) (by omega)
theorem both_not {f : Bool} {s t : ByteArray} {a b c : List C} (hsb : sumOf fromC b = s.size) (hd : ComP b c) (hsm : MayP a → (a.length : Int) + b.length + s.size + t.size + sumOf putZ a + sumOf putZ b ≤ 1000) (hn : ¬ TraP f a b) : ¬ TraP f a (normOf (joinL b c)) := fun h => by
  obtain ⟨n1, n2⟩ := com_sums hd.1 hd.2.1 hd.2.2.1
  exact hn (both_ab (t := t) h.1 hd.1 hsb (by rw [h.2.2.1, n1]) (hsm h.1))

set_option maxRecDepth 100000 in
set_option maxHeartbeats 1000000 in
theorem both_no1 (s t : ByteArray) (p q : Option Addr) (a b : List C) (f : Bool) (cap cap2 : Nat) (w : World) (ra : RowC w p a) (rb : RowC w q b) (_ca : a.length ≤ cap) (_cb : b.length ≤ cap2) (hn : ¬ (MayP b ∧ sumOf fromC b = s.size)) :
    Calls Try.prog 9 #[.string s, .slice p a.length cap, .slice q b.length cap2, .string t, .bool f] w fun e w' => e = .returned (.bool true) ∧ Below w.heap.size w w' := by
  have RA := Lib.hid ra; have RB := Lib.hid rb
  clear ra rb
  have HN := Lib.hid hn
  clear hn
  go_enter Try.func9, Try.ntmps9
  go_wp2_with fail
  refine (awake_true _).mono ?_
  rintro e w1 ⟨rfl, hb1⟩
  have B1 := Lib.hid hb1; clear hb1
  go_wp2_with fail
  refine (rapply_noL s _ b _ _ rfl _ (RB.out.below B1.out) HN.out).mono ?_
  rintro e w2 ⟨rfl, hb2⟩
  have B2 := Lib.hid (B1.out.trans (hb2.mono B1.out.size)); clear hb2 B1
  go_wp2_with fail
  refine (between_some _ _ _).mono ?_
  rintro e w3 ⟨p3, c3, cap3, n3, rfl, hr3, hc3, hb3⟩
  have B3 := Lib.hid (B2.out.trans (hb3.mono B2.out.size)); have R3 := Lib.hid hr3; clear hb3 hr3 B2
  go_wp2_with fail
  refine (rcompose_some _ _ b c3 _ _ _ (RB.out.below B3.out) R3.out).mono ?_
  rintro e w4 ⟨v4, n4, rfl, hb4⟩
  have B4 := Lib.hid (B3.out.trans (hb4.mono B3.out.size)); clear hb4 B3 R3
  go_wp2_with fail
  go_ret
  exact ⟨rfl, B4.out⟩

set_option maxRecDepth 100000 in
set_option maxHeartbeats 1000000 in
theorem both_no2 (s t : ByteArray) (p q : Option Addr) (a b : List C) (f : Bool) (cap cap2 : Nat) (w : World) (ra : RowC w p a) (rb : RowC w q b) (_ca : a.length ≤ cap) (_cb : b.length ≤ cap2) (T : ByteArray) (hb : MayP b) (hs : sumOf fromC b = s.size) (hT : appB s 0 b = T) (hn : 4096 < t.size) :
    Calls Try.prog 9 #[.string s, .slice p a.length cap, .slice q b.length cap2, .string t, .bool f] w fun e w' => e = .returned (.bool true) ∧ Below w.heap.size w w' := by
  have RA := Lib.hid ra; have RB := Lib.hid rb
  clear ra rb
  have HB := Lib.hid hb
  have HS := Lib.hid hs
  have HT := Lib.hid hT
  clear hb hs hT
  go_enter Try.func9, Try.ntmps9
  go_wp2_with fail
  refine (awake_true _).mono ?_
  rintro e w1 ⟨rfl, hb1⟩
  have B1 := Lib.hid hb1; clear hb1
  go_wp2_with fail
  refine (rapply_yesL s _ b _ _ rfl _ (RB.out.below B1.out) HB.out HS.out T HT.out).mono ?_
  rintro e w2 ⟨rfl, hb2⟩
  have B2 := Lib.hid (B1.out.trans (hb2.mono B1.out.size)); clear hb2 B1
  go_wp2_with fail
  refine (between_no _ _ _ (.inr hn)).mono ?_
  rintro e w3 ⟨rfl, hb3⟩
  have B3 := Lib.hid (B2.out.trans (hb3.mono B2.out.size)); clear hb3 B2
  go_wp2_with fail
  refine (rcompose_some _ _ b [] _ _ _ (RB.out.below B3.out) (nil_row _)).mono ?_
  rintro e w4 ⟨v4, n4, rfl, hb4⟩
  have B4 := Lib.hid (B3.out.trans (hb4.mono B3.out.size)); clear hb4 B3
  go_wp2_with fail
  go_ret
  exact ⟨rfl, B4.out⟩

set_option maxRecDepth 100000 in
set_option maxHeartbeats 1000000 in
theorem both_go (s t : ByteArray) (p q : Option Addr) (a b : List C) (f : Bool) (cap cap2 : Nat) (w : World) (ra : RowC w p a) (rb : RowC w q b) (ca : a.length ≤ cap) (cb : b.length ≤ cap2) (T : ByteArray) (ha : MayP a) (hb : MayP b) (hs : sumOf fromC b = s.size) (hT : appB s 0 b = T) (ht4 : t.size ≤ 4096) (KA KB : Int) (hKA : sumOf putZ a = KA) (hKB : sumOf putZ b = KB) :
    Calls Try.prog 9 #[.string s, .slice p a.length cap, .slice q b.length cap2, .string t, .bool f] w fun e w' => e = .returned (.bool true) ∧ Below w.heap.size w w' := by
  have RA := Lib.hid ra; have RB := Lib.hid rb
  clear ra rb
  have hls : s.size ≤ 4096 := by have := (okB_iff.1 hb.1).2.2.1; omega
  have hlb : b.length ≤ 4096 := (okB_iff.1 hb.1).1
  have hts : T.size ≤ 4096 := by
    have := appB_size (s := s) (cs := b) (a := 0) (gd_of_may hb).soft (by omega) (by omega)
    have := (okB_iff.1 hb.1).2.2.2
    rw [← hT]; omega
  have hKB0 : 0 ≤ KB ∧ KB ≤ 4096 := by rw [← hKB]; exact ⟨sumOf_nonneg fun c hc => put_nonneg (gd_of_may hb c hc).1, Int.le_trans (sum_put_le (gd_of_may hb).soft) (okB_iff.1 hb.1).2.2.2⟩
  obtain ⟨hKB1, hKB2⟩ := hKB0
  have hla : a.length ≤ 4096 := (okB_iff.1 ha.1).1
  have hKA0 : 0 ≤ KA ∧ KA ≤ 4096 := by rw [← hKA]; exact ⟨sumOf_nonneg fun c hc => put_nonneg (gd_of_may ha c hc).1, Int.le_trans (sum_put_le (gd_of_may ha).soft) (okB_iff.1 ha.1).2.2.2⟩
  obtain ⟨hKA1, hKA2⟩ := hKA0
  have HA := Lib.hid ha
  have HB := Lib.hid hb
  have HS := Lib.hid hs
  have HT := Lib.hid hT
  have HKA := Lib.hid hKA
  have HKB := Lib.hid hKB
  clear ha hb hs hT hKA hKB
  go_enter Try.func9, Try.ntmps9
  go_wp2_with fail
  refine (awake_true _).mono ?_
  rintro e w1 ⟨rfl, hb1⟩
  have B1 := Lib.hid hb1; clear hb1
  go_wp2_with fail
  refine (rapply_yesL s _ b _ _ rfl _ (RB.out.below B1.out) HB.out HS.out T HT.out).mono ?_
  rintro e w2 ⟨rfl, hb2⟩
  have B2 := Lib.hid (B1.out.trans (hb2.mono B1.out.size)); clear hb2 B1
  go_wp2_with fail
  refine (between_ok _ _ _ hts ht4).mono ?_
  rintro e w3 ⟨p3, cap3, c3, rfl, ho3, hlead, hb3⟩
  have B3 := Lib.hid (B2.out.trans (hb3.mono B2.out.size)); have R3 := Lib.hid ho3.row; have LE := Lib.hid hlead; have hc3 := ho3.capL'; clear hb3 ho3 hlead B2
  go_wp2_with fail
  by_cases hcom : ComP b c3
  rotate_left
  · refine (rcompose_noL _ _ b c3 _ _ _ (RB.out.below B3.out) R3.out hcom).mono ?_
    rintro e w4 ⟨rfl, hb4⟩
    have B4 := Lib.hid (B3.out.trans (hb4.mono B3.out.size)); clear hb4 B3 R3
    go_wp2_with fail
    go_ret
    exact ⟨rfl, B4.out⟩
  have COM := Lib.hid hcom; clear hcom
  generalize hD : normOf (joinL b c3) = D
  have HD := Lib.hid hD; clear hD
  refine (rcompose_yesL _ _ b c3 D _ _ _ (RB.out.below B3.out) R3.out COM.out HD.out).mono ?_
  rintro e w4 ⟨p4, cap4, rfl, hr4, hc4, hb4⟩
  have B4 := Lib.hid (B3.out.trans (hb4.mono B3.out.size)); have R4 := Lib.hid hr4; have C4 := Lib.hid (R3.out.below hb4); clear hb4 hr4 B3 R3
  by_cases hbig : (1000 : Int) < (a.length : Int) + (b.length : Int) + (s.size : Int) + (t.size : Int) + KA + KB
  · go_wp2_with fail
    refine (puts_may _ a _ _ rfl _ (RA.out.below B4.out) HA.out KA HKA.out).mono ?_
    rintro e w' ⟨rfl, rfl⟩
    go_wp2_with fail
    refine (puts_may _ b _ _ rfl _ (RB.out.below B4.out) HB.out KB HKB.out).mono ?_
    rintro e w' ⟨rfl, rfl⟩
    go_wp2_with fail
    go_ret
    exact ⟨rfl, B4.out⟩
  have hsm : (a.length : Int) + b.length + s.size + t.size + sumOf putZ a + sumOf putZ b ≤ 1000 := by rw [HKA.out, HKB.out]; omega
  by_cases hyes : TraP f a b
  · have HYES := Lib.hid hyes
    have PC := both_pc (s := s) (t := t) hyes HS.out (by rw [HT.out]; exact LE.out) hsm
    have AD := both_ad (f := f) (s := s) (t := t) hyes.1 HS.out hyes.2.2.1 (by rw [HT.out]; exact LE.out) COM.out hsm
    rw [HD.out] at AD
    generalize hP : normOf (traP f a b) = P at PC
    generalize hQ : normOf (traQ f a b) = Q
    generalize hY : normOf (traP f P c3) = Y
    generalize hZ : normOf (traQ f P c3) = Z
    generalize hV : appB t 0 Y = V
    have YM : Hid (MayP Y ∧ sumOf fromC Y = t.size ∧ sumOf toC Y = V.size) := Lib.hid (by
      have m := PC.2.2.2.1
      obtain ⟨n1, -, -, -⟩ := tra_norm_sums (f := f) PC.1 PC.2.1 PC.2.2.1
      rw [hY] at m n1
      have e1 : sumOf fromC Y = t.size := by rw [n1]; exact LE.out.2.2.2.1
      have e2 := appB_size (s := t) (cs := Y) (a := 0) (gd_of_may m).soft (by omega) (by omega)
      rw [hV] at e2
      exact ⟨m, e1, e2.symm⟩)
    have YPC := Lib.hid PC; have YAD := Lib.hid AD; have HP := Lib.hid hP; have HQ := Lib.hid hQ; have HY := Lib.hid hY; have HZ := Lib.hid hZ; have HV := Lib.hid hV
    clear PC AD hP hQ hY hZ hV hyes
    clear hsm
    go_wp2_with fail
    refine (puts_may _ a _ _ rfl _ (RA.out.below B4.out) HA.out KA HKA.out).mono ?_
    rintro e w' ⟨rfl, rfl⟩
    go_wp2_with fail
    refine (puts_may _ b _ _ rfl _ (RB.out.below B4.out) HB.out KB HKB.out).mono ?_
    rintro e w' ⟨rfl, rfl⟩
    go_wp2_with fail
    refine (transform_yesL _ _ a b P Q f _ _ _ _ rfl rfl _ (RA.out.below B4.out) (RB.out.below B4.out) ca cb HYES.out HP.out HQ.out).mono ?_
    rintro e w5 ⟨p5, c5, q5, d5, rfl, ho5, -, hb5⟩
    have B5 := Lib.hid (B4.out.trans (hb5.mono B4.out.size)); have R5 := Lib.hid (R4.out.below hb5); have C5 := Lib.hid (C4.out.below hb5); have P5 := Lib.hid ho5.row; have hp5 := ho5.capL'; clear hb5 ho5 B4 R4 C4
    go_wp2_with fail
    refine (transform_yesL _ _ P c3 Y Z f _ _ _ _ rfl rfl _ P5.out C5.out hp5 hc3 YPC.out HY.out HZ.out).mono ?_
    rintro e w6 ⟨p6, c6, q6, d6, rfl, ho6, -, hb6⟩
    have B6 := Lib.hid (B5.out.trans (hb6.mono B5.out.size)); have R6 := Lib.hid (R5.out.below hb6); have Y6 := Lib.hid ho6.row; clear hb6 ho6 B5 R5 C5 P5
    go_wp2_with fail
    refine (transform_yesL _ _ a D _ _ f _ _ _ _ rfl rfl _ (RA.out.below B6.out) R6.out ca hc4 YAD.out rfl rfl).mono ?_
    rintro e w7 ⟨p7, c7, q7, d7, rfl, -, -, hb7⟩
    have B7 := Lib.hid (B6.out.trans (hb7.mono B6.out.size)); have Y7 := Lib.hid (Y6.out.below hb7); clear hb7 B6 R6 Y6
    generalize (normOf (traP f a D)).length = l7
    generalize (normOf (traQ f a D)).length = l8
    go_wp2_with (go_at_call 14; refine (num_any _ _).mono ?_; rintro e w' ⟨rfl, rfl⟩)
    refine (rapply_yesL t _ Y _ _ rfl _ Y7.out YM.out.1 YM.out.2.1 V HV.out).mono ?_
    rintro e w8 ⟨rfl, hb8⟩
    have B8 := Lib.hid (B7.out.trans (hb8.mono B7.out.size)); have Y8 := Lib.hid (Y7.out.below hb8); clear hb8 B7 Y7
    go_wp2_with fail
    refine (rlengths_any _ Y _ _ Y8.out).mono ?_
    rintro e w9 ⟨hb9, ⟨rfl, -⟩ | ⟨-, hno⟩⟩
    rotate_left
    · exact absurd YM.out.1 hno
    have B9 := Lib.hid (B8.out.trans (hb9.mono B8.out.size)); clear hb9 B8 Y8
    rw [YM.out.2.1, YM.out.2.2]
    go_wp2_with (go_at_call 14; refine (num_any _ _).mono ?_; rintro e w' ⟨rfl, rfl⟩)
    go_ret
    exact ⟨rfl, B9.out⟩
  · have ND : Hid (¬ TraP f a D) := Lib.hid (by rw [← HD.out]; exact both_not (s := s) (t := t) HS.out COM.out (fun _ => hsm) hyes)
    have HNO := Lib.hid hyes
    clear hyes hsm
    go_wp2_with fail
    refine (puts_may _ a _ _ rfl _ (RA.out.below B4.out) HA.out KA HKA.out).mono ?_
    rintro e w' ⟨rfl, rfl⟩
    go_wp2_with fail
    refine (puts_may _ b _ _ rfl _ (RB.out.below B4.out) HB.out KB HKB.out).mono ?_
    rintro e w' ⟨rfl, rfl⟩
    go_wp2_with fail
    refine (transform_noL _ _ a b f _ _ _ _ rfl rfl _ (RA.out.below B4.out) (RB.out.below B4.out) ca cb HNO.out).mono ?_
    rintro e w5 ⟨rfl, hb5⟩
    have B5 := Lib.hid (B4.out.trans (hb5.mono B4.out.size)); have R5 := Lib.hid (R4.out.below hb5); have C5 := Lib.hid (C4.out.below hb5); clear hb5 B4 R4 C4
    go_wp2_with fail
    refine (transform_some none _ [] c3 f 0 _ _ (nil_row _) C5.out (Nat.le_refl _) hc3).mono ?_
    rintro e w6 ⟨v6, u6, n6, rfl, hb6⟩
    have B6 := Lib.hid (B5.out.trans (hb6.mono B5.out.size)); have R6 := Lib.hid (R5.out.below hb6); clear hb6 B5 R5 C5
    go_wp2_with fail
    refine (transform_noL _ _ a D f _ _ _ _ rfl rfl _ (RA.out.below B6.out) R6.out ca hc4 ND.out).mono ?_
    rintro e w7 ⟨rfl, hb7⟩
    have B7 := Lib.hid (B6.out.trans (hb7.mono B6.out.size)); clear hb7 B6 R6
    go_wp2_with (go_at_call 14; refine (num_any _ _).mono ?_; rintro e w' ⟨rfl, rfl⟩)
    go_ret
    exact ⟨rfl, B7.out⟩

set_option maxRecDepth 100000 in
set_option maxHeartbeats 1000000 in
theorem both_bad (s t : ByteArray) (p q : Option Addr) (a b : List C) (f : Bool) (cap cap2 : Nat) (w : World) (ra : RowC w p a) (rb : RowC w q b) (ca : a.length ≤ cap) (cb : b.length ≤ cap2) (T : ByteArray) (hla : a.length ≤ 140737488355328) (ha : ¬ MayP a) (hb : MayP b) (hs : sumOf fromC b = s.size) (hT : appB s 0 b = T) (ht4 : t.size ≤ 4096) (KB : Int) (hKB : sumOf putZ b = KB) :
    Calls Try.prog 9 #[.string s, .slice p a.length cap, .slice q b.length cap2, .string t, .bool f] w fun e w' => e = .returned (.bool true) ∧ Below w.heap.size w w' := by
  have RA := Lib.hid ra; have RB := Lib.hid rb
  clear ra rb
  have hls : s.size ≤ 4096 := by have := (okB_iff.1 hb.1).2.2.1; omega
  have hlb : b.length ≤ 4096 := (okB_iff.1 hb.1).1
  have hts : T.size ≤ 4096 := by
    have := appB_size (s := s) (cs := b) (a := 0) (gd_of_may hb).soft (by omega) (by omega)
    have := (okB_iff.1 hb.1).2.2.2
    rw [← hT]; omega
  have hKB0 : 0 ≤ KB ∧ KB ≤ 4096 := by rw [← hKB]; exact ⟨sumOf_nonneg fun c hc => put_nonneg (gd_of_may hb c hc).1, Int.le_trans (sum_put_le (gd_of_may hb).soft) (okB_iff.1 hb.1).2.2.2⟩
  obtain ⟨hKB1, hKB2⟩ := hKB0
  have HA := Lib.hid ha
  have HB := Lib.hid hb
  have HS := Lib.hid hs
  have HT := Lib.hid hT
  have HKB := Lib.hid hKB
  clear ha hb hs hT hKB
  go_enter Try.func9, Try.ntmps9
  go_wp2_with fail
  refine (awake_true _).mono ?_
  rintro e w1 ⟨rfl, hb1⟩
  have B1 := Lib.hid hb1; clear hb1
  go_wp2_with fail
  refine (rapply_yesL s _ b _ _ rfl _ (RB.out.below B1.out) HB.out HS.out T HT.out).mono ?_
  rintro e w2 ⟨rfl, hb2⟩
  have B2 := Lib.hid (B1.out.trans (hb2.mono B1.out.size)); clear hb2 B1
  go_wp2_with fail
  refine (between_ok _ _ _ hts ht4).mono ?_
  rintro e w3 ⟨p3, cap3, c3, rfl, ho3, hlead, hb3⟩
  have B3 := Lib.hid (B2.out.trans (hb3.mono B2.out.size)); have R3 := Lib.hid ho3.row; have LE := Lib.hid hlead; have hc3 := ho3.capL'; clear hb3 ho3 hlead B2
  go_wp2_with fail
  by_cases hcom : ComP b c3
  rotate_left
  · refine (rcompose_noL _ _ b c3 _ _ _ (RB.out.below B3.out) R3.out hcom).mono ?_
    rintro e w4 ⟨rfl, hb4⟩
    have B4 := Lib.hid (B3.out.trans (hb4.mono B3.out.size)); clear hb4 B3 R3
    go_wp2_with fail
    go_ret
    exact ⟨rfl, B4.out⟩
  have COM := Lib.hid hcom; clear hcom
  generalize hD : normOf (joinL b c3) = D
  have HD := Lib.hid hD; clear hD
  refine (rcompose_yesL _ _ b c3 D _ _ _ (RB.out.below B3.out) R3.out COM.out HD.out).mono ?_
  rintro e w4 ⟨p4, cap4, rfl, hr4, hc4, hb4⟩
  have B4 := Lib.hid (B3.out.trans (hb4.mono B3.out.size)); have R4 := Lib.hid hr4; have C4 := Lib.hid (R3.out.below hb4); clear hb4 hr4 B3 R3
  have ND : Hid (¬ TraP f a D) := Lib.hid (fun h => HA.out h.1)
  have HNO : Hid (¬ TraP f a b) := Lib.hid (fun h => HA.out h.1)
  go_wp2_with fail
  refine (puts_some _ a _ _ (RA.out.below B4.out) hla).mono ?_
  rintro e w' ⟨⟨z, rfl⟩, rfl⟩
  go_wp2_with fail
  refine (puts_may _ b _ _ rfl _ (RB.out.below B4.out) HB.out KB HKB.out).mono ?_
  rintro e w' ⟨rfl, rfl⟩
  go_wp2_with fail
  · go_ret
    exact ⟨rfl, B4.out⟩
  · skip
    refine (transform_noL _ _ a b f _ _ _ _ rfl rfl _ (RA.out.below B4.out) (RB.out.below B4.out) ca cb HNO.out).mono ?_
    rintro e w5 ⟨rfl, hb5⟩
    have B5 := Lib.hid (B4.out.trans (hb5.mono B4.out.size)); have R5 := Lib.hid (R4.out.below hb5); have C5 := Lib.hid (C4.out.below hb5); clear hb5 B4 R4 C4
    go_wp2_with fail
    refine (transform_some none _ [] c3 f 0 _ _ (nil_row _) C5.out (Nat.le_refl _) hc3).mono ?_
    rintro e w6 ⟨v6, u6, n6, rfl, hb6⟩
    have B6 := Lib.hid (B5.out.trans (hb6.mono B5.out.size)); have R6 := Lib.hid (R5.out.below hb6); clear hb6 B5 R5 C5
    go_wp2_with fail
    refine (transform_noL _ _ a D f _ _ _ _ rfl rfl _ (RA.out.below B6.out) R6.out ca hc4 ND.out).mono ?_
    rintro e w7 ⟨rfl, hb7⟩
    have B7 := Lib.hid (B6.out.trans (hb7.mono B6.out.size)); clear hb7 B6 R6
    go_wp2_with (go_at_call 14; refine (num_any _ _).mono ?_; rintro e w' ⟨rfl, rfl⟩)
    go_ret
    exact ⟨rfl, B7.out⟩

theorem both_true (s t : ByteArray) (p q : Option Addr) (a b : List C) (f : Bool) (cap cap2 : Nat) (w : World) (ra : RowC w p a) (rb : RowC w q b) (ca : a.length ≤ cap) (cb : b.length ≤ cap2) (hla : a.length ≤ 140737488355328) :
    Calls Try.prog 9 #[.string s, .slice p a.length cap, .slice q b.length cap2, .string t, .bool f] w fun e w' => e = .returned (.bool true) ∧ Below w.heap.size w w' := by
  by_cases h1 : MayP b ∧ sumOf fromC b = s.size
  · by_cases h2 : 4096 < t.size
    · exact both_no2 s t p q a b f cap cap2 w ra rb ca cb _ h1.1 h1.2 rfl h2
    · by_cases h3 : MayP a
      · exact both_go s t p q a b f cap cap2 w ra rb ca cb _ h3 h1.1 h1.2 rfl (by omega) _ _ rfl rfl
      · exact both_bad s t p q a b f cap cap2 w ra rb ca cb _ hla h3 h1.1 h1.2 rfl (by omega) _ rfl
  · exact both_no1 s t p q a b f cap cap2 w ra rb ca cb h1

end Go.Proofs.Ytkknkannjoijbaa
