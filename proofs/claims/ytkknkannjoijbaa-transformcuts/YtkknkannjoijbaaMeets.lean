/-
  The walk of the law TransformMeets. Conditions: as the theorems' premises say.
-/
import Derived.Test.YtkknkannjoijbaaPuts
namespace Go.Proofs.Ytkknkannjoijbaa
open Go.RowKit

def SomeApply (w : World) (e : Ending) (w' : World) : Prop := ∃ (X : ByteArray) (n : Int), e = .returned (.tuple #[.string X, .int .i64 n]) ∧ Below w.heap.size w w'
theorem apply_some (s : ByteArray) (p : Option Addr) (cs : List C) (cap : Nat) (w : World) (hr : RowC w p cs) : Calls Try.prog 18 #[.string s, .slice p cs.length cap] w (SomeApply w) := by
  refine (apply_any s p cs cap w hr).mono ?_
  rintro e w' ⟨hb, ⟨rfl, -⟩ | ⟨rfl, -⟩⟩
  · exact ⟨_, _, rfl, hb⟩
  · exact ⟨_, _, rfl, hb⟩
def SomeTra (w : World) (e : Ending) (w' : World) : Prop := ∃ (v u : Value) (n : Int), e = .returned (.tuple #[v, u, .int .i64 n]) ∧ Below w.heap.size w w'
theorem transform_some (p q : Option Addr) (a b : List C) (f : Bool) (cap cap2 : Nat) (w : World) (ra : RowC w p a) (rb : RowC w q b) (ca : a.length ≤ cap) (cb : b.length ≤ cap2) : Calls Try.prog 11 #[.slice p a.length cap, .slice q b.length cap2, .bool f] w (SomeTra w) := by
  refine (transform_any p q a b f cap cap2 w ra rb ca cb).mono ?_
  rintro e w' ⟨hb, ⟨-, v, u, rfl, -⟩ | ⟨-, rfl⟩⟩
  · exact ⟨_, _, _, rfl, hb⟩
  · exact ⟨_, _, _, rfl, hb⟩

set_option maxHeartbeats 1000000 in
theorem meets_no1 (s : ByteArray) (p q : Option Addr) (a b : List C) (f : Bool) (cap cap2 : Nat) (w : World) (ra : RowC w p a) (rb : RowC w q b) (ca : a.length ≤ cap) (cb : b.length ≤ cap2) (hn : ¬ (MayP a ∧ sumOf fromC a = s.size)) :
    Calls Try.prog 4 #[.string s, .slice p a.length cap, .slice q b.length cap2, .bool f] w fun e w' => e = .returned (.bool true) ∧ Below w.heap.size w w' := by
  have RA := Lib.hid ra; have RB := Lib.hid rb; have HN := Lib.hid hn
  clear ra rb hn
  go_enter Try.func4, Try.ntmps4
  go_wp2_with fail
  refine (awake_true _).mono ?_
  rintro e w1 ⟨rfl, hb1⟩
  have B1 := Lib.hid hb1; clear hb1
  go_wp2_with fail
  refine (apply_noL s _ a _ _ rfl _ (RA.out.below B1.out) HN.out).mono ?_
  rintro e w2 ⟨rfl, hb2⟩
  have B2 := Lib.hid (B1.out.trans (hb2.mono B1.out.size)); clear hb2 B1
  go_wp2_with fail
  refine (apply_some _ _ b _ _ (RB.out.below B2.out)).mono ?_
  rintro e w3 ⟨X3, n3, rfl, hb3⟩
  have B3 := Lib.hid (B2.out.trans (hb3.mono B2.out.size)); clear hb3 B2
  go_wp2_with fail
  refine (transform_some _ _ a b f _ _ _ (RA.out.below B3.out) (RB.out.below B3.out) ca cb).mono ?_
  rintro e w4 ⟨v4, u4, n4, rfl, hb4⟩
  have B4 := Lib.hid (B3.out.trans (hb4.mono B3.out.size)); clear hb4 B3
  go_wp2_with (go_at_call 14; refine (num_any _ _).mono ?_; rintro e w' ⟨rfl, rfl⟩)
  go_ret
  exact ⟨rfl, B4.out⟩

set_option maxHeartbeats 1000000 in
theorem meets_no2 (s : ByteArray) (p q : Option Addr) (a b : List C) (f : Bool) (cap cap2 : Nat) (w : World) (ra : RowC w p a) (rb : RowC w q b) (ca : a.length ≤ cap) (cb : b.length ≤ cap2) (ha : MayP a) (hs : sumOf fromC a = s.size) (T : ByteArray) (hT : appB s 0 a = T) (hn : ¬ (MayP b ∧ sumOf fromC b = s.size)) :
    Calls Try.prog 4 #[.string s, .slice p a.length cap, .slice q b.length cap2, .bool f] w fun e w' => e = .returned (.bool true) ∧ Below w.heap.size w w' := by
  have RA := Lib.hid ra; have RB := Lib.hid rb; have HN := Lib.hid hn
  have HA := Lib.hid ha; have HS := Lib.hid hs; have HT := Lib.hid hT
  clear ra rb hn ha hs hT
  go_enter Try.func4, Try.ntmps4
  go_wp2_with fail
  refine (awake_true _).mono ?_
  rintro e w1 ⟨rfl, hb1⟩
  have B1 := Lib.hid hb1; clear hb1
  go_wp2_with fail
  refine (apply_yesL s _ a _ _ rfl _ (RA.out.below B1.out) HA.out HS.out T HT.out).mono ?_
  rintro e w2 ⟨rfl, hb2⟩
  have B2 := Lib.hid (B1.out.trans (hb2.mono B1.out.size)); clear hb2 B1
  go_wp2_with fail
  refine (apply_noL s _ b _ _ rfl _ (RB.out.below B2.out) HN.out).mono ?_
  rintro e w3 ⟨rfl, hb3⟩
  have B3 := Lib.hid (B2.out.trans (hb3.mono B2.out.size)); clear hb3 B2
  go_wp2_with fail
  refine (transform_some _ _ a b f _ _ _ (RA.out.below B3.out) (RB.out.below B3.out) ca cb).mono ?_
  rintro e w4 ⟨v4, u4, n4, rfl, hb4⟩
  have B4 := Lib.hid (B3.out.trans (hb4.mono B3.out.size)); clear hb4 B3
  go_wp2_with (go_at_call 14; refine (num_any _ _).mono ?_; rintro e w' ⟨rfl, rfl⟩)
  go_ret
  exact ⟨rfl, B4.out⟩

set_option maxHeartbeats 2000000 in
theorem meets_yes (s : ByteArray) (p q : Option Addr) (a b : List C) (f : Bool) (cap cap2 : Nat) (w : World) (ra : RowC w p a) (rb : RowC w q b) (ca : a.length ≤ cap) (cb : b.length ≤ cap2) (hs : sumOf fromC a = s.size) (T U V : ByteArray) (hT : appB s 0 a = T) (hU : appB s 0 b = U) (P Q : List C) (hc : TraP f a b) (hP : normOf (traP f a b) = P) (hQ : normOf (traQ f a b) = Q) (hV : appB T 0 Q = V) :
    Calls Try.prog 4 #[.string s, .slice p a.length cap, .slice q b.length cap2, .bool f] w fun e w' => e = .returned (.bool true) ∧ Below w.heap.size w w' := by
  have ha := hc.1
  have hb := hc.2.1
  have eq := hc.2.2.1
  have RA := Lib.hid ra; have RB := Lib.hid rb
  have HA := Lib.hid ha; have HS := Lib.hid hs; have HT := Lib.hid hT; have HB := Lib.hid hb; have HU := Lib.hid hU; have HC := Lib.hid hc; have HP := Lib.hid hP; have HQ := Lib.hid hQ; have HV := Lib.hid hV
  have HSB : Hid (sumOf fromC b = s.size) := Lib.hid (by rw [← eq]; exact hs)
  have st := appB_size (s := s) (cs := a) (a := 0) (gd_of_may ha).soft (by omega) (by omega)
  have su := appB_size (s := s) (cs := b) (a := 0) (gd_of_may hb).soft (by omega) (by omega)
  obtain ⟨n1, n2, -, -⟩ := tra_norm_sums (f := f) ha hb eq
  have e1 := tra_roads (f := f) (s := s) ha hb eq hs
  have PM : Hid (MayP P ∧ sumOf fromC P = U.size ∧ appB U 0 P = V) := Lib.hid ⟨by rw [← hP]; exact hc.2.2.2.1, by rw [← hP, n1, ← hU]; exact su.symm, by rw [← hV, ← hP, ← hQ, ← hU, ← hT]; exact e1⟩
  have QM : Hid (MayP Q ∧ sumOf fromC Q = T.size) := Lib.hid ⟨by rw [← hQ]; exact hc.2.2.2.2, by rw [← hQ, n2, ← hT]; exact st.symm⟩
  clear ra rb ha hb eq hs hT hU hc hP hQ hV st su n1 n2 e1
  go_enter Try.func4, Try.ntmps4
  go_wp2_with fail
  refine (awake_true _).mono ?_
  rintro e w1 ⟨rfl, hb1⟩
  have B1 := Lib.hid hb1; clear hb1
  go_wp2_with fail
  refine (apply_yesL s _ a _ _ rfl _ (RA.out.below B1.out) HA.out HS.out T HT.out).mono ?_
  rintro e w2 ⟨rfl, hb2⟩
  have B2 := Lib.hid (B1.out.trans (hb2.mono B1.out.size)); clear hb2 B1
  go_wp2_with fail
  refine (apply_yesL s _ b _ _ rfl _ (RB.out.below B2.out) HB.out HSB.out U HU.out).mono ?_
  rintro e w3 ⟨rfl, hb3⟩
  have B3 := Lib.hid (B2.out.trans (hb3.mono B2.out.size)); clear hb3 B2
  go_wp2_with fail
  refine (transform_yesL _ _ a b P Q f _ _ _ _ rfl rfl _ (RA.out.below B3.out) (RB.out.below B3.out) ca cb HC.out HP.out HQ.out).mono ?_
  rintro e w4 ⟨p4, c4, q4, d4, rfl, ho4, hu4, hb4⟩
  have B4 := Lib.hid (B3.out.trans (hb4.mono B3.out.size)); have O4 := Lib.hid ho4.row; have U4 := Lib.hid hu4.row; clear hb4 ho4 hu4 B3
  go_wp2_with (go_at_call 14; refine (num_any _ _).mono ?_; rintro e w' ⟨rfl, rfl⟩)
  refine (apply_yesL T _ Q _ _ rfl _ U4.out QM.out.1 QM.out.2 V HV.out).mono ?_
  rintro e w5 ⟨rfl, hb5⟩
  have B5 := Lib.hid (B4.out.trans (hb5.mono B4.out.size)); have O5 := Lib.hid (O4.out.below hb5); clear hb5 B4 O4 U4
  go_wp2_with fail
  refine (apply_yesL U _ P _ _ rfl _ O5.out PM.out.1 PM.out.2.1 V PM.out.2.2).mono ?_
  rintro e w6 ⟨rfl, hb6⟩
  have B6 := Lib.hid (B5.out.trans (hb6.mono B5.out.size)); clear hb6 B5 O5
  go_wp2_with (go_at_call 14; refine (num_any _ _).mono ?_; rintro e w' ⟨rfl, rfl⟩)
  go_ret
  exact ⟨rfl, B6.out⟩

set_option maxHeartbeats 2000000 in
theorem meets_long (s : ByteArray) (p q : Option Addr) (a b : List C) (f : Bool) (cap cap2 : Nat) (w : World) (ra : RowC w p a) (rb : RowC w q b) (ca : a.length ≤ cap) (cb : b.length ≤ cap2) (ha : MayP a) (hb : MayP b) (hs : sumOf fromC a = s.size) (hsb : sumOf fromC b = s.size) (T U : ByteArray) (hT : appB s 0 a = T) (hU : appB s 0 b = U) (hc : ¬ TraP f a b) :
    Calls Try.prog 4 #[.string s, .slice p a.length cap, .slice q b.length cap2, .bool f] w fun e w' => e = .returned (.bool true) ∧ Below w.heap.size w w' := by
  have hla : a.length ≤ 4096 := (okB_iff.1 ha.1).1
  have hlb : b.length ≤ 4096 := (okB_iff.1 hb.1).1
  have hsz : s.size ≤ 4096 := by have := (okB_iff.1 ha.1).2.2.1; omega
  have st := appB_size (s := s) (cs := a) (a := 0) (gd_of_may ha).soft (by omega) (by omega)
  have hts : T.size ≤ 4096 := by have := (okB_iff.1 ha.1).2.2.2; rw [← hT]; omega
  have hp4 : sumOf putZ b ≤ 4096 := Int.le_trans (sum_put_le (gd_of_may hb).soft) (okB_iff.1 hb.1).2.2.2
  have hp0 : 0 ≤ sumOf putZ b := sumOf_nonneg fun c hc => put_nonneg (gd_of_may hb c hc).1
  have hbig : 4096 < a.length + b.length ∨ 4096 < (T.size : Int) + sumOf putZ b := by
    rcases Nat.lt_or_ge 4096 (a.length + b.length) with h | h
    · exact .inl h
    · refine .inr (Int.not_le.1 fun h2 => hc (tra_may ha hb (by omega) h ?_))
      rw [← st, hT]; exact h2
  have RA := Lib.hid ra; have RB := Lib.hid rb
  have HA := Lib.hid ha; have HS := Lib.hid hs; have HT := Lib.hid hT; have HB := Lib.hid hb; have HU := Lib.hid hU; have HC := Lib.hid hc; have HSB := Lib.hid hsb
  generalize hK : sumOf putZ b = K at *
  have HK := Lib.hid hK
  clear ra rb ha hb hs hT hU hc hsb st hK
  go_enter Try.func4, Try.ntmps4
  go_wp2_with fail
  refine (awake_true _).mono ?_
  rintro e w1 ⟨rfl, hb1⟩
  have B1 := Lib.hid hb1; clear hb1
  go_wp2_with fail
  refine (apply_yesL s _ a _ _ rfl _ (RA.out.below B1.out) HA.out HS.out T HT.out).mono ?_
  rintro e w2 ⟨rfl, hb2⟩
  have B2 := Lib.hid (B1.out.trans (hb2.mono B1.out.size)); clear hb2 B1
  go_wp2_with fail
  refine (apply_yesL s _ b _ _ rfl _ (RB.out.below B2.out) HB.out HSB.out U HU.out).mono ?_
  rintro e w3 ⟨rfl, hb3⟩
  have B3 := Lib.hid (B2.out.trans (hb3.mono B2.out.size)); clear hb3 B2
  go_wp2_with fail
  refine (transform_noL _ _ a b f _ _ _ _ rfl rfl _ (RA.out.below B3.out) (RB.out.below B3.out) ca cb HC.out).mono ?_
  rintro e w4 ⟨rfl, hb4⟩
  have B4 := Lib.hid (B3.out.trans (hb4.mono B3.out.size)); clear hb4 B3
  by_cases hlong : (1000 : Int) < (a.length : Int) + (b.length : Int) + (s.size : Int)
  · go_wp2_with (go_at_call 14; refine (num_any _ _).mono ?_; rintro e w' ⟨rfl, rfl⟩)
    go_ret
    exact ⟨rfl, B4.out⟩
  · have hbig2 : 4096 < (T.size : Int) + K := by omega
    clear hbig
    go_wp2_with (first | (go_at_call 14; refine (num_any _ _).mono ?_; rintro e w' ⟨rfl, rfl⟩) | (go_at_call 19; refine (puts_may _ b _ _ rfl _ (RB.out.below B4.out) HB.out K HK.out).mono ?_; rintro e w' ⟨rfl, rfl⟩))
    go_ret
    exact ⟨rfl, B4.out⟩

theorem meets_true (s : ByteArray) (p q : Option Addr) (a b : List C) (f : Bool) (cap cap2 : Nat) (w : World) (ra : RowC w p a) (rb : RowC w q b) (ca : a.length ≤ cap) (cb : b.length ≤ cap2) :
    Calls Try.prog 4 #[.string s, .slice p a.length cap, .slice q b.length cap2, .bool f] w fun e w' => e = .returned (.bool true) ∧ Below w.heap.size w w' := by
  by_cases h1 : MayP a ∧ sumOf fromC a = s.size
  · by_cases h2 : MayP b ∧ sumOf fromC b = s.size
    · by_cases h3 : TraP f a b
      · exact meets_yes s p q a b f cap cap2 w ra rb ca cb h1.2 _ _ _ rfl rfl _ _ h3 rfl rfl rfl
      · exact meets_long s p q a b f cap cap2 w ra rb ca cb h1.1 h2.1 h1.2 h2.2 _ _ rfl rfl h3
    · exact meets_no2 s p q a b f cap cap2 w ra rb ca cb h1.1 h1.2 _ rfl h2
  · exact meets_no1 s p q a b f cap cap2 w ra rb ca cb h1

end Go.Proofs.Ytkknkannjoijbaa
