/-
  The walk of the law ComposeDoes. Conditions: as the theorems' premises say.
-/
import Derived.Test.YtoihbacdonjagaaAw
namespace Go.Proofs.Ytoihbacdonjagaa
open Go.RowKit

def SomeApply (w : World) (e : Ending) (w' : World) : Prop := ∃ (X : ByteArray) (n : Int), e = .returned (.tuple #[.string X, .int .i64 n]) ∧ Below w.heap.size w w'
theorem apply_some (s : ByteArray) (p : Option Addr) (cs : List C) (cap : Nat) (w : World) (hr : RowC w p cs) : Calls Try.prog 15 #[.string s, .slice p cs.length cap] w (SomeApply w) := by
  refine (apply_any s p cs cap w hr).mono ?_
  rintro e w' ⟨hb, ⟨rfl, -⟩ | ⟨rfl, -⟩⟩
  · exact ⟨_, _, rfl, hb⟩
  · exact ⟨_, _, rfl, hb⟩
def SomeCom (w : World) (e : Ending) (w' : World) : Prop := ∃ (v : Value) (n : Int), e = .returned (.tuple #[v, .int .i64 n]) ∧ Below w.heap.size w w'
theorem compose_some (p q : Option Addr) (a b : List C) (cap cap2 : Nat) (w : World) (ra : RowC w p a) (rb : RowC w q b) (ca : a.length ≤ cap) (cb : b.length ≤ cap2) : Calls Try.prog 8 #[.slice p a.length cap, .slice q b.length cap2] w (SomeCom w) := by
  refine (compose_any p q a b cap cap2 w ra rb ca cb).mono ?_
  rintro e w' ⟨hb, ⟨-, v, rfl, -⟩ | ⟨-, rfl⟩⟩
  · exact ⟨_, _, rfl, hb⟩
  · exact ⟨_, _, rfl, hb⟩

set_option maxHeartbeats 1000000 in
theorem does_no1 (s : ByteArray) (p q : Option Addr) (a b : List C) (cap cap2 : Nat) (w : World) (ra : RowC w p a) (rb : RowC w q b) (ca : a.length ≤ cap) (cb : b.length ≤ cap2) (hn : ¬ (MayP a ∧ sumOf fromC a = s.size)) :
    Calls Try.prog 4 #[.string s, .slice p a.length cap, .slice q b.length cap2] w fun e w' => e = .returned (.bool true) ∧ Below w.heap.size w w' := by
  have RA := Lib.hid ra; have RB := Lib.hid rb; have HN := Lib.hid hn
  clear ra rb hn
  go_enter Try.func4, Try.ntmps4
  go_wp2_with fail
  refine (awake_true _).mono ?_
  rintro e w1 ⟨rfl, hb1⟩
  have B1 := Lib.hid hb1; clear hb1
  go_wp2_with fail
  refine (apply_noL s _ a _ _ rfl _ (RA.out.below B1.out) HN.out).mono ?_
  rintro e w2 ⟨rfl, hb2⟩
  have B2 := Lib.hid (B1.out.trans (hb2.mono B1.out.size)); clear hb2 B1
  go_wp2_with fail
  refine (apply_some _ _ b _ _ (RB.out.below B2.out)).mono ?_
  rintro e w3 ⟨X3, n3, rfl, hb3⟩
  have B3 := Lib.hid (B2.out.trans (hb3.mono B2.out.size)); clear hb3 B2
  go_wp2_with fail
  refine (compose_some _ _ a b _ _ _ (RA.out.below B3.out) (RB.out.below B3.out) ca cb).mono ?_
  rintro e w4 ⟨v4, n4, rfl, hb4⟩
  have B4 := Lib.hid (B3.out.trans (hb4.mono B3.out.size)); clear hb4 B3
  go_wp2_with (go_at_call 11; refine (num_any _ _).mono ?_; rintro e w' ⟨rfl, rfl⟩)
  go_ret
  exact ⟨rfl, B4.out⟩

set_option maxHeartbeats 1000000 in
theorem does_no2 (s : ByteArray) (p q : Option Addr) (a b : List C) (cap cap2 : Nat) (w : World) (ra : RowC w p a) (rb : RowC w q b) (ca : a.length ≤ cap) (cb : b.length ≤ cap2) (ha : MayP a) (hs : sumOf fromC a = s.size) (T : ByteArray) (hT : appB s 0 a = T) (hn : ¬ (MayP b ∧ sumOf fromC b = T.size)) :
    Calls Try.prog 4 #[.string s, .slice p a.length cap, .slice q b.length cap2] w fun e w' => e = .returned (.bool true) ∧ Below w.heap.size w w' := by
  have RA := Lib.hid ra; have RB := Lib.hid rb; have HN := Lib.hid hn
  have HA := Lib.hid ha; have HS := Lib.hid hs; have HT := Lib.hid hT
  clear ra rb hn ha hs hT
  go_enter Try.func4, Try.ntmps4
  go_wp2_with fail
  refine (awake_true _).mono ?_
  rintro e w1 ⟨rfl, hb1⟩
  have B1 := Lib.hid hb1; clear hb1
  go_wp2_with fail
  refine (apply_yesL s _ a _ _ rfl _ (RA.out.below B1.out) HA.out HS.out T HT.out).mono ?_
  rintro e w2 ⟨rfl, hb2⟩
  have B2 := Lib.hid (B1.out.trans (hb2.mono B1.out.size)); clear hb2 B1
  go_wp2_with fail
  refine (apply_noL T _ b _ _ rfl _ (RB.out.below B2.out) HN.out).mono ?_
  rintro e w3 ⟨rfl, hb3⟩
  have B3 := Lib.hid (B2.out.trans (hb3.mono B2.out.size)); clear hb3 B2
  go_wp2_with fail
  refine (compose_some _ _ a b _ _ _ (RA.out.below B3.out) (RB.out.below B3.out) ca cb).mono ?_
  rintro e w4 ⟨v4, n4, rfl, hb4⟩
  have B4 := Lib.hid (B3.out.trans (hb4.mono B3.out.size)); clear hb4 B3
  go_wp2_with (go_at_call 11; refine (num_any _ _).mono ?_; rintro e w' ⟨rfl, rfl⟩)
  go_ret
  exact ⟨rfl, B4.out⟩

set_option maxHeartbeats 2000000 in
theorem does_yes (s : ByteArray) (p q : Option Addr) (a b : List C) (cap cap2 : Nat) (w : World) (ra : RowC w p a) (rb : RowC w q b) (ca : a.length ≤ cap) (cb : b.length ≤ cap2) (ha : MayP a) (hs : sumOf fromC a = s.size) (T U : ByteArray) (hT : appB s 0 a = T) (hb : MayP b) (ht : sumOf fromC b = T.size) (hU : appB T 0 b = U) (hc : ComP a b) :
    Calls Try.prog 4 #[.string s, .slice p a.length cap, .slice q b.length cap2] w fun e w' => e = .returned (.bool true) ∧ Below w.heap.size w w' := by
  have hla : a.length ≤ 4096 := (okB_iff.1 ha.1).1
  have hlb : b.length ≤ 4096 := (okB_iff.1 hb.1).1
  have hsz : s.size ≤ 4096 := by have := (okB_iff.1 ha.1).2.2.1; omega
  have RA := Lib.hid ra; have RB := Lib.hid rb
  have HA := Lib.hid ha; have HS := Lib.hid hs; have HT := Lib.hid hT; have HB := Lib.hid hb; have HTB := Lib.hid ht; have HU := Lib.hid hU; have HC := Lib.hid hc
  have e1 := com_app (s := s) ha hb hc.2.2.1 hs
  rw [hT, hU] at e1
  have e2 := (com_sums ha hb hc.2.2.1).1
  rw [hs] at e2
  have e3 := hc.2.2.2
  generalize hN : normOf (joinL a b) = N at e1 e2 e3
  have HN := Lib.hid hN; have E1 := Lib.hid e1; have E2 := Lib.hid e2; have E3 := Lib.hid e3
  have hln : N.length ≤ 4096 := (okB_iff.1 e3.1).1
  clear ra rb ha hs hT hb ht hU hc e1 e2 e3 hN
  go_enter Try.func4, Try.ntmps4
  go_wp2_with fail
  refine (awake_true _).mono ?_
  rintro e w1 ⟨rfl, hb1⟩
  have B1 := Lib.hid hb1; clear hb1
  go_wp2_with fail
  refine (apply_yesL s _ a _ _ rfl _ (RA.out.below B1.out) HA.out HS.out T HT.out).mono ?_
  rintro e w2 ⟨rfl, hb2⟩
  have B2 := Lib.hid (B1.out.trans (hb2.mono B1.out.size)); clear hb2 B1
  go_wp2_with fail
  refine (apply_yesL T _ b _ _ rfl _ (RB.out.below B2.out) HB.out HTB.out U HU.out).mono ?_
  rintro e w3 ⟨rfl, hb3⟩
  have B3 := Lib.hid (B2.out.trans (hb3.mono B2.out.size)); clear hb3 B2
  go_wp2_with fail
  refine (compose_yesL _ _ a b N _ _ _ _ rfl rfl _ (RA.out.below B3.out) (RB.out.below B3.out) ca cb HC.out HN.out).mono ?_
  rintro e w4 ⟨p4, cap4, rfl, ho4, hb4⟩
  have B4 := Lib.hid (B3.out.trans (hb4.mono B3.out.size)); have O4 := Lib.hid ho4; clear hb4 ho4 B3
  go_wp2_with (go_at_call 11; refine (num_any _ _).mono ?_; rintro e w' ⟨rfl, rfl⟩)
  refine (apply_yesL s _ N _ _ rfl _ O4.out.row E3.out E2.out U E1.out).mono ?_
  rintro e w5 ⟨rfl, hb5⟩
  have B5 := Lib.hid (B4.out.trans (hb5.mono B4.out.size)); have O5 := Lib.hid (O4.out.below hb5); clear hb5 O4 B4
  by_cases hlong : (1000 : Int) < (a.length : Int) + (b.length : Int) + (s.size : Int)
  · go_wp2_with (go_at_call 11; refine (num_any _ _).mono ?_; rintro e w' ⟨rfl, rfl⟩)
    refine (rcmay_any _ N _ _ O5.out.row).mono ?_
    rintro e w6 ⟨hb6, ⟨rfl, -⟩ | ⟨-, hno⟩⟩
    rotate_left
    · exact absurd E3.out hno
    have B6 := Lib.hid (B5.out.trans (hb6.mono B5.out.size))
    clear hb6 B5 O5
    go_wp2_with fail
    go_ret
    exact ⟨rfl, B6.out⟩
  · go_wp2_with (go_at_call 11; refine (num_any _ _).mono ?_; rintro e w' ⟨rfl, rfl⟩)
    refine (rcmay_any _ N _ _ O5.out.row).mono ?_
    rintro e w6 ⟨hb6, ⟨rfl, -⟩ | ⟨-, hno⟩⟩
    rotate_left
    · exact absurd E3.out hno
    have B6 := Lib.hid (B5.out.trans (hb6.mono B5.out.size))
    clear hb6 B5 O5
    go_wp2_with fail
    go_ret
    exact ⟨rfl, B6.out⟩

set_option maxHeartbeats 2000000 in
theorem does_long (s : ByteArray) (p q : Option Addr) (a b : List C) (cap cap2 : Nat) (w : World) (ra : RowC w p a) (rb : RowC w q b) (ca : a.length ≤ cap) (cb : b.length ≤ cap2) (ha : MayP a) (hs : sumOf fromC a = s.size) (T U : ByteArray) (hT : appB s 0 a = T) (hb : MayP b) (ht : sumOf fromC b = T.size) (hU : appB T 0 b = U) (hc : ¬ ComP a b) (hl : 4096 < a.length + b.length) :
    Calls Try.prog 4 #[.string s, .slice p a.length cap, .slice q b.length cap2] w fun e w' => e = .returned (.bool true) ∧ Below w.heap.size w w' := by
  have hla : a.length ≤ 4096 := (okB_iff.1 ha.1).1
  have hlb : b.length ≤ 4096 := (okB_iff.1 hb.1).1
  have hsz : s.size ≤ 4096 := by have := (okB_iff.1 ha.1).2.2.1; omega
  have RA := Lib.hid ra; have RB := Lib.hid rb
  have HA := Lib.hid ha; have HS := Lib.hid hs; have HT := Lib.hid hT; have HB := Lib.hid hb; have HTB := Lib.hid ht; have HU := Lib.hid hU; have HC := Lib.hid hc
  clear ra rb ha hs hT hb ht hU hc
  have hlong : (1000 : Int) < (a.length : Int) + (b.length : Int) + (s.size : Int) := by omega
  go_enter Try.func4, Try.ntmps4
  go_wp2_with fail
  refine (awake_true _).mono ?_
  rintro e w1 ⟨rfl, hb1⟩
  have B1 := Lib.hid hb1; clear hb1
  go_wp2_with fail
  refine (apply_yesL s _ a _ _ rfl _ (RA.out.below B1.out) HA.out HS.out T HT.out).mono ?_
  rintro e w2 ⟨rfl, hb2⟩
  have B2 := Lib.hid (B1.out.trans (hb2.mono B1.out.size)); clear hb2 B1
  go_wp2_with fail
  refine (apply_yesL T _ b _ _ rfl _ (RB.out.below B2.out) HB.out HTB.out U HU.out).mono ?_
  rintro e w3 ⟨rfl, hb3⟩
  have B3 := Lib.hid (B2.out.trans (hb3.mono B2.out.size)); clear hb3 B2
  go_wp2_with fail
  refine (compose_noL _ _ a b _ _ _ _ rfl rfl _ (RA.out.below B3.out) (RB.out.below B3.out) ca cb HC.out).mono ?_
  rintro e w4 ⟨rfl, hb4⟩
  have B4 := Lib.hid (B3.out.trans (hb4.mono B3.out.size)); clear hb4 B3
  go_wp2_with (go_at_call 11; refine (num_any _ _).mono ?_; rintro e w' ⟨rfl, rfl⟩)
  refine (apply_some s _ [] _ _ (nil_row _)).mono ?_
  rintro e w5 ⟨X5, n5, rfl, hb5⟩
  have B5 := Lib.hid (B4.out.trans (hb5.mono B4.out.size)); clear hb5 B4
  go_wp2_with (go_at_call 11; refine (num_any _ _).mono ?_; rintro e w' ⟨rfl, rfl⟩)
  go_ret
  exact ⟨rfl, B5.out⟩

theorem does_true (s : ByteArray) (p q : Option Addr) (a b : List C) (cap cap2 : Nat) (w : World) (ra : RowC w p a) (rb : RowC w q b) (ca : a.length ≤ cap) (cb : b.length ≤ cap2) :
    Calls Try.prog 4 #[.string s, .slice p a.length cap, .slice q b.length cap2] w fun e w' => e = .returned (.bool true) ∧ Below w.heap.size w w' := by
  by_cases h1 : MayP a ∧ sumOf fromC a = s.size
  · by_cases h2 : MayP b ∧ sumOf fromC b = (appB s 0 a).size
    · by_cases h3 : ComP a b
      · exact does_yes s p q a b cap cap2 w ra rb ca cb h1.1 h1.2 _ _ rfl h2.1 h2.2 rfl h3
      · have e := appB_size (s := s) (cs := a) (a := 0) (gd_of_may h1.1).soft (by omega) (by omega)
        have hl : 4096 < a.length + b.length := by
          rcases Nat.lt_or_ge 4096 (a.length + b.length) with h | h
          · exact h
          · exact absurd (com_may h1.1 h2.1 (by omega) h) h3
        exact does_long s p q a b cap cap2 w ra rb ca cb h1.1 h1.2 _ _ rfl h2.1 h2.2 rfl h3 hl
    · exact does_no2 s p q a b cap cap2 w ra rb ca cb h1.1 h1.2 _ rfl h2
  · exact does_no1 s p q a b cap cap2 w ra rb ca cb h1

end Go.Proofs.Ytoihbacdonjagaa
