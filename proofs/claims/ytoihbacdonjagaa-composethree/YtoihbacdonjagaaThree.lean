/-
  The walk of the law ComposeThree. Conditions: as the theorems' premises say.
-/
import Derived.Test.YtoihbacdonjagaaBet
import Derived.Test.YtoihbacdonjagaaAw
import Derived.Test.YtoihbacdonjagaaRApp
namespace Go.Proofs.Ytoihbacdonjagaa
open Go.RowKit

def SomeBet (w : World) (e : Ending) (w' : World) : Prop := ∃ (v : Value) (n : Int), e = .returned (.tuple #[v, .int .i64 n]) ∧ Below w.heap.size w w'
theorem between_some (s t : ByteArray) (w : World) : Calls Try.prog 18 #[.string s, .string t] w (SomeBet w) := by
  by_cases h : 4096 < s.size ∨ 4096 < t.size
  · exact (between_no s t w h).mono fun _ _ ⟨h1, h2⟩ => ⟨_, _, h1, h2⟩
  · refine (between_ok s t w (by omega) (by omega)).mono ?_
    rintro e w' ⟨p, cap, c, rfl, -, -, hb⟩
    exact ⟨_, _, rfl, hb⟩
def SomeRApply (w : World) (e : Ending) (w' : World) : Prop := ∃ (X : ByteArray) (n : Int), e = .returned (.tuple #[.string X, .int .i64 n]) ∧ Below w.heap.size w w'
theorem rapply_some (s : ByteArray) (p : Option Addr) (cs : List C) (cap : Nat) (w : World) (hr : RowC w p cs) : Calls Try.prog 17 #[.string s, .slice p cs.length cap] w (SomeRApply w) := by
  refine (rapply_any s p cs cap w hr).mono ?_
  rintro e w' ⟨hb, ⟨rfl, -⟩ | ⟨rfl, -⟩⟩
  · exact ⟨_, _, rfl, hb⟩
  · exact ⟨_, _, rfl, hb⟩
theorem rapply_yesL (s : ByteArray) (p : Option Addr) (cs : List C) (L cap : Nat) (hL : cs.length = L) (w : World) (hr : RowC w p cs) (hm : MayP cs) (hf : sumOf fromC cs = s.size) (X : ByteArray) (hX : appB s 0 cs = X) :
    Calls Try.prog 17 #[.string s, .slice p L cap] w fun e w' => e = .returned (.tuple #[.string X, .int .i64 0]) ∧ Below w.heap.size w w' := by
  subst hL; subst hX
  refine (rapply_any s p cs cap w hr).mono ?_
  rintro e w' ⟨hb, ⟨rfl, -⟩ | ⟨-, hno⟩⟩
  · exact ⟨rfl, hb⟩
  · exact absurd ⟨hm, hf⟩ hno
theorem rapply_noL (s : ByteArray) (p : Option Addr) (cs : List C) (L cap : Nat) (hL : cs.length = L) (w : World) (hr : RowC w p cs) (hno : ¬ (MayP cs ∧ sumOf fromC cs = s.size)) :
    Calls Try.prog 17 #[.string s, .slice p L cap] w fun e w' => e = .returned (.tuple #[.string ⟨#[]⟩, .int .i64 300]) ∧ Below w.heap.size w w' := by
  subst hL
  refine (rapply_any s p cs cap w hr).mono ?_
  rintro e w' ⟨hb, ⟨-, hyes⟩ | ⟨rfl, -⟩⟩
  · exact absurd hyes hno
  · exact ⟨rfl, hb⟩

set_option maxHeartbeats 1000000 in
theorem three_no1 (s t : ByteArray) (p q : Option Addr) (a b : List C) (cap cap2 : Nat) (w : World) (ra : RowC w p a) (rb : RowC w q b) (hn : ¬ (MayP a ∧ sumOf fromC a = s.size)) :
    Calls Try.prog 5 #[.string s, .slice p a.length cap, .slice q b.length cap2, .string t] w fun e w' => e = .returned (.bool true) ∧ Below w.heap.size w w' := by
  have RA := Lib.hid ra; have RB := Lib.hid rb; have HN := Lib.hid hn
  clear ra rb hn
  go_enter Try.func5, Try.ntmps5
  go_wp2_with fail
  refine (awake_true _).mono ?_
  rintro e w1 ⟨rfl, hb1⟩
  have B1 := Lib.hid hb1; clear hb1
  go_wp2_with fail
  refine (rapply_noL s _ a _ _ rfl _ (RA.out.below B1.out) HN.out).mono ?_
  rintro e w2 ⟨rfl, hb2⟩
  have B2 := Lib.hid (B1.out.trans (hb2.mono B1.out.size)); clear hb2 B1
  go_wp2_with fail
  refine (rapply_some _ _ b _ _ (RB.out.below B2.out)).mono ?_
  rintro e w3 ⟨X3, n3, rfl, hb3⟩
  have B3 := Lib.hid (B2.out.trans (hb3.mono B2.out.size)); clear hb3 B2
  go_wp2_with fail
  refine (between_some _ _ _).mono ?_
  rintro e w4 ⟨v4, n4, rfl, hb4⟩
  have B4 := Lib.hid (B3.out.trans (hb4.mono B3.out.size)); clear hb4 B3
  go_wp2_with fail
  go_ret
  exact ⟨rfl, B4.out⟩

set_option maxHeartbeats 1000000 in
theorem three_no2 (s t : ByteArray) (p q : Option Addr) (a b : List C) (cap cap2 : Nat) (w : World) (ra : RowC w p a) (rb : RowC w q b) (ha : MayP a) (hs : sumOf fromC a = s.size) (T : ByteArray) (hT : appB s 0 a = T) (hn : ¬ (MayP b ∧ sumOf fromC b = T.size)) :
    Calls Try.prog 5 #[.string s, .slice p a.length cap, .slice q b.length cap2, .string t] w fun e w' => e = .returned (.bool true) ∧ Below w.heap.size w w' := by
  have RA := Lib.hid ra; have RB := Lib.hid rb; have HN := Lib.hid hn
  have HA := Lib.hid ha; have HS := Lib.hid hs; have HT := Lib.hid hT
  clear ra rb hn ha hs hT
  go_enter Try.func5, Try.ntmps5
  go_wp2_with fail
  refine (awake_true _).mono ?_
  rintro e w1 ⟨rfl, hb1⟩
  have B1 := Lib.hid hb1; clear hb1
  go_wp2_with fail
  refine (rapply_yesL s _ a _ _ rfl _ (RA.out.below B1.out) HA.out HS.out T HT.out).mono ?_
  rintro e w2 ⟨rfl, hb2⟩
  have B2 := Lib.hid (B1.out.trans (hb2.mono B1.out.size)); clear hb2 B1
  go_wp2_with fail
  refine (rapply_noL T _ b _ _ rfl _ (RB.out.below B2.out) HN.out).mono ?_
  rintro e w3 ⟨rfl, hb3⟩
  have B3 := Lib.hid (B2.out.trans (hb3.mono B2.out.size)); clear hb3 B2
  go_wp2_with fail
  refine (between_some _ _ _).mono ?_
  rintro e w4 ⟨v4, n4, rfl, hb4⟩
  have B4 := Lib.hid (B3.out.trans (hb4.mono B3.out.size)); clear hb4 B3
  go_wp2_with fail
  go_ret
  exact ⟨rfl, B4.out⟩

set_option maxHeartbeats 1000000 in
theorem three_no3 (s t : ByteArray) (p q : Option Addr) (a b : List C) (cap cap2 : Nat) (w : World) (ra : RowC w p a) (rb : RowC w q b) (ha : MayP a) (hs : sumOf fromC a = s.size) (T U : ByteArray) (hT : appB s 0 a = T) (hb : MayP b) (ht : sumOf fromC b = T.size) (hU : appB T 0 b = U) (hn : 4096 < t.size) :
    Calls Try.prog 5 #[.string s, .slice p a.length cap, .slice q b.length cap2, .string t] w fun e w' => e = .returned (.bool true) ∧ Below w.heap.size w w' := by
  have RA := Lib.hid ra; have RB := Lib.hid rb; have HN := Lib.hid hn
  have HA := Lib.hid ha; have HS := Lib.hid hs; have HT := Lib.hid hT; have HB := Lib.hid hb; have HTB := Lib.hid ht; have HU := Lib.hid hU
  clear ra rb hn ha hs hT hb ht hU
  go_enter Try.func5, Try.ntmps5
  go_wp2_with fail
  refine (awake_true _).mono ?_
  rintro e w1 ⟨rfl, hb1⟩
  have B1 := Lib.hid hb1; clear hb1
  go_wp2_with fail
  refine (rapply_yesL s _ a _ _ rfl _ (RA.out.below B1.out) HA.out HS.out T HT.out).mono ?_
  rintro e w2 ⟨rfl, hb2⟩
  have B2 := Lib.hid (B1.out.trans (hb2.mono B1.out.size)); clear hb2 B1
  go_wp2_with fail
  refine (rapply_yesL T _ b _ _ rfl _ (RB.out.below B2.out) HB.out HTB.out U HU.out).mono ?_
  rintro e w3 ⟨rfl, hb3⟩
  have B3 := Lib.hid (B2.out.trans (hb3.mono B2.out.size)); clear hb3 B2
  go_wp2_with fail
  refine (between_no _ _ _ (.inr HN.out)).mono ?_
  rintro e w4 ⟨rfl, hb4⟩
  have B4 := Lib.hid (B3.out.trans (hb4.mono B3.out.size)); clear hb4 B3
  go_wp2_with fail
  go_ret
  exact ⟨rfl, B4.out⟩

set_option maxRecDepth 100000 in
set_option maxHeartbeats 4000000 in
theorem three_yes (s t : ByteArray) (p q : Option Addr) (a b : List C) (cap cap2 : Nat) (w : World) (ra : RowC w p a) (rb : RowC w q b) (ca : a.length ≤ cap) (cb : b.length ≤ cap2) (ha : MayP a) (hs : sumOf fromC a = s.size) (T U : ByteArray) (hT : appB s 0 a = T) (hb : MayP b) (ht : sumOf fromC b = T.size) (hU : appB T 0 b = U) (htt : t.size ≤ 4096) :
    Calls Try.prog 5 #[.string s, .slice p a.length cap, .slice q b.length cap2, .string t] w fun e w' => e = .returned (.bool true) ∧ Below w.heap.size w w' := by
  have hla : a.length ≤ 4096 := (okB_iff.1 ha.1).1
  have hlb : b.length ≤ 4096 := (okB_iff.1 hb.1).1
  have hsz : s.size ≤ 4096 := by have := (okB_iff.1 ha.1).2.2.1; omega
  have sT : sumOf toC a = T.size := by rw [← hT]; exact (appB_size (gd_of_may ha).soft (Int.le_refl 0) (by omega)).symm
  have sU : sumOf toC b = U.size := by rw [← hU]; exact (appB_size (gd_of_may hb).soft (Int.le_refl 0) (by omega)).symm
  have hUz : U.size ≤ 4096 := by have := (okB_iff.1 hb.1).2.2.2; omega
  have RA := Lib.hid ra; have RB := Lib.hid rb
  have HA := Lib.hid ha; have HS := Lib.hid hs; have HT := Lib.hid hT; have HB := Lib.hid hb; have HTB := Lib.hid ht; have HU := Lib.hid hU
  have ST := Lib.hid sT; have SU := Lib.hid sU
  clear ra rb ha hs hT hb ht hU sT sU
  go_enter Try.func5, Try.ntmps5
  go_wp2_with fail
  refine (awake_true _).mono ?_
  rintro e w1 ⟨rfl, hb1⟩
  have B1 := Lib.hid hb1; clear hb1
  go_wp2_with fail
  refine (rapply_yesL s _ a _ _ rfl _ (RA.out.below B1.out) HA.out HS.out T HT.out).mono ?_
  rintro e w2 ⟨rfl, hb2⟩
  have B2 := Lib.hid (B1.out.trans (hb2.mono B1.out.size)); clear hb2 B1
  go_wp2_with fail
  refine (rapply_yesL T _ b _ _ rfl _ (RB.out.below B2.out) HB.out HTB.out U HU.out).mono ?_
  rintro e w3 ⟨rfl, hb3⟩
  have B3 := Lib.hid (B2.out.trans (hb3.mono B2.out.size)); clear hb3 B2
  go_wp2_with fail
  refine (between_ok U t _ hUz htt).mono ?_
  rintro e w4 ⟨p4, cap4, c, rfl, ho4, hl4, hb4⟩
  have B4 := Lib.hid (B3.out.trans (hb4.mono B3.out.size)); have O4 := Lib.hid ho4; have LD := Lib.hid hl4
  have hlc : c.length ≤ 4 := hl4.2.1
  clear hb4 B3 ho4 hl4
  by_cases hlong : (1000 : Int) < (a.length : Int) + (b.length : Int) + (s.size : Int) + (t.size : Int)
  · go_wp2_with fail
    go_ret
    exact ⟨rfl, B4.out⟩
  · have hshort : a.length + b.length ≤ 1000 := by omega
    -- the compositions, as lists
    obtain ⟨x, hx⟩ : ∃ x, normOf (joinL a b) = x := ⟨_, rfl⟩
    have mab : ComP a b := com_may HA.out HB.out (by rw [ST.out, HTB.out]) (by omega)
    have sx := com_sums HA.out HB.out mab.2.2.1
    have ax := com_app (s := s) HA.out HB.out mab.2.2.1 HS.out
    have lx : x.length ≤ a.length + b.length := by rw [← hx]; exact Nat.le_trans (normOf_length _) (joinL_length _ _)
    have mx : MayP x := hx ▸ mab.2.2.2
    rw [hx] at sx ax
    rw [HT.out, HU.out] at ax
    obtain ⟨y, hy⟩ : ∃ y, normOf (joinL x c) = y := ⟨_, rfl⟩
    have mxc : ComP x c := com_may mx LD.out.1 (by rw [sx.2, SU.out, LD.out.2.2.1]) (by omega)
    have sy := com_sums mx LD.out.1 mxc.2.2.1
    have ay := com_app (s := s) mx LD.out.1 mxc.2.2.1 (by rw [sx.1, HS.out])
    have my : MayP y := hy ▸ mxc.2.2.2
    rw [hy] at sy ay
    rw [ax, LD.out.2.2.2.2] at ay
    obtain ⟨z, hz⟩ : ∃ z, normOf (joinL b c) = z := ⟨_, rfl⟩
    have mbc : ComP b c := com_may HB.out LD.out.1 (by rw [SU.out, LD.out.2.2.1]) (by omega)
    have sz := com_sums HB.out LD.out.1 mbc.2.2.1
    have az := com_app (s := T) HB.out LD.out.1 mbc.2.2.1 HTB.out
    have lz : z.length ≤ b.length + c.length := by rw [← hz]; exact Nat.le_trans (normOf_length _) (joinL_length _ _)
    have mz : MayP z := hz ▸ mbc.2.2.2
    rw [hz] at sz az
    rw [HU.out, LD.out.2.2.2.2] at az
    obtain ⟨v, hv⟩ : ∃ v, normOf (joinL a z) = v := ⟨_, rfl⟩
    have maz : ComP a z := com_may HA.out mz (by rw [ST.out, sz.1, HTB.out]) (by omega)
    have sv := com_sums HA.out mz maz.2.2.1
    have av := com_app (s := s) HA.out mz maz.2.2.1 HS.out
    have mv : MayP v := hv ▸ maz.2.2.2
    rw [hv] at sv av
    rw [HT.out, az] at av
    have hlx : x.length ≤ 4096 := by omega
    have hlz : z.length ≤ 4096 := by omega
    have fy : sumOf fromC y = s.size := by rw [sy.1, sx.1, HS.out]
    have fv : sumOf fromC v = s.size := by rw [sv.1, HS.out]
    have K1 := Lib.hid mab; have K2 := Lib.hid hx; have K3 := Lib.hid mxc; have K4 := Lib.hid hy; have K5 := Lib.hid mbc; have K6 := Lib.hid hz; have K7 := Lib.hid maz; have K8 := Lib.hid hv
    have M1 := Lib.hid my; have M2 := Lib.hid fy; have M3 := Lib.hid ay; have M4 := Lib.hid mv; have M5 := Lib.hid fv; have M6 := Lib.hid av
    clear mab hx mxc hy mbc hz maz hv my fy ay mv fv av sx sy sz sv ax az mx mz lx lz
    go_wp2_with fail
    refine (compose_yesL _ _ a b x _ _ _ _ rfl rfl _ (RA.out.below B4.out) (RB.out.below B4.out) ca cb K1.out K2.out).mono ?_
    rintro e w5 ⟨p5, cap5, rfl, ho5, hb5⟩
    have B5 := Lib.hid (B4.out.trans (hb5.mono B4.out.size)); have O5 := Lib.hid (O4.out.below hb5); have X5 := Lib.hid ho5
    clear hb5 ho5 O4 B4
    go_wp2_with fail
    refine (compose_yesL _ _ x c y _ _ _ _ rfl rfl _ X5.out.row O5.out.row X5.out.capL O5.out.capL K3.out K4.out).mono ?_
    rintro e w6 ⟨p6, cap6, rfl, ho6, hb6⟩
    have B6 := Lib.hid (B5.out.trans (hb6.mono B5.out.size)); have O6 := Lib.hid (O5.out.below hb6); have Y6 := Lib.hid ho6
    clear hb6 ho6 O5 B5 X5
    go_wp2_with fail
    refine (compose_yesL _ _ b c z _ _ _ _ rfl rfl _ (RB.out.below B6.out) O6.out.row cb O6.out.capL K5.out K6.out).mono ?_
    rintro e w7 ⟨p7, cap7, rfl, ho7, hb7⟩
    have B7 := Lib.hid (B6.out.trans (hb7.mono B6.out.size)); have Y7 := Lib.hid (Y6.out.below hb7); have Z7 := Lib.hid ho7
    clear hb7 ho7 O6 B6 Y6
    go_wp2_with fail
    refine (compose_yesL _ _ a z v _ _ _ _ rfl rfl _ (RA.out.below B7.out) Z7.out.row ca Z7.out.capL K7.out K8.out).mono ?_
    rintro e w8 ⟨p8, cap8, rfl, ho8, hb8⟩
    have B8 := Lib.hid (B7.out.trans (hb8.mono B7.out.size)); have Y8 := Lib.hid (Y7.out.below hb8); have V8 := Lib.hid ho8
    clear hb8 ho8 B7 Y7 Z7
    go_wp2_with (go_at_call 11; refine (num_any _ _).mono ?_; rintro e w' ⟨rfl, rfl⟩)
    refine (rapply_yesL s _ y _ _ rfl _ Y8.out.row M1.out M2.out t M3.out).mono ?_
    rintro e w9 ⟨rfl, hb9⟩
    have B9 := Lib.hid (B8.out.trans (hb9.mono B8.out.size)); have V9 := Lib.hid (V8.out.below hb9)
    clear hb9 B8 Y8 V8
    go_wp2_with fail
    refine (rapply_yesL s _ v _ _ rfl _ V9.out.row M4.out M5.out t M6.out).mono ?_
    rintro e w10 ⟨rfl, hb10⟩
    have B10 := Lib.hid (B9.out.trans (hb10.mono B9.out.size))
    clear hb10 B9 V9
    go_wp2_with fail
    go_ret
    exact ⟨rfl, B10.out⟩

theorem three_true (s t : ByteArray) (p q : Option Addr) (a b : List C) (cap cap2 : Nat) (w : World) (ra : RowC w p a) (rb : RowC w q b) (ca : a.length ≤ cap) (cb : b.length ≤ cap2) :
    Calls Try.prog 5 #[.string s, .slice p a.length cap, .slice q b.length cap2, .string t] w fun e w' => e = .returned (.bool true) ∧ Below w.heap.size w w' := by
  by_cases h1 : MayP a ∧ sumOf fromC a = s.size
  · by_cases h2 : MayP b ∧ sumOf fromC b = (appB s 0 a).size
    · by_cases h3 : t.size ≤ 4096
      · exact three_yes s t p q a b cap cap2 w ra rb ca cb h1.1 h1.2 _ _ rfl h2.1 h2.2 rfl h3
      · exact three_no3 s t p q a b cap cap2 w ra rb h1.1 h1.2 _ _ rfl h2.1 h2.2 rfl (by omega)
    · exact three_no2 s t p q a b cap cap2 w ra rb h1.1 h1.2 _ rfl h2
  · exact three_no1 s t p q a b cap cap2 w ra rb h1

end Go.Proofs.Ytoihbacdonjagaa
