/-
  Invert where it answers an edit, and where it does not; the walk of awake: it answers true. Conditions: as the theorems' premises say.
-/
import Derived.Test.YtdpjkafabjhkiaaInv
namespace Go.Proofs.Ytdpjkafabjhkiaa
open Go.RowKit

theorem invert_any (s : ByteArray) (p : Option Addr) (cs : List C) (cap : Nat) (w : World) (hr : RowC w p cs) : Calls Try.prog 7 #[.string s, .slice p cs.length cap] w (InvPost s cs w) := by
  by_cases h : Does s cs
  · exact invert_yes s p cs cap w hr h
  · exact invert_no s p cs cap w hr h

def InvYes (out : List C) (w : World) (e : Ending) (w' : World) : Prop :=
  ∃ p cap, e = .returned (.tuple #[.slice p out.length cap, .int .i64 0]) ∧ Own w' w.heap.size (.slice p out.length cap) out ∧ Below w.heap.size w w'
def InvNo (w : World) (e : Ending) (w' : World) : Prop := e = .returned (.tuple #[.slice none 0 0, .int .i64 700]) ∧ Below w.heap.size w w'
theorem invert_yesL (s : ByteArray) (p : Option Addr) (cs out : List C) (n cap : Nat) (hn : cs.length = n) (w : World) (hr : RowC w p cs) (h : Does s cs) (ho : normOf (invL s 0 cs) = out) : Calls Try.prog 7 #[.string s, .slice p n cap] w (InvYes out w) := by
  subst hn; subst ho
  refine (invert_any s p cs cap w hr).mono ?_
  rintro e w' ⟨hb, ⟨-, v, rfl, ho⟩ | ⟨hno, -⟩⟩
  · obtain ⟨pv, cv, rfl⟩ := ho.form
    exact ⟨pv, cv, rfl, ho, hb⟩
  · exact absurd h hno
theorem invert_noL (s : ByteArray) (p : Option Addr) (cs : List C) (n cap : Nat) (hn : cs.length = n) (w : World) (hr : RowC w p cs) (h : ¬ Does s cs) : Calls Try.prog 7 #[.string s, .slice p n cap] w (InvNo w) := by
  subst hn
  refine (invert_any s p cs cap w hr).mono ?_
  rintro e w' ⟨hb, ⟨hyes, -⟩ | ⟨-, rfl⟩⟩
  · exact absurd hyes h
  · exact ⟨rfl, hb⟩

/-- Two rows of the same pieces. -/
theorem same_yes (p q : Option Addr) (cs : List C) (n cap m cap2 : Nat) (hn : cs.length = n) (hm : cs.length = m) (hl : cs.length ≤ 4096) (w : World) (hr : RowC w p cs) (hq : RowC w q cs) :
    Calls Try.prog 9 #[.slice p n cap, .slice q m cap2] w fun e w' => e = .returned (.bool true) ∧ Below w.heap.size w w' := by
  subst hn; subst hm
  refine (same_any p q cs cs cap cap2 _ hr hq (by omega)).mono ?_
  rintro e w4 ⟨hb4, ⟨rfl, -⟩ | ⟨-, hno⟩⟩
  · exact ⟨rfl, hb4⟩
  · exact absurd rfl hno
/-- A row against a literal that is the same. -/
theorem same_lit (p : Option Addr) (cs : List C) (n cap cap2 : Nat) (hn : cs.length = n) (hl : cs.length ≤ 4096) (xs : Array Value) (hx : xs = (cellsC cs).toArray) (w : World) (hr : RowC w p cs) :
    Calls Try.prog 9 #[.slice p n cap, .slice (some ⟨w.heap.size, 0, none⟩) n cap2] (w.alloc (.cells xs 40)) fun e w' => e = .returned (.bool true) ∧ Below w.heap.size w w' := by
  subst hn
  have hb := (Below.refl w.heap.size w).alloc (Nat.le_refl _) (.cells xs 40)
  refine (same_any p _ cs cs cap cap2 _ (hr.below hb) (lit_row w cs xs hx) (by omega)).mono ?_
  rintro e w4 ⟨hb4, ⟨rfl, -⟩ | ⟨-, hno⟩⟩
  · exact ⟨rfl, hb.trans (hb4.mono hb.size)⟩
  · exact absurd rfl hno

def cba : List C := [⟨0, 2, e0⟩, ⟨1, 0, ⟨#[99, 100, 101]⟩⟩, ⟨2, 2, e0⟩, ⟨0, 1, e0⟩]
theorem abc_inv : normOf (invL ⟨#[97, 98, 99, 100, 101, 102]⟩ 0 abc) = cba := by kernel_rfl
theorem abc_does : Does ⟨#[97, 98, 99, 100, 101, 102]⟩ abc := ⟨abc_may, abc_from⟩

set_option maxRecDepth 100000 in
set_option maxHeartbeats 4000000 in
theorem awake_true (w : World) : Calls Try.prog 13 #[] w fun e w' => e = .returned (.bool true) ∧ Below w.heap.size w w' := by
  go_enter Try.func13, Try.ntmps13
  go_wp2_with fail
  show Calls Try.prog 7 _ (w.alloc (.cells (cellsC abc).toArray 40)) _
  have F := Lib.hid (lit_row w abc _ rfl)
  have B0 := Lib.hid ((Below.refl w.heap.size w).alloc (Nat.le_refl _) (.cells (cellsC abc).toArray 40))
  generalize w.alloc (.cells (cellsC abc).toArray 40) = W at F B0 ⊢
  refine (invert_yesL _ _ abc cba 4 _ rfl _ F.out abc_does abc_inv).mono ?_
  rintro e w1 ⟨p1, c1, rfl, ho1, hb1⟩
  have O1 := Lib.hid ho1.row; have B1 := Lib.hid (B0.out.trans (hb1.mono B0.out.size)); clear ho1 hb1 B0
  go_wp2_with fail
  show Calls Try.prog 7 _ (w1.alloc (.cells (cellsC [⟨0, 2, e0⟩]).toArray 40)) _
  have G := Lib.hid (lit_row w1 [⟨0, 2, e0⟩] _ rfl)
  have B2 := Lib.hid ((Below.refl w1.heap.size w1).alloc (Nat.le_refl _) (.cells (cellsC [⟨0, 2, e0⟩]).toArray 40))
  generalize w1.alloc (.cells (cellsC [⟨0, 2, e0⟩]).toArray 40) = W2 at G B2 ⊢
  refine (invert_noL _ _ [⟨0, 2, e0⟩] 1 _ rfl _ G.out two_no).mono ?_
  rintro e w2 ⟨rfl, hb2⟩
  have B3 := Lib.hid (B2.out.trans (hb2.mono B2.out.size))
  have O3 := Lib.hid (O1.out.below B3.out)
  have B4 := Lib.hid (B1.out.trans (B3.out.mono B1.out.size))
  clear hb2 B2 B3 O1 B1
  go_wp2_with fail
  refine (same_lit _ cba _ _ _ rfl (by decide) _ rfl w2 O3.out).mono ?_
  rintro e w4 ⟨rfl, hb4⟩
  have B5 := Lib.hid (B4.out.trans (hb4.mono B4.out.size))
  clear hb4 B4
  go_wp2_with (go_at_call 10; refine (num_any _ _).mono ?_; rintro e w' ⟨rfl, rfl⟩)
  go_ret
  exact ⟨rfl, B5.out⟩

end Go.Proofs.Ytdpjkafabjhkiaa
