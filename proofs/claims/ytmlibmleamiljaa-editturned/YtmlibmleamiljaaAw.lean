/-
  Make with letters; the walk of awake: it answers true. Conditions: as the theorems' premises say.
-/
import Derived.Test.YtmlibmleamiljaaLong
namespace Go.Proofs.Ytmlibmleamiljaa
open Go.RowKit

theorem make_yesL (s put : ByteArray) (a c b : Nat) (x y : Int) (hx : x = (a : Int)) (hy : y = (c : Int)) (out : List C) (ho : normOf (edL a put c b) = out) (w : World) (hs : a + c + b = s.size) (hm : s.size ≤ 4096) (hp : put.size ≤ 300) (hl : s.size + put.size ≤ 300 + c) : Calls Try.prog 8 #[.string s, .int .i64 x, .int .i64 y, .string put] w (EdYes out w) := by
  subst hx; subst hy; subst ho; exact make_yes s put a c b w hs hm hp hl
theorem make_longL (s put : ByteArray) (a c b : Nat) (x y : Int) (hx : x = (a : Int)) (hy : y = (c : Int)) (w : World) (hs : a + c + b = s.size) (hm : s.size ≤ 4096) (h : LongBad s put c) : Calls Try.prog 8 #[.string s, .int .i64 x, .int .i64 y, .string put] w (EdNo 801 w) := by
  subst hx; subst hy; exact make_long s put a c b w hs hm h
theorem between_yesL (s t : ByteArray) (out : List C) (ho : btw s t = out) (w : World) (hs : s.size ≤ 4096) (ht : t.size ≤ 4096) : Calls Try.prog 10 #[.string s, .string t] w (EdYes out w) := by
  subst ho; exact between_yes s t w hs ht

/-- Two rows of the same pieces. -/
theorem same_yes (p q : Option Addr) (cs : List C) (n cap m cap2 : Nat) (hn : cs.length = n) (hm : cs.length = m) (hl : cs.length ≤ 4096) (w : World) (hr : RowC w p cs) (hq : RowC w q cs) :
    Calls Try.prog 12 #[.slice p n cap, .slice q m cap2] w fun e w' => e = .returned (.bool true) ∧ Below w.heap.size w w' := by
  subst hn; subst hm
  refine (same_any p q cs cs cap cap2 _ hr hq (by omega)).mono ?_
  rintro e w4 ⟨hb4, ⟨rfl, -⟩ | ⟨-, hno⟩⟩
  · exact ⟨rfl, hb4⟩
  · exact absurd rfl hno

theorem abc_made : normOf (edL 2 ⟨#[120, 121]⟩ 3 1) = abc := by kernel_rfl
theorem abc_btw : btw ⟨#[97, 98, 99, 100, 101, 102]⟩ ⟨#[97, 98, 120, 121, 102]⟩ = abc := by kernel_rfl

set_option maxRecDepth 100000 in
set_option maxHeartbeats 4000000 in
theorem awake_true (w : World) : Calls Try.prog 14 #[] w fun e w' => e = .returned (.bool true) ∧ Below w.heap.size w w' := by
  go_enter Try.func14, Try.ntmps14
  go_wp2_with fail
  refine (make_yesL ⟨#[97, 98, 99, 100, 101, 102]⟩ ⟨#[120, 121]⟩ 2 3 1 2 3 rfl rfl abc abc_made _ rfl (by decide) (by decide) (by decide)).mono ?_
  rintro e w1 ⟨p1, c1, rfl, ho1, hb1⟩
  have O1 := Lib.hid ho1.row; have B1 := Lib.hid hb1; clear ho1 hb1
  go_wp2_with fail
  refine (between_yesL ⟨#[97, 98, 99, 100, 101, 102]⟩ ⟨#[97, 98, 120, 121, 102]⟩ abc abc_btw _ (by decide) (by decide)).mono ?_
  rintro e w2 ⟨p2, c2, rfl, ho2, hb2⟩
  have O2 := Lib.hid ho2.row; have P2 := Lib.hid (O1.out.below hb2); have B2 := Lib.hid (B1.out.trans (hb2.mono B1.out.size)); clear ho2 hb2 O1 B1
  go_wp2_with fail
  refine (make_form ⟨#[97, 98, 99]⟩ ⟨#[]⟩ 2 2 _ (.inr (.inr (.inr (.inr (by decide)))))).mono ?_
  rintro e w3 ⟨rfl, hb3⟩
  have O3 := Lib.hid (O2.out.below hb3); have P3 := Lib.hid (P2.out.below hb3); have B3 := Lib.hid (B2.out.trans (hb3.mono B2.out.size)); clear hb3 O2 P2 B2
  go_wp2_with fail
  refine (long_any 300 (by decide) _).mono ?_
  rintro e w4 ⟨X, rfl, hX, hb4⟩
  have HX := Lib.hid hX; have O4 := Lib.hid (O3.out.below hb4); have P4 := Lib.hid (P3.out.below hb4); have B4 := Lib.hid (B3.out.trans (hb4.mono B3.out.size)); clear hb4 O3 P3 B3 hX
  go_wp2_with fail
  refine (make_longL ⟨#[97, 98, 99]⟩ X 0 0 3 0 0 rfl rfl _ rfl (by decide) (.inr (by rw [HX.out]; decide))).mono ?_
  rintro e w5 ⟨rfl, hb5⟩
  have O5 := Lib.hid (O4.out.below hb5); have P5 := Lib.hid (P4.out.below hb5); have B5 := Lib.hid (B4.out.trans (hb5.mono B4.out.size)); clear hb5 O4 P4 B4
  go_wp2_with fail
  show Calls Try.prog 12 _ (w5.alloc (.cells (cellsC abc).toArray 38)) _
  have F := Lib.hid (lit_row w5 abc _ rfl)
  have hb6 := (Below.refl w5.heap.size w5).alloc (Nat.le_refl _) (.cells (cellsC abc).toArray 38)
  have O6 := Lib.hid (O5.out.below hb6); have P6 := Lib.hid (P5.out.below hb6); have B6 := Lib.hid (B5.out.trans (hb6.mono B5.out.size))
  clear hb6 O5 P5 B5
  generalize w5.alloc (.cells (cellsC abc).toArray 38) = W at F O6 P6 B6 ⊢
  refine (same_yes _ _ abc _ _ _ _ rfl rfl (by decide) _ P6.out F.out).mono ?_
  rintro e w7 ⟨rfl, hb7⟩
  have O7 := Lib.hid (O6.out.below hb7); have F7 := Lib.hid (F.out.below hb7); have B7 := Lib.hid (B6.out.trans (hb7.mono B6.out.size)); clear hb7 O6 P6 B6 F
  go_wp2_with (go_at_call 13; refine (num_any _ _).mono ?_; rintro e w' ⟨rfl, rfl⟩)
  refine (same_yes _ _ abc _ _ _ _ rfl rfl (by decide) _ O7.out F7.out).mono ?_
  rintro e w8 ⟨rfl, hb8⟩
  have B8 := Lib.hid (B7.out.trans (hb8.mono B7.out.size)); clear hb8 O7 F7 B7
  go_wp2_with (go_at_call 13; refine (num_any _ _).mono ?_; rintro e w' ⟨rfl, rfl⟩)
  go_ret
  exact ⟨rfl, B8.out⟩

end Go.Proofs.Ytmlibmleamiljaa
