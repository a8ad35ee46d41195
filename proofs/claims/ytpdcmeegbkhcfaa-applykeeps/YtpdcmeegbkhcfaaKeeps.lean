/-
  The walk of the law ApplyKeeps. Conditions: as the theorems' premises say.
-/
import Derived.Test.YtpdcmeegbkhcfaaAwake
namespace Go.Proofs.Ytpdcmeegbkhcfaa
open Go.RowKit

theorem Own.grown {w w' : World} {base : Nat} {v : Value} {cs : List C} {row : Option Nat} (h : Own w base v cs) (hg : w.grownBy w' row) (hne : v.ownBlock = none ∨ v.ownBlock ≠ row) : Own w' base v cs := World.ownsRow.kept h hg hne

theorem whole_part (s : ByteArray) : s.extract 0 s.size = s := ba_ext (by
  rw [ba_extract, List.drop_zero, Nat.sub_zero, ← ba_len s, List.take_length])
theorem keep_may {s : ByteArray} (h1 : s.size ≤ 4096) (h0 : s.size ≠ 0) : MayP [⟨0, s.size, e0⟩] := by
  refine ⟨okB_iff.2 ⟨by simp, ?_, ?_, ?_⟩, ?_⟩
  · intro c hc
    simp only [List.mem_singleton] at hc
    subst hc
    exact .inl ⟨.inl rfl, by simp, by simp; omega, rfl⟩
  · simp [sumOf, fromC]; omega
  · simp [sumOf, toC, C.sz, e0_size]; omega
  · refine (norm_snoc (cs := [])).2 ⟨lit0_may.2, ?_, fun l hl => by simp at hl⟩
    unfold C.sz; dsimp only; rw [e0_size]; omega
theorem keep_from (s : ByteArray) : sumOf fromC [⟨0, s.size, e0⟩] = s.size := by simp [sumOf, fromC]
theorem keep_app (s : ByteArray) : appB s 0 [⟨0, s.size, e0⟩] = s := by
  rw [appB_one]
  unfold partB
  simp only [if_true]
  rw [Int.zero_add, Int.toNat_natCast]
  exact whole_part s
theorem put_raw {t : ByteArray} (h1 : t.size ≤ 4096) : C.Raw ⟨1, 0, t⟩ := .inr ⟨rfl, rfl, h1⟩
theorem cut_raw {s : ByteArray} (h1 : s.size ≤ 4096) : C.Raw ⟨2, s.size, e0⟩ := .inl ⟨.inr rfl, by simp, by simp; omega, rfl⟩
theorem put_norm {t : ByteArray} (h0 : t.size ≠ 0) : Norm [⟨1, 0, t⟩] :=
  (norm_snoc (cs := [])).2 ⟨lit0_may.2, by unfold C.sz; dsimp only; omega, fun l hl => by simp at hl⟩
theorem put_may {t : ByteArray} (h1 : t.size ≤ 4096) (h0 : t.size ≠ 0) : MayP [⟨1, 0, t⟩] :=
  ⟨okB_iff.2 ⟨by simp, fun c hc => by simp only [List.mem_singleton] at hc; subst hc; exact put_raw h1, by simp [sumOf, fromC], by simp [sumOf, toC, C.sz]; omega⟩, put_norm h0⟩
theorem cut_may {s : ByteArray} (h1 : s.size ≤ 4096) (h0 : s.size ≠ 0) : MayP [⟨2, s.size, e0⟩] :=
  ⟨okB_iff.2 ⟨by simp, fun c hc => by simp only [List.mem_singleton] at hc; subst hc; exact cut_raw h1, by simp [sumOf, fromC]; omega, by simp [sumOf, toC]⟩, (norm_snoc (cs := [])).2 ⟨lit0_may.2, by unfold C.sz; dsimp only; rw [e0_size]; omega, fun l hl => by simp at hl⟩⟩
theorem turn_may {s t : ByteArray} (h1 : s.size ≤ 4096) (h0 : s.size ≠ 0) (g1 : t.size ≤ 4096) (g0 : t.size ≠ 0) : MayP [⟨1, 0, t⟩, ⟨2, s.size, e0⟩] := by
  refine ⟨okB_iff.2 ⟨by simp, ?_, ?_, ?_⟩, ?_⟩
  · intro c hc
    simp only [List.mem_cons, List.not_mem_nil, or_false] at hc
    rcases hc with rfl | rfl
    · exact put_raw g1
    · exact cut_raw h1
  · simp [sumOf, fromC]; omega
  · simp [sumOf, toC, C.sz]; omega
  · refine (norm_snoc (cs := [⟨1, 0, t⟩])).2 ⟨put_norm g0, by unfold C.sz; dsimp only; rw [e0_size]; omega, fun l hl => ?_⟩
    simp at hl
    subst hl
    exact ⟨by dsimp only; omega, .inl (by dsimp only; omega)⟩
theorem more_not {s : ByteArray} {cs : List C} (h : sumOf fromC cs = s.size) : ¬ (MayP cs ∧ sumOf fromC cs = (s ++ ⟨#[120]⟩).size) := fun hh => by
  have := hh.2
  rw [h, ba_append_size] at this
  have : (ByteArray.mk #[120]).size = 1 := rfl
  omega

set_option maxHeartbeats 1000000 in
theorem keeps_long (s t : ByteArray) (w : World) (h : 4096 < s.size ∨ 4096 < t.size) : Calls Try.prog 5 #[.string s, .string t] w fun e w' => e = .returned (.bool true) ∧ Below w.heap.size w w' := by
  by_cases h1 : (4096 : Int) < (s.size : Int)
  · clear h
    go_enter Try.func5, Try.ntmps5
    go_wp2_with (go_at_call 12; refine (awake_true _).mono ?_; rintro e w1 ⟨rfl, hb1⟩; have B1 := Lib.hid hb1; clear hb1)
    go_ret
    exact ⟨rfl, B1.out⟩
  · have h2 : (4096 : Int) < (t.size : Int) := by omega
    clear h
    go_enter Try.func5, Try.ntmps5
    go_wp2_with (go_at_call 12; refine (awake_true _).mono ?_; rintro e w1 ⟨rfl, hb1⟩; have B1 := Lib.hid hb1; clear hb1)
    go_ret
    exact ⟨rfl, B1.out⟩

set_option maxRecDepth 100000 in
set_option maxHeartbeats 2000000 in
theorem keeps_both (s t : ByteArray) (hs : s.size ≤ 4096) (ht : t.size ≤ 4096) (hs0 : s.size ≠ 0) (ht0 : t.size ≠ 0) (w : World) : Calls Try.prog 5 #[.string s, .string t] w fun e w' => e = .returned (.bool true) ∧ Below w.heap.size w w' := by
  obtain ⟨i0, hi, hz0, hz1, hz2⟩ := info_parts info39
  have is0 : (0 : Int) < (s.size : Int) := by omega
  have is4 : ¬ ((4096 : Int) < (s.size : Int)) := by omega
  replace hs0 := Lib.hid hs0
  have it0 : (0 : Int) < (t.size : Int) := by omega
  have it4 : ¬ ((4096 : Int) < (t.size : Int)) := by omega
  replace ht0 := Lib.hid ht0
  go_enter Try.func5, Try.ntmps5
  go_wp2_with (first
    | (go_at_call 12; refine (awake_true _).mono ?_; rintro e w1 ⟨rfl, hb1⟩; have B1 := Lib.hid hb1; clear hb1)
    | (at_builtin; refine wpList_append_lies _ rfl _ _ 22 rfl w.heap.size 34 i0 _ 3 32 Try.underlying22 hi hz0 hz1 hz2 rfl (by decide) (.slice none 0 0) 0 ([]) rfl (World.ownsRow_nil _ _ _ _) ⟨w1.heap.size, 0, none⟩ 1 1 (C.cells ⟨1, 0, t⟩) rfl rfl (three_new rfl ⟨1, 0, t⟩) (cells_one _) (by decide) (by decide) (by decide) (Nat.le_trans B1.out.size (by simp)) (w1.heap.size + 1) (by simp) ?_; intro g2 cap2 w2 hown hgrow hgg hlt; have B2 : Hid (Below w.heap.size w w2) := Lib.hid ((B1.out.alloc B1.out.size _).grown hgrow (Nat.le_trans B1.out.size (by simp)) (fun k h => by cases h)); have T2 : Hid (Own w2 w.heap.size (.slice (some ⟨g2, 0, none⟩) 1 cap2) [⟨1, 0, t⟩]) := Lib.hid hown; clear hown hgrow hgg hlt)
    | (at_builtin; refine wpList_append_lies _ rfl _ _ 22 rfl w.heap.size 34 i0 _ 3 32 Try.underlying22 hi hz0 hz1 hz2 rfl (by decide) (.slice none 0 0) 0 ([]) rfl (World.ownsRow_nil _ _ _ _) ⟨w2.heap.size, 0, none⟩ 1 1 (C.cells ⟨0, s.size, e0⟩) rfl rfl (three_new rfl ⟨0, s.size, e0⟩) (cells_one _) (by decide) (by decide) (by decide) (Nat.le_trans B2.out.size (by simp)) (w2.heap.size + 1) (by simp) ?_; intro g3 cap3 w3 hown hgrow hgg hlt; have B3 : Hid (Below w.heap.size w w3) := Lib.hid ((B2.out.alloc B2.out.size _).grown hgrow (Nat.le_trans B2.out.size (by simp)) (fun k h => by cases h)); have K3 : Hid (Own w3 w.heap.size (.slice (some ⟨g3, 0, none⟩) 1 cap3) [⟨0, s.size, e0⟩]) := Lib.hid hown; have T3 : Hid (Own w3 w.heap.size (.slice (some ⟨g2, 0, none⟩) 1 cap2) [⟨1, 0, t⟩]) := Lib.hid (Own.below T2.out (((Below.refl _ _).alloc (Nat.le_refl _) _).grown hgrow (by simp) (fun k h => by cases h))); have NE : Hid (g3 ≠ g2) := Lib.hid (by rcases hgg with h | h; cases h; rw [h]; have := (T2.out.lt (g := g2) rfl).2; omega); clear hown hgrow hgg hlt)
    | (at_builtin; refine wpList_append_lies _ rfl _ _ 22 rfl w.heap.size 34 i0 _ 3 32 Try.underlying22 hi hz0 hz1 hz2 rfl (by decide) (.slice (some ⟨g2, 0, none⟩) 1 cap2) 1 (cellsC [⟨1, 0, t⟩]) rfl (World.ownsRow.alloc T3.out _) ⟨w3.heap.size, 0, none⟩ 1 1 (C.cells ⟨2, s.size, e0⟩) rfl rfl (three_new rfl ⟨2, s.size, e0⟩) (cells_one _) (by decide) (by decide) (by decide) (Nat.le_trans B3.out.size (by simp)) (w3.heap.size + 1) (by simp) ?_; intro g4 cap4 w4 hown hgrow hgg hlt; have B4 : Hid (Below w.heap.size w w4) := Lib.hid ((B3.out.alloc B3.out.size _).grown hgrow (Nat.le_trans B3.out.size (by simp)) (fun k h => (T3.out.lt h).1)); have T4 : Hid (Own w4 w.heap.size (.slice (some ⟨g4, 0, none⟩) 2 cap4) [⟨1, 0, t⟩, ⟨2, s.size, e0⟩]) := Lib.hid hown; have K4 : Hid (Own w4 w.heap.size (.slice (some ⟨g3, 0, none⟩) 1 cap3) [⟨0, s.size, e0⟩]) := Lib.hid (Own.grown (World.ownsRow.alloc K3.out _) hgrow (.inr (fun h => NE.out (Option.some.inj h)))); clear hown hgrow hgg hlt))
  refine (apply_yesL s _ [⟨0, s.size, e0⟩] 1 _ rfl _ K4.out.row (keep_may hs hs0.out) (keep_from s) s (keep_app s)).mono ?_
  rintro e w6 ⟨rfl, hb6⟩
  have B6 := Lib.hid hb6
  clear hb6
  go_wp2_with fail
  refine (apply_yesL s _ [⟨1, 0, t⟩, ⟨2, s.size, e0⟩] 2 _ rfl _ (T4.out.row.below B6.out) (turn_may hs hs0.out ht ht0.out) (by simp [sumOf, fromC]) t (by simp [appB, partB, e0_right])).mono ?_
  rintro e w7 ⟨rfl, hb7⟩
  have B7 := Lib.hid (B6.out.trans (hb7.mono B6.out.size))
  clear hb7
  go_wp2_with fail
  refine (apply_noL _ _ [⟨0, s.size, e0⟩] 1 _ rfl _ (K4.out.row.below B7.out) (more_not (keep_from s))).mono ?_
  rintro e w8 ⟨rfl, hb8⟩
  have B8 := Lib.hid (B7.out.trans (hb8.mono B7.out.size))
  clear hb8
  go_wp2_with (first | (go_at_call 10; refine (num_any _ _).mono ?_; rintro e w' ⟨rfl, rfl⟩))
  go_ret
  exact ⟨rfl, B4.out.trans (B8.out.mono B4.out.size)⟩

set_option maxRecDepth 100000 in
set_option maxHeartbeats 2000000 in
theorem keeps_s (s : ByteArray) (hs : s.size ≤ 4096) (hs0 : s.size ≠ 0) (w : World) : Calls Try.prog 5 #[.string s, .string ⟨#[]⟩] w fun e w' => e = .returned (.bool true) ∧ Below w.heap.size w w' := by
  obtain ⟨i0, hi, hz0, hz1, hz2⟩ := info_parts info39
  have is0 : (0 : Int) < (s.size : Int) := by omega
  have is4 : ¬ ((4096 : Int) < (s.size : Int)) := by omega
  replace hs0 := Lib.hid hs0
  go_enter Try.func5, Try.ntmps5
  go_wp2_with (first
    | (go_at_call 12; refine (awake_true _).mono ?_; rintro e w1 ⟨rfl, hb1⟩; have B1 := Lib.hid hb1; clear hb1)
    | (at_builtin; refine wpList_append_lies _ rfl _ _ 22 rfl w.heap.size 34 i0 _ 3 32 Try.underlying22 hi hz0 hz1 hz2 rfl (by decide) (.slice none 0 0) 0 ([]) rfl (World.ownsRow_nil _ _ _ _) ⟨w1.heap.size, 0, none⟩ 1 1 (C.cells ⟨0, s.size, e0⟩) rfl rfl (three_new rfl ⟨0, s.size, e0⟩) (cells_one _) (by decide) (by decide) (by decide) (Nat.le_trans B1.out.size (by simp)) (w1.heap.size + 1) (by simp) ?_; intro g3 cap3 w2 hown hgrow hgg hlt; have B2 : Hid (Below w.heap.size w w2) := Lib.hid ((B1.out.alloc B1.out.size _).grown hgrow (Nat.le_trans B1.out.size (by simp)) (fun k h => by cases h)); have K2 : Hid (Own w2 w.heap.size (.slice (some ⟨g3, 0, none⟩) 1 cap3) [⟨0, s.size, e0⟩]) := Lib.hid hown; clear hown hgrow hgg hlt)
    | (at_builtin; refine wpList_append_lies _ rfl _ _ 22 rfl w.heap.size 34 i0 _ 3 32 Try.underlying22 hi hz0 hz1 hz2 rfl (by decide) (.slice none 0 0) 0 ([]) rfl (World.ownsRow_nil _ _ _ _) ⟨w2.heap.size, 0, none⟩ 1 1 (C.cells ⟨2, s.size, e0⟩) rfl rfl (three_new rfl ⟨2, s.size, e0⟩) (cells_one _) (by decide) (by decide) (by decide) (Nat.le_trans B2.out.size (by simp)) (w2.heap.size + 1) (by simp) ?_; intro g4 cap4 w3 hown hgrow hgg hlt; have B3 : Hid (Below w.heap.size w w3) := Lib.hid ((B2.out.alloc B2.out.size _).grown hgrow (Nat.le_trans B2.out.size (by simp)) (fun k h => by cases h)); have T3 : Hid (Own w3 w.heap.size (.slice (some ⟨g4, 0, none⟩) 1 cap4) [⟨2, s.size, e0⟩]) := Lib.hid hown; have K3 : Hid (Own w3 w.heap.size (.slice (some ⟨g3, 0, none⟩) 1 cap3) [⟨0, s.size, e0⟩]) := Lib.hid (Own.below K2.out (((Below.refl _ _).alloc (Nat.le_refl _) _).grown hgrow (by simp) (fun k h => by cases h))); clear hown hgrow hgg hlt))
  refine (apply_yesL s _ [⟨0, s.size, e0⟩] 1 _ rfl _ K3.out.row (keep_may hs hs0.out) (keep_from s) s (keep_app s)).mono ?_
  rintro e w6 ⟨rfl, hb6⟩
  have B6 := Lib.hid hb6
  clear hb6
  go_wp2_with fail
  refine (apply_yesL s _ [⟨2, s.size, e0⟩] 1 _ rfl _ (T3.out.row.below B6.out) (cut_may hs hs0.out) (by simp [sumOf, fromC]) ⟨#[]⟩ (by rw [appB_one]; rfl)).mono ?_
  rintro e w7 ⟨rfl, hb7⟩
  have B7 := Lib.hid (B6.out.trans (hb7.mono B6.out.size))
  clear hb7
  go_wp2_with fail
  refine (apply_noL _ _ [⟨0, s.size, e0⟩] 1 _ rfl _ (K3.out.row.below B7.out) (more_not (keep_from s))).mono ?_
  rintro e w8 ⟨rfl, hb8⟩
  have B8 := Lib.hid (B7.out.trans (hb8.mono B7.out.size))
  clear hb8
  go_wp2_with (first | (go_at_call 10; refine (num_any _ _).mono ?_; rintro e w' ⟨rfl, rfl⟩))
  go_ret
  exact ⟨rfl, B3.out.trans (B8.out.mono B3.out.size)⟩

set_option maxRecDepth 100000 in
set_option maxHeartbeats 2000000 in
theorem keeps_t (t : ByteArray) (ht : t.size ≤ 4096) (ht0 : t.size ≠ 0) (w : World) : Calls Try.prog 5 #[.string ⟨#[]⟩, .string t] w fun e w' => e = .returned (.bool true) ∧ Below w.heap.size w w' := by
  obtain ⟨i0, hi, hz0, hz1, hz2⟩ := info_parts info39
  have it0 : (0 : Int) < (t.size : Int) := by omega
  have it4 : ¬ ((4096 : Int) < (t.size : Int)) := by omega
  replace ht0 := Lib.hid ht0
  go_enter Try.func5, Try.ntmps5
  go_wp2_with (first
    | (go_at_call 12; refine (awake_true _).mono ?_; rintro e w1 ⟨rfl, hb1⟩; have B1 := Lib.hid hb1; clear hb1)
    | (at_builtin; refine wpList_append_lies _ rfl _ _ 22 rfl w.heap.size 34 i0 _ 3 32 Try.underlying22 hi hz0 hz1 hz2 rfl (by decide) (.slice none 0 0) 0 ([]) rfl (World.ownsRow_nil _ _ _ _) ⟨w1.heap.size, 0, none⟩ 1 1 (C.cells ⟨1, 0, t⟩) rfl rfl (three_new rfl ⟨1, 0, t⟩) (cells_one _) (by decide) (by decide) (by decide) (Nat.le_trans B1.out.size (by simp)) (w1.heap.size + 1) (by simp) ?_; intro g2 cap2 w2 hown hgrow hgg hlt; have B2 : Hid (Below w.heap.size w w2) := Lib.hid ((B1.out.alloc B1.out.size _).grown hgrow (Nat.le_trans B1.out.size (by simp)) (fun k h => by cases h)); have T2 : Hid (Own w2 w.heap.size (.slice (some ⟨g2, 0, none⟩) 1 cap2) [⟨1, 0, t⟩]) := Lib.hid hown; clear hown hgrow hgg hlt))
  refine (apply_yesL ⟨#[]⟩ none [] 0 0 rfl _ (nil_row _) lit0_may rfl ⟨#[]⟩ rfl).mono ?_
  rintro e w6 ⟨rfl, hb6⟩
  have B6 := Lib.hid hb6
  clear hb6
  go_wp2_with fail
  refine (apply_yesL ⟨#[]⟩ _ [⟨1, 0, t⟩] 1 _ rfl _ (T2.out.row.below B6.out) (put_may ht ht0.out) (by simp [sumOf, fromC]; exact rfl) t (by rw [appB_one]; rfl)).mono ?_
  rintro e w7 ⟨rfl, hb7⟩
  have B7 := Lib.hid (B6.out.trans (hb7.mono B6.out.size))
  clear hb7
  go_wp2_with fail
  refine (apply_noL _ none [] 0 0 rfl _ (nil_row _) (more_not rfl)).mono ?_
  rintro e w8 ⟨rfl, hb8⟩
  have B8 := Lib.hid (B7.out.trans (hb8.mono B7.out.size))
  clear hb8
  go_wp2_with (first | (go_at_call 10; refine (num_any _ _).mono ?_; rintro e w' ⟨rfl, rfl⟩))
  go_ret
  exact ⟨rfl, B2.out.trans (B8.out.mono B2.out.size)⟩

set_option maxRecDepth 100000 in
set_option maxHeartbeats 2000000 in
theorem keeps_none  (w : World) : Calls Try.prog 5 #[.string ⟨#[]⟩, .string ⟨#[]⟩] w fun e w' => e = .returned (.bool true) ∧ Below w.heap.size w w' := by
  go_enter Try.func5, Try.ntmps5
  go_wp2_with (first
    | (go_at_call 12; refine (awake_true _).mono ?_; rintro e w1 ⟨rfl, hb1⟩; have B1 := Lib.hid hb1; clear hb1))
  refine (apply_yesL ⟨#[]⟩ none [] 0 0 rfl _ (nil_row _) lit0_may rfl ⟨#[]⟩ rfl).mono ?_
  rintro e w6 ⟨rfl, hb6⟩
  have B6 := Lib.hid hb6
  clear hb6
  go_wp2_with fail
  refine (apply_yesL ⟨#[]⟩ none [] 0 0 rfl _ (nil_row _) lit0_may rfl ⟨#[]⟩ rfl).mono ?_
  rintro e w7 ⟨rfl, hb7⟩
  have B7 := Lib.hid (B6.out.trans (hb7.mono B6.out.size))
  clear hb7
  go_wp2_with fail
  refine (apply_noL _ none [] 0 0 rfl _ (nil_row _) (more_not rfl)).mono ?_
  rintro e w8 ⟨rfl, hb8⟩
  have B8 := Lib.hid (B7.out.trans (hb8.mono B7.out.size))
  clear hb8
  go_wp2_with (first | (go_at_call 10; refine (num_any _ _).mono ?_; rintro e w' ⟨rfl, rfl⟩))
  go_ret
  exact ⟨rfl, B1.out.trans (B8.out.mono B1.out.size)⟩

theorem keeps_true (s t : ByteArray) (w : World) : Calls Try.prog 5 #[.string s, .string t] w fun e w' => e = .returned (.bool true) ∧ Below w.heap.size w w' := by
  by_cases h : 4096 < s.size ∨ 4096 < t.size
  · exact keeps_long s t w h
  · by_cases h1 : s.size = 0
    · have h1' := e0_of h1
      subst h1'
      by_cases h2 : t.size = 0
      · have h2' := e0_of h2
        subst h2'
        exact keeps_none w
      · exact keeps_t t (by omega) h2 w
    · by_cases h2 : t.size = 0
      · have h2' := e0_of h2
        subst h2'
        exact keeps_s s (by omega) h1 w
      · exact keeps_both s t (by omega) (by omega) h1 h2 w

end Go.Proofs.Ytpdcmeegbkhcfaa
