/-
  The walks of the readers' small functions. Conditions: as each theorem's premises say.
-/
import Derived.Test.YtdpjkafabjhkiaaComM
import Derived.Laws.ResultCell
namespace Go.Proofs.Ytdpjkafabjhkiaa
open Go.RowKit

/-- A function that answers a struct out of a variable of its own. -/
theorem results_cell1 {fn : Func} {p : Tmp} {ty : TypeId} (h : fn.results = #[.cell p ty]) (tmps : Array Value) (P : Program) (w : World) :
    (results fn tmps).run P w = ((asAddr (tmps.getD p undef)).run P w).andThen fun a w₁ => (loadVar ty a).run P w₁ := by
  simp only [results, h]
  simp [Sem.run_bind, Result.andThen]

set_option maxHeartbeats 400000 in
theorem more_yes (b n cap : Nat) (p : Option Addr) (w : World) (h : w.cell? ⟨b, 0, none⟩ = some (.slice p n cap)) (hn : 0 < n) : Calls Try.prog 33 #[.pointer (some ⟨b, 0, none⟩)] w fun e w' => e = .returned (.bool true) ∧ w = w' := by
  go_enter Try.func33, Try.ntmps33
  go_wp2
  go_ret
  exact ⟨by simp, rfl⟩

set_option maxHeartbeats 400000 in
theorem more_no (b cap : Nat) (p : Option Addr) (w : World) (h : w.cell? ⟨b, 0, none⟩ = some (.slice p 0 cap)) : Calls Try.prog 33 #[.pointer (some ⟨b, 0, none⟩)] w fun e w' => e = .returned (.bool false) ∧ w = w' := by
  go_enter Try.func33, Try.ntmps33
  go_wp2
  go_ret
  exact ⟨by simp, rfl⟩

set_option maxHeartbeats 400000 in
theorem at_yes (b n cap g o : Nat) (k kind : Int) (w : World) (h : w.cell? ⟨b, 0, none⟩ = some (.slice (some ⟨g, o, none⟩) (n + 1) cap)) (hk : w.cell? ⟨g, o, none⟩ = some (.int .i64 k)) : Calls Try.prog 34 #[.pointer (some ⟨b, 0, none⟩), .int .i64 kind] w fun e w' => e = .returned (.bool (k == kind)) ∧ w = w' := by
  have H := Lib.hid h
  go_enter Try.func34, Try.ntmps34
  go_wp2_with (go_at_call 33; refine (more_yes _ _ _ _ _ H.out (by omega)).mono ?_; rintro e w1 ⟨rfl, rfl⟩)
  go_ret
  exact ⟨rfl, rfl⟩

set_option maxHeartbeats 400000 in
theorem at_no (b cap : Nat) (p : Option Addr) (kind : Int) (w : World) (h : w.cell? ⟨b, 0, none⟩ = some (.slice p 0 cap)) : Calls Try.prog 34 #[.pointer (some ⟨b, 0, none⟩), .int .i64 kind] w fun e w' => e = .returned (.bool false) ∧ w = w' := by
  have H := Lib.hid h
  go_enter Try.func34, Try.ntmps34
  go_wp2_with (go_at_call 33; refine (more_no _ _ _ _ H.out).mono ?_; rintro e w1 ⟨rfl, rfl⟩)
  go_ret
  exact ⟨rfl, rfl⟩

set_option maxHeartbeats 400000 in
theorem new_any (p : Option Addr) (n cap : Nat) (w : World) : Calls Try.prog 24 #[.slice p n cap] w fun e w' => e = .returned (.pointer (some ⟨w.heap.size, 0, none⟩)) ∧ w' = w.alloc (.cells #[.slice p n cap, .int .i64 0] 64) := by
  go_enter Try.func24, Try.ntmps24
  go_wp2
  go_ret
  exact ⟨rfl, rfl⟩

set_option maxHeartbeats 400000 in
theorem meet_any (x y : C) (w : World) : Calls Try.prog 37 #[x.val, y.val] w fun e w' => e = .returned (meetC x y).val ∧ Below w.heap.size w w' := by
  obtain ⟨k, n, t⟩ := x
  obtain ⟨k', n', t'⟩ := y
  have hA : Below w.heap.size w (((w.alloc (.cells #[.int .i64 k, .int .i64 n, .string t] 40)).alloc (.cells #[.int .i64 k', .int .i64 n', .string t'] 40)).alloc (.cells #[.int .i64 k, .int .i64 n, .string t] 40)) := (((Below.refl _ _).alloc (Nat.le_refl _) _).alloc (by simp) _).alloc (by simp; omega) _
  have hB : Below w.heap.size w (((w.alloc (.cells #[.int .i64 k, .int .i64 n, .string t] 40)).alloc (.cells #[.int .i64 k', .int .i64 n', .string t'] 40)).alloc (.cells #[.int .i64 k', .int .i64 n', .string t'] 40)) := (((Below.refl _ _).alloc (Nat.le_refl _) _).alloc (by simp) _).alloc (by simp; omega) _
  have hC : Below w.heap.size w (((w.alloc (.cells #[.int .i64 k, .int .i64 n, .string t] 40)).alloc (.cells #[.int .i64 k', .int .i64 n', .string t'] 40)).alloc (.cells #[.int .i64 0, .int .i64 0, .string ⟨#[]⟩] 40)) := (((Below.refl _ _).alloc (Nat.le_refl _) _).alloc (by simp) _).alloc (by simp; omega) _
  unfold C.val
  have hA := Lib.hid hA
  have hB := Lib.hid hB
  have hC := Lib.hid hC
  by_cases h1 : k' = 0
  · subst h1
    have e : meetC ⟨k, n, t⟩ ⟨0, n', t'⟩ = ⟨k, n, t⟩ := by simp [meetC]
    rw [e]
    clear e
    dsimp only
    go_enter Try.func37, Try.ntmps37
    go_wp2
    (try simp only [Exit.inBlock, Exit.then])
    refine bodyPost_ret (v := .agg #[.int .i64 k, .int .i64 n, .string t]) (by rw [results_cell1 rfl]; go_simp) rfl ⟨rfl, hA.out⟩
  · by_cases h2 : k = 0
    · subst h2
      have e : meetC ⟨0, n, t⟩ ⟨k', n', t'⟩ = ⟨k', n', t'⟩ := by simp [meetC, h1]
      rw [e]
      clear e
      have g1 : (k' == 0) = false := beq_eq_false_iff_ne.2 h1
      clear h1
      dsimp only
      go_enter Try.func37, Try.ntmps37
      go_wp2
      (try simp only [Exit.inBlock, Exit.then])
      refine bodyPost_ret (v := .agg #[.int .i64 k', .int .i64 n', .string t']) (by rw [results_cell1 rfl]; go_simp) rfl ⟨rfl, hB.out⟩
    · have e : meetC ⟨k, n, t⟩ ⟨k', n', t'⟩ = ⟨0, 0, e0⟩ := by simp [meetC, h1, h2]
      rw [e]
      clear e
      have g1 : (k' == 0) = false := beq_eq_false_iff_ne.2 h1
      have g2 : (k == 0) = false := beq_eq_false_iff_ne.2 h2
      clear h1 h2
      dsimp only
      go_enter Try.func37, Try.ntmps37
      go_wp2
      (try simp only [Exit.inBlock, Exit.then])
      refine bodyPost_ret (v := .agg #[.int .i64 0, .int .i64 0, .string ⟨#[]⟩]) (by rw [results_cell1 rfl]; go_simp) rfl ⟨rfl, hC.out⟩

set_option maxHeartbeats 400000 in
theorem left_yes (b n cap g o : Nat) (c : C) (a : Int) (w : World) (h : w.cell? ⟨b, 0, none⟩ = some (.slice (some ⟨g, o, none⟩) (n + 1) cap)) (h1 : w.cell? ⟨b, 1, none⟩ = some (.int .i64 a)) (hc : PieceAt w g o c) (hr : c.Raw) (h0 : 0 ≤ a) (h2 : a ≤ c.sz) :
    Calls Try.prog 36 #[.pointer (some ⟨b, 0, none⟩)] w fun e w' => e = .returned (.int .i64 (c.sz - a)) ∧ Below w.heap.size w w' := by
  have H := Lib.hid h
  obtain ⟨c0, c1, c2⟩ := hc
  obtain ⟨f1, f2, f3⟩ := fit_raw hr
  obtain ⟨k, n', t⟩ := c
  unfold C.sz at *
  dsimp only at *
  go_enter Try.func36, Try.ntmps36
  go_wp2_with (go_at_call 33; refine (more_yes _ _ _ _ _ H.out (by omega)).mono ?_; rintro e w1 ⟨rfl, rfl⟩)
  have x0 : ∀ X : Ext w, X.w.cell? ⟨b, 0, none⟩ = some (.slice (some ⟨g, o, none⟩) (n + 1) cap) := fun X => X.cell h
  have x1 : ∀ X : Ext w, X.w.cell? ⟨b, 1, none⟩ = some (.int .i64 a) := fun X => X.cell h1
  have x2 : ∀ X : Ext w, X.w.cell? ⟨g, o, none⟩ = some (.int .i64 k) := fun X => X.cell c0
  have x3 : ∀ X : Ext w, X.w.cell? ⟨g, o + 1, none⟩ = some (.int .i64 n') := fun X => X.cell c1
  have x4 : ∀ X : Ext w, X.w.cell? ⟨g, o + 2, none⟩ = some (.string t) := fun X => X.cell c2
  clear h h1 c0 c1 c2
  refine wp_region_ext (by kernel_rfl) (by kernel_rfl) ?_
  repeat (go_big_quiet_step ((go_at_call 28; exact Ext.calls (size_any _ _ _ _ f1 f2 f3))))
  refine wpQuiet_nil ?_
  rintro _ ⟨X, rfl⟩
  clear x0 x1 x2 x3 x4
  go_wp2
  go_ret
  exact ⟨rfl, X.below⟩

end Go.Proofs.Ytdpjkafabjhkiaa
