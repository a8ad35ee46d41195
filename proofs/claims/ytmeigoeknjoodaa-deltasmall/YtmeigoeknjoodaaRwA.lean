/-
  RdU and Rch, in one text. Conditions: as each theorem's premises say.
-/
import Derived.Test.YtmeigoeknjoodaaMpA
namespace Go.Proofs.Ytmeigoeknjoodaa
open Go.RowKit

theorem ints_at {w : World} {p : Option Addr} {l : List Int} (h : lyI.Row w p l) {i : Nat} {x : Int} (hx : l[i]? = some x) : ∃ b o, p = some ⟨b, o, none⟩ ∧ w.cell? ⟨b, o + i, none⟩ = some (.int .i64 x) := by
  obtain ⟨b, o, hp, hat⟩ := h i x hx
  have := hat 0 _ rfl
  exact ⟨b, o, hp, by simpa [lyI] using this⟩

set_option maxRecDepth 100000 in
set_option maxHeartbeats 1000000 in
theorem sameInts_any (pa pb : Option Addr) (a b : List Int) (na nb ca cb : Nat) (ha : a.length = na) (hb : b.length = nb) (w : World) (ra : lyI.Row w pa a) (rb : lyI.Row w pb b) (hl : na ≤ 140737488355328) : Calls Try.prog 25 #[.slice pa na ca, .slice pb nb cb] w (RetBelow (.returned (.bool (a == b))) w) := by
  have RA := Lib.hid ra; have RB := Lib.hid rb; have HA := Lib.hid ha; have HB := Lib.hid hb
  clear ra rb ha hb
  by_cases hn : na = nb
  · subst hn
    go_enter Try.func25, Try.ntmps25
    go_wp2_with fail
    go_loopw [5] (fun v wr => ∃ j : Nat, j ≤ na ∧ v = .int .i64 j ∧ Hid (Below w.heap.size w wr) ∧ Hid (a.take j = b.take j)) (fun v _ => na - (intOf v).toNat)
    case atStart => exact ⟨0, by omega, rfl, Lib.hid (Below.refl _ _), Lib.hid (by simp)⟩
    case round =>
      obtain ⟨j, hj, rfl, B, E⟩ := hrel
      by_cases hlt : j < na
      · obtain ⟨x, hx⟩ : ∃ x, a[j]? = some x := ⟨_, List.getElem?_eq_getElem (by rw [HA.out]; exact hlt)⟩
        obtain ⟨y, hy⟩ : ∃ y, b[j]? = some y := ⟨_, List.getElem?_eq_getElem (by rw [HB.out]; exact hlt)⟩
        obtain ⟨ba, oa, rfl, c0⟩ := ints_at RA.out hx
        obtain ⟨bb, ob, rfl, d0⟩ := ints_at RB.out hy
        have c1 := cell_later B.out c0
        have d1 := cell_later B.out d0
        have HX := Lib.hid hx; have HY := Lib.hid hy
        have hi0 : (0 : Int) ≤ (j : Int) := by omega
        have hi1 : (j : Int) < (na : Int) := by omega
        clear c0 d0 hx hy
        by_cases he : x = y
        · have q : (x != y) = false := by simpa using he
          have E' : Hid (a.take (j + 1) = b.take (j + 1)) := Lib.hid (by rw [List.take_add_one, List.take_add_one, E.out, HX.out, HY.out, he])
          subst he
          go_wp2_with fail
          go_quiet (fail)
          go_wp2_with fail
          go_roundw
          case rel => exact ⟨j + 1, by omega, by go_num, Lib.hid (B.out.trans ((dr_below _ _).mono B.out.size)), E'⟩
          case measure => simp [intOf]; omega
        · have q : (x != y) = true := by simpa using he
          have F : Hid ((a == b) = false) := Lib.hid (by
            rw [beq_eq_false_iff_ne]
            intro e
            have h1 := HX.out
            rw [e, HY.out] at h1
            exact he (Option.some.inj h1).symm)
          clear he
          go_wp2_with fail
          go_quiet (fail)
          go_wp2_with fail
          go_ret
          exact ⟨retB (by rw [F.out]), B.out.trans ((dr_below _ _).mono B.out.size)⟩
      · have F : Hid ((a == b) = true) := Lib.hid (by
          have := E.out
          rw [List.take_of_length_le (by rw [HA.out]; omega), List.take_of_length_le (by rw [HB.out]; omega)] at this
          simpa using this)
        go_wp2_with fail
        go_ret
        exact ⟨retB (by rw [F.out]), B.out⟩
  · have F : Hid ((a == b) = false) := Lib.hid (by
      rw [beq_eq_false_iff_ne]
      intro e
      have h1 := HA.out
      rw [e, HB.out] at h1
      exact hn h1.symm)
    have q : ((na : Int) != (nb : Int)) = true := by simp; omega
    have q2 : (na != nb) = true := by simpa using hn
    clear hn
    go_enter Try.func25, Try.ntmps25
    go_wp2_with fail
    go_ret
    exact ⟨retB (by rw [F.out]), Below.refl _ _⟩

set_option maxRecDepth 100000 in
set_option maxHeartbeats 1000000 in
theorem rootEnd_any (root next : Int) (p : Option Addr) (ns : List Nd) (N cap : Nat) (hN : ns.length = N) (w : World) (h : NodesR w p ns) (hl : N ≤ 140737488355328) : Calls Try.prog 23 #[trV root next p N cap] w (RetBelow (.returned (.int .i64 (endN ns root))) w) := by
  have R := Lib.hid h; clear h
  have FA := Lib.hid (fun (W : World) (hW : Below w.heap.size w W) => find_any root next p ns N cap hN root W (R.out.below hW) hl)
  have HN := Lib.hid hN; clear hN
  unfold trV at *
  rcases fd_cases ns root with ⟨k, x, h1, h2, h3, h4⟩ | ⟨h1, h2⟩
  · have EN : Hid (endN ns root = Nd.to x) := Lib.hid (by unfold endN; rw [h4])
    have H1 := Lib.hid h1
    have hk : k < N := by rw [← HN.out]; exact (List.getElem?_eq_some_iff.1 h2).1
    obtain ⟨b, o, kp, kc, rfl, hat, -⟩ := R.out k x h2
    have c3 : w.cell? ⟨b, o + k * 5 + 3, none⟩ = some (.int .i64 (Nd.to x)) := hat 3 _ rfl
    have hi0 : (0 : Int) ≤ (k : Int) := by omega
    have hi1 : (k : Int) < (N : Int) := by omega
    clear h1 h2 h3 h4 hat
    go_enter Try.func23, Try.ntmps23
    go_wp2_with fail
    refine (FA.out _ ((Below.refl _ _).alloc (Nat.le_refl _) _)).mono ?_
    rintro e w1 ⟨rfl, hb1⟩
    rw [H1.out]
    have B1 : Hid (Below w.heap.size w w1) := Lib.hid (((Below.refl w.heap.size w).alloc (Nat.le_refl _) _).trans (hb1.mono (by simp)))
    have c3' := cell_later B1.out c3
    have b2 : w1.cell? ⟨w.heap.size, 2, none⟩ = some (.slice (some ⟨b, o, none⟩) N cap) := cell_later hb1 (by rw [World.cell?_alloc_mark]; rfl)
    clear hb1
    go_wp2_with fail
    go_ret
    exact ⟨retI (by rw [EN.out]), B1.out⟩
  · have EN : Hid (endN ns root = -1) := Lib.hid (by unfold endN; rw [h2])
    have H1 := Lib.hid h1
    clear h1 h2
    go_enter Try.func23, Try.ntmps23
    go_wp2_with fail
    refine (FA.out _ ((Below.refl _ _).alloc (Nat.le_refl _) _)).mono ?_
    rintro e w1 ⟨rfl, hb1⟩
    rw [H1.out]
    have B1 : Hid (Below w.heap.size w w1) := Lib.hid (((Below.refl w.heap.size w).alloc (Nat.le_refl _) _).trans (hb1.mono (by simp)))
    clear hb1
    go_wp2_with fail
    go_ret
    exact ⟨retI (by rw [EN.out]), B1.out⟩

theorem sum_take_succ {l : List Int} {g : Int → Nat} {j : Nat} {c : Int} (h : l[j]? = some c) : ((l.take (j + 1)).map g).sum = ((l.take j).map g).sum + g c := by
  rw [List.take_add_one, h]; simp
theorem sum_take_le (l : List Int) (g : Int → Nat) (j : Nat) : ((l.take j).map g).sum ≤ (l.map g).sum := by
  conv => rhs; rw [← List.take_append_drop j l, List.map_append, List.sum_append]
  omega
theorem reach_some {ns : List Nd} {f : Nat} {x : Nd} (h : getN ns x.id = some x) : reachN ns (f + 1) x.id = 1 + (x.kids.map (reachN ns f)).sum := by
  show (match getN ns x.id with | none => 0 | some x => 1 + (x.kids.map (reachN ns f)).sum) = _
  rw [h]

set_option maxRecDepth 100000 in
set_option maxHeartbeats 2000000 in
theorem reach_any (root next : Int) (p : Option Addr) (ns : List Nd) (N cap : Nat) (hN : ns.length = N) (hl : N ≤ 4096) (hkf : ∀ (k : Nat) y, ns[k]? = some y → ∀ c ∈ y.kids, ∃ z, getN ns c = some z) (hkl : ∀ (k : Nat) y, ns[k]? = some y → y.kids.length ≤ 100000) (hbd : ∀ f id, f ≤ N + 1 → reachN ns f id ≤ 1000000000) :
    ∀ (f D : Nat), D + f = N + 1 → ∀ (w : World) (k : Nat) (x : Nd), NodesR w p ns → ns[k]? = some x → getN ns x.id = some x →
      Calls Try.prog 49 #[trV root next p N cap, .int .i64 k, .int .i64 D] w (RetBelow (.returned (.int .i64 (reachN ns f x.id : Nat))) w) := by
  intro f
  induction f with
  | zero =>
    intro D hD w k x R hx hg
    have hD2 : N < D := by omega
    unfold trV
    clear hkf hbd hkl R hx hg hN hD
    go_enter Try.func49, Try.ntmps49
    go_wp2_with fail
    go_ret
    exact ⟨rfl, (Below.refl _ _).alloc (Nat.le_refl _) _⟩
  | succ f ih =>
    intro D hD w k x R hx hg
    have IH := Lib.hid ih
    have HR := Lib.hid R
    have RS := Lib.hid (reach_some (f := f) hg)
    have KF := Lib.hid (hkf k x hx)
    have BD := Lib.hid (hbd (f + 1) x.id (by omega))
    have BD2 := Lib.hid (fun c => hbd f c (by omega))
    have hkn := hkl k x hx
    have FA := Lib.hid (fun (W : World) (hW : Below w.heap.size w W) (c : Int) => find_any root next p ns N cap hN c W (HR.out.below hW) (by omega))
    have hk : k < N := by rw [← hN]; exact (List.getElem?_eq_some_iff.1 hx).1
    obtain ⟨b, o, kp, kc, rfl, hat, hrow⟩ := R k x hx
    have c4 : w.cell? ⟨b, o + k * 5 + 4, none⟩ = some (.slice kp x.kids.length kc) := hat 4 _ rfl
    have ROW := Lib.hid hrow
    have hD2 : D ≤ N := by omega
    have hi0 : (0 : Int) ≤ (k : Int) := by omega
    have hi1 : (k : Int) < (N : Int) := by omega
    have HD : Hid (D + 1 + f = N + 1) := Lib.hid (by omega)
    clear R ih hkf hbd hkl hx hg hat hrow hD hN
    unfold trV at *
    go_enter Try.func49, Try.ntmps49
    go_wp2_with fail
    go_loopw [7, 8] (fun s v wr => ∃ j : Nat, j ≤ x.kids.length ∧ v = .int .i64 j ∧ s = .int .i64 ((1 + ((x.kids.take j).map (reachN ns f)).sum : Nat)) ∧ Hid (Below w.heap.size w wr) ∧ Hid (wr.heap[w.heap.size]? = some (.cells #[.int .i64 root, .int .i64 next, .slice (some ⟨b, o, none⟩) N cap] 24 (0, 0)))) (fun _ v _ => x.kids.length - (intOf v).toNat)
    case atStart => exact ⟨0, by omega, rfl, rfl, Lib.hid ((Below.refl _ _).alloc (Nat.le_refl _) _), Lib.hid (heap_alloc_new w _)⟩
    case round =>
      obtain ⟨j, hj, rfl, rfl, B, BX⟩ := hrel
      have SL := Lib.hid (sum_take_le x.kids (reachN ns f) j)
      have c4' := cell_later B.out c4
      have x0 := (obj_cells BX.out).1 0 _ rfl
      have x1 := (obj_cells BX.out).1 1 _ rfl
      have x2 := (obj_cells BX.out).1 2 _ rfl
      by_cases hlt : j < x.kids.length
      · obtain ⟨c, hc⟩ : ∃ c, x.kids[j]? = some c := ⟨_, List.getElem?_eq_getElem hlt⟩
        obtain ⟨kb, ko, rfl, d0⟩ := ints_at ROW.out hc
        have d1 := cell_later B.out d0
        obtain ⟨z, hz⟩ := KF.out c (List.mem_of_getElem? hc)
        have SS := Lib.hid (sum_take_succ (g := reachN ns f) hc)
        have SL2 := Lib.hid (sum_take_le x.kids (reachN ns f) (j + 1))
        rcases fd_cases ns c with ⟨kk, y, h1, h2, h3, h4⟩ | ⟨h1, h2⟩
        · have FC : Hid (∀ X : Ext wr, Calls Try.prog 24 #[.agg #[.int .i64 root, .int .i64 next, .slice (some ⟨b, o, none⟩) N cap], .int .i64 c] X.w (RetBelow (.returned (.int .i64 kk)) X.w)) := Lib.hid (fun X => by
            have := FA.out X.w (B.out.trans (X.below.mono B.out.size)) c
            rw [h1] at this
            exact this)
          have RC : Hid (∀ X : Ext wr, Calls Try.prog 49 #[.agg #[.int .i64 root, .int .i64 next, .slice (some ⟨b, o, none⟩) N cap], .int .i64 kk, .int .i64 ((D : Int) + 1)] X.w (RetBelow (.returned (.int .i64 (reachN ns f c : Nat))) X.w)) := Lib.hid (fun X => by
            have := IH.out (D + 1) HD.out X.w kk y (HR.out.below (B.out.trans (X.below.mono B.out.size))) h2 (by rw [h3]; exact h4)
            rw [h3] at this
            exact this)
          have bdc := BD2.out c
          have bd1 : ((x.kids.take j).map (reachN ns f)).sum ≤ 1000000000 := by have := BD.out; rw [RS.out] at this; have := SL.out; omega
          generalize reachN ns f c = rc at *
          have SS2 : Hid (1 + ((x.kids.take (j + 1)).map (reachN ns f)).sum = 1 + ((x.kids.take j).map (reachN ns f)).sum + rc) := Lib.hid (by rw [SS.out]; omega)
          generalize ((x.kids.take j).map (reachN ns f)).sum = sm at *
          have wr1 : IntKind.i64.wrap (((1 + sm : Nat) : Int) + (rc : Int)) = ((1 + sm + rc : Nat) : Int) := by rw [IntWalk.i64_in _ (by omega)]; omega
          have wr2 : IntKind.i64.wrap ((D : Int) + 1) = (D : Int) + 1 := IntWalk.i64_in _ (by omega)
          have y0 : ∀ X : Ext wr, X.w.cell? ⟨w.heap.size, 0, none⟩ = some (.int .i64 root) := fun X => X.cell x0
          have y1 : ∀ X : Ext wr, X.w.cell? ⟨w.heap.size, 1, none⟩ = some (.int .i64 next) := fun X => X.cell x1
          have y2 : ∀ X : Ext wr, X.w.cell? ⟨w.heap.size, 2, none⟩ = some (.slice (some ⟨b, o, none⟩) N cap) := fun X => X.cell x2
          have y4 : ∀ X : Ext wr, X.w.cell? ⟨b, o + k * 5 + 4, none⟩ = some (.slice (some ⟨kb, ko, none⟩) x.kids.length kc) := fun X => X.cell c4'
          have y5 : ∀ X : Ext wr, X.w.cell? ⟨kb, ko + j, none⟩ = some (.int .i64 c) := fun X => X.cell d1
          have hj0 : (0 : Int) ≤ (j : Int) := by omega
          have hj1 : (j : Int) < (x.kids.length : Int) := by omega
          clear h1 h2 h3 h4 hz hc d0 SL SL2 SS
          go_wp2_with fail
          refine wp_region_ext (by kernel_rfl) (by kernel_rfl) ?_
          repeat (go_big_quiet_step (first | (go_at_call 24; exact Ext.calls (FC.out _)) | (go_at_call 49; exact Ext.calls (RC.out _))))
          refine wpQuiet_nil ?_
          rintro _ ⟨X, rfl⟩
          clear y0 y1 y2 y4 y5 wr1 wr2
          go_wp2_with fail
          go_roundw
          case rel => exact ⟨j + 1, by omega, by go_num, by rw [SS2.out]; go_num, Lib.hid (B.out.trans (X.below.mono B.out.size)), Lib.hid ((X.below.block _ (Array.getElem?_eq_some_iff.1 BX.out).1).trans BX.out)⟩
          case measure => simp [intOf]; omega
        · rw [h2] at hz; cases hz
      · have F : Hid (reachN ns (f + 1) x.id = 1 + ((x.kids.take j).map (reachN ns f)).sum) := Lib.hid (by rw [RS.out, List.take_of_length_le (by omega)])
        go_wp2_with fail
        go_ret
        exact ⟨retI (by rw [F.out]), B.out⟩

end Go.Proofs.Ytmeigoeknjoodaa
