/-
  The walk of the reference's Delta where both trees may be. Conditions: as the theorem's premises say.
-/
import Derived.Test.YtmeigoeknjoodaaDeB
namespace Go.Proofs.Ytmeigoeknjoodaa
open Go.RowKit

set_option maxRecDepth 1000000 in
set_option maxHeartbeats 8000000 in
theorem delta_go (w : World) (a : List Nd) (ra na : Int) (pa : Option Addr) (A ca : Nat) (b : List Nd) (rb nb : Int) (pb : Option Addr) (B cb : Nat) (hA : a.length = A) (hB : b.length = B) (ha : NodesR w pa a) (hb : NodesR w pb b) (la : A ≤ 140737488355328) (lb : B ≤ 140737488355328) (ka : ∀ x ∈ a, x.kids.length ≤ 140737488355328) (kb : ∀ x ∈ b, x.kids.length ≤ 140737488355328) (h1 : mayB a ra na (endN a ra) = true) (h2 : mayB b rb nb (endN b rb) = true) (hr : ra = rb) : Calls Try.prog 9 #[trV ra na pa A ca, trV rb nb pb B cb] w (fun e w' => (kindsB a b = true ∧ DelYes (stepsL a b) w e w') ∨ (kindsB a b = false ∧ DelNo w e w')) := by
  obtain ⟨i8, hi8, hz08, hz18, hz28⟩ := info_parts info68
  obtain ⟨sa, ska⟩ := may_small h1
  obtain ⟨sb, skb⟩ := may_small h2
  rw [hA] at sa
  rw [hB] at sb
  have KA := Lib.hid ska; have KB := Lib.hid skb
  have FB := Lib.hid (fun (W : World) (hW : Below w.heap.size w W) (c : Int) => find_any rb nb pb b B cb hB c W (hb.below hW) lb)
  clear ska skb
  have RA := Lib.hid ha; have RB := Lib.hid hb; have HA := Lib.hid hA; have HB := Lib.hid hB
  have BW : Hid (Below w.heap.size w ((w.alloc (.cells #[.int .i64 ra, .int .i64 na, .slice pa A ca] 24)).alloc (.cells #[.int .i64 rb, .int .i64 nb, .slice pb B cb] 24))) := Lib.hid (below2 (Below.refl _ _) (Nat.le_refl _) _ _)
  have A2 : Hid (((w.alloc (.cells #[.int .i64 ra, .int .i64 na, .slice pa A ca] 24)).alloc (.cells #[.int .i64 rb, .int .i64 nb, .slice pb B cb] 24)).heap[w.heap.size]? = some (.cells #[.int .i64 ra, .int .i64 na, .slice pa A ca] 24 (0, 0))) := Lib.hid (((below1 (Below.refl _ _) (Nat.le_refl _) _).block w.heap.size (by simp)).trans (heap_alloc_new w _))
  have B2 : Hid (((w.alloc (.cells #[.int .i64 ra, .int .i64 na, .slice pa A ca] 24)).alloc (.cells #[.int .i64 rb, .int .i64 nb, .slice pb B cb] 24)).heap[w.heap.size + 1]? = some (.cells #[.int .i64 rb, .int .i64 nb, .slice pb B cb] 24 (0, 0))) := Lib.hid (by
    have := heap_alloc_new (w.alloc (.cells #[.int .i64 ra, .int .i64 na, .slice pa A ca] 24)) (.cells #[.int .i64 rb, .int .i64 nb, .slice pb B cb] 24)
    rwa [show (w.alloc (.cells #[.int .i64 ra, .int .i64 na, .slice pa A ca] 24)).heap.size = w.heap.size + 1 by simp] at this)
  have EA := Lib.hid (fun (X : Ext ((w.alloc (.cells #[.int .i64 ra, .int .i64 na, .slice pa A ca] 24)).alloc (.cells #[.int .i64 rb, .int .i64 nb, .slice pb B cb] 24))) => rootEnd_any ra na pa a A ca hA X.w (RA.out.below (BW.out.trans (X.below.mono BW.out.size))) la)
  have EB := Lib.hid (fun (X : Ext ((w.alloc (.cells #[.int .i64 ra, .int .i64 na, .slice pa A ca] 24)).alloc (.cells #[.int .i64 rb, .int .i64 nb, .slice pb B cb] 24))) => rootEnd_any rb nb pb b B cb hB X.w (RB.out.below (BW.out.trans (X.below.mono BW.out.size))) lb)
  have TA := Lib.hid (fun (X : Ext ((w.alloc (.cells #[.int .i64 ra, .int .i64 na, .slice pa A ca] 24)).alloc (.cells #[.int .i64 rb, .int .i64 nb, .slice pb B cb] 24))) => treeMay_any ra na (endN a ra) pa a A ca hA X.w (RA.out.below (BW.out.trans (X.below.mono BW.out.size))) la ka)
  have TB := Lib.hid (fun (X : Ext ((w.alloc (.cells #[.int .i64 ra, .int .i64 na, .slice pa A ca] 24)).alloc (.cells #[.int .i64 rb, .int .i64 nb, .slice pb B cb] 24))) => treeMay_any rb nb (endN b rb) pb b B cb hB X.w (RB.out.below (BW.out.trans (X.below.mono BW.out.size))) lb kb)
  unfold trV at *
  clear ha hb hA hB ka kb la lb
  rw [h1] at TA
  rw [h2] at TB
  have qr : (ra != rb) = false := by rw [hr]; simp
  clear h1 h2 hr
  go_enter Try.func9, Try.ntmps9
  go_wp2_with fail
  generalize ((w.alloc (.cells #[.int .i64 ra, .int .i64 na, .slice pa A ca] 24)).alloc (.cells #[.int .i64 rb, .int .i64 nb, .slice pb B cb] 24)) = W2 at BW A2 B2 EA EB TA TB ⊢
  have y0 : ∀ X : Ext W2, X.w.cell? ⟨w.heap.size, 0, none⟩ = some (.int .i64 ra) := fun X => X.cell ((obj_cells A2.out).1 0 _ rfl)
  have y1 : ∀ X : Ext W2, X.w.cell? ⟨w.heap.size, 1, none⟩ = some (.int .i64 na) := fun X => X.cell ((obj_cells A2.out).1 1 _ rfl)
  have y2 : ∀ X : Ext W2, X.w.cell? ⟨w.heap.size, 2, none⟩ = some (.slice pa A ca) := fun X => X.cell ((obj_cells A2.out).1 2 _ rfl)
  have z0 : ∀ X : Ext W2, X.w.cell? ⟨w.heap.size + 1, 0, none⟩ = some (.int .i64 rb) := fun X => X.cell ((obj_cells B2.out).1 0 _ rfl)
  have z1 : ∀ X : Ext W2, X.w.cell? ⟨w.heap.size + 1, 1, none⟩ = some (.int .i64 nb) := fun X => X.cell ((obj_cells B2.out).1 1 _ rfl)
  have z2 : ∀ X : Ext W2, X.w.cell? ⟨w.heap.size + 1, 2, none⟩ = some (.slice pb B cb) := fun X => X.cell ((obj_cells B2.out).1 2 _ rfl)
  refine wp_region_ext (by kernel_rfl) (by kernel_rfl) ?_
  repeat (go_big_quiet_step (first | (go_at_call_of 23 (Value.slice pa A ca); exact Ext.calls (EA.out _)) | (go_at_call_of 23 (Value.slice pb B cb); exact Ext.calls (EB.out _)) | (go_at_call_of 22 (Value.slice pa A ca); exact Ext.calls (TA.out _)) | (go_at_call_of 22 (Value.slice pb B cb); exact Ext.calls (TB.out _)) | fail))
  refine wpQuiet_nil ?_
  rintro _ ⟨X, rfl⟩
  clear y0 y1 y2 z0 z1 z2 EA EB TA TB qr
  have D0 : Hid (DS w X.w a ra na pa A ca b rb nb pb B cb [(.slice none 0 0, [], []), (.slice none 0 0, [], []), (.slice none 0 0, [], []), (.slice none 0 0, [], [])]) := Lib.hid ⟨(X.below.block _ (Array.getElem?_eq_some_iff.1 A2.out).1).trans A2.out, (X.below.block _ (Array.getElem?_eq_some_iff.1 B2.out).1).trans B2.out, Rows.none4 _ _, BW.out.trans (X.below.mono BW.out.size)⟩
  clear BW A2 B2
  generalize X.w = w3 at D0 ⊢
  go_wp2_with fail
  go_loopw [6, 10] (fun v6 v wr => ∃ (i : Nat) (vs6 : List Sv), i ≤ A ∧ v = .int .i64 i ∧ Hid (DS w wr a ra na pa A ca b rb nb pb B cb [(v6, vs6, dropsL (a.take i) b), (.slice none 0 0, [], []), (.slice none 0 0, [], []), (.slice none 0 0, [], [])])) (fun _ v _ => A - (intOf v).toNat)
  case atStart => exact ⟨0, [], by omega, rfl, D0⟩
  case round =>
    clear D0
    obtain ⟨i, vs6, hiA, rfl, D⟩ := hrel
    obtain ⟨p6, c6, e6⟩ := (D.out.rows.own 0 _ rfl).row.form
    dsimp only at e6
    subst e6
    obtain ⟨M6, hM6⟩ : ∃ M6, vs6.length = M6 := ⟨_, rfl⟩
    rw [hM6] at D ⊢
    have LN6 := Lib.hid hM6
    have h6 : M6 ≤ i := by
      rw [← (D.out.rows.len (k := 0) rfl).2]
      exact Nat.le_trans (len_filter _ _ _) (by rw [List.length_take]; omega)
    clear hM6
    by_cases hlt : i < A
    · obtain ⟨x, hx⟩ : ∃ x, a[i]? = some x := ⟨_, List.getElem?_eq_getElem (by rw [HA.out]; exact hlt)⟩
      have DT := Lib.hid (drops_take (b := b) hx)
      obtain ⟨ab, oa, kp, kc, rfl, hat, -⟩ := RA.out i x hx
      have n0 := cell_later D.out.below (show w.cell? ⟨ab, oa + i * 5, none⟩ = some (.int .i64 x.id) from hat 0 _ rfl)
      have hi0 : (0 : Int) ≤ (i : Int) := by omega
      have hi1 : (i : Int) < (A : Int) := by omega
      have FC := Lib.hid (fun (X : Ext wr) => FB.out X.w (D.out.below.trans (X.below.mono D.out.below.size)) x.id)
      have a0 := (obj_cells D.out.boxA).1 2 _ rfl
      have y2 : ∀ X : Ext wr, X.w.cell? ⟨w.heap.size, 2, none⟩ = some (.slice (some ⟨ab, oa, none⟩) A ca) := fun X => X.cell a0
      have z0 : ∀ X : Ext wr, X.w.cell? ⟨w.heap.size + 1, 0, none⟩ = some (.int .i64 rb) := fun X => X.cell ((obj_cells D.out.boxB).1 0 _ rfl)
      have z1 : ∀ X : Ext wr, X.w.cell? ⟨w.heap.size + 1, 1, none⟩ = some (.int .i64 nb) := fun X => X.cell ((obj_cells D.out.boxB).1 1 _ rfl)
      have z2 : ∀ X : Ext wr, X.w.cell? ⟨w.heap.size + 1, 2, none⟩ = some (.slice pb B cb) := fun X => X.cell ((obj_cells D.out.boxB).1 2 _ rfl)
      have z3 : ∀ X : Ext wr, X.w.cell? ⟨ab, oa + i * 5, none⟩ = some (.int .i64 x.id) := fun X => X.cell n0
      clear hat
      rcases fd_cases b x.id with ⟨q, y, e1, e2, e3, e4⟩ | ⟨e1, e2⟩
      · rw [e1] at FC
        rw [if_neg (by rw [e4]; simp), List.append_nil] at DT
        have hqn : ¬ ((q : Int) < 0) := by omega
        clear e1 e2 e3 e4 hx
        go_wp2_with fail
        refine wp_region_ext (by kernel_rfl) (by kernel_rfl) ?_
        repeat (go_big_quiet_step (first | (go_at_call 24; exact Ext.calls (FC.out _)) | fail))
        refine wpQuiet_nil ?_
        rintro _ ⟨X, rfl⟩
        clear y2 z0 z1 z2 z3 n0 a0
        have DX := Lib.hid (D.out.later X.below)
        generalize X.w = w4 at DX ⊢
        go_wp2_with fail
        go_roundw
        case rel => exact ⟨i + 1, vs6, by omega, by go_num, Lib.hid (by rw [DT.out]; exact DX.out)⟩
        case measure => simp [intOf]; omega
      · rw [e1] at FC
        rw [if_pos (by rw [e2]; rfl)] at DT
        clear e1 e2 hx
        go_wp2_with fail
        refine wp_region_ext (by kernel_rfl) (by kernel_rfl) ?_
        repeat (go_big_quiet_step (first | (go_at_call 24; exact Ext.calls (FC.out _)) | fail))
        refine wpQuiet_nil ?_
        rintro _ ⟨X, rfl⟩
        have n1 := X.cell n0
        have a1 := X.cell a0
        clear y2 z0 z1 z2 z3 n0 a0
        have DX := Lib.hid (D.out.later X.below)
        generalize X.w = w4 at DX n1 a1 ⊢
        have OW6 : Hid (∀ W', Below w4.heap.size w4 W' → W'.ownsRow w.heap.size 43 6 (.slice p6 M6 c6) M6 (lyS.all vs6)) := Lib.hid (fun W' hW => (DX.out.rows.below hW).owns (k := 0) rfl)
        go_wp2_with (at_builtin; refine wpList_append_all _ rfl _ _ 26 rfl w.heap.size 43 i8 _ 6 64 Try.underlying26 hi8 hz08 hz18 hz28 rfl (by decide) (.slice p6 M6 c6) M6 (lyS.all vs6) rfl (OW6.out _ (below1 (Below.refl _ _) (Nat.le_refl _) _)) (some ⟨w4.heap.size, 0, none⟩) 1 1 (Sv.cells ⟨0, x.id, 0, 0, 0, none, 0, 0⟩) rfl rfl (fun e => by cases e) (fun ad hp => by cases hp; exact six_new rfl ⟨0, x.id, 0, 0, 0, none, 0, 0⟩) (lyS.one ⟨0, x.id, 0, 0, 0, none, 0, 0⟩) (by unfold maxLen; omega) (by omega) (by have := DX.out.below.size; simp; omega) (M6 + 1) rfl ?_; intro p6' c6' w5 hown hgrow hblk; have O6 := Lib.hid hown; have G6 := Lib.hid hgrow; have L6 := Lib.hid hblk; clear hown hgrow hblk)
        go_roundw
        case rel => exact ⟨i + 1, vs6 ++ [⟨0, x.id, 0, 0, 0, none, 0, 0⟩], by omega, by go_num, Lib.hid (by
          rw [DT.out]
          exact (DX.out.later (below1 (Below.refl _ _) (Nat.le_refl _) _)).push (k := 0) rfl (push_plain (k := 0) (DX.out.rows.below (below1 (Below.refl _ _) (Nat.le_refl _) _)) rfl ⟨0, x.id, 0, 0, 0, []⟩ rfl LN6.out O6.out G6.out L6.out) G6.out)⟩
        case measure => simp [intOf]; omega
    · obtain ⟨w5, e5⟩ : ∃ w5, w5 = wr := ⟨_, rfl⟩
      subst e5
      have TN : a.take i = a := List.take_of_length_le (by rw [HA.out]; omega)
      rw [TN] at D
      have h6' : M6 ≤ 2048 := by omega
      have a0 := (obj_cells D.out.boxA).1 2 _ rfl
      clear TN FB
      go_wp2_with fail
      clear a0
      go_loopw [7, 8, 9, 11] (fun v7 v8 v9 v wr => ∃ (i : Nat) (vs7 vs8 vs9 : List Sv), i ≤ B ∧ v = .int .i64 i ∧ Hid (kindsB a (b.take i) = true) ∧ Hid (DS w wr a ra na pa A ca b rb nb pb B cb [(.slice p6 M6 c6, vs6, dropsL a b), (v7, vs7, makesL a (b.take i)), (v8, vs8, kidsL a (b.take i)), (v9, vs9, spansL a (b.take i))])) (fun _ _ _ v _ => B - (intOf v).toNat)
      case atStart => exact ⟨0, [], [], [], by omega, rfl, Lib.hid rfl, D⟩
      case round =>
        clear D hiA hlt h6
        obtain ⟨i, vs7, vs8, vs9, hiB, rfl, KI, D⟩ := hrel
        obtain ⟨p7, c7, e7⟩ := (D.out.rows.own 1 _ rfl).row.form
        dsimp only at e7
        subst e7
        obtain ⟨M7, hM7⟩ : ∃ M7, vs7.length = M7 := ⟨_, rfl⟩
        rw [hM7] at D ⊢
        have LN7 := Lib.hid hM7
        have h7 : M7 ≤ i := by
          rw [← (D.out.rows.len (k := 1) rfl).2]
          exact Nat.le_trans (len_filter _ _ _) (by rw [List.length_take]; omega)
        clear hM7
        obtain ⟨p8, c8, e8⟩ := (D.out.rows.own 2 _ rfl).row.form
        dsimp only at e8
        subst e8
        obtain ⟨M8, hM8⟩ : ∃ M8, vs8.length = M8 := ⟨_, rfl⟩
        rw [hM8] at D ⊢
        have LN8 := Lib.hid hM8
        have h8 : M8 ≤ i := by
          rw [← (D.out.rows.len (k := 2) rfl).2]
          exact Nat.le_trans (len_filter _ _ _) (by rw [List.length_take]; omega)
        clear hM8
        obtain ⟨p9, c9, e9⟩ := (D.out.rows.own 3 _ rfl).row.form
        dsimp only at e9
        subst e9
        obtain ⟨M9, hM9⟩ : ∃ M9, vs9.length = M9 := ⟨_, rfl⟩
        rw [hM9] at D ⊢
        have LN9 := Lib.hid hM9
        have h9 : M9 ≤ i := by
          rw [← (D.out.rows.len (k := 3) rfl).2]
          exact Nat.le_trans (len_filter _ _ _) (by rw [List.length_take]; omega)
        clear hM9
        by_cases hlt : i < B
        · obtain ⟨x, hx⟩ : ∃ x, b[i]? = some x := ⟨_, List.getElem?_eq_getElem (by rw [HB.out]; exact hlt)⟩
          have HX := Lib.hid hx
          have hkn := KB.out x (List.mem_of_getElem? hx)
          have t2 := (obj_cells D.out.boxB).1 2 _ rfl
          clear hx
          go_upto_block 3 with fail
          refine delK_any w wr a ra na pa A ca b rb nb pb B cb i x (.slice p6 M6 c6) vs6 vs7 vs8 vs9 (dropsL a b) p7 p8 p9 M7 M8 M9 c7 c8 c9 _ _ _ _ _ _ _ _ _ _ _ _ _ _ _ _ _ _ _ _ _ _ _ _ _ _ _ _ _ _ _ _ _ _ _ _ _ _ _ _ _ _ _ _ _ _ _ _ _ _ _ _ _ _ _ _ _ _ _ _ _ _ _ _ _ _ _ _ _ _ _ _ _ _ _ _ _ _ _ _ _ _ _ _ _ _ _ _ _ _ _ _ _ _ _ _ _ _ _ _ _ _ _ _ _ _ _ _ _ _ _ _ _ _ _ _ _ _ _ _ _ _ _ _ _ _ _ _ _ _ _ _ _ _ _ _ _ _ _ _ _ _ _ _ HA sa RA RB HX hlt hkn KA LN7 LN8 LN9 (by omega) (by omega) (by omega) D (Lib.hid ?_) (Lib.hid ?_)
          · intro q7 q8 q9 w6 t7 t8 t9 hkb hds
            intros
            have K6 := Lib.hid (hkb.trans KI.out)
            have D6 := Lib.hid hds
            clear hkb hds D t2
            go_wp2_with fail
            go_roundw
            case rel => exact ⟨i + 1, t7, t8, t9, by omega, by go_num, K6, D6⟩
            case measure => simp [intOf]; omega
          · intro w6 hk hbw
            intros
            have KF := Lib.hid (kinds_part hk)
            have B6 := Lib.hid hbw
            clear hk hbw D t2
            go_wp2_with fail
            go_ret2
            exact .inr ⟨KF.out, rfl, B6.out⟩
        · have TN : b.take i = b := List.take_of_length_le (by rw [HB.out]; omega)
          rw [TN] at D KI
          have R0 := Lib.hid (D.out.rows.add D.out.below.size)
          have BB0 := Lib.hid (D.out.below.alloc D.out.below.size (.cells #[] 43))
          obtain ⟨S2, hS2⟩ : ∃ S2, M6 + M7 = S2 := ⟨_, rfl⟩
          obtain ⟨S3, hS3⟩ : ∃ S3, S2 + M8 = S3 := ⟨_, rfl⟩
          obtain ⟨S4, hS4⟩ : ∃ S4, S3 + M9 = S4 := ⟨_, rfl⟩
          have LEN : Hid ((stepsL a b).length = S4) := Lib.hid (by
            have l6 := (D.out.rows.len (k := 0) rfl).2
            have l7 := (D.out.rows.len (k := 1) rfl).2
            have l8 := (D.out.rows.len (k := 2) rfl).2
            have l9 := (D.out.rows.len (k := 3) rfl).2
            unfold stepsL
            rw [List.length_append, List.length_append, List.length_append]
            omega)
          have t2 := (obj_cells D.out.boxB).1 2 _ rfl
          clear TN D
          go_upto_region 24 with fail
          clear t2
          dsimp only [List.cons_append, List.nil_append] at R0
          go_upto_region 25 with (at_builtin; refine wpList_append_all _ rfl _ _ 26 rfl w.heap.size 43 i8 _ 6 64 Try.underlying26 hi8 hz08 hz18 hz28 rfl (by decide) (.slice (some ⟨wr.heap.size, 0, none⟩) 0 0) 0 (lyS.all []) rfl (R0.out.owns (k := 4) rfl) p6 M6 c6 (lyS.all vs6) rfl (R0.out.news (k := 0) rfl).1 (R0.out.news (k := 0) rfl).2.1 (R0.out.news (k := 0) rfl).2.2 (all_ones _) (by unfold maxLen; omega) (by omega) (BB0.out.size) (M6) (by omega) ?_; intro pA cA w10 hown hgrow hblk; have R10 := Lib.hid (R0.out.join (k := 4) (j := 0) rfl rfl hown (by omega) hgrow hblk); have BB10 := Lib.hid (BB0.out.trans (below_grownN hgrow (fun g hg => ((R0.out.own 4 _ rfl).row.lt hg).1) BB0.out.size)); clear hown hgrow hblk)
          go_upto_region 26 with (at_builtin; refine wpList_append_all _ rfl _ _ 26 rfl w.heap.size 43 i8 _ 6 64 Try.underlying26 hi8 hz08 hz18 hz28 rfl (by decide) (.slice pA M6 cA) M6 (lyS.all ([] ++ vs6)) rfl (R10.out.owns (k := 4) rfl) p7 M7 c7 (lyS.all vs7) rfl (R10.out.news (k := 1) rfl).1 (R10.out.news (k := 1) rfl).2.1 (R10.out.news (k := 1) rfl).2.2 (all_ones _) (by unfold maxLen; omega) (by omega) (BB10.out.size) (S2) (by omega) ?_; intro pB cB w11 hown hgrow hblk; have R11 := Lib.hid (R10.out.join (k := 4) (j := 1) rfl rfl hown (by omega) hgrow hblk); have BB11 := Lib.hid (BB10.out.trans (below_grownN hgrow (fun g hg => ((R10.out.own 4 _ rfl).row.lt hg).1) BB10.out.size)); clear hown hgrow hblk)
          go_upto_region 27 with (at_builtin; refine wpList_append_all _ rfl _ _ 26 rfl w.heap.size 43 i8 _ 6 64 Try.underlying26 hi8 hz08 hz18 hz28 rfl (by decide) (.slice pB S2 cB) S2 (lyS.all ([] ++ vs6 ++ vs7)) rfl (R11.out.owns (k := 4) rfl) p8 M8 c8 (lyS.all vs8) rfl (R11.out.news (k := 2) rfl).1 (R11.out.news (k := 2) rfl).2.1 (R11.out.news (k := 2) rfl).2.2 (all_ones _) (by unfold maxLen; omega) (by omega) (BB11.out.size) (S3) (by omega) ?_; intro pC cC w12 hown hgrow hblk; have R12 := Lib.hid (R11.out.join (k := 4) (j := 2) rfl rfl hown (by omega) hgrow hblk); have BB12 := Lib.hid (BB11.out.trans (below_grownN hgrow (fun g hg => ((R11.out.own 4 _ rfl).row.lt hg).1) BB11.out.size)); clear hown hgrow hblk)
          go_upto_region 28 with (at_builtin; refine wpList_append_all _ rfl _ _ 26 rfl w.heap.size 43 i8 _ 6 64 Try.underlying26 hi8 hz08 hz18 hz28 rfl (by decide) (.slice pC S3 cC) S3 (lyS.all ([] ++ vs6 ++ vs7 ++ vs8)) rfl (R12.out.owns (k := 4) rfl) p9 M9 c9 (lyS.all vs9) rfl (R12.out.news (k := 3) rfl).1 (R12.out.news (k := 3) rfl).2.1 (R12.out.news (k := 3) rfl).2.2 (all_ones _) (by unfold maxLen; omega) (by omega) (BB12.out.size) (S4) (by omega) ?_; intro pD cD w13 hown hgrow hblk; have R13 := Lib.hid (R12.out.join (k := 4) (j := 3) rfl rfl hown (by omega) hgrow hblk); have BB13 := Lib.hid (BB12.out.trans (below_grownN hgrow (fun g hg => ((R12.out.own 4 _ rfl).row.lt hg).1) BB12.out.size)); clear hown hgrow hblk)
          have RD : Hid (StepsR w13 pD (stepsL a b)) := Lib.hid (by
            have := (R13.out.own 4 _ rfl).read
            have e : ([] ++ dropsL a b ++ makesL a b ++ kidsL a b ++ spansL a b) = stepsL a b := by simp [stepsL]
            dsimp only at this
            rw [← e]
            exact this)
          go_wp2_with fail
          go_ret2
          exact .inl ⟨KI.out, pD, cD, by rw [LEN.out]; rfl, RD.out, BB13.out⟩

theorem delta_any (w : World) (a : List Nd) (ra na : Int) (pa : Option Addr) (A ca : Nat) (b : List Nd) (rb nb : Int) (pb : Option Addr) (B cb : Nat) (hA : a.length = A) (hB : b.length = B) (ha : NodesR w pa a) (hb : NodesR w pb b) (la : A ≤ 140737488355328) (lb : B ≤ 140737488355328) (ka : ∀ x ∈ a, x.kids.length ≤ 140737488355328) (kb : ∀ x ∈ b, x.kids.length ≤ 140737488355328) : Calls Try.prog 9 #[trV ra na pa A ca, trV rb nb pb B cb] w (DelPost a ra na b rb nb w) := by
  cases h1 : mayB a ra na (endN a ra) with
  | false =>
    refine (delta_no w a ra na pa A ca b rb nb pb B cb hA hB ha hb la lb ka kb (.inl h1)).mono fun e w' h => .inr ⟨?_, h⟩
    unfold deltaB; rw [h1]; rfl
  | true =>
    cases h2 : mayB b rb nb (endN b rb) with
    | false =>
      refine (delta_no w a ra na pa A ca b rb nb pb B cb hA hB ha hb la lb ka kb (.inr (.inl h2))).mono fun e w' h => .inr ⟨?_, h⟩
      unfold deltaB; rw [h1, h2]; rfl
    | true =>
      by_cases hr : ra = rb
      · refine (delta_go w a ra na pa A ca b rb nb pb B cb hA hB ha hb la lb ka kb h1 h2 hr).mono fun e w' h => ?_
        have e0 : deltaB a ra na b rb nb = kindsB a b := by
          unfold deltaB
          rw [h1, h2, hr]
          simp
        unfold DelPost
        rw [e0]
        exact h
      · refine (delta_no w a ra na pa A ca b rb nb pb B cb hA hB ha hb la lb ka kb (.inr (.inr hr))).mono fun e w' h => .inr ⟨?_, h⟩
        unfold deltaB
        rw [h1, h2, beq_eq_false_iff_ne.2 hr]
        rfl

end Go.Proofs.Ytmeigoeknjoodaa
