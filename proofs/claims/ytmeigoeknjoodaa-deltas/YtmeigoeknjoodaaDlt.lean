/-
  The walk of Deltas: it answers true. Conditions: as the theorem's premises say.
-/
import Derived.Test.YtmeigoeknjoodaaAw
import Derived.Test.YtmeigoeknjoodaaTwo
import Derived.Test.YtmeigoeknjoodaaSp1
namespace Go.Proofs.Ytmeigoeknjoodaa
open Go.RowKit

theorem own_kn {w : World} {base : Nat} {v : Value} {vs : List Sv} {ss : List St} (h : OwnS w base v vs ss) (hk : ∀ s ∈ ss, s.kids.length ≤ 140737488355328) : ∀ x ∈ vs, x.kn ≤ 140737488355328 := by
  intro x hx
  obtain ⟨i, hi⟩ := List.mem_iff_getElem?.1 hx
  have hl : i < ss.length := by rw [← h.len]; exact (List.getElem?_eq_some_iff.1 hi).1
  obtain ⟨_, _, _, _, _, f⟩ := h.fit i x _ hi (List.getElem?_eq_getElem hl)
  obtain ⟨kp, kc, hkv⟩ := f.form
  unfold Sv.kv at hkv
  simp only [Value.slice.injEq] at hkv
  rw [hkv.2.1]
  exact hk _ (List.getElem_mem hl)
theorem step_kids {a b : List Nd} (hk : ∀ x ∈ b, x.kids.length ≤ 2048) : ∀ s ∈ stepsL a b, s.kids.length ≤ 2048 := by
  intro s hs
  unfold stepsL dropsL makesL kidsL spansL at hs
  simp only [List.mem_append, List.mem_map, List.mem_filter] at hs
  rcases hs with ⟨x, _, rfl⟩ | ⟨x, _, rfl⟩ | ⟨x, ⟨hx, _⟩, rfl⟩ | ⟨x, _, rfl⟩
  · simp
  · simp
  · exact hk x hx
  · simp
theorem SpS.below {w w' : World} {base n : Nat} {v : Value} {vs : List Sv} (h : SpS w base v n vs) (hb : Below w.heap.size w w') : SpS w' base v n vs :=
  ⟨h.row.below hb, h.len, fun i x hx => by
    obtain ⟨l, hl⟩ := h.kids i x hx
    exact ⟨l, hl.below hb⟩, h.apart⟩
theorem sps_nil (w : World) (base : Nat) : SpS w base (.slice none 0 0) 0 [] := ⟨Ly.Own.nil _ _, rfl, fun i x h => by simp at h, fun i j x y g h => by simp at h⟩

/-- What both answer. -/
structure Ans (A B : List Nd) (ra na rb nb : Int) (er : Int) (ss : List St) (T : Nat) : Prop where
  bet : ∀ (W : World) (p q : Option Addr) (ca cb : Nat), NodesR W p A → NodesR W q B → A.length ≤ ca → B.length ≤ cb → Calls Try.prog 8 #[.agg #[.int .i64 ra, .int .i64 na, .slice p A.length ca], .agg #[.int .i64 rb, .int .i64 nb, .slice q B.length cb]] W (fun e w' => ∃ p cap vs, e = .returned (.tuple #[.slice p T cap, .int .i64 er]) ∧ StepsR w' p ss ∧ SpS w' W.heap.size (.slice p T cap) T vs ∧ (∀ x ∈ vs, x.kn ≤ 140737488355328) ∧ Bl W w')
  del : ∀ (W : World) (p q : Option Addr) (ca cb : Nat), NodesR W p A → NodesR W q B → Calls Try.prog 9 #[.agg #[.int .i64 ra, .int .i64 na, .slice p A.length ca], .agg #[.int .i64 rb, .int .i64 nb, .slice q B.length cb]] W (fun e w' => ∃ p cap, e = .returned (.tuple #[.slice p T cap, .int .i64 er]) ∧ StepsR w' p ss ∧ Bl W w')
  len : ss.length = T
  few : T ≤ 100000
  kids : ∀ s ∈ ss, s.kids.length ≤ 140737488355328

theorem answers (A B : List Nd) (ra na rb nb : Int) (la : A.length ≤ 140737488355328) (lb : B.length ≤ 140737488355328) (ka : ∀ x ∈ A, x.kids.length ≤ 140737488355328) (kb : ∀ x ∈ B, x.kids.length ≤ 140737488355328) : ∃ er ss T, Ans A B ra na rb nb er ss T := by
  cases hd : deltaB A ra na B rb nb with
  | true =>
    have hm := hd
    unfold deltaB at hm
    simp only [Bool.and_eq_true] at hm
    have s1 := may_small hm.1.1.1
    have s2 := may_small hm.1.1.2
    have hl := steps_len A B
    have hk : ∀ s ∈ stepsL A B, s.kids.length ≤ 140737488355328 := fun s hs => Nat.le_trans (step_kids s2.2 s hs) (by omega)
    refine ⟨0, stepsL A B, (stepsL A B).length, ⟨fun W p q ca cb R R2 h1 h2 => ?_, fun W p q ca cb R R2 => ?_, rfl, by omega, hk⟩⟩
    · refine (dbetween_any W A ra na p A.length ca B rb nb q B.length cb rfl rfl R R2 la lb ka kb h1 h2).mono ?_
      rintro e w' (⟨-, p, cap, vs, rfl, ho, hs, hb⟩ | ⟨h, -⟩)
      · exact ⟨p, cap, vs, rfl, ho.read, hs, own_kn ho hk, hb⟩
      · rw [hd] at h; cases h
    · refine (delta_any W A ra na p A.length ca B rb nb q B.length cb rfl rfl R R2 la lb ka kb).mono ?_
      rintro e w' (⟨-, p, cap, rfl, hs, hb⟩ | ⟨h, -⟩)
      · exact ⟨p, cap, rfl, hs, hb⟩
      · rw [hd] at h; cases h
  | false =>
    refine ⟨1400, [], 0, ⟨fun W p q ca cb R R2 h1 h2 => ?_, fun W p q ca cb R R2 => ?_, rfl, by omega, fun s h => by simp at h⟩⟩
    · refine (dbetween_any W A ra na p A.length ca B rb nb q B.length cb rfl rfl R R2 la lb ka kb h1 h2).mono ?_
      rintro e w' (⟨h, -⟩ | ⟨-, rfl, hb⟩)
      · rw [hd] at h; cases h
      · exact ⟨none, 0, [], rfl, stepsR_nil _ _, sps_nil _ _, fun x h => by simp at h, hb⟩
    · refine (delta_any W A ra na p A.length ca B rb nb q B.length cb rfl rfl R R2 la lb ka kb).mono ?_
      rintro e w' (⟨h, -⟩ | ⟨-, rfl, hb⟩)
      · rw [hd] at h; cases h
      · exact ⟨none, 0, rfl, stepsR_nil _ _, hb⟩

set_option maxRecDepth 100000 in
set_option maxHeartbeats 8000000 in
theorem deltas_true (ra na rb nb : Int) (pa pb : Option Addr) (ca cb NA NB : Nat) (A B : List Nd) (hA : A.length = NA) (hB : B.length = NB) (w : World) (RA : NodesR w pa A) (RB : NodesR w pb B) (la : NA * 56 ≤ 140737488355328) (lb : NB * 56 ≤ 140737488355328) (ka : ∀ x ∈ A, x.kids.length * 8 ≤ 140737488355328) (kb : ∀ x ∈ B, x.kids.length * 8 ≤ 140737488355328) :
    Calls Try.prog 3 #[.agg #[.int .i64 ra, .int .i64 na, .slice pa NA ca], .agg #[.int .i64 rb, .int .i64 nb, .slice pb NB cb]] w (RetBelow (.returned (.bool true)) w) := by
  obtain ⟨er, ss, T, ans⟩ := answers A B ra na rb nb (by omega) (by omega) (fun x hx => Nat.le_trans (Nat.le_mul_of_pos_right _ (by omega)) (ka x hx)) (fun x hx => Nat.le_trans (Nat.le_mul_of_pos_right _ (by omega)) (kb x hx))
  obtain ⟨bet, del, hT, few, kids⟩ := ans
  rw [hA, hB] at bet del
  have BT := Lib.hid bet
  have DT := Lib.hid del
  have SS' := Lib.hid (fun (W : World) (p : Option Addr) (cap : Nat) (pb : Option Addr) (cb : Nat) (S : StepsR W p ss) (S2 : StepsR W pb ss) => sameSteps_true p pb ss T cap cb hT W S S2 (by omega) kids)
  have SP := Lib.hid (fun (base : Nat) (p : Option Addr) (vs : List Sv) (cap : Nat) (W : World) (h : SpS W base (.slice p T cap) T vs) (hb : base ≤ W.heap.size) (hk : ∀ x ∈ vs, x.kn ≤ 140737488355328) => spoilSteps_any base p vs T cap W h hb few hk)
  have TA := Lib.hid (fun (W : World) (p q : Option Addr) (c d : Nat) (R : NodesR W p A) (R2 : NodesR W q A) => sameTree_true ra na p q A NA c d hA W R R2 (by omega) (fun x hx => Nat.le_trans (Nat.le_mul_of_pos_right _ (by omega)) (ka x hx)))
  have TB := Lib.hid (fun (W : World) (p q : Option Addr) (c d : Nat) (R : NodesR W p B) (R2 : NodesR W q B) => sameTree_true rb nb p q B NB c d hB W R R2 (by omega) (fun x hx => Nat.le_trans (Nat.le_mul_of_pos_right _ (by omega)) (kb x hx)))
  have AW := Lib.hid (fun W => awake_true W)
  have RAH := Lib.hid RA; have RBH := Lib.hid RB
  have CA := Lib.hid (fun (W : World) (hW : Bl w W) => copy_c ra na pa A NA ca hA W (RA.below hW) la ka)
  have CB := Lib.hid (fun (W : World) (hW : Bl w W) => copy_c rb nb pb B NB cb hB W (RB.below hW) lb kb)
  unfold trV at TA TB
  clear RA RB la lb ka kb hA hB bet del hT few kids
  have BW : Hid (Bl w ((w.alloc (.cells #[.int .i64 ra, .int .i64 na, .slice pa NA ca] 24)).alloc (.cells #[.int .i64 rb, .int .i64 nb, .slice pb NB cb] 24))) := Lib.hid (Bl.alloc (Bl.alloc (Bl.refl _) _) _)
  have XA : Hid (((w.alloc (.cells #[.int .i64 ra, .int .i64 na, .slice pa NA ca] 24)).alloc (.cells #[.int .i64 rb, .int .i64 nb, .slice pb NB cb] 24)).heap[w.heap.size]? = some (.cells #[.int .i64 ra, .int .i64 na, .slice pa NA ca] 24 (0, 0))) := Lib.hid (heap_old (heap_new rfl _ _) _)
  have XB : Hid (((w.alloc (.cells #[.int .i64 ra, .int .i64 na, .slice pa NA ca] 24)).alloc (.cells #[.int .i64 rb, .int .i64 nb, .slice pb NB cb] 24)).heap[w.heap.size + 1]? = some (.cells #[.int .i64 rb, .int .i64 nb, .slice pb NB cb] 24 (0, 0))) := Lib.hid (heap_new (by simp) _ _)
  go_enter Try.func3, Try.ntmps3
  go_upto_region 1 with fail
  generalize ((w.alloc (.cells #[.int .i64 ra, .int .i64 na, .slice pa NA ca] 24)).alloc (.cells #[.int .i64 rb, .int .i64 nb, .slice pb NB cb] 24)) = wr at BW XA XB ⊢
  go_cut [5, 6] from 11 (fun v1 v2 wx => TwoT wr wx v1 v2 ra na A NA rb nb B NB)
  case first =>
    have a0 : ∀ W, Bl wr W → W.cell? ⟨w.heap.size, 0, none⟩ = some (.int .i64 ra) := fun W hW => hW.cell ((obj_cells XA.out).1 0 _ rfl)
    have a1 : ∀ W, Bl wr W → W.cell? ⟨w.heap.size, 1, none⟩ = some (.int .i64 na) := fun W hW => hW.cell ((obj_cells XA.out).1 1 _ rfl)
    have a2 : ∀ W, Bl wr W → W.cell? ⟨w.heap.size, 2, none⟩ = some (.slice pa NA ca) := fun W hW => hW.cell ((obj_cells XA.out).1 2 _ rfl)
    have b0 : ∀ W, Bl wr W → W.cell? ⟨w.heap.size + 1, 0, none⟩ = some (.int .i64 rb) := fun W hW => hW.cell ((obj_cells XB.out).1 0 _ rfl)
    have b1 : ∀ W, Bl wr W → W.cell? ⟨w.heap.size + 1, 1, none⟩ = some (.int .i64 nb) := fun W hW => hW.cell ((obj_cells XB.out).1 1 _ rfl)
    have b2 : ∀ W, Bl wr W → W.cell? ⟨w.heap.size + 1, 2, none⟩ = some (.slice pb NB cb) := fun W hW => hW.cell ((obj_cells XB.out).1 2 _ rfl)
    have S0 := Bl.drew (Bl.refl wr)
    have S00 := Bl.refl wr
    have fd1 : ∀ (W : World) (a : Addr), W.drew.frozen? a = W.frozen? a := fun _ _ => rfl
    have fd2 : ∀ (W : World) (a : Addr), W.drew.cell? a = W.cell? a := fun _ _ => rfl
    have fd3 : ∀ (W : World), W.drew.heap.size = W.heap.size := fun _ => rfl
    have l0 : wr.heap.size ≤ wr.heap.size := Nat.le_refl _
    have CA2 := Lib.hid (fun (W : World) (hW : Bl wr W) => CA.out W (BW.out.call hW))
    have CB2 := Lib.hid (fun (W : World) (hW : Bl wr W) => CB.out W (BW.out.call hW))
    clear CA CB BT DT SS' SP TA TB AW RAH RBH
    go_region_held3 (fun W => Bl wr W) ((repeat (first | with_reducible assumption | with_reducible refine Bl.alloc ?_ _ | with_reducible refine Bl.drew ?_ | (with_reducible refine Bl.set ?_ ?h _; case h => omega))))
      (first
        | (go_at_call_of 7 (Value.slice pa NA ca); refine (CA2.out _ (by with_reducible assumption)).mono ?_; rintro e w5 ⟨p5, c5, vs5, rfl, n5, l5, h5⟩
           have N5 := Lib.hid n5; have L5 := Lib.hid l5; have H5 := Lib.hid h5
           have S5 : Bl wr w5 := Bl.call (by with_reducible assumption) h5; have s5 := S5.size
           (try (refine box_elim h5 wr.heap.size ?_ ?_; (focus ((try with_reducible refine drew_heap ?_); first | with_reducible exact EP.out | with_reducible exact EQ.out | (with_reducible refine heap_new ?_ _ _; first | with_reducible rfl | with_reducible exact rfl | exact drew_size _ | exact alloc_size _ _ | fail) | (with_reducible refine heap_old ?_ _; first | with_reducible exact EP.out | with_reducible exact EQ.out | (with_reducible refine heap_new ?_ _ _; first | with_reducible rfl | with_reducible exact rfl | exact drew_size _ | exact alloc_size _ _ | fail) | (with_reducible refine heap_old ?_ _; first | with_reducible exact EP.out | with_reducible exact EQ.out | fail)) | fail)); intro Pg P0 P1 P2 Pf Pl; have EP := Lib.hid Pg; have Pn : ¬ wr.heap.size = w5.heap.size := Nat.ne_of_lt Pl; have Pm : ¬ w5.heap.size = wr.heap.size := Nat.ne_of_gt Pl; clear Pg))
           (try (refine box_elim h5 (wr.heap.size + 1) ?_ ?_; (focus ((try with_reducible refine drew_heap ?_); first | with_reducible exact EP.out | with_reducible exact EQ.out | (with_reducible refine heap_new ?_ _ _; first | with_reducible rfl | with_reducible exact rfl | exact drew_size _ | exact alloc_size _ _ | fail) | (with_reducible refine heap_old ?_ _; first | with_reducible exact EP.out | with_reducible exact EQ.out | (with_reducible refine heap_new ?_ _ _; first | with_reducible rfl | with_reducible exact rfl | exact drew_size _ | exact alloc_size _ _ | fail) | (with_reducible refine heap_old ?_ _; first | with_reducible exact EP.out | with_reducible exact EQ.out | fail)) | fail)); intro Qg Q0 Q1 Q2 Qf Ql; have EQ := Lib.hid Qg; have Qn : ¬ (wr.heap.size + 1) = w5.heap.size := Nat.ne_of_lt Ql; have Qm : ¬ w5.heap.size = (wr.heap.size + 1) := Nat.ne_of_gt Ql; clear Qg))
           clear n5 l5 h5)
        | (go_at_call_of 7 (Value.slice pb NB cb); refine (CB2.out _ (by with_reducible assumption)).mono ?_; rintro e w6 ⟨p6, c6, vs6, rfl, n6, l6, h6⟩
           have N6 := Lib.hid n6; have L6 := Lib.hid l6; have H6 := Lib.hid h6
           have S6 : Bl wr w6 := Bl.call (by with_reducible assumption) h6; have s6 := S6.size; have K6 : Bl w5 w6 := by { refine Bl.call ?_ h6; (repeat (with_reducible refine Bl.alloc ?_ _)); exact Bl.refl _ }
           (try (refine box_elim h6 wr.heap.size ?_ ?_; (focus ((try with_reducible refine drew_heap ?_); first | with_reducible exact EP.out | with_reducible exact EQ.out | (with_reducible refine heap_new ?_ _ _; first | with_reducible rfl | with_reducible exact rfl | exact drew_size _ | exact alloc_size _ _ | fail) | (with_reducible refine heap_old ?_ _; first | with_reducible exact EP.out | with_reducible exact EQ.out | (with_reducible refine heap_new ?_ _ _; first | with_reducible rfl | with_reducible exact rfl | exact drew_size _ | exact alloc_size _ _ | fail) | (with_reducible refine heap_old ?_ _; first | with_reducible exact EP.out | with_reducible exact EQ.out | fail)) | fail)); intro Ug U0 U1 U2 Uf Ul; have EU := Lib.hid Ug; have Un : ¬ wr.heap.size = w6.heap.size := Nat.ne_of_lt Ul; have Um : ¬ w6.heap.size = wr.heap.size := Nat.ne_of_gt Ul; clear Ug))
           (try (refine box_elim h6 (wr.heap.size + 1) ?_ ?_; (focus ((try with_reducible refine drew_heap ?_); first | with_reducible exact EP.out | with_reducible exact EQ.out | (with_reducible refine heap_new ?_ _ _; first | with_reducible rfl | with_reducible exact rfl | exact drew_size _ | exact alloc_size _ _ | fail) | (with_reducible refine heap_old ?_ _; first | with_reducible exact EP.out | with_reducible exact EQ.out | (with_reducible refine heap_new ?_ _ _; first | with_reducible rfl | with_reducible exact rfl | exact drew_size _ | exact alloc_size _ _ | fail) | (with_reducible refine heap_old ?_ _; first | with_reducible exact EP.out | with_reducible exact EQ.out | fail)) | fail)); intro Vg V0 V1 V2 Vf Vl; have EV := Lib.hid Vg; have Vn : ¬ (wr.heap.size + 1) = w6.heap.size := Nat.ne_of_lt Vl; have Vm : ¬ w6.heap.size = (wr.heap.size + 1) := Nat.ne_of_gt Vl; clear Vg))
           (try (refine box_elim h6 w5.heap.size ?_ ?_; (focus ((try with_reducible refine drew_heap ?_); first | with_reducible exact EP.out | with_reducible exact EQ.out | (with_reducible refine heap_new ?_ _ _; first | with_reducible rfl | with_reducible exact rfl | exact drew_size _ | exact alloc_size _ _ | fail) | (with_reducible refine heap_old ?_ _; first | with_reducible exact EP.out | with_reducible exact EQ.out | (with_reducible refine heap_new ?_ _ _; first | with_reducible rfl | with_reducible exact rfl | exact drew_size _ | exact alloc_size _ _ | fail) | (with_reducible refine heap_old ?_ _; first | with_reducible exact EP.out | with_reducible exact EQ.out | fail)) | fail)); intro Xg X0 X1 X2 Xf Xl; have EX := Lib.hid Xg; have Xn : ¬ w5.heap.size = w6.heap.size := Nat.ne_of_lt Xl; have Xm : ¬ w6.heap.size = w5.heap.size := Nat.ne_of_gt Xl; clear Xg))
           (try (refine box_elim h6 (w5.heap.size + 1) ?_ ?_; (focus ((try with_reducible refine drew_heap ?_); first | with_reducible exact EP.out | with_reducible exact EQ.out | (with_reducible refine heap_new ?_ _ _; first | with_reducible rfl | with_reducible exact rfl | exact drew_size _ | exact alloc_size _ _ | fail) | (with_reducible refine heap_old ?_ _; first | with_reducible exact EP.out | with_reducible exact EQ.out | (with_reducible refine heap_new ?_ _ _; first | with_reducible rfl | with_reducible exact rfl | exact drew_size _ | exact alloc_size _ _ | fail) | (with_reducible refine heap_old ?_ _; first | with_reducible exact EP.out | with_reducible exact EQ.out | fail)) | fail)); intro Yg Y0 Y1 Y2 Yf Yl; have EY := Lib.hid Yg; have Yn : ¬ (w5.heap.size + 1) = w6.heap.size := Nat.ne_of_lt Yl; have Ym : ¬ w6.heap.size = (w5.heap.size + 1) := Nat.ne_of_gt Yl; clear Yg))
           clear n6 l6 h6)
        | fail)
    all_goals
      go_wp2_with fail
      go_meet
      have O5 := N5.out.below K6
      first
        | with_reducible exact two_aa O5 N6.out L5.out L6.out S6
        | with_reducible exact two_ab O5 N6.out L5.out L6.out S6
        | (with_reducible refine two_sa O5 N6.out L5.out L6.out S6 EX.out ?_; omega)
        | (with_reducible refine two_sb O5 N6.out L5.out L6.out S6 EX.out ?_; omega)
        | (with_reducible refine two_sa O5 N6.out L5.out L6.out S6 EU.out ?_; omega)
        | (with_reducible refine two_sb O5 N6.out L5.out L6.out S6 EU.out ?_; omega)
        | (with_reducible refine two_st O5 N6.out L5.out L6.out S6 EX.out EY.out ?_ ?_ ?_ <;> omega)
        | (with_reducible refine two_st O5 N6.out L5.out L6.out S6 EY.out EX.out ?_ ?_ ?_ <;> omega)
        | (with_reducible refine two_st O5 N6.out L5.out L6.out S6 EU.out EX.out ?_ ?_ ?_ <;> omega)
        | (with_reducible refine two_st O5 N6.out L5.out L6.out S6 EX.out EU.out ?_ ?_ ?_ <;> omega)
        | (with_reducible refine two_st O5 N6.out L5.out L6.out S6 EU.out EV.out ?_ ?_ ?_ <;> omega)
        | (with_reducible refine two_st O5 N6.out L5.out L6.out S6 EV.out EU.out ?_ ?_ ?_ <;> omega)
        | fail
  case rest =>
    obtain ⟨xb, yb, p1, c1, p2, c2, rfl, rfl, hx, hy, n1, n2, l1, l2, hbx⟩ := hcut
    have X := Lib.hid hx; have Y := Lib.hid hy
    have N1 := Lib.hid n1; have N2 := Lib.hid n2
    have XA2 := Lib.hid (heap_later XA.out hbx); have XB2 := Lib.hid (heap_later XB.out hbx)
    have BC : Hid (Bl w wc) := Lib.hid (BW.out.call hbx)
    have L1 := Lib.hid l1; have L2 := Lib.hid l2
    have RA2 := Lib.hid (RAH.out.below BC.out); have RB2 := Lib.hid (RBH.out.below BC.out)
    clear hx hy n1 n2 hbx l1 l2 XA XB BW CA CB RAH RBH
    have x0 := (obj_cells X.out).1 0 _ rfl; have x1 := (obj_cells X.out).1 1 _ rfl; have x2 := (obj_cells X.out).1 2 _ rfl
    have y0 := (obj_cells Y.out).1 0 _ rfl; have y1 := (obj_cells Y.out).1 1 _ rfl; have y2 := (obj_cells Y.out).1 2 _ rfl
    go_upto_region 3 with (go_at_call 8; refine (BT.out _ _ _ _ _ N1.out N2.out L1.out L2.out).mono ?_; rintro e w5 ⟨p5, c5, vs, rfl, s5, sp5, k5, h5⟩; have S5 := Lib.hid s5; have P5 := Lib.hid sp5; have K5 := Lib.hid k5; have B5 : Hid (Bl wc w5) := Lib.hid h5; clear s5 sp5 k5 h5)
    clear x0 x1 x2 y0 y1 y2 BT
    have T5 := Lib.hid (heap_later XA2.out B5.out); have U5 := Lib.hid (heap_later XB2.out B5.out)
    have t0 := (obj_cells T5.out).1 0 _ rfl; have t1 := (obj_cells T5.out).1 1 _ rfl; have t2 := (obj_cells T5.out).1 2 _ rfl
    have u0 := (obj_cells U5.out).1 0 _ rfl; have u1 := (obj_cells U5.out).1 1 _ rfl; have u2 := (obj_cells U5.out).1 2 _ rfl
    have RA5 := Lib.hid (RA2.out.below B5.out); have RB5 := Lib.hid (RB2.out.below B5.out)
    go_upto_region 4 with (go_at_call 9; refine (DT.out _ _ _ _ _ RA5.out RB5.out).mono ?_; rintro e w6 ⟨p6, c6, rfl, s6, h6⟩; have S6 := Lib.hid s6; have B6 : Hid (Bl w5 w6) := Lib.hid h6; clear s6 h6)
    clear t0 t1 t2 u0 u1 u2 T5 U5 RA5 RB5 DT
    go_upto_region 6 with (first | (go_at_call 10; refine (SS'.out _ _ _ _ _ (S5.out.below B6.out) S6.out).mono ?_; rintro e w7 ⟨rfl, h7⟩; have B7 : Hid (Bl wc w7) := Lib.hid ((B5.out.call B6.out).call h7); have P7 : Hid (Bl w5 w7) := Lib.hid (B6.out.call h7); clear h7) | (go_at_call 11; refine (num_any _ _).mono ?_; rintro e w9 ⟨rfl, rfl⟩))
    clear SS' S6
    have P8 := Lib.hid (P5.out.below P7.out)
    go_upto_region 7 with (go_at_call 12; refine (SP.out _ _ _ _ _ P8.out B7.out.size K5.out).mono ?_; rintro e w8 ⟨rfl, h8⟩; have B8 : Hid (Bl wc w8) := Lib.hid (Below.trans B7.out h8); clear h8)
    clear SP P8 P7 P5 K5 S5 B5 B6 B7
    have X8 := Lib.hid (heap_later X.out B8.out); have A8 := Lib.hid (heap_later XA2.out B8.out)
    have x0 := (obj_cells X8.out).1 0 _ rfl; have x1 := (obj_cells X8.out).1 1 _ rfl; have x2 := (obj_cells X8.out).1 2 _ rfl
    have t0 := (obj_cells A8.out).1 0 _ rfl; have t1 := (obj_cells A8.out).1 1 _ rfl; have t2 := (obj_cells A8.out).1 2 _ rfl
    go_wp2_with (first
      | (go_at_call_of 13 (Value.slice p1 NA c1); refine (TA.out _ _ _ _ _ (N1.out.below B8.out) (RA2.out.below B8.out)).mono ?_; rintro e w9 ⟨rfl, h9⟩; have B9 : Hid (Bl wc w9) := Lib.hid (B8.out.call h9); clear h9
         have Y9 := Lib.hid (heap_later Y.out B9.out); have U9 := Lib.hid (heap_later XB2.out B9.out)
         have y0 := (obj_cells Y9.out).1 0 _ rfl; have y1 := (obj_cells Y9.out).1 1 _ rfl; have y2 := (obj_cells Y9.out).1 2 _ rfl
         have u0 := (obj_cells U9.out).1 0 _ rfl; have u1 := (obj_cells U9.out).1 1 _ rfl; have u2 := (obj_cells U9.out).1 2 _ rfl)
      | (go_at_call_of 13 (Value.slice p2 NB c2); refine (TB.out _ _ _ _ _ (N2.out.below B9.out) (RB2.out.below B9.out)).mono ?_; rintro e w10 ⟨rfl, h10⟩; have B10 : Hid (Bl wc w10) := Lib.hid (B9.out.call h10); clear h10)
      | (go_at_call 14; refine (AW.out _).mono ?_; rintro e w11 ⟨rfl, h11⟩; have B11 : Hid (Bl wc w11) := Lib.hid (B10.out.call h11); clear h11))
    go_ret
    exact ⟨rfl, BC.out.call B11.out⟩

end Go.Proofs.Ytmeigoeknjoodaa
