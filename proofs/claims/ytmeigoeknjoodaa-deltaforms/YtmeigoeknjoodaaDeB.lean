/-
  De4, De5, in one text. Conditions: as each theorem's premises say.
-/
import Derived.Test.YtmeigoeknjoodaaDe3
namespace Go.Proofs.Ytmeigoeknjoodaa
open Go.RowKit

/-- An empty row more. -/
theorem Rows.add {w : World} {base : Nat} {rs : List (Value × List Sv × List St)} (h : Rows w base rs) (hb : base ≤ w.heap.size) : Rows (w.alloc (.cells #[] 43)) base (rs ++ [(.slice (some ⟨w.heap.size, 0, none⟩) 0 0, [], [])]) := by
  have h1 := h.below (below1 (Below.refl w.heap.size w) (Nat.le_refl _) (.cells #[] 43))
  have hn : OwnS (w.alloc (.cells #[] 43)) base (.slice (some ⟨w.heap.size, 0, none⟩) 0 0) [] [] := ⟨World.ownsRow_lit w #[] 0 hb (by decide) rfl, rfl, fun i x s hx => by simp at hx⟩
  have part : ∀ (k : Nat) r, (rs ++ [((.slice (some ⟨w.heap.size, 0, none⟩) 0 0 : Value), ([] : List Sv), ([] : List St))])[k]? = some r → rs[k]? = some r ∨ (k = rs.length ∧ r = (.slice (some ⟨w.heap.size, 0, none⟩) 0 0, [], [])) := fun k r hk => by
    by_cases e : k < rs.length
    · rw [List.getElem?_append_left e] at hk; exact .inl hk
    · rw [List.getElem?_append_right (by omega)] at hk
      obtain ⟨hl, he⟩ := List.getElem?_eq_some_iff.1 hk
      have : k - rs.length = 0 := by simpa using hl
      refine .inr ⟨by omega, ?_⟩
      simp only [this, List.getElem_cons_zero] at he
      exact he.symm
  refine ⟨fun k r hk => ?_, fun j k r q g hjk hj hk he => ?_⟩
  · rcases part k r hk with hk | ⟨_, rfl⟩
    · exact h1.own k r hk
    · exact hn
  · rcases part j r hj with hj | ⟨ej, rfl⟩
    · rcases part k q hk with hk | ⟨ek, rfl⟩
      · exact h.apart j k r q g hjk hj hk he
      · have := ((h.own j r hj).row.lt he).2
        intro e
        cases e
        exact absurd this (Nat.lt_irrefl _)
    · rcases part k q hk with hk | ⟨ek, rfl⟩
      · intro e
        have := ((h.own k q hk).row.lt e).2
        cases he
        exact absurd this (Nat.lt_irrefl _)
      · exact absurd (ej.trans ek.symm) hjk
/-- A row's cells, to be appended. -/
theorem Rows.news {w : World} {base : Nat} {rs : List (Value × List Sv × List St)} (h : Rows w base rs) {k M c : Nat} {p : Option Addr} {vs : List Sv} {ss : List St} (hk : rs[k]? = some (.slice p M c, vs, ss)) : (lyS.all vs).length = M * 6 ∧ (p = none → M = 0) ∧ (∀ ad, p = some ad → ∀ j u, (lyS.all vs)[j]? = some u → w.cell? (ad.add j) = some u) := by
  have ho := (h.own k _ hk).row
  dsimp only at ho
  obtain ⟨p', c', e⟩ := ho.form
  cases e
  refine ⟨all_len vs, fun e => ?_, fun ad e j u hu => ?_⟩
  · subst e
    rcases ho.2 with ⟨_, hn⟩ | ⟨g, _, _, hv, _⟩
    · exact hn
    · cases hv
  · subst e
    rcases ho.2 with ⟨hv, _⟩ | ⟨g, _, _, hv, _⟩
    · cases hv
    · cases hv
      exact World.ownsRow.cells ho (g := g) rfl _ _ hu
theorem Rows.owns {w : World} {base : Nat} {rs : List (Value × List Sv × List St)} (h : Rows w base rs) {k M c : Nat} {p : Option Addr} {vs : List Sv} {ss : List St} (hk : rs[k]? = some (.slice p M c, vs, ss)) : w.ownsRow base 43 6 (.slice p M c) M (lyS.all vs) := by
  have ho := (h.own k _ hk).row
  dsimp only at ho
  obtain ⟨p', c', e⟩ := ho.form
  cases e
  exact ho
theorem Rows.len {w : World} {base : Nat} {rs : List (Value × List Sv × List St)} (h : Rows w base rs) {k M c : Nat} {p : Option Addr} {vs : List Sv} {ss : List St} (hk : rs[k]? = some (.slice p M c, vs, ss)) : vs.length = M ∧ ss.length = M := by
  have ho := h.own k _ hk
  obtain ⟨p', c', e⟩ := ho.row.form
  dsimp only at e
  cases e
  exact ⟨rfl, ho.len.symm⟩
/-- A row put behind another one. -/
theorem Rows.join {w w' : World} {base : Nat} {rs : List (Value × List Sv × List St)} (h : Rows w base rs) {k j M M2 N c c2 c' : Nat} {p p2 p' : Option Addr} {vs vs2 : List Sv} {ss ss2 : List St} (hk : rs[k]? = some (.slice p M c, vs, ss)) (hj : rs[j]? = some (.slice p2 M2 c2, vs2, ss2))
    (hown : w'.ownsRow base 43 6 (.slice p' N c') N (lyS.all vs ++ lyS.all vs2)) (hN : M + M2 = N) (hg : w.grownBy w' (Value.slice p M c).ownBlock) (hb : (Value.slice p' N c').ownBlock = (Value.slice p M c).ownBlock ∨ (Value.slice p' N c').ownBlock = some w.heap.size) : Rows w' base (rs.set k (.slice p' N c', vs ++ vs2, ss ++ ss2)) := by
  refine h.push hk ?_ hg hb (h.own j _ hj).len (h.own j _ hj).fit
  unfold Ly.Own
  rw [List.length_append, (h.len hk).1, (h.len hj).1, hN, all_app]
  exact hown
theorem Rows.none4 (w : World) (base : Nat) : Rows w base [(.slice none 0 0, [], []), (.slice none 0 0, [], []), (.slice none 0 0, [], []), (.slice none 0 0, [], [])] := by
  have key : ∀ (k : Nat) r, [((.slice none 0 0 : Value), ([] : List Sv), ([] : List St)), (.slice none 0 0, [], []), (.slice none 0 0, [], []), (.slice none 0 0, [], [])][k]? = some r → r = (.slice none 0 0, [], []) := fun k r hk => by
    have := List.mem_of_getElem? hk
    simpa using this
  refine ⟨fun k r hk => ?_, fun j k r q g _ hj _ he => ?_⟩
  · rw [key k r hk]; exact OwnS.nil _ _
  · rw [key j r hj] at he; cases he

/-- What Delta answers. -/
def DelYes (ss : List St) (w : World) (e : Ending) (w' : World) : Prop := ∃ p cap, e = .returned (.tuple #[.slice p ss.length cap, .int .i64 0]) ∧ StepsR w' p ss ∧ Below w.heap.size w w'
def DelNo (w : World) (e : Ending) (w' : World) : Prop := e = .returned (.tuple #[.slice none 0 0, .int .i64 1400]) ∧ Below w.heap.size w w'
def DelPost (a : List Nd) (ra na : Int) (b : List Nd) (rb nb : Int) (w : World) (e : Ending) (w' : World) : Prop := (deltaB a ra na b rb nb = true ∧ DelYes (stepsL a b) w e w') ∨ (deltaB a ra na b rb nb = false ∧ DelNo w e w')
theorem kinds_part {a b : List Nd} {i : Nat} (h : kindsB a (b.take i) = false) : kindsB a b = false := by
  cases hk : kindsB a b with
  | false => rfl
  | true =>
    have : kindsB a (b.take i) = true := by
      unfold kindsB at hk ⊢
      rw [List.all_eq_true] at hk ⊢
      exact fun x hx => hk x (List.mem_of_mem_take hx)
    rw [h] at this; cases this
theorem may_small {ns : List Nd} {root next size : Int} (h : mayB ns root next size = true) : ns.length ≤ 2048 ∧ ∀ x ∈ ns, x.kids.length ≤ 2048 := by
  have hh := h
  rw [mayB_is, Bool.and_eq_true] at h
  have h1 := h.1
  unfold mayC at h1
  simp only [Bool.and_eq_true, decide_eq_true_eq, List.all_eq_true, beq_iff_eq] at h1
  have hl : ns.length ≤ 2048 := h1.1.1.1.1.1.1.1.1.1.2
  obtain ⟨a1, a2, a3, a4, a5⟩ := may_all hh
  have OA : OkA ns root next size := ⟨a1, a3, a2⟩
  exact ⟨hl, fun x hx => Nat.le_trans (kids_len OA.found (OA.once (fun q x hx => a5 x (List.mem_of_getElem? hx))) hx) hl⟩

set_option maxRecDepth 1000000 in
set_option maxHeartbeats 4000000 in
theorem delta_no (w : World) (a : List Nd) (ra na : Int) (pa : Option Addr) (A ca : Nat) (b : List Nd) (rb nb : Int) (pb : Option Addr) (B cb : Nat) (hA : a.length = A) (hB : b.length = B) (ha : NodesR w pa a) (hb : NodesR w pb b) (la : A ≤ 140737488355328) (lb : B ≤ 140737488355328) (ka : ∀ x ∈ a, x.kids.length ≤ 140737488355328) (kb : ∀ x ∈ b, x.kids.length ≤ 140737488355328) (h : mayB a ra na (endN a ra) = false ∨ mayB b rb nb (endN b rb) = false ∨ ra ≠ rb) : Calls Try.prog 9 #[trV ra na pa A ca, trV rb nb pb B cb] w (DelNo w) := by
  have RA := Lib.hid ha; have RB := Lib.hid hb; have HA := Lib.hid hA; have HB := Lib.hid hB
  have BW : Hid (Below w.heap.size w ((w.alloc (.cells #[.int .i64 ra, .int .i64 na, .slice pa A ca] 24)).alloc (.cells #[.int .i64 rb, .int .i64 nb, .slice pb B cb] 24))) := Lib.hid (below2 (Below.refl _ _) (Nat.le_refl _) _ _)
  have A2 : Hid (((w.alloc (.cells #[.int .i64 ra, .int .i64 na, .slice pa A ca] 24)).alloc (.cells #[.int .i64 rb, .int .i64 nb, .slice pb B cb] 24)).heap[w.heap.size]? = some (.cells #[.int .i64 ra, .int .i64 na, .slice pa A ca] 24 (0, 0))) := Lib.hid (((below1 (Below.refl _ _) (Nat.le_refl _) _).block w.heap.size (by simp)).trans (heap_alloc_new w _))
  have B2 : Hid (((w.alloc (.cells #[.int .i64 ra, .int .i64 na, .slice pa A ca] 24)).alloc (.cells #[.int .i64 rb, .int .i64 nb, .slice pb B cb] 24)).heap[w.heap.size + 1]? = some (.cells #[.int .i64 rb, .int .i64 nb, .slice pb B cb] 24 (0, 0))) := Lib.hid (by
    have := heap_alloc_new (w.alloc (.cells #[.int .i64 ra, .int .i64 na, .slice pa A ca] 24)) (.cells #[.int .i64 rb, .int .i64 nb, .slice pb B cb] 24)
    rwa [show (w.alloc (.cells #[.int .i64 ra, .int .i64 na, .slice pa A ca] 24)).heap.size = w.heap.size + 1 by simp] at this)
  have EA := Lib.hid (fun (X : Ext ((w.alloc (.cells #[.int .i64 ra, .int .i64 na, .slice pa A ca] 24)).alloc (.cells #[.int .i64 rb, .int .i64 nb, .slice pb B cb] 24))) => rootEnd_any ra na pa a A ca hA X.w (RA.out.below (BW.out.trans (X.below.mono BW.out.size))) la)
  have EB := Lib.hid (fun (X : Ext ((w.alloc (.cells #[.int .i64 ra, .int .i64 na, .slice pa A ca] 24)).alloc (.cells #[.int .i64 rb, .int .i64 nb, .slice pb B cb] 24))) => rootEnd_any rb nb pb b B cb hB X.w (RB.out.below (BW.out.trans (X.below.mono BW.out.size))) lb)
  have TA := Lib.hid (fun (X : Ext ((w.alloc (.cells #[.int .i64 ra, .int .i64 na, .slice pa A ca] 24)).alloc (.cells #[.int .i64 rb, .int .i64 nb, .slice pb B cb] 24))) => treeMay_any ra na (endN a ra) pa a A ca hA X.w (RA.out.below (BW.out.trans (X.below.mono BW.out.size))) la ka)
  have TB := Lib.hid (fun (X : Ext ((w.alloc (.cells #[.int .i64 ra, .int .i64 na, .slice pa A ca] 24)).alloc (.cells #[.int .i64 rb, .int .i64 nb, .slice pb B cb] 24))) => treeMay_any rb nb (endN b rb) pb b B cb hB X.w (RB.out.below (BW.out.trans (X.below.mono BW.out.size))) lb kb)
  unfold trV at *
  clear ha hb hA hB ka kb la lb
  cases h1 : mayB a ra na (endN a ra) with
  | false =>
    rw [h1] at TA
    clear h h1
    go_enter Try.func9, Try.ntmps9
    go_wp2_with fail
    generalize ((w.alloc (.cells #[.int .i64 ra, .int .i64 na, .slice pa A ca] 24)).alloc (.cells #[.int .i64 rb, .int .i64 nb, .slice pb B cb] 24)) = W2 at BW A2 B2 EA EB TA TB ⊢
    have y0 : ∀ X : Ext W2, X.w.cell? ⟨w.heap.size, 0, none⟩ = some (.int .i64 ra) := fun X => X.cell ((obj_cells A2.out).1 0 _ rfl)
    have y1 : ∀ X : Ext W2, X.w.cell? ⟨w.heap.size, 1, none⟩ = some (.int .i64 na) := fun X => X.cell ((obj_cells A2.out).1 1 _ rfl)
    have y2 : ∀ X : Ext W2, X.w.cell? ⟨w.heap.size, 2, none⟩ = some (.slice pa A ca) := fun X => X.cell ((obj_cells A2.out).1 2 _ rfl)
    have z0 : ∀ X : Ext W2, X.w.cell? ⟨w.heap.size + 1, 0, none⟩ = some (.int .i64 rb) := fun X => X.cell ((obj_cells B2.out).1 0 _ rfl)
    have z1 : ∀ X : Ext W2, X.w.cell? ⟨w.heap.size + 1, 1, none⟩ = some (.int .i64 nb) := fun X => X.cell ((obj_cells B2.out).1 1 _ rfl)
    have z2 : ∀ X : Ext W2, X.w.cell? ⟨w.heap.size + 1, 2, none⟩ = some (.slice pb B cb) := fun X => X.cell ((obj_cells B2.out).1 2 _ rfl)
    refine wp_region_ext (by kernel_rfl) (by kernel_rfl) ?_
    repeat (go_big_quiet_step (first | (go_at_call_of 23 (Value.slice pa A ca); exact Ext.calls (EA.out _)) | (go_at_call_of 23 (Value.slice pb B cb); exact Ext.calls (EB.out _)) | (go_at_call_of 22 (Value.slice pa A ca); exact Ext.calls (TA.out _)) | (go_at_call_of 22 (Value.slice pb B cb); exact Ext.calls (TB.out _)) | fail))
    refine wpQuiet_nil ?_
    rintro _ ⟨X, rfl⟩
    clear y0 y1 y2 z0 z1 z2
    go_wp2_with fail
    go_ret2
    exact ⟨rfl, BW.out.trans (X.below.mono BW.out.size)⟩
  | true =>
    cases h2 : mayB b rb nb (endN b rb) with
    | false =>
      rw [h1] at TA
      rw [h2] at TB
      clear h h1 h2
      go_enter Try.func9, Try.ntmps9
      go_wp2_with fail
      generalize ((w.alloc (.cells #[.int .i64 ra, .int .i64 na, .slice pa A ca] 24)).alloc (.cells #[.int .i64 rb, .int .i64 nb, .slice pb B cb] 24)) = W2 at BW A2 B2 EA EB TA TB ⊢
      have y0 : ∀ X : Ext W2, X.w.cell? ⟨w.heap.size, 0, none⟩ = some (.int .i64 ra) := fun X => X.cell ((obj_cells A2.out).1 0 _ rfl)
      have y1 : ∀ X : Ext W2, X.w.cell? ⟨w.heap.size, 1, none⟩ = some (.int .i64 na) := fun X => X.cell ((obj_cells A2.out).1 1 _ rfl)
      have y2 : ∀ X : Ext W2, X.w.cell? ⟨w.heap.size, 2, none⟩ = some (.slice pa A ca) := fun X => X.cell ((obj_cells A2.out).1 2 _ rfl)
      have z0 : ∀ X : Ext W2, X.w.cell? ⟨w.heap.size + 1, 0, none⟩ = some (.int .i64 rb) := fun X => X.cell ((obj_cells B2.out).1 0 _ rfl)
      have z1 : ∀ X : Ext W2, X.w.cell? ⟨w.heap.size + 1, 1, none⟩ = some (.int .i64 nb) := fun X => X.cell ((obj_cells B2.out).1 1 _ rfl)
      have z2 : ∀ X : Ext W2, X.w.cell? ⟨w.heap.size + 1, 2, none⟩ = some (.slice pb B cb) := fun X => X.cell ((obj_cells B2.out).1 2 _ rfl)
      refine wp_region_ext (by kernel_rfl) (by kernel_rfl) ?_
      repeat (go_big_quiet_step (first | (go_at_call_of 23 (Value.slice pa A ca); exact Ext.calls (EA.out _)) | (go_at_call_of 23 (Value.slice pb B cb); exact Ext.calls (EB.out _)) | (go_at_call_of 22 (Value.slice pa A ca); exact Ext.calls (TA.out _)) | (go_at_call_of 22 (Value.slice pb B cb); exact Ext.calls (TB.out _)) | fail))
      refine wpQuiet_nil ?_
      rintro _ ⟨X, rfl⟩
      clear y0 y1 y2 z0 z1 z2
      go_wp2_with fail
      go_ret2
      exact ⟨rfl, BW.out.trans (X.below.mono BW.out.size)⟩
    | true =>
      have hr : ra ≠ rb := by
        rcases h with h | h | h
        · rw [h1] at h; cases h
        · rw [h2] at h; cases h
        · exact h
      have qr : (ra != rb) = true := bne_iff_ne.2 hr
      rw [h1] at TA
      rw [h2] at TB
      clear h h1 h2
      go_enter Try.func9, Try.ntmps9
      go_wp2_with fail
      generalize ((w.alloc (.cells #[.int .i64 ra, .int .i64 na, .slice pa A ca] 24)).alloc (.cells #[.int .i64 rb, .int .i64 nb, .slice pb B cb] 24)) = W2 at BW A2 B2 EA EB TA TB ⊢
      have y0 : ∀ X : Ext W2, X.w.cell? ⟨w.heap.size, 0, none⟩ = some (.int .i64 ra) := fun X => X.cell ((obj_cells A2.out).1 0 _ rfl)
      have y1 : ∀ X : Ext W2, X.w.cell? ⟨w.heap.size, 1, none⟩ = some (.int .i64 na) := fun X => X.cell ((obj_cells A2.out).1 1 _ rfl)
      have y2 : ∀ X : Ext W2, X.w.cell? ⟨w.heap.size, 2, none⟩ = some (.slice pa A ca) := fun X => X.cell ((obj_cells A2.out).1 2 _ rfl)
      have z0 : ∀ X : Ext W2, X.w.cell? ⟨w.heap.size + 1, 0, none⟩ = some (.int .i64 rb) := fun X => X.cell ((obj_cells B2.out).1 0 _ rfl)
      have z1 : ∀ X : Ext W2, X.w.cell? ⟨w.heap.size + 1, 1, none⟩ = some (.int .i64 nb) := fun X => X.cell ((obj_cells B2.out).1 1 _ rfl)
      have z2 : ∀ X : Ext W2, X.w.cell? ⟨w.heap.size + 1, 2, none⟩ = some (.slice pb B cb) := fun X => X.cell ((obj_cells B2.out).1 2 _ rfl)
      refine wp_region_ext (by kernel_rfl) (by kernel_rfl) ?_
      repeat (go_big_quiet_step (first | (go_at_call_of 23 (Value.slice pa A ca); exact Ext.calls (EA.out _)) | (go_at_call_of 23 (Value.slice pb B cb); exact Ext.calls (EB.out _)) | (go_at_call_of 22 (Value.slice pa A ca); exact Ext.calls (TA.out _)) | (go_at_call_of 22 (Value.slice pb B cb); exact Ext.calls (TB.out _)) | fail))
      refine wpQuiet_nil ?_
      rintro _ ⟨X, rfl⟩
      clear y0 y1 y2 z0 z1 z2
      go_wp2_with fail
      go_ret2
      exact ⟨rfl, BW.out.trans (X.below.mono BW.out.size)⟩

end Go.Proofs.Ytmeigoeknjoodaa
