/-
  The walk of PatchSpans, under what Apply answers: it answers true. Conditions: as the theorem's premises say.
-/
import Derived.Test.YtdhkjhdbaofdcaaPts
namespace Go.Proofs.Ytdhkjhdbaofdcaa
open Go.RowKit

theorem and15 (x : Int) : ∃ n : Nat, n ≤ 15 ∧ bits BinOp.and IntKind.i64 x 15 = (n : Int) := by
  have small : ∀ v : Fin 16, IntKind.i64.wrap (v.val : Int) = (v.val : Int) := by decide
  have hv : (BitVec.ofInt 64 x &&& BitVec.ofInt 64 15).toNat ≤ 15 := by
    rw [BitVec.toNat_and]
    exact Nat.le_trans Nat.and_le_right (by decide)
  exact ⟨_, hv, small ⟨_, Nat.lt_succ_of_le hv⟩⟩
def sW : List UInt8 := [91, 32, 32, 32, 32, 32, 32, 49, 32, 32, 32, 32, 32, 32, 93]
def wL (a b : Nat) : List Nd := [⟨0, 0, 0, 15, [1]⟩, ⟨1, 2, 0, 15, [2]⟩, ⟨2, 5, a, b, []⟩]
def sSt (a b : Nat) : List St := [⟨3, 2, 0, a, b, []⟩]
theorem sW_par : parN sW = wL 7 8 := by kernel_rfl
theorem w_may : ∀ a b : Fin 16, mayB (wL a.val b.val) 0 3 15 = decide (a.val ≤ b.val) := by decide +kernel
theorem w_fits : ∀ a b : Fin 16, fitsN ⟨3, 2, 0, a.val, b.val, []⟩ (wL 7 8) = decide (a.val ≤ b.val) := by decide +kernel
theorem w_act (a b : Nat) : actN ⟨3, 2, 0, a, b, []⟩ (wL 7 8, 3) = (wL a b, 3) := by
  unfold actN wL
  simp
theorem w_patch {a b : Nat} (ha : a ≤ 15) (hb : b ≤ 15) : patchP (wL 7 8) 0 3 (sSt a b) 15 = if a ≤ b then some (wL a b, 3) else none := by
  have m := w_may ⟨a, by omega⟩ ⟨b, by omega⟩
  have f := w_fits ⟨a, by omega⟩ ⟨b, by omega⟩
  have h0 : mayB (wL 7 8) 0 3 (endN (wL 7 8) 0) = true := by decide +kernel
  dsimp only at m f
  unfold patchP
  rw [h0, if_pos (by simp [sSt])]
  unfold sSt doN
  rw [f]
  by_cases h : a ≤ b
  · rw [decide_eq_true h] at m ⊢
    rw [if_pos rfl, w_act]
    unfold doN
    dsimp only
    rw [m, if_pos rfl, if_pos h]
  · rw [decide_eq_false h, if_neg h]
    rfl
theorem wL_len (a b : Nat) : (wL a b).length = 3 := rfl
theorem wL_kids (a b : Nat) : ∀ x ∈ wL a b, x.kids.length ≤ 2048 := by
  intro x hx
  simp only [wL, List.mem_cons, List.not_mem_nil, or_false] at hx
  rcases hx with rfl | rfl | rfl <;> simp
theorem sSt_kids (a b : Nat) : ∀ s ∈ sSt a b, s.kids.length ≤ 140737488355328 := by
  intro s hs
  simp only [sSt, List.mem_cons, List.not_mem_nil, or_false] at hs
  subst hs; simp
/-- The one step, as it is written out. -/
theorem s_lit (W : World) (a b : Nat) : StepsR (W.alloc (.cells #[.int .i64 3, .int .i64 2, .int .i64 0, .int .i64 a, .int .i64 b, .slice none 0 0] 42)) (some ⟨W.heap.size, 0, none⟩) (sSt a b) := by
  have hC := (obj_cells (heap_new (W := W) rfl #[.int .i64 3, .int .i64 2, .int .i64 0, .int .i64 a, .int .i64 b, .slice none 0 0] 42)).1
  intro i s hi
  match i, hi with
  | 0, hi =>
    cases hi
    refine ⟨_, _, none, 0, rfl, fun j u hu => ?_, fun k x hx => by simp at hx⟩
    simp only [Nat.zero_mul, Nat.zero_add]
    exact hC j u (by simpa [lyS, Sv.cells, Sv.kv] using hu)
  | i + 1, hi => simp [sSt] at hi
/-- A copy of the tree, its last node's span written over. -/
theorem w_wrote {w : World} {base g cap a b : Nat} {vs : List Nv} (h : OwnT w base (.slice (some ⟨g, 0, none⟩) 3 cap) vs (wL 7 8)) : NodesR ((w.setCell ⟨g, 12, none⟩ (.int .i64 a)).setCell ⟨g, 13, none⟩ (.int .i64 b)) (some ⟨g, 0, none⟩) (wL a b) := by
  have hr := h.read
  obtain ⟨cur, hG⟩ := h.row.obj (g := g) rfl
  have g1 := set_grown w g 12 (.int .i64 a)
  have gg : w.grownBy ((w.setCell ⟨g, 12, none⟩ (.int .i64 a)).setCell ⟨g, 13, none⟩ (.int .i64 b)) (some g) := grown_set g1 _
  have far : ∀ j, j ≠ 12 → j ≠ 13 → ∀ u, w.cell? ⟨g, j, none⟩ = some u → ((w.setCell ⟨g, 12, none⟩ (.int .i64 a)).setCell ⟨g, 13, none⟩ (.int .i64 b)).cell? ⟨g, j, none⟩ = some u := fun j h1 h2 u hu => by
    rw [World.cell?_setCell_other _ _ _ _ (fun e => h2 (congrArg Addr.off e).symm), World.cell?_setCell_other _ _ _ _ (fun e => h1 (congrArg Addr.off e).symm)]
    exact hu
  have kids : ∀ (i : Nat) n, (wL 7 8)[i]? = some n → ∃ kp kc, (∀ j u, (lyN.cells ⟨n.id, n.kd, n.fr, Nd.to n, kp, n.kids.length, kc⟩)[j]? = some u → w.cell? ⟨g, i * 5 + j, none⟩ = some u) ∧ lyI.Row ((w.setCell ⟨g, 12, none⟩ (.int .i64 a)).setCell ⟨g, 13, none⟩ (.int .i64 b)) kp n.kids := fun i n hn => by
    have hl : i < vs.length := by rw [h.len]; exact (List.getElem?_eq_some_iff.1 hn).1
    have hv := List.getElem?_eq_getElem hl
    obtain ⟨f1, f2, f3, f4, f5⟩ := h.fit i _ n hv hn
    obtain ⟨kp, kc, hkv⟩ := f5.form
    have at1 := h.row.at hv
    refine ⟨kp, kc, fun j u hu => ?_, ?_⟩
    · have e : lyN.cells (⟨n.id, n.kd, n.fr, Nd.to n, kp, n.kids.length, kc⟩ : Nv) = lyN.cells (vs[i]'hl) := by
        show Nv.cells _ = Nv.cells _
        unfold Nv.cells
        rw [hkv, f1, f2, f3, f4]
        rfl
      rw [e] at hu
      exact at1 j u hu
    · have h5 := f5.kept gg (fun k hk e0 => by
        cases e0
        obtain ⟨c2, h2⟩ := f5.obj hk
        exact type_ne hG h2 (by decide) rfl)
      rw [hkv] at h5
      exact h5.row
  have c12 : ∃ u, w.cell? ⟨g, 12, none⟩ = some u := by
    obtain ⟨kp, kc, h1, -⟩ := kids 2 _ rfl
    exact ⟨_, h1 2 _ rfl⟩
  have c13 : ∃ u, (w.setCell ⟨g, 12, none⟩ (.int .i64 a)).cell? ⟨g, 13, none⟩ = some u := by
    obtain ⟨kp, kc, h1, -⟩ := kids 2 _ rfl
    exact ⟨_, by rw [World.cell?_setCell_other _ _ _ _ (by simp)]; exact h1 3 _ rfl⟩
  have at12 : ((w.setCell ⟨g, 12, none⟩ (.int .i64 a)).setCell ⟨g, 13, none⟩ (.int .i64 b)).cell? ⟨g, 12, none⟩ = some (.int .i64 a) := by
    obtain ⟨u, hu⟩ := c12
    rw [World.cell?_setCell_other _ _ _ _ (by simp)]
    exact World.cell?_setCell_same _ _ _ hu
  have at13 : ((w.setCell ⟨g, 12, none⟩ (.int .i64 a)).setCell ⟨g, 13, none⟩ (.int .i64 b)).cell? ⟨g, 13, none⟩ = some (.int .i64 b) := by
    obtain ⟨u, hu⟩ := c13
    exact World.cell?_setCell_same _ _ _ hu
  intro i n hi
  match i, hi with
  | 0, hi =>
    cases hi
    obtain ⟨kp, kc, h1, h2⟩ := kids 0 _ rfl
    refine ⟨g, 0, kp, kc, rfl, fun j u hu => far _ ?_ ?_ _ (by simpa using h1 j u hu), h2⟩
    all_goals
      have := (List.getElem?_eq_some_iff.1 hu).1
      simp [lyN, Nv.cells] at this
      omega
  | 1, hi =>
    cases hi
    obtain ⟨kp, kc, h1, h2⟩ := kids 1 _ rfl
    refine ⟨g, 0, kp, kc, rfl, fun j u hu => far _ ?_ ?_ _ (by simpa using h1 j u hu), h2⟩
    all_goals
      have := (List.getElem?_eq_some_iff.1 hu).1
      simp [lyN, Nv.cells] at this
      omega
  | 2, hi =>
    cases hi
    obtain ⟨kp, kc, h1, h2⟩ := kids 2 _ rfl
    refine ⟨g, 0, kp, kc, rfl, fun j u hu => ?_, h2⟩
    match j, hu with
    | 0, hu => exact far 10 (by omega) (by omega) _ (by have := h1 0 _ rfl; cases hu; exact this)
    | 1, hu => exact far 11 (by omega) (by omega) _ (by have := h1 1 _ rfl; cases hu; exact this)
    | 2, hu => cases hu; exact at12
    | 3, hu => cases hu; exact at13
    | 4, hu => exact far 14 (by omega) (by omega) _ (by have := h1 4 _ rfl; cases hu; exact this)
    | j + 5, hu => simp [lyN, Nv.cells] at hu
  | i + 3, hi => simp [wL] at hi

theorem copyO_c (ra na : Int) (p : Option Addr) (A : List Nd) (NA cap : Nat) (hA : A.length = NA) (w : World) (h : NodesR w p A) (hl : NA * 56 ≤ 140737488355328) (hk : ∀ x ∈ A, x.kids.length * 8 ≤ 140737488355328) :
    Calls Try.prog 7 #[.agg #[.int .i64 ra, .int .i64 na, .slice p NA cap]] w (fun e w' => ∃ p c vs, e = .returned (.agg #[.int .i64 ra, .int .i64 na, .slice p NA c]) ∧ OwnT w' w.heap.size (.slice p NA c) vs A ∧ Bl w w') := by
  refine (copyTree_any ra na p A NA cap hA w h hl hk).mono ?_
  rintro e w' ⟨q, c, vs, rfl, ho, hb⟩
  rw [hA] at ho ⊢
  exact ⟨q, c, vs, rfl, ho, hb⟩

set_option maxRecDepth 100000 in
set_option maxHeartbeats 8000000 in
theorem spans_true (AP : ApC) (fa ta : Int) (w : World) : Calls Try.prog 5 #[.int .i64 fa, .int .i64 ta] w (RetBelow (.returned (.bool true)) w) := by
  have AW := Lib.hid (fun W => awake_true AP W)
  obtain ⟨a, ha, hba⟩ := and15 fa
  obtain ⟨b, hb, hbb⟩ := and15 ta
  have PA := Lib.hid (fun W => parse_c ⟨#[91, 32, 32, 32, 32, 32, 32, 49, 32, 32, 32, 32, 32, 32, 93]⟩ (by decide) sW rfl 3 (by rw [sW_par]; rfl) W)
  rw [sW_par] at PA
  have WP := Lib.hid (w_patch ha hb)
  have CO := Lib.hid (fun (W : World) (p : Option Addr) (cap : Nat) (R : NodesR W p (wL 7 8)) => copyO_c 0 3 p (wL 7 8) 3 cap rfl W R (by omega) (fun x hx => by have := wL_kids 7 8 x hx; omega))
  have ST := Lib.hid (fun (W : World) (p q : Option Addr) (c d : Nat) (R : NodesR W p (wL a b)) (R2 : NodesR W q (wL a b)) => sameTree_true 0 3 p q (wL a b) 3 c d rfl W R R2 (by omega) (fun x hx => Nat.le_trans (wL_kids a b x hx) (by omega)))
  unfold trV at ST
  go_enter Try.func5, Try.ntmps5
  go_upto_region 3 with (go_at_call 15; refine (AW.out _).mono ?_; rintro e w0 ⟨rfl, hb0⟩; have B0 := Lib.hid (show Bl w w0 from hb0); clear hb0)
  clear AW
  go_upto_region 4 with (go_at_call 16; refine (PA.out _).mono ?_; rintro e w1 ⟨p1, c1, rfl, o1, hc1, hb1⟩; have O1 := Lib.hid o1; have B1 := Lib.hid (B0.out.call hb1); have C1 := Lib.hid hc1; clear o1 hb1 hc1)
  have b1 : Bl w1 (w1.alloc (.cells #[.int .i64 0, .int .i64 3, .slice p1 3 c1] 24)) := Bl.alloc (Bl.refl _) _
  have T1 : Hid ((w1.alloc (.cells #[.int .i64 0, .int .i64 3, .slice p1 3 c1] 24)).heap[w1.heap.size]? = some (.cells #[.int .i64 0, .int .i64 3, .slice p1 3 c1] 24 (0, 0))) := Lib.hid (heap_new rfl _ _)
  have O2 := Lib.hid (O1.out.below b1); have B2 := Lib.hid (B1.out.call b1)
  obtain ⟨tb, htb⟩ : ∃ g, g = w1.heap.size := ⟨_, rfl⟩
  rw [← htb] at T1 ⊢
  clear O1 B1 b1 htb PA B0
  generalize (w1.alloc (.cells #[.int .i64 0, .int .i64 3, .slice p1 3 c1] 24)) = w2 at O2 B2 T1 ⊢
  have HA := Lib.hid hba; have HB := Lib.hid hbb
  clear hba hbb
  go_upto_region 5 with fail
  rw [HA.out, HB.out]
  have t0 := (obj_cells T1.out).1 0 _ rfl; have t1 := (obj_cells T1.out).1 1 _ rfl; have t2 := (obj_cells T1.out).1 2 _ rfl
  have LIT := Lib.hid (s_lit w2 a b)
  have BL : Hid (Bl w2 (w2.alloc (.cells #[.int .i64 3, .int .i64 2, .int .i64 0, .int .i64 a, .int .i64 b, .slice none 0 0] 42))) := Lib.hid (Bl.alloc (Bl.refl _) _)
  by_cases hab : a ≤ b
  · have AY := Lib.hid (fun (W : World) (p q : Option Addr) (ca cs : Nat) (R : NodesR W p (wL 7 8)) (S : StepsR W q (sSt a b)) (h1 : 3 ≤ ca) => apply_yes AP W (wL 7 8) 0 3 p 3 ca (sSt a b) q 1 cs 15 rfl rfl R S h1 (by omega) (wL_kids 7 8) (by omega) (sSt_kids a b) (wL a b) 3 3 (by rw [WP.out, if_pos hab]) rfl)
    clear AP
    have hab1 : ¬ ((b : Int) < (a : Int)) := by omega
    have hb15 : ¬ ((15 : Int) < (b : Int)) := by omega
    go_upto_region 6 with (go_at_call 9; refine (AY.out _ _ _ _ _ (O2.out.below BL.out) LIT.out C1.out).mono ?_; rintro e w3 ⟨p3, c3, vs3, rfl, n3, -, h3⟩; have N3 := Lib.hid n3.read; have B3 : Hid (Bl w2 w3) := Lib.hid (BL.out.call h3); clear n3 h3)
    clear AY LIT BL t0 t1 t2
    have b4 : Bl w3 (w3.alloc (.cells #[.int .i64 0, .int .i64 3, .slice p3 3 c3] 24)) := Bl.alloc (Bl.refl _) _
    have U4 : Hid ((w3.alloc (.cells #[.int .i64 0, .int .i64 3, .slice p3 3 c3] 24)).heap[w3.heap.size]? = some (.cells #[.int .i64 0, .int .i64 3, .slice p3 3 c3] 24 (0, 0))) := Lib.hid (heap_new rfl _ _)
    have N4 := Lib.hid (N3.out.below b4); have B4 : Hid (Bl w2 (w3.alloc (.cells #[.int .i64 0, .int .i64 3, .slice p3 3 c3] 24))) := Lib.hid (B3.out.call b4)
    obtain ⟨ub, hub⟩ : ∃ g, g = w3.heap.size := ⟨_, rfl⟩
    rw [← hub] at U4 ⊢
    clear hub b4 N3 B3
    generalize (w3.alloc (.cells #[.int .i64 0, .int .i64 3, .slice p3 3 c3] 24)) = w4 at U4 N4 B4 ⊢
    have T4 := Lib.hid (heap_later T1.out B4.out); have O4 := Lib.hid (O2.out.below B4.out)
    have t0 := (obj_cells T4.out).1 0 _ rfl; have t1 := (obj_cells T4.out).1 1 _ rfl; have t2 := (obj_cells T4.out).1 2 _ rfl
    go_upto_region 11 with (go_at_call 7; refine (CO.out _ _ _ O4.out).mono ?_; rintro e w5 ⟨p5, c5, vs5, rfl, n5, h5⟩; have N5 := Lib.hid n5; have B5 : Hid (Bl w4 w5) := Lib.hid h5; clear n5 h5)
    clear t0 t1 t2
    obtain ⟨g, c, eg, -, hg2, hcc⟩ := N5.out.row.formS (by intro e; have := N5.out.len; rw [e] at this; simp [wL] at this)
    have L5 : vs5.length = 3 := N5.out.len
    rw [L5] at eg hcc
    cases eg
    have b6 : Bl w5 (w5.alloc (.cells #[.int .i64 0, .int .i64 3, .slice (some ⟨g, 0, none⟩) 3 c5] 24)) := Bl.alloc (Bl.refl _) _
    have V6 : Hid ((w5.alloc (.cells #[.int .i64 0, .int .i64 3, .slice (some ⟨g, 0, none⟩) 3 c5] 24)).heap[w5.heap.size]? = some (.cells #[.int .i64 0, .int .i64 3, .slice (some ⟨g, 0, none⟩) 3 c5] 24 (0, 0))) := Lib.hid (heap_new rfl _ _)
    have N6 := Lib.hid (N5.out.below b6); have B6 : Hid (Bl w4 (w5.alloc (.cells #[.int .i64 0, .int .i64 3, .slice (some ⟨g, 0, none⟩) 3 c5] 24))) := Lib.hid (B5.out.call b6)
    have GB : Hid (w4.heap.size ≤ g) := Lib.hid ((N5.out.row.lt (g := g) rfl).1)
    obtain ⟨vb, hvb⟩ : ∃ g, g = w5.heap.size := ⟨_, rfl⟩
    rw [← hvb] at V6 ⊢
    clear hvb b6 N5 B5 hg2 hcc
    generalize (w5.alloc (.cells #[.int .i64 0, .int .i64 3, .slice (some ⟨g, 0, none⟩) 3 c5] 24)) = w6 at V6 N6 B6 ⊢
    have v2 := (obj_cells V6.out).1 2 _ rfl
    have at2 := N6.out.row.at (List.getElem?_eq_getElem (l := vs5) (i := 2) (by omega))
    have d2 : ∃ u, w6.cell? ⟨g, 12, none⟩ = some u := ⟨_, at2 2 _ rfl⟩
    have d3 : ∃ u, w6.cell? ⟨g, 13, none⟩ = some u := ⟨_, at2 3 _ rfl⟩
    obtain ⟨u2, d2⟩ := d2
    obtain ⟨u3, d3⟩ := d3
    have df : ∀ j, w6.frozen? ⟨g, j, none⟩ = false := fun j => N6.out.row.frozen j
    have WR := Lib.hid (w_wrote (a := a) (b := b) N6.out)
    obtain ⟨cur, hG⟩ := N6.out.row.obj (g := g) rfl
    have ne : vb ≠ g := type_ne V6.out hG (by decide)
    have nf : ¬ g = vb := Ne.symm ne
    clear at2
    go_upto_region 13 with fail
    have gg : w6.grownBy ((w6.setCell ⟨g, 12, none⟩ (.int .i64 a)).setCell ⟨g, 13, none⟩ (.int .i64 b)) (some g) := grown_set (set_grown w6 g 12 _) _
    have B7 : Hid (Bl w4 ((w6.setCell ⟨g, 12, none⟩ (.int .i64 a)).setCell ⟨g, 13, none⟩ (.int .i64 b))) := Lib.hid (Bl.set (Bl.set B6.out GB.out _) GB.out _)
    have V7 : Hid (((w6.setCell ⟨g, 12, none⟩ (.int .i64 a)).setCell ⟨g, 13, none⟩ (.int .i64 b)).heap[vb]? = some (.cells #[.int .i64 0, .int .i64 3, .slice (some ⟨g, 0, none⟩) 3 c5] 24 (0, 0))) := Lib.hid ((gg.block vb (Array.getElem?_eq_some_iff.1 V6.out).1 (fun e => ne (Option.some.inj e))).trans V6.out)
    clear v2 d2 d3 df gg hG V6 N6 B6
    generalize ((w6.setCell ⟨g, 12, none⟩ (.int .i64 a)).setCell ⟨g, 13, none⟩ (.int .i64 b)) = w7 at WR B7 V7 ⊢
    have U7 := Lib.hid (heap_later U4.out B7.out); have N7 := Lib.hid (N4.out.below B7.out)
    have u0 := (obj_cells U7.out).1 0 _ rfl; have u1 := (obj_cells U7.out).1 1 _ rfl; have u2' := (obj_cells U7.out).1 2 _ rfl
    have v0 := (obj_cells V7.out).1 0 _ rfl; have v1 := (obj_cells V7.out).1 1 _ rfl; have v2 := (obj_cells V7.out).1 2 _ rfl
    go_wp2_with (first | (go_at_call 11; refine (ST.out _ _ _ _ _ N7.out WR.out).mono ?_; rintro e w8 ⟨rfl, h8⟩; have B8 : Hid (Bl w4 w8) := Lib.hid (B7.out.call h8); clear h8) | (go_at_call 12; refine (num_any _ _).mono ?_; rintro e w9 ⟨rfl, rfl⟩))
    go_ret
    exact ⟨rfl, (B2.out.call B4.out).call B8.out⟩
  · have AN := Lib.hid (fun (W : World) (p q : Option Addr) (ca cs : Nat) (R : NodesR W p (wL 7 8)) (S : StepsR W q (sSt a b)) (h1 : 3 ≤ ca) => apply_no AP W (wL 7 8) 0 3 p 3 ca (sSt a b) q 1 cs 15 rfl rfl R S h1 (by omega) (wL_kids 7 8) (by omega) (sSt_kids a b) (by rw [WP.out, if_neg hab]))
    clear AP
    have hab1 : (b : Int) < (a : Int) := by omega
    go_upto_region 6 with (go_at_call 9; refine (AN.out _ _ _ _ _ (O2.out.below BL.out) LIT.out C1.out).mono ?_; rintro e w3 ⟨rfl, h3⟩; have B3 : Hid (Bl w2 w3) := Lib.hid (BL.out.call h3); clear h3)
    clear AN LIT BL t0 t1 t2
    have B4 : Hid (Bl w2 (w3.alloc (.cells #[.int .i64 0, .int .i64 0, .slice none 0 0] 24))) := Lib.hid (B3.out.call (Bl.alloc (Bl.refl _) _))
    have T4 := Lib.hid (heap_later T1.out B4.out)
    clear B3
    generalize (w3.alloc (.cells #[.int .i64 0, .int .i64 0, .slice none 0 0] 24)) = w4 at B4 T4 ⊢
    have t0 := (obj_cells T4.out).1 0 _ rfl; have t1 := (obj_cells T4.out).1 1 _ rfl; have t2 := (obj_cells T4.out).1 2 _ rfl
    go_wp2_with (go_at_call 12; refine (num_any _ _).mono ?_; rintro e w9 ⟨rfl, rfl⟩)
    go_ret
    exact ⟨rfl, B2.out.call B4.out⟩

end Go.Proofs.Ytdhkjhdbaofdcaa
