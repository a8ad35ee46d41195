/-
  The walk of PatchForms, under what Apply answers: it answers true. Conditions: as the theorem's premises say.
-/
import Derived.Test.YtdhkjhdbaofdcaaPfA
import Derived.Test.YtdhkjhdbaofdcaaTwo
namespace Go.Proofs.Ytdhkjhdbaofdcaa
open Go.RowKit

set_option maxRecDepth 100000 in
set_option maxHeartbeats 8000000 in
theorem forms_true (AP : ApC) (wh x : Int) (w : World) : Calls Try.prog 4 #[.int .i64 wh, .int .i64 x] w (RetBelow (.returned (.bool true)) w) := by
  have AW := Lib.hid (fun W => awake_true AP W)
  have PA := Lib.hid (fun W => parse_c ⟨#[91, 49, 93]⟩ (by decide) aA rfl 3 aA_len W)
  obtain ⟨n, hn, hb⟩ := and1023 x
  go_enter Try.func4, Try.ntmps4
  go_upto_region 3 with (go_at_call 15; refine (AW.out _).mono ?_; rintro e w0 ⟨rfl, hb0⟩; have B0 := Lib.hid (show Bl w w0 from hb0); clear hb0)
  clear AW
  have hb' := Lib.hid hb
  clear hb
  go_upto_region 4 with fail
  rw [hb'.out, wrapd hn]
  obtain ⟨d, hd⟩ : ∃ d, n + 1 = d := ⟨_, rfl⟩
  rw [hd]
  have d1 : 1 ≤ d := by omega
  have d2 : d ≤ 1024 := by omega
  clear hb' hn hd
  rw [show parN aA = nA from nA_par] at PA
  go_upto_region 5 with (go_at_call 16; refine (PA.out _).mono ?_; rintro e w1 ⟨p1, c1, rfl, o1, hc1, hb1⟩; have O1 := Lib.hid o1; have B1 := Lib.hid (B0.out.call hb1); have C1 := Lib.hid hc1; clear o1 hb1 hc1)
  have b1 : Bl w1 (w1.alloc (.cells #[.int .i64 0, .int .i64 3, .slice p1 3 c1] 24)) := Bl.alloc (Bl.refl _) _
  have T1 : Hid ((w1.alloc (.cells #[.int .i64 0, .int .i64 3, .slice p1 3 c1] 24)).heap[w1.heap.size]? = some (.cells #[.int .i64 0, .int .i64 3, .slice p1 3 c1] 24 (0, 0))) := Lib.hid (heap_new rfl _ _)
  have O2 := Lib.hid (O1.out.below b1); have B2 := Lib.hid (B1.out.call b1)
  obtain ⟨tb, htb⟩ : ∃ g, g = w1.heap.size := ⟨_, rfl⟩
  rw [← htb] at T1 ⊢
  clear O1 B1 b1 htb PA B0
  generalize (w1.alloc (.cells #[.int .i64 0, .int .i64 3, .slice p1 3 c1] 24)) = w2 at O2 B2 T1 ⊢
  have AY := Lib.hid (fun (W : World) (p : Option Addr) (ca : Nat) (R : NodesR W p nA) (h1 : 3 ≤ ca) => apply_yes AP W nA 0 3 p 3 ca [] none 0 0 3 rfl rfl R (stepsR_nil _ _) h1 (by omega) nA_kids (by omega) (fun s h => by simp at h) nA 3 3 a_three rfl)
  have t0 := (obj_cells T1.out).1 0 _ rfl; have t1 := (obj_cells T1.out).1 1 _ rfl; have t2 := (obj_cells T1.out).1 2 _ rfl
  go_upto_region 6 with (go_at_call 9; refine (AY.out _ _ _ O2.out C1.out).mono ?_; rintro e w3 ⟨p3, c3, vs3, rfl, n3, -, h3⟩; have N3 := Lib.hid n3.read; have B3 : Hid (Bl w2 w3) := Lib.hid h3; clear n3 h3)
  clear t0 t1 t2 AY
  have b4 : Bl w3 (w3.alloc (.cells #[.int .i64 0, .int .i64 3, .slice p3 3 c3] 24)) := Bl.alloc (Bl.refl _) _
  have U4 : Hid ((w3.alloc (.cells #[.int .i64 0, .int .i64 3, .slice p3 3 c3] 24)).heap[w3.heap.size]? = some (.cells #[.int .i64 0, .int .i64 3, .slice p3 3 c3] 24 (0, 0))) := Lib.hid (heap_new rfl _ _)
  have N4 := Lib.hid (N3.out.below b4); have B4 : Hid (Bl w2 (w3.alloc (.cells #[.int .i64 0, .int .i64 3, .slice p3 3 c3] 24))) := Lib.hid (B3.out.call b4)
  obtain ⟨ub, hub⟩ : ∃ g, g = w3.heap.size := ⟨_, rfl⟩
  rw [← hub] at U4 ⊢
  clear hub b4 N3 B3
  generalize (w3.alloc (.cells #[.int .i64 0, .int .i64 3, .slice p3 3 c3] 24)) = w4 at U4 N4 B4 ⊢
  have T4 := Lib.hid (heap_later T1.out B4.out); have O4 := Lib.hid (O2.out.below B4.out)
  have i1 : (d : Int) ≤ 1024 := by omega
  have i2 : (0 : Int) ≤ (d : Int) := by omega
  go_upto_region 7 with fail
  have LIT := Lib.hid (bad_lit w4 (d : Int))
  have BB : Hid (Bl w4 ((badW w4 (d : Int)).alloc (.cells (badC w4 (d : Int)).toArray 42))) := Lib.hid (Bl.alloc (Bl.alloc (Bl.alloc (Bl.alloc (Bl.alloc (Bl.refl _) _) _) _) _) _)
  obtain ⟨W5, hW5⟩ : ∃ W, W = (badW w4 (d : Int)).alloc (.cells (badC w4 (d : Int)).toArray 42) := ⟨_, rfl⟩
  rw [← hW5] at LIT BB
  refine Eq.mp (congrArg (Code.wp Try.prog _ _ _) hW5) ?_
  clear hW5
  obtain ⟨q, hq, hm⟩ := mod18 wh
  obtain ⟨z, hz⟩ : ∃ z, (badL (d : Int))[q]? = some z := ⟨_, List.getElem?_eq_getElem (by simp [badL]; omega)⟩
  have NOZ := badP_no d1 d2 (List.mem_of_getElem? hz)
  obtain ⟨sb, so, kp, kc, e, hat, hr⟩ := LIT.out q z hz
  cases e
  have kz : ∀ s ∈ [z], s.kids.length ≤ 140737488355328 := by
    intro s hs
    simp only [List.mem_cons, List.not_mem_nil, or_false] at hs
    subst hs
    have hb := List.mem_of_getElem? hz
    simp only [badL, List.mem_cons, List.not_mem_nil, or_false] at hb
    rcases hb with rfl | rfl | rfl | rfl | rfl | rfl | rfl | rfl | rfl | rfl | rfl | rfl | rfl | rfl | rfl | rfl | rfl | rfl
    all_goals simp
  have HM := Lib.hid hm
  have T5 := Lib.hid (heap_later T4.out BB.out); have U5 := Lib.hid (heap_later U4.out BB.out); have O5 := Lib.hid (O4.out.below BB.out); have N5 := Lib.hid (N4.out.below BB.out)
  obtain ⟨rb, hrb⟩ : ∃ g, g = w4.heap.size + 1 + 1 + 1 + 1 := ⟨_, rfl⟩
  have hat2 : lyS.At W5 rb (0 + q * 6) ⟨z.kd, z.id, z.nd, z.fr, St.to z, kp, z.kids.length, kc⟩ := by rw [hrb]; exact hat
  rw [← hrb]
  clear hat hrb LIT hz
  obtain ⟨kn, hkn⟩ : ∃ kn, z.kids.length = kn := ⟨_, rfl⟩
  have ZR : Hid (∀ (W : World) (k : Nat), Bl W5 W → W.heap.size = k → StepsR (W.alloc (.cells #[.int .i64 z.kd, .int .i64 z.id, .int .i64 z.nd, .int .i64 z.fr, .int .i64 (St.to z), .slice kp kn kc] 42)) (some ⟨k, 0, none⟩) [z]) := Lib.hid (fun W k hW hk => by
    have hC := (obj_cells (heap_new (W := W) hk #[.int .i64 z.kd, .int .i64 z.id, .int .i64 z.nd, .int .i64 z.fr, .int .i64 (St.to z), .slice kp kn kc] 42)).1
    intro i s hi
    match i, hi with
    | 0, hi =>
      cases hi
      refine ⟨_, _, kp, kc, rfl, fun j u hu => ?_, (hr.below hW).below (Bl.alloc (Bl.refl _) _)⟩
      simp only [Nat.zero_mul, Nat.zero_add]
      rw [hkn] at hu
      exact hC j u (by simpa [lyS, Sv.cells, Sv.kv] using hu)
    | i + 1, hi => simp at hi)
  have AD := Lib.hid (fun (W : World) (hW : Bl W5 W) (qa : Option Addr) (cs : Nat) (S : StepsR W qa [z]) => apply_no AP W nA 0 3 p1 3 c1 [z] qa 1 cs 3 rfl rfl (O5.out.below hW) S C1.out (by omega) nA_kids (by omega) kz NOZ)
  rw [Nat.zero_add, hkn] at hat2
  have a0 : ∀ W, Bl W5 W → W.cell? ⟨rb, q * 6, none⟩ = some (.int .i64 z.kd) := fun W hW => hW.cell (hat2 0 _ rfl)
  have a1 : ∀ W, Bl W5 W → W.cell? ⟨rb, q * 6 + 1, none⟩ = some (.int .i64 z.id) := fun W hW => hW.cell (hat2 1 _ rfl)
  have a2 : ∀ W, Bl W5 W → W.cell? ⟨rb, q * 6 + 2, none⟩ = some (.int .i64 z.nd) := fun W hW => hW.cell (hat2 2 _ rfl)
  have a3 : ∀ W, Bl W5 W → W.cell? ⟨rb, q * 6 + 3, none⟩ = some (.int .i64 z.fr) := fun W hW => hW.cell (hat2 3 _ rfl)
  have a4 : ∀ W, Bl W5 W → W.cell? ⟨rb, q * 6 + 4, none⟩ = some (.int .i64 (St.to z)) := fun W hW => hW.cell (hat2 4 _ rfl)
  have a5 : ∀ W, Bl W5 W → W.cell? ⟨rb, q * 6 + 5, none⟩ = some (.slice kp kn kc) := fun W hW => hW.cell (hat2 5 _ rfl)
  have b0 : ∀ W, Bl W5 W → W.cell? ⟨tb, 0, none⟩ = some (.int .i64 0) := fun W hW => hW.cell ((obj_cells T5.out).1 0 _ rfl)
  have b1 : ∀ W, Bl W5 W → W.cell? ⟨tb, 1, none⟩ = some (.int .i64 3) := fun W hW => hW.cell ((obj_cells T5.out).1 1 _ rfl)
  have b2 : ∀ W, Bl W5 W → W.cell? ⟨tb, 2, none⟩ = some (.slice p1 3 c1) := fun W hW => hW.cell ((obj_cells T5.out).1 2 _ rfl)
  have KEEP := Lib.hid (Bl.refl W5)
  clear hat2 hr kz NOZ hkn
  go_cut [11, 12] from 17 (fun v11 v12 wx => ∃ db, v11 = .pointer (some ⟨db, 0, none⟩) ∧ v12 = .int .i64 1500 ∧ wx.heap[db]? = some (.cells #[.int .i64 0, .int .i64 0, .slice none 0 0] 24 (0, 0)) ∧ Bl W5 wx)
  case first =>
    have hm := HM.out
    have wq1 : wrap64 (q : Int) = (q : Int) := by unfold wrap64; omega
    have wq2 : IntKind.i64.wrap (q : Int) = (q : Int) := IntWalk.i64_in _ (by omega)
    have q1 : (0 : Int) ≤ (q : Int) := by omega
    have q2 : (q : Int) < 18 := by omega
    have S0 := Bl.drew (Bl.refl W5)
    have S00 := Bl.refl W5
    have fd1 : ∀ (W : World) (a : Addr), W.drew.frozen? a = W.frozen? a := fun _ _ => rfl
    have fd2 : ∀ (W : World) (a : Addr), W.drew.cell? a = W.cell? a := fun _ _ => rfl
    have fd3 : ∀ (W : World), W.drew.heap.size = W.heap.size := fun _ => rfl
    have l0 : W5.heap.size ≤ W5.heap.size := Nat.le_refl _
    have Z1 := Lib.hid ((ZR.out W5 _ (Bl.refl _) rfl).below (below_drew (Below.refl _ _)))
    have Z2 := Lib.hid (((ZR.out W5 _ (Bl.refl _) rfl).below (Bl.alloc (Bl.refl _) (.cells #[.int .i64 0, .int .i64 0, .slice none 0 0] 24))).below (below_drew (Below.refl _ _)))
    have Z3 := Lib.hid ((ZR.out (W5.alloc (.cells #[.int .i64 0, .int .i64 0, .slice none 0 0] 24)) (W5.heap.size + 1) (Bl.alloc (Bl.refl _) _) (by simp)).below (below_drew (Below.refl _ _)))
    clear B2 B4 ZR T1 T4 U4 O2 O4 N4
    go_region_held3 (fun W => Bl W5 W) ((repeat (first | with_reducible assumption | with_reducible refine Bl.alloc ?_ _ | with_reducible refine Bl.drew ?_ | (with_reducible refine Bl.set ?_ ?h _; case h => omega))))
      (first
        | (go_at_call 9; refine (AD.out _ (by with_reducible assumption) _ _ (by first | with_reducible exact Z1.out | with_reducible exact Z2.out | with_reducible exact Z3.out)).mono ?_; rintro e w8 ⟨rfl, h8⟩
           have S8 : Bl W5 w8 := Bl.call (by with_reducible assumption) h8; have s8 := S8.size
           (try (refine box_elim h8 W5.heap.size ?_ ?_; (focus ((try with_reducible refine drew_heap ?_); first | (with_reducible refine heap_new ?_ _ _; first | with_reducible rfl | with_reducible exact rfl | exact drew_size _ | exact alloc_size _ _ | fail) | (with_reducible refine heap_old ?_ _; first | (with_reducible refine heap_new ?_ _ _; first | with_reducible rfl | with_reducible exact rfl | exact drew_size _ | exact alloc_size _ _ | fail) | fail) | fail)); intro Pg P0 P1 P2 Pf Pl; have EP := Lib.hid Pg; have Pn : ¬ W5.heap.size = w8.heap.size := Nat.ne_of_lt Pl; have Pm : ¬ w8.heap.size = W5.heap.size := Nat.ne_of_gt Pl; clear Pg))
           (try (refine box_elim h8 (W5.heap.size + 1) ?_ ?_; (focus ((try with_reducible refine drew_heap ?_); first | (with_reducible refine heap_new ?_ _ _; first | with_reducible rfl | with_reducible exact rfl | exact drew_size _ | exact alloc_size _ _ | fail) | (with_reducible refine heap_old ?_ _; first | (with_reducible refine heap_new ?_ _ _; first | with_reducible rfl | with_reducible exact rfl | exact drew_size _ | exact alloc_size _ _ | fail) | fail) | fail)); intro Qg Q0 Q1 Q2 Qf Ql; have EQ := Lib.hid Qg; have Qn : ¬ (W5.heap.size + 1) = w8.heap.size := Nat.ne_of_lt Ql; have Qm : ¬ w8.heap.size = (W5.heap.size + 1) := Nat.ne_of_gt Ql; clear Qg))
           clear h8)
        | fail)
    all_goals
      go_wp2_with fail
      go_meet
      first
        | exact ⟨_, rfl, rfl, heap_new rfl _ _, Bl.alloc S8 _⟩
        | (refine ⟨_, rfl, rfl, st3_box EQ.out _ _ _, st3_bl S8 ?_ _ _ _⟩; omega)
        | (refine ⟨_, rfl, rfl, st3_box EP.out _ _ _, st3_bl S8 ?_ _ _ _⟩; omega)
  case rest =>
    obtain ⟨db, rfl, rfl, hdb, hbc⟩ := hcut
    have DB := Lib.hid hdb; have BC := Lib.hid hbc
    have O6 := Lib.hid (O5.out.below hbc); have N6 := Lib.hid (N5.out.below hbc); have T6 := Lib.hid (heap_later T5.out hbc); have U6 := Lib.hid (heap_later U5.out hbc)
    clear a0 a1 a2 a3 a4 a5 b0 b1 b2 AD ZR KEEP hdb hbc HM O5 N5 T5 U5
    have AM := Lib.hid (fun (W : World) (hW : Bl wc W) => apply_no AP W nA 0 3 p1 3 c1 [] none 0 0 ((3 : Int) + (d : Int)) rfl rfl (O6.out.below hW) (stepsR_nil _ _) C1.out (by omega) nA_kids (by omega) (fun s h => by simp at h) (more_no d1 d2))
    have AE := Lib.hid (fun (W : World) => apply_no AP W [] 0 0 none 0 0 [] none 0 0 0 rfl rfl (nodesR_nil _ _) (stepsR_nil _ _) (Nat.le_refl _) (by omega) (fun s h => by simp at h) (by omega) (fun s h => by simp at h) a_none0)
    have SM := Lib.hid (fun (W : World) (hW : Bl wc W) => sameTree_true 0 3 p3 p1 nA 3 c3 c1 rfl W (N6.out.below hW) (O6.out.below hW) (by omega) (fun x hx => Nat.le_trans (nA_kids x hx) (by omega)))
    unfold trV at SM
    clear AP
    have t0 := (obj_cells T6.out).1 0 _ rfl; have t1 := (obj_cells T6.out).1 1 _ rfl; have t2 := (obj_cells T6.out).1 2 _ rfl
    go_upto_region 9 with (go_at_call 9; refine (AM.out _ (Bl.refl _)).mono ?_; rintro e w9 ⟨rfl, h9⟩; have B9 : Hid (Bl wc (w9.alloc (.cells #[.int .i64 0, .int .i64 0, .slice none 0 0] 24))) := Lib.hid (Bl.alloc h9 _); clear h9)
    clear t0 t1 t2 AM
    generalize (w9.alloc (.cells #[.int .i64 0, .int .i64 0, .slice none 0 0] 24)) = w10 at B9 ⊢
    go_upto_region 10 with (go_at_call 9; refine (AE.out _).mono ?_; rintro e w11 ⟨rfl, h11⟩; have B11 : Hid (Bl wc (w11.alloc (.cells #[.int .i64 0, .int .i64 0, .slice none 0 0] 24))) := Lib.hid (Bl.alloc (B9.out.call h11) _); clear h11)
    clear AE B9
    generalize (w11.alloc (.cells #[.int .i64 0, .int .i64 0, .slice none 0 0] 24)) = w12 at B11 ⊢
    have T12 := Lib.hid (heap_later T6.out B11.out); have U12 := Lib.hid (heap_later U6.out B11.out); have D12 := Lib.hid (heap_later DB.out B11.out)
    have t0 := (obj_cells T12.out).1 0 _ rfl; have t1 := (obj_cells T12.out).1 1 _ rfl; have t2 := (obj_cells T12.out).1 2 _ rfl
    have u0 := (obj_cells U12.out).1 0 _ rfl; have u1 := (obj_cells U12.out).1 1 _ rfl; have u2 := (obj_cells U12.out).1 2 _ rfl
    go_wp2_with (first | (go_at_call 11; refine (SM.out _ B11.out).mono ?_; rintro e w13 ⟨rfl, h13⟩; have B13 : Hid (Bl wc w13) := Lib.hid (B11.out.call h13); have e2 := (obj_cells (heap_later D12.out h13)).1 2 _ rfl; clear h13) | (go_at_call 12; refine (num_any _ _).mono ?_; rintro e w14 ⟨rfl, rfl⟩))
    go_ret
    exact ⟨rfl, (((B2.out.call B4.out).call BB.out).call BC.out).call B13.out⟩
end Go.Proofs.Ytdhkjhdbaofdcaa
