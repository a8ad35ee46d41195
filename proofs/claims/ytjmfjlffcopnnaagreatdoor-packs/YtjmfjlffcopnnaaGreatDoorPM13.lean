/-
  MyN, MyT, StA, De1, in one text. Conditions: as each theorem's premises say.
-/
import Derived.Test.YtjmfjlffcopnnaaGreatDoorPM12
import Derived.Test.YtjmfjlffcopnnaaGreatDoorPM05
import Derived.Laws.AppendOwnNone
import Derived.Maps.AppendAt
namespace Go.Proofs.YtjmfjlffcopnnaaGreatDoor
open Go.RowKit

theorem kids_sum {ns : List Nd} {m : Nat} (hkl : ∀ x ∈ ns, x.kids.length ≤ m) : ∀ i, (allKids (ns.take i)).length ≤ i * m
  | 0 => by simp [allKids]
  | i + 1 => by
    rw [List.take_add_one, Nat.succ_mul]
    unfold allKids
    rw [List.flatMap_append, List.length_append]
    have h1 := kids_sum hkl i
    unfold allKids at h1
    cases hx : ns[i]? with
    | none =>
      rw [show (none : Option Nd).toList = [] from rfl, List.flatMap_nil, List.length_nil]
      omega
    | some x =>
      have := hkl x (List.mem_of_getElem? hx)
      rw [show (some x).toList = [x] from rfl, List.flatMap_cons, List.flatMap_nil, List.append_nil]
      omega
theorem kids_take {ns : List Nd} {i : Nat} {x : Nd} (hx : ns[i]? = some x) : allKids (ns.take (i + 1)) = allKids (ns.take i) ++ x.kids := by
  rw [List.take_add_one, hx]
  unfold allKids
  rw [List.flatMap_append]
  simp
theorem roots_take {ns : List Nd} {i : Nat} {x : Nd} (hx : ns[i]? = some x) : (ns.take (i + 1)).countP (fun x => x.kd == 0) = (ns.take i).countP (fun x => x.kd == 0) + (if x.kd = 0 then 1 else 0) := by
  rw [List.take_add_one, hx, List.countP_append]
  congr 1
  by_cases h : x.kd = 0
  · rw [if_pos h]; simp [h]
  · rw [if_neg h]; simp [h]
theorem roots_le (ns : List Nd) (i : Nat) : (ns.take i).countP (fun x => x.kd == 0) ≤ i := Nat.le_trans List.countP_le_length (by rw [List.length_take]; omega)

set_option maxRecDepth 100000 in
set_option maxHeartbeats 4000000 in
theorem treeMay_no (root next size : Int) (p : Option Addr) (ns : List Nd) (N cap : Nat) (hN : ns.length = N) (w : World) (hl : N ≤ 140737488355328) (hbd : ¬ (1 ≤ N ∧ N ≤ 2048 ∧ 0 ≤ next ∧ next ≤ 16777216 ∧ 0 ≤ size ∧ size ≤ 4096)) : Calls Tryz.prog 48 #[trV root next p N cap, .int .i64 size] w (RetBelow (.returned (.bool (mayB ns root next size))) w) := by
  have NO : Hid (mayB ns root next size = false) := Lib.hid (by
    cases h : mayB ns root next size with
    | false => rfl
    | true =>
      unfold mayB at h
      simp only [Bool.and_eq_true, decide_eq_true_eq] at h
      rw [hN] at h
      exact absurd ⟨h.1.1.1.1.1.1.1.1.1.1.1, h.1.1.1.1.1.1.1.1.1.1.2, h.1.1.1.1.1.1.1.1.1.2, h.1.1.1.1.1.1.1.1.2, h.1.1.1.1.1.1.1.2, h.1.1.1.1.1.1.2⟩ hbd)
  have hcase : N < 1 ∨ (1 ≤ N ∧ 2048 < N) ∨ (1 ≤ N ∧ N ≤ 2048 ∧ next < 0) ∨ (1 ≤ N ∧ N ≤ 2048 ∧ 0 ≤ next ∧ 16777216 < next) ∨ (1 ≤ N ∧ N ≤ 2048 ∧ 0 ≤ next ∧ next ≤ 16777216 ∧ size < 0) ∨ (1 ≤ N ∧ N ≤ 2048 ∧ 0 ≤ next ∧ next ≤ 16777216 ∧ 0 ≤ size ∧ 4096 < size) := by omega
  clear hbd hN
  unfold trV
  rcases hcase with hc | hc | hc | hc | hc | hc
  all_goals
    go_enter Tryz.func48, Tryz.ntmps48
    go_wp2_with fail
    go_ret
    exact ⟨retB (by rw [NO.out]), (Below.refl _ _).alloc (Nat.le_refl _) _⟩

end Go.Proofs.YtjmfjlffcopnnaaGreatDoor

namespace Go.Proofs.YtjmfjlffcopnnaaGreatDoor
open Go.RowKit

set_option maxRecDepth 1000000 in
set_option maxHeartbeats 8000000 in
theorem treeMay_yes (root next size : Int) (p : Option Addr) (ns : List Nd) (N cap : Nat) (hN : ns.length = N) (w : World) (h : NodesR w p ns) (hkl : ∀ x ∈ ns, x.kids.length ≤ 140737488355328) (g1 : 1 ≤ N) (g2 : N ≤ 2048) (g3 : 0 ≤ next) (g4 : next ≤ 16777216) (g5 : 0 ≤ size) (g6 : size ≤ 4096) : Calls Tryz.prog 48 #[trV root next p N cap, .int .i64 size] w (RetBelow (.returned (.bool (mayB ns root next size))) w) := by
  obtain ⟨i0, hi, hz0, hz1, hz2⟩ := info_parts info3
  have R := Lib.hid h; have HN := Lib.hid hN; have KL := Lib.hid hkl
  clear h hkl
  have FIN := Lib.hid (fun (ha : OkA ns root next size) h1 hr => ha.last h1 (by rw [hN]; exact g1) (by rw [hN]; exact g2) g3 g4 g5 g6 hr)
  have FA := Lib.hid (fun (W : World) (hW : Below w.heap.size w W) (c : Int) => find_any root next p ns N cap hN c W (R.out.below hW) (by omega))
  unfold trV at FA ⊢
  clear hN
  go_enter Tryz.func48, Tryz.ntmps48
  go_wp2_with (first | (at_make; refine wpList_make_full _ rfl _ _ 49 rfl (w.heap.size + 1) 3 i0 (.int .i64 0) 1 Tryz.underlying49 hi hz0 hz1 .i64 .i64 _ _ N rfl rfl rfl rfl (by rw [hz2]; omega) (by unfold maxLen; omega) (by simp) ?_; intro w2 hown2 hgrow2; have OC := Lib.hid hown2; have B2 := Lib.hid hgrow2; clear hown2 hgrow2))
  have START : Hid (MO w w2 ns root next p N cap (allKids (ns.take 0))) := Lib.hid (by
    have hb : Below (w.heap.size + 1) (w.alloc (.cells #[.int .i64 root, .int .i64 next, .slice p N cap] 26)) w2 := below_grownN B2.out (fun g hg => by simp at hg) (by simp)
    refine ⟨?_, ?_, ?_⟩
    · have h := OC.out
      rw [Nat.mul_one, show (Value.int .i64 0).cells = #[.int .i64 0] from rfl, toList_madeCells_one] at h
      unfold Ly.Own
      rw [prL_len, HN.out, show allKids (ns.take 0) = [] from rfl, prL_zero, HN.out]
      have e : lyI.all (List.replicate N 0) = List.replicate N (.int .i64 0) := by
        unfold Ly.all
        rw [List.flatMap_replicate]
        exact List.flatten_replicate_singleton
      rw [e]
      rw [show (w.alloc (.cells #[.int .i64 root, .int .i64 next, .slice p N cap] 26)).heap.size = w.heap.size + 1 by simp] at h
      exact h
    · exact (hb.block w.heap.size (Nat.lt_succ_self _)).trans (heap_alloc_new w _)
    · exact ((Below.refl w.heap.size w).alloc (Nat.le_refl _) _).trans (hb.mono (Nat.le_succ _)))
  clear OC B2 hi hz0 hz1 hz2
  go_loopw [6, 8] (fun s v wr => ∃ i : Nat, i ≤ N ∧ v = .int .i64 i ∧ s = .int .i64 ((ns.take i).countP (fun x => x.kd == 0) : Nat) ∧ Hid (OkI ns root next size i) ∧ Hid (MO w wr ns root next p N cap (allKids (ns.take i)))) (fun _ v _ => N - (intOf v).toNat)
  case atStart => exact ⟨0, by omega, rfl, rfl, Lib.hid (OkI.zero ..), START⟩
  case round =>
    clear START
    obtain ⟨i, hin, rfl, rfl, OK, M⟩ := hrel
    by_cases hlt : i < N
    · obtain ⟨x, hx⟩ : ∃ x, ns[i]? = some x := ⟨_, List.getElem?_eq_getElem (by rw [HN.out]; exact hlt)⟩
      obtain ⟨b, o, kp, kc, rfl, hat, hrow⟩ := R.out i x hx
      have MB := M.out.below
      have n0 : wr.cell? ⟨b, o + i * 5, none⟩ = some (.int .i64 x.id) := cell_later MB (hat 0 _ rfl)
      have n1 : wr.cell? ⟨b, o + i * 5 + 1, none⟩ = some (.int .i64 x.kd) := cell_later MB (hat 1 _ rfl)
      have n2 : wr.cell? ⟨b, o + i * 5 + 2, none⟩ = some (.int .i64 x.fr) := cell_later MB (hat 2 _ rfl)
      have n3 : wr.cell? ⟨b, o + i * 5 + 3, none⟩ = some (.int .i64 (Nd.to x)) := cell_later MB (hat 3 _ rfl)
      have n4 : wr.cell? ⟨b, o + i * 5 + 4, none⟩ = some (.slice kp x.kids.length kc) := cell_later MB (hat 4 _ rfl)
      have PD : Hid (∀ j : Nat, i = j + 1 → wr.cell? ⟨b, o + j * 5, none⟩ = some (.int .i64 (pidOf ns i))) := Lib.hid (fun j hj => by
        subst hj
        obtain ⟨y, hy⟩ : ∃ y, ns[j]? = some y := ⟨_, List.getElem?_eq_getElem (by rw [HN.out]; omega)⟩
        obtain ⟨b', o', kp', kc', e, hat', -⟩ := R.out j y hy
        cases e
        have := cell_later MB (show w.cell? ⟨b, o + j * 5, none⟩ = some (.int .i64 y.id) from hat' 0 _ rfl)
        unfold pidOf
        rw [show j + 1 - 1 = j from rfl, hy]
        exact this)
      have x0 := (obj_cells M.out.box).1 0 _ rfl
      have x1 := (obj_cells M.out.box).1 1 _ rfl
      have x2 := (obj_cells M.out.box).1 2 _ rfl
      have hi0 : (0 : Int) ≤ (i : Int) := by omega
      have hi1 : (i : Int) < (N : Int) := by omega
      have hkn := KL.out x (List.mem_of_getElem? hx)
      have LL : Hid ((allKids (ns.take i)).length + x.kids.length ≤ 1000000000000000000) := Lib.hid (by have := kids_sum KL.out i; have : i * 140737488355328 ≤ 2048 * 140737488355328 := Nat.mul_le_mul_right _ (by omega); omega)
      have ROW := Lib.hid hrow; have HX := Lib.hid hx
      clear MB hat hrow hx
      go_upto_region 10 with fail
      have MX1 : Hid (MX w (wr.alloc (.cells #[.int .i64 x.id, .int .i64 x.kd, .int .i64 x.fr, .int .i64 (Nd.to x), .slice kp x.kids.length kc] 109)) ns root next (some ⟨b, o, none⟩) N cap (allKids (ns.take i)) wr.heap.size x kp kc) := Lib.hid ⟨M.out.later ((Below.refl _ _).alloc (Nat.le_refl _) _), heap_alloc_new wr _⟩
      have PD2 : Hid (∀ j : Nat, i = j + 1 → (wr.alloc (.cells #[.int .i64 x.id, .int .i64 x.kd, .int .i64 x.fr, .int .i64 (Nd.to x), .slice kp x.kids.length kc] 109)).cell? ⟨b, o + j * 5, none⟩ = some (.int .i64 (pidOf ns i))) := Lib.hid (fun j hj => cell_later ((Below.refl _ _).alloc (Nat.le_refl _) _) (PD.out j hj))
      clear n0 n1 n2 n3 n4 x0 x1 x2 PD M
      generalize wr.alloc (.cells #[.int .i64 x.id, .int .i64 x.kd, .int .i64 x.fr, .int .i64 (Nd.to x), .slice kp x.kids.length kc] 109) = w3 at MX1 PD2 ⊢
      generalize wr.heap.size = xb at MX1 ⊢
      have z0 := (obj_cells MX1.out.xbx).1 0 _ rfl
      have z1 := (obj_cells MX1.out.xbx).1 1 _ rfl
      have z2 := (obj_cells MX1.out.xbx).1 2 _ rfl
      have z3 := (obj_cells MX1.out.xbx).1 3 _ rfl
      have z4 := (obj_cells MX1.out.xbx).1 4 _ rfl
      have t0 := (obj_cells MX1.out.mo.box).1 0 _ rfl
      have t1 := (obj_cells MX1.out.mo.box).1 1 _ rfl
      have t2 := (obj_cells MX1.out.mo.box).1 2 _ rfl
      refine may10_any next size i xb w.heap.size b o N cap (pidOf ns i) x.id x.kd x.fr (Nd.to x) kp x.kids.length kc w3 _ _ _ _ _ _ _ _ _ _ _ _ _ _ _ _ _ _ _ _ _ _ _ _ _ _ _ _ _ _ _ _ _ _ _ _ _ _ _ _ _ _ _ _ _ _ _ _ _ _ _ _ _ _ _ _ _ _ _ _ _ _ _ _ _ _ _ _ _ _ _ _ _ _ _ _ _ _ _ _ _ _ _ _ _ _ _ _ _ _ _ _ _ _ _ _ _ _ _ _ _ _ _ _ _ _ _ _ _ _ _ _ _ _ _ _ _ _ _ _ _ _ _ _ _ _ _ _ _ _ _ _ _ _ _ _ _ _ _ _ _ _ _ _ _ _ _ _ _ _ _ _ _ _ _ _ _ _ _ _ _ _ _ _ _ _ _ _ _ _ _ _ _ _ _ _ _ _ _ _ _ _ _ _ _ _ _ _ _ _ _ _ _ _ _ _ _ _ _ _ _ _ _ _ _ _ _ _ _ _ _ _ _ _ _ _ _ _ _ _ _ _ _ _ _ _ _ _ _ z0 z1 z2 z3 z4 t1 t2 hlt (by omega) PD2 (Lib.hid ?_)
      intro nq B hB
      intros
      have MX2 := Lib.hid (MX1.out.later (dr_below w3 nq))
      clear z0 z1 z2 z3 z4 t0 t1 t2 MX1 PD2
      generalize w3.drewN nq = w4 at MX2 ⊢
      have DB := Lib.hid MX2.out.mo.below
      cases B with
      | true =>
        have NO := Lib.hid (bad_no (root := root) HX.out hB.symm)
        clear hB MX2
        go_wp2_with fail
        go_ret
        exact ⟨retB (by rw [NO.out]), DB.out⟩
      | false =>
        have BB := Lib.hid hB.symm
        clear hB
        have z0 := (obj_cells MX2.out.xbx).1 0 _ rfl
        have z1 := (obj_cells MX2.out.xbx).1 1 _ rfl
        have z2 := (obj_cells MX2.out.xbx).1 2 _ rfl
        have z3 := (obj_cells MX2.out.xbx).1 3 _ rfl
        have t0 := (obj_cells MX2.out.mo.box).1 0 _ rfl
        have RL := Lib.hid (roots_le ns i)
        have RT := Lib.hid (roots_take HX.out)
        by_cases h0 : x.kd = 0
        · have q0 : (x.kd == 0) = true := by rw [h0]; rfl
          rw [if_pos h0] at RT
          have H0 := Lib.hid h0
          clear h0
          generalize (ns.take i).countP (fun x => x.kd == 0) = cn at RL RT ⊢
          have hcn := RL.out
          by_cases h1 : x.id = root
          · have q1 : (x.id == root) = true := by rw [h1]; simp
            by_cases h2 : x.fr = 0
            · have q2 : (x.fr == 0) = true := by rw [h2]; rfl
              by_cases h3 : Nd.to x = size
              · have q3 : (Nd.to x == size) = true := by rw [h3]; simp
                have RR : Hid (x.kd = 0 → x.id = root ∧ x.fr = 0 ∧ Nd.to x = size) := Lib.hid (fun _ => ⟨h1, h2, h3⟩)
                have LQ : Hid ((0 : Int) = x.fr) := Lib.hid h2.symm
                clear h1 h2 h3
                go_upto_block 2 with fail
                refine mayK_any ns root next (some ⟨b, o, none⟩) N cap xb x kp kc (allKids (ns.take i)) _ w w4 _ _ _ _ _ _ _ _ _ _ _ _ _ _ _ _ _ _ _ _ _ _ _ _ _ _ _ _ _ _ _ _ _ _ _ _ _ _ _ _ _ _ _ _ _ _ _ _ _ _ _ _ _ _ _ _ _ _ _ _ _ _ _ _ _ _ _ _ _ _ _ _ _ _ _ _ _ _ _ _ _ _ _ _ _ _ _ _ _ _ _ _ _ _ _ _ _ _ _ _ _ _ _ _ _ _ _ _ _ _ _ _ _ _ _ _ _ _ _ _ _ _ _ _ _ _ _ _ _ _ _ _ _ _ _ _ _ _ _ _ _ _ _ _ _ _ _ _ _ _ _ _ _ _ _ _ _ _ _ _ _ _ _ _ _ _ _ _ _ _ _ _ _ _ _ _ _ _ _ _ _ _ _ _ _ _ _ _ _ _ _ _ _ _ _ _ _ _ _ _ _ _ _ _ _ _ _ _ _ _ _ _ _ _ _ _ _ _ _ _ _ _ _ _ _ _ _ _ HN (by omega) R MX2 ROW hkn LQ LL (Lib.hid ?_) (Lib.hid ?_)
                · intro w5 hk hm
                  intros
                  have OK2 := Lib.hid (OK.out.next HX.out BB.out RR.out hk)
                  have M5 : Hid (MO w w5 ns root next (some ⟨b, o, none⟩) N cap (allKids (ns.take (i + 1)))) := Lib.hid (by rw [kids_take HX.out]; exact hm)
                  clear hk hm MX2 z0 z1 z2 z3 t0
                  go_wp2_with fail
                  go_roundw
                  case rel => exact ⟨i + 1, by omega, by go_num, by rw [RT.out]; go_num, OK2, M5⟩
                  case measure => simp [intOf]; omega
                · intro w5 hk
                  intros
                  rename_i hbw
                  have NO := Lib.hid (kids_no (root := root) (next := next) (size := size) HX.out hk)
                  clear hk MX2 z0 z1 z2 z3 t0
                  go_wp2_with fail
                  go_ret
                  exact ⟨retB (by rw [NO.out]), hbw⟩
                all_goals first | exact absurd (RR.out H0.out).2.2 (by assumption) | exact absurd (RR.out H0.out).2.1 (by assumption) | exact absurd (RR.out H0.out).1 (by assumption)
              · have q3 : (Nd.to x == size) = false := beq_eq_false_iff_ne.2 h3
                have NO := Lib.hid (root_no (root := root) (next := next) (size := size) HX.out H0.out (fun h => h3 h.2.2))
                clear h1 h2 h3
                go_wp2_with fail
                all_goals go_ret
                all_goals exact ⟨retB (by rw [NO.out]), DB.out⟩
            · have q2 : (x.fr == 0) = false := beq_eq_false_iff_ne.2 h2
              have NO := Lib.hid (root_no (root := root) (next := next) (size := size) HX.out H0.out (fun h => h2 h.2.1))
              clear h1 h2
              go_wp2_with fail
              all_goals go_ret
              all_goals exact ⟨retB (by rw [NO.out]), DB.out⟩
          · have q1 : (x.id == root) = false := beq_eq_false_iff_ne.2 h1
            have NO := Lib.hid (root_no (root := root) (next := next) (size := size) HX.out H0.out (fun h => h1 h.1))
            clear h1
            go_wp2_with fail
            all_goals go_ret
            all_goals exact ⟨retB (by rw [NO.out]), DB.out⟩
        · have q0 : (x.kd == 0) = false := beq_eq_false_iff_ne.2 h0
          rw [if_neg h0] at RT
          have RR : Hid (x.kd = 0 → x.id = root ∧ x.fr = 0 ∧ Nd.to x = size) := Lib.hid (fun h => absurd h h0)
          clear h0
          generalize (ns.take i).countP (fun x => x.kd == 0) = cn at RL RT ⊢
          have hcn := RL.out
          have LQ : Hid (x.fr = x.fr) := Lib.hid rfl
          go_upto_block 2 with fail
          refine mayK_any ns root next (some ⟨b, o, none⟩) N cap xb x kp kc (allKids (ns.take i)) _ w w4 _ _ _ _ _ _ _ _ _ _ _ _ _ _ _ _ _ _ _ _ _ _ _ _ _ _ _ _ _ _ _ _ _ _ _ _ _ _ _ _ _ _ _ _ _ _ _ _ _ _ _ _ _ _ _ _ _ _ _ _ _ _ _ _ _ _ _ _ _ _ _ _ _ _ _ _ _ _ _ _ _ _ _ _ _ _ _ _ _ _ _ _ _ _ _ _ _ _ _ _ _ _ _ _ _ _ _ _ _ _ _ _ _ _ _ _ _ _ _ _ _ _ _ _ _ _ _ _ _ _ _ _ _ _ _ _ _ _ _ _ _ _ _ _ _ _ _ _ _ _ _ _ _ _ _ _ _ _ _ _ _ _ _ _ _ _ _ _ _ _ _ _ _ _ _ _ _ _ _ _ _ _ _ _ _ _ _ _ _ _ _ _ _ _ _ _ _ _ _ _ _ _ _ _ _ _ _ _ _ _ _ _ _ _ _ _ _ _ _ _ _ _ _ _ _ _ _ _ HN (by omega) R MX2 ROW hkn LQ LL (Lib.hid ?_) (Lib.hid ?_)
          · intro w5 hk hm
            intros
            have OK2 := Lib.hid (OK.out.next HX.out BB.out RR.out hk)
            have M5 : Hid (MO w w5 ns root next (some ⟨b, o, none⟩) N cap (allKids (ns.take (i + 1)))) := Lib.hid (by rw [kids_take HX.out]; exact hm)
            clear hk hm MX2 z0 z1 z2 z3 t0
            go_wp2_with fail
            go_roundw
            case rel => exact ⟨i + 1, by omega, by go_num, by rw [RT.out]; go_num, OK2, M5⟩
            case measure => simp [intOf]; omega
          · intro w5 hk
            intros
            rename_i hbw
            have NO := Lib.hid (kids_no (root := root) (next := next) (size := size) HX.out hk)
            clear hk MX2 z0 z1 z2 z3 t0
            go_wp2_with fail
            go_ret
            exact ⟨retB (by rw [NO.out]), hbw⟩
    · obtain ⟨w1, e1⟩ : ∃ w1, w1 = wr := ⟨_, rfl⟩
      subst e1
      have OA := Lib.hid (OK.out.all (by rw [HN.out]; omega))
      have TN : ns.take i = ns := List.take_of_length_le (by rw [HN.out]; omega)
      rw [TN] at M ⊢
      obtain ⟨cr, hcr⟩ : ∃ cr, ns.countP (fun x => x.kd == 0) = cr := ⟨_, rfl⟩
      have hcl : cr ≤ 2048 := by
        rw [← hcr]
        refine Nat.le_trans List.countP_le_length ?_
        rw [HN.out]; omega
      rw [hcr]
      have CR := Lib.hid hcr
      clear OK TN hcr
      go_wp2_with fail
      go_loopw [13] (fun v wr => ∃ q : Nat, q ≤ N ∧ v = .int .i64 q ∧ wr = w1 ∧ Hid (∀ (k : Nat) x, k < q → ns[k]? = some x → x.kd = 0 ∨ (allKids ns).count x.id = 1)) (fun v _ => N - (intOf v).toNat)
      case atStart => exact ⟨0, by omega, rfl, rfl, Lib.hid (fun k x h => by omega)⟩
      case round =>
        clear hlt hin
        obtain ⟨q, hq, rfl, rfl, CN⟩ := hrel
        have t0 := (obj_cells M.out.box).1 0 _ rfl
        have t1 := (obj_cells M.out.box).1 1 _ rfl
        have t2 := (obj_cells M.out.box).1 2 _ rfl
        have DB := Lib.hid M.out.below
        by_cases hq2 : q < N
        · obtain ⟨x, hx⟩ : ∃ x, ns[q]? = some x := ⟨_, List.getElem?_eq_getElem (by rw [HN.out]; exact hq2)⟩
          obtain ⟨b, o, kp, kc, rfl, hat, -⟩ := R.out q x hx
          have n1 := cell_later M.out.below (show w.cell? ⟨b, o + q * 5 + 1, none⟩ = some (.int .i64 x.kd) from hat 1 _ rfl)
          obtain ⟨p1, -⟩ := M.out.par (q := q) (by rw [HN.out]; exact hq2)
          rw [prL_count OA.out.rise hx (allKids ns)] at p1
          obtain ⟨cn, hcn⟩ : ∃ cn, (allKids ns).count x.id = cn := ⟨_, rfl⟩
          rw [hcn] at p1
          have hi0 : (0 : Int) ≤ (q : Int) := by omega
          have hi1 : (q : Int) < (N : Int) := by omega
          have CN2 : x.kd = 0 ∨ cn = 1 → Hid (∀ (k : Nat) x, k < q + 1 → ns[k]? = some x → x.kd = 0 ∨ (allKids ns).count x.id = 1) := fun h => Lib.hid (fun k z hk hz => by
            by_cases e : k < q
            · exact CN.out k z e hz
            · obtain rfl : k = q := by omega
              rw [hx] at hz
              cases hz
              rw [hcn]; exact h)
          have CNO : ¬ x.kd = 0 → ¬ cn = 1 → Hid (mayB ns root next size = false) := fun a b => Lib.hid (count_no hx a (by rw [hcn]; exact b))
          clear hat hx hcn
          by_cases h0 : x.kd = 0
          · have C2 := CN2 (.inl h0)
            rw [h0] at n1
            clear h0 CN2 CNO CN
            go_wp2_with fail
            go_roundw
            case rel => exact ⟨q + 1, by omega, by go_num, trivial, C2⟩
            case measure => simp [intOf]; omega
          · by_cases hc : cn = 1
            · have C2 := CN2 (.inr hc)
              subst hc
              clear CN2 CNO CN
              go_wp2_with fail
              go_roundw
              case rel => exact ⟨q + 1, by omega, by go_num, trivial, C2⟩
              case measure => simp [intOf]; omega
            · have NO := CNO h0 hc
              have q1 : ((cn : Int) == 1) = false := beq_eq_false_iff_ne.2 (by omega)
              have q2 : ¬ ((cn : Int) = 1) := by omega
              have q3 : ((cn : Int) != 1) = true := bne_iff_ne.2 q2
              have q4 : (x.kd != 0) = true := bne_iff_ne.2 h0
              clear CN2 CNO CN
              go_wp2_with fail
              go_ret
              exact ⟨retB (by rw [NO.out]), DB.out⟩
        · have C1 : Hid (∀ (k : Nat) x, ns[k]? = some x → x.kd = 0 ∨ (allKids ns).count x.id = 1) := Lib.hid (fun k z hz => CN.out k z (by have := (List.getElem?_eq_some_iff.1 hz).1; have := HN.out; omega) hz)
          clear CN
          by_cases hr : cr = 1
          · subst hr
            obtain ⟨k, y, hy, hyi, hyf, hyg⟩ := OA.out.root CR.out
            have FE := Lib.hid (FIN.out OA.out C1.out CR.out)
            have FC := Lib.hid (fun (X : Ext wr) => FA.out X.w (DB.out.trans (X.below.mono DB.out.size)) root)
            rw [hyf] at FC
            have RC := Lib.hid (fun (X : Ext wr) => reach_any root next p ns N cap HN.out (by omega) (fun k z hz => OA.out.found z (List.mem_of_getElem? hz)) (fun k z hz => Nat.le_trans (kids_len OA.out.found (OA.out.once C1.out) (List.mem_of_getElem? hz)) (by rw [HN.out]; omega)) (fun f id hf => OA.out.bound C1.out (by rw [HN.out]; omega) f id (by rw [HN.out]; exact hf)) (N + 1) 0 (by omega) X.w k y (R.out.below (DB.out.trans (X.below.mono DB.out.size))) hy hyg)
            rw [hyi] at RC
            rw [HN.out] at FE
            unfold trV at RC
            have hbr : reachN ns (N + 1) root ≤ 1000000000 := OA.out.bound C1.out (by rw [HN.out]; omega) _ _ (by rw [HN.out]; omega)
            generalize reachN ns (N + 1) root = rc at FE RC hbr
            clear hy hyi hyf hyg
            have y0 : ∀ X : Ext wr, X.w.cell? ⟨w.heap.size, 0, none⟩ = some (.int .i64 root) := fun X => X.cell t0
            have y1 : ∀ X : Ext wr, X.w.cell? ⟨w.heap.size, 1, none⟩ = some (.int .i64 next) := fun X => X.cell t1
            have y2 : ∀ X : Ext wr, X.w.cell? ⟨w.heap.size, 2, none⟩ = some (.slice p N cap) := fun X => X.cell t2
            go_wp2_with fail
            refine wp_region_ext (by kernel_rfl) (by kernel_rfl) ?_
            repeat (go_big_quiet_step (first | (go_at_call 99; exact Ext.calls (FC.out _)) | (go_at_call 100; exact Ext.calls (RC.out _)) | fail))
            refine wpQuiet_nil ?_
            rintro _ ⟨X, rfl⟩
            clear y0 y1 y2 t0 t1 t2
            go_wp2_with fail
            go_ret
            exact ⟨retB (by rw [FE.out, Bool.eq_iff_iff]; simp only [beq_iff_eq]; omega), DB.out.trans (X.below.mono DB.out.size)⟩
          · have NO := Lib.hid (roots_no (ns := ns) (root := root) (next := next) (size := size) (by rw [CR.out]; exact hr))
            have q1 : ((cr : Int) == 1) = false := beq_eq_false_iff_ne.2 (by omega)
            have q2 : ¬ ((cr : Int) = 1) := by omega
            clear hr
            go_wp2_with fail
            refine wp_region_quiet_lit (by kernel_rfl) (by kernel_rfl) ?_
            repeat (go_big_quiet_step (fail))
            refine wpQuiet_nil ?_
            rintro _ ⟨nq, rfl⟩
            go_wp2_with fail
            go_ret
            exact ⟨retB (by rw [NO.out]), DB.out.trans ((dr_below _ nq).mono DB.out.size)⟩

theorem treeMay_any (root next size : Int) (p : Option Addr) (ns : List Nd) (N cap : Nat) (hN : ns.length = N) (w : World) (h : NodesR w p ns) (hl : N ≤ 140737488355328) (hkl : ∀ x ∈ ns, x.kids.length ≤ 140737488355328) : Calls Tryz.prog 48 #[trV root next p N cap, .int .i64 size] w (RetBelow (.returned (.bool (mayB ns root next size))) w) := by
  by_cases hbd : 1 ≤ N ∧ N ≤ 2048 ∧ 0 ≤ next ∧ next ≤ 16777216 ∧ 0 ≤ size ∧ size ≤ 4096
  · obtain ⟨g1, g2, g3, g4, g5, g6⟩ := hbd
    exact treeMay_yes root next size p ns N cap hN w h hkl g1 g2 g3 g4 g5 g6
  · exact treeMay_no root next size p ns N cap hN w hl hbd

end Go.Proofs.YtjmfjlffcopnnaaGreatDoor

namespace Go.Proofs.YtjmfjlffcopnnaaGreatDoor
open Go.RowKit

theorem own_form {w : World} {base : Nat} {e : TypeId} {size : Nat} {v : Value} {n : Nat} {xs : List Value} (h : w.ownsRow base e size v n xs) : ∃ p cap, v = .slice p n cap := by
  rcases h.2 with ⟨h, hn⟩ | ⟨g, cap, _, h, _⟩
  · rw [hn]; exact ⟨_, _, h⟩
  · exact ⟨_, _, h⟩
theorem run_append_none {P : Program} {w : World} (base : Nat) (t ty e : TypeId) (i : TypeInfo) (size : Nat) (ht : P.underlying t = some (.slice e)) (hi : P.info? e = some i) (c : Nat)
    (v : Value) (n : Nat) (xs : List Value) (hown : w.ownsRow base e size v n xs) : (Builtin.append_ #[t, t] ty #[v, .slice none 0 c]).run P w = .ok v w := by
  rcases hown.2 with ⟨rfl, rfl⟩ | ⟨g, cap, cur, rfl, _, _, hnc, _⟩
  · simp [Builtin.append_, run_underlying ht, sizeOf, typeInfo, hi, Builtin.lenOf, Builtin.firstCells]
  · simp [Builtin.append_, run_underlying ht, sizeOf, typeInfo, hi, Builtin.lenOf, Builtin.firstCells, hnc, storeCells]
theorem run_append_all {P : Program} (w : World) (t ty : TypeId) (base : Nat) (e : TypeId) (i : TypeInfo) (z : Value) (size bytes : Nat) (ht : P.underlying t = some (.slice e)) (hi : P.info? e = some i) (hz : i.zero = some z)
    (hsize : i.size = size) (hby : i.bytes = bytes) (hzs : z.cells.size = size) (hsz : 0 < size)
    (v : Value) (n : Nat) (xs : List Value) (hown : w.ownsRow base e size v n xs)
    (q : Option Addr) (m c : Nat) (news : List Value) (hl : news.length = m * size) (hq : q = none → m = 0) (hnews : ∀ ad, q = some ad → ∀ j u, news[j]? = some u → w.cell? (ad.add j) = some u) (h1 : ∀ u ∈ news, u.oneCell' = true)
    (h63 : n + m ≤ maxLen) (hbytes : (n + m) * bytes ≤ 140737488355328) (hbase : base ≤ w.heap.size) (N : Nat) (hN : n + m = N) :
    ∃ p cap w', (Builtin.append_ #[t, t] ty #[v, .slice q m c]).run P w = .ok (.slice p N cap) w' ∧ w'.ownsRow base e size (.slice p N cap) N (xs ++ news) ∧ w.grownBy w' v.ownBlock ∧ ((Value.slice p N cap).ownBlock = v.ownBlock ∨ (Value.slice p N cap).ownBlock = some w.heap.size) := by
  subst hN
  cases q with
  | none =>
    obtain rfl := hq rfl
    have e0 : news = [] := List.eq_nil_of_length_eq_zero (by rw [hl, Nat.zero_mul])
    subst e0
    obtain ⟨p, cap, rfl⟩ := own_form hown
    exact ⟨p, cap, w, run_append_none base t ty e i size ht hi c _ n xs hown, by rw [List.append_nil]; exact hown, grown_refl _ _, .inl rfl⟩
  | some ad =>
    obtain ⟨v', w', hr, h2, h3, _, h5⟩ := run_append_own_at (P := P) w base t ty e i z size bytes ht hi hz hsize hby hzs hsz v n xs hown ad m c news hl (hnews ad rfl) h1 h63 hbytes hbase
    obtain ⟨p, cap, rfl⟩ := own_form h2
    exact ⟨p, cap, w', hr, h2, h3, h5⟩
theorem wp_append_all {P : Program} (w : World) {o : Oper} {a : Act} {K : Act → World → Prop} {Q : Exit → Act → World → Prop} (s x : Operand) (t : TypeId)
    (ho : o.op = .call { callee := .builtin .append, args := #[s, x], argTypes := #[t, t] })
    (base : Nat) (e : TypeId) (i : TypeInfo) (z : Value) (size bytes : Nat) (ht : P.underlying t = some (.slice e)) (hi : P.info? e = some i) (hz : i.zero = some z)
    (hsize : i.size = size) (hby : i.bytes = bytes) (hzs : z.cells.size = size) (hsz : 0 < size)
    (v : Value) (n : Nat) (xs : List Value) (hs : a.eval s = v) (hown : w.ownsRow base e size v n xs)
    (q : Option Addr) (m c : Nat) (news : List Value) (hx : a.eval x = .slice q m c) (hl : news.length = m * size) (hq : q = none → m = 0) (hnews : ∀ ad, q = some ad → ∀ j u, news[j]? = some u → w.cell? (ad.add j) = some u) (h1 : ∀ u ∈ news, u.oneCell' = true)
    (h63 : n + m ≤ maxLen) (hbytes : (n + m) * bytes ≤ 140737488355328) (hbase : base ≤ w.heap.size) (N : Nat) (hN : n + m = N)
    (h : ∀ p cap w', w'.ownsRow base e size (.slice p N cap) N (xs ++ news) → w.grownBy w' v.ownBlock → ((Value.slice p N cap).ownBlock = v.ownBlock ∨ (Value.slice p N cap).ownBlock = some w.heap.size) → K (a.put o.dst (.slice p N cap)) w') : o.wp P a w K Q := by
  obtain ⟨p, cap, w', hr, h2, h3, h4⟩ := run_append_all (P := P) w t o.type base e i z size bytes ht hi hz hsize hby hzs hsz v n xs hown q m c news hl hq hnews h1 h63 hbytes hbase N hN
  unfold Oper.wp execOp
  simp only [ho, resolve, invoke, builtin, Sem.run_bind, Sem.run_pure, Result.andThen_ok, List.map_toArray, List.map_cons, List.map_nil, hs, hx, hr]
  exact h p cap w' h2 h3 h4
/-- At the list of a plain region's operations. -/
theorem wpList_append_all {P : Program} (w : World) {ops : Array Oper} {rest : List Oper} {o : Oper} {a : Act} {Q : Exit → Act → World → Prop} (hgd : o.guard = none) (s x : Operand) (t : TypeId)
    (ho : o.op = .call { callee := .builtin .append, args := #[s, x], argTypes := #[t, t] })
    (base : Nat) (e : TypeId) (i : TypeInfo) (z : Value) (size bytes : Nat) (ht : P.underlying t = some (.slice e)) (hi : P.info? e = some i) (hz : i.zero = some z)
    (hsize : i.size = size) (hby : i.bytes = bytes) (hzs : z.cells.size = size) (hsz : 0 < size)
    (v : Value) (n : Nat) (xs : List Value) (hs : a.eval s = v) (hown : w.ownsRow base e size v n xs)
    (q : Option Addr) (m c : Nat) (news : List Value) (hx : a.eval x = .slice q m c) (hl : news.length = m * size) (hq : q = none → m = 0) (hnews : ∀ ad, q = some ad → ∀ j u, news[j]? = some u → w.cell? (ad.add j) = some u) (h1 : ∀ u ∈ news, u.oneCell' = true)
    (h63 : n + m ≤ maxLen) (hbytes : (n + m) * bytes ≤ 140737488355328) (hbase : base ≤ w.heap.size) (N : Nat) (hN : n + m = N)
    (h : ∀ p cap w', w'.ownsRow base e size (.slice p N cap) N (xs ++ news) → w.grownBy w' v.ownBlock → ((Value.slice p N cap).ownBlock = v.ownBlock ∨ (Value.slice p N cap).ownBlock = some w.heap.size) → wpList P ops Q rest (a.put o.dst (.slice p N cap)) w') :
    wpList P ops Q (o :: rest) a w :=
  wpList_plain hgd fun _ hK => wp_append_all w s x t ho base e i z size bytes ht hi hz hsize hby hzs hsz v n xs hs hown q m c news hx hl hq hnews h1 h63 hbytes hbase N hN fun p cap w' h2 h3 h4 => hK _ _ (h p cap w' h2 h3 h4)
/-- At a step of a region that draws its order. -/
theorem step_append_all {P : Program} (w : World) {ops : Array Oper} {o : Oper} {a : Act} {K : Act → World → Prop} {Q : Exit → Act → World → Prop} {E : Prop} (hgd : o.guard = none) (s x : Operand) (t : TypeId)
    (ho : o.op = .call { callee := .builtin .append, args := #[s, x], argTypes := #[t, t] })
    (base : Nat) (e : TypeId) (i : TypeInfo) (z : Value) (size bytes : Nat) (ht : P.underlying t = some (.slice e)) (hi : P.info? e = some i) (hz : i.zero = some z)
    (hsize : i.size = size) (hby : i.bytes = bytes) (hzs : z.cells.size = size) (hsz : 0 < size)
    (v : Value) (n : Nat) (xs : List Value) (hs : a.eval s = v) (hown : w.ownsRow base e size v n xs)
    (q : Option Addr) (m c : Nat) (news : List Value) (hx : a.eval x = .slice q m c) (hl : news.length = m * size) (hq : q = none → m = 0) (hnews : ∀ ad, q = some ad → ∀ j u, news[j]? = some u → w.cell? (ad.add j) = some u) (h1 : ∀ u ∈ news, u.oneCell' = true)
    (h63 : n + m ≤ maxLen) (hbytes : (n + m) * bytes ≤ 140737488355328) (hbase : base ≤ w.heap.size) (N : Nat) (hN : n + m = N)
    (h : ∀ p cap w', w'.ownsRow base e size (.slice p N cap) N (xs ++ news) → w.grownBy w' v.ownBlock → ((Value.slice p N cap).ownBlock = v.ownBlock ∨ (Value.slice p N cap).ownBlock = some w.heap.size) → K (a.put o.dst (.slice p N cap)) w') :
    if Region.wanted o (yielded ops a.tmps) = true then Oper.wp P o a w K Q else E := by
  have hw : Region.wanted o (yielded ops a.tmps) = true := by simp [Region.wanted, hgd]
  rw [if_pos hw]
  exact wp_append_all w s x t ho base e i z size bytes ht hi hz hsize hby hzs hsz v n xs hs hown q m c news hx hl hq hnews h1 h63 hbytes hbase N hN h

/-- A step's own cells: its numbers, its children's slice. -/
structure Sv where
  kd : Int
  id : Int
  nd : Int
  fr : Int
  tt : Int
  kp : Option Addr
  kn : Nat
  kc : Nat
def Sv.kv (x : Sv) : Value := .slice x.kp x.kn x.kc
def Sv.cells (x : Sv) : List Value := [.int .i64 x.kd, .int .i64 x.id, .int .i64 x.nd, .int .i64 x.fr, .int .i64 x.tt, x.kv]
def lyS : Ly Sv where
  ty := 51
  sz := 6
  cells := Sv.cells
  len _ := rfl
  one t u hu := by
    simp [Sv.cells, Sv.kv] at hu
    rcases hu with rfl | rfl | rfl | rfl | rfl | rfl <;> rfl
  pos := by decide
theorem info68 : (Tryz.prog.info? 51).map (fun i => (i.zero, i.size, i.bytes)) = some (some (.agg #[.int .i64 0, .int .i64 0, .int .i64 0, .int .i64 0, .int .i64 0, .slice none 0 0]), 6, 64) := by kernel_rfl

/-- The steps of a slice, as they lie in memory, their children's rows too. -/
def StepsR (w : World) (p : Option Addr) (ss : List St) : Prop := ∀ (i : Nat) s, ss[i]? = some s → ∃ b o kp kc, p = some ⟨b, o, none⟩ ∧ lyS.At w b (o + i * 6) ⟨s.kd, s.id, s.nd, s.fr, St.to s, kp, s.kids.length, kc⟩ ∧ lyI.Row w kp s.kids
theorem StepsR.below {w w' : World} {p : Option Addr} {ss : List St} (h : StepsR w p ss) (hb : Below w.heap.size w w') : StepsR w' p ss := fun i n hi => by
  obtain ⟨b, o, kp, kc, h1, h2, h3⟩ := h i n hi
  exact ⟨b, o, kp, kc, h1, h2.below hb, h3.below hb⟩
def FitS (w : World) (base : Nat) (v : Sv) (s : St) : Prop := v.kd = s.kd ∧ v.id = s.id ∧ v.nd = s.nd ∧ v.fr = s.fr ∧ v.tt = St.to s ∧ lyI.Own w base v.kv s.kids
/-- A row of steps of the call's own. -/
structure OwnS (w : World) (base : Nat) (v : Value) (vs : List Sv) (ss : List St) : Prop where
  row : lyS.Own w base v vs
  len : vs.length = ss.length
  fit : ∀ (i : Nat) x s, vs[i]? = some x → ss[i]? = some s → FitS w base x s
theorem FitS.kept {w w' : World} {base : Nat} {v : Sv} {s : St} {row : Option Nat} (h : FitS w base v s) (hg : w.grownBy w' row) (hr : ∀ g, row = some g → ∃ c, w.heap[g]? = some (.cells c 51 (0, 0))) : FitS w' base v s := by
  obtain ⟨a, b, c, d, e, f⟩ := h
  refine ⟨a, b, c, d, e, f.kept hg (fun g hk e0 => ?_)⟩
  obtain ⟨c1, h1⟩ := hr g e0
  obtain ⟨c2, h2⟩ := f.obj hk
  exact type_ne h1 h2 (by decide) rfl
theorem FitS.below {w w' : World} {base : Nat} {v : Sv} {s : St} (h : FitS w base v s) (hb : Below w.heap.size w w') : FitS w' base v s := by
  obtain ⟨a, b, c, d, e, f⟩ := h
  exact ⟨a, b, c, d, e, f.below hb⟩
theorem OwnS.nil (w : World) (base : Nat) : OwnS w base (.slice none 0 0) [] [] := ⟨Ly.Own.nil w base, rfl, fun i x s h => by simp at h⟩
theorem OwnS.below {w w' : World} {base : Nat} {v : Value} {vs : List Sv} {ss : List St} (h : OwnS w base v vs ss) (hb : Below w.heap.size w w') : OwnS w' base v vs ss :=
  ⟨h.row.below hb, h.len, fun i x s hx hs => (h.fit i x s hx hs).below hb⟩
theorem OwnS.read {w : World} {base n cap : Nat} {p : Option Addr} {vs : List Sv} {ss : List St} (h : OwnS w base (.slice p n cap) vs ss) : StepsR w p ss := fun i s hi => by
  have hl : i < vs.length := by rw [h.len]; exact (List.getElem?_eq_some_iff.1 hi).1
  have hv := List.getElem?_eq_getElem hl
  obtain ⟨a, b, c, d, e, f⟩ := h.fit i _ s hv hi
  obtain ⟨g, o, hp, hat⟩ := h.row.row i _ hv
  generalize vs[i] = v at *
  obtain ⟨kp, kc, hkv⟩ := f.form
  obtain ⟨vkd, vid, vnd, vfr, vtt, vkp, vkn, vkc⟩ := v
  unfold Sv.kv at hkv f
  dsimp only at a b c d e hkv f
  cases hkv
  subst a b c d e
  exact ⟨g, o, kp, kc, hp, hat, f.row⟩

/-- Rows of steps, all apart. -/
structure Rows (w : World) (base : Nat) (rs : List (Value × List Sv × List St)) : Prop where
  own : ∀ (k : Nat) r, rs[k]? = some r → OwnS w base r.1 r.2.1 r.2.2
  apart : ∀ (j k : Nat) r q g, j ≠ k → rs[j]? = some r → rs[k]? = some q → r.1.ownBlock = some g → q.1.ownBlock ≠ some g
theorem Rows.below {w w' : World} {base : Nat} {rs : List (Value × List Sv × List St)} (h : Rows w base rs) (hb : Below w.heap.size w w') : Rows w' base rs := ⟨fun k r hr => (h.own k r hr).below hb, h.apart⟩
theorem Rows.push {w w' : World} {base : Nat} {rs : List (Value × List Sv × List St)} (h : Rows w base rs) {k : Nat} {v : Value} {vs : List Sv} {ss : List St} (hk : rs[k]? = some (v, vs, ss)) {v' : Value} {xs : List Sv} {zs : List St}
    (hown : lyS.Own w' base v' (vs ++ xs)) (hg : w.grownBy w' v.ownBlock) (hb : v'.ownBlock = v.ownBlock ∨ v'.ownBlock = some w.heap.size) (hl : xs.length = zs.length) (hf : ∀ (i : Nat) x s, xs[i]? = some x → zs[i]? = some s → FitS w base x s) : Rows w' base (rs.set k (v', vs ++ xs, ss ++ zs)) := by
  have h0 := h.own k _ hk
  have hr : ∀ g, v.ownBlock = some g → ∃ c, w.heap[g]? = some (.cells c 51 (0, 0)) := fun g hg => h0.row.obj hg
  have hkl := (List.getElem?_eq_some_iff.1 hk).1
  have hlen : vs.length = ss.length := h0.len
  refine ⟨fun j r hj => ?_, fun i j r q g hij hi hj he => ?_⟩
  · rw [List.getElem?_set] at hj
    by_cases e : k = j
    · rw [if_pos e] at hj
      subst e
      rw [if_pos hkl] at hj
      cases hj
      refine ⟨hown, by rw [List.length_append, List.length_append, hlen, hl], fun i x s hx hs => ?_⟩
      dsimp only at hx hs
      by_cases hi : i < vs.length
      · rw [List.getElem?_append_left hi] at hx
        rw [List.getElem?_append_left (by omega)] at hs
        exact (h0.fit i x s hx hs).kept hg hr
      · rw [List.getElem?_append_right (by omega)] at hx
        rw [List.getElem?_append_right (by omega), ← hlen] at hs
        exact (hf _ x s hx hs).kept hg hr
    · rw [if_neg e] at hj
      have h1 := h.own j r hj
      exact ⟨h1.row.kept hg (fun g hg2 e0 => h.apart k j _ r g e hk hj e0 hg2), h1.len, fun i x s hx hs => (h1.fit i x s hx hs).kept hg hr⟩
  · rw [List.getElem?_set] at hi hj
    have old : ∀ (j : Nat) q, k ≠ j → rs[j]? = some q → ∀ g, q.1.ownBlock = some g → v'.ownBlock ≠ some g := fun j q hne hq g hg2 e0 => by
      rcases hb with hb | hb
      · rw [hb] at e0
        exact h.apart k j _ q g hne hk hq e0 hg2
      · rw [hb] at e0
        have := ((h.own j q hq).row.lt hg2).2
        cases e0
        omega
    by_cases e1 : k = i
    · rw [if_pos e1] at hi
      by_cases e2 : k = j
      · exact absurd (e1.symm.trans e2) hij
      · rw [if_neg e2] at hj
        subst e1
        rw [if_pos hkl] at hi
        cases hi
        dsimp only at he
        exact fun e0 => old j q e2 hj g e0 he
    · rw [if_neg e1] at hi
      by_cases e2 : k = j
      · rw [if_pos e2] at hj
        subst e2
        rw [if_pos hkl] at hj
        cases hj
        exact old i r e1 hi g he
      · rw [if_neg e2] at hj
        exact h.apart i j r q g hij hi hj he

/-- The cells of one step, just made. -/
theorem six_new {W : World} {b : Nat} (hb : W.heap.size = b) (x : Sv) : ∀ j u, (Sv.cells x)[j]? = some u → (W.alloc (.cells (Sv.cells x).toArray 51)).cell? ((⟨b, 0, none⟩ : Addr).add j) = some u := by
  intro j u hu
  subst hb
  rw [add_plain, Nat.zero_add, World.cell?_alloc_at _ _ _ _ rfl]
  simpa using hu

end Go.Proofs.YtjmfjlffcopnnaaGreatDoor

namespace Go.Proofs.YtjmfjlffcopnnaaGreatDoor
open Go.RowKit

theorem ints_all (l : List Int) (j : Nat) : (lyI.all l)[j]? = (l[j]?).map (fun c => Value.int .i64 c) := by
  have : lyI.all l = l.map (fun c => Value.int .i64 c) := by
    unfold Ly.all
    induction l with
    | nil => rfl
    | cons a l ih => rw [List.flatMap_cons, ih]; rfl
  rw [this, List.getElem?_map]
theorem ints_news {w : World} {p : Option Addr} {l : List Int} (h : lyI.Row w p l) : ∀ ad, p = some ad → ∀ j u, (lyI.all l)[j]? = some u → w.cell? (ad.add j) = some u := by
  intro ad hp j u hu
  rw [ints_all] at hu
  cases hl : l[j]? with
  | none => rw [hl] at hu; cases hu
  | some c =>
    rw [hl] at hu
    cases hu
    obtain ⟨b, o, hp2, hc⟩ := ints_at h hl
    rw [hp] at hp2
    cases hp2
    rw [add_plain]; exact hc
theorem ints_none {w : World} {l : List Int} (h : lyI.Row w none l) : l.length = 0 := by
  cases l with
  | nil => rfl
  | cons a l =>
    obtain ⟨b, o, hp, _⟩ := ints_at (i := 0) h rfl
    cases hp

end Go.Proofs.YtjmfjlffcopnnaaGreatDoor
