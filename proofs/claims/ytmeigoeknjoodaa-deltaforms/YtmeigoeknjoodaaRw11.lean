/-
  The walk of the reference's Renew upon a text's own tree, where both texts may be. Conditions: as each theorem's premises say.
-/
import Derived.Test.YtmeigoeknjoodaaRwC
namespace Go.Proofs.Ytmeigoeknjoodaa
open Go.RowKit

/-- What Renew answers. -/
def RenPost (s u : List UInt8) (w : World) (e : Ending) (w' : World) : Prop := ∃ p cap vs, e = .returned (.tuple #[.agg #[.int .i64 0, .int .i64 (renX s u), .slice p (renN s u).length cap], .int .i64 0]) ∧ OwnT w' w.heap.size (.slice p (renN s u).length cap) vs (renN s u) ∧ Below w.heap.size w w'

theorem all_rep (n : Nat) (v : Int) : lyI.all (List.replicate n v) = List.replicate n (.int .i64 v) := by
  induction n with
  | zero => rfl
  | succ n ih =>
    rw [List.replicate_succ, List.replicate_succ, ← ih]
    rfl
theorem made_ids (w : World) (N : Nat) (h : N ≤ 4096) : lyI.Own (w.alloc (.cells (madeCells #[.int .i64 0] N) 3)) w.heap.size (.slice (some ⟨w.heap.size, 0, none⟩) N N) (List.replicate N 0) := by
  have := World.ownsRow_lit (base := w.heap.size) (e := 3) (size := 1) w (madeCells #[.int .i64 0] N) N (Nat.le_refl _) (by unfold maxLen; omega) (by rw [size_madeCells]; simp)
  rw [toList_madeCells_one] at this
  unfold Ly.Own
  rw [List.length_replicate, all_rep]
  exact this
theorem rep_set (N i : Nat) (h : i < N) : (List.replicate i (-1 : Int) ++ List.replicate (N - i) 0).set i (-1) = List.replicate (i + 1) (-1) ++ List.replicate (N - (i + 1)) 0 := by
  rw [List.set_append_right _ _ (by simp), List.length_replicate, Nat.sub_self, show N - i = N - (i + 1) + 1 by omega, List.replicate_succ, List.set_cons_zero, List.replicate_succ', List.append_assoc]
  rfl

/-- The renewer, its ids filled in, and the new tree's box and nodes so far. -/
structure RL (w w3 wr : World) (rb ig N K : Nat) (p p2 : Option Addr) (cap cap2 : Nat) (s u : ByteArray) (fl : List Int) (ob X : Nat) (nv : Value) (vs : List Nv) (ns : List Nd) : Prop where
  rs : RS w3 wr rb ig N N 0 K 0 N p p2 K cap N cap2 s u fl
  box : wr.heap[ob]? = some (.cells #[.int .i64 0, .int .i64 X, nv] 24 (0, 0))
  own : OwnT wr w.heap.size nv vs ns
  new : w3.heap.size ≤ ob
theorem RL.later {w w3 wr W : World} {rb ig N K : Nat} {p p2 : Option Addr} {cap cap2 : Nat} {s u : ByteArray} {fl : List Int} {ob X : Nat} {nv : Value} {vs : List Nv} {ns : List Nd} (h : RL w w3 wr rb ig N K p p2 cap cap2 s u fl ob X nv vs ns) (hb : Bl wr W) : RL w w3 W rb ig N K p p2 cap cap2 s u fl ob X nv vs ns :=
  ⟨h.rs.later hb, heap_later h.box hb, h.own.below hb, h.new⟩
theorem RL.put {w w3 wr W : World} {rb ig N K : Nat} {p p2 : Option Addr} {cap cap2 : Nat} {s u : ByteArray} {fl : List Int} {ob X : Nat} {nv nv' : Value} {vs vs' : List Nv} {ns ns' : List Nd} (h : RL w w3 wr rb ig N K p p2 cap cap2 s u fl ob X nv vs ns) (hb : Bl wr W) (ho : OwnT W w.heap.size nv' vs' ns') : RL w w3 (W.setCell ⟨ob, 2, none⟩ nv') rb ig N K p p2 cap cap2 s u fl ob X nv' vs' ns' := by
  have h2 := h.later hb
  have hg := set_grown W ob 2 nv'
  refine ⟨⟨below_grown (grown_trans (grown_of_below h2.rs.bl (some ob)) hg (fun g e => .inl e)) h2.new (Nat.le_refl _), ?_, h2.rs.ids.kept hg (fun g hk e => ?_), h2.rs.len⟩, ?_, ho.kept hg h2.box (by decide) (by decide), h2.new⟩
  · refine (hg.block rb (Array.getElem?_eq_some_iff.1 h2.rs.obj).1 (fun e => ?_)).trans h2.rs.obj
    cases e
    exact type_ne h2.rs.obj h2.box (by decide) rfl
  · obtain ⟨cur, hcur⟩ := h2.rs.ids.obj hk
    cases e
    exact type_ne hcur h2.box (by decide) rfl
  · rw [heap_setCell_at h2.box]; rfl

theorem kid_box {wr w6 : World} {o : Obj} {base yb j kvc : Nat} {kvp : Option Addr} {cs : Array Value} {ks : List Int} (YB : wr.heap[yb]? = some (.cells cs 46 (0, 0))) (KO : lyI.Own wr base (.slice kvp j kvc) ks) (g6 : (World.drew (wr.alloc o)).grownBy w6 (Value.slice kvp j kvc).ownBlock) : w6.heap[yb]? = some (.cells cs 46 (0, 0)) :=
  (g6.block yb (Array.getElem?_eq_some_iff.1 (heap_old YB o)).1 (fun e => by
    obtain ⟨cur, hcur⟩ := KO.obj e.symm
    exact type_ne YB hcur (by decide) rfl)).trans (heap_old YB o)
theorem kid_put {wo wr w6 : World} {o : Obj} {yb j kvc c6 : Nat} {kvp p6 : Option Addr} {xs : Array Value} {a b c d : Value} {ks : List Int} {wk : Int} (BD : Bl wo wr) (XC : wr.heap[wo.heap.size]? = some (.cells xs 46 (0, 0))) (YB : wr.heap[yb]? = some (.cells #[a, b, c, d, .slice kvp j kvc] 46 (0, 0))) (hyb : wo.heap.size < yb)
    (KO : lyI.Own wr wo.heap.size (.slice kvp j kvc) ks) (LJ : ks.length = j) (g6 : (World.drew (wr.alloc o)).grownBy w6 (Value.slice kvp j kvc).ownBlock) (o6 : w6.ownsRow wo.heap.size 3 1 (.slice p6 (j + 1) c6) (j + 1) (lyI.all ks ++ [.int .i64 wk])) :
    Bl wo (w6.setCell ⟨yb, 4, none⟩ (.slice p6 (j + 1) c6)) ∧ (w6.setCell ⟨yb, 4, none⟩ (.slice p6 (j + 1) c6)).heap[wo.heap.size]? = some (.cells xs 46 (0, 0)) ∧ (w6.setCell ⟨yb, 4, none⟩ (.slice p6 (j + 1) c6)).heap[yb]? = some (.cells #[a, b, c, d, .slice p6 (j + 1) c6] 46 (0, 0)) ∧ lyI.Own (w6.setCell ⟨yb, 4, none⟩ (.slice p6 (j + 1) c6)) wo.heap.size (.slice p6 (j + 1) c6) (ks ++ [wk]) := by
  have Y6 := kid_box YB KO g6
  have X6 := kid_box XC KO g6
  have hg := set_grown w6 yb 4 (.slice p6 (j + 1) c6)
  have hB : Bl wo (World.drew (wr.alloc o)) := Bl.drew (Bl.alloc BD o)
  have B6 : Bl wo w6 := Below.trans hB (below_grownN g6 (fun g e => (KO.lt e).1) hB.size)
  refine ⟨Bl.set B6 (by omega) _, (hg.block _ (Array.getElem?_eq_some_iff.1 X6).1 (fun e => by cases e; omega)).trans X6, by rw [heap_setCell_at Y6]; rfl, ?_⟩
  have h1 : lyI.Own w6 wo.heap.size (.slice p6 (j + 1) c6) (ks ++ [wk]) := by
    unfold Ly.Own
    rw [List.length_append, List.length_singleton, LJ, all_app, all_one]
    exact o6
  exact h1.kept hg (fun g hk e => by
    obtain ⟨cur, hcur⟩ := h1.obj hk
    cases e
    exact type_ne hcur Y6 (by decide) rfl)

set_option maxRecDepth 100000 in
set_option maxHeartbeats 16000000 in
theorem renew_yes (s u : ByteArray) (w : World) (hs : s.size ≤ 300) (hu : u.size ≤ 300) (p : Option Addr) (K cap : Nat) (hK : (parN s.data.toList).length = K) (R : NodesR w p (parN s.data.toList)) : Calls Try.prog 16 #[trV 0 K p K cap, .string s, .string u] w (RenPost s.data.toList u.data.toList w) := by
  have hl : s.data.toList.length ≤ 300 := by rw [ba_len]; exact hs
  have hl2 : u.data.toList.length ≤ 300 := by rw [ba_len]; exact hu
  have hKl : K ≤ 2000 := by rw [← hK]; exact par_len_le hl
  have hK1 : 1 ≤ K := by rw [← hK, parN_len]; omega
  have CALL := Lib.hid (fun W => parse_yes u W hu)
  have SH := Lib.hid (fun (W : World) (hW : Bl w W) => shape_yes s W hs p K cap hK (R.below hW))
  have RR := Lib.hid R; have HK := Lib.hid hK
  unfold trV at *
  obtain ⟨N, hN⟩ : ∃ N, (parN u.data.toList).length = N := ⟨_, rfl⟩
  have HN := Lib.hid hN
  have hNl : N ≤ 2000 := by rw [← hN]; exact par_len_le hl2
  have hN1 : 1 ≤ N := by rw [← hN, parN_len]; omega
  clear R hK hN
  go_enter Try.func16, Try.ntmps16
  have RB : Hid (((w.alloc (.cells #[.int .i64 0, .int .i64 K, .slice p K cap] 24)).alloc (.cells #[.int .i64 0, .int .i64 0, .slice none 0 0] 24)).heap[w.heap.size + 1]? = some (.cells #[.int .i64 0, .int .i64 0, .slice none 0 0] 24 (0, 0))) := Lib.hid (heap_new (by simp) _ _)
  have TB : Hid (((w.alloc (.cells #[.int .i64 0, .int .i64 K, .slice p K cap] 24)).alloc (.cells #[.int .i64 0, .int .i64 0, .slice none 0 0] 24)).heap[w.heap.size]? = some (.cells #[.int .i64 0, .int .i64 K, .slice p K cap] 24 (0, 0))) := Lib.hid (heap_old (heap_new rfl _ _) _)
  go_upto_region 2 with (go_at_call 15; refine (CALL.out _).mono ?_; rintro e w1 ⟨p2, cap2, vs2, rfl, o1, hb1⟩; rw [HN.out] at o1 ⊢; have B1 := Lib.hid (Bl.call (Bl.alloc (Bl.alloc (Bl.refl w) _) _) hb1); have R1 := Lib.hid (heap_later RB.out hb1); have T1 := Lib.hid (heap_later TB.out hb1); have O1 := Lib.hid o1.read; clear hb1 o1)
  have B2 := Lib.hid (Bl.alloc B1.out (.cells #[.int .i64 0, .int .i64 N, .slice p2 N cap2] 24))
  have R2 := Lib.hid (heap_later R1.out (Bl.alloc (Bl.refl w1) (.cells #[.int .i64 0, .int .i64 N, .slice p2 N cap2] 24)))
  have T2 := Lib.hid (heap_later T1.out (Bl.alloc (Bl.refl w1) (.cells #[.int .i64 0, .int .i64 N, .slice p2 N cap2] 24)))
  have O2 := Lib.hid (O1.out.below (Bl.alloc (Bl.refl w1) (.cells #[.int .i64 0, .int .i64 N, .slice p2 N cap2] 24)))
  have F2 : Hid ((w1.alloc (.cells #[.int .i64 0, .int .i64 N, .slice p2 N cap2] 24)).heap[w1.heap.size]? = some (.cells #[.int .i64 0, .int .i64 N, .slice p2 N cap2] 24 (0, 0))) := Lib.hid (heap_new rfl _ _)
  obtain ⟨fb, hfb⟩ : ∃ g, g = w1.heap.size := ⟨_, rfl⟩
  rw [← hfb] at F2 ⊢
  clear hfb
  generalize (w1.alloc (.cells #[.int .i64 0, .int .i64 N, .slice p2 N cap2] 24)) = w2 at B2 R2 T2 O2 F2 ⊢
  have t0 := (obj_cells T2.out).1 0 _ rfl
  have t1 := (obj_cells T2.out).1 1 _ rfl
  have t2 := (obj_cells T2.out).1 2 _ rfl
  clear R1 RB B1 CALL T1 TB O1
  go_upto_region 4 with (go_at_call 37; refine (SH.out _ B2.out).mono ?_; rintro e w3 ⟨rfl, hb3⟩; have B3 := Lib.hid (B2.out.call hb3); have R3 := Lib.hid (heap_later R2.out hb3); have T3 := Lib.hid (heap_later T2.out hb3); have F3 := Lib.hid (heap_later F2.out hb3); have O3 := Lib.hid (O2.out.below hb3); clear hb3)
  clear t0 t1 t2 R2 T2 B2 F2 O2 SH
  have RF0 : Hid (RF w3 p p2 K N s u (parN s.data.toList) (parN u.data.toList)) := Lib.hid ⟨hs, hu, HK.out, HN.out, by omega, by omega, fun k x hx => par_id hx, fun k x hx => par_id hx, RR.out.below B3.out, O3.out⟩
  have MK : ∀ W : World, (Instr.makeSlice 41 (.int .i64 (N : Int)) (.int .i64 (N : Int))).run Try.prog W = .ok (.slice (some ⟨W.heap.size, 0, none⟩) N N) (W.alloc (.cells (madeCells #[.int .i64 0] N) 3)) := run_make_row' 41 3 (.int .i64 0) 8 Try.underlying41 info3 rfl .i64 .i64 N (by omega) (by omega)
  have t0 := (obj_cells T3.out).1 0 _ rfl
  have t1 := (obj_cells T3.out).1 1 _ rfl
  have t2 := (obj_cells T3.out).1 2 _ rfl
  have f0 := (obj_cells F3.out).1 0 _ rfl
  have f1 := (obj_cells F3.out).1 1 _ rfl
  have f2 := (obj_cells F3.out).1 2 _ rfl
  have t0A : ∀ o, (w3.alloc o).cell? ⟨w.heap.size, 0, none⟩ = some (.int .i64 0) := fun o => (Bl.alloc (Bl.refl w3) o).cell t0
  have t1A : ∀ o, (w3.alloc o).cell? ⟨w.heap.size, 1, none⟩ = some (.int .i64 K) := fun o => (Bl.alloc (Bl.refl w3) o).cell t1
  have t2A : ∀ o, (w3.alloc o).cell? ⟨w.heap.size, 2, none⟩ = some (.slice p K cap) := fun o => (Bl.alloc (Bl.refl w3) o).cell t2
  have f0A : ∀ o, (w3.alloc o).cell? ⟨fb, 0, none⟩ = some (.int .i64 0) := fun o => (Bl.alloc (Bl.refl w3) o).cell f0
  have f1A : ∀ o, (w3.alloc o).cell? ⟨fb, 1, none⟩ = some (.int .i64 N) := fun o => (Bl.alloc (Bl.refl w3) o).cell f1
  have f2A : ∀ o, (w3.alloc o).cell? ⟨fb, 2, none⟩ = some (.slice p2 N cap2) := fun o => (Bl.alloc (Bl.refl w3) o).cell f2
  go_cut [10] (fun v wx => ∃ rb ig, v = .pointer (some ⟨rb, 0, none⟩) ∧ Hid (RS w3 wx rb ig N N 0 K 0 N p p2 K cap N cap2 s u (List.replicate N 0)))
  case first =>
    go_region
    all_goals
      go_wp2_with fail
      go_meet
      refine ⟨_, _, rfl, Lib.hid ⟨Bl.drew (Bl.alloc (Bl.alloc (Bl.refl _) _) _), heap_new (by simp) _ _, ?_, by simp⟩⟩
      exact (made_ids w3 N (by omega)).below (Bl.drew (Bl.alloc (Bl.refl _) _))
  case rest =>
    clear t0A t1A t2A f0A f1A f2A t0 t1 t2 f0 f1 f2 MK
    obtain ⟨rb, ig, rfl, RI⟩ := hcut
    have AL := Lib.hid (fun (W : World) (l : List Int) => align_any w3 rb ig N N 0 K 0 N p p2 K cap N cap2 s u (parN s.data.toList) (parN u.data.toList) RF0.out (by omega) ((parK u.data.toList).size + 1) W l 0 0 ⟨0, 0, s.size, parK s.data.toList⟩ ⟨0, 0, u.size, parK u.data.toList⟩ (by unfold Nt.size; dsimp only; omega) (by have := Sub.root s.data.toList; rwa [ba_len] at this) (by have := Sub.root u.data.toList; rwa [ba_len] at this) (by have := HN.out; rw [parN_len] at this; unfold Nt.size; dsimp only; omega))
    have SZ : Hid ((⟨0, 0, u.size, parK u.data.toList⟩ : Nt).size = N) := Lib.hid (by have := HN.out; rw [parN_len] at this; unfold Nt.size; dsimp only; omega)
    have ASG : Hid (alA s.data.toList u.data.toList ((parK u.data.toList).size + 1) 0 ⟨0, 0, s.size, parK s.data.toList⟩ ⟨0, 0, u.size, parK u.data.toList⟩ = asgA s.data.toList u.data.toList) := Lib.hid (by unfold asgA; rw [ba_len, ba_len])
    have LEN : Hid ((asgA s.data.toList u.data.toList).length = N) := Lib.hid (by rw [asg_len, ← parN_len]; exact HN.out)
    go_upto_block 0 with fail
    go_cut [11] from 43 to 57 (fun _ wx => Hid (RS w3 wx rb ig N N 0 K 0 N p p2 K cap N cap2 s u (List.replicate N (-1))))
    case first =>
      go_wp2_with fail
      go_loopw [11] (fun v wr => ∃ i : Nat, v = .int .i64 i ∧ i ≤ N ∧ Hid (RS w3 wr rb ig N N 0 K 0 N p p2 K cap N cap2 s u (List.replicate i (-1) ++ List.replicate (N - i) 0))) (fun v _ => N - (intOf v).toNat)
      case atStart => exact ⟨0, rfl, by omega, by simpa using RI⟩
      case round =>
        clear RI
        obtain ⟨i, rfl, hi, R⟩ := hrel
        have o8 := (obj_cells R.out.obj).1 8 _ rfl
        by_cases hlt : i < N
        · obtain ⟨v, hv, -⟩ := R.out.cell hlt
          have hf := R.out.ids.frozen i
          have R2 : Hid (RS w3 (wr.setCell ⟨ig, i, none⟩ (.int .i64 (-1))) rb ig N N 0 K 0 N p p2 K cap N cap2 s u (List.replicate (i + 1) (-1) ++ List.replicate (N - (i + 1)) 0)) := Lib.hid (by
            have := R.out.set hlt (-1)
            rwa [rep_set N i hlt] at this)
          have hi0 : (0 : Int) ≤ (i : Int) := by omega
          have hi1 : (i : Int) < (N : Int) := by omega
          go_wp2_with fail
          go_roundw
          case rel => exact ⟨i + 1, by go_num, by omega, R2⟩
          case measure => simp [intOf]; omega
        · have e : i = N := by omega
          subst e
          go_wp2_with fail
          go_meet
          have := R.out
          rw [Nat.sub_self] at this
          exact Lib.hid (by simpa using this)
    case rest =>
      clear RI
      have RI := hcut
      clear hcut
      have c0 := RI.out.bl.cell (u := .int .i64 0) ((obj_cells T3.out).1 0 _ rfl)
      have AC : Hid (Calls Try.prog 38 #[.pointer (some ⟨rb, 0, none⟩), .int .i64 0, .int .i64 0] _ _) := Lib.hid (AL.out _ _ (fun m hm => by rw [Nat.zero_add, List.getElem?_replicate, if_pos (by rw [← SZ.out]; exact hm)]) RI.out)
      clear AL
      go_upto_region 10 with (go_at_call 38; refine AC.out.mono ?_; rintro e w6 ⟨rfl, -, l', r6, p6⟩; have R6 := Lib.hid r6; have P6 := Lib.hid p6; clear r6 p6)
      have E6 : l' = segV (asgA s.data.toList u.data.toList) := by
        have := P6.out.whole (by rw [seg_len, ASG.out, LEN.out, List.length_replicate])
        rw [this, ASG.out]
      subst E6
      clear AC RI P6 SZ ASG c0
      have c1 := R6.out.bl.cell (u := .int .i64 K) ((obj_cells T3.out).1 1 _ rfl)
      have HK2 : Hid ((parK s.data.toList).size + 1 = K) := Lib.hid (by rw [← parN_len]; exact HK.out)
      go_upto_block 2 with fail
      clear c1
      go_cut [12, 13] from 64 to 89 (fun v12 _ wx => v12 = .int .i64 (renX s.data.toList u.data.toList) ∧ Hid (RS w3 wx rb ig N N 0 K 0 N p p2 K cap N cap2 s u ((idsA s.data.toList u.data.toList).map (fun (k : Nat) => (k : Int)))))
      case first =>
        go_wp2_with fail
        go_loopw [12, 13] (fun v12 v13 wr => ∃ (i X : Nat), v12 = .int .i64 X ∧ v13 = .int .i64 i ∧ i ≤ N ∧ Hid (nextA K ((asgA s.data.toList u.data.toList).take i) = X) ∧ Hid (RS w3 wr rb ig N N 0 K 0 N p p2 K cap N cap2 s u (idsAt K (asgA s.data.toList u.data.toList) i))) (fun _ v _ => N - (intOf v).toNat)
        case atStart => exact ⟨0, K, rfl, rfl, by omega, Lib.hid rfl, Lib.hid (by rw [ids_zero]; exact R6.out)⟩
        case round =>
          clear R6
          obtain ⟨i, X, rfl, rfl, hi, HX, R⟩ := hrel
          have o8 := (obj_cells R.out.obj).1 8 _ rfl
          have hX : X ≤ 4000 := by
            have := next_le (asgA s.data.toList u.data.toList) K i
            rw [HX.out, LEN.out] at this; omega
          by_cases hlt : i < N
          · obtain ⟨o, ho⟩ : ∃ o, (asgA s.data.toList u.data.toList)[i]? = some o := ⟨_, List.getElem?_eq_getElem (by rw [LEN.out]; exact hlt)⟩
            obtain ⟨v, hv, hv2⟩ := R.out.cell hlt
            rw [ids_get ho] at hv2
            have hf := R.out.ids.frozen i
            have hi0 : (0 : Int) ≤ (i : Int) := by omega
            have hi1 : (i : Int) < (N : Int) := by omega
            cases o with
            | none =>
              cases hv2
              have NX := (fill_none ho K).2
              rw [HX.out] at NX
              have IS := ids_none (n := K) ho
              rw [HX.out] at IS
              have R2 : Hid (RS w3 (wr.setCell ⟨ig, i, none⟩ (.int .i64 X)) rb ig N N 0 K 0 N p p2 K cap N cap2 s u (idsAt K (asgA s.data.toList u.data.toList) (i + 1))) := Lib.hid (by
                have := R.out.set hlt (X : Int)
                rwa [IS] at this)
              have HX2 := Lib.hid NX
              have hv' : wr.cell? ⟨ig, i, none⟩ = some (.int .i64 (-1)) := hv
              clear NX IS ho hv
              go_wp2_with fail
              go_roundw
              case rel => exact ⟨i + 1, X + 1, by go_num, by go_num, by omega, HX2, R2⟩
              case measure => simp [intOf]; omega
            | some z =>
              cases hv2
              have NX := (fill_some ho K).2
              rw [HX.out] at NX
              have R2 : Hid (RS w3 wr rb ig N N 0 K 0 N p p2 K cap N cap2 s u (idsAt K (asgA s.data.toList u.data.toList) (i + 1))) := Lib.hid (by
                rw [← ids_some ho]; exact R.out)
              have HX2 := Lib.hid NX
              have hv' : wr.cell? ⟨ig, i, none⟩ = some (.int .i64 (z : Int)) := hv
              have hz : decide ((z : Int) < 0) = false := decide_eq_false (by omega)
              clear NX ho hv
              go_wp2_with fail
              go_roundw
              case rel => exact ⟨i + 1, X, rfl, by go_num, by omega, HX2, R2⟩
              case measure => simp [intOf]; omega
          · go_wp2_with fail
            go_meet
            have h1 := HX.out
            have h2 := R.out
            rw [List.take_of_length_le (by rw [LEN.out]; omega)] at h1
            rw [ids_all K _ (by rw [LEN.out]; omega)] at h2
            refine ⟨?_, Lib.hid ?_⟩
            · rw [← h1]; unfold renX; rw [HK2.out]
            · unfold idsA; rw [HK2.out]; exact h2
      case rest =>
        clear R6
        obtain ⟨rfl, R7⟩ := hcut
        obtain ⟨X, hX⟩ : ∃ X, renX s.data.toList u.data.toList = X := ⟨_, rfl⟩
        have hXl : X ≤ 4000 := by
          have h1 := (ids_ok s.data.toList u.data.toList).2.2.2
          have h2 := HK2.out
          have h3 := HN.out
          rw [parN_len] at h3
          omega
        rw [hX]
        have HX := Lib.hid hX
        have hgt : decide ((16777216 : Int) < (X : Int)) = false := decide_eq_false (by omega)
        have t0 := R7.out.bl.cell (u := .int .i64 0) ((obj_cells T3.out).1 0 _ rfl)
        clear hX HK2
        go_upto_region 20 with fail
        have RL0 : Hid (RL w w3 (wc.alloc (.cells #[.int .i64 0, .int .i64 X, .slice none 0 0] 24)) rb ig N K p p2 cap cap2 s u ((idsA s.data.toList u.data.toList).map (fun (k : Nat) => (k : Int))) wc.heap.size X (.slice none 0 0) [] (renP s.data.toList u.data.toList 0)) := Lib.hid ⟨R7.out.later (Bl.alloc (Bl.refl _) _), heap_new rfl _ _, ownT_none _ _, R7.out.bl.size⟩
        obtain ⟨ob, hob⟩ : ∃ g, g = wc.heap.size := ⟨_, rfl⟩
        rw [← hob] at RL0 ⊢
        clear hob t0 R7
        generalize (wc.alloc (.cells #[.int .i64 0, .int .i64 X, .slice none 0 0] 24)) = w8 at RL0 ⊢
        go_wp2_with fail
        go_loopw [15] (fun v15 wr => ∃ (i : Nat) (nv : Value) (vs : List Nv), v15 = .int .i64 i ∧ i ≤ N ∧ Hid (RL w w3 wr rb ig N K p p2 cap cap2 s u ((idsA s.data.toList u.data.toList).map (fun (k : Nat) => (k : Int))) ob X nv vs (renP s.data.toList u.data.toList i))) (fun v _ => N - (intOf v).toNat)
        case atStart => exact ⟨0, _, [], rfl, by omega, RL0⟩
        case round =>
          clear RL0
          obtain ⟨i, nv, vs, rfl, hi, Q⟩ := hrel
          obtain ⟨wo, hwo⟩ : ∃ W, W = wr := ⟨_, rfl⟩
          subst hwo
          have f2 := Q.out.rs.bl.cell (u := .slice p2 N cap2) ((obj_cells F3.out).1 2 _ rfl)
          by_cases hlt : i < N
          · obtain ⟨x, hx⟩ : ∃ x, (parN u.data.toList)[i]? = some x := ⟨_, List.getElem?_eq_getElem (by rw [HN.out]; exact hlt)⟩
            have HXI := Lib.hid hx
            have HID := Lib.hid (par_id hx)
            obtain ⟨bb, bo, kp, kc, rfl, hat, hrow⟩ := O3.out i x hx
            have ROW := Lib.hid hrow
            have kl : x.kids.length ≤ 2048 := par_kids hl2 x (List.mem_of_getElem? hx)
            obtain ⟨kn, hkn⟩ : ∃ n, x.kids.length = n := ⟨_, rfl⟩
            have KN := Lib.hid hkn
            rw [hkn] at hat kl
            have n0 : wo.cell? ⟨bb, bo + i * 5, none⟩ = some (.int .i64 x.id) := Q.out.rs.bl.cell (hat 0 _ rfl)
            have n1 : wo.cell? ⟨bb, bo + i * 5 + 1, none⟩ = some (.int .i64 x.kd) := Q.out.rs.bl.cell (hat 1 _ rfl)
            have n2 : wo.cell? ⟨bb, bo + i * 5 + 2, none⟩ = some (.int .i64 x.fr) := Q.out.rs.bl.cell (hat 2 _ rfl)
            have n3 : wo.cell? ⟨bb, bo + i * 5 + 3, none⟩ = some (.int .i64 (Nd.to x)) := Q.out.rs.bl.cell (hat 3 _ rfl)
            have n4 : wo.cell? ⟨bb, bo + i * 5 + 4, none⟩ = some (.slice kp kn kc) := Q.out.rs.bl.cell (hat 4 _ rfl)
            have hi0 : (0 : Int) ≤ (i : Int) := by omega
            have hi1 : (i : Int) < (N : Int) := by omega
            obtain ⟨wi, hwi⟩ : ∃ v, widA s.data.toList u.data.toList i = v := ⟨_, rfl⟩
            have HWI := Lib.hid hwi
            have ic : wo.cell? ⟨ig, i, none⟩ = some (.int .i64 wi) := by
              obtain ⟨v, h1, h2⟩ := Q.out.rs.cell hlt
              rw [wid_get (by rw [HN.out]; exact hlt), hwi] at h2
              cases h2
              exact h1
            clear hat hrow hkn hwi hx
            go_upto_region 24 with fail
            clear n0 n1 n2 n3 n4 f2
            have XB : Hid ((wo.alloc (.cells #[.int .i64 x.id, .int .i64 x.kd, .int .i64 x.fr, .int .i64 (Nd.to x), .slice kp kn kc] 46)).heap[wo.heap.size]? = some (.cells #[.int .i64 x.id, .int .i64 x.kd, .int .i64 x.fr, .int .i64 (Nd.to x), .slice kp kn kc] 46 (0, 0))) := Lib.hid (heap_new rfl _ _)
            have BB : Hid (Bl wo (wo.alloc (.cells #[.int .i64 x.id, .int .i64 x.kd, .int .i64 x.fr, .int .i64 (Nd.to x), .slice kp kn kc] 46))) := Lib.hid (Bl.alloc (Bl.refl _) _)
            have ic2 := BB.out.cell ic
            clear ic
            obtain ⟨wB, hwB⟩ : ∃ W, W = (wo.alloc (.cells #[.int .i64 x.id, .int .i64 x.kd, .int .i64 x.fr, .int .i64 (Nd.to x), .slice kp kn kc] 46)) := ⟨_, rfl⟩
            rw [← hwB] at XB BB ic2 ⊢
            clear hwB
            have o8 := (obj_cells (Q.out.rs.later BB.out).obj).1 8 _ rfl
            have x1 := (obj_cells XB.out).1 1 _ rfl
            have x2 := (obj_cells XB.out).1 2 _ rfl
            have x3 := (obj_cells XB.out).1 3 _ rfl
            have o8A : ∀ o, (wB.alloc o).cell? ⟨rb, 8, none⟩ = some (.slice (some ⟨ig, 0, none⟩) N N) := fun o => (Bl.alloc (Bl.refl wB) o).cell o8
            have icA : ∀ o, (wB.alloc o).cell? ⟨ig, i, none⟩ = some (.int .i64 wi) := fun o => (Bl.alloc (Bl.refl wB) o).cell ic2
            have x1A : ∀ o, (wB.alloc o).cell? ⟨wo.heap.size, 1, none⟩ = some (.int .i64 x.kd) := fun o => (Bl.alloc (Bl.refl wB) o).cell x1
            have x2A : ∀ o, (wB.alloc o).cell? ⟨wo.heap.size, 2, none⟩ = some (.int .i64 x.fr) := fun o => (Bl.alloc (Bl.refl wB) o).cell x2
            have x3A : ∀ o, (wB.alloc o).cell? ⟨wo.heap.size, 3, none⟩ = some (.int .i64 (Nd.to x)) := fun o => (Bl.alloc (Bl.refl wB) o).cell x3
            go_cut [17] (fun v wx => ∃ yb, v = .pointer (some ⟨yb, 0, none⟩) ∧ Hid (wo.heap.size < yb) ∧ Hid (wx.heap[yb]? = some (.cells #[.int .i64 wi, .int .i64 x.kd, .int .i64 x.fr, .int .i64 (Nd.to x), .slice none 0 0] 46 (0, 0))) ∧ Hid (Bl wB wx))
            case first =>
              go_region
              all_goals
                go_wp2_with fail
                go_meet
                exact ⟨_, rfl, Lib.hid (Array.getElem?_eq_some_iff.1 XB.out).1, Lib.hid (heap_new rfl _ _), Lib.hid (Bl.drew (Bl.alloc (Bl.refl _) _))⟩
            case rest =>
              obtain ⟨yb, rfl, HYB, YB, BC⟩ := hcut
              clear o8 x1 x2 x3 o8A icA x1A x2A x3A ic2
              have BD := Lib.hid (BB.out.call BC.out)
              have XC := Lib.hid (heap_later XB.out BC.out)
              have KO : Hid (lyI.Own wc wo.heap.size (.slice none 0 0) ((x.kids.take 0).map (fun (k : Int) => widA s.data.toList u.data.toList k.toNat))) := Lib.hid (Ly.Own.nil _ _)
              clear BB XB BC
              go_wp2_with fail
              go_loopw [18] (fun v18 wq => ∃ (j : Nat) (kv : Value), v18 = .int .i64 j ∧ j ≤ kn ∧ Hid (Bl wo wq) ∧ Hid (wq.heap[wo.heap.size]? = some (.cells #[.int .i64 x.id, .int .i64 x.kd, .int .i64 x.fr, .int .i64 (Nd.to x), .slice kp kn kc] 46 (0, 0))) ∧
                Hid (wq.heap[yb]? = some (.cells #[.int .i64 wi, .int .i64 x.kd, .int .i64 x.fr, .int .i64 (Nd.to x), kv] 46 (0, 0))) ∧ Hid (lyI.Own wq wo.heap.size kv ((x.kids.take j).map (fun (k : Int) => widA s.data.toList u.data.toList k.toNat)))) (fun v _ => kn - (intOf v).toNat)
              case atStart => exact ⟨0, _, rfl, by omega, BD, XC, YB, KO⟩
              case round =>
                clear BD XC YB KO
                obtain ⟨j, kv, rfl, hj, BD, XC, YB, KO⟩ := hrel
                have x4 := (obj_cells XC.out).1 4 _ rfl
                have QR := Lib.hid (Q.out.later BD.out)
                by_cases hjl : j < kn
                · obtain ⟨c, hc⟩ : ∃ c, x.kids[j]? = some c := ⟨_, List.getElem?_eq_getElem (by rw [KN.out]; exact hjl)⟩
                  obtain ⟨k, rfl, hkN⟩ := par_kid hl2 HXI.out (List.mem_of_getElem? hc)
                  rw [HN.out] at hkN
                  obtain ⟨kb, ko, rfl, e0⟩ := ints_at ROW.out hc
                  have KT : Hid ((x.kids.take (j + 1)).map (fun (k : Int) => widA s.data.toList u.data.toList k.toNat) = (x.kids.take j).map (fun (k : Int) => widA s.data.toList u.data.toList k.toNat) ++ [widA s.data.toList u.data.toList k]) := Lib.hid (by
                    rw [List.take_add_one, hc, List.map_append]; rfl)
                  obtain ⟨wk, hwk⟩ : ∃ v, widA s.data.toList u.data.toList k = v := ⟨_, rfl⟩
                  rw [hwk] at KT
                  have kc0 : wr.cell? ⟨kb, ko + j, none⟩ = some (.int .i64 k) := QR.out.rs.bl.cell e0
                  have ik : wr.cell? ⟨ig, k, none⟩ = some (.int .i64 wk) := by
                    obtain ⟨v, h1, h2⟩ := QR.out.rs.cell hkN
                    rw [wid_get (by rw [HN.out]; exact hkN), hwk] at h2
                    cases h2
                    exact h1
                  have LJ : Hid (((x.kids.take j).map (fun (k : Int) => widA s.data.toList u.data.toList k.toNat)).length = j) := Lib.hid (by rw [List.length_map, List.length_take, KN.out]; omega)
                  generalize (x.kids.take j).map (fun (k : Int) => widA s.data.toList u.data.toList k.toNat) = ks at *
                  obtain ⟨kvp, kvc, rfl⟩ := KO.out.form
                  rw [LJ.out] at KO YB
                  obtain ⟨i0, hi3, hz0, hz1, hz2⟩ := info_parts info3
                  have OWI : Hid (∀ W', Below wr.heap.size wr W' → W'.ownsRow wo.heap.size 3 1 (.slice kvp j kvc) j (lyI.all ks)) := Lib.hid (fun W' hW => by
                    have := KO.out.below hW
                    unfold Ly.Own at this
                    rwa [LJ.out] at this)
                  have ybl := (Array.getElem?_eq_some_iff.1 YB.out).1
                  have y4 := (obj_cells YB.out).1 4 _ rfl
                  have yf := (obj_cells YB.out).2.1 4
                  have o8 := (obj_cells QR.out.rs.obj).1 8 _ rfl
                  have hj0 : (0 : Int) ≤ (j : Int) := by omega
                  have hj1 : (j : Int) < (kn : Int) := by omega
                  have hk0 : (0 : Int) ≤ (k : Int) := by omega
                  have hk1 : (k : Int) < (N : Int) := by omega
                  have hsz : Hid (wo.heap.size ≤ wr.heap.size) := Lib.hid BD.out.size
                  clear hc e0 hwk
                  go_upto_region 28 with fail
                  go_region_law (refine step_append_all _ (by rfl) (.tmp 131) (.tmp 143) 41 (by rfl) wo.heap.size 3 i0 _ 1 8 Try.underlying41 hi3 hz0 hz1 hz2 rfl (by decide) (.slice kvp j kvc) j (lyI.all ks) (by rfl) (OWI.out _ (below_drew (below1 (Below.refl _ _) (Nat.le_refl _) _))) (some ⟨wr.heap.size, 0, none⟩) 1 1 [.int .i64 wk] (by rfl) rfl (fun e => by cases e) (fun ad hp => by cases hp; exact one_new rfl wk) (lyI.one wk) (by unfold maxLen; omega) (by omega) (Nat.le_trans hsz.out (by simp)) (j + 1) rfl ?_
                                 intro p6 c6 w6 hown6 hgrow6 hblk6
                                 have Y6 := kid_box YB.out KO.out hgrow6
                                 have y6 := (obj_cells Y6).2.1 4
                                 have y7 := (obj_cells Y6).1 4 _ rfl
                                 have FIN := Lib.hid (kid_put BD.out XC.out YB.out HYB.out KO.out LJ.out hgrow6 hown6)
                                 clear Y6 hown6 hgrow6 hblk6)
                  all_goals
                    obtain ⟨g1, g2, g3, g4⟩ := FIN.out
                    have G1 := Lib.hid g1; have G2 := Lib.hid g2; have G3 := Lib.hid g3; have G4 := Lib.hid g4
                    clear g1 g2 g3 g4 FIN y6 y7 y4 yf x4 o8 kc0 ik
                    go_wp2_with fail
                    go_roundw
                    case rel => exact ⟨j + 1, _, by go_num, by omega, G1, G2, G3, Lib.hid (by rw [KT.out]; exact G4.out)⟩
                    case measure => simp [intOf]; omega
                · have ej : j = kn := by omega
                  subst ej
                  have TK : Hid ((x.kids.take j).map (fun (k : Int) => widA s.data.toList u.data.toList k.toNat) = (reW (widA s.data.toList u.data.toList) x).kids) := Lib.hid (by rw [List.take_of_length_le (by rw [KN.out]; omega)]; rfl)
                  rw [TK.out] at KO
                  have KL : Hid ((reW (widA s.data.toList u.data.toList) x).kids.length = j) := Lib.hid (by rw [← TK.out, List.length_map, List.length_take, KN.out]; omega)
                  obtain ⟨kvp, kvc, rfl⟩ := KO.out.form
                  rw [KL.out] at KO YB
                  obtain ⟨np, nc, hnv⟩ := Q.out.own.row.form
                  subst hnv
                  have NL : Hid (vs.length = i) := Lib.hid (by rw [Q.out.own.len, renP_len (by rw [HN.out]; omega)])
                  rw [NL.out] at Q QR
                  have PC := Lib.hid (placed_any w.heap.size i nc np vs (renP s.data.toList u.data.toList i) ⟨wi, x.kd, x.fr, Nd.to x, kvp, j, kvc⟩ (reW (widA s.data.toList u.data.toList) x) wr QR.out.own ⟨by
                      show wi = widA s.data.toList u.data.toList x.id.toNat
                      rw [HID.out, Int.toNat_natCast, HWI.out], rfl, rfl, rfl, KO.out.mono (Nat.le_trans B3.out.size (Nat.le_trans Q.out.rs.bl.size (Nat.le_refl _)))⟩ (fun m y q hy hq e => by
                      have h1 := (List.getElem?_eq_some_iff.1 hy).1
                      have h2 := Q.out.own.fit m y _ hy (List.getElem?_eq_getElem (by rw [← Q.out.own.len]; exact h1))
                      have h3 := (h2.2.2.2.2.lt hq).2
                      have h4 := (KO.out.lt e).1
                      omega) (by omega) (Nat.le_trans B3.out.size QR.out.rs.bl.size))
                  have RLen : Hid ((renP s.data.toList u.data.toList i).length = i) := Lib.hid (renP_len (by rw [HN.out]; omega))
                  have y0 := (obj_cells YB.out).1 0 _ rfl
                  have y1 := (obj_cells YB.out).1 1 _ rfl
                  have y2 := (obj_cells YB.out).1 2 _ rfl
                  have y3 := (obj_cells YB.out).1 3 _ rfl
                  have y4 := (obj_cells YB.out).1 4 _ rfl
                  have b2 := (obj_cells QR.out.box).1 2 _ rfl
                  go_wp2_with (go_at_call 39; refine PC.out.mono ?_; rintro e w9 ⟨p9, c9, vs9, rfl, own9, hb9⟩; rw [RLen.out] at own9 ⊢; rw [renP_step HXI.out] at own9; have Q9 := Lib.hid (QR.out.put hb9 own9); have b9 := (obj_cells (heap_later QR.out.box hb9)).2.1 2; have b8 := (obj_cells (heap_later QR.out.box hb9)).1 2 _ rfl; clear own9 hb9)
                  go_roundw
                  case rel => exact ⟨i + 1, _, vs9, by go_num, by omega, Q9⟩
                  case measure => simp [intOf]; omega
          · have ei : i = N := by omega
            subst ei
            have RB := Lib.hid (heap_later R3.out Q.out.rs.bl)
            obtain ⟨np, nc, hnv⟩ := Q.out.own.row.form
            subst hnv
            have NL : Hid (vs.length = (renN s.data.toList u.data.toList).length) := Lib.hid (by rw [Q.out.own.len, renP_all _ _ (by rw [HN.out]; exact Nat.le_refl _)])
            rw [NL.out] at Q
            have OW : Hid (OwnT wo w.heap.size (.slice np (renN s.data.toList u.data.toList).length nc) vs (renN s.data.toList u.data.toList)) := Lib.hid (by
              have := Q.out.own
              rwa [renP_all _ _ (by rw [HN.out]; exact Nat.le_refl _)] at this)
            have b0 := (obj_cells Q.out.box).1 0 _ rfl
            have b1 := (obj_cells Q.out.box).1 1 _ rfl
            have b2 := (obj_cells Q.out.box).1 2 _ rfl
            have r0 := (obj_cells RB.out).1 0 _ rfl
            have r1 := (obj_cells RB.out).1 1 _ rfl
            have r2 := (obj_cells RB.out).1 2 _ rfl
            have rf := (obj_cells RB.out).2.1
            have BW := Lib.hid (B3.out.call Q.out.rs.bl)
            have FO := Lib.hid (fun (us : List Value) => OW.out.kept (setAll_one wo (w.heap.size + 1) 0 us) RB.out (by decide) (by decide))
            go_wp2_with fail
            refine bodyPost_ret (v := .tuple #[.agg #[.int .i64 0, .int .i64 X, .slice np (renN s.data.toList u.data.toList).length nc], .int .i64 0]) (by rw [results_cell_tmp rfl]; go_simp) rfl ⟨np, nc, vs, by rw [HX.out], ?_, ?_⟩
            · exact FO.out [_, _, _]
            · exact Bl.set (Bl.set (Bl.set BW.out (by omega) _) (by omega) _) (by omega) _

end Go.Proofs.Ytmeigoeknjoodaa
