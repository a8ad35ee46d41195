/-
  Apl, Apg, Apc, in one text. Conditions: as each theorem's premises say.
-/
import Derived.Test.YtdhkjhdbaofdcaaSrB
import Derived.Test.YtdhkjhdbaofdcaaOwd
import Derived.Test.YtdhkjhdbaofdcaaTma
import Derived.Test.YtdhkjhdbaofdcaaAwP
namespace Go.Proofs.Ytdhkjhdbaofdcaa
open Go.RowKit

theorem act_bounds {s : St} {ns : List Nd} {nx : Int} (hb : ∀ m ∈ ns, 0 ≤ m.id ∧ m.id < 16777216) (hm : stepMay s = true) : ∀ m ∈ (actN s (ns, nx)).1, 0 ≤ m.id ∧ m.id < 16777216 := by
  intro m h
  unfold actN at h
  by_cases k0 : s.kd = 0
  · rw [if_pos k0] at h
    exact hb m (List.mem_filter.1 h).1
  · rw [if_neg k0] at h
    by_cases k1 : s.kd = 1
    · rw [if_pos k1] at h
      rcases List.mem_cons.1 ((ins_perm _ ns).mem_iff.1 h) with rfl | h
      · exact may_id hm
      · exact hb m h
    · rw [if_neg k1] at h
      by_cases k2 : s.kd = 2
      · rw [if_pos k2] at h
        obtain ⟨y, hy, rfl⟩ := List.mem_map.1 h
        split
        · exact hb y hy
        · exact hb y hy
      · rw [if_neg k2] at h
        obtain ⟨y, hy, rfl⟩ := List.mem_map.1 h
        split
        · exact hb y hy
        · exact hb y hy
theorem may_bounds {ns : List Nd} {root next size : Int} (h : mayB ns root next size = true) : ∀ m ∈ ns, 0 ≤ m.id ∧ m.id < 16777216 := fun m hm => by
  have := ((may_fit h).2 m hm).1
  unfold idB at this
  simpa using this
/-- The draft's row as nodes. -/
theorem own_nodes {w0 w : World} {base N cap : Nat} {p : Option Addr} {us : List Nv} {ns : List Nd} (h0 : Bl w0 w) (ho : lyN.Own w base (.slice p N cap) us) (hN : ns.length = N) (hf : ∀ (i : Nat) v m, us[i]? = some v → ns[i]? = some m → PairR w0 v m) : NodesR w p ns := fun i n hi => by
  have hl : i < us.length := by rw [own_len ho, ← hN]; exact (List.getElem?_eq_some_iff.1 hi).1
  have hv := List.getElem?_eq_getElem hl
  obtain ⟨a, b, c, d, e, f⟩ := hf i _ n hv hi
  obtain ⟨g, o, hp, hat⟩ := ho.row i _ hv
  generalize us[i] = v at *
  obtain ⟨vid, vkd, vfr, vtt, vkp, vkn, vkc⟩ := v
  dsimp only at a b c d e f
  subst a b c d e
  exact ⟨g, o, vkp, vkc, hp, hat, f.below h0⟩
theorem patch_off {ns : List Nd} {root next size : Int} {ss : List St} (h : mayB ns root next (endN ns root) = false) : patchP ns root next ss size = none := by
  unfold patchP
  rw [h]; rfl
theorem patch_many {ns : List Nd} {root next size : Int} {ss : List St} (h : 8192 < ss.length) : patchP ns root next ss size = none := by
  unfold patchP
  rw [decide_eq_false (show ¬ ss.length ≤ 8192 by omega), Bool.and_false]; rfl
theorem patch_on {ns : List Nd} {root next size : Int} {ss : List St} (h : mayB ns root next (endN ns root) = true) (hT : ss.length ≤ 8192) : patchP ns root next ss size = match doN ss (ns, next) with | none => none | some q => if mayB q.1 root q.2 size then some q else none := by
  unfold patchP
  rw [h, decide_eq_true hT]
  rfl

set_option maxRecDepth 1000000 in
set_option maxHeartbeats 8000000 in
/-- Too many steps, or a tree that may not be. -/
theorem apply_many (w : World) (ns : List Nd) (root next : Int) (pt : Option Addr) (N ct : Nat) (ss : List St) (ps : Option Addr) (T cs : Nat) (size : Int) (h : patchP ns root next ss size = none) (hT : 8192 < T) (hT47 : T ≤ 140737488355328) :
    Calls Try.prog 9 #[.agg #[.int .i64 root, .int .i64 next, .slice pt N ct], .slice ps T cs, .int .i64 size] w (PatPost ns root next ss size w) := by
  have NO := Lib.hid h
  have hT8 : (8192 : Int) < (T : Int) := by omega
  have BW : Hid (Bl w ((w.alloc (.cells #[.int .i64 root, .int .i64 next, .slice pt N ct] 24)).alloc (.cells #[.int .i64 0, .int .i64 0, .slice none 0 0] 24))) := Lib.hid (Bl.alloc (Bl.alloc (Bl.refl _) _) _)
  have RB : Hid (((w.alloc (.cells #[.int .i64 root, .int .i64 next, .slice pt N ct] 24)).alloc (.cells #[.int .i64 0, .int .i64 0, .slice none 0 0] 24)).heap[w.heap.size + 1]? = some (.cells #[.int .i64 0, .int .i64 0, .slice none 0 0] 24 (0, 0))) := Lib.hid (heap_new (by simp) _ _)
  clear h
  go_enter Try.func9, Try.ntmps9
  go_upto_region 1 with fail
  generalize ((w.alloc (.cells #[.int .i64 root, .int .i64 next, .slice pt N ct] 24)).alloc (.cells #[.int .i64 0, .int .i64 0, .slice none 0 0] 24)) = w1 at BW RB ⊢
  have r0 := (obj_cells RB.out).1 0 _ rfl; have r1 := (obj_cells RB.out).1 1 _ rfl; have r2 := (obj_cells RB.out).1 2 _ rfl; have rf := (obj_cells RB.out).2.1
  go_wp2_with fail
  refine bodyPost_ret (v := .tuple #[.agg #[.int .i64 0, .int .i64 0, .slice none 0 0], .int .i64 1500]) (by rw [results_cell_tmp rfl]; go_simp) rfl ?_
  exact .inl ⟨NO.out, rfl, Bl.set (Bl.set (Bl.set BW.out (by omega) _) (by omega) _) (by omega) _⟩

set_option maxRecDepth 1000000 in
set_option maxHeartbeats 8000000 in
theorem apply_off (w : World) (ns : List Nd) (root next : Int) (pt : Option Addr) (N ct : Nat) (ss : List St) (ps : Option Addr) (T cs : Nat) (size : Int) (hN : ns.length = N) (R : NodesR w pt ns) (lN : N ≤ 140737488355328) (kN : ∀ x ∈ ns, x.kids.length ≤ 140737488355328) (h : mayB ns root next (endN ns root) = false) (hT : T ≤ 8192) :
    Calls Try.prog 9 #[.agg #[.int .i64 root, .int .i64 next, .slice pt N ct], .slice ps T cs, .int .i64 size] w (PatPost ns root next ss size w) := by
  have NO := Lib.hid (patch_off (ss := ss) (size := size) h)
  have hT8 : ¬ (8192 : Int) < (T : Int) := by omega
  have MY := Lib.hid (fun (W : World) (hW : Bl w W) => dmay_any root next pt ns N ct hN W (R.below hW) lN kN)
  rw [h] at MY
  unfold trV at MY
  have BW : Hid (Bl w ((w.alloc (.cells #[.int .i64 root, .int .i64 next, .slice pt N ct] 24)).alloc (.cells #[.int .i64 0, .int .i64 0, .slice none 0 0] 24))) := Lib.hid (Bl.alloc (Bl.alloc (Bl.refl _) _) _)
  have TB : Hid (((w.alloc (.cells #[.int .i64 root, .int .i64 next, .slice pt N ct] 24)).alloc (.cells #[.int .i64 0, .int .i64 0, .slice none 0 0] 24)).heap[w.heap.size]? = some (.cells #[.int .i64 root, .int .i64 next, .slice pt N ct] 24 (0, 0))) := Lib.hid (heap_old (heap_new rfl _ _) _)
  have RB : Hid (((w.alloc (.cells #[.int .i64 root, .int .i64 next, .slice pt N ct] 24)).alloc (.cells #[.int .i64 0, .int .i64 0, .slice none 0 0] 24)).heap[w.heap.size + 1]? = some (.cells #[.int .i64 0, .int .i64 0, .slice none 0 0] 24 (0, 0))) := Lib.hid (heap_new (by simp) _ _)
  clear h R hN lN kN
  go_enter Try.func9, Try.ntmps9
  go_upto_region 1 with fail
  generalize ((w.alloc (.cells #[.int .i64 root, .int .i64 next, .slice pt N ct] 24)).alloc (.cells #[.int .i64 0, .int .i64 0, .slice none 0 0] 24)) = w1 at BW TB RB ⊢
  have t0 := (obj_cells TB.out).1 0 _ rfl; have t1 := (obj_cells TB.out).1 1 _ rfl; have t2 := (obj_cells TB.out).1 2 _ rfl
  go_upto_region 2 with (go_at_call 19; refine (MY.out _ BW.out).mono ?_; rintro e w2 ⟨rfl, hb2⟩; have B2 : Hid (Bl w1 w2) := Lib.hid hb2; have RB2 := Lib.hid (heap_later RB.out hb2); clear hb2)
  have BW2 := Lib.hid (BW.out.call B2.out)
  clear t0 t1 t2 MY BW TB RB
  have r0 := (obj_cells RB2.out).1 0 _ rfl; have r1 := (obj_cells RB2.out).1 1 _ rfl; have r2 := (obj_cells RB2.out).1 2 _ rfl; have rf := (obj_cells RB2.out).2.1
  go_wp2_with fail
  refine bodyPost_ret (v := .tuple #[.agg #[.int .i64 0, .int .i64 0, .slice none 0 0], .int .i64 1500]) (by rw [results_cell_tmp rfl]; go_simp) rfl ?_
  exact .inl ⟨NO.out, rfl, Bl.set (Bl.set (Bl.set BW2.out (by omega) _) (by omega) _) (by omega) _⟩

/-- What Apply holds between two steps; w: the world in which the draft was begun. -/
structure AI (w wr : World) (db b : Nat) (root nx : Int) (l : List Nv) (ns : List Nd) (i : Nat) : Prop where
  dr : DrS wr w.heap.size db b root nx l
  nodes : DrN w l ns
  pn : PN ns i
  bnd : ∀ m ∈ ns, 0 ≤ m.id ∧ m.id < 16777216
  below : Bl w wr
theorem AI.later {w wr W : World} {db b : Nat} {root nx : Int} {l : List Nv} {ns : List Nd} {i : Nat} (h : AI w wr db b root nx l ns i) (hb : Bl wr W) : AI w W db b root nx l ns i :=
  ⟨h.dr.later hb, h.nodes, h.pn, h.bnd, h.below.call hb⟩

set_option maxRecDepth 1000000 in
set_option maxHeartbeats 16000000 in
theorem apply_go (w : World) (ns : List Nd) (root next : Int) (pt : Option Addr) (N ct : Nat) (ss : List St) (ps : Option Addr) (T cs : Nat) (size : Int) (hN : ns.length = N) (hT : ss.length = T) (R : NodesR w pt ns) (S : StepsR w ps ss) (lT : T ≤ 8192) (kS : ∀ s ∈ ss, s.kids.length ≤ 140737488355328) (h : mayB ns root next (endN ns root) = true) :
    Calls Try.prog 9 #[.agg #[.int .i64 root, .int .i64 next, .slice pt N ct], .slice ps T cs, .int .i64 size] w (PatPost ns root next ss size w) := by
  obtain ⟨sa, ska⟩ := may_small h
  have hr1 := (may_fit h).1
  have hb1 := may_bounds h
  rw [hN] at sa
  have PP := Lib.hid (patch_on (size := size) h (by rw [hT]; exact lT))
  have hT8 : ¬ (8192 : Int) < (T : Int) := by omega
  have MY := Lib.hid (fun (W : World) (hW : Bl w W) => dmay_any root next pt ns N ct hN W (R.below hW) (by omega) (fun x hx => Nat.le_trans (ska x hx) (by omega)))
  rw [h] at MY
  have ND := Lib.hid (fun (W : World) (hW : Bl w W) => newDraft_any root next pt ns N ct hN (by omega) hr1 W (R.below hW))
  unfold trV at MY ND
  have N0 : Hid (PN ns 0) := Lib.hid ⟨hr1, by omega, ska⟩
  have HB := Lib.hid hb1; have HS := Lib.hid S; have HT := Lib.hid hT; have KS := Lib.hid kS
  have BW : Hid (Bl w ((w.alloc (.cells #[.int .i64 root, .int .i64 next, .slice pt N ct] 24)).alloc (.cells #[.int .i64 0, .int .i64 0, .slice none 0 0] 24))) := Lib.hid (Bl.alloc (Bl.alloc (Bl.refl _) _) _)
  have TB : Hid (((w.alloc (.cells #[.int .i64 root, .int .i64 next, .slice pt N ct] 24)).alloc (.cells #[.int .i64 0, .int .i64 0, .slice none 0 0] 24)).heap[w.heap.size]? = some (.cells #[.int .i64 root, .int .i64 next, .slice pt N ct] 24 (0, 0))) := Lib.hid (heap_old (heap_new rfl _ _) _)
  have RB : Hid (((w.alloc (.cells #[.int .i64 root, .int .i64 next, .slice pt N ct] 24)).alloc (.cells #[.int .i64 0, .int .i64 0, .slice none 0 0] 24)).heap[w.heap.size + 1]? = some (.cells #[.int .i64 0, .int .i64 0, .slice none 0 0] 24 (0, 0))) := Lib.hid (heap_new (by simp) _ _)
  clear h R S hN hT kS hr1 hb1 ska
  go_enter Try.func9, Try.ntmps9
  go_upto_region 1 with fail
  generalize ((w.alloc (.cells #[.int .i64 root, .int .i64 next, .slice pt N ct] 24)).alloc (.cells #[.int .i64 0, .int .i64 0, .slice none 0 0] 24)) = w1 at BW TB RB ⊢
  have t0 := (obj_cells TB.out).1 0 _ rfl; have t1 := (obj_cells TB.out).1 1 _ rfl; have t2 := (obj_cells TB.out).1 2 _ rfl
  go_upto_region 3 with (go_at_call 19; refine (MY.out _ BW.out).mono ?_; rintro e w2 ⟨rfl, hb2⟩; have B2 : Hid (Bl w1 w2) := Lib.hid hb2; have RB2 := Lib.hid (heap_later RB.out hb2); have TB2 := Lib.hid (heap_later TB.out hb2); clear hb2)
  have BW2 := Lib.hid (BW.out.call B2.out)
  clear t0 t1 t2 MY BW TB RB B2
  have t0 := (obj_cells TB2.out).1 0 _ rfl; have t1 := (obj_cells TB2.out).1 1 _ rfl; have t2 := (obj_cells TB2.out).1 2 _ rfl
  go_upto_region 4 with (go_at_call 20; refine (ND.out _ BW2.out).mono ?_; rintro e w3 ⟨db, b, l0, rfl, hd3, he3, hb3⟩; have D3 := Lib.hid hd3; have E3 := Lib.hid he3; have B3 : Hid (Bl w2 w3) := Lib.hid hb3; clear hd3 he3 hb3)
  have A0 : Hid (AI w2 w3 db b root next l0 ns 0) := Lib.hid ⟨D3.out, E3.out, N0.out, HB.out, B3.out⟩
  have S2 := Lib.hid (HS.out.below BW2.out)
  clear t0 t1 t2 ND D3 E3 N0 HB B3 HS TB2
  go_wp2_with fail
  go_loopw [25] (fun v wr => ∃ (j : Nat) (l : List Nv) (ms : List Nd) (nx : Int), j ≤ T ∧ v = .int .i64 j ∧ Hid (AI w2 wr db b root nx l ms j) ∧ Hid (doN (ss.drop j) (ms, nx) = doN ss (ns, next))) (fun v _ => T - (intOf v).toNat)
  case atStart => exact ⟨0, l0, ns, next, by omega, rfl, A0, Lib.hid rfl⟩
  case round =>
    clear A0
    obtain ⟨j, l, ms, nx, hj, rfl, A, DO⟩ := hrel
    by_cases hlt : j < T
    · obtain ⟨s, hs⟩ : ∃ s, ss[j]? = some s := ⟨_, List.getElem?_eq_getElem (by rw [HT.out]; exact hlt)⟩
      obtain ⟨bb, o, kp, kc, rfl, hat, hrow⟩ := S2.out j s hs
      have hat2 := hat.below A.out.below
      have n0 : wr.cell? ⟨bb, o + j * 6, none⟩ = some (.int .i64 s.kd) := hat2 0 _ rfl
      have n1 : wr.cell? ⟨bb, o + j * 6 + 1, none⟩ = some (.int .i64 s.id) := hat2 1 _ rfl
      have n2 : wr.cell? ⟨bb, o + j * 6 + 2, none⟩ = some (.int .i64 s.nd) := hat2 2 _ rfl
      have n3 : wr.cell? ⟨bb, o + j * 6 + 3, none⟩ = some (.int .i64 s.fr) := hat2 3 _ rfl
      have n4 : wr.cell? ⟨bb, o + j * 6 + 4, none⟩ = some (.int .i64 (St.to s)) := hat2 4 _ rfl
      have n5 : wr.cell? ⟨bb, o + j * 6 + 5, none⟩ = some (.slice kp s.kids.length kc) := hat2 5 _ rfl
      have hi0 : (0 : Int) ≤ (j : Int) := by omega
      have hi1 : (j : Int) < (T : Int) := by omega
      have ROW := Lib.hid hrow
      have DS := Lib.hid (do_step (p := (ms, nx)) hs)
      have hks := KS.out s (List.mem_of_getElem? hs)
      have BX : Hid (Bl wr (wr.alloc (.cells #[.int .i64 s.kd, .int .i64 s.id, .int .i64 s.nd, .int .i64 s.fr, .int .i64 (St.to s), .slice kp s.kids.length kc] 42))) := Lib.hid (Bl.alloc (Bl.refl _) _)
      have XB : Hid ((wr.alloc (.cells #[.int .i64 s.kd, .int .i64 s.id, .int .i64 s.nd, .int .i64 s.fr, .int .i64 (St.to s), .slice kp s.kids.length kc] 42)).heap[wr.heap.size]? = some (.cells #[.int .i64 s.kd, .int .i64 s.id, .int .i64 s.nd, .int .i64 s.fr, .int .i64 (St.to s), .slice kp s.kids.length kc] 42 (0, 0))) := Lib.hid (heap_new rfl _ _)
      clear hat hat2 hrow hs
      go_upto_region 7 with fail
      clear n0 n1 n2 n3 n4 n5
      generalize (wr.alloc (.cells #[.int .i64 s.kd, .int .i64 s.id, .int .i64 s.nd, .int .i64 s.fr, .int .i64 (St.to s), .slice kp s.kids.length kc] 42)) = w4 at BX XB ⊢
      obtain ⟨xb, hxb⟩ : ∃ g, g = wr.heap.size := ⟨_, rfl⟩
      rw [← hxb] at XB ⊢
      clear hxb
      have A4 := Lib.hid (A.out.later BX.out)
      clear A BX
      have x0 := (obj_cells XB.out).1 0 _ rfl; have x1 := (obj_cells XB.out).1 1 _ rfl; have x2 := (obj_cells XB.out).1 2 _ rfl; have x3 := (obj_cells XB.out).1 3 _ rfl; have x4 := (obj_cells XB.out).1 4 _ rfl; have x5 := (obj_cells XB.out).1 5 _ rfl
      have SM := Lib.hid (smay_any s kp kc w4 (ROW.out.below A4.out.below) hks)
      unfold stV at SM
      cases hm : stepMay s with
      | false =>
        rw [hm] at SM
        have NO : Hid (patchP ns root next ss size = none) := Lib.hid (by
          rw [PP.out, ← DO.out, DS.out]
          unfold fitsN
          rw [hm]; rfl)
        go_upto_region 8 with (go_at_call 21; refine SM.out.mono ?_; rintro e w5 ⟨rfl, hb5⟩; have B5 : Hid (Bl w4 w5) := Lib.hid hb5; clear hb5)
        have B25 := Lib.hid (A4.out.below.call B5.out)
        have RB5 := Lib.hid (heap_later RB2.out B25.out)
        have BW5 := Lib.hid (BW2.out.call B25.out)
        clear x0 x1 x2 x3 x4 x5 SM A4 B5 XB
        have r0 := (obj_cells RB5.out).1 0 _ rfl; have r1 := (obj_cells RB5.out).1 1 _ rfl; have r2 := (obj_cells RB5.out).1 2 _ rfl; have rf := (obj_cells RB5.out).2.1
        go_wp2_with fail
        refine bodyPost_ret (v := .tuple #[.agg #[.int .i64 0, .int .i64 0, .slice none 0 0], .int .i64 1500]) (by rw [results_cell_tmp rfl]; go_simp) rfl ?_
        exact .inl ⟨NO.out, rfl, Bl.set (Bl.set (Bl.set BW5.out (by omega) _) (by omega) _) (by omega) _⟩
      | true =>
        rw [hm] at SM
        have TK := Lib.hid (fun (W : World) (hW : Bl w4 W) => tk_any w2 W w2.heap.size db b root nx l ms s kp kc (A4.out.dr.later hW) A4.out.nodes hm ROW.out (Nat.le_trans A4.out.below.size hW.size))
        unfold stV at TK
        cases hf : fitsN s ms with
        | false =>
          have NO : Hid (patchP ns root next ss size = none) := Lib.hid (by
            rw [PP.out, ← DO.out, DS.out]
            show (match (if fitsN s ms = true then doN (ss.drop (j + 1)) (actN s (ms, nx)) else none) with | none => none | some q => if mayB q.1 root q.2 size then some q else none) = none
            rw [hf]; rfl)
          have TF : Hid (∀ W, Bl w4 W → Calls Try.prog 22 #[.pointer (some ⟨db, 0, none⟩), .agg #[.int .i64 s.kd, .int .i64 s.id, .int .i64 s.nd, .int .i64 s.fr, .int .i64 (St.to s), .slice kp s.kids.length kc]] W (fun e w' => e = .returned (.bool false) ∧ Below w2.heap.size W w')) := Lib.hid (fun W hW => (TK.out W hW).mono (by
            rintro e w' ⟨h1, ⟨-, rfl⟩ | ⟨h2, -⟩⟩
            · exact ⟨rfl, h1⟩
            · rw [hf] at h2; cases h2))
          clear TK
          go_upto_region 8 with (first | (go_at_call 21; refine SM.out.mono ?_; rintro e w5 ⟨rfl, hb5⟩; have B5 : Hid (Bl w4 w5) := Lib.hid hb5; have y0 := (obj_cells (heap_later XB.out hb5)).1 0 _ rfl; have y1 := (obj_cells (heap_later XB.out hb5)).1 1 _ rfl; have y2 := (obj_cells (heap_later XB.out hb5)).1 2 _ rfl; have y3 := (obj_cells (heap_later XB.out hb5)).1 3 _ rfl; have y4 := (obj_cells (heap_later XB.out hb5)).1 4 _ rfl; have y5 := (obj_cells (heap_later XB.out hb5)).1 5 _ rfl; clear hb5) | (go_at_call 22; refine (TF.out _ B5.out).mono ?_; rintro e w6 ⟨rfl, hb6⟩; have B6 := Lib.hid hb6; clear hb6))
          have B26 : Hid (Bl w2 w6) := Lib.hid (Below.trans (A4.out.below.call B5.out) B6.out)
          have RB6 := Lib.hid (heap_later RB2.out B26.out)
          have BW6 := Lib.hid (BW2.out.call B26.out)
          clear x0 x1 x2 x3 x4 x5 y0 y1 y2 y3 y4 y5 SM A4 B5 XB TF B6
          have r0 := (obj_cells RB6.out).1 0 _ rfl; have r1 := (obj_cells RB6.out).1 1 _ rfl; have r2 := (obj_cells RB6.out).1 2 _ rfl; have rf := (obj_cells RB6.out).2.1
          go_wp2_with fail
          refine bodyPost_ret (v := .tuple #[.agg #[.int .i64 0, .int .i64 0, .slice none 0 0], .int .i64 1500]) (by rw [results_cell_tmp rfl]; go_simp) rfl ?_
          exact .inl ⟨NO.out, rfl, Bl.set (Bl.set (Bl.set BW6.out (by omega) _) (by omega) _) (by omega) _⟩
        | true =>
          have DO2 : Hid (doN (ss.drop (j + 1)) (actN s (ms, nx)) = doN ss (ns, next)) := Lib.hid (by
            rw [← DO.out, DS.out]
            show _ = (if fitsN s ms = true then doN (ss.drop (j + 1)) (actN s (ms, nx)) else none)
            rw [if_pos hf])
          have PN2 := Lib.hid (act_PN (nx := nx) A4.out.pn hf)
          have BN2 := Lib.hid (act_bounds (nx := nx) A4.out.bnd hm)
          have TT : Hid (∀ W, Bl w4 W → Calls Try.prog 22 #[.pointer (some ⟨db, 0, none⟩), .agg #[.int .i64 s.kd, .int .i64 s.id, .int .i64 s.nd, .int .i64 s.fr, .int .i64 (St.to s), .slice kp s.kids.length kc]] W (fun e w' => e = .returned (.bool true) ∧ ∃ l', AI w2 w' db b root (actN s (ms, nx)).2 l' (actN s (ms, nx)).1 (j + 1))) := Lib.hid (fun W hW => (TK.out W hW).mono (by
            rintro e w' ⟨h1, ⟨h2, -⟩ | ⟨-, rfl, l', hd, he⟩⟩
            · rw [hf] at h2; cases h2
            · exact ⟨rfl, l', hd, he, PN2.out, BN2.out, Below.trans (A4.out.below.call hW) h1⟩))
          clear TK
          go_upto_region 9 with (first | (go_at_call 21; refine SM.out.mono ?_; rintro e w5 ⟨rfl, hb5⟩; have B5 : Hid (Bl w4 w5) := Lib.hid hb5; have y0 := (obj_cells (heap_later XB.out hb5)).1 0 _ rfl; have y1 := (obj_cells (heap_later XB.out hb5)).1 1 _ rfl; have y2 := (obj_cells (heap_later XB.out hb5)).1 2 _ rfl; have y3 := (obj_cells (heap_later XB.out hb5)).1 3 _ rfl; have y4 := (obj_cells (heap_later XB.out hb5)).1 4 _ rfl; have y5 := (obj_cells (heap_later XB.out hb5)).1 5 _ rfl; clear hb5) | (go_at_call 22; refine (TT.out _ B5.out).mono ?_; rintro e w6 ⟨rfl, l6, ha6⟩; have A6 := Lib.hid ha6; clear ha6))
          clear x0 x1 x2 x3 x4 x5 y0 y1 y2 y3 y4 y5 SM A4 B5 XB TT
          go_wp2_with fail
          go_roundw
          case rel => exact ⟨j + 1, l6, _, _, by omega, by go_num, A6, DO2⟩
          case measure => simp [intOf]; omega
    · have ej : j = T := by omega
      subst ej
      have PD : Hid (patchP ns root next ss size = if mayB ms root nx size then some (ms, nx) else none) := Lib.hid (by
        rw [PP.out, ← DO.out, List.drop_of_length_le (by rw [HT.out]; omega)]
        rfl)
      obtain ⟨M, hM⟩ : ∃ M, ms.length = M := ⟨_, rfl⟩
      have HM := Lib.hid hM
      have hMl : M ≤ 100000 := by have := A.out.pn.len; omega
      have DT := Lib.hid (dtree_any w2 wr w2.heap.size db b root nx l ms M hM A.out.dr A.out.nodes A.out.pn.rises A.out.bnd (by omega))
      clear hM
      go_upto_region 11 with (go_at_call 23; refine DT.out.mono ?_; rintro e w4 ⟨p, cap, us, rfl, ho, hf, hb4⟩; have O4 := Lib.hid ho; have HF := Lib.hid hf; have B4 : Hid (Bl wr w4) := Lib.hid hb4; clear ho hf hb4)
      have BX : Hid (Bl w4 (w4.alloc (.cells #[.int .i64 root, .int .i64 nx, .slice p M cap] 24))) := Lib.hid (Bl.alloc (Bl.refl _) _)
      have LB : Hid ((w4.alloc (.cells #[.int .i64 root, .int .i64 nx, .slice p M cap] 24)).heap[w4.heap.size]? = some (.cells #[.int .i64 root, .int .i64 nx, .slice p M cap] 24 (0, 0))) := Lib.hid (heap_new rfl _ _)
      generalize (w4.alloc (.cells #[.int .i64 root, .int .i64 nx, .slice p M cap] 24)) = w5 at BX LB ⊢
      obtain ⟨lb, hlb⟩ : ∃ g, g = w4.heap.size := ⟨_, rfl⟩
      rw [← hlb] at LB ⊢
      clear hlb
      have B25 := Lib.hid (A.out.below.call (B4.out.call BX.out))
      have O5 := Lib.hid ((O4.out.below BX.out).mono A.out.below.size)
      have NR := Lib.hid (own_nodes B25.out O5.out HM.out HF.out)
      have MY2 := Lib.hid (may_any root nx size p ms M cap HM.out w5 NR.out (by omega) (fun x hx => Nat.le_trans (A.out.pn.kids x hx) (by omega)))
      rw [mayP_is_B] at MY2
      unfold trV at MY2
      have l0' := (obj_cells LB.out).1 0 _ rfl; have l1' := (obj_cells LB.out).1 1 _ rfl; have l2' := (obj_cells LB.out).1 2 _ rfl
      clear DT A B4 BX O4 S2
      cases hm : mayB ms root nx size with
      | false =>
        rw [hm] at MY2
        have NO : Hid (patchP ns root next ss size = none) := Lib.hid (by rw [PD.out, hm]; rfl)
        go_upto_region 12 with (go_at_call 24; refine MY2.out.mono ?_; rintro e w6 ⟨rfl, hb6⟩; have B6 : Hid (Bl w5 w6) := Lib.hid hb6; clear hb6)
        have B26 := Lib.hid (B25.out.call B6.out)
        have RB6 := Lib.hid (heap_later RB2.out B26.out)
        have BW6 := Lib.hid (BW2.out.call B26.out)
        clear l0' l1' l2' MY2 B6 LB
        have r0 := (obj_cells RB6.out).1 0 _ rfl; have r1 := (obj_cells RB6.out).1 1 _ rfl; have r2 := (obj_cells RB6.out).1 2 _ rfl; have rf := (obj_cells RB6.out).2.1
        go_wp2_with fail
        refine bodyPost_ret (v := .tuple #[.agg #[.int .i64 0, .int .i64 0, .slice none 0 0], .int .i64 1500]) (by rw [results_cell_tmp rfl]; go_simp) rfl ?_
        exact .inl ⟨NO.out, rfl, Bl.set (Bl.set (Bl.set BW6.out (by omega) _) (by omega) _) (by omega) _⟩
      | true =>
        rw [hm] at MY2
        have YES : Hid (patchP ns root next ss size = some (ms, nx)) := Lib.hid (by rw [PD.out, hm]; rfl)
        obtain ⟨sm, smk⟩ := may_small hm
        have OW := Lib.hid (fun (W : World) (hW : Bl w5 W) => owned_any w2 W w2.heap.size root nx p M cap us ms HM.out (by have := HM.out; omega) (fun x hx => Nat.le_trans (smk x hx) (by omega)) (Nat.le_trans B25.out.size hW.size) (Nat.le_refl _) (B25.out.call hW) (O5.out.below hW) HF.out)
        clear smk hm
        go_upto_region 13 with (go_at_call 24; refine MY2.out.mono ?_; rintro e w6 ⟨rfl, hb6⟩; have B6 : Hid (Bl w5 w6) := Lib.hid hb6; have LB6 := Lib.hid (heap_later LB.out hb6); clear hb6)
        clear l0' l1' l2' MY2
        have l0 := (obj_cells LB6.out).1 0 _ rfl; have l1 := (obj_cells LB6.out).1 1 _ rfl; have l2 := (obj_cells LB6.out).1 2 _ rfl
        go_wp2_with (go_at_call 25; refine (OW.out _ B6.out).mono ?_; rintro e w7 ⟨vs, rfl, ho7, hb7⟩; have O7 := Lib.hid ho7; have B7 : Hid (Bl w2 w7) := Lib.hid (Below.trans (B25.out.call B6.out) hb7); have RB7 := Lib.hid (heap_later RB2.out B7.out); have r0 := (obj_cells RB7.out).1 0 _ rfl; have r1 := (obj_cells RB7.out).1 1 _ rfl; have r2 := (obj_cells RB7.out).1 2 _ rfl; have rf := (obj_cells RB7.out).2.1; clear ho7 hb7)
        refine bodyPost_ret (v := .tuple #[.agg #[.int .i64 root, .int .i64 nx, .slice p M cap], .int .i64 0]) (by rw [results_cell_tmp rfl]; go_simp) rfl ?_
        have g2 := setAll_one w7 (w.heap.size + 1) 0 [.int .i64 root, .int .i64 nx, .slice p M cap]
        refine .inr ⟨(ms, nx), YES.out, p, cap, vs, by rw [HM.out], ?_, Bl.set (Bl.set (Bl.set (BW2.out.call B7.out) (by omega) _) (by omega) _) (by omega) _⟩
        rw [HM.out]
        exact (O7.out.mono BW2.out.size).kept g2 RB7.out (by decide) (by decide)

theorem apply_any : ApC := fun W ns root next pt N ct ss ps T cs size hN hT R S lc lN kN lT kS => by
  by_cases h8 : T ≤ 8192
  · cases h : mayB ns root next (endN ns root) with
    | true => exact apply_go W ns root next pt N ct ss ps T cs size hN hT R S h8 kS h
    | false => exact apply_off W ns root next pt N ct ss ps T cs size hN R lN kN h h8
  · exact apply_many W ns root next pt N ct ss ps T cs size (patch_many (by rw [hT]; omega)) (by omega) lT

end Go.Proofs.Ytdhkjhdbaofdcaa
