/-
  PaW, PaN, in one text. Conditions: as each theorem's premises say.
-/
import Derived.Test.YtdhkjhdbaofdcaaPa1
import Derived.Test.YtdhkjhdbaofdcaaCoB
import Derived.Test.YtdhkjhdbaofdcaaStB
import Derived.Test.YtdhkjhdbaofdcaaRw4
namespace Go.Proofs.Ytdhkjhdbaofdcaa
open Go.RowKit

/-- What Patch holds: the answer's box, the copy's, its nodes so far. -/
structure PI (w wr : World) (rb ob : Nat) (root nx : Int) (nv : Value) (vs : List Nv) (ns : List Nd) : Prop where
  boxR : wr.heap[rb]? = some (.cells #[.int .i64 0, .int .i64 0, .slice none 0 0] 24 (0, 0))
  boxO : wr.heap[ob]? = some (.cells #[.int .i64 root, .int .i64 nx, nv] 24 (0, 0))
  own : OwnT wr w.heap.size nv vs ns
  below : Bl w wr
  newR : w.heap.size ≤ rb
  newO : w.heap.size ≤ ob
  ne : rb ≠ ob
theorem PI.later {w wr W : World} {rb ob : Nat} {root nx : Int} {nv : Value} {vs : List Nv} {ns : List Nd} (h : PI w wr rb ob root nx nv vs ns) (hb : Bl wr W) : PI w W rb ob root nx nv vs ns :=
  ⟨heap_later h.boxR hb, heap_later h.boxO hb, h.own.below hb, h.below.call hb, h.newR, h.newO, h.ne⟩

theorem PI.put {w wr W : World} {rb ob : Nat} {root nx : Int} {nv nv' : Value} {vs vs' : List Nv} {ns ns' : List Nd} (h : PI w wr rb ob root nx nv vs ns) (hb : Bl wr W) (ho : OwnT W w.heap.size nv' vs' ns') : PI w (W.setCell ⟨ob, 2, none⟩ nv') rb ob root nx nv' vs' ns' := by
  have h2 := h.later hb
  have hg := set_grown W ob 2 nv'
  refine ⟨(hg.block rb (Array.getElem?_eq_some_iff.1 h2.boxR).1 (fun e => h.ne (Option.some.inj e))).trans h2.boxR, by rw [heap_setCell_at h2.boxO]; rfl, ho.kept hg h2.boxO (by decide) (by decide), h2.below.set h.newO _, h.newR, h.newO, h.ne⟩
theorem PI.next {w W : World} {rb ob : Nat} {root nx : Int} {nv : Value} {vs : List Nv} {ns : List Nd} (h : PI w W rb ob root nx nv vs ns) (nx' : Int) : PI w (W.setCell ⟨ob, 1, none⟩ (.int .i64 nx')) rb ob root nx' nv vs ns := by
  have hg := set_grown W ob 1 (.int .i64 nx')
  refine ⟨(hg.block rb (Array.getElem?_eq_some_iff.1 h.boxR).1 (fun e => h.ne (Option.some.inj e))).trans h.boxR, by rw [heap_setCell_at h.boxO]; rfl, h.own.kept hg h.boxO (by decide) (by decide), h.below.set h.newO _, h.newR, h.newO, h.ne⟩
theorem PI.wrote {w W W' : World} {rb ob g : Nat} {c : Array Value} {root nx : Int} {nv : Value} {vs vs' : List Nv} {ns ns' : List Nd} (h : PI w W rb ob root nx nv vs ns) (hg : W.grownBy W' (some g)) (hG : W.heap[g]? = some (.cells c 46 (0, 0))) (hb : w.heap.size ≤ g) (ho : OwnT W' w.heap.size nv vs' ns') : PI w W' rb ob root nx nv vs' ns' := by
  refine ⟨(hg.block rb (Array.getElem?_eq_some_iff.1 h.boxR).1 (fun e => type_ne h.boxR hG (by decide) (Option.some.inj e))).trans h.boxR, (hg.block ob (Array.getElem?_eq_some_iff.1 h.boxO).1 (fun e => type_ne h.boxO hG (by decide) (Option.some.inj e))).trans h.boxO, ho, h.below.trans (below_grownN hg (fun k hk => by cases hk; exact hb) h.below.size), h.newR, h.newO, h.ne⟩
theorem rcopy_c (root next : Int) (p : Option Addr) (ns : List Nd) (n cap : Nat) (hn : ns.length = n) (w : World) (h : NodesR w p ns) (hl : n * 56 ≤ 140737488355328) (hk : ∀ x ∈ ns, x.kids.length * 8 ≤ 140737488355328) :
    Calls Try.prog 28 #[.agg #[.int .i64 root, .int .i64 next, .slice p n cap]] w (fun e w' => ∃ p c vs, e = .returned (.agg #[.int .i64 root, .int .i64 next, .slice p n c]) ∧ OwnT w' w.heap.size (.slice p n c) vs ns ∧ Bl w w') := by
  refine (rcopyTree_any root next p ns n cap hn w h hl hk).mono ?_
  rintro e w' ⟨q, c, vs, rfl, ho, hb⟩
  rw [hn] at ho ⊢
  exact ⟨q, c, vs, rfl, ho, hb⟩
def PatNo (w : World) (e : Ending) (w' : World) : Prop := e = .returned (.tuple #[.agg #[.int .i64 0, .int .i64 0, .slice none 0 0], .int .i64 1500]) ∧ Bl w w'
def PatYes (root : Int) (q : List Nd × Int) (w : World) (e : Ending) (w' : World) : Prop := ∃ p cap vs, e = .returned (.tuple #[.agg #[.int .i64 root, .int .i64 q.2, .slice p q.1.length cap], .int .i64 0]) ∧ OwnT w' w.heap.size (.slice p q.1.length cap) vs q.1 ∧ Bl w w'
/-- What Patch answers. -/
def PatPost (ns : List Nd) (root next : Int) (ss : List St) (size : Int) (w : World) (e : Ending) (w' : World) : Prop :=
  (patchP ns root next ss size = none ∧ PatNo w e w') ∨ (∃ q, patchP ns root next ss size = some q ∧ PatYes root q w e w')

set_option maxRecDepth 1000000 in
set_option maxHeartbeats 16000000 in
theorem rpatch_go (ns : List Nd) (root next : Int) (pt : Option Addr) (N ct : Nat) (hN : ns.length = N) (ss : List St) (ps : Option Addr) (T cs : Nat) (hT : ss.length = T) (size : Int) (w : World) (ha : NodesR w pt ns) (hs : StepsR w ps ss) (lT : T ≤ 8192) (ks : ∀ s ∈ ss, s.kids.length ≤ 140737488355328)
    (h1 : mayB ns root next (endN ns root) = true) : Calls Try.prog 10 #[.agg #[.int .i64 root, .int .i64 next, .slice pt N ct], .slice ps T cs, .int .i64 size] w (PatPost ns root next ss size w) := by
  obtain ⟨sa, ska⟩ := may_small h1
  have hr1 := (may_fit h1).1
  rw [hN] at sa
  have PP : Hid (patchP ns root next ss size = match doN ss (ns, next) with | none => none | some q => if mayB q.1 root q.2 size then some q else none) := Lib.hid (by
    unfold patchP
    rw [h1, hT, decide_eq_true lT]
    rfl)
  have EA := Lib.hid (fun (W : World) (hW : Bl w W) => rootEnd_any root next pt ns N ct hN W (ha.below hW) (by omega))
  have TA := Lib.hid (fun (W : World) (hW : Bl w W) => treeMay_any root next (endN ns root) pt ns N ct hN W (ha.below hW) (by omega) (fun x hx => Nat.le_trans (ska x hx) (by omega)))
  have CT := Lib.hid (fun (W : World) (hW : Bl w W) => rcopy_c root next pt ns N ct hN W (ha.below hW) (by omega) (fun x hx => by have := ska x hx; omega))
  rw [h1] at TA
  have N0 : Hid (PN ns 0) := Lib.hid ⟨hr1, by omega, ska⟩
  have RS := Lib.hid hs; have HT := Lib.hid hT; have KS := Lib.hid ks; have HN := Lib.hid hN
  unfold trV at EA TA
  have BW : Hid (Bl w ((w.alloc (.cells #[.int .i64 root, .int .i64 next, .slice pt N ct] 24)).alloc (.cells #[.int .i64 0, .int .i64 0, .slice none 0 0] 24))) := Lib.hid (Bl.alloc (Bl.alloc (Bl.refl _) _) _)
  have A2 : Hid (((w.alloc (.cells #[.int .i64 root, .int .i64 next, .slice pt N ct] 24)).alloc (.cells #[.int .i64 0, .int .i64 0, .slice none 0 0] 24)).heap[w.heap.size]? = some (.cells #[.int .i64 root, .int .i64 next, .slice pt N ct] 24 (0, 0))) := Lib.hid (heap_old (heap_new rfl _ _) _)
  have B2 : Hid (((w.alloc (.cells #[.int .i64 root, .int .i64 next, .slice pt N ct] 24)).alloc (.cells #[.int .i64 0, .int .i64 0, .slice none 0 0] 24)).heap[w.heap.size + 1]? = some (.cells #[.int .i64 0, .int .i64 0, .slice none 0 0] 24 (0, 0))) := Lib.hid (heap_new (by simp) _ _)
  clear ha hs hT hN ks h1 hr1 ska
  go_enter Try.func10, Try.ntmps10
  go_upto_region 1 with fail
  generalize ((w.alloc (.cells #[.int .i64 root, .int .i64 next, .slice pt N ct] 24)).alloc (.cells #[.int .i64 0, .int .i64 0, .slice none 0 0] 24)) = w2 at BW A2 B2 ⊢
  have y0 : ∀ X : Ext w2, X.w.cell? ⟨w.heap.size, 0, none⟩ = some (.int .i64 root) := fun X => X.cell ((obj_cells A2.out).1 0 _ rfl)
  have y1 : ∀ X : Ext w2, X.w.cell? ⟨w.heap.size, 1, none⟩ = some (.int .i64 next) := fun X => X.cell ((obj_cells A2.out).1 1 _ rfl)
  have y2 : ∀ X : Ext w2, X.w.cell? ⟨w.heap.size, 2, none⟩ = some (.slice pt N ct) := fun X => X.cell ((obj_cells A2.out).1 2 _ rfl)
  have EX := Lib.hid (fun (X : Ext w2) => EA.out X.w (BW.out.call X.below))
  have TX := Lib.hid (fun (X : Ext w2) => TA.out X.w (BW.out.call X.below))
  have hT8 : ¬ ((8192 : Int) < (T : Int)) := by omega
  clear EA TA
  refine wp_region_ext (by kernel_rfl) (by kernel_rfl) ?_
  repeat (go_big_quiet_step (first | (go_at_call 27; exact Ext.calls (EX.out _)) | (go_at_call 26; exact Ext.calls (TX.out _)) | fail))
  refine wpQuiet_nil ?_
  rintro _ ⟨X, rfl⟩
  clear y0 y1 y2 EX TX hT8
  have BX : Hid (Bl w X.w) := Lib.hid (BW.out.call X.below)
  have A3 := Lib.hid (heap_later A2.out X.below); have B3 := Lib.hid (heap_later B2.out X.below)
  clear BW A2 B2
  generalize X.w = w3 at BX A3 B3 ⊢
  have y0 := (obj_cells A3.out).1 0 _ rfl; have y1 := (obj_cells A3.out).1 1 _ rfl; have y2 := (obj_cells A3.out).1 2 _ rfl
  go_upto_region 4 with (go_at_call 28; refine (CT.out _ BX.out).mono ?_; rintro e w5 ⟨p5, c5, vs5, rfl, o5, h5⟩; have O5 := Lib.hid o5; have B5 : Hid (Bl w3 w5) := Lib.hid h5; clear o5 h5)
  clear y0 y1 y2 CT A3
  have P0 : Hid (PI w (w5.alloc (.cells #[.int .i64 root, .int .i64 next, .slice p5 N c5] 24)) (w.heap.size + 1) w5.heap.size root next (.slice p5 N c5) vs5 ns) := Lib.hid (by
    have b6 := Bl.alloc (Bl.refl w5) (.cells #[.int .i64 root, .int .i64 next, .slice p5 N c5] 24)
    have hx := heap_later B3.out B5.out
    have hl := (Array.getElem?_eq_some_iff.1 hx).1
    refine ⟨heap_later hx b6, heap_new rfl _ _, (O5.out.mono BX.out.size).below b6, (BX.out.call B5.out).call b6, by omega, ?_, by omega⟩
    exact Nat.le_trans BX.out.size B5.out.size)
  clear O5 B5 BX B3
  obtain ⟨ob, hob⟩ : ∃ g, g = w5.heap.size := ⟨_, rfl⟩
  obtain ⟨rb, hrb⟩ : ∃ g, g = w.heap.size + 1 := ⟨_, rfl⟩
  rw [← hob, ← hrb] at P0 ⊢
  clear hob hrb
  generalize w5.alloc (.cells #[.int .i64 root, .int .i64 next, .slice p5 N c5] 24) = w6 at P0 ⊢
  generalize Value.slice p5 N c5 = nv0 at P0
  go_wp2_with fail
  go_loopw [9] (fun v wr => ∃ (i : Nat) (nx : Int) (nv : Value) (vs : List Nv) (ms : List Nd), i ≤ T ∧ v = .int .i64 i ∧ Hid (PI w wr rb ob root nx nv vs ms) ∧ Hid (PN ms i) ∧ Hid (doN ss (ns, next) = doN (ss.drop i) (ms, nx))) (fun v _ => T - (intOf v).toNat)
  case atStart => exact ⟨0, next, nv0, vs5, ns, by omega, rfl, P0, N0, Lib.hid rfl⟩
  case round =>
    clear P0 N0
    obtain ⟨i, nx, nv, vs, ms, hin, rfl, P, PNH, D⟩ := hrel
    obtain ⟨pv, cv, rfl⟩ := P.out.own.row.form
    have HL : Hid (vs.length = ms.length) := Lib.hid P.out.own.len
    obtain ⟨M, hM⟩ : ∃ M, ms.length = M := ⟨_, rfl⟩
    rw [HL.out, hM] at P
    have HM := Lib.hid hM
    have lM : M ≤ 2048 + i := by rw [← hM]; exact PNH.out.len
    clear hM
    by_cases hlt : i < T
    · obtain ⟨s, hs⟩ : ∃ s, ss[i]? = some s := ⟨_, List.getElem?_eq_getElem (by rw [HT.out]; exact hlt)⟩
      have DS := Lib.hid (do_step hs (ms, nx))
      obtain ⟨sb, so, kp, kc, rfl, hat, hr⟩ := RS.out i s hs
      have m1 := hat.below P.out.below
      have n0 : wr.cell? ⟨sb, so + i * 6, none⟩ = some (.int .i64 s.kd) := m1 0 _ rfl
      have n1 : wr.cell? ⟨sb, so + i * 6 + 1, none⟩ = some (.int .i64 s.id) := m1 1 _ rfl
      have n2 : wr.cell? ⟨sb, so + i * 6 + 2, none⟩ = some (.int .i64 s.nd) := m1 2 _ rfl
      have n3 : wr.cell? ⟨sb, so + i * 6 + 3, none⟩ = some (.int .i64 s.fr) := m1 3 _ rfl
      have n4 : wr.cell? ⟨sb, so + i * 6 + 4, none⟩ = some (.int .i64 (St.to s)) := m1 4 _ rfl
      have n5 : wr.cell? ⟨sb, so + i * 6 + 5, none⟩ = some (.slice kp s.kids.length kc) := m1 5 _ rfl
      have ROW := Lib.hid (hr.below P.out.below)
      have hkn := KS.out s (List.mem_of_getElem? hs)
      have hi0 : (0 : Int) ≤ (i : Int) := by omega
      have hi1 : (i : Int) < (T : Int) := by omega
      clear m1 hat hr hs
      have FC := Lib.hid (fun (W : World) (hW : Bl wr W) => find_any root nx pv ms M cv HM.out s.id W (P.out.own.read.below hW) (by omega))
      have SM := Lib.hid (fun (W : World) (hW : Bl wr W) => stepMay_any s kp kc W (ROW.out.below hW) hkn)
      unfold trV at FC
      unfold stV at SM
      obtain ⟨kn, hkl⟩ : ∃ kn, s.kids.length = kn := ⟨_, rfl⟩
      rw [hkl] at n5 hkn
      simp only [hkl] at SM
      have KN := Lib.hid hkl
      clear hkl
      go_upto_region 8 with fail
      have X1 : Hid ((wr.alloc (.cells #[.int .i64 s.kd, .int .i64 s.id, .int .i64 s.nd, .int .i64 s.fr, .int .i64 (St.to s), .slice kp kn kc] 42)).heap[wr.heap.size]? = some (.cells #[.int .i64 s.kd, .int .i64 s.id, .int .i64 s.nd, .int .i64 s.fr, .int .i64 (St.to s), .slice kp kn kc] 42 (0, 0))) := Lib.hid (heap_new rfl _ _)
      have B1 : Hid (Bl wr (wr.alloc (.cells #[.int .i64 s.kd, .int .i64 s.id, .int .i64 s.nd, .int .i64 s.fr, .int .i64 (St.to s), .slice kp kn kc] 42))) := Lib.hid (Bl.alloc (Bl.refl _) _)
      have P1 := Lib.hid (P.out.later B1.out)
      obtain ⟨xb, hxb⟩ : ∃ g, g = wr.heap.size := ⟨_, rfl⟩
      rw [← hxb] at X1 ⊢
      clear n0 n1 n2 n3 n4 n5 hxb
      generalize wr.alloc (.cells #[.int .i64 s.kd, .int .i64 s.id, .int .i64 s.nd, .int .i64 s.fr, .int .i64 (St.to s), .slice kp kn kc] 42) = w1 at X1 B1 P1 ⊢
      have x1 := (obj_cells X1.out).1 1 _ rfl
      have o0 := (obj_cells P1.out.boxO).1 0 _ rfl; have o1 := (obj_cells P1.out.boxO).1 1 _ rfl; have o2 := (obj_cells P1.out.boxO).1 2 _ rfl
      go_upto_region 9 with (go_at_call 29; refine (FC.out _ B1.out).mono ?_; rintro e w7 ⟨rfl, h7⟩; have B7 : Hid (Bl w1 w7) := Lib.hid h7; clear h7)
      clear x1 o0 o1 o2 FC
      have X7 := Lib.hid (heap_later X1.out B7.out)
      have P7 := Lib.hid (P1.out.later B7.out)
      have BB7 : Hid (Bl wr w7) := Lib.hid (B1.out.call B7.out)
      clear X1 P1 B1 B7 P
      have SM7 := Lib.hid (SM.out _ BB7.out)
      have x0 := (obj_cells X7.out).1 0 _ rfl; have x1 := (obj_cells X7.out).1 1 _ rfl; have x2 := (obj_cells X7.out).1 2 _ rfl
      have x3 := (obj_cells X7.out).1 3 _ rfl; have x4 := (obj_cells X7.out).1 4 _ rfl; have x5 := (obj_cells X7.out).1 5 _ rfl
      have RB8 := Lib.hid P7.out.newR
      cases hm : stepMay s with
      | false =>
        rw [hm] at SM7
        have NO : Hid (patchP ns root next ss size = none) := Lib.hid (by rw [PP.out, D.out, DS.out, if_neg (by unfold fitsN; rw [hm]; simp)])
        clear hm
        go_wp2_with (go_at_call 30; refine SM7.out.mono ?_; rintro e w8 ⟨rfl, h8⟩; have B8 : Hid (Bl w7 w8) := Lib.hid h8; have P8 := Lib.hid (P7.out.later B8.out); have X8 := Lib.hid (heap_later X7.out B8.out); have r0 := (obj_cells P8.out.boxR).1 0 _ rfl; have r1 := (obj_cells P8.out.boxR).1 1 _ rfl; have r2 := (obj_cells P8.out.boxR).1 2 _ rfl; have rf := (obj_cells P8.out.boxR).2.1; have k0 := (obj_cells X8.out).1 0 _ rfl; clear h8)
        refine bodyPost_ret (v := .tuple #[.agg #[.int .i64 0, .int .i64 0, .slice none 0 0], .int .i64 1500]) (by rw [results_cell_tmp rfl]; go_simp) rfl ?_
        exact .inl ⟨NO.out, rfl, Bl.set (Bl.set (Bl.set (P8.out.below) P8.out.newR _) P8.out.newR _) P8.out.newR _⟩
      | true =>
        rw [hm] at SM7
        have HMAY := Lib.hid hm
        clear hm
        rcases fd_cases ms s.id with ⟨k, x, e1, e2, e3, e4⟩ | ⟨e1, e2⟩
        · have hk0 : ¬ ((k : Int) < 0) := by omega
          have hkM : k < M := by rw [← HM.out]; exact (List.getElem?_eq_some_iff.1 e2).1
          by_cases q1 : s.kd = 1
          · have NO : Hid (patchP ns root next ss size = none) := Lib.hid (by rw [PP.out, D.out, DS.out, if_neg (by unfold fitsN; rw [e4, q1]; simp)])
            have q1b : (s.kd == 1) = true := by simpa using q1
            rw [e1]
            clear e1 e2 e3 e4 q1
            go_wp2_with (go_at_call 30; refine SM7.out.mono ?_; rintro e w8 ⟨rfl, h8⟩; have B8 : Hid (Bl w7 w8) := Lib.hid h8; have P8 := Lib.hid (P7.out.later B8.out); have X8 := Lib.hid (heap_later X7.out B8.out); have r0 := (obj_cells P8.out.boxR).1 0 _ rfl; have r1 := (obj_cells P8.out.boxR).1 1 _ rfl; have r2 := (obj_cells P8.out.boxR).1 2 _ rfl; have rf := (obj_cells P8.out.boxR).2.1; have k0 := (obj_cells X8.out).1 0 _ rfl; clear h8)
            refine bodyPost_ret (v := .tuple #[.agg #[.int .i64 0, .int .i64 0, .slice none 0 0], .int .i64 1500]) (by rw [results_cell_tmp rfl]; go_simp) rfl ?_
            exact .inl ⟨NO.out, rfl, Bl.set (Bl.set (Bl.set (P8.out.below) P8.out.newR _) P8.out.newR _) P8.out.newR _⟩
          · have hf : fitsN s ms = true := by
              unfold fitsN
              rw [e4, HMAY.out]
              simpa using q1
            have D2 : Hid (doN ss (ns, next) = doN (ss.drop (i + 1)) (actN s (ms, nx))) := Lib.hid (by rw [D.out, DS.out, if_pos hf])
            have PN2 : Hid (PN (actN s (ms, nx)).1 (i + 1)) := Lib.hid (act_PN PNH.out hf)
            have EX2 := Lib.hid e2
            have EX3 := Lib.hid e3
            have q1b : (s.kd == 1) = false := beq_eq_false_iff_ne.2 q1
            have KD := may_kd HMAY.out
            rw [e1]
            clear e1 e2 e3 e4 hf DS D
            go_upto_region 11 with (go_at_call 30; refine SM7.out.mono ?_; rintro e w8 ⟨rfl, h8⟩; have B8 : Hid (Bl w7 w8) := Lib.hid h8; have P8 := Lib.hid (P7.out.later B8.out); have X8 := Lib.hid (heap_later X7.out B8.out); have r0 := (obj_cells P8.out.boxR).1 0 _ rfl; have r1 := (obj_cells P8.out.boxR).1 1 _ rfl; have r2 := (obj_cells P8.out.boxR).1 2 _ rfl; have rf := (obj_cells P8.out.boxR).2.1; have k0 := (obj_cells X8.out).1 0 _ rfl; clear h8)
            clear r0 r1 r2 rf q1b x0 x1 x2 x3 x4 x5 SM7 k0
            have x0 := (obj_cells X8.out).1 0 _ rfl; have x1 := (obj_cells X8.out).1 1 _ rfl; have x2 := (obj_cells X8.out).1 2 _ rfl
            have x3 := (obj_cells X8.out).1 3 _ rfl; have x4 := (obj_cells X8.out).1 4 _ rfl; have x5 := (obj_cells X8.out).1 5 _ rfl
            have o2 := (obj_cells P8.out.boxO).1 2 _ rfl; have of := (obj_cells P8.out.boxO).2.1
            have ROW8 := Lib.hid (ROW.out.below (BB7.out.call B8.out))
            clear P7 X7 B8 BB7 SM RB8
            obtain ⟨g, c2, eg, hg1, hg2, hMc⟩ := P8.out.own.row.formS (by intro e; have := P8.out.own.len; rw [e, HM.out] at this; simp at this; omega)
            have HV8 : Hid (vs.length = M) := Lib.hid (by rw [HL.out, HM.out])
            rw [HV8.out] at eg hMc
            cases eg
            rcases KD with q0 | q | q2 | q3
            · obtain ⟨i6, hi6, hz06, hz16, hz26⟩ := info_parts info63
              have GB := Lib.hid hg1
              have AC : Hid (actN s (ms, nx) = (ms.take k ++ ms.drop (k + 1), nx)) := Lib.hid (by
                have := act_drop PNH.out.rises EX2.out
                unfold actN
                rw [if_pos q0, ← EX3.out]
                exact congrArg (fun l => (l, nx)) this)
              obtain ⟨kk, hkk⟩ : ∃ kk, k + 1 = kk := ⟨_, rfl⟩
              have KK := Lib.hid hkk
              have B0 : Hid (Bl w8 (w8.alloc (.cells #[] 46))) := Lib.hid (Bl.alloc (Bl.refl _) _)
              have OW0 : Hid ((w8.alloc (.cells #[] 46)).ownsRow w8.heap.size 46 5 (.slice (some ⟨w8.heap.size, 0, none⟩) 0 0) 0 []) := Lib.hid (World.ownsRow_lit w8 #[] 0 (Nat.le_refl _) (by decide) rfl)
              have RW : Hid (∀ W, Bl w8 W → ∀ j u, (lyN.all vs)[j]? = some u → W.cell? ⟨g, j, none⟩ = some u) := Lib.hid (fun W hW j u hu => by
                have := World.ownsRow.cells (Ly.Own.below P8.out.own.row hW) (g := g) rfl _ _ hu
                rwa [add_plain, Nat.zero_add] at this)
              have SP1 : Hid (lyN.all vs = lyN.all (vs.take k) ++ lyN.all (vs.drop k)) := Lib.hid (by rw [← all_app, List.take_append_drop])
              have SP2 : Hid (lyN.all vs = lyN.all (vs.take kk) ++ lyN.all (vs.drop kk)) := Lib.hid (by rw [← all_app, List.take_append_drop])
              have L1 : Hid ((lyN.all (vs.take k)).length = k * 5) := Lib.hid (by rw [all_len, List.length_take, HV8.out, Nat.min_eq_left (by omega)]; rfl)
              have L2a : Hid ((lyN.all (vs.take kk)).length = kk * 5) := Lib.hid (by rw [all_len, List.length_take, HV8.out, Nat.min_eq_left (by omega)]; rfl)
              have L2 : Hid ((lyN.all (vs.drop kk)).length = (M - kk) * 5) := Lib.hid (by rw [all_len, List.length_drop, HV8.out]; rfl)
              have N1 : Hid (∀ W, Bl w8 W → ∀ ad, some (⟨g, 0, none⟩ : Addr) = some ad → ∀ j u, (lyN.all (vs.take k))[j]? = some u → W.cell? (ad.add j) = some u) := Lib.hid (fun W hW ad e j u hu => by
                cases e
                rw [add_plain, Nat.zero_add]
                refine RW.out W hW j u ?_
                rw [SP1.out, List.getElem?_append_left (List.getElem?_eq_some_iff.1 hu).1]; exact hu)
              have hw : IntKind.i64.wrap ((k : Int) + 1) = (kk : Int) := by rw [IntWalk.i64_in _ (by omega)]; omega
              have hk1 : (0 : Int) ≤ (k : Int) := by omega
              have hk2 : (k : Int) ≤ (M : Int) := by omega
              have hk3 : (k : Int) ≤ (cv : Int) := by omega
              have hkk1 : (0 : Int) ≤ (kk : Int) := by omega
              have hkk2 : (kk : Int) ≤ (M : Int) := by omega
              have hkk3 : (kk : Int) ≤ (cv : Int) := by omega
              have hkM2 : kk ≤ M := by omega
              have hob8 : ob < w8.heap.size := (Array.getElem?_eq_some_iff.1 P8.out.boxO).1
              have FIN : Hid (∀ (W : World) (p : Option Addr) (c : Nat), Bl w8 W → W.ownsRow w8.heap.size 46 5 (.slice p (M - 1) c) (M - 1) (lyN.all (vs.take k) ++ lyN.all (vs.drop kk)) → PI w (W.setCell ⟨ob, 2, none⟩ (.slice p (M - 1) c)) rb ob root nx (.slice p (M - 1) c) (vs.take k ++ vs.drop (k + 1)) (ms.take k ++ ms.drop (k + 1))) := Lib.hid (fun W p c hW ho => by
                refine P8.out.put hW (P8.out.own.erase hW (by rw [HV8.out]; exact hkM) ?_)
                refine Ly.Own.mono (base := w8.heap.size) ?_ P8.out.below.size
                unfold Ly.Own
                rw [List.length_append, List.length_take, List.length_drop, HV8.out, Nat.min_eq_left (by omega), show k + (M - (k + 1)) = M - 1 by omega, all_app, KK.out]
                exact ho)
              clear hg1 hkk HMAY of
              go_upto_region 18 with (at_builtin; refine wpList_append_all _ rfl _ _ 22 rfl w8.heap.size 46 i6 _ 5 56 Try.underlying22 hi6 hz06 hz16 hz26 rfl (by decide) (.slice (some ⟨w8.heap.size, 0, none⟩) 0 0) 0 [] rfl OW0.out (some ⟨g, 0, none⟩) k cv (lyN.all (vs.take k)) rfl L1.out (fun e => by cases e) (N1.out _ B0.out) (all_ones _) (by unfold maxLen; omega) (by omega) (by simp) k (by omega) ?_; intro pA cA w9 hown hgrow hblk; have O9 := Lib.hid hown; have B9 : Hid (Bl w8 w9) := Lib.hid (B0.out.trans (below_grownN hgrow (fun q hq => by cases hq; exact Nat.le_refl _) B0.out.size)); clear hown hgrow hblk)
              clear o2 x0 x1 x2 x3 x4 x5
              have o2 := (obj_cells (heap_later P8.out.boxO B9.out)).1 2 _ rfl
              by_cases hcap : cv = kk
              · subst hcap
                have DN : Hid (vs.drop cv = []) := Lib.hid (List.drop_eq_nil_of_le (by rw [HV8.out]; omega))
                go_upto_region 19 with (at_builtin; refine wpList_append_all _ rfl _ _ 22 rfl w8.heap.size 46 i6 _ 5 56 Try.underlying22 hi6 hz06 hz16 hz26 rfl (by decide) (.slice pA k cA) k ([] ++ lyN.all (vs.take k)) rfl O9.out (some ⟨g, 0, none⟩) 0 0 [] rfl rfl (fun _ => rfl) (fun ad e j u hu => by simp at hu) (fun u hu => by simp at hu) (by unfold maxLen; omega) (by omega) B9.out.size k rfl ?_; intro pC cC w10 hown hgrow hblk; have O10 := Lib.hid hown; have B10 : Hid (Bl w8 w10) := Lib.hid (B9.out.trans (below_grownN hgrow (fun q hq => (World.ownsRow.lt O9.out q hq).1) B9.out.size)); clear hown hgrow hblk)
                clear o2
                have F2 := FIN.out w10 pC cC B10.out
                rw [show M - 1 = k by have := KK.out; omega, DN.out, all_nil] at F2
                have PF := Lib.hid (F2 (by have := O10.out; rwa [List.nil_append] at this))
                clear F2
                have o2 := (obj_cells (heap_later P8.out.boxO B10.out)).1 2 _ rfl; have of := (obj_cells (heap_later P8.out.boxO B10.out)).2.1
                go_wp2_with fail
                refine ⟨⟨i + 1, nx, _, _, _, by omega, by go_num, PF, Lib.hid ?_, Lib.hid ?_⟩, by simp [intOf]; omega⟩
                · have := PN2.out
                  rw [AC.out] at this
                  exact this
                · rw [D2.out, AC.out]
              · have hcap2 : (kk : Int) < (cv : Int) := by omega
                have N2 : Hid (∀ W, Bl w8 W → ∀ ad, some (⟨g, kk * 5, none⟩ : Addr) = some ad → ∀ j u, (lyN.all (vs.drop kk))[j]? = some u → W.cell? (ad.add j) = some u) := Lib.hid (fun W hW ad e j u hu => by
                  cases e
                  rw [add_plain]
                  refine RW.out W hW (kk * 5 + j) u ?_
                  rw [SP2.out, List.getElem?_append_right (by rw [L2a.out]; omega), L2a.out, Nat.add_sub_cancel_left]; exact hu)
                go_upto_region 19 with (at_builtin; refine wpList_append_all _ rfl _ _ 22 rfl w8.heap.size 46 i6 _ 5 56 Try.underlying22 hi6 hz06 hz16 hz26 rfl (by decide) (.slice pA k cA) k ([] ++ lyN.all (vs.take k)) rfl O9.out (some ⟨g, kk * 5, none⟩) (M - kk) (cv - kk) (lyN.all (vs.drop kk)) rfl L2.out (fun e => by cases e) (N2.out _ B9.out) (all_ones _) (by unfold maxLen; omega) (by omega) B9.out.size (M - 1) (by have := KK.out; omega) ?_; intro pC cC w10 hown hgrow hblk; have O10 := Lib.hid hown; have B10 : Hid (Bl w8 w10) := Lib.hid (B9.out.trans (below_grownN hgrow (fun q hq => (World.ownsRow.lt O9.out q hq).1) B9.out.size)); clear hown hgrow hblk)
                clear o2
                have PF := Lib.hid (FIN.out w10 pC cC B10.out (by have := O10.out; rwa [List.nil_append] at this))
                have o2 := (obj_cells (heap_later P8.out.boxO B10.out)).1 2 _ rfl; have of := (obj_cells (heap_later P8.out.boxO B10.out)).2.1
                go_wp2_with fail
                refine ⟨⟨i + 1, nx, _, _, _, by omega, by go_num, PF, Lib.hid ?_, Lib.hid ?_⟩, by simp [intOf]; omega⟩
                · have := PN2.out
                  rw [AC.out] at this
                  exact this
                · rw [D2.out, AC.out]
            · exact absurd q q1
            · obtain ⟨i0, hi, hz0, hz1, hz2⟩ := info_parts info3
              have hsv : ∃ v, vs[k]? = some v := ⟨_, List.getElem?_eq_getElem (by rw [HV8.out]; exact hkM)⟩
              obtain ⟨v, hv⟩ := hsv
              obtain ⟨f1, f2, f3, f4, f5⟩ := P8.out.own.fit k v x hv EX2.out
              have FI := Lib.hid f1; have FK := Lib.hid f2; have FF := Lib.hid f3; have FT := Lib.hid f4
              have at1 := P8.out.own.row.at hv
              have d0 : w8.cell? ⟨g, k * 5, none⟩ = some (.int .i64 v.id) := at1 0 _ rfl
              have d1 : w8.cell? ⟨g, k * 5 + 1, none⟩ = some (.int .i64 v.kd) := at1 1 _ rfl
              have d2 : w8.cell? ⟨g, k * 5 + 2, none⟩ = some (.int .i64 v.fr) := at1 2 _ rfl
              have d3 : w8.cell? ⟨g, k * 5 + 3, none⟩ = some (.int .i64 v.tt) := at1 3 _ rfl
              have d4 : w8.cell? ⟨g, k * 5 + 4, none⟩ = some (.slice v.kp v.kn v.kc) := at1 4 _ rfl
              have hk1 : (0 : Int) ≤ (k : Int) := by omega
              have hk2 : (k : Int) < (M : Int) := by omega
              have GB := Lib.hid hg1
              have LI : Hid ((lyI.all s.kids).length = kn * 1) := Lib.hid (by rw [all_len, KN.out]; rfl)
              have NON : Hid (kp = none → kn = 0) := Lib.hid (fun e => by have h := ROW8.out; rw [e] at h; rw [← KN.out]; exact ints_none h)
              have AC : Hid (actN s (ms, nx) = (ms.set k ⟨x.id, x.kd, x.fr, Nd.to x, s.kids⟩, nx)) := Lib.hid (by
                have := act_map (fun y => (⟨y.id, y.kd, y.fr, Nd.to y, s.kids⟩ : Nd)) PNH.out.rises EX2.out
                unfold actN
                rw [if_neg (by omega), if_neg (by omega), if_pos q2, ← EX3.out]
                exact congrArg (fun l => (l, nx)) this)
              have hkids := may_kids HMAY.out
              rw [KN.out] at hkids
              clear at1 hv f1 f2 f3 f4 f5 hg1 hMc HMAY hkn
              go_upto_region 25 with fail
              have XN : Hid ((w8.alloc (.cells #[.int .i64 v.id, .int .i64 v.kd, .int .i64 v.fr, .int .i64 v.tt, .slice v.kp v.kn v.kc] 46)).heap[w8.heap.size]? = some (.cells #[.int .i64 v.id, .int .i64 v.kd, .int .i64 v.fr, .int .i64 v.tt, .slice v.kp v.kn v.kc] 46 (0, 0))) := Lib.hid (heap_new rfl _ _)
              have BN : Hid (Bl w8 (w8.alloc (.cells #[.int .i64 v.id, .int .i64 v.kd, .int .i64 v.fr, .int .i64 v.tt, .slice v.kp v.kn v.kc] 46))) := Lib.hid (Bl.alloc (Bl.refl _) _)
              obtain ⟨nb, hnb⟩ : ∃ g, g = w8.heap.size := ⟨_, rfl⟩
              rw [← hnb] at XN ⊢
              have NB := Lib.hid hnb
              have X9 := Lib.hid (heap_later X8.out BN.out)
              clear hnb d0 d1 d2 d3 d4 x0 x1 x2 x3 x4 x5 o2 of hg2
              generalize w8.alloc (.cells #[.int .i64 v.id, .int .i64 v.kd, .int .i64 v.fr, .int .i64 v.tt, .slice v.kp v.kn v.kc] 46) = w9 at XN BN X9 ⊢
              have OWI : Hid ((w9.alloc (.cells #[] 3)).ownsRow w9.heap.size 3 1 (.slice (some ⟨w9.heap.size, 0, none⟩) 0 0) 0 []) := Lib.hid (World.ownsRow_lit w9 #[] 0 (Nat.le_refl _) (by decide) rfl)
              have NWI : Hid (∀ ad, kp = some ad → ∀ j u, (lyI.all s.kids)[j]? = some u → (w9.alloc (.cells #[] 3)).cell? (ad.add j) = some u) := Lib.hid (ints_news ((ROW8.out.below BN.out).below (below1 (Below.refl _ _) (Nat.le_refl _) _)))
              have y5 : (w9.alloc (.cells #[] 3)).cell? ⟨xb, 5, none⟩ = some (.slice kp kn kc) := cell_later (below1 (Below.refl _ _) (Nat.le_refl _) _) ((obj_cells X9.out).1 5 _ rfl)
              go_upto_region 26 with (at_builtin; refine wpList_append_all _ rfl _ _ 40 rfl w9.heap.size 3 i0 _ 1 8 Try.underlying40 hi hz0 hz1 hz2 rfl (by decide) (.slice (some ⟨w9.heap.size, 0, none⟩) 0 0) 0 [] rfl OWI.out kp kn kc (lyI.all s.kids) rfl LI.out NON.out NWI.out (all_ones _) (by unfold maxLen; omega) (by omega) (by simp) kn (by omega) ?_; intro p6 c6 w6 hown6 hgrow6 hblk6; have B6 : Hid (Bl w9 w6) := Lib.hid ((below1 (Below.refl _ _) (Nat.le_refl _) _).trans (below_grownN hgrow6 (fun g hg => by cases hg; exact Nat.le_refl _) (by simp))); have O6 := Lib.hid hown6; have X6 := Lib.hid (heap_later XN.out B6.out); have z4 := (obj_cells X6.out).1 4 _ rfl; have zf := (obj_cells X6.out).2.1; clear hown6 hgrow6 hblk6)
              have B7 : Hid (Bl w8 (w6.setCell ⟨nb, 4, none⟩ (.slice p6 kn c6))) := Lib.hid (Bl.set (BN.out.call B6.out) (by rw [NB.out]; exact Nat.le_refl _) _)
              have XN7 : Hid ((w6.setCell ⟨nb, 4, none⟩ (.slice p6 kn c6)).heap[nb]? = some (.cells #[.int .i64 v.id, .int .i64 v.kd, .int .i64 v.fr, .int .i64 v.tt, .slice p6 kn c6] 46 (0, 0))) := Lib.hid (by rw [heap_setCell_at X6.out]; rfl)
              have K7 : Hid (lyI.Own (w6.setCell ⟨nb, 4, none⟩ (.slice p6 kn c6)) w9.heap.size (.slice p6 kn c6) s.kids) := Lib.hid (by
                have h6 : lyI.Own w6 w9.heap.size (.slice p6 kn c6) s.kids := by
                  have := O6.out
                  unfold Ly.Own
                  rw [KN.out]; exact this
                exact h6.kept (set_grown ..) (fun g hg e => by
                  have := (h6.lt hg).1
                  have hx1 := (Array.getElem?_eq_some_iff.1 XN.out).1
                  have e2 := Option.some.inj e
                  omega))
              have S9 : Hid (w8.heap.size ≤ w9.heap.size) := Lib.hid BN.out.size
              have P7 := Lib.hid (P8.out.later B7.out)
              clear y5 z4 zf X6 O6 B6 OWI NWI XN X9 BN
              generalize w6.setCell ⟨nb, 4, none⟩ (.slice p6 kn c6) = w7' at B7 XN7 K7 P7 ⊢
              have vk7 := Lib.hid (List.getElem?_eq_getElem (l := vs) (i := k) (by rw [HV8.out]; exact hkM))
              have at7 := P7.out.own.row.at vk7.out
              have d0 := at7 0 _ rfl; have d1 := at7 1 _ rfl; have d2 := at7 2 _ rfl; have d3 := at7 3 _ rfl; have d4 := at7 4 _ rfl
              have e0 : w7'.cell? ⟨g, k * 5, none⟩ = some (.int .i64 (vs[k]'(by rw [HV8.out]; exact hkM)).id) := d0
              have e1' : w7'.cell? ⟨g, k * 5 + 1, none⟩ = some (.int .i64 (vs[k]'(by rw [HV8.out]; exact hkM)).kd) := d1
              have e2' : w7'.cell? ⟨g, k * 5 + 2, none⟩ = some (.int .i64 (vs[k]'(by rw [HV8.out]; exact hkM)).fr) := d2
              have e3' : w7'.cell? ⟨g, k * 5 + 3, none⟩ = some (.int .i64 (vs[k]'(by rw [HV8.out]; exact hkM)).tt) := d3
              have e4' : w7'.cell? ⟨g, k * 5 + 4, none⟩ = some (Nv.kv (vs[k]'(by rw [HV8.out]; exact hkM))) := d4
              have df : ∀ j, w7'.frozen? ⟨g, j, none⟩ = false := fun j => P7.out.own.row.frozen j
              have n0 := (obj_cells XN7.out).1 0 _ rfl; have n1 := (obj_cells XN7.out).1 1 _ rfl; have n2 := (obj_cells XN7.out).1 2 _ rfl; have n3 := (obj_cells XN7.out).1 3 _ rfl; have n4 := (obj_cells XN7.out).1 4 _ rfl
              have o2 := (obj_cells P7.out.boxO).1 2 _ rfl
              clear at7 d0 d1 d2 d3 d4
              go_wp2_with fail
              obtain ⟨cur, hG⟩ := P7.out.own.row.obj (g := g) rfl
              have OW := P8.out.own.setK (id := k) (by rw [HV8.out]; exact hkM) B7.out ⟨v.id, v.kd, v.fr, v.tt, p6, kn, c6⟩ ⟨x.id, x.kd, x.fr, Nd.to x, s.kids⟩ ⟨FI.out, FK.out, FF.out, FT.out⟩ (K7.out.mono (Nat.le_trans P8.out.below.size S9.out)) (fun q hq => Nat.le_trans S9.out (K7.out.lt hq).1)
              have PW := P7.out.wrote (setAll_one w7' g (k * 5) (Nv.cells ⟨v.id, v.kd, v.fr, v.tt, p6, kn, c6⟩)) hG GB.out OW
              refine ⟨⟨i + 1, nx, _, _, _, by omega, by go_num, Lib.hid PW, Lib.hid ?_, Lib.hid ?_⟩, by simp [intOf]; omega⟩
              · have := PN2.out
                rw [AC.out] at this
                exact this
              · rw [D2.out, AC.out]
            · have hsv : ∃ v, vs[k]? = some v := ⟨_, List.getElem?_eq_getElem (by rw [HV8.out]; exact hkM)⟩
              obtain ⟨v, hv⟩ := hsv
              obtain ⟨f1, f2, f3, f4, f5⟩ := P8.out.own.fit k v x hv EX2.out
              have FI := Lib.hid f1; have FK := Lib.hid f2; have FF := Lib.hid f3; have FT := Lib.hid f4; have FO := Lib.hid f5
              have VK := Lib.hid hv
              have at1 := P8.out.own.row.at hv
              have d0 : w8.cell? ⟨g, k * 5, none⟩ = some (.int .i64 v.id) := at1 0 _ rfl
              have d1 : w8.cell? ⟨g, k * 5 + 1, none⟩ = some (.int .i64 v.kd) := at1 1 _ rfl
              have d2 : w8.cell? ⟨g, k * 5 + 2, none⟩ = some (.int .i64 v.fr) := at1 2 _ rfl
              have d3 : w8.cell? ⟨g, k * 5 + 3, none⟩ = some (.int .i64 v.tt) := at1 3 _ rfl
              have d4 : w8.cell? ⟨g, k * 5 + 4, none⟩ = some (.slice v.kp v.kn v.kc) := at1 4 _ rfl
              have df : ∀ j, w8.frozen? ⟨g, j, none⟩ = false := fun j => P8.out.own.row.frozen j
              have hk1 : (0 : Int) ≤ (k : Int) := by omega
              have hk2 : (k : Int) < (M : Int) := by omega
              have hxb8 : xb < w8.heap.size := (Array.getElem?_eq_some_iff.1 X8.out).1
              have hob8 : ob < w8.heap.size := (Array.getElem?_eq_some_iff.1 P8.out.boxO).1
              have GB := Lib.hid hg1
              clear at1 hv f1 f2 f3 f4 f5 hg1 hMc HMAY
              have AC : Hid (actN s (ms, nx) = (ms.set k ⟨x.id, x.kd, s.fr, St.to s, x.kids⟩, nx)) := Lib.hid (by
                have := act_map (fun y => (⟨y.id, y.kd, s.fr, St.to s, y.kids⟩ : Nd)) PNH.out.rises EX2.out
                unfold actN
                rw [if_neg (by omega), if_neg (by omega), if_neg (by omega), ← EX3.out]
                exact congrArg (fun l => (l, nx)) this)
              go_wp2_with fail
              obtain ⟨cur, hG⟩ := P8.out.own.row.obj (g := g) rfl
              have OW := P8.out.own.write (v' := ⟨v.id, v.kd, s.fr, St.to s, v.kp, v.kn, v.kc⟩) (m' := ⟨x.id, x.kd, s.fr, St.to s, x.kids⟩) VK.out EX2.out ⟨FI.out, FK.out, rfl, rfl⟩ rfl rfl
              have PW := P8.out.wrote (setAll_one w8 g (k * 5) (Nv.cells ⟨v.id, v.kd, s.fr, St.to s, v.kp, v.kn, v.kc⟩)) hG GB.out OW
              refine ⟨⟨i + 1, nx, _, vs.set k ⟨v.id, v.kd, s.fr, St.to s, v.kp, v.kn, v.kc⟩, ms.set k ⟨x.id, x.kd, s.fr, St.to s, x.kids⟩, by omega, by go_num, Lib.hid (PW.later (Bl.alloc (Bl.refl _) _)), Lib.hid ?_, Lib.hid ?_⟩, by simp [intOf]; omega⟩
              · have := PN2.out
                rw [AC.out] at this
                exact this
              · rw [D2.out, AC.out]
        · by_cases q1 : s.kd = 1
          · have hf : fitsN s ms = true := by
              unfold fitsN
              rw [e2, HMAY.out]
              simpa using q1
            have D2 : Hid (doN ss (ns, next) = doN (ss.drop (i + 1)) (actN s (ms, nx))) := Lib.hid (by rw [D.out, DS.out, if_pos hf])
            have PN2 : Hid (PN (actN s (ms, nx)).1 (i + 1)) := Lib.hid (act_PN PNH.out hf)
            have AC : Hid (actN s (ms, nx) = (plcN ⟨s.id, s.nd, 0, 0, []⟩ ms, if nx < s.id + 1 then s.id + 1 else nx)) := Lib.hid (by
              unfold actN
              rw [if_neg (by omega), if_pos q1, plc_ins _ PNH.out.rises (get_none.1 e2)]
              refine congrArg (fun l => (insN ⟨s.id, s.nd, 0, 0, []⟩ ms, l)) ?_
              dsimp only
              rw [Int.max_def]
              split <;> split <;> omega)
            have q1b : (s.kd == 1) = true := by simpa using q1
            have hid1 := (may_id HMAY.out).1; have hid2 := (may_id HMAY.out).2
            have w1 : IntKind.i64.wrap (s.id + 1) = s.id + 1 := IntWalk.i64_in _ (by omega)
            have Q1 := Lib.hid q1
            rw [e1]
            clear e1 e2 hf DS D q1 HMAY
            go_upto_region 11 with (go_at_call 30; refine SM7.out.mono ?_; rintro e w8 ⟨rfl, h8⟩; have B8 : Hid (Bl w7 w8) := Lib.hid h8; have P8 := Lib.hid (P7.out.later B8.out); have X8 := Lib.hid (heap_later X7.out B8.out); have k0 := (obj_cells X8.out).1 0 _ rfl; clear h8)
            clear q1b x0 x1 x2 x3 x4 x5 SM7 k0 RB8 P7 X7 B8
            have q1 := Q1.out
            have x0 := (obj_cells X8.out).1 0 _ rfl; have x1 := (obj_cells X8.out).1 1 _ rfl; have x2 := (obj_cells X8.out).1 2 _ rfl
            have o2 := (obj_cells P8.out.boxO).1 2 _ rfl
            have PL : Hid (Calls Try.prog 31 #[.slice pv M cv, .agg #[.int .i64 s.id, .int .i64 s.nd, .int .i64 0, .int .i64 0, .slice none 0 0]] w8 (PlPost w.heap.size ⟨s.id, s.nd, 0, 0, []⟩ ms w8)) := Lib.hid (placed_any w.heap.size M cv pv vs ms ⟨s.id, s.nd, 0, 0, none, 0, 0⟩ ⟨s.id, s.nd, 0, 0, []⟩ w8 P8.out.own ⟨rfl, rfl, rfl, rfl, Ly.Own.nil _ _⟩ (fun a y q _ _ e => by cases e) (by omega) P8.out.below.size)
            go_upto_region 22 with (go_at_call 31; refine PL.out.mono ?_; rintro e w9 ⟨p9, c9, vs9, rfl, n9, h9⟩; have O9 := Lib.hid n9; have B9 : Hid (Bl w8 w9) := Lib.hid h9; have P9 := Lib.hid (P8.out.later B9.out); have z2 := (obj_cells P9.out.boxO).1 2 _ rfl; have zf := (obj_cells P9.out.boxO).2.1; have X9 := Lib.hid (heap_later X8.out B9.out); clear n9 h9)
            have P10 := Lib.hid (P8.out.put B9.out O9.out)
            have X10 : Hid ((w9.setCell ⟨ob, 2, none⟩ (.slice p9 (ms.length + 1) c9)).heap[xb]? = some (.cells #[.int .i64 s.kd, .int .i64 s.id, .int .i64 s.nd, .int .i64 s.fr, .int .i64 (St.to s), .slice kp kn kc] 42 (0, 0))) := Lib.hid (((set_grown w9 ob 2 _).block xb (Array.getElem?_eq_some_iff.1 X9.out).1 (fun e => type_ne X9.out P9.out.boxO (by decide) (Option.some.inj e))).trans X9.out)
            clear x0 x1 x2 o2 PL z2 zf X9 P9 O9 B9 X8 P8
            generalize w9.setCell ⟨ob, 2, none⟩ (.slice p9 (ms.length + 1) c9) = w10 at P10 X10 ⊢
            have x1 := (obj_cells X10.out).1 1 _ rfl
            have o1 := (obj_cells P10.out.boxO).1 1 _ rfl; have of := (obj_cells P10.out.boxO).2.1
            go_wp2_with fail
            refine ⟨⟨i + 1, _, _, vs9, plcN ⟨s.id, s.nd, 0, 0, []⟩ ms, by omega, by go_num, Lib.hid (P10.out.next _), Lib.hid ?_, Lib.hid ?_⟩, by simp [intOf]; omega⟩
            · have := PN2.out
              rw [AC.out] at this
              exact this
            · rw [D2.out, AC.out]
          · have NO : Hid (patchP ns root next ss size = none) := Lib.hid (by rw [PP.out, D.out, DS.out, if_neg (by unfold fitsN; rw [e2, HMAY.out]; simpa using q1)])
            have q1b : (s.kd == 1) = false := beq_eq_false_iff_ne.2 q1
            rw [e1]
            clear e1 e2
            go_wp2_with (go_at_call 30; refine SM7.out.mono ?_; rintro e w8 ⟨rfl, h8⟩; have B8 : Hid (Bl w7 w8) := Lib.hid h8; have P8 := Lib.hid (P7.out.later B8.out); have X8 := Lib.hid (heap_later X7.out B8.out); have r0 := (obj_cells P8.out.boxR).1 0 _ rfl; have r1 := (obj_cells P8.out.boxR).1 1 _ rfl; have r2 := (obj_cells P8.out.boxR).1 2 _ rfl; have rf := (obj_cells P8.out.boxR).2.1; have k0 := (obj_cells X8.out).1 0 _ rfl; clear h8)
            refine bodyPost_ret (v := .tuple #[.agg #[.int .i64 0, .int .i64 0, .slice none 0 0], .int .i64 1500]) (by rw [results_cell_tmp rfl]; go_simp) rfl ?_
            exact .inl ⟨NO.out, rfl, Bl.set (Bl.set (Bl.set (P8.out.below) P8.out.newR _) P8.out.newR _) P8.out.newR _⟩
    · have hin2 : i = T := by omega
      subst hin2
      have D2 : Hid (doN ss (ns, next) = some (ms, nx)) := Lib.hid (by rw [D.out, List.drop_eq_nil_of_le (by rw [HT.out]; exact Nat.le_refl _)]; rfl)
      have TM := Lib.hid (treeMay_any root nx size pv ms M cv HM.out wr P.out.own.read (by omega) (fun x hx => Nat.le_trans (PNH.out.kids x hx) (by omega)))
      unfold trV at TM
      have o0 := (obj_cells P.out.boxO).1 0 _ rfl; have o1 := (obj_cells P.out.boxO).1 1 _ rfl; have o2 := (obj_cells P.out.boxO).1 2 _ rfl
      cases hb : mayB ms root nx size with
      | false =>
        rw [hb] at TM
        have NO : Hid (patchP ns root next ss size = none) := Lib.hid (by rw [PP.out, D2.out]; simp [hb])
        clear hb
        go_wp2_with (go_at_call 26; refine TM.out.mono ?_; rintro e w8 ⟨rfl, h8⟩; have P8 := Lib.hid (P.out.later h8); have r0 := (obj_cells P8.out.boxR).1 0 _ rfl; have r1 := (obj_cells P8.out.boxR).1 1 _ rfl; have r2 := (obj_cells P8.out.boxR).1 2 _ rfl; have rf := (obj_cells P8.out.boxR).2.1; clear h8)
        refine bodyPost_ret (v := .tuple #[.agg #[.int .i64 0, .int .i64 0, .slice none 0 0], .int .i64 1500]) (by rw [results_cell_tmp rfl]; go_simp) rfl ?_
        exact .inl ⟨NO.out, rfl, Bl.set (Bl.set (Bl.set (P8.out.below) P8.out.newR _) P8.out.newR _) P8.out.newR _⟩
      | true =>
        rw [hb] at TM
        have YES : Hid (patchP ns root next ss size = some (ms, nx)) := Lib.hid (by rw [PP.out, D2.out]; simp [hb])
        clear hb
        go_wp2_with (go_at_call 26; refine TM.out.mono ?_; rintro e w8 ⟨rfl, h8⟩; have P8 := Lib.hid (P.out.later h8); have r0 := (obj_cells P8.out.boxR).1 0 _ rfl; have r1 := (obj_cells P8.out.boxR).1 1 _ rfl; have r2 := (obj_cells P8.out.boxR).1 2 _ rfl; have rf := (obj_cells P8.out.boxR).2.1; have s0 := (obj_cells P8.out.boxO).1 0 _ rfl; have s1 := (obj_cells P8.out.boxO).1 1 _ rfl; have s2 := (obj_cells P8.out.boxO).1 2 _ rfl; clear h8)
        refine bodyPost_ret (v := .tuple #[.agg #[.int .i64 root, .int .i64 nx, .slice pv M cv], .int .i64 0]) (by rw [results_cell_tmp rfl]; go_simp) rfl ?_
        refine .inr ⟨(ms, nx), YES.out, pv, cv, vs, by rw [HM.out], ?_, Bl.set (Bl.set (Bl.set (P8.out.below) P8.out.newR _) P8.out.newR _) P8.out.newR _⟩
        rw [HM.out]
        exact P8.out.own.kept (setAll_one w8 rb 0 [.int .i64 root, .int .i64 nx, .slice pv M cv]) P8.out.boxR (by decide) (by decide)

set_option maxRecDepth 1000000 in
set_option maxHeartbeats 8000000 in
theorem rpatch_bad (ns : List Nd) (root next : Int) (pt : Option Addr) (N ct : Nat) (hN : ns.length = N) (ss : List St) (ps : Option Addr) (T cs : Nat) (size : Int) (w : World) (ha : NodesR w pt ns) (lN : N ≤ 140737488355328) (kN : ∀ x ∈ ns, x.kids.length ≤ 140737488355328)
    (h1 : mayB ns root next (endN ns root) = false) : Calls Try.prog 10 #[.agg #[.int .i64 root, .int .i64 next, .slice pt N ct], .slice ps T cs, .int .i64 size] w (PatPost ns root next ss size w) := by
  have NO : Hid (patchP ns root next ss size = none) := Lib.hid (by
    unfold patchP
    rw [h1]; rfl)
  have EA := Lib.hid (fun (W : World) (hW : Bl w W) => rootEnd_any root next pt ns N ct hN W (ha.below hW) lN)
  have TA := Lib.hid (fun (W : World) (hW : Bl w W) => treeMay_any root next (endN ns root) pt ns N ct hN W (ha.below hW) lN kN)
  rw [h1] at TA
  unfold trV at EA TA
  have BW : Hid (Bl w ((w.alloc (.cells #[.int .i64 root, .int .i64 next, .slice pt N ct] 24)).alloc (.cells #[.int .i64 0, .int .i64 0, .slice none 0 0] 24))) := Lib.hid (Bl.alloc (Bl.alloc (Bl.refl _) _) _)
  have A2 : Hid (((w.alloc (.cells #[.int .i64 root, .int .i64 next, .slice pt N ct] 24)).alloc (.cells #[.int .i64 0, .int .i64 0, .slice none 0 0] 24)).heap[w.heap.size]? = some (.cells #[.int .i64 root, .int .i64 next, .slice pt N ct] 24 (0, 0))) := Lib.hid (heap_old (heap_new rfl _ _) _)
  have B2 : Hid (((w.alloc (.cells #[.int .i64 root, .int .i64 next, .slice pt N ct] 24)).alloc (.cells #[.int .i64 0, .int .i64 0, .slice none 0 0] 24)).heap[w.heap.size + 1]? = some (.cells #[.int .i64 0, .int .i64 0, .slice none 0 0] 24 (0, 0))) := Lib.hid (heap_new (by simp) _ _)
  clear ha hN kN lN
  go_enter Try.func10, Try.ntmps10
  go_upto_region 1 with fail
  generalize ((w.alloc (.cells #[.int .i64 root, .int .i64 next, .slice pt N ct] 24)).alloc (.cells #[.int .i64 0, .int .i64 0, .slice none 0 0] 24)) = w2 at BW A2 B2 ⊢
  have y0 : ∀ X : Ext w2, X.w.cell? ⟨w.heap.size, 0, none⟩ = some (.int .i64 root) := fun X => X.cell ((obj_cells A2.out).1 0 _ rfl)
  have y1 : ∀ X : Ext w2, X.w.cell? ⟨w.heap.size, 1, none⟩ = some (.int .i64 next) := fun X => X.cell ((obj_cells A2.out).1 1 _ rfl)
  have y2 : ∀ X : Ext w2, X.w.cell? ⟨w.heap.size, 2, none⟩ = some (.slice pt N ct) := fun X => X.cell ((obj_cells A2.out).1 2 _ rfl)
  have EX := Lib.hid (fun (X : Ext w2) => EA.out X.w (BW.out.call X.below))
  have TX := Lib.hid (fun (X : Ext w2) => TA.out X.w (BW.out.call X.below))
  clear h1
  clear EA TA
  refine wp_region_ext (by kernel_rfl) (by kernel_rfl) ?_
  repeat (go_big_quiet_step (first | (go_at_call 27; exact Ext.calls (EX.out _)) | (go_at_call 26; exact Ext.calls (TX.out _)) | fail))
  refine wpQuiet_nil ?_
  rintro _ ⟨X, rfl⟩
  have BX : Hid (Bl w X.w) := Lib.hid (BW.out.call X.below)
  have B3 := Lib.hid (heap_later B2.out X.below)
  clear y0 y1 y2 EX TX BW A2 B2
  generalize X.w = w3 at BX B3 ⊢
  have r0 := (obj_cells B3.out).1 0 _ rfl; have r1 := (obj_cells B3.out).1 1 _ rfl; have r2 := (obj_cells B3.out).1 2 _ rfl; have rf := (obj_cells B3.out).2.1
  go_wp2_with fail
  refine bodyPost_ret (v := .tuple #[.agg #[.int .i64 0, .int .i64 0, .slice none 0 0], .int .i64 1500]) (by rw [results_cell_tmp rfl]; go_simp) rfl ?_
  exact .inl ⟨NO.out, rfl, Bl.set (Bl.set (Bl.set BX.out (by omega) _) (by omega) _) (by omega) _⟩

set_option maxRecDepth 1000000 in
set_option maxHeartbeats 8000000 in
theorem rpatch_long (ns : List Nd) (root next : Int) (pt : Option Addr) (N ct : Nat) (hN : ns.length = N) (ss : List St) (ps : Option Addr) (T cs : Nat) (hT : ss.length = T) (size : Int) (w : World) (ha : NodesR w pt ns) (lN : N ≤ 140737488355328) (kN : ∀ x ∈ ns, x.kids.length ≤ 140737488355328)
    (h1 : mayB ns root next (endN ns root) = true) (lT : 8192 < T) (hT47 : T ≤ 140737488355328) : Calls Try.prog 10 #[.agg #[.int .i64 root, .int .i64 next, .slice pt N ct], .slice ps T cs, .int .i64 size] w (PatPost ns root next ss size w) := by
  have NO : Hid (patchP ns root next ss size = none) := Lib.hid (by
    unfold patchP
    rw [h1, hT, decide_eq_false (by omega)]; rfl)
  have EA := Lib.hid (fun (W : World) (hW : Bl w W) => rootEnd_any root next pt ns N ct hN W (ha.below hW) lN)
  have TA := Lib.hid (fun (W : World) (hW : Bl w W) => treeMay_any root next (endN ns root) pt ns N ct hN W (ha.below hW) lN kN)
  rw [h1] at TA
  unfold trV at EA TA
  have BW : Hid (Bl w ((w.alloc (.cells #[.int .i64 root, .int .i64 next, .slice pt N ct] 24)).alloc (.cells #[.int .i64 0, .int .i64 0, .slice none 0 0] 24))) := Lib.hid (Bl.alloc (Bl.alloc (Bl.refl _) _) _)
  have A2 : Hid (((w.alloc (.cells #[.int .i64 root, .int .i64 next, .slice pt N ct] 24)).alloc (.cells #[.int .i64 0, .int .i64 0, .slice none 0 0] 24)).heap[w.heap.size]? = some (.cells #[.int .i64 root, .int .i64 next, .slice pt N ct] 24 (0, 0))) := Lib.hid (heap_old (heap_new rfl _ _) _)
  have B2 : Hid (((w.alloc (.cells #[.int .i64 root, .int .i64 next, .slice pt N ct] 24)).alloc (.cells #[.int .i64 0, .int .i64 0, .slice none 0 0] 24)).heap[w.heap.size + 1]? = some (.cells #[.int .i64 0, .int .i64 0, .slice none 0 0] 24 (0, 0))) := Lib.hid (heap_new (by simp) _ _)
  clear ha hN kN lN
  go_enter Try.func10, Try.ntmps10
  go_upto_region 1 with fail
  generalize ((w.alloc (.cells #[.int .i64 root, .int .i64 next, .slice pt N ct] 24)).alloc (.cells #[.int .i64 0, .int .i64 0, .slice none 0 0] 24)) = w2 at BW A2 B2 ⊢
  have y0 : ∀ X : Ext w2, X.w.cell? ⟨w.heap.size, 0, none⟩ = some (.int .i64 root) := fun X => X.cell ((obj_cells A2.out).1 0 _ rfl)
  have y1 : ∀ X : Ext w2, X.w.cell? ⟨w.heap.size, 1, none⟩ = some (.int .i64 next) := fun X => X.cell ((obj_cells A2.out).1 1 _ rfl)
  have y2 : ∀ X : Ext w2, X.w.cell? ⟨w.heap.size, 2, none⟩ = some (.slice pt N ct) := fun X => X.cell ((obj_cells A2.out).1 2 _ rfl)
  have EX := Lib.hid (fun (X : Ext w2) => EA.out X.w (BW.out.call X.below))
  have TX := Lib.hid (fun (X : Ext w2) => TA.out X.w (BW.out.call X.below))
  have hT8 : (8192 : Int) < (T : Int) := by omega
  clear h1 lT
  clear EA TA
  refine wp_region_ext (by kernel_rfl) (by kernel_rfl) ?_
  repeat (go_big_quiet_step (first | (go_at_call 27; exact Ext.calls (EX.out _)) | (go_at_call 26; exact Ext.calls (TX.out _)) | fail))
  refine wpQuiet_nil ?_
  rintro _ ⟨X, rfl⟩
  have BX : Hid (Bl w X.w) := Lib.hid (BW.out.call X.below)
  have B3 := Lib.hid (heap_later B2.out X.below)
  clear y0 y1 y2 EX TX BW A2 B2
  generalize X.w = w3 at BX B3 ⊢
  have r0 := (obj_cells B3.out).1 0 _ rfl; have r1 := (obj_cells B3.out).1 1 _ rfl; have r2 := (obj_cells B3.out).1 2 _ rfl; have rf := (obj_cells B3.out).2.1
  go_wp2_with fail
  refine bodyPost_ret (v := .tuple #[.agg #[.int .i64 0, .int .i64 0, .slice none 0 0], .int .i64 1500]) (by rw [results_cell_tmp rfl]; go_simp) rfl ?_
  exact .inl ⟨NO.out, rfl, Bl.set (Bl.set (Bl.set BX.out (by omega) _) (by omega) _) (by omega) _⟩

theorem rpatch_any (ns : List Nd) (root next : Int) (pt : Option Addr) (N ct : Nat) (hN : ns.length = N) (ss : List St) (ps : Option Addr) (T cs : Nat) (hT : ss.length = T) (size : Int) (w : World) (ha : NodesR w pt ns) (hs : StepsR w ps ss) (lN : N ≤ 140737488355328) (kN : ∀ x ∈ ns, x.kids.length ≤ 140737488355328) (lT : T ≤ 140737488355328) (ks : ∀ s ∈ ss, s.kids.length ≤ 140737488355328) :
    Calls Try.prog 10 #[.agg #[.int .i64 root, .int .i64 next, .slice pt N ct], .slice ps T cs, .int .i64 size] w (PatPost ns root next ss size w) := by
  cases h1 : mayB ns root next (endN ns root) with
  | false => exact rpatch_bad ns root next pt N ct hN ss ps T cs size w ha lN kN h1
  | true =>
    by_cases h : T ≤ 8192
    · exact rpatch_go ns root next pt N ct hN ss ps T cs hT size w ha hs h ks h1
    · exact rpatch_long ns root next pt N ct hN ss ps T cs hT size w ha lN kN h1 (by omega) lT

end Go.Proofs.Ytdhkjhdbaofdcaa
