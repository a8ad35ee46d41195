/-
  The walk of Patches, under what Apply answers: it answers true. Conditions: as the theorem's premises say.
-/
import Derived.Test.YtdhkjhdbaofdcaaAwP
import Derived.Test.YtdhkjhdbaofdcaaSpt
import Derived.Test.YtdhkjhdbaofdcaaCoB
namespace Go.Proofs.Ytdhkjhdbaofdcaa
open Go.RowKit

theorem copyT_c (ra na : Int) (p : Option Addr) (A : List Nd) (NA cap : Nat) (hA : A.length = NA) (w : World) (h : NodesR w p A) (hl : NA * 56 ≤ 140737488355328) (hk : ∀ x ∈ A, x.kids.length * 8 ≤ 140737488355328) :
    Calls Try.prog 7 #[.agg #[.int .i64 ra, .int .i64 na, .slice p NA cap]] w (fun e w' => ∃ p c, e = .returned (.agg #[.int .i64 ra, .int .i64 na, .slice p NA c]) ∧ NodesR w' p A ∧ NA ≤ c ∧ Bl w w') := by
  refine (copyTree_any ra na p A NA cap hA w h hl hk).mono ?_
  rintro e w' ⟨q, c, vs, rfl, ho, hb⟩
  have hc := ho.cap
  rw [hA] at ho hc ⊢
  exact ⟨q, c, rfl, ho.read, hc, hb⟩
theorem copyS_c (p : Option Addr) (A : List St) (NA cap : Nat) (hA : A.length = NA) (w : World) (h : StepsR w p A) (hl : NA * 64 ≤ 140737488355328) (hk : ∀ x ∈ A, x.kids.length * 8 ≤ 140737488355328) :
    Calls Try.prog 8 #[.slice p NA cap] w (fun e w' => ∃ p c, e = .returned (.slice p NA c) ∧ StepsR w' p A ∧ Bl w w') := by
  refine (copySteps_any p A NA cap hA w h hl hk).mono ?_
  rintro e w' ⟨q, c, vs, rfl, ho, hb⟩
  rw [hA] at ho ⊢
  exact ⟨q, c, rfl, ho.read, hb⟩
theorem spt_nil (w : World) (base : Nat) : SpT w base (.slice none 0 0) 0 [] := ⟨Ly.Own.nil _ _, rfl, fun i x h => by simp at h, fun i j x y g h => by simp at h⟩
theorem SpT.below {w w' : World} {base n : Nat} {v : Value} {vs : List Nv} (h : SpT w base v n vs) (hb : Bl w w') : SpT w' base v n vs :=
  ⟨h.row.below hb, h.len, fun i x hx => by
    obtain ⟨l, hl⟩ := h.kids i x hx
    exact ⟨l, hl.below hb⟩, h.apart⟩
theorem nodesR_nil (w : World) (p : Option Addr) : NodesR w p [] := fun i s h => by simp at h

/-- What both answer. -/
structure PAns (ns : List Nd) (root next : Int) (ss : List St) (size : Int) (er r x : Int) (ms : List Nd) (M : Nat) : Prop where
  ap : ∀ (W : World) (p q : Option Addr) (ct cs : Nat), NodesR W p ns → StepsR W q ss → ns.length ≤ ct → Calls Try.prog 9 #[.agg #[.int .i64 root, .int .i64 next, .slice p ns.length ct], .slice q ss.length cs, .int .i64 size] W (fun e w' => ∃ p cap vs, e = .returned (.tuple #[.agg #[.int .i64 r, .int .i64 x, .slice p M cap], .int .i64 er]) ∧ NodesR w' p ms ∧ SpT w' W.heap.size (.slice p M cap) M vs ∧ (∀ x ∈ vs, x.kn ≤ 140737488355328) ∧ Bl W w')
  rp : ∀ (W : World) (p q : Option Addr) (ct cs : Nat), NodesR W p ns → StepsR W q ss → Calls Try.prog 10 #[.agg #[.int .i64 root, .int .i64 next, .slice p ns.length ct], .slice q ss.length cs, .int .i64 size] W (fun e w' => ∃ p cap, e = .returned (.tuple #[.agg #[.int .i64 r, .int .i64 x, .slice p M cap], .int .i64 er]) ∧ NodesR w' p ms ∧ Bl W w')
  len : ms.length = M
  few : M ≤ 100000
  kids : ∀ x ∈ ms, x.kids.length ≤ 140737488355328

theorem p_answers (AP : ApC) (ns : List Nd) (root next : Int) (ss : List St) (size : Int) (lN : ns.length ≤ 140737488355328) (kN : ∀ x ∈ ns, x.kids.length ≤ 140737488355328) (lT : ss.length ≤ 140737488355328) (kS : ∀ s ∈ ss, s.kids.length ≤ 140737488355328) : ∃ er r x ms M, PAns ns root next ss size er r x ms M := by
  cases hp : patchP ns root next ss size with
  | none =>
    refine ⟨1500, 0, 0, [], 0, ⟨fun W p q ct cs R S h1 => ?_, fun W p q ct cs R S => ?_, rfl, by omega, fun s h => by simp at h⟩⟩
    · refine (AP W ns root next p ns.length ct ss q ss.length cs size rfl rfl R S h1 lN kN lT kS).mono ?_
      rintro e w' (⟨-, rfl, hb⟩ | ⟨q, h2, -⟩)
      · exact ⟨none, 0, [], rfl, nodesR_nil _ _, spt_nil _ _, fun x h => by simp at h, hb⟩
      · rw [hp] at h2; cases h2
    · refine (rpatch_any ns root next p ns.length ct rfl ss q ss.length cs rfl size W R S lN kN lT kS).mono ?_
      rintro e w' (⟨-, rfl, hb⟩ | ⟨q, h2, -⟩)
      · exact ⟨none, 0, rfl, nodesR_nil _ _, hb⟩
      · rw [hp] at h2; cases h2
  | some y =>
    obtain ⟨ms, nx⟩ := y
    have hm : mayB ms root nx size = true := by
      unfold patchP at hp
      split at hp
      · cases hd : doN ss (ns, next) with
        | none => rw [hd] at hp; cases hp
        | some z =>
          rw [hd] at hp
          dsimp only at hp
          split at hp
          · rename_i hm
            cases hp
            exact hm
          · cases hp
      · cases hp
    obtain ⟨s1, s2⟩ := may_small hm
    have hk : ∀ x ∈ ms, x.kids.length ≤ 140737488355328 := fun x hx => Nat.le_trans (s2 x hx) (by omega)
    refine ⟨0, root, nx, ms, ms.length, ⟨fun W p q ct cs R S h1 => ?_, fun W p q ct cs R S => ?_, rfl, by omega, hk⟩⟩
    · refine (AP W ns root next p ns.length ct ss q ss.length cs size rfl rfl R S h1 lN kN lT kS).mono ?_
      rintro e w' (⟨h2, -⟩ | ⟨q, h2, p, cap, vs, rfl, ho, hb⟩)
      · rw [hp] at h2; cases h2
      · rw [hp] at h2
        cases h2
        exact ⟨p, cap, vs, rfl, ho.read, ho.spt, ho.kn hk, hb⟩
    · refine (rpatch_any ns root next p ns.length ct rfl ss q ss.length cs rfl size W R S lN kN lT kS).mono ?_
      rintro e w' (⟨h2, -⟩ | ⟨q, h2, p, cap, vs, rfl, ho, hb⟩)
      · rw [hp] at h2; cases h2
      · rw [hp] at h2
        cases h2
        exact ⟨p, cap, rfl, ho.read, hb⟩

set_option maxRecDepth 100000 in
set_option maxHeartbeats 8000000 in
theorem patches_true (AP : ApC) (root next size : Int) (pt ps : Option Addr) (ct cs N T : Nat) (ns : List Nd) (ss : List St) (hN : ns.length = N) (hT : ss.length = T) (w : World) (RT : NodesR w pt ns) (RS : StepsR w ps ss) (la : N * 56 ≤ 140737488355328) (lb : T * 64 ≤ 140737488355328) (ka : ∀ x ∈ ns, x.kids.length * 8 ≤ 140737488355328) (kb : ∀ x ∈ ss, x.kids.length * 8 ≤ 140737488355328) :
    Calls Try.prog 3 #[.agg #[.int .i64 root, .int .i64 next, .slice pt N ct], .slice ps T cs, .int .i64 size] w (RetBelow (.returned (.bool true)) w) := by
  have k1 : ∀ x ∈ ns, x.kids.length ≤ 140737488355328 := fun x hx => Nat.le_trans (Nat.le_mul_of_pos_right _ (by omega)) (ka x hx)
  have k2 : ∀ x ∈ ss, x.kids.length ≤ 140737488355328 := fun x hx => Nat.le_trans (Nat.le_mul_of_pos_right _ (by omega)) (kb x hx)
  obtain ⟨er, r, x, ms, M, ans⟩ := p_answers AP ns root next ss size (by omega) k1 (by omega) k2
  obtain ⟨ap, rp, hM, few, kids⟩ := ans
  rw [hN, hT] at ap rp
  have AP2 := Lib.hid ap
  have RP := Lib.hid rp
  have SAB := Lib.hid (fun (W : World) (p q : Option Addr) (c d : Nat) (R : NodesR W p ms) (R2 : NodesR W q ms) => sameTree_true r x p q ms M c d hM W R R2 (by omega) kids)
  have SXT := Lib.hid (fun (W : World) (p q : Option Addr) (c d : Nat) (R : NodesR W p ns) (R2 : NodesR W q ns) => sameTree_true root next p q ns N c d hN W R R2 (by omega) k1)
  have SYS := Lib.hid (fun (W : World) (p : Option Addr) (cap : Nat) (q : Option Addr) (cb : Nat) (S : StepsR W p ss) (S2 : StepsR W q ss) => sameSteps_true p q ss T cap cb hT W S S2 (by omega) k2)
  have SP := Lib.hid (fun (base : Nat) (p : Option Addr) (vs : List Nv) (cap : Nat) (W : World) (h : SpT W base (.slice p M cap) M vs) (hb : base ≤ W.heap.size) (hk : ∀ x ∈ vs, x.kn ≤ 140737488355328) => spoilTree_any base r x p vs M cap W h hb few hk)
  have AW := Lib.hid (fun W => awake_true AP W)
  have CT := Lib.hid (fun (W : World) (hW : Bl w W) => copyT_c root next pt ns N ct hN W (RT.below hW) la ka)
  have CS' := Lib.hid (fun (W : World) (hW : Bl w W) => copyS_c ps ss T cs hT W (RS.below hW) lb kb)
  have RTH := Lib.hid RT; have RSH := Lib.hid RS
  unfold trV at SAB SXT
  have BW : Hid (Bl w (w.alloc (.cells #[.int .i64 root, .int .i64 next, .slice pt N ct] 24))) := Lib.hid (Bl.alloc (Bl.refl _) _)
  have XT : Hid ((w.alloc (.cells #[.int .i64 root, .int .i64 next, .slice pt N ct] 24)).heap[w.heap.size]? = some (.cells #[.int .i64 root, .int .i64 next, .slice pt N ct] 24 (0, 0))) := Lib.hid (heap_new rfl _ _)
  clear RT RS la lb ka kb hN hT ap rp hM few kids k1 k2 AP
  go_enter Try.func3, Try.ntmps3
  go_upto_region 1 with fail
  obtain ⟨tb, htb⟩ : ∃ g, g = w.heap.size := ⟨_, rfl⟩
  rw [← htb] at XT
  rw [← htb]
  clear htb
  generalize (w.alloc (.cells #[.int .i64 root, .int .i64 next, .slice pt N ct] 24)) = w1 at BW XT ⊢
  have t0 := (obj_cells XT.out).1 0 _ rfl; have t1 := (obj_cells XT.out).1 1 _ rfl; have t2 := (obj_cells XT.out).1 2 _ rfl
  go_upto_region 2 with (first
    | (go_at_call 7; refine (CT.out _ BW.out).mono ?_; rintro e w2 ⟨p2, c2, rfl, n2, l2, h2⟩; have N2 := Lib.hid n2; have L2 := Lib.hid l2; have B2 : Hid (Bl w1 w2) := Lib.hid h2; have BB2 : Hid (Bl w w2) := Lib.hid (BW.out.call h2); clear n2 l2 h2)
    | (go_at_call 8; refine (CS'.out _ BB2.out).mono ?_; rintro e w3 ⟨p3, c3, rfl, n3, h3⟩; have N3 := Lib.hid n3; have B3 : Hid (Bl w2 w3) := Lib.hid h3; clear n3 h3))
  clear t0 t1 t2 CT CS'
  have b4 : Bl w3 (w3.alloc (.cells #[.int .i64 root, .int .i64 next, .slice p2 N c2] 24)) := Bl.alloc (Bl.refl _) _
  have X4 : Hid ((w3.alloc (.cells #[.int .i64 root, .int .i64 next, .slice p2 N c2] 24)).heap[w3.heap.size]? = some (.cells #[.int .i64 root, .int .i64 next, .slice p2 N c2] 24 (0, 0))) := Lib.hid (heap_new rfl _ _)
  have BC : Hid (Bl w (w3.alloc (.cells #[.int .i64 root, .int .i64 next, .slice p2 N c2] 24))) := Lib.hid ((BB2.out.call B3.out).call b4)
  have N24 := Lib.hid ((N2.out.below B3.out).below b4); have N34 := Lib.hid (N3.out.below b4)
  have T4 := Lib.hid (heap_later (heap_later (heap_later XT.out B2.out) B3.out) b4)
  obtain ⟨xb, hxb⟩ : ∃ g, g = w3.heap.size := ⟨_, rfl⟩
  rw [← hxb] at X4 ⊢
  clear hxb b4 N2 N3 B2 B3 BB2 XT BW
  generalize (w3.alloc (.cells #[.int .i64 root, .int .i64 next, .slice p2 N c2] 24)) = wc at X4 BC N24 N34 T4 ⊢
  have RT4 := Lib.hid (RTH.out.below BC.out); have RS4 := Lib.hid (RSH.out.below BC.out)
  clear RTH RSH
  have x0 := (obj_cells X4.out).1 0 _ rfl; have x1 := (obj_cells X4.out).1 1 _ rfl; have x2 := (obj_cells X4.out).1 2 _ rfl
  go_upto_region 3 with (go_at_call 9; refine (AP2.out _ _ _ _ _ N24.out N34.out L2.out).mono ?_; rintro e w5 ⟨p5, c5, vs, rfl, n5, sp5, k5, h5⟩; have N5 := Lib.hid n5; have P5 := Lib.hid sp5; have K5 := Lib.hid k5; have B5 : Hid (Bl wc w5) := Lib.hid h5; clear n5 sp5 k5 h5)
  clear x0 x1 x2 AP2
  have b6 : Bl w5 (w5.alloc (.cells #[.int .i64 r, .int .i64 x, .slice p5 M c5] 24)) := Bl.alloc (Bl.refl _) _
  have A6 : Hid ((w5.alloc (.cells #[.int .i64 r, .int .i64 x, .slice p5 M c5] 24)).heap[w5.heap.size]? = some (.cells #[.int .i64 r, .int .i64 x, .slice p5 M c5] 24 (0, 0))) := Lib.hid (heap_new rfl _ _)
  have N6 := Lib.hid (N5.out.below b6); have P6 := Lib.hid (P5.out.below b6); have B6 : Hid (Bl wc (w5.alloc (.cells #[.int .i64 r, .int .i64 x, .slice p5 M c5] 24))) := Lib.hid (B5.out.call b6)
  obtain ⟨ab, hab⟩ : ∃ g, g = w5.heap.size := ⟨_, rfl⟩
  rw [← hab] at A6 ⊢
  clear hab b6 N5 P5 B5
  generalize (w5.alloc (.cells #[.int .i64 r, .int .i64 x, .slice p5 M c5] 24)) = w6 at A6 N6 P6 B6 ⊢
  have T6 := Lib.hid (heap_later T4.out B6.out)
  have t0 := (obj_cells T6.out).1 0 _ rfl; have t1 := (obj_cells T6.out).1 1 _ rfl; have t2 := (obj_cells T6.out).1 2 _ rfl
  go_upto_region 4 with (go_at_call 10; refine (RP.out _ _ _ _ _ (RT4.out.below B6.out) (RS4.out.below B6.out)).mono ?_; rintro e w7 ⟨p7, c7, rfl, n7, h7⟩; have N7 := Lib.hid n7; have B7 : Hid (Bl w6 w7) := Lib.hid h7; clear n7 h7)
  clear t0 t1 t2 RP T6
  have b8 : Bl w7 (w7.alloc (.cells #[.int .i64 r, .int .i64 x, .slice p7 M c7] 24)) := Bl.alloc (Bl.refl _) _
  have E8 : Hid ((w7.alloc (.cells #[.int .i64 r, .int .i64 x, .slice p7 M c7] 24)).heap[w7.heap.size]? = some (.cells #[.int .i64 r, .int .i64 x, .slice p7 M c7] 24 (0, 0))) := Lib.hid (heap_new rfl _ _)
  have N8 := Lib.hid (N7.out.below b8); have C8 : Hid (Bl w6 (w7.alloc (.cells #[.int .i64 r, .int .i64 x, .slice p7 M c7] 24))) := Lib.hid (B7.out.call b8)
  obtain ⟨eb, heb⟩ : ∃ g, g = w7.heap.size := ⟨_, rfl⟩
  rw [← heb] at E8 ⊢
  clear heb b8 N7 B7
  generalize (w7.alloc (.cells #[.int .i64 r, .int .i64 x, .slice p7 M c7] 24)) = w8 at E8 N8 C8 ⊢
  have A8 := Lib.hid (heap_later A6.out C8.out); have P8 := Lib.hid (P6.out.below C8.out); have N68 := Lib.hid (N6.out.below C8.out); have B8 : Hid (Bl wc w8) := Lib.hid (B6.out.call C8.out)
  clear A6 P6 N6 B6 C8
  have a0 := (obj_cells A8.out).1 0 _ rfl; have a1 := (obj_cells A8.out).1 1 _ rfl; have a2 := (obj_cells A8.out).1 2 _ rfl
  have e0 := (obj_cells E8.out).1 0 _ rfl; have e1 := (obj_cells E8.out).1 1 _ rfl; have e2 := (obj_cells E8.out).1 2 _ rfl
  go_upto_region 6 with (first | (go_at_call 11; refine (SAB.out _ _ _ _ _ N68.out N8.out).mono ?_; rintro e w9 ⟨rfl, h9⟩; have B9 : Hid (Bl w8 w9) := Lib.hid h9; clear h9) | (go_at_call 12; refine (num_any _ _).mono ?_; rintro e w10 ⟨rfl, rfl⟩))
  clear SAB a0 a1 a2 e0 e1 e2 E8 N8 N68
  have A9 := Lib.hid (heap_later A8.out B9.out); have P9 := Lib.hid (P8.out.below B9.out); have BB9 : Hid (Bl wc w9) := Lib.hid (B8.out.call B9.out)
  have a0 := (obj_cells A9.out).1 0 _ rfl; have a1 := (obj_cells A9.out).1 1 _ rfl; have a2 := (obj_cells A9.out).1 2 _ rfl
  go_upto_region 7 with (go_at_call 13; refine (SP.out _ _ _ _ _ P9.out BB9.out.size K5.out).mono ?_; rintro e w11 ⟨rfl, h11⟩; have B11 : Hid (Bl wc w11) := Lib.hid (Below.trans BB9.out h11); clear h11)
  clear SP P9 P8 B8 B9 BB9 A8 A9 a0 a1 a2 K5
  have X11 := Lib.hid (heap_later X4.out B11.out); have T11 := Lib.hid (heap_later T4.out B11.out)
  have x0 := (obj_cells X11.out).1 0 _ rfl; have x1 := (obj_cells X11.out).1 1 _ rfl; have x2 := (obj_cells X11.out).1 2 _ rfl
  have t0 := (obj_cells T11.out).1 0 _ rfl; have t1 := (obj_cells T11.out).1 1 _ rfl; have t2 := (obj_cells T11.out).1 2 _ rfl
  go_wp2_with (first
    | (go_at_call 11; refine (SXT.out _ _ _ _ _ (N24.out.below B11.out) (RT4.out.below B11.out)).mono ?_; rintro e w12 ⟨rfl, h12⟩; have B12 : Hid (Bl wc w12) := Lib.hid (B11.out.call h12); clear h12)
    | (go_at_call 14; refine (SYS.out _ _ _ _ _ (N34.out.below B12.out) (RS4.out.below B12.out)).mono ?_; rintro e w13 ⟨rfl, h13⟩; have B13 : Hid (Bl wc w13) := Lib.hid (B12.out.call h13); clear h13)
    | (go_at_call 15; refine (AW.out _).mono ?_; rintro e w14 ⟨rfl, h14⟩; have B14 : Hid (Bl wc w14) := Lib.hid (B13.out.call h14); clear h14))
  go_ret
  exact ⟨rfl, BC.out.call B14.out⟩

end Go.Proofs.Ytdhkjhdbaofdcaa
