/-
  The walk of minuetlaw15's awake, under what Apply answers: it answers true. Conditions: as each theorem's premises say.
-/
import Derived.Test.YtdhkjhdbaofdcaaPaB
import Derived.Test.YtdhkjhdbaofdcaaRw11
import Derived.Test.YtdhkjhdbaofdcaaDe6
namespace Go.Proofs.Ytdhkjhdbaofdcaa
open Go.RowKit

/-- What the program's Apply answers. -/
def ApC : Prop := ∀ (W : World) (ns : List Nd) (root next : Int) (pt : Option Addr) (N ct : Nat) (ss : List St) (ps : Option Addr) (T cs : Nat) (size : Int), ns.length = N → ss.length = T → NodesR W pt ns → StepsR W ps ss → N ≤ ct → N ≤ 140737488355328 → (∀ x ∈ ns, x.kids.length ≤ 140737488355328) → T ≤ 140737488355328 → (∀ s ∈ ss, s.kids.length ≤ 140737488355328) →
  Calls Try.prog 9 #[.agg #[.int .i64 root, .int .i64 next, .slice pt N ct], .slice ps T cs, .int .i64 size] W (PatPost ns root next ss size W)

theorem OwnT.cap {w : World} {base N cap : Nat} {p : Option Addr} {vs : List Nv} {ns : List Nd} (h : OwnT w base (.slice p N cap) vs ns) : N ≤ cap := by
  rcases h.row.2 with ⟨hv, hn⟩ | ⟨g, c, _, hv, _, _, hnc, _⟩
  · cases hv; exact Nat.le_refl _
  · cases hv; exact hnc
def aA : List UInt8 := [91, 49, 93]
def aU : List UInt8 := [91, 49, 44, 32, 50, 93]
def aSs : List St := [⟨1, 3, 5, 0, 0, []⟩, ⟨2, 1, 0, 0, 0, [2, 3]⟩, ⟨3, 0, 0, 0, 6, []⟩, ⟨3, 1, 0, 0, 6, []⟩, ⟨3, 3, 0, 4, 5, []⟩]
def aDr : List St := [⟨0, 9, 0, 0, 0, []⟩]
theorem aA_len : (parN aA).length = 3 := by decide +kernel
theorem aU_len : (renN aA aU).length = 4 := by decide +kernel
theorem aU_next : renX aA aU = 4 := by decide +kernel
theorem a_steps : stepsL (parN aA) (renN aA aU) = aSs := by kernel_rfl
theorem a_delta : deltaB (parN aA) 0 3 (renN aA aU) 0 4 = true := by decide +kernel
theorem a_yes : patchP (parN aA) 0 3 aSs 6 = some (renN aA aU, 4) := by kernel_rfl
theorem a_five : patchP (parN aA) 0 3 aSs 5 = none := by kernel_rfl
theorem a_drop : patchP (parN aA) 0 3 aDr 3 = none := by kernel_rfl
theorem par_few {l : List UInt8} (hl : l.length ≤ 300) : ∀ x ∈ parN l, x.kids.length ≤ 2048 := par_kids hl
theorem ren_few {s u : List UInt8} (hs : s.length ≤ 300) (hu : u.length ≤ 300) : ∀ x ∈ renN s u, x.kids.length ≤ 2048 := (may_small (ren_may hs hu)).2
theorem aSs_kids : ∀ s ∈ aSs, s.kids.length ≤ 140737488355328 := by
  intro s hs
  simp only [aSs, List.mem_cons, List.not_mem_nil, or_false] at hs
  rcases hs with rfl | rfl | rfl | rfl | rfl <;> simp
theorem aDr_kids : ∀ s ∈ aDr, s.kids.length ≤ 140737488355328 := by
  intro s hs
  simp only [aDr, List.mem_cons, List.not_mem_nil, or_false] at hs
  subst hs; simp
/-- The one step, as it is written out. -/
theorem a_lit (W : World) : StepsR (W.alloc (.cells #[.int .i64 0, .int .i64 9, .int .i64 0, .int .i64 0, .int .i64 0, .slice none 0 0] 42)) (some ⟨W.heap.size, 0, none⟩) aDr := by
  have hC := (obj_cells (heap_new (W := W) rfl #[.int .i64 0, .int .i64 9, .int .i64 0, .int .i64 0, .int .i64 0, .slice none 0 0] 42)).1
  intro i s hi
  match i, hi with
  | 0, hi =>
    cases hi
    refine ⟨_, _, none, 0, rfl, fun j u hu => ?_, fun k x hx => by simp at hx⟩
    simp only [Nat.zero_mul, Nat.zero_add]
    exact hC j u (by simpa [lyS, Sv.cells, Sv.kv] using hu)
  | i + 1, hi => simp [aDr] at hi

/-! What is called, with lengths as letters -/
theorem parse_c (s : ByteArray) (hs : s.size ≤ 300) (l : List UInt8) (hl : s.data.toList = l) (K : Nat) (hK : (parN l).length = K) (w : World) : Calls Try.prog 16 #[.string s] w (fun e w' => ∃ p cap, e = .returned (.tuple #[.agg #[.int .i64 0, .int .i64 K, .slice p K cap], .int .i64 0]) ∧ NodesR w' p (parN l) ∧ K ≤ cap ∧ Bl w w') := by
  subst hl
  refine (parse_yes s w hs).mono ?_
  rintro e w' ⟨p, cap, vs, rfl, ho, hb⟩
  rw [hK] at ho ⊢
  exact ⟨p, cap, rfl, ho.read, ho.cap, hb⟩
theorem renew_c (s u : ByteArray) (hs : s.size ≤ 300) (hu : u.size ≤ 300) (l m : List UInt8) (hl : s.data.toList = l) (hm : u.data.toList = m) (K N X : Nat) (hK : (parN l).length = K) (hN : (renN l m).length = N) (hX : renX l m = X) (w : World) (p : Option Addr) (cap : Nat) (R : NodesR w p (parN l)) : Calls Try.prog 17 #[.agg #[.int .i64 0, .int .i64 K, .slice p K cap], .string s, .string u] w (fun e w' => ∃ p cap, e = .returned (.tuple #[.agg #[.int .i64 0, .int .i64 X, .slice p N cap], .int .i64 0]) ∧ NodesR w' p (renN l m) ∧ N ≤ cap ∧ Bl w w') := by
  subst hl; subst hm
  refine (renew_yes s u w hs hu p K cap hK R).mono ?_
  rintro e w' ⟨q, c, vs, rfl, ho, hb⟩
  rw [hN, hX] at *
  exact ⟨q, c, rfl, ho.read, ho.cap, hb⟩
theorem delta_c (w : World) (a : List Nd) (ra na : Int) (pa : Option Addr) (A ca : Nat) (b : List Nd) (rb nb : Int) (pb : Option Addr) (B cb T : Nat) (hA : a.length = A) (hB : b.length = B) (ha : NodesR w pa a) (hb : NodesR w pb b) (la : A ≤ 2048) (lb : B ≤ 2048) (ka : ∀ x ∈ a, x.kids.length ≤ 2048) (kb : ∀ x ∈ b, x.kids.length ≤ 2048)
    (hd : deltaB a ra na b rb nb = true) (ss : List St) (hs : stepsL a b = ss) (hT : ss.length = T) : Calls Try.prog 18 #[.agg #[.int .i64 ra, .int .i64 na, .slice pa A ca], .agg #[.int .i64 rb, .int .i64 nb, .slice pb B cb]] w (fun e w' => ∃ p cap, e = .returned (.tuple #[.slice p T cap, .int .i64 0]) ∧ StepsR w' p ss ∧ Bl w w') := by
  subst hs
  refine (delta_any w a ra na pa A ca b rb nb pb B cb hA hB ha hb (by omega) (by omega) (fun x hx => Nat.le_trans (ka x hx) (by omega)) (fun x hx => Nat.le_trans (kb x hx) (by omega))).mono ?_
  rintro e w' (⟨-, p, cap, rfl, ho, hbb⟩ | ⟨h, -⟩)
  · rw [hT] at *
    exact ⟨p, cap, rfl, ho, hbb⟩
  · rw [hd] at h; cases h
theorem apply_no (AP : ApC) (W : World) (ns : List Nd) (root next : Int) (pt : Option Addr) (N ct : Nat) (ss : List St) (ps : Option Addr) (T cs : Nat) (size : Int) (hN : ns.length = N) (hT : ss.length = T) (R : NodesR W pt ns) (S : StepsR W ps ss) (lc : N ≤ ct) (lN : N ≤ 2048) (kN : ∀ x ∈ ns, x.kids.length ≤ 2048) (lT : T ≤ 100000) (kS : ∀ s ∈ ss, s.kids.length ≤ 140737488355328)
    (h : patchP ns root next ss size = none) : Calls Try.prog 9 #[.agg #[.int .i64 root, .int .i64 next, .slice pt N ct], .slice ps T cs, .int .i64 size] W (PatNo W) := by
  refine (AP W ns root next pt N ct ss ps T cs size hN hT R S lc (by omega) (fun x hx => Nat.le_trans (kN x hx) (by omega)) (by omega) kS).mono ?_
  rintro e w' (⟨-, h2⟩ | ⟨q, h2, -⟩)
  · exact h2
  · rw [h] at h2; cases h2
theorem apply_yes (AP : ApC) (W : World) (ns : List Nd) (root next : Int) (pt : Option Addr) (N ct : Nat) (ss : List St) (ps : Option Addr) (T cs : Nat) (size : Int) (hN : ns.length = N) (hT : ss.length = T) (R : NodesR W pt ns) (S : StepsR W ps ss) (lc : N ≤ ct) (lN : N ≤ 2048) (kN : ∀ x ∈ ns, x.kids.length ≤ 2048) (lT : T ≤ 100000) (kS : ∀ s ∈ ss, s.kids.length ≤ 140737488355328)
    (ms : List Nd) (nx : Int) (M : Nat) (h : patchP ns root next ss size = some (ms, nx)) (hM : ms.length = M) : Calls Try.prog 9 #[.agg #[.int .i64 root, .int .i64 next, .slice pt N ct], .slice ps T cs, .int .i64 size] W (fun e w' => ∃ p cap vs, e = .returned (.tuple #[.agg #[.int .i64 root, .int .i64 nx, .slice p M cap], .int .i64 0]) ∧ OwnT w' W.heap.size (.slice p M cap) vs ms ∧ M ≤ cap ∧ Bl W w') := by
  refine (AP W ns root next pt N ct ss ps T cs size hN hT R S lc (by omega) (fun x hx => Nat.le_trans (kN x hx) (by omega)) (by omega) kS).mono ?_
  rintro e w' (⟨h2, -⟩ | ⟨q, h2, p, cap, vs, rfl, ho, hb⟩)
  · rw [h] at h2; cases h2
  · rw [h] at h2
    cases h2
    dsimp only at ho ⊢
    rw [hM] at ho ⊢
    exact ⟨p, cap, vs, rfl, ho, ho.cap, hb⟩

set_option maxRecDepth 100000 in
set_option maxHeartbeats 8000000 in
theorem awake_true (AP : ApC) (w : World) : Calls Try.prog 15 #[] w (RetBelow (.returned (.bool true)) w) := by
  have PA := Lib.hid (fun W => parse_c ⟨#[91, 49, 93]⟩ (by decide) aA rfl 3 aA_len W)
  have RN := Lib.hid (fun (W : World) (p : Option Addr) (cap : Nat) (R : NodesR W p (parN aA)) => renew_c ⟨#[91, 49, 93]⟩ ⟨#[91, 49, 44, 32, 50, 93]⟩ (by decide) (by decide) aA aU rfl rfl 3 4 4 aA_len aU_len aU_next W p cap R)
  have DT := Lib.hid (fun (W : World) (p q : Option Addr) (ca cb : Nat) (R : NodesR W p (parN aA)) (R2 : NodesR W q (renN aA aU)) => delta_c W (parN aA) 0 3 p 3 ca (renN aA aU) 0 4 q 4 cb 5 aA_len aU_len R R2 (by omega) (by omega) (par_few (by decide)) (ren_few (by decide) (by decide)) a_delta aSs a_steps rfl)
  have AY := Lib.hid (fun (W : World) (p q : Option Addr) (ca cs : Nat) (R : NodesR W p (parN aA)) (S : StepsR W q aSs) (h1 : 3 ≤ ca) => apply_yes AP W (parN aA) 0 3 p 3 ca aSs q 5 cs 6 aA_len rfl R S h1 (by omega) (par_few (by decide)) (by omega) aSs_kids (renN aA aU) 4 4 a_yes aU_len)
  have AF := Lib.hid (fun (W : World) (p q : Option Addr) (ca cs : Nat) (R : NodesR W p (parN aA)) (S : StepsR W q aSs) (h1 : 3 ≤ ca) => apply_no AP W (parN aA) 0 3 p 3 ca aSs q 5 cs 5 aA_len rfl R S h1 (by omega) (par_few (by decide)) (by omega) aSs_kids a_five)
  have AD := Lib.hid (fun (W : World) (p q : Option Addr) (ca cs : Nat) (R : NodesR W p (parN aA)) (S : StepsR W q aDr) (h1 : 3 ≤ ca) => apply_no AP W (parN aA) 0 3 p 3 ca aDr q 1 cs 3 aA_len rfl R S h1 (by omega) (par_few (by decide)) (by omega) aDr_kids a_drop)
  have ST := Lib.hid (fun (W : World) (p q : Option Addr) (c d : Nat) (R : NodesR W p (renN aA aU)) (R2 : NodesR W q (renN aA aU)) => sameTree_true 0 4 p q (renN aA aU) 4 c d aU_len W R R2 (by omega) (fun x hx => Nat.le_trans (ren_few (s := aA) (u := aU) (by decide) (by decide) x hx) (by omega)))
  unfold trV at ST
  clear AP
  go_enter Try.func15, Try.ntmps15
  go_upto_region 2 with (go_at_call 16; refine (PA.out _).mono ?_; rintro e w1 ⟨p1, c1, rfl, o1, hc1, hb1⟩; have O1 := Lib.hid o1; have B1 := Lib.hid hb1; have C1 := Lib.hid hc1; clear o1 hb1 hc1)
  have b1 : Bl w1 (w1.alloc (.cells #[.int .i64 0, .int .i64 3, .slice p1 3 c1] 24)) := Bl.alloc (Bl.refl _) _
  have T1 : Hid ((w1.alloc (.cells #[.int .i64 0, .int .i64 3, .slice p1 3 c1] 24)).heap[w1.heap.size]? = some (.cells #[.int .i64 0, .int .i64 3, .slice p1 3 c1] 24 (0, 0))) := Lib.hid (heap_new rfl _ _)
  have O2 := Lib.hid (O1.out.below b1); have B2 := Lib.hid (B1.out.call b1)
  obtain ⟨tb, htb⟩ : ∃ g, g = w1.heap.size := ⟨_, rfl⟩
  rw [← htb] at T1 ⊢
  clear O1 B1 b1 htb PA
  generalize (w1.alloc (.cells #[.int .i64 0, .int .i64 3, .slice p1 3 c1] 24)) = w2 at O2 B2 T1 ⊢
  have t0 := (obj_cells T1.out).1 0 _ rfl; have t1 := (obj_cells T1.out).1 1 _ rfl; have t2 := (obj_cells T1.out).1 2 _ rfl
  go_upto_region 3 with (go_at_call 17; refine (RN.out _ _ _ O2.out).mono ?_; rintro e w3 ⟨p3, c3, rfl, o3, hc3, hb3⟩; have R3 := Lib.hid o3; have B3 := Lib.hid (B2.out.call hb3); have T3 := Lib.hid (heap_later T1.out hb3); have O3 := Lib.hid (O2.out.below hb3); clear o3 hb3 hc3)
  clear t0 t1 t2 T1 O2 B2 RN
  have b3 : Bl w3 (w3.alloc (.cells #[.int .i64 0, .int .i64 4, .slice p3 4 c3] 24)) := Bl.alloc (Bl.refl _) _
  have U4 : Hid ((w3.alloc (.cells #[.int .i64 0, .int .i64 4, .slice p3 4 c3] 24)).heap[w3.heap.size]? = some (.cells #[.int .i64 0, .int .i64 4, .slice p3 4 c3] 24 (0, 0))) := Lib.hid (heap_new rfl _ _)
  have O4 := Lib.hid (O3.out.below b3); have B4 := Lib.hid (B3.out.call b3); have R4 := Lib.hid (R3.out.below b3); have T4 := Lib.hid (heap_later T3.out b3)
  obtain ⟨ub, hub⟩ : ∃ g, g = w3.heap.size := ⟨_, rfl⟩
  rw [← hub] at U4 ⊢
  clear O3 B3 R3 T3 b3 hub
  generalize (w3.alloc (.cells #[.int .i64 0, .int .i64 4, .slice p3 4 c3] 24)) = w4 at O4 B4 R4 T4 U4 ⊢
  have t0 := (obj_cells T4.out).1 0 _ rfl; have t1 := (obj_cells T4.out).1 1 _ rfl; have t2 := (obj_cells T4.out).1 2 _ rfl
  have u0 := (obj_cells U4.out).1 0 _ rfl; have u1 := (obj_cells U4.out).1 1 _ rfl; have u2 := (obj_cells U4.out).1 2 _ rfl
  go_upto_region 4 with (go_at_call 18; refine (DT.out _ _ _ _ _ O4.out R4.out).mono ?_; rintro e w5 ⟨p5, c5, rfl, s5, hb5⟩; have S5 := Lib.hid s5; have B5 := Lib.hid (B4.out.call hb5); have T5 := Lib.hid (heap_later T4.out hb5); have U5 := Lib.hid (heap_later U4.out hb5); have O5 := Lib.hid (O4.out.below hb5); have R5 := Lib.hid (R4.out.below hb5); clear s5 hb5)
  clear t0 t1 t2 u0 u1 u2 DT O4 R4 B4 T4 U4
  have t0 := (obj_cells T5.out).1 0 _ rfl; have t1 := (obj_cells T5.out).1 1 _ rfl; have t2 := (obj_cells T5.out).1 2 _ rfl
  go_upto_region 5 with (go_at_call 9; refine (AY.out _ _ _ _ _ O5.out S5.out C1.out).mono ?_; rintro e w6 ⟨p6, c6, vs6, rfl, n6, -, hb6⟩; have N6 := Lib.hid n6.read; have B6 := Lib.hid (B5.out.call hb6); have T6 := Lib.hid (heap_later T5.out hb6); have U6 := Lib.hid (heap_later U5.out hb6); have O6 := Lib.hid (O5.out.below hb6); have R6 := Lib.hid (R5.out.below hb6); have S6 := Lib.hid (S5.out.below hb6); clear n6 hb6)
  clear t0 t1 t2 AY O5 R5 B5 T5 U5 S5
  have b7 : Bl w6 (w6.alloc (.cells #[.int .i64 0, .int .i64 4, .slice p6 4 c6] 24)) := Bl.alloc (Bl.refl _) _
  have V7 : Hid ((w6.alloc (.cells #[.int .i64 0, .int .i64 4, .slice p6 4 c6] 24)).heap[w6.heap.size]? = some (.cells #[.int .i64 0, .int .i64 4, .slice p6 4 c6] 24 (0, 0))) := Lib.hid (heap_new rfl _ _)
  have O7 := Lib.hid (O6.out.below b7); have B7 := Lib.hid (B6.out.call b7); have R7 := Lib.hid (R6.out.below b7); have T7 := Lib.hid (heap_later T6.out b7); have U7 := Lib.hid (heap_later U6.out b7); have N7 := Lib.hid (N6.out.below b7); have S7 := Lib.hid (S6.out.below b7)
  obtain ⟨vb, hvb⟩ : ∃ g, g = w6.heap.size := ⟨_, rfl⟩
  rw [← hvb] at V7 ⊢
  clear O6 B6 R6 T6 U6 N6 S6 b7 hvb
  generalize (w6.alloc (.cells #[.int .i64 0, .int .i64 4, .slice p6 4 c6] 24)) = w7 at O7 B7 R7 T7 U7 N7 S7 V7 ⊢
  have t0 := (obj_cells T7.out).1 0 _ rfl; have t1 := (obj_cells T7.out).1 1 _ rfl; have t2 := (obj_cells T7.out).1 2 _ rfl
  go_upto_region 6 with (go_at_call 9; refine (AF.out _ _ _ _ _ O7.out S7.out C1.out).mono ?_; rintro e w8 ⟨rfl, hb8⟩; have b8 : Bl w7 (w8.alloc (.cells #[.int .i64 0, .int .i64 0, .slice none 0 0] 24)) := Bl.alloc hb8 _; have L8 := Lib.hid b8; clear b8 hb8)
  clear t0 t1 t2 AF S7
  have O8 := Lib.hid (O7.out.below L8.out); have B8 := Lib.hid (B7.out.call L8.out); have R8 := Lib.hid (R7.out.below L8.out); have T8 := Lib.hid (heap_later T7.out L8.out); have U8 := Lib.hid (heap_later U7.out L8.out); have V8 := Lib.hid (heap_later V7.out L8.out); have N8 := Lib.hid (N7.out.below L8.out)
  clear O7 B7 R7 T7 U7 N7 V7 L8
  generalize (w8.alloc (.cells #[.int .i64 0, .int .i64 0, .slice none 0 0] 24)) = w9 at O8 B8 R8 T8 U8 V8 N8 ⊢
  have t0 := (obj_cells T8.out).1 0 _ rfl; have t1 := (obj_cells T8.out).1 1 _ rfl; have t2 := (obj_cells T8.out).1 2 _ rfl
  have LIT := Lib.hid (a_lit w9)
  have BL : Hid (Bl w9 (w9.alloc (.cells #[.int .i64 0, .int .i64 9, .int .i64 0, .int .i64 0, .int .i64 0, .slice none 0 0] 42))) := Lib.hid (Bl.alloc (Bl.refl _) _)
  go_upto_region 7 with (go_at_call 9; refine (AD.out _ _ _ _ _ (O8.out.below BL.out) LIT.out C1.out).mono ?_; rintro e w10 ⟨rfl, hb10⟩; have b10 : Bl w9 (w10.alloc (.cells #[.int .i64 0, .int .i64 0, .slice none 0 0] 24)) := Bl.alloc (BL.out.call hb10) _; have L10 := Lib.hid b10; clear b10 hb10)
  clear t0 t1 t2 AD LIT BL
  have B10 := Lib.hid (B8.out.call L10.out); have R10 := Lib.hid (R8.out.below L10.out); have U10 := Lib.hid (heap_later U8.out L10.out); have V10 := Lib.hid (heap_later V8.out L10.out); have N10 := Lib.hid (N8.out.below L10.out)
  clear B8 R8 U8 V8 N8 T8 O8 L10
  generalize (w10.alloc (.cells #[.int .i64 0, .int .i64 0, .slice none 0 0] 24)) = w11 at B10 R10 U10 V10 N10 ⊢
  have u0 := (obj_cells U10.out).1 0 _ rfl; have u1 := (obj_cells U10.out).1 1 _ rfl; have u2 := (obj_cells U10.out).1 2 _ rfl
  have v0 := (obj_cells V10.out).1 0 _ rfl; have v1 := (obj_cells V10.out).1 1 _ rfl; have v2 := (obj_cells V10.out).1 2 _ rfl
  go_wp2_with (first | (go_at_call 11; refine (ST.out _ _ _ _ _ N10.out R10.out).mono ?_; rintro e w12 ⟨rfl, hb12⟩; have B12 := Lib.hid (B10.out.call hb12); clear hb12) | (go_at_call 12; refine (num_any _ _).mono ?_; rintro e w13 ⟨rfl, rfl⟩))
  go_ret
  exact ⟨rfl, B12.out⟩

end Go.Proofs.Ytdhkjhdbaofdcaa
