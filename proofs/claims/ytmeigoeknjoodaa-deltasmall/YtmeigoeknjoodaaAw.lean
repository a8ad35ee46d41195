/-
  The walk of minuetlaw14's awake: it answers true. No condition.
-/
import Derived.Test.YtmeigoeknjoodaaDt8
import Derived.Test.YtmeigoeknjoodaaRw11
import Derived.Test.YtmeigoeknjoodaaSmM
namespace Go.Proofs.Ytmeigoeknjoodaa
open Go.RowKit

theorem OwnT.cap {w : World} {base N cap : Nat} {p : Option Addr} {vs : List Nv} {ns : List Nd} (h : OwnT w base (.slice p N cap) vs ns) : N ≤ cap := by
  rcases h.row.2 with ⟨hv, hn⟩ | ⟨g, c, _, hv, _, _, hnc, _⟩
  · cases hv; exact Nat.le_refl _
  · cases hv; exact hnc
def aA : List UInt8 := [91, 49, 93]
def aU : List UInt8 := [91, 49, 44, 32, 50, 93]
def aSs : List St := [⟨1, 3, 5, 0, 0, []⟩, ⟨2, 1, 0, 0, 0, [2, 3]⟩, ⟨3, 0, 0, 0, 6, []⟩, ⟨3, 1, 0, 0, 6, []⟩, ⟨3, 3, 0, 4, 5, []⟩]
theorem aA_len : (parN aA).length = 3 := by decide +kernel
theorem aU_len : (renN aA aU).length = 4 := by decide +kernel
theorem aU_next : renX aA aU = 4 := by decide +kernel
theorem a_steps : stepsL (parN aA) (renN aA aU) = aSs := by kernel_rfl
theorem a_delta : deltaB (parN aA) 0 3 (renN aA aU) 0 4 = true := by decide +kernel
theorem a_none : deltaB (parN aA) 0 3 [] 0 0 = false := by decide +kernel
theorem a_self : deltaB (parN aA) 0 3 (parN aA) 0 3 = true := by decide +kernel
theorem a_same : stepsL (parN aA) (parN aA) = [] := by kernel_rfl
theorem a_kids : ∀ x ∈ parN aA, x.kids.length ≤ 2048 := par_kids (by decide)
theorem r_kids {s u : List UInt8} (hs : s.length ≤ 300) (hu : u.length ≤ 300) : ∀ x ∈ renN s u, x.kids.length ≤ 2048 := (may_small (ren_may hs hu)).2
theorem stepsR_nil (w : World) (p : Option Addr) : StepsR w p [] := fun i s h => by simp at h
theorem nodesR_nil (w : World) (p : Option Addr) : NodesR w p [] := fun i s h => by simp at h
/-- The five steps, as they are written out. -/
theorem a_lit (W : World) : StepsR ((W.alloc (.cells #[.int .i64 2, .int .i64 3] 3)).alloc (.cells #[.int .i64 1, .int .i64 3, .int .i64 5, .int .i64 0, .int .i64 0, .slice none 0 0, .int .i64 2, .int .i64 1, .int .i64 0, .int .i64 0, .int .i64 0, .slice (some ⟨W.heap.size, 0, none⟩) 2 2,
    .int .i64 3, .int .i64 0, .int .i64 0, .int .i64 0, .int .i64 6, .slice none 0 0, .int .i64 3, .int .i64 1, .int .i64 0, .int .i64 0, .int .i64 6, .slice none 0 0, .int .i64 3, .int .i64 3, .int .i64 0, .int .i64 4, .int .i64 5, .slice none 0 0] 43)) (some ⟨W.heap.size + 1, 0, none⟩) aSs := by
  have hB := heap_new (W := W.alloc (.cells #[.int .i64 2, .int .i64 3] 3)) (k := W.heap.size + 1) (by simp) #[.int .i64 1, .int .i64 3, .int .i64 5, .int .i64 0, .int .i64 0, .slice none 0 0, .int .i64 2, .int .i64 1, .int .i64 0, .int .i64 0, .int .i64 0, .slice (some ⟨W.heap.size, 0, none⟩) 2 2,
    .int .i64 3, .int .i64 0, .int .i64 0, .int .i64 0, .int .i64 6, .slice none 0 0, .int .i64 3, .int .i64 1, .int .i64 0, .int .i64 0, .int .i64 6, .slice none 0 0, .int .i64 3, .int .i64 3, .int .i64 0, .int .i64 4, .int .i64 5, .slice none 0 0] 43
  have hC := (obj_cells hB).1
  have hK := (obj_cells (heap_old (heap_new (W := W) rfl #[.int .i64 2, .int .i64 3] 3) (.cells #[.int .i64 1, .int .i64 3, .int .i64 5, .int .i64 0, .int .i64 0, .slice none 0 0, .int .i64 2, .int .i64 1, .int .i64 0, .int .i64 0, .int .i64 0, .slice (some ⟨W.heap.size, 0, none⟩) 2 2,
    .int .i64 3, .int .i64 0, .int .i64 0, .int .i64 0, .int .i64 6, .slice none 0 0, .int .i64 3, .int .i64 1, .int .i64 0, .int .i64 0, .int .i64 6, .slice none 0 0, .int .i64 3, .int .i64 3, .int .i64 0, .int .i64 4, .int .i64 5, .slice none 0 0] 43))).1
  have key : ∀ (i : Nat) (v : Sv), (∀ (j : Nat) u, (Sv.cells v)[j]? = some u → (#[.int .i64 1, .int .i64 3, .int .i64 5, .int .i64 0, .int .i64 0, .slice none 0 0, .int .i64 2, .int .i64 1, .int .i64 0, .int .i64 0, .int .i64 0, .slice (some ⟨W.heap.size, 0, none⟩) 2 2,
    .int .i64 3, .int .i64 0, .int .i64 0, .int .i64 0, .int .i64 6, .slice none 0 0, .int .i64 3, .int .i64 1, .int .i64 0, .int .i64 0, .int .i64 6, .slice none 0 0, .int .i64 3, .int .i64 3, .int .i64 0, .int .i64 4, .int .i64 5, .slice none 0 0] : Array Value)[i * 6 + j]? = some u) → lyS.At _ (W.heap.size + 1) (0 + i * 6) v := fun i v h j u hu => by
    rw [Nat.zero_add]
    exact hC _ _ (h j u hu)
  have six : ∀ (P : Nat → Prop), P 0 → P 1 → P 2 → P 3 → P 4 → P 5 → ∀ j, j < 6 → P j := fun P h0 h1 h2 h3 h4 h5 j hj => by
    match j, hj with
    | 0, _ => exact h0
    | 1, _ => exact h1
    | 2, _ => exact h2
    | 3, _ => exact h3
    | 4, _ => exact h4
    | 5, _ => exact h5
  have at6 : ∀ (i : Nat) (v : Sv) (cs : Array Value), (∀ j, j < 6 → cs[i * 6 + j]? = (Sv.cells v)[j]?) → ∀ (j : Nat) u, (Sv.cells v)[j]? = some u → cs[i * 6 + j]? = some u := fun i v cs h j u hu => by
    have hj : j < 6 := by
      have := (List.getElem?_eq_some_iff.1 hu).1
      simpa [Sv.cells] using this
    rw [h j hj, hu]
  intro i s hi
  match i, hi with
  | 0, hi => cases hi; exact ⟨_, _, none, 0, rfl, key 0 ⟨1, 3, 5, 0, 0, none, 0, 0⟩ (at6 0 _ _ (six _ rfl rfl rfl rfl rfl rfl)), fun k x hx => by simp at hx⟩
  | 1, hi =>
    cases hi
    refine ⟨_, _, some ⟨W.heap.size, 0, none⟩, 2, rfl, key 1 ⟨2, 1, 0, 0, 0, some ⟨W.heap.size, 0, none⟩, 2, 2⟩ (at6 1 _ _ (six _ rfl rfl rfl rfl rfl rfl)), ?_⟩
    intro k x hx
    match k, hx with
    | 0, hx => cases hx; exact ⟨_, _, rfl, fun j u hu => by
        match j, hu with
        | 0, hu => cases hu; exact hK 0 _ rfl
        | j + 1, hu => simp [lyI] at hu⟩
    | 1, hx => cases hx; exact ⟨_, _, rfl, fun j u hu => by
        match j, hu with
        | 0, hu => cases hu; exact hK 1 _ rfl
        | j + 1, hu => simp [lyI] at hu⟩
    | k + 2, hx => simp at hx
  | 2, hi => cases hi; exact ⟨_, _, none, 0, rfl, key 2 ⟨3, 0, 0, 0, 6, none, 0, 0⟩ (at6 2 _ _ (six _ rfl rfl rfl rfl rfl rfl)), fun k x hx => by simp at hx⟩
  | 3, hi => cases hi; exact ⟨_, _, none, 0, rfl, key 3 ⟨3, 1, 0, 0, 6, none, 0, 0⟩ (at6 3 _ _ (six _ rfl rfl rfl rfl rfl rfl)), fun k x hx => by simp at hx⟩
  | 4, hi => cases hi; exact ⟨_, _, none, 0, rfl, key 4 ⟨3, 3, 0, 4, 5, none, 0, 0⟩ (at6 4 _ _ (six _ rfl rfl rfl rfl rfl rfl)), fun k x hx => by simp at hx⟩
  | i + 5, hi => simp [aSs] at hi

/-! What is called, with lengths as letters -/
def ParC (l : List UInt8) (K : Nat) (w : World) (e : Ending) (w' : World) : Prop := ∃ p cap, e = .returned (.tuple #[.agg #[.int .i64 0, .int .i64 K, .slice p K cap], .int .i64 0]) ∧ NodesR w' p (parN l) ∧ K ≤ cap ∧ Bl w w'
def RenC (s u : List UInt8) (K X : Nat) (w : World) (e : Ending) (w' : World) : Prop := ∃ p cap, e = .returned (.tuple #[.agg #[.int .i64 0, .int .i64 X, .slice p K cap], .int .i64 0]) ∧ NodesR w' p (renN s u) ∧ K ≤ cap ∧ Bl w w'
def StC (ss : List St) (T : Nat) (w : World) (e : Ending) (w' : World) : Prop := ∃ p cap, e = .returned (.tuple #[.slice p T cap, .int .i64 0]) ∧ StepsR w' p ss ∧ Bl w w'
theorem parse_c (s : ByteArray) (hs : s.size ≤ 300) (l : List UInt8) (hl : s.data.toList = l) (K : Nat) (hK : (parN l).length = K) (w : World) : Calls Try.prog 15 #[.string s] w (ParC l K w) := by
  subst hl
  refine (parse_yes s w hs).mono ?_
  rintro e w' ⟨p, cap, vs, rfl, ho, hb⟩
  rw [hK] at ho ⊢
  exact ⟨p, cap, rfl, ho.read, ho.cap, hb⟩
theorem renew_c (s u : ByteArray) (hs : s.size ≤ 300) (hu : u.size ≤ 300) (l m : List UInt8) (hl : s.data.toList = l) (hm : u.data.toList = m) (K N X : Nat) (hK : (parN l).length = K) (hN : (renN l m).length = N) (hX : renX l m = X) (w : World) (p : Option Addr) (cap : Nat) (R : NodesR w p (parN l)) : Calls Try.prog 16 #[.agg #[.int .i64 0, .int .i64 K, .slice p K cap], .string s, .string u] w (RenC l m N X w) := by
  subst hl; subst hm
  refine (renew_yes s u w hs hu p K cap hK R).mono ?_
  rintro e w' ⟨q, c, vs, rfl, ho, hb⟩
  rw [hN, hX] at *
  exact ⟨q, c, rfl, ho.read, ho.cap, hb⟩
theorem bet_c (w : World) (a : List Nd) (ra na : Int) (pa : Option Addr) (A ca : Nat) (b : List Nd) (rb nb : Int) (pb : Option Addr) (B cb T : Nat) (hA : a.length = A) (hB : b.length = B) (ha : NodesR w pa a) (hb : NodesR w pb b) (la : A ≤ 2048) (lb : B ≤ 2048) (ka : ∀ x ∈ a, x.kids.length ≤ 2048) (kb : ∀ x ∈ b, x.kids.length ≤ 2048) (lca : A ≤ ca) (lcb : B ≤ cb)
    (hd : deltaB a ra na b rb nb = true) (hT : (stepsL a b).length = T) : Calls Try.prog 8 #[.agg #[.int .i64 ra, .int .i64 na, .slice pa A ca], .agg #[.int .i64 rb, .int .i64 nb, .slice pb B cb]] w (StC (stepsL a b) T w) := by
  refine (dbetween_any w a ra na pa A ca b rb nb pb B cb hA hB ha hb (by omega) (by omega) (fun x hx => Nat.le_trans (ka x hx) (by omega)) (fun x hx => Nat.le_trans (kb x hx) (by omega)) lca lcb).mono ?_
  rintro e w' (⟨-, p, cap, vs, rfl, ho, -, hbb⟩ | ⟨h, -⟩)
  · rw [hT] at *
    exact ⟨p, cap, rfl, ho.read, hbb⟩
  · rw [hd] at h; cases h
theorem bet_n (w : World) (a : List Nd) (ra na : Int) (pa : Option Addr) (A ca : Nat) (b : List Nd) (rb nb : Int) (pb : Option Addr) (B cb : Nat) (hA : a.length = A) (hB : b.length = B) (ha : NodesR w pa a) (hb : NodesR w pb b) (la : A ≤ 2048) (lb : B ≤ 2048) (ka : ∀ x ∈ a, x.kids.length ≤ 2048) (kb : ∀ x ∈ b, x.kids.length ≤ 2048) (lca : A ≤ ca) (lcb : B ≤ cb)
    (hd : deltaB a ra na b rb nb = false) : Calls Try.prog 8 #[.agg #[.int .i64 ra, .int .i64 na, .slice pa A ca], .agg #[.int .i64 rb, .int .i64 nb, .slice pb B cb]] w (DelNo w) := by
  refine (dbetween_any w a ra na pa A ca b rb nb pb B cb hA hB ha hb (by omega) (by omega) (fun x hx => Nat.le_trans (ka x hx) (by omega)) (fun x hx => Nat.le_trans (kb x hx) (by omega)) lca lcb).mono ?_
  rintro e w' (⟨h, -⟩ | ⟨-, h⟩)
  · rw [hd] at h; cases h
  · exact h

set_option maxRecDepth 100000 in
set_option maxHeartbeats 4000000 in
theorem awake_true (w : World) : Calls Try.prog 14 #[] w (RetBelow (.returned (.bool true)) w) := by
  have PA := Lib.hid (fun W => parse_c ⟨#[91, 49, 93]⟩ (by decide) aA rfl 3 aA_len W)
  have RN := Lib.hid (fun (W : World) (p : Option Addr) (cap : Nat) (R : NodesR W p (parN aA)) => renew_c ⟨#[91, 49, 93]⟩ ⟨#[91, 49, 44, 32, 50, 93]⟩ (by decide) (by decide) aA aU rfl rfl 3 4 4 aA_len aU_len aU_next W p cap R)
  have BT := Lib.hid (fun (W : World) (p q : Option Addr) (ca cb : Nat) (R : NodesR W p (parN aA)) (R2 : NodesR W q (renN aA aU)) (h1 : 3 ≤ ca) (h2 : 4 ≤ cb) => bet_c W (parN aA) 0 3 p 3 ca (renN aA aU) 0 4 q 4 cb 5 aA_len aU_len R R2 (by omega) (by omega) a_kids (r_kids (by decide) (by decide)) h1 h2 a_delta (by rw [a_steps]; rfl))
  have BN := Lib.hid (fun (W : World) (p : Option Addr) (ca : Nat) (R : NodesR W p (parN aA)) (h1 : 3 ≤ ca) => bet_n W (parN aA) 0 3 p 3 ca [] 0 0 none 0 0 aA_len rfl R (nodesR_nil W none) (by omega) (by omega) a_kids (by simp) h1 (by omega) a_none)
  have BS' := Lib.hid (fun (W : World) (p : Option Addr) (ca : Nat) (R : NodesR W p (parN aA)) (h1 : 3 ≤ ca) => bet_c W (parN aA) 0 3 p 3 ca (parN aA) 0 3 p 3 ca 0 aA_len aA_len R R (by omega) (by omega) a_kids a_kids h1 h1 a_self (by rw [a_same]; rfl))
  rw [a_steps] at BT
  have SS' := Lib.hid (fun (W : World) (p : Option Addr) (cap : Nat) (pb : Option Addr) (cb : Nat) (S : StepsR W p aSs) (S2 : StepsR W pb aSs) => sameSteps_true p pb aSs 5 cap cb rfl W S S2 (by omega) (by decide))
  go_enter Try.func14, Try.ntmps14
  go_upto_region 2 with (go_at_call 15; refine (PA.out _).mono ?_; rintro e w1 ⟨p1, c1, rfl, o1, hc1, hb1⟩; have O1 := Lib.hid o1; have B1 := Lib.hid hb1; have C1 := Lib.hid hc1; clear o1 hb1 hc1)
  have b1 : Bl w1 (w1.alloc (.cells #[.int .i64 0, .int .i64 3, .slice p1 3 c1] 24)) := Bl.alloc (Bl.refl _) _
  have T1 : Hid ((w1.alloc (.cells #[.int .i64 0, .int .i64 3, .slice p1 3 c1] 24)).heap[w1.heap.size]? = some (.cells #[.int .i64 0, .int .i64 3, .slice p1 3 c1] 24 (0, 0))) := Lib.hid (heap_new rfl _ _)
  have O2 := Lib.hid (O1.out.below b1); have B2 := Lib.hid (B1.out.call b1)
  obtain ⟨tb, htb⟩ : ∃ g, g = w1.heap.size := ⟨_, rfl⟩
  rw [← htb] at T1 ⊢
  clear O1 B1 b1 htb PA
  generalize (w1.alloc (.cells #[.int .i64 0, .int .i64 3, .slice p1 3 c1] 24)) = w2 at O2 B2 T1 ⊢
  have t0 := (obj_cells T1.out).1 0 _ rfl; have t1 := (obj_cells T1.out).1 1 _ rfl; have t2 := (obj_cells T1.out).1 2 _ rfl
  go_upto_region 3 with (go_at_call 16; refine (RN.out _ _ _ O2.out).mono ?_; rintro e w3 ⟨p3, c3, rfl, o3, hc3, hb3⟩; have R3 := Lib.hid o3; have B3 := Lib.hid (B2.out.call hb3); have C3 := Lib.hid hc3; have T3 := Lib.hid (heap_later T1.out hb3); have O3 := Lib.hid (O2.out.below hb3); clear o3 hb3 hc3)
  clear t0 t1 t2 T1 O2 B2 RN
  have b3 : Bl w3 (w3.alloc (.cells #[.int .i64 0, .int .i64 4, .slice p3 4 c3] 24)) := Bl.alloc (Bl.refl _) _
  have U4 : Hid ((w3.alloc (.cells #[.int .i64 0, .int .i64 4, .slice p3 4 c3] 24)).heap[w3.heap.size]? = some (.cells #[.int .i64 0, .int .i64 4, .slice p3 4 c3] 24 (0, 0))) := Lib.hid (heap_new rfl _ _)
  have O4 := Lib.hid (O3.out.below b3); have B4 := Lib.hid (B3.out.call b3); have R4 := Lib.hid (R3.out.below b3); have T4 := Lib.hid (heap_later T3.out b3)
  obtain ⟨ub, hub⟩ : ∃ g, g = w3.heap.size := ⟨_, rfl⟩
  rw [← hub] at U4 ⊢
  clear O3 B3 R3 T3 b3 hub
  generalize (w3.alloc (.cells #[.int .i64 0, .int .i64 4, .slice p3 4 c3] 24)) = w4 at O4 B4 R4 T4 U4 ⊢
  have t0 := (obj_cells T4.out).1 0 _ rfl; have t1 := (obj_cells T4.out).1 1 _ rfl; have t2 := (obj_cells T4.out).1 2 _ rfl
  have u0 := (obj_cells U4.out).1 0 _ rfl; have u1 := (obj_cells U4.out).1 1 _ rfl; have u2 := (obj_cells U4.out).1 2 _ rfl
  go_upto_region 4 with (go_at_call 8; refine (BT.out _ _ _ _ _ O4.out R4.out C1.out C3.out).mono ?_; rintro e w5 ⟨p5, c5, rfl, s5, hb5⟩; have S5 := Lib.hid s5; have B5 := Lib.hid (B4.out.call hb5); have T5 := Lib.hid (heap_later T4.out hb5); have O5 := Lib.hid (O4.out.below hb5); clear s5 hb5)
  clear t0 t1 t2 u0 u1 u2 BT O4 R4 B4 T4 U4
  have t0 := (obj_cells T5.out).1 0 _ rfl; have t1 := (obj_cells T5.out).1 1 _ rfl; have t2 := (obj_cells T5.out).1 2 _ rfl
  go_upto_region 5 with (go_at_call 8; refine (BN.out _ _ _ O5.out C1.out).mono ?_; rintro e w6 ⟨rfl, hb6⟩; have S6 := Lib.hid (S5.out.below hb6); have B6 := Lib.hid (B5.out.call hb6); have T6 := Lib.hid (heap_later T5.out hb6); have O6 := Lib.hid (O5.out.below hb6); clear hb6)
  clear t0 t1 t2 BN O5 B5 T5 S5
  have t0 := (obj_cells T6.out).1 0 _ rfl; have t1 := (obj_cells T6.out).1 1 _ rfl; have t2 := (obj_cells T6.out).1 2 _ rfl
  go_upto_region 6 with (go_at_call 8; refine (BS'.out _ _ _ O6.out C1.out).mono ?_; rintro e w7 ⟨p7, c7, rfl, -, hb7⟩; have S7 := Lib.hid (S6.out.below hb7); have B7 := Lib.hid (B6.out.call hb7); clear hb7)
  clear t0 t1 t2 BS' O6 B6 T6 S6
  have LIT := Lib.hid (a_lit w7)
  have BL : Hid (Bl w7 _) := Lib.hid (Bl.alloc (Bl.alloc (Bl.refl w7) (.cells #[.int .i64 2, .int .i64 3] 3)) (.cells #[.int .i64 1, .int .i64 3, .int .i64 5, .int .i64 0, .int .i64 0, .slice none 0 0, .int .i64 2, .int .i64 1, .int .i64 0, .int .i64 0, .int .i64 0, .slice (some ⟨w7.heap.size, 0, none⟩) 2 2,
    .int .i64 3, .int .i64 0, .int .i64 0, .int .i64 0, .int .i64 6, .slice none 0 0, .int .i64 3, .int .i64 1, .int .i64 0, .int .i64 0, .int .i64 6, .slice none 0 0, .int .i64 3, .int .i64 3, .int .i64 0, .int .i64 4, .int .i64 5, .slice none 0 0] 43))
  go_wp2_with (first | (go_at_call 10; refine (SS'.out _ _ _ _ _ (S7.out.below BL.out) LIT.out).mono ?_; rintro e w8 ⟨rfl, hb8⟩; have B8 := Lib.hid ((B7.out.call BL.out).call hb8); clear hb8) | (go_at_call 11; refine (num_any _ _).mono ?_; rintro e w9 ⟨rfl, rfl⟩))
  go_ret
  exact ⟨rfl, B8.out⟩

end Go.Proofs.Ytmeigoeknjoodaa
