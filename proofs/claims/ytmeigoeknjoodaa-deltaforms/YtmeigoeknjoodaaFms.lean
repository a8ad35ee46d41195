/-
  The walk of DeltaForms: it answers true. No condition but on the text's length.
-/
import Derived.Test.YtmeigoeknjoodaaFoW
import Derived.Test.YtmeigoeknjoodaaAw
namespace Go.Proofs.Ytmeigoeknjoodaa
open Go.RowKit

theorem empty_lists : (parN [91, 93]).length = 2 ∧ (parN [123, 125]).length = 2 ∧ (∀ x ∈ parN [91, 93], x.kids.length ≤ 2048) ∧ (∀ x ∈ parN [123, 125], x.kids.length ≤ 2048) := by decide
/-- Where one of two trees may not be, there is no telling. -/
theorem delta_no1 {a b : List Nd} {ra na rb nb : Int} (h : ∀ z, mayB b rb nb z = false) : deltaB a ra na b rb nb = false ∧ deltaB b rb nb a ra na = false := by
  unfold deltaB
  rw [h]
  refine ⟨?_, rfl⟩
  cases mayB a ra na (endN a ra) <;> rfl

/-- The trees of DeltaForms, in memory: the one, and another to which there is no telling. -/
def FQ (w : World) (tb ub K : Nat) (p1 : Option Addr) (c1 : Nat) (NS : List Nd) (wx : World) : Prop := ∃ (rb nb : Int) (q : Option Addr) (cb : Nat) (NB : List Nd), Bl w wx ∧ wx.heap[tb]? = some (.cells #[.int .i64 0, .int .i64 K, .slice p1 K c1] 24 (0, 0)) ∧ NodesR wx p1 NS ∧
  wx.heap[ub]? = some (.cells #[.int .i64 rb, .int .i64 nb, .slice q K cb] 24 (0, 0)) ∧ NodesR wx q NB ∧ NB.length = K ∧ (∀ x ∈ NB, x.kids.length ≤ 2048) ∧ K ≤ cb ∧ deltaB NS 0 K NB rb nb = false ∧ deltaB NB rb nb NS 0 K = false

set_option maxRecDepth 100000 in
set_option maxHeartbeats 8000000 in
theorem forms_true (which : Int) (s : ByteArray) (ms : s.size ≤ maxLen) (w : World) : Calls Try.prog 5 #[.int .i64 which, .string s] w (RetBelow (.returned (.bool true)) w) := by
  have AW := Lib.hid (fun W => awake_true W)
  by_cases hs : s.size ≤ 300
  · obtain ⟨K, hK⟩ : ∃ K, (parN s.data.toList).length = K := ⟨_, rfl⟩
    have l1 : s.data.toList.length ≤ 300 := by rw [ba_len]; exact hs
    have K2 : 2 ≤ K := by rw [← hK]; exact par_two _
    have hK2 : K ≤ 2048 := by rw [← hK]; exact Nat.le_trans (par_len_le l1) (by omega)
    have hk := par_kids l1
    have PA : Hid (∀ W, Calls Try.prog 15 #[.string s] W (fun e w' => ∃ p cap, e = .returned (.tuple #[.agg #[.int .i64 0, .int .i64 K, .slice p K cap], .int .i64 0]) ∧ NodesR w' p (parN s.data.toList) ∧ K ≤ cap ∧ Bl W w')) := Lib.hid (fun W => parse_c s hs _ rfl K hK W)
    have CP : Hid (∀ (W : World) (p : Option Addr) (cap : Nat), NodesR W p (parN s.data.toList) → Calls Try.prog 7 #[.agg #[.int .i64 0, .int .i64 K, .slice p K cap]] W (fun e w' => ∃ q c vs, e = .returned (.agg #[.int .i64 0, .int .i64 K, .slice q K c]) ∧ OwnT w' W.heap.size (.slice q K c) vs (parN s.data.toList) ∧ Bl W w')) := Lib.hid (fun W p cap R => by
      have h := copyTree_any 0 (K : Int) p (parN s.data.toList) K cap hK W R (by omega) (fun x hx => by have := hk x hx; omega)
      refine h.mono ?_
      rintro e w' ⟨q, c, vs, rfl, ho, hb⟩
      rw [hK] at ho ⊢
      exact ⟨q, c, vs, rfl, ho, hb⟩)
    have BA : Hid (∀ (W : World) (p q : Option Addr) (ca cb : Nat) (NB : List Nd) (rb nb : Int), NodesR W p (parN s.data.toList) → NodesR W q NB → NB.length = K → (∀ x ∈ NB, x.kids.length ≤ 2048) → K ≤ ca → K ≤ cb → deltaB (parN s.data.toList) 0 K NB rb nb = false →
        Calls Try.prog 8 #[.agg #[.int .i64 0, .int .i64 K, .slice p K ca], .agg #[.int .i64 rb, .int .i64 nb, .slice q K cb]] W (DelNo W)) := Lib.hid (fun W p q ca cb NB rb nb R R2 hB kb h1 h2 hd => bet_n W _ 0 K p K ca NB rb nb q K cb hK hB R R2 hK2 hK2 hk kb h1 h2 hd)
    have BB : Hid (∀ (W : World) (p q : Option Addr) (ca cb : Nat) (NB : List Nd) (rb nb : Int), NodesR W p (parN s.data.toList) → NodesR W q NB → NB.length = K → (∀ x ∈ NB, x.kids.length ≤ 2048) → K ≤ ca → K ≤ cb → deltaB NB rb nb (parN s.data.toList) 0 K = false →
        Calls Try.prog 8 #[.agg #[.int .i64 rb, .int .i64 nb, .slice q K cb], .agg #[.int .i64 0, .int .i64 K, .slice p K ca]] W (DelNo W)) := Lib.hid (fun W p q ca cb NB rb nb R R2 hB kb h1 h2 hd => bet_n W NB rb nb q K cb _ 0 K p K ca hB hK R2 R hK2 hK2 kb hk h2 h1 hd)
    have PL : Hid (∀ W, Calls Try.prog 15 #[.string ⟨#[91, 93]⟩] W (fun e w' => ∃ p cap, e = .returned (.tuple #[.agg #[.int .i64 0, .int .i64 2, .slice p 2 cap], .int .i64 0]) ∧ NodesR w' p (parN [91, 93]) ∧ 2 ≤ cap ∧ Bl W w')) := Lib.hid (fun W => parse_c ⟨#[91, 93]⟩ (by decide) _ rfl 2 empty_lists.1 W)
    have PO : Hid (∀ W, Calls Try.prog 15 #[.string ⟨#[123, 125]⟩] W (fun e w' => ∃ p cap, e = .returned (.tuple #[.agg #[.int .i64 0, .int .i64 2, .slice p 2 cap], .int .i64 0]) ∧ NodesR w' p (parN [123, 125]) ∧ 2 ≤ cap ∧ Bl W w')) := Lib.hid (fun W => parse_c ⟨#[123, 125]⟩ (by decide) _ rfl 2 empty_lists.2.1 W)
    have BU : Hid (∀ (W : World) (p q : Option Addr) (ca cb : Nat), NodesR W p (parN [91, 93]) → NodesR W q (parN [123, 125]) → 2 ≤ ca → 2 ≤ cb → Calls Try.prog 8 #[.agg #[.int .i64 0, .int .i64 2, .slice p 2 ca], .agg #[.int .i64 0, .int .i64 2, .slice q 2 cb]] W (DelNo W)) :=
      Lib.hid (fun W p q ca cb R R2 h1 h2 => bet_n W _ 0 2 p 2 ca _ 0 2 q 2 cb empty_lists.1 empty_lists.2.1 R R2 (by omega) (by omega) empty_lists.2.2.1 empty_lists.2.2.2 h1 h2 par_unlike)
    have BS' : Hid (∀ (W : World) (p : Option Addr) (ca : Nat), NodesR W p (parN s.data.toList) → K ≤ ca → Calls Try.prog 8 #[.agg #[.int .i64 0, .int .i64 K, .slice p K ca], .agg #[.int .i64 0, .int .i64 K, .slice p K ca]] W (StC [] 0 W)) := Lib.hid (fun W p ca R h1 => by
      have h := par_self l1
      rw [show ((parK s.data.toList).size : Int) + 1 = (K : Int) by rw [← hK, parN_len]; omega] at h
      have h2 := bet_c W (parN s.data.toList) 0 K p K ca (parN s.data.toList) 0 K p K ca 0 hK hK R R hK2 hK2 hk hk h1 h1 h (by rw [(steps_self (parN_rises _)).1]; rfl)
      rw [(steps_self (parN_rises _)).1] at h2
      exact h2)
    have T0 : Hid (deltaB (parN s.data.toList) 0 K (parN s.data.toList) 1 K = false ∧ deltaB (parN s.data.toList) 1 K (parN s.data.toList) 0 K = false) := Lib.hid (delta_no1 (fun z => turned_root _ _ _))
    have T1 : Hid (deltaB (parN s.data.toList) 0 K (parN s.data.toList) 0 0 = false ∧ deltaB (parN s.data.toList) 0 0 (parN s.data.toList) 0 K = false) := Lib.hid (delta_no1 (fun z => turned_next _ _ _))
    obtain ⟨m, hm⟩ : ∃ m, (parN s.data.toList)[1]? = some m := ⟨_, List.getElem?_eq_getElem (by rw [hK]; omega)⟩
    have T2 : Hid (deltaB (parN s.data.toList) 0 K ((parN s.data.toList).set 1 (frN m (-1))) 0 K = false ∧ deltaB ((parN s.data.toList).set 1 (frN m (-1))) 0 K (parN s.data.toList) 0 K = false) :=
      Lib.hid (delta_no1 (fun z => turned_from (List.mem_of_getElem? (List.getElem?_set_self (by rw [hK]; omega))) (by show (-1 : Int) < 0; decide)))
    have L2 : Hid (((parN s.data.toList).set 1 (frN m (-1))).length = K) := Lib.hid (by rw [List.length_set]; exact hK)
    have M2 : Hid (∀ x ∈ (parN s.data.toList).set 1 (frN m (-1)), x.kids.length ≤ 2048) := Lib.hid (fun x hx => by
      rcases List.mem_or_eq_of_mem_set hx with h | h
      · exact hk x h
      · rw [h]; exact hk m (List.mem_of_getElem? hm))
    have HKK := Lib.hid hK; have HKS := Lib.hid hk; have HM := Lib.hid hm
    generalize parN s.data.toList = NS at *
    clear hK hk hm ms l1
    go_enter Try.func5, Try.ntmps5
    go_upto_region 3 with (go_at_call 14; refine (AW.out _).mono ?_; rintro e w0 ⟨rfl, hb0⟩; have B0 := Lib.hid (show Bl w w0 from hb0); clear hb0)
    clear AW
    go_upto_region 4 with (go_at_call 15; refine (PA.out _).mono ?_; rintro e w1 ⟨p1, c1, rfl, o1, hc1, hb1⟩; have O1 := Lib.hid o1; have B1 := Lib.hid (B0.out.call hb1); have C1 := Lib.hid hc1; clear o1 hb1 hc1)
    clear PA B0
    have b1 : Bl w1 (w1.alloc (.cells #[.int .i64 0, .int .i64 K, .slice p1 K c1] 24)) := Bl.alloc (Bl.refl _) _
    have X1 : Hid ((w1.alloc (.cells #[.int .i64 0, .int .i64 K, .slice p1 K c1] 24)).heap[w1.heap.size]? = some (.cells #[.int .i64 0, .int .i64 K, .slice p1 K c1] 24 (0, 0))) := Lib.hid (heap_new rfl _ _)
    have O2 := Lib.hid (O1.out.below b1); have B2 := Lib.hid (B1.out.call b1)
    obtain ⟨tb, htb⟩ : ∃ g, g = w1.heap.size := ⟨_, rfl⟩
    rw [← htb] at X1 ⊢
    clear O1 B1 b1 htb
    generalize (w1.alloc (.cells #[.int .i64 0, .int .i64 K, .slice p1 K c1] 24)) = w2 at O2 B2 X1 ⊢
    have t0 := (obj_cells X1.out).1 0 _ rfl; have t1 := (obj_cells X1.out).1 1 _ rfl; have t2 := (obj_cells X1.out).1 2 _ rfl
    go_upto_region 7 with (go_at_call 7; refine (CP.out _ _ _ O2.out).mono ?_; rintro e w3 ⟨q, c3, vs, rfl, o3, hb3⟩; have R3 := Lib.hid o3; have H3 := Lib.hid hb3; have X3 := Lib.hid (heap_later X1.out hb3); have LT := Lib.hid ((Array.getElem?_eq_some_iff.1 X1.out).1); clear o3 hb3)
    have b3 : Bl w3 (w3.alloc (.cells #[.int .i64 0, .int .i64 K, .slice q K c3] 24)) := Bl.alloc (Bl.refl _) _
    have U4 : Hid ((w3.alloc (.cells #[.int .i64 0, .int .i64 K, .slice q K c3] 24)).heap[w3.heap.size]? = some (.cells #[.int .i64 0, .int .i64 K, .slice q K c3] 24 (0, 0))) := Lib.hid (heap_new rfl _ _)
    have H4 : Hid (Bl w3 (w3.alloc (.cells #[.int .i64 0, .int .i64 K, .slice q K c3] 24))) := Lib.hid b3
    have R4 := Lib.hid (R3.out.below b3)
    have CC := Lib.hid R3.out.cap
    clear t0 t1 t2 CP b3
    obtain ⟨ub, hub⟩ : ∃ g, w3.heap.size = g := ⟨_, rfl⟩
    have HUB := Lib.hid hub
    rw [hub] at U4 ⊢
    clear hub
    generalize (w3.alloc (.cells #[.int .i64 0, .int .i64 K, .slice q K c3] 24)) = w4 at H4 R4 U4 ⊢
    have hvl : 1 < vs.length := by rw [R4.out.len, HKK.out]; omega
    obtain ⟨v, hv⟩ : ∃ v, vs[1]? = some v := ⟨_, List.getElem?_eq_getElem hvl⟩
    obtain ⟨g, cap, hgs, hg0, hg1, hcap⟩ := R4.out.row.formS (by intro e; rw [e] at hvl; simp at hvl)
    obtain ⟨rfl, -, -⟩ : q = some ⟨g, 0, none⟩ ∧ K = vs.length ∧ c3 = cap := by cases hgs; exact ⟨rfl, rfl, rfl⟩
    have u0 := (obj_cells U4.out).1 0 _ rfl; have u1 := (obj_cells U4.out).1 1 _ rfl; have u2 := (obj_cells U4.out).1 2 _ rfl
    have uf := (obj_cells U4.out).2.1
    have n2 : w4.cell? ⟨g, 7, none⟩ = some (.int .i64 v.fr) := R4.out.row.at hv 2 _ rfl
    have nf : w4.frozen? ⟨g, 7, none⟩ = false := by
      obtain ⟨cur, hcur⟩ := R4.out.row.obj (g := g) rfl
      exact (obj_cells hcur).2.1 7
    have F0 : Hid (FQ w tb ub K p1 c1 NS (w4.setCell ⟨ub, 0, none⟩ (.int .i64 1))) := Lib.hid (by
      have b := Bl.set H4.out (by rw [HUB.out]; exact Nat.le_refl _) (.int .i64 1) (g := ub) (j := 0)
      exact ⟨1, K, _, c3, NS, (B2.out.call H3.out).call b, heap_later X3.out b, (O2.out.below H3.out).below b, heap_setCell_at U4.out _, R3.out.read.below b, HKK.out, HKS.out, CC.out, T0.out.1, T0.out.2⟩)
    have F1 : Hid (FQ w tb ub K p1 c1 NS (w4.setCell ⟨ub, 1, none⟩ (.int .i64 0))) := Lib.hid (by
      have b := Bl.set H4.out (by rw [HUB.out]; exact Nat.le_refl _) (.int .i64 0) (g := ub) (j := 1)
      exact ⟨0, 0, _, c3, NS, (B2.out.call H3.out).call b, heap_later X3.out b, (O2.out.below H3.out).below b, heap_setCell_at U4.out _, R3.out.read.below b, HKK.out, HKS.out, CC.out, T1.out.1, T1.out.2⟩)
    have F2 : Hid (FQ w tb ub K p1 c1 NS (w4.setCell ⟨g, 7, none⟩ (.int .i64 (-1)))) := Lib.hid (by
      have b := Bl.set (H3.out.call H4.out) hg0 (.int .i64 (-1)) (g := g) (j := 7)
      have hlt : g < ub := by rw [← HUB.out]; exact (R3.out.row.lt (g := g) rfl).2
      have n := nodes_from R4.out HM.out (-1)
      exact ⟨0, K, _, c3, _, B2.out.call b, heap_later X1.out b, O2.out.below b, ((setAll_one w4 g 7 [.int .i64 (-1)]).block _ (Array.getElem?_eq_some_iff.1 U4.out).1 (fun e => by cases e; omega)).trans U4.out, n, L2.out, M2.out, CC.out, T2.out.1, T2.out.2⟩)
    clear R4 H4 H3 R3 X3 LT HKK HKS HM hg0 hg1 hgs hcap hv HUB T0 T1 T2 L2 M2 CC X1 O2 B2
    go_upto_block 0 with fail
    go_cut [4] from 43 (fun v4 wx => v4 = .bool false ∧ Hid (FQ w tb ub K p1 c1 NS wx))
    case first =>
      clear PL PO BA BB BU BS' hvl
      go_wp2_with fail
      · go_meet
        exact ⟨rfl, F0⟩
      · go_meet
        exact ⟨rfl, F1⟩
      · go_meet
        exact ⟨rfl, F2⟩
    case rest =>
      clear u0 u1 u2 uf n2 nf U4 F0 F1 F2 hvl
      obtain ⟨rfl, FQ1⟩ := hcut
      obtain ⟨rb, nb, q, cb, NB, hB, hX, hO, hU, hN, hL, hM, hC, hd1, hd2⟩ := FQ1.out
      have B5 := Lib.hid hB; have X5 := Lib.hid hX; have O5 := Lib.hid hO; have U5 := Lib.hid hU; have N5 := Lib.hid hN; have L5 := Lib.hid hL; have M5 := Lib.hid hM; have C5 := Lib.hid hC; have D1 := Lib.hid hd1; have D2 := Lib.hid hd2
      clear FQ1 hB hX hO hU hN hL hM hC hd1 hd2
      generalize wc = w5 at *
      have t0 := (obj_cells X5.out).1 0 _ rfl; have t1 := (obj_cells X5.out).1 1 _ rfl; have t2 := (obj_cells X5.out).1 2 _ rfl
      have u0 := (obj_cells U5.out).1 0 _ rfl; have u1 := (obj_cells U5.out).1 1 _ rfl; have u2 := (obj_cells U5.out).1 2 _ rfl
      go_upto_region 14 with (go_at_call 8; refine (BA.out _ _ _ _ _ _ _ _ O5.out N5.out L5.out M5.out C1.out C5.out D1.out).mono ?_; rintro e w6 ⟨rfl, hb6⟩; have B6 := Lib.hid (B5.out.call hb6); have X6 := Lib.hid (heap_later X5.out hb6); have U6 := Lib.hid (heap_later U5.out hb6); have O6 := Lib.hid (O5.out.below hb6); have N6 := Lib.hid (N5.out.below hb6); clear hb6)
      clear t0 t1 t2 u0 u1 u2 B5 X5 O5 U5 N5 BA
      have t0 := (obj_cells X6.out).1 0 _ rfl; have t1 := (obj_cells X6.out).1 1 _ rfl; have t2 := (obj_cells X6.out).1 2 _ rfl
      have u0 := (obj_cells U6.out).1 0 _ rfl; have u1 := (obj_cells U6.out).1 1 _ rfl; have u2 := (obj_cells U6.out).1 2 _ rfl
      go_upto_region 15 with (go_at_call 8; refine (BB.out _ _ _ _ _ _ _ _ O6.out N6.out L5.out M5.out C1.out C5.out D2.out).mono ?_; rintro e w7 ⟨rfl, hb7⟩; have B7 := Lib.hid (B6.out.call hb7); have X7 := Lib.hid (heap_later X6.out hb7); have O7 := Lib.hid (O6.out.below hb7); clear hb7)
      clear t0 t1 t2 u0 u1 u2 B6 X6 O6 U6 N6 BB L5 M5 C5 D1 D2
      go_upto_region 16 with (go_at_call 15; refine (PL.out _).mono ?_; rintro e w8 ⟨p8, c8, rfl, o8, hc8, hb8⟩; have O8 := Lib.hid (O7.out.below hb8); have L8 := Lib.hid o8; have B8 := Lib.hid (B7.out.call hb8); have K8 := Lib.hid hc8; have X8 := Lib.hid (heap_later X7.out hb8); clear o8 hb8 hc8)
      clear PL O7 B7 X7
      have b8 : Bl w8 (w8.alloc (.cells #[.int .i64 0, .int .i64 2, .slice p8 2 c8] 24)) := Bl.alloc (Bl.refl _) _
      have Y9 : Hid ((w8.alloc (.cells #[.int .i64 0, .int .i64 2, .slice p8 2 c8] 24)).heap[w8.heap.size]? = some (.cells #[.int .i64 0, .int .i64 2, .slice p8 2 c8] 24 (0, 0))) := Lib.hid (heap_new rfl _ _)
      have O9 := Lib.hid (O8.out.below b8); have L9 := Lib.hid (L8.out.below b8); have B9 := Lib.hid (B8.out.call b8); have X9 := Lib.hid (heap_later X8.out b8)
      obtain ⟨yb, hyb⟩ : ∃ g, g = w8.heap.size := ⟨_, rfl⟩
      rw [← hyb] at Y9 ⊢
      clear hyb b8 O8 L8 B8 X8
      generalize (w8.alloc (.cells #[.int .i64 0, .int .i64 2, .slice p8 2 c8] 24)) = w9 at O9 L9 B9 X9 Y9 ⊢
      go_upto_region 17 with (go_at_call 15; refine (PO.out _).mono ?_; rintro e w10 ⟨p10, c10, rfl, o10, hc10, hb10⟩; have O10 := Lib.hid (O9.out.below hb10); have L10 := Lib.hid (L9.out.below hb10); have M10 := Lib.hid o10; have B10 := Lib.hid (B9.out.call hb10); have K10 := Lib.hid hc10; have X10 := Lib.hid (heap_later X9.out hb10); have Y10 := Lib.hid (heap_later Y9.out hb10); clear o10 hb10 hc10)
      clear PO O9 L9 B9 X9 Y9
      have b10 : Bl w10 (w10.alloc (.cells #[.int .i64 0, .int .i64 2, .slice p10 2 c10] 24)) := Bl.alloc (Bl.refl _) _
      have Z11 : Hid ((w10.alloc (.cells #[.int .i64 0, .int .i64 2, .slice p10 2 c10] 24)).heap[w10.heap.size]? = some (.cells #[.int .i64 0, .int .i64 2, .slice p10 2 c10] 24 (0, 0))) := Lib.hid (heap_new rfl _ _)
      have O11 := Lib.hid (O10.out.below b10); have L11 := Lib.hid (L10.out.below b10); have M11 := Lib.hid (M10.out.below b10); have B11 := Lib.hid (B10.out.call b10); have X11 := Lib.hid (heap_later X10.out b10); have Y11 := Lib.hid (heap_later Y10.out b10)
      obtain ⟨zb, hzb⟩ : ∃ g, g = w10.heap.size := ⟨_, rfl⟩
      rw [← hzb] at Z11 ⊢
      clear hzb b10 O10 L10 M10 B10 X10 Y10
      generalize (w10.alloc (.cells #[.int .i64 0, .int .i64 2, .slice p10 2 c10] 24)) = w11 at O11 L11 M11 B11 X11 Y11 Z11 ⊢
      have y0 := (obj_cells Y11.out).1 0 _ rfl; have y1 := (obj_cells Y11.out).1 1 _ rfl; have y2 := (obj_cells Y11.out).1 2 _ rfl
      have z0 := (obj_cells Z11.out).1 0 _ rfl; have z1 := (obj_cells Z11.out).1 1 _ rfl; have z2 := (obj_cells Z11.out).1 2 _ rfl
      go_upto_region 18 with (go_at_call 8; refine (BU.out _ _ _ _ _ L11.out M11.out K8.out K10.out).mono ?_; rintro e w12 ⟨rfl, hb12⟩; have O12 := Lib.hid (O11.out.below hb12); have B12 := Lib.hid (B11.out.call hb12); have X12 := Lib.hid (heap_later X11.out hb12); clear hb12)
      clear BU O11 L11 M11 B11 X11 Y11 Z11 y0 y1 y2 z0 z1 z2 K8 K10
      have t0 := (obj_cells X12.out).1 0 _ rfl; have t1 := (obj_cells X12.out).1 1 _ rfl; have t2 := (obj_cells X12.out).1 2 _ rfl
      go_upto_region 19 with (go_at_call 8; refine (BS'.out _ _ _ O12.out C1.out).mono ?_; rintro e w13 ⟨p13, c13, rfl, -, hb13⟩; have B13 := Lib.hid (B12.out.call hb13); clear hb13)
      clear BS' O12 B12 X12 t0 t1 t2
      go_wp2_with (go_at_call 11; refine (num_any _ _).mono ?_; rintro e w14 ⟨rfl, rfl⟩)
      go_ret
      exact ⟨rfl, B13.out⟩
  · have PA : Hid (∀ W, Calls Try.prog 15 #[.string s] W (fun e w' => e = .returned (.tuple #[.agg #[.int .i64 0, .int .i64 0, .slice none 0 0], .int .i64 1100]) ∧ Bl W w')) := Lib.hid (fun W => parse_no s W (by omega) ms)
    have hgt : (300 : Int) < (s.size : Int) := by omega
    clear ms hs
    go_enter Try.func5, Try.ntmps5
    go_upto_region 3 with (go_at_call 14; refine (AW.out _).mono ?_; rintro e w0 ⟨rfl, hb0⟩; have B0 := Lib.hid (show Bl w w0 from hb0); clear hb0)
    clear AW
    go_upto_region 4 with (go_at_call 15; refine (PA.out _).mono ?_; rintro e w1 ⟨rfl, hb1⟩; have B1 := Lib.hid (B0.out.call hb1); clear hb1)
    clear PA B0
    go_wp2_with fail
    go_ret
    exact ⟨rfl, B1.out.call (Bl.alloc (Bl.refl _) _)⟩

end Go.Proofs.Ytmeigoeknjoodaa
