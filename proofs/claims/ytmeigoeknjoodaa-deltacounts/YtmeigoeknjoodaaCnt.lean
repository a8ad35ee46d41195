/-
  The walk of DeltaCounts: it answers true. No condition but on the texts' lengths.
-/
import Derived.Test.YtmeigoeknjoodaaAw
namespace Go.Proofs.Ytmeigoeknjoodaa
open Go.RowKit

/-- How many steps are of a kind. -/
def cntK (k : Int) (ss : List St) : Nat := (ss.filter (fun s => s.kd == k)).length
theorem cnt_app (k : Int) (a b : List St) : cntK k (a ++ b) = cntK k a + cntK k b := by simp [cntK]
theorem cnt_le (k : Int) (a : List St) : cntK k a ≤ a.length := List.length_filter_le ..
theorem cnt_take {k : Int} {ss : List St} {i : Nat} {s : St} (h : ss[i]? = some s) : cntK k (ss.take (i + 1)) = cntK k (ss.take i) + (if s.kd = k then 1 else 0) := by
  rw [List.take_add_one, h, cnt_app]
  congr 1
  by_cases e : s.kd = k
  · simp [cntK, e]
  · simp [cntK, e]
theorem cnt_take_le (k : Int) (ss : List St) (i : Nat) : cntK k (ss.take i) ≤ i := Nat.le_trans (cnt_le k _) (by rw [List.length_take]; omega)
theorem cnt_map {k : Int} {p : Nd → Bool} {f : Nd → St} {l : List Nd} (h : ∀ x, (f x).kd = k) : cntK k ((l.filter p).map f) = ((l.filter p).map f).length := by
  unfold cntK
  rw [List.filter_eq_self.2]
  intro s hs
  obtain ⟨x, _, rfl⟩ := List.mem_map.1 hs
  simp [h x]
theorem cnt_map0 {k m : Int} {p : Nd → Bool} {f : Nd → St} {l : List Nd} (h : ∀ x, (f x).kd = m) (hm : m ≠ k) : cntK k ((l.filter p).map f) = 0 := by
  unfold cntK
  rw [List.length_eq_zero_iff, List.filter_eq_nil_iff]
  intro s hs
  obtain ⟨x, _, rfl⟩ := List.mem_map.1 hs
  simp [h x, hm]
theorem cnt_steps (a b : List Nd) : cntK 0 (stepsL a b) = (dropsL a b).length ∧ cntK 1 (stepsL a b) = (makesL a b).length := by
  have d0 : cntK 0 (dropsL a b) = (dropsL a b).length := cnt_map (fun _ => rfl)
  have d1 : cntK 1 (dropsL a b) = 0 := cnt_map0 (m := 0) (fun _ => rfl) (by decide)
  have m0 : cntK 0 (makesL a b) = 0 := cnt_map0 (m := 1) (fun _ => rfl) (by decide)
  have m1 : cntK 1 (makesL a b) = (makesL a b).length := cnt_map (fun _ => rfl)
  have k0 : cntK 0 (kidsL a b) = 0 := cnt_map0 (m := 2) (fun _ => rfl) (by decide)
  have k1 : cntK 1 (kidsL a b) = 0 := cnt_map0 (m := 2) (fun _ => rfl) (by decide)
  have s0 : cntK 0 (spansL a b) = 0 := cnt_map0 (m := 3) (fun _ => rfl) (by decide)
  have s1 : cntK 1 (spansL a b) = 0 := cnt_map0 (m := 3) (fun _ => rfl) (by decide)
  unfold stepsL
  rw [cnt_app, cnt_app, cnt_app, cnt_app, cnt_app, cnt_app]
  omega
theorem wr1 (i : Nat) (h : i ≤ 100000) : wrap64 ((i : Int) + 1) = ((i + 1 : Nat) : Int) := by unfold wrap64; omega
theorem back_len (a b : List Nd) : (makesL b a).length = (dropsL a b).length := by simp [makesL, dropsL]

set_option maxRecDepth 100000 in
set_option maxHeartbeats 8000000 in
theorem counts_noU (s u : ByteArray) (hs : s.size ≤ 300) (hu : 300 < u.size) (mu : u.size ≤ maxLen) (w : World) : Calls Try.prog 6 #[.string s, .string u] w (RetBelow (.returned (.bool true)) w) := by
  have AW := Lib.hid (fun W => awake_true W)
  obtain ⟨K, hK⟩ : ∃ K, (parN s.data.toList).length = K := ⟨_, rfl⟩
  have PA : Hid (∀ W, Calls Try.prog 15 #[.string s] W (fun e w' => ∃ p cap, e = .returned (.tuple #[.agg #[.int .i64 0, .int .i64 K, .slice p K cap], .int .i64 0]) ∧ NodesR w' p (parN s.data.toList) ∧ K ≤ cap ∧ Bl W w')) := Lib.hid (fun W => parse_c s hs _ rfl K hK W)
  have RN : Hid (∀ (W : World) (p : Option Addr) (cap : Nat), Calls Try.prog 16 #[.agg #[.int .i64 0, .int .i64 K, .slice p K cap], .string s, .string u] W (RetBelow (.returned (.tuple #[.agg #[.int .i64 0, .int .i64 0, .slice none 0 0], .int .i64 1300])) W)) := Lib.hid (fun W p cap => renew_noU s u 0 K p K cap W hu mu)
  clear hs hu mu hK
  go_enter Try.func6, Try.ntmps6
  go_upto_region 3 with (go_at_call 14; refine (AW.out _).mono ?_; rintro e w0 ⟨rfl, hb0⟩; have B0 := Lib.hid (show Bl w w0 from hb0); clear hb0)
  clear AW
  go_upto_region 4 with (go_at_call 15; refine (PA.out _).mono ?_; rintro e w1 ⟨p1, c1, rfl, -, -, hb1⟩; have B1 := Lib.hid (B0.out.call hb1); clear hb1)
  clear PA B0
  have b1 : Bl w1 (w1.alloc (.cells #[.int .i64 0, .int .i64 K, .slice p1 K c1] 24)) := Bl.alloc (Bl.refl _) _
  have T1 : Hid ((w1.alloc (.cells #[.int .i64 0, .int .i64 K, .slice p1 K c1] 24)).heap[w1.heap.size]? = some (.cells #[.int .i64 0, .int .i64 K, .slice p1 K c1] 24 (0, 0))) := Lib.hid (heap_new rfl _ _)
  have B2 := Lib.hid (B1.out.call b1)
  obtain ⟨tb, htb⟩ : ∃ g, g = w1.heap.size := ⟨_, rfl⟩
  rw [← htb] at T1 ⊢
  clear B1 b1 htb
  generalize (w1.alloc (.cells #[.int .i64 0, .int .i64 K, .slice p1 K c1] 24)) = w2 at B2 T1 ⊢
  have t0 := (obj_cells T1.out).1 0 _ rfl; have t1 := (obj_cells T1.out).1 1 _ rfl; have t2 := (obj_cells T1.out).1 2 _ rfl
  go_wp2_with (go_at_call 16; refine (RN.out _ _ _).mono ?_; rintro e w3 ⟨rfl, hb3⟩; have B3 := Lib.hid (B2.out.call hb3); clear hb3)
  go_ret
  exact ⟨rfl, B3.out.call (Bl.alloc (Bl.refl _) _)⟩

set_option maxRecDepth 100000 in
set_option maxHeartbeats 8000000 in
theorem counts_noS (s u : ByteArray) (hs : 300 < s.size) (ms : s.size ≤ maxLen) (mu : u.size ≤ maxLen) (w : World) : Calls Try.prog 6 #[.string s, .string u] w (RetBelow (.returned (.bool true)) w) := by
  have AW := Lib.hid (fun W => awake_true W)
  have PA : Hid (∀ W, Calls Try.prog 15 #[.string s] W (fun e w' => e = .returned (.tuple #[.agg #[.int .i64 0, .int .i64 0, .slice none 0 0], .int .i64 1100]) ∧ Bl W w')) := Lib.hid (fun W => parse_no s W hs ms)
  have RN : Hid (∀ (W : World), Calls Try.prog 16 #[.agg #[.int .i64 0, .int .i64 0, .slice none 0 0], .string s, .string u] W (RetBelow (.returned (.tuple #[.agg #[.int .i64 0, .int .i64 0, .slice none 0 0], .int .i64 1300])) W)) := Lib.hid (fun W => by
    by_cases hu : u.size ≤ 300
    · exact renew_noS s u 0 0 none 0 0 W hu hs ms
    · exact renew_noU s u 0 0 none 0 0 W (by omega) mu)
  clear hs ms mu
  go_enter Try.func6, Try.ntmps6
  go_upto_region 3 with (go_at_call 14; refine (AW.out _).mono ?_; rintro e w0 ⟨rfl, hb0⟩; have B0 := Lib.hid (show Bl w w0 from hb0); clear hb0)
  clear AW
  go_upto_region 4 with (go_at_call 15; refine (PA.out _).mono ?_; rintro e w1 ⟨rfl, hb1⟩; have B1 := Lib.hid (B0.out.call hb1); clear hb1)
  clear PA B0
  have b1 : Bl w1 (w1.alloc (.cells #[.int .i64 0, .int .i64 0, .slice none 0 0] 24)) := Bl.alloc (Bl.refl _) _
  have T1 : Hid ((w1.alloc (.cells #[.int .i64 0, .int .i64 0, .slice none 0 0] 24)).heap[w1.heap.size]? = some (.cells #[.int .i64 0, .int .i64 0, .slice none 0 0] 24 (0, 0))) := Lib.hid (heap_new rfl _ _)
  have B2 := Lib.hid (B1.out.call b1)
  obtain ⟨tb, htb⟩ : ∃ g, g = w1.heap.size := ⟨_, rfl⟩
  rw [← htb] at T1 ⊢
  clear B1 b1 htb
  generalize (w1.alloc (.cells #[.int .i64 0, .int .i64 0, .slice none 0 0] 24)) = w2 at B2 T1 ⊢
  have t0 := (obj_cells T1.out).1 0 _ rfl; have t1 := (obj_cells T1.out).1 1 _ rfl; have t2 := (obj_cells T1.out).1 2 _ rfl
  go_wp2_with (go_at_call 16; refine (RN.out _).mono ?_; rintro e w3 ⟨rfl, hb3⟩; have B3 := Lib.hid (B2.out.call hb3); clear hb3)
  go_ret
  exact ⟨rfl, B3.out.call (Bl.alloc (Bl.refl _) _)⟩

set_option maxRecDepth 100000 in
set_option maxHeartbeats 8000000 in
theorem counts_true (s u : ByteArray) (ms : s.size ≤ maxLen) (mu : u.size ≤ maxLen) (w : World) : Calls Try.prog 6 #[.string s, .string u] w (RetBelow (.returned (.bool true)) w) := by
  have AW := Lib.hid (fun W => awake_true W)
  by_cases hs : s.size ≤ 300
  · obtain ⟨K, hK⟩ : ∃ K, (parN s.data.toList).length = K := ⟨_, rfl⟩
    have PA : Hid (∀ W, Calls Try.prog 15 #[.string s] W (fun e w' => ∃ p cap, e = .returned (.tuple #[.agg #[.int .i64 0, .int .i64 K, .slice p K cap], .int .i64 0]) ∧ NodesR w' p (parN s.data.toList) ∧ K ≤ cap ∧ Bl W w')) := Lib.hid (fun W => parse_c s hs _ rfl K hK W)
    by_cases hu : u.size ≤ 300
    · obtain ⟨N, hN⟩ : ∃ N, (renN s.data.toList u.data.toList).length = N := ⟨_, rfl⟩
      obtain ⟨X, hX⟩ : ∃ X, renX s.data.toList u.data.toList = X := ⟨_, rfl⟩
      have l1 : s.data.toList.length ≤ 300 := by rw [ba_len]; exact hs
      have l2 : u.data.toList.length ≤ 300 := by rw [ba_len]; exact hu
      have RD := ren_delta l1 l2
      rw [show ((parK s.data.toList).size : Int) + 1 = (K : Int) by rw [← hK, parN_len]; omega, hX] at RD
      have hK2 : K ≤ 2048 := by rw [← hK]; exact Nat.le_trans (par_len_le l1) (by omega)
      have hN2 : N ≤ 2048 := by rw [← hN]; exact may_len (ren_may l1 l2)
      have RN : Hid (∀ (W : World) (p : Option Addr) (cap : Nat), NodesR W p (parN s.data.toList) → Calls Try.prog 16 #[.agg #[.int .i64 0, .int .i64 K, .slice p K cap], .string s, .string u] W (fun e w' => ∃ p cap, e = .returned (.tuple #[.agg #[.int .i64 0, .int .i64 X, .slice p N cap], .int .i64 0]) ∧ NodesR w' p (renN s.data.toList u.data.toList) ∧ N ≤ cap ∧ Bl W w')) := Lib.hid (fun (W : World) (p : Option Addr) (cap : Nat) (R : NodesR W p (parN s.data.toList)) => renew_c s u hs hu _ _ rfl rfl K N X hK hN hX W p cap R)
      obtain ⟨T, hT⟩ : ∃ T, (stepsL (parN s.data.toList) (renN s.data.toList u.data.toList)).length = T := ⟨_, rfl⟩
      obtain ⟨T2, hT2⟩ : ∃ T, (stepsL (renN s.data.toList u.data.toList) (parN s.data.toList)).length = T := ⟨_, rfl⟩
      have BT := Lib.hid (fun (W : World) (p q : Option Addr) (ca cb : Nat) (R : NodesR W p (parN s.data.toList)) (R2 : NodesR W q (renN s.data.toList u.data.toList)) (h1 : K ≤ ca) (h2 : N ≤ cb) => bet_c W (parN s.data.toList) 0 K p K ca (renN s.data.toList u.data.toList) 0 X q N cb T hK hN R R2 hK2 hN2 (par_kids l1) (r_kids l1 l2) h1 h2 RD.1 hT)
      have BT2 := Lib.hid (fun (W : World) (p q : Option Addr) (ca cb : Nat) (R : NodesR W p (parN s.data.toList)) (R2 : NodesR W q (renN s.data.toList u.data.toList)) (h1 : K ≤ ca) (h2 : N ≤ cb) => bet_c W (renN s.data.toList u.data.toList) 0 X q N cb (parN s.data.toList) 0 K p K ca T2 hN hK R2 R hN2 hK2 (r_kids l1 l2) (par_kids l1) h2 h1 RD.2 hT2)
      have BL := both_len (rises_nodup (parN_rises s.data.toList)) (rises_nodup (ren_parts s.data.toList u.data.toList).2)
      have C1 := cnt_steps (parN s.data.toList) (renN s.data.toList u.data.toList)
      have C2 := (cnt_steps (renN s.data.toList u.data.toList) (parN s.data.toList)).2
      rw [back_len] at C2
      have hTl := steps_len (parN s.data.toList) (renN s.data.toList u.data.toList)
      have hTl2 := steps_len (renN s.data.toList u.data.toList) (parN s.data.toList)
      rw [hT, hK, hN] at hTl
      rw [hT2, hK, hN] at hTl2
      rw [hK, hN] at BL
      generalize (dropsL (parN s.data.toList) (renN s.data.toList u.data.toList)).length = D at *
      generalize (makesL (parN s.data.toList) (renN s.data.toList u.data.toList)).length = C at *
      generalize stepsL (parN s.data.toList) (renN s.data.toList u.data.toList) = S1 at *
      generalize stepsL (renN s.data.toList u.data.toList) (parN s.data.toList) = S2 at *
      generalize parN s.data.toList = NS at *
      generalize renN s.data.toList u.data.toList = NU at *
      have HT := Lib.hid hT; have HT2 := Lib.hid hT2; have HC1 := Lib.hid C1; have HC2 := Lib.hid C2; have HBL := Lib.hid BL
      clear hK hN hX RD hT hT2 C1 C2 BL ms mu
      have HKb := Lib.hid hK2; have HNb := Lib.hid hN2
      go_enter Try.func6, Try.ntmps6
      go_upto_region 3 with (go_at_call 14; refine (AW.out _).mono ?_; rintro e w0 ⟨rfl, hb0⟩; have B0 := Lib.hid (show Bl w w0 from hb0); clear hb0)
      clear AW
      go_upto_region 4 with (go_at_call 15; refine (PA.out _).mono ?_; rintro e w1 ⟨p1, c1, rfl, o1, hc1, hb1⟩; have O1 := Lib.hid o1; have B1 := Lib.hid (B0.out.call hb1); have C1 := Lib.hid hc1; clear o1 hb1 hc1)
      clear PA B0
      have b1 : Bl w1 (w1.alloc (.cells #[.int .i64 0, .int .i64 K, .slice p1 K c1] 24)) := Bl.alloc (Bl.refl _) _
      have T1 : Hid ((w1.alloc (.cells #[.int .i64 0, .int .i64 K, .slice p1 K c1] 24)).heap[w1.heap.size]? = some (.cells #[.int .i64 0, .int .i64 K, .slice p1 K c1] 24 (0, 0))) := Lib.hid (heap_new rfl _ _)
      have O2 := Lib.hid (O1.out.below b1); have B2 := Lib.hid (B1.out.call b1)
      obtain ⟨tb, htb⟩ : ∃ g, g = w1.heap.size := ⟨_, rfl⟩
      rw [← htb] at T1 ⊢
      clear O1 B1 b1 htb
      generalize (w1.alloc (.cells #[.int .i64 0, .int .i64 K, .slice p1 K c1] 24)) = w2 at O2 B2 T1 ⊢
      have t0 := (obj_cells T1.out).1 0 _ rfl; have t1 := (obj_cells T1.out).1 1 _ rfl; have t2 := (obj_cells T1.out).1 2 _ rfl
      go_upto_region 5 with (go_at_call 16; refine (RN.out _ _ _ O2.out).mono ?_; rintro e w3 ⟨p3, c3, rfl, o3, hc3, hb3⟩; have R3 := Lib.hid o3; have B3 := Lib.hid (B2.out.call hb3); have C3 := Lib.hid hc3; have T3 := Lib.hid (heap_later T1.out hb3); have O3 := Lib.hid (O2.out.below hb3); clear o3 hb3 hc3)
      clear t0 t1 t2 T1 O2 B2 RN
      have b3 : Bl w3 (w3.alloc (.cells #[.int .i64 0, .int .i64 X, .slice p3 N c3] 24)) := Bl.alloc (Bl.refl _) _
      have U4 : Hid ((w3.alloc (.cells #[.int .i64 0, .int .i64 X, .slice p3 N c3] 24)).heap[w3.heap.size]? = some (.cells #[.int .i64 0, .int .i64 X, .slice p3 N c3] 24 (0, 0))) := Lib.hid (heap_new rfl _ _)
      have O4 := Lib.hid (O3.out.below b3); have B4 := Lib.hid (B3.out.call b3); have R4 := Lib.hid (R3.out.below b3); have T4 := Lib.hid (heap_later T3.out b3)
      obtain ⟨ub, hub⟩ : ∃ g, g = w3.heap.size := ⟨_, rfl⟩
      rw [← hub] at U4 ⊢
      clear O3 B3 R3 T3 b3 hub
      generalize (w3.alloc (.cells #[.int .i64 0, .int .i64 X, .slice p3 N c3] 24)) = w4 at O4 B4 R4 T4 U4 ⊢
      have t0 := (obj_cells T4.out).1 0 _ rfl; have t1 := (obj_cells T4.out).1 1 _ rfl; have t2 := (obj_cells T4.out).1 2 _ rfl
      have u0 := (obj_cells U4.out).1 0 _ rfl; have u1 := (obj_cells U4.out).1 1 _ rfl; have u2 := (obj_cells U4.out).1 2 _ rfl
      go_upto_region 8 with (go_at_call 8; refine (BT.out _ _ _ _ _ O4.out R4.out C1.out C3.out).mono ?_; rintro e w5 ⟨p5, c5, rfl, s5, hb5⟩; have S5 := Lib.hid s5; have B5 := Lib.hid (B4.out.call hb5); have T5 := Lib.hid (heap_later T4.out hb5); have U5 := Lib.hid (heap_later U4.out hb5); have O5 := Lib.hid (O4.out.below hb5); have R5 := Lib.hid (R4.out.below hb5); clear s5 hb5)
      clear t0 t1 t2 u0 u1 u2 BT O4 R4 B4 T4 U4
      have t0 := (obj_cells T5.out).1 0 _ rfl; have t1 := (obj_cells T5.out).1 1 _ rfl; have t2 := (obj_cells T5.out).1 2 _ rfl
      have u0 := (obj_cells U5.out).1 0 _ rfl; have u1 := (obj_cells U5.out).1 1 _ rfl; have u2 := (obj_cells U5.out).1 2 _ rfl
      go_upto_region 9 with (go_at_call 8; refine (BT2.out _ _ _ _ _ O5.out R5.out C1.out C3.out).mono ?_; rintro e w6 ⟨p6, c6, rfl, s6, hb6⟩; have S6 := Lib.hid s6; have S5b := Lib.hid (S5.out.below hb6); have B6 := Lib.hid (B5.out.call hb6); have T6 := Lib.hid (heap_later T5.out hb6); have U6 := Lib.hid (heap_later U5.out hb6); clear s6 hb6)
      clear t0 t1 t2 u0 u1 u2 BT2 O5 R5 B5 T5 U5 S5
      have t0 := (obj_cells T6.out).1 0 _ rfl; have t1 := (obj_cells T6.out).1 1 _ rfl; have t2 := (obj_cells T6.out).1 2 _ rfl
      have u0 := (obj_cells U6.out).1 0 _ rfl; have u1 := (obj_cells U6.out).1 1 _ rfl; have u2 := (obj_cells U6.out).1 2 _ rfl
      go_wp2_with (go_at_call 11; refine (num_any _ _).mono ?_; rintro e w9 ⟨rfl, rfl⟩)
      have HTb := Lib.hid hTl; have HTb2 := Lib.hid hTl2
      clear hTl hTl2 hK2 hN2
      go_loopw [13, 14, 16] (fun v13 v14 v16 wr => ∃ i : Nat, i ≤ T ∧ v16 = .int .i64 i ∧ v13 = .int .i64 (cntK 0 (S1.take i)) ∧ v14 = .int .i64 (cntK 1 (S1.take i)) ∧ wr = w6) (fun _ _ v16 _ => T - (intOf v16).toNat)
      case atStart => exact ⟨0, by omega, rfl, by simp [cntK], by simp [cntK], rfl⟩
      case round =>
        obtain ⟨i, hi, rfl, rfl, rfl, rfl⟩ := hrel
        by_cases hlt : i < T
        · obtain ⟨x, hx⟩ : ∃ x, S1[i]? = some x := ⟨_, List.getElem?_eq_getElem (by rw [HT.out]; exact hlt)⟩
          obtain ⟨sb, so, kp, kc, rfl, hat, -⟩ := S5b.out i x hx
          have k0 : wr.cell? ⟨sb, so + i * 6, none⟩ = some (.int .i64 x.kd) := hat 0 _ rfl
          have t0 := Lib.hid (cnt_take (k := 0) hx); have t1 := Lib.hid (cnt_take (k := 1) hx)
          have q0 := cnt_take_le 0 S1 i; have q1 := cnt_take_le 1 S1 i
          have h0 : (0 : Int) ≤ (i : Int) := by omega
          have h1 : (i : Int) < (T : Int) := by omega
          obtain ⟨n0, hn0⟩ : ∃ n, cntK 0 (S1.take i) = n := ⟨_, rfl⟩
          obtain ⟨n1, hn1⟩ : ∃ n, cntK 1 (S1.take i) = n := ⟨_, rfl⟩
          rw [hn0] at t0 q0 ⊢; rw [hn1] at t1 q1 ⊢
          have d : Hid (∀ k : Int, x.kd = k → cntK 0 (S1.take (i + 1)) = n0 + (if k = 0 then 1 else 0) ∧ cntK 1 (S1.take (i + 1)) = n1 + (if k = 1 then 1 else 0)) := Lib.hid (fun k e => by subst e; exact ⟨t0.out, t1.out⟩)
          clear hat hx t0 t1
          by_cases e0 : x.kd = 0
          · have D := d.out 0 e0
            rw [e0] at k0
            go_wp2_with fail
            have b1 := HTb.out; have b2 := HKb.out; have b3 := HNb.out
            rw [wr1 i (by omega), wr1 n0 (by omega)]
            exact ⟨⟨i + 1, by omega, rfl, by rw [D.1]; rfl, by rw [D.2]; rfl, trivial⟩, by simp [intOf]; omega⟩
          · by_cases e1 : x.kd = 1
            · have D := d.out 1 e1
              rw [e1] at k0
              go_wp2_with fail
              have b1 := HTb.out; have b2 := HKb.out; have b3 := HNb.out
              rw [wr1 i (by omega), wr1 n1 (by omega)]
              exact ⟨⟨i + 1, by omega, rfl, by rw [D.1]; rfl, by rw [D.2]; rfl, trivial⟩, by simp [intOf]; omega⟩
            · have D := d.out x.kd rfl
              rw [if_neg e0, if_neg e1] at D
              have g0 : (x.kd == 0) = false := beq_eq_false_iff_ne.2 e0
              have g1 : (x.kd == 1) = false := beq_eq_false_iff_ne.2 e1
              go_wp2_with fail
              have b1 := HTb.out; have b2 := HKb.out; have b3 := HNb.out
              rw [wr1 i (by omega)]
              exact ⟨⟨i + 1, by omega, rfl, by rw [D.1]; rfl, by rw [D.2]; rfl, trivial⟩, by simp [intOf]; omega⟩
        · have ei : i = T := by omega
          subst ei
          rw [List.take_of_length_le (by rw [HT.out]; exact Nat.le_refl _)]
          rw [HC1.out.1, HC1.out.2]
          generalize hTT : i = TT at *
          obtain ⟨wv, hwv⟩ : ∃ W, W = wr := ⟨_, rfl⟩
          subst hwv
          go_wp2_with fail
          go_loopw [15, 17] (fun v15 v17 wr => ∃ j : Nat, j ≤ T2 ∧ v17 = .int .i64 j ∧ v15 = .int .i64 (cntK 1 (S2.take j)) ∧ wr = wv) (fun _ v17 _ => T2 - (intOf v17).toNat)
          case atStart => exact ⟨0, by omega, rfl, by simp [cntK], rfl⟩
          case round =>
            obtain ⟨j, hj, rfl, rfl, rfl⟩ := hrel
            by_cases hlt2 : j < T2
            · obtain ⟨x, hx⟩ : ∃ x, S2[j]? = some x := ⟨_, List.getElem?_eq_getElem (by rw [HT2.out]; exact hlt2)⟩
              obtain ⟨sb, so, kp, kc, rfl, hat, -⟩ := S6.out j x hx
              have k0 : wr.cell? ⟨sb, so + j * 6, none⟩ = some (.int .i64 x.kd) := hat 0 _ rfl
              have t1 := Lib.hid (cnt_take (k := 1) hx)
              have q1 := cnt_take_le 1 S2 j
              have h0 : (0 : Int) ≤ (j : Int) := by omega
              have h1 : (j : Int) < (T2 : Int) := by omega
              obtain ⟨n1, hn1⟩ : ∃ n, cntK 1 (S2.take j) = n := ⟨_, rfl⟩
              rw [hn1] at t1 q1 ⊢
              have d : Hid (∀ k : Int, x.kd = k → cntK 1 (S2.take (j + 1)) = n1 + (if k = 1 then 1 else 0)) := Lib.hid (fun k e => by subst e; exact t1.out)
              clear hat hx t1
              by_cases e1 : x.kd = 1
              · have D := d.out 1 e1
                rw [e1] at k0
                go_wp2_with fail
                have b1 := HTb2.out; have b2 := HKb.out; have b3 := HNb.out
                rw [wr1 j (by omega), wr1 n1 (by omega)]
                exact ⟨⟨j + 1, by omega, rfl, by rw [D]; rfl, trivial⟩, by simp [intOf]; omega⟩
              · have D := d.out x.kd rfl
                rw [if_neg e1] at D
                have g1 : (x.kd == 1) = false := beq_eq_false_iff_ne.2 e1
                go_wp2_with fail
                have b1 := HTb2.out; have b2 := HKb.out; have b3 := HNb.out
                rw [wr1 j (by omega)]
                exact ⟨⟨j + 1, by omega, rfl, by rw [D]; rfl, trivial⟩, by simp [intOf]; omega⟩
            · have ej : j = T2 := by omega
              subst ej
              rw [List.take_of_length_le (by rw [HT2.out]; exact Nat.le_refl _), HC2.out]
              have b1 := cnt_le 0 S1; have b2 := cnt_le 1 S1
              rw [HC1.out.1, HT.out] at b1; rw [HC1.out.2, HT.out] at b2
              have bt := HTb.out; have bk := HKb.out; have bn := HNb.out
              have eq : decide ((N : Int) = (K : Int) - (D : Int) + (C : Int)) = true := decide_eq_true (by have := HBL.out; omega)
              have hD : (D : Int) ≤ 20000 := by omega
              have hC : (C : Int) ≤ 20000 := by omega
              have hKi : (K : Int) ≤ 2048 := by omega
              have hNi : (N : Int) ≤ 2048 := by omega
              clear b1 b2 bt bk bn
              go_wp2_with fail
              · go_ret
                exact ⟨rfl, B6.out⟩
              · exact absurd (of_decide_eq_true eq) (by assumption)
    · exact counts_noU s u hs (by omega) mu w
  · exact counts_noS s u (by omega) ms mu w

end Go.Proofs.Ytmeigoeknjoodaa
