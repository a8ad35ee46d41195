/-
  The walk of PatchTwice, under what Apply answers: it answers true. Conditions: on the texts' lengths alone, and what Apply answers.
-/
import Derived.Test.YtdhkjhdbaofdcaaPts
namespace Go.Proofs.Ytdhkjhdbaofdcaa
open Go.RowKit

/-- How many steps are of a kind. -/
def cntK (k : Int) (ss : List St) : Nat := (ss.filter (fun s => s.kd == k)).length
theorem cnt_app (k : Int) (a b : List St) : cntK k (a ++ b) = cntK k a + cntK k b := by simp [cntK]
theorem cnt_le (k : Int) (a : List St) : cntK k a ≤ a.length := List.length_filter_le ..
theorem cnt_take {k : Int} {ss : List St} {i : Nat} {s : St} (h : ss[i]? = some s) : cntK k (ss.take (i + 1)) = cntK k (ss.take i) + (if s.kd = k then 1 else 0) := by
  rw [List.take_add_one, h, cnt_app]
  congr 1
  by_cases e : s.kd = k
  · simp [cntK, e]
  · simp [cntK, e]
theorem cnt_take_le (k : Int) (ss : List St) (i : Nat) : cntK k (ss.take i) ≤ i := Nat.le_trans (cnt_le k _) (by rw [List.length_take]; omega)
theorem cnt_map {k : Int} {p : Nd → Bool} {f : Nd → St} {l : List Nd} (h : ∀ x, (f x).kd = k) : cntK k ((l.filter p).map f) = ((l.filter p).map f).length := by
  unfold cntK
  rw [List.filter_eq_self.2]
  intro s hs
  obtain ⟨x, _, rfl⟩ := List.mem_map.1 hs
  simp [h x]
theorem cnt_map0 {k m : Int} {p : Nd → Bool} {f : Nd → St} {l : List Nd} (h : ∀ x, (f x).kd = m) (hm : m ≠ k) : cntK k ((l.filter p).map f) = 0 := by
  unfold cntK
  rw [List.length_eq_zero_iff, List.filter_eq_nil_iff]
  intro s hs
  obtain ⟨x, _, rfl⟩ := List.mem_map.1 hs
  simp [h x, hm]
theorem cnt_steps (a b : List Nd) : cntK 0 (stepsL a b) = (dropsL a b).length ∧ cntK 1 (stepsL a b) = (makesL a b).length := by
  have d0 : cntK 0 (dropsL a b) = (dropsL a b).length := cnt_map (fun _ => rfl)
  have d1 : cntK 1 (dropsL a b) = 0 := cnt_map0 (m := 0) (fun _ => rfl) (by decide)
  have m0 : cntK 0 (makesL a b) = 0 := cnt_map0 (m := 1) (fun _ => rfl) (by decide)
  have m1 : cntK 1 (makesL a b) = (makesL a b).length := cnt_map (fun _ => rfl)
  have k0 : cntK 0 (kidsL a b) = 0 := cnt_map0 (m := 2) (fun _ => rfl) (by decide)
  have k1 : cntK 1 (kidsL a b) = 0 := cnt_map0 (m := 2) (fun _ => rfl) (by decide)
  have s0 : cntK 0 (spansL a b) = 0 := cnt_map0 (m := 3) (fun _ => rfl) (by decide)
  have s1 : cntK 1 (spansL a b) = 0 := cnt_map0 (m := 3) (fun _ => rfl) (by decide)
  unfold stepsL
  rw [cnt_app, cnt_app, cnt_app, cnt_app, cnt_app, cnt_app]
  omega
theorem wr1 (i : Nat) (h : i ≤ 100000) : wrap64 ((i : Int) + 1) = ((i + 1 : Nat) : Int) := by unfold wrap64; omega
theorem moves_pos (a b : List Nd) : (0 < cntK 0 (stepsL a b) + cntK 1 (stepsL a b)) ↔ (dropsL a b ≠ [] ∨ makesL a b ≠ []) := by
  rw [(cnt_steps a b).1, (cnt_steps a b).2]
  cases dropsL a b <;> cases makesL a b <;> first | (simp; done) | (simp; omega)
/-- What the second Apply comes to. -/
theorem twice_is {s u : List UInt8} (hs : s.length ≤ 300) (hu : u.length ≤ 300) : patchP (renN s u) 0 (renX s u) (stepsL (parN s) (renN s u)) u.length = if 0 < cntK 0 (stepsL (parN s) (renN s u)) + cntK 1 (stepsL (parN s) (renN s u)) then none else some (renN s u, (renX s u : Int)) := by
  have hm := ren_may hs hu
  have fb := may_fit hm
  have hl := steps_len (parN s) (renN s u)
  have h1 := par_len_le hs
  have h2 := may_len hm
  unfold patchP
  rw [ren_end, hm, decide_eq_true (by omega), Bool.and_true, if_pos rfl]
  by_cases h : 0 < cntK 0 (stepsL (parN s) (renN s u)) + cntK 1 (stepsL (parN s) (renN s u))
  · rw [if_pos h, twice_no fb.1 _ ((moves_pos _ _).1 h)]
  · rw [if_neg h]
    have hn := fun e => h ((moves_pos (parN s) (renN s u)).2 e)
    have e1 : dropsL (parN s) (renN s u) = [] := Classical.byContradiction (fun e => hn (.inl e))
    have e2 : makesL (parN s) (renN s u) = [] := Classical.byContradiction (fun e => hn (.inr e))
    rw [twice_yes fb.1 fb.2 _ e1 e2]
    dsimp only
    rw [hm, if_pos rfl]
theorem steps_few {a b : List Nd} (hk : ∀ x ∈ b, x.kids.length ≤ 2048) : ∀ s ∈ stepsL a b, s.kids.length ≤ 140737488355328 := by
  intro s hs
  unfold stepsL dropsL makesL kidsL spansL at hs
  simp only [List.mem_append, List.mem_map, List.mem_filter] at hs
  rcases hs with ⟨x, _, rfl⟩ | ⟨x, _, rfl⟩ | ⟨x, ⟨hx, _⟩, rfl⟩ | ⟨x, _, rfl⟩
  · simp
  · simp
  · exact Nat.le_trans (hk x hx) (by omega)
  · simp

set_option maxRecDepth 100000 in
set_option maxHeartbeats 8000000 in
theorem twice_noU (AP : ApC) (s u : ByteArray) (hs : s.size ≤ 300) (hu : 300 < u.size) (mu : u.size ≤ maxLen) (w : World) : Calls Try.prog 6 #[.string s, .string u] w (RetBelow (.returned (.bool true)) w) := by
  have AW := Lib.hid (fun W => awake_true AP W)
  obtain ⟨K, hK⟩ : ∃ K, (parN s.data.toList).length = K := ⟨_, rfl⟩
  have PA : Hid (∀ W, Calls Try.prog 16 #[.string s] W (fun e w' => ∃ p cap, e = .returned (.tuple #[.agg #[.int .i64 0, .int .i64 K, .slice p K cap], .int .i64 0]) ∧ NodesR w' p (parN s.data.toList) ∧ K ≤ cap ∧ Bl W w')) := Lib.hid (fun W => parse_c s hs _ rfl K hK W)
  have RN : Hid (∀ (W : World) (p : Option Addr) (cap : Nat), Calls Try.prog 17 #[.agg #[.int .i64 0, .int .i64 K, .slice p K cap], .string s, .string u] W (RetBelow (.returned (.tuple #[.agg #[.int .i64 0, .int .i64 0, .slice none 0 0], .int .i64 1300])) W)) := Lib.hid (fun W p cap => renew_noU s u 0 K p K cap W hu mu)
  clear hs hu mu hK AP
  go_enter Try.func6, Try.ntmps6
  go_upto_region 3 with (go_at_call 15; refine (AW.out _).mono ?_; rintro e w0 ⟨rfl, hb0⟩; have B0 := Lib.hid (show Bl w w0 from hb0); clear hb0)
  clear AW
  go_upto_region 4 with (go_at_call 16; refine (PA.out _).mono ?_; rintro e w1 ⟨p1, c1, rfl, -, -, hb1⟩; have B1 := Lib.hid (B0.out.call hb1); clear hb1)
  clear PA B0
  have b1 : Bl w1 (w1.alloc (.cells #[.int .i64 0, .int .i64 K, .slice p1 K c1] 24)) := Bl.alloc (Bl.refl _) _
  have T1 : Hid ((w1.alloc (.cells #[.int .i64 0, .int .i64 K, .slice p1 K c1] 24)).heap[w1.heap.size]? = some (.cells #[.int .i64 0, .int .i64 K, .slice p1 K c1] 24 (0, 0))) := Lib.hid (heap_new rfl _ _)
  have B2 := Lib.hid (B1.out.call b1)
  obtain ⟨tb, htb⟩ : ∃ g, g = w1.heap.size := ⟨_, rfl⟩
  rw [← htb] at T1 ⊢
  clear B1 b1 htb
  generalize (w1.alloc (.cells #[.int .i64 0, .int .i64 K, .slice p1 K c1] 24)) = w2 at B2 T1 ⊢
  have t0 := (obj_cells T1.out).1 0 _ rfl; have t1 := (obj_cells T1.out).1 1 _ rfl; have t2 := (obj_cells T1.out).1 2 _ rfl
  go_wp2_with (go_at_call 17; refine (RN.out _ _ _).mono ?_; rintro e w3 ⟨rfl, hb3⟩; have B3 := Lib.hid (B2.out.call hb3); clear hb3)
  go_ret
  exact ⟨rfl, B3.out.call (Bl.alloc (Bl.refl _) _)⟩

set_option maxRecDepth 100000 in
set_option maxHeartbeats 8000000 in
theorem twice_noS (AP : ApC) (s u : ByteArray) (hs : 300 < s.size) (ms : s.size ≤ maxLen) (mu : u.size ≤ maxLen) (w : World) : Calls Try.prog 6 #[.string s, .string u] w (RetBelow (.returned (.bool true)) w) := by
  have AW := Lib.hid (fun W => awake_true AP W)
  have PA : Hid (∀ W, Calls Try.prog 16 #[.string s] W (fun e w' => e = .returned (.tuple #[.agg #[.int .i64 0, .int .i64 0, .slice none 0 0], .int .i64 1100]) ∧ Bl W w')) := Lib.hid (fun W => parse_no s W hs ms)
  have RN : Hid (∀ (W : World), Calls Try.prog 17 #[.agg #[.int .i64 0, .int .i64 0, .slice none 0 0], .string s, .string u] W (RetBelow (.returned (.tuple #[.agg #[.int .i64 0, .int .i64 0, .slice none 0 0], .int .i64 1300])) W)) := Lib.hid (fun W => by
    by_cases hu : u.size ≤ 300
    · exact renew_noS s u 0 0 none 0 0 W hu hs ms
    · exact renew_noU s u 0 0 none 0 0 W (by omega) mu)
  clear hs ms mu AP
  go_enter Try.func6, Try.ntmps6
  go_upto_region 3 with (go_at_call 15; refine (AW.out _).mono ?_; rintro e w0 ⟨rfl, hb0⟩; have B0 := Lib.hid (show Bl w w0 from hb0); clear hb0)
  clear AW
  go_upto_region 4 with (go_at_call 16; refine (PA.out _).mono ?_; rintro e w1 ⟨rfl, hb1⟩; have B1 := Lib.hid (B0.out.call hb1); clear hb1)
  clear PA B0
  have b1 : Bl w1 (w1.alloc (.cells #[.int .i64 0, .int .i64 0, .slice none 0 0] 24)) := Bl.alloc (Bl.refl _) _
  have T1 : Hid ((w1.alloc (.cells #[.int .i64 0, .int .i64 0, .slice none 0 0] 24)).heap[w1.heap.size]? = some (.cells #[.int .i64 0, .int .i64 0, .slice none 0 0] 24 (0, 0))) := Lib.hid (heap_new rfl _ _)
  have B2 := Lib.hid (B1.out.call b1)
  obtain ⟨tb, htb⟩ : ∃ g, g = w1.heap.size := ⟨_, rfl⟩
  rw [← htb] at T1 ⊢
  clear B1 b1 htb
  generalize (w1.alloc (.cells #[.int .i64 0, .int .i64 0, .slice none 0 0] 24)) = w2 at B2 T1 ⊢
  have t0 := (obj_cells T1.out).1 0 _ rfl; have t1 := (obj_cells T1.out).1 1 _ rfl; have t2 := (obj_cells T1.out).1 2 _ rfl
  go_wp2_with (go_at_call 17; refine (RN.out _).mono ?_; rintro e w3 ⟨rfl, hb3⟩; have B3 := Lib.hid (B2.out.call hb3); clear hb3)
  go_ret
  exact ⟨rfl, B3.out.call (Bl.alloc (Bl.refl _) _)⟩

set_option maxRecDepth 100000 in
set_option maxHeartbeats 8000000 in
theorem twice_true (AP : ApC) (s u : ByteArray) (ms : s.size ≤ maxLen) (mu : u.size ≤ maxLen) (w : World) : Calls Try.prog 6 #[.string s, .string u] w (RetBelow (.returned (.bool true)) w) := by
  have AW := Lib.hid (fun W => awake_true AP W)
  by_cases hs : s.size ≤ 300
  · obtain ⟨K, hK⟩ : ∃ K, (parN s.data.toList).length = K := ⟨_, rfl⟩
    have PA : Hid (∀ W, Calls Try.prog 16 #[.string s] W (fun e w' => ∃ p cap, e = .returned (.tuple #[.agg #[.int .i64 0, .int .i64 K, .slice p K cap], .int .i64 0]) ∧ NodesR w' p (parN s.data.toList) ∧ K ≤ cap ∧ Bl W w')) := Lib.hid (fun W => parse_c s hs _ rfl K hK W)
    by_cases hu : u.size ≤ 300
    · obtain ⟨N, hN⟩ : ∃ N, (renN s.data.toList u.data.toList).length = N := ⟨_, rfl⟩
      obtain ⟨X, hX⟩ : ∃ X, renX s.data.toList u.data.toList = X := ⟨_, rfl⟩
      have l1 : s.data.toList.length ≤ 300 := by rw [ba_len]; exact hs
      have l2 : u.data.toList.length ≤ 300 := by rw [ba_len]; exact hu
      have RD := (ren_delta l1 l2).1
      have RL := ren_leads l1 l2
      have TW := twice_is l1 l2
      rw [ba_len u] at RL TW
      rw [show ((parK s.data.toList).size : Int) + 1 = (K : Int) by rw [← hK, parN_len]; omega, hX] at RD RL
      rw [hX] at TW
      have hK2 : K ≤ 2048 := by rw [← hK]; exact Nat.le_trans (par_len_le l1) (by omega)
      have hN2 : N ≤ 2048 := by rw [← hN]; exact may_len (ren_may l1 l2)
      have RN : Hid (∀ (W : World) (p : Option Addr) (cap : Nat), NodesR W p (parN s.data.toList) → Calls Try.prog 17 #[.agg #[.int .i64 0, .int .i64 K, .slice p K cap], .string s, .string u] W (fun e w' => ∃ p cap, e = .returned (.tuple #[.agg #[.int .i64 0, .int .i64 X, .slice p N cap], .int .i64 0]) ∧ NodesR w' p (renN s.data.toList u.data.toList) ∧ N ≤ cap ∧ Bl W w')) := Lib.hid (fun (W : World) (p : Option Addr) (cap : Nat) (R : NodesR W p (parN s.data.toList)) => renew_c s u hs hu _ _ rfl rfl K N X hK hN hX W p cap R)
      obtain ⟨T, hT⟩ : ∃ T, (stepsL (parN s.data.toList) (renN s.data.toList u.data.toList)).length = T := ⟨_, rfl⟩
      have hTl := steps_len (parN s.data.toList) (renN s.data.toList u.data.toList)
      rw [hT, hK, hN] at hTl
      have SK := steps_few (a := parN s.data.toList) (ren_few l1 l2)
      have KP := par_few l1
      have KR := ren_few l1 l2
      have DT := Lib.hid (fun (W : World) (p q : Option Addr) (ca cb : Nat) (R : NodesR W p (parN s.data.toList)) (R2 : NodesR W q (renN s.data.toList u.data.toList)) => delta_c W (parN s.data.toList) 0 K p K ca (renN s.data.toList u.data.toList) 0 X q N cb T hK hN R R2 hK2 hN2 KP KR RD _ rfl hT)
      generalize stepsL (parN s.data.toList) (renN s.data.toList u.data.toList) = SS at *
      generalize parN s.data.toList = NS at *
      generalize renN s.data.toList u.data.toList = NU at *
      obtain ⟨US, hUS⟩ : ∃ US, u.size = US := ⟨_, rfl⟩
      rw [hUS] at RL TW
      have HUS := Lib.hid hUS
      have AY := Lib.hid (fun (W : World) (p q : Option Addr) (ca cs : Nat) (R : NodesR W p NS) (S : StepsR W q SS) (h1 : K ≤ ca) => apply_yes AP W NS 0 K p K ca SS q T cs US hK hT R S h1 hK2 KP (by omega) SK NU X N RL hN)
      have ST := Lib.hid (fun (W : World) (p q : Option Addr) (c d : Nat) (R : NodesR W p NU) (R2 : NodesR W q NU) => sameTree_true 0 X p q NU N c d hN W R R2 (by omega) (fun x hx => Nat.le_trans (KR x hx) (by omega)))
      unfold trV at ST
      have HT := Lib.hid hT
      have AN : Hid (0 < cntK 0 SS + cntK 1 SS → ∀ (W : World) (p q : Option Addr) (ca cs : Nat), NodesR W p NU → StepsR W q SS → N ≤ ca → Calls Try.prog 9 #[.agg #[.int .i64 0, .int .i64 X, .slice p N ca], .slice q T cs, .int .i64 US] W (PatNo W)) := Lib.hid (fun h W p q ca cs R S h1 => apply_no AP W NU 0 X p N ca SS q T cs US hN hT R S h1 hN2 KR (by omega) SK (by rw [TW, if_pos h]))
      have AZ : Hid (¬ 0 < cntK 0 SS + cntK 1 SS → ∀ (W : World) (p q : Option Addr) (ca cs : Nat), NodesR W p NU → StepsR W q SS → N ≤ ca → Calls Try.prog 9 #[.agg #[.int .i64 0, .int .i64 X, .slice p N ca], .slice q T cs, .int .i64 US] W (fun e w' => ∃ p cap vs, e = .returned (.tuple #[.agg #[.int .i64 0, .int .i64 X, .slice p N cap], .int .i64 0]) ∧ OwnT w' W.heap.size (.slice p N cap) vs NU ∧ N ≤ cap ∧ Bl W w')) := Lib.hid (fun h W p q ca cs R S h1 => apply_yes AP W NU 0 X p N ca SS q T cs US hN hT R S h1 hN2 KR (by omega) SK NU X N (by rw [TW, if_neg h]) hN)
      have HTb : Hid (T ≤ 8192) := Lib.hid (by omega)
      have hUSb : u.size ≤ 300 := hu
      clear hK hN hX RD RL TW hT hTl SK KP KR AP l1 l2 ms mu hs hu hK2 hN2 hUS hUSb
      go_enter Try.func6, Try.ntmps6
      go_upto_region 3 with (go_at_call 15; refine (AW.out _).mono ?_; rintro e w0 ⟨rfl, hb0⟩; have B0 := Lib.hid (show Bl w w0 from hb0); clear hb0)
      clear AW
      go_upto_region 4 with (go_at_call 16; refine (PA.out _).mono ?_; rintro e w1 ⟨p1, c1, rfl, o1, hc1, hb1⟩; have O1 := Lib.hid o1; have B1 := Lib.hid (B0.out.call hb1); have C1 := Lib.hid hc1; clear o1 hb1 hc1)
      clear PA B0
      have b1 : Bl w1 (w1.alloc (.cells #[.int .i64 0, .int .i64 K, .slice p1 K c1] 24)) := Bl.alloc (Bl.refl _) _
      have T1 : Hid ((w1.alloc (.cells #[.int .i64 0, .int .i64 K, .slice p1 K c1] 24)).heap[w1.heap.size]? = some (.cells #[.int .i64 0, .int .i64 K, .slice p1 K c1] 24 (0, 0))) := Lib.hid (heap_new rfl _ _)
      have O2 := Lib.hid (O1.out.below b1); have B2 := Lib.hid (B1.out.call b1)
      obtain ⟨tb, htb⟩ : ∃ g, g = w1.heap.size := ⟨_, rfl⟩
      rw [← htb] at T1 ⊢
      clear O1 B1 b1 htb
      generalize (w1.alloc (.cells #[.int .i64 0, .int .i64 K, .slice p1 K c1] 24)) = w2 at O2 B2 T1 ⊢
      have t0 := (obj_cells T1.out).1 0 _ rfl; have t1 := (obj_cells T1.out).1 1 _ rfl; have t2 := (obj_cells T1.out).1 2 _ rfl
      go_upto_region 5 with (go_at_call 17; refine (RN.out _ _ _ O2.out).mono ?_; rintro e w3 ⟨p3, c3, rfl, o3, hc3, hb3⟩; have R3 := Lib.hid o3; have B3 := Lib.hid (B2.out.call hb3); have C3 := Lib.hid hc3; have T3 := Lib.hid (heap_later T1.out hb3); have O3 := Lib.hid (O2.out.below hb3); clear o3 hb3 hc3)
      clear t0 t1 t2 T1 O2 B2 RN
      have b3 : Bl w3 (w3.alloc (.cells #[.int .i64 0, .int .i64 X, .slice p3 N c3] 24)) := Bl.alloc (Bl.refl _) _
      have U4 : Hid ((w3.alloc (.cells #[.int .i64 0, .int .i64 X, .slice p3 N c3] 24)).heap[w3.heap.size]? = some (.cells #[.int .i64 0, .int .i64 X, .slice p3 N c3] 24 (0, 0))) := Lib.hid (heap_new rfl _ _)
      have O4 := Lib.hid (O3.out.below b3); have B4 := Lib.hid (B3.out.call b3); have R4 := Lib.hid (R3.out.below b3); have T4 := Lib.hid (heap_later T3.out b3)
      obtain ⟨ub, hub⟩ : ∃ g, g = w3.heap.size := ⟨_, rfl⟩
      rw [← hub] at U4 ⊢
      clear O3 B3 R3 T3 b3 hub
      generalize (w3.alloc (.cells #[.int .i64 0, .int .i64 X, .slice p3 N c3] 24)) = w4 at O4 B4 R4 T4 U4 ⊢
      have t0 := (obj_cells T4.out).1 0 _ rfl; have t1 := (obj_cells T4.out).1 1 _ rfl; have t2 := (obj_cells T4.out).1 2 _ rfl
      have u0 := (obj_cells U4.out).1 0 _ rfl; have u1 := (obj_cells U4.out).1 1 _ rfl; have u2 := (obj_cells U4.out).1 2 _ rfl
      go_upto_region 8 with (go_at_call 18; refine (DT.out _ _ _ _ _ O4.out R4.out).mono ?_; rintro e w5 ⟨p5, c5, rfl, s5, hb5⟩; have S5 := Lib.hid s5; have B5 := Lib.hid (B4.out.call hb5); have T5 := Lib.hid (heap_later T4.out hb5); have U5 := Lib.hid (heap_later U4.out hb5); have O5 := Lib.hid (O4.out.below hb5); have R5 := Lib.hid (R4.out.below hb5); clear s5 hb5)
      clear t0 t1 t2 u0 u1 u2 DT O4 R4 B4 T4 U4
      go_wp2_with fail
      go_loopw [11, 12] (fun v11 v12 wr => ∃ i : Nat, i ≤ T ∧ v12 = .int .i64 i ∧ v11 = .int .i64 (cntK 0 (SS.take i) + cntK 1 (SS.take i) : Nat) ∧ wr = w5) (fun _ v12 _ => T - (intOf v12).toNat)
      case atStart => exact ⟨0, by omega, rfl, by simp [cntK], rfl⟩
      case round =>
        obtain ⟨i, hi, rfl, rfl, rfl⟩ := hrel
        by_cases hlt : i < T
        · obtain ⟨x, hx⟩ : ∃ x, SS[i]? = some x := ⟨_, List.getElem?_eq_getElem (by rw [HT.out]; exact hlt)⟩
          obtain ⟨sb, so, kp, kc, rfl, hat, -⟩ := S5.out i x hx
          have k0 : wr.cell? ⟨sb, so + i * 6, none⟩ = some (.int .i64 x.kd) := hat 0 _ rfl
          have t0 := Lib.hid (cnt_take (k := 0) hx); have t1 := Lib.hid (cnt_take (k := 1) hx)
          have q0 := cnt_take_le 0 SS i; have q1 := cnt_take_le 1 SS i
          have h0 : (0 : Int) ≤ (i : Int) := by omega
          have h1 : (i : Int) < (T : Int) := by omega
          obtain ⟨m, hm⟩ : ∃ m, cntK 0 (SS.take i) + cntK 1 (SS.take i) = m := ⟨_, rfl⟩
          have hmb : m ≤ 2 * i := by omega
          have d : Hid (∀ k : Int, x.kd = k → cntK 0 (SS.take (i + 1)) + cntK 1 (SS.take (i + 1)) = m + ((if k = 0 then 1 else 0) + (if k = 1 then 1 else 0))) := Lib.hid (fun k e => by subst e; rw [t0.out, t1.out, ← hm]; omega)
          rw [hm]
          clear hat hx t0 t1 q0 q1 hm
          by_cases e0 : x.kd = 0
          · have D := d.out 0 e0
            rw [e0] at k0
            go_wp2_with fail
            have b1 := HTb.out
            rw [wr1 i (by omega), wr1 m (by omega)]
            exact ⟨⟨i + 1, by omega, rfl, by rw [D]; rfl, trivial⟩, by simp [intOf]; omega⟩
          · by_cases e1 : x.kd = 1
            · have D := d.out 1 e1
              rw [e1] at k0
              go_wp2_with fail
              have b1 := HTb.out
              rw [wr1 i (by omega), wr1 m (by omega)]
              exact ⟨⟨i + 1, by omega, rfl, by rw [D]; rfl, trivial⟩, by simp [intOf]; omega⟩
            · have D := d.out x.kd rfl
              rw [if_neg e0, if_neg e1] at D
              have g0 : (x.kd == 0) = false := beq_eq_false_iff_ne.2 e0
              have g1 : (x.kd == 1) = false := beq_eq_false_iff_ne.2 e1
              go_wp2_with fail
              have b1 := HTb.out
              rw [wr1 i (by omega)]
              exact ⟨⟨i + 1, by omega, rfl, by rw [D]; rfl, trivial⟩, by simp [intOf]; omega⟩
        · have ei : i = T := by omega
          subst ei
          rw [List.take_of_length_le (by rw [HT.out]; exact Nat.le_refl _)]
          obtain ⟨MV, hMV⟩ : ∃ MV, cntK 0 SS + cntK 1 SS = MV := ⟨_, rfl⟩
          rw [hMV] at AN AZ ⊢
          clear hMV
          have hUS := HUS.out
          obtain ⟨wv, hwv⟩ : ∃ W, W = wr := ⟨_, rfl⟩
          subst hwv
          have t0 := (obj_cells T5.out).1 0 _ rfl; have t1 := (obj_cells T5.out).1 1 _ rfl; have t2 := (obj_cells T5.out).1 2 _ rfl
          go_upto_region 15 with (go_at_call 9; refine (AY.out _ _ _ _ _ O5.out S5.out C1.out).mono ?_; rintro e w6 ⟨p6, c6, vs6, rfl, n6, hc6, hb6⟩; have N6 := Lib.hid n6.read; have C6 := Lib.hid hc6; have B6 : Hid (Bl wv w6) := Lib.hid hb6; clear n6 hc6 hb6)
          clear t0 t1 t2 AY T5 O5
          have b7 : Bl w6 (w6.alloc (.cells #[.int .i64 0, .int .i64 X, .slice p6 N c6] 24)) := Bl.alloc (Bl.refl _) _
          have V7 : Hid ((w6.alloc (.cells #[.int .i64 0, .int .i64 X, .slice p6 N c6] 24)).heap[w6.heap.size]? = some (.cells #[.int .i64 0, .int .i64 X, .slice p6 N c6] 24 (0, 0))) := Lib.hid (heap_new rfl _ _)
          have N7 := Lib.hid (N6.out.below b7); have B7 : Hid (Bl wv (w6.alloc (.cells #[.int .i64 0, .int .i64 X, .slice p6 N c6] 24))) := Lib.hid (B6.out.call b7)
          obtain ⟨vb, hvb⟩ : ∃ g, g = w6.heap.size := ⟨_, rfl⟩
          rw [← hvb] at V7 ⊢
          clear hvb b7 N6 B6
          generalize (w6.alloc (.cells #[.int .i64 0, .int .i64 X, .slice p6 N c6] 24)) = w7 at V7 N7 B7 ⊢
          have S7 := Lib.hid (S5.out.below B7.out)
          have v0 := (obj_cells V7.out).1 0 _ rfl; have v1 := (obj_cells V7.out).1 1 _ rfl; have v2 := (obj_cells V7.out).1 2 _ rfl
          by_cases hpos : 0 < MV
          · have AN2 := Lib.hid (AN.out hpos)
            have hp1 : (0 : Int) < (MV : Int) := by omega
            clear AN AZ
            go_upto_region 16 with (go_at_call 9; refine (AN2.out _ _ _ _ _ N7.out S7.out C6.out).mono ?_; rintro e w8 ⟨rfl, hb8⟩; have B8 : Hid (Bl w7 w8) := Lib.hid hb8; clear hb8)
            clear v0 v1 v2 AN2
            have D9 : Hid ((w8.alloc (.cells #[.int .i64 0, .int .i64 0, .slice none 0 0] 24)).heap[w8.heap.size]? = some (.cells #[.int .i64 0, .int .i64 0, .slice none 0 0] 24 (0, 0))) := Lib.hid (heap_new rfl _ _)
            have B9 : Hid (Bl w7 (w8.alloc (.cells #[.int .i64 0, .int .i64 0, .slice none 0 0] 24))) := Lib.hid (B8.out.call (Bl.alloc (Bl.refl _) _))
            obtain ⟨db, hdb⟩ : ∃ g, g = w8.heap.size := ⟨_, rfl⟩
            rw [← hdb] at D9 ⊢
            clear hdb B8
            generalize (w8.alloc (.cells #[.int .i64 0, .int .i64 0, .slice none 0 0] 24)) = w9 at D9 B9 ⊢
            have V9 := Lib.hid (heap_later V7.out B9.out); have U9 := Lib.hid (heap_later (heap_later U5.out B7.out) B9.out); have N9 := Lib.hid (N7.out.below B9.out); have R9 := Lib.hid ((R5.out.below B7.out).below B9.out)
            have v0 := (obj_cells V9.out).1 0 _ rfl; have v1 := (obj_cells V9.out).1 1 _ rfl; have v2 := (obj_cells V9.out).1 2 _ rfl
            have u0 := (obj_cells U9.out).1 0 _ rfl; have u1 := (obj_cells U9.out).1 1 _ rfl; have u2 := (obj_cells U9.out).1 2 _ rfl
            go_upto_region 18 with (first | (go_at_call 11; refine (ST.out _ _ _ _ _ N9.out R9.out).mono ?_; rintro e w10 ⟨rfl, h10⟩; have B10 : Hid (Bl w9 w10) := Lib.hid h10; clear h10) | (go_at_call 12; refine (num_any _ _).mono ?_; rintro e w11 ⟨rfl, rfl⟩))
            clear v0 v1 v2 u0 u1 u2
            have d2 := (obj_cells (heap_later D9.out B10.out)).1 2 _ rfl
            go_wp2_with (go_at_call 12; refine (num_any _ _).mono ?_; rintro e w11 ⟨rfl, rfl⟩)
            go_ret
            exact ⟨rfl, (((B5.out.call B7.out).call B9.out).call B10.out)⟩
          · have AZ2 := Lib.hid (AZ.out hpos)
            have hp1 : ¬ ((0 : Int) < (MV : Int)) := by omega
            clear AN AZ
            go_upto_region 16 with (go_at_call 9; refine (AZ2.out _ _ _ _ _ N7.out S7.out C6.out).mono ?_; rintro e w8 ⟨p8, c8, vs8, rfl, n8, -, hb8⟩; have N8 := Lib.hid n8.read; have B8 : Hid (Bl w7 w8) := Lib.hid hb8; clear n8 hb8)
            clear v0 v1 v2 AZ2
            have b9 : Bl w8 (w8.alloc (.cells #[.int .i64 0, .int .i64 X, .slice p8 N c8] 24)) := Bl.alloc (Bl.refl _) _
            have D9 : Hid ((w8.alloc (.cells #[.int .i64 0, .int .i64 X, .slice p8 N c8] 24)).heap[w8.heap.size]? = some (.cells #[.int .i64 0, .int .i64 X, .slice p8 N c8] 24 (0, 0))) := Lib.hid (heap_new rfl _ _)
            have B9 : Hid (Bl w7 (w8.alloc (.cells #[.int .i64 0, .int .i64 X, .slice p8 N c8] 24))) := Lib.hid (B8.out.call b9)
            have N89 := Lib.hid (N8.out.below b9)
            obtain ⟨db, hdb⟩ : ∃ g, g = w8.heap.size := ⟨_, rfl⟩
            rw [← hdb] at D9 ⊢
            clear hdb B8 b9 N8
            generalize (w8.alloc (.cells #[.int .i64 0, .int .i64 X, .slice p8 N c8] 24)) = w9 at D9 B9 N89 ⊢
            have V9 := Lib.hid (heap_later V7.out B9.out); have U9 := Lib.hid (heap_later (heap_later U5.out B7.out) B9.out); have N9 := Lib.hid (N7.out.below B9.out); have R9 := Lib.hid ((R5.out.below B7.out).below B9.out)
            have v0 := (obj_cells V9.out).1 0 _ rfl; have v1 := (obj_cells V9.out).1 1 _ rfl; have v2 := (obj_cells V9.out).1 2 _ rfl
            have u0 := (obj_cells U9.out).1 0 _ rfl; have u1 := (obj_cells U9.out).1 1 _ rfl; have u2 := (obj_cells U9.out).1 2 _ rfl
            go_upto_region 18 with (first | (go_at_call 11; refine (ST.out _ _ _ _ _ N9.out R9.out).mono ?_; rintro e w10 ⟨rfl, h10⟩; have B10 : Hid (Bl w9 w10) := Lib.hid h10; clear h10) | (go_at_call 12; refine (num_any _ _).mono ?_; rintro e w11 ⟨rfl, rfl⟩))
            clear v0 v1 v2 u0 u1 u2
            have D10 := Lib.hid (heap_later D9.out B10.out); have U10 := Lib.hid (heap_later U9.out B10.out); have N10 := Lib.hid (N89.out.below B10.out); have R10 := Lib.hid (R9.out.below B10.out)
            have d0 := (obj_cells D10.out).1 0 _ rfl; have d1 := (obj_cells D10.out).1 1 _ rfl; have d2 := (obj_cells D10.out).1 2 _ rfl
            have u0 := (obj_cells U10.out).1 0 _ rfl; have u1 := (obj_cells U10.out).1 1 _ rfl; have u2 := (obj_cells U10.out).1 2 _ rfl
            go_wp2_with (first | (go_at_call 11; refine (ST.out _ _ _ _ _ N10.out R10.out).mono ?_; rintro e w12 ⟨rfl, h12⟩; have B12 : Hid (Bl w10 w12) := Lib.hid h12; clear h12) | (go_at_call 12; refine (num_any _ _).mono ?_; rintro e w11 ⟨rfl, rfl⟩))
            go_ret
            exact ⟨rfl, ((((B5.out.call B7.out).call B9.out).call B10.out).call B12.out)⟩
    · exact twice_noU AP s u hs (by omega) mu w
  · exact twice_noS AP s u (by omega) ms mu w

end Go.Proofs.Ytdhkjhdbaofdcaa
