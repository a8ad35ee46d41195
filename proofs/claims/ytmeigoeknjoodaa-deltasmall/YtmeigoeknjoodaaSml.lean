/-
  The walk of DeltaSmall: it answers true. No condition.
-/
import Derived.Test.YtmeigoeknjoodaaAw
namespace Go.Proofs.Ytmeigoeknjoodaa
open Go.RowKit

theorem and15 (x : Int) : ∃ n : Nat, n ≤ 15 ∧ bits BinOp.and IntKind.i64 x 15 = (n : Int) := by
  have small : ∀ v : Fin 16, IntKind.i64.wrap (v.val : Int) = (v.val : Int) := by decide
  have hv : (BitVec.ofInt 64 x &&& BitVec.ofInt 64 15).toNat ≤ 15 := by
    rw [BitVec.toNat_and]
    exact Nat.le_trans Nat.and_le_right (by decide)
  exact ⟨_, hv, small ⟨_, Nat.lt_succ_of_le hv⟩⟩
theorem wrapk {n : Nat} (h : n ≤ 15) : wrap64 (1 + (n : Int)) = ((n + 1 : Nat) : Int) := by unfold wrap64; omega
theorem wrapi {i : Nat} (h : i ≤ 16) : wrap64 (i : Int) = (i : Int) := by unfold wrap64; omega
theorem mod_at (x : Int) {k : Nat} (h : k ≤ 16) : ∃ i : Nat, i ≤ k ∧ (IntKind.u64.wrap x).tmod ((k : Int) + 1) = (i : Int) := by
  obtain ⟨y, hy⟩ : ∃ y : Nat, IntKind.u64.wrap x = (y : Int) := ⟨(IntKind.u64.wrap x).toNat, by rw [show IntKind.u64.wrap x = x % 18446744073709551616 from rfl]; omega⟩
  rw [hy]
  refine ⟨y % (k + 1), Nat.le_of_lt_succ (Nat.mod_lt _ (by omega)), ?_⟩
  rw [Int.tmod_eq_emod_of_nonneg (by omega)]
  rfl

theorem ones_next : ∀ n : Nat, onesL (n + 2) = onesL (n + 1) ++ [44, 49]
  | 0 => rfl
  | n + 1 => by
    have := ones_next n
    show 49 :: 44 :: onesL (n + 2) = (49 :: 44 :: onesL (n + 1)) ++ [44, 49]
    rw [this]; rfl
theorem small_next {j : Nat} (h : j ≠ 0) : smallS (j + 1) = smallS j ++ [44, 49] := by
  obtain ⟨n, rfl⟩ : ∃ n, j = n + 1 := ⟨j - 1, by omega⟩
  unfold smallS
  rw [ones_next n]; rfl
theorem small_len : ∀ j : Nat, 1 ≤ j → (smallS j).length = 2 * j
  | 0, h => by omega
  | 1, _ => rfl
  | n + 2, _ => by rw [small_next (j := n + 1) (by omega), List.length_append, small_len (n + 1) (by omega)]; simp; omega
theorem small_add {j : Nat} (h : j ≠ 0) : (⟨(smallS j).toArray⟩ : ByteArray) ++ ⟨#[44]⟩ ++ ⟨#[49]⟩ = ⟨(smallS (j + 1)).toArray⟩ :=
  ByteArray.ext (Array.toList_inj.1 (by rw [small_next h]; simp [ByteArray.data_append]))
theorem small_put (j : Nat) : (⟨(smallS j).toArray⟩ : ByteArray).size = (smallS j).length := by simp [ByteArray.size]

theorem small_u {j i P : Nat} (h1 : 1 ≤ j) (hP : smallP j i = P) (hl : P ≤ 2 * j) : ((⟨(smallS j).toArray⟩ : ByteArray).extract 0 P ++ ⟨#[32]⟩ ++ (⟨(smallS j).toArray⟩ : ByteArray).extract P (2 * j) ++ ⟨#[93]⟩).data.toList = smallU j i := by
  have sl := small_len j h1
  unfold smallU
  rw [hP]
  have e : ((smallS j).drop P).take (2 * j - P) = (smallS j).drop P := List.take_of_length_le (by rw [List.length_drop]; omega)
  simp [ByteArray.data_append, ByteArray.data_extract, e]
theorem smallU_len {j i P : Nat} (h1 : 1 ≤ j) (hP : smallP j i = P) (hl : P ≤ 2 * j) : (smallU j i).length = 2 * j + 2 := by
  have sl := small_len j h1
  unfold smallU
  rw [hP]
  simp
  omega

set_option maxRecDepth 100000 in
set_option maxHeartbeats 8000000 in
theorem small_true (many ats : Int) (w : World) : Calls Try.prog 4 #[.int .i64 many, .int .i64 ats] w (RetBelow (.returned (.bool true)) w) := by
  have AW := Lib.hid (fun W => awake_true W)
  obtain ⟨n, hn, hb⟩ := and15 many
  go_enter Try.func4, Try.ntmps4
  go_upto_region 3 with (go_at_call 14; refine (AW.out _).mono ?_; rintro e w0 ⟨rfl, hb0⟩; have B0 := Lib.hid (show Bl w w0 from hb0); clear hb0)
  clear AW
  have hb' := Lib.hid hb
  clear hb
  go_upto_region 4 with fail
  rw [hb'.out, wrapk hn]
  obtain ⟨k, hk⟩ : ∃ k, n + 1 = k := ⟨_, rfl⟩
  rw [hk]
  have k1 : 1 ≤ k := by omega
  have k2 : k ≤ 16 := by omega
  clear hb' hn hk
  obtain ⟨i, hi, hm⟩ := mod_at ats k2
  have HM := Lib.hid hm
  clear hm
  go_upto_region 5 with fail
  rw [HM.out, wrapi (by omega)]
  clear HM
  go_wp2_with fail
  go_loopw [7, 8] (fun v7 v8 wr => ∃ j : Nat, j ≤ k ∧ v8 = .int .i64 j ∧ v7 = .string ⟨(smallS j).toArray⟩ ∧ wr = w0) (fun _ v8 _ => k - (intOf v8).toNat)
  case atStart => exact ⟨0, by omega, rfl, rfl, rfl⟩
  case round =>
    obtain ⟨j, hj, rfl, rfl, rfl⟩ := hrel
    by_cases hlt : j < k
    · by_cases h0 : j = 0
      · subst h0
        have hk0 : (0 : Int) < (k : Int) := by omega
        go_wp2_with fail
        exact ⟨⟨1, by omega, rfl, rfl, trivial⟩, by simp [intOf]; omega⟩
      · have hj0 : (0 : Int) < (j : Int) := by omega
        have hj1 : (j : Int) < (k : Int) := by omega
        have sl := small_len j (by omega)
        go_wp2_with fail
        all_goals (first | (exfalso; omega) | skip)
        · exact ⟨⟨j + 1, by omega, rfl, by rw [small_add h0], trivial⟩, by simp [intOf]; omega⟩
    · have ej : j = k := by omega
      subst ej
      have sl := small_len j k1
      obtain ⟨P, hP⟩ : ∃ P, smallP j i = P := ⟨_, rfl⟩
      have hPle : P ≤ 2 * j := by rw [← hP]; unfold smallP; split <;> omega
      go_upto_if 46 with fail
      go_cut [9] from 47 (fun v9 wx => v9 = .int .i64 P ∧ wx = wr)
      case first =>
        by_cases e : i = j
        · subst e
          have hp : P = 2 * i := by rw [← hP]; unfold smallP; rw [if_pos rfl]
          go_wp2_with fail
          go_meet
          exact ⟨by rw [hp]; rfl, rfl⟩
        · have hp : P = 1 + 2 * i := by rw [← hP]; unfold smallP; rw [if_neg e]
          have eb : ((i : Int) == (j : Int)) = false := by rw [beq_eq_false_iff_ne]; omega
          go_wp2_with fail
          go_meet
          exact ⟨by rw [hp]; rfl, rfl⟩
      case rest =>
        obtain ⟨rfl, rfl⟩ := hcut
        have hPi : (P : Int) ≤ ((smallS j).length : Int) := by omega
        have hP0 : (0 : Int) ≤ (P : Int) := by omega
        go_upto_region 15 with fail
        go_quiet (fail)
        have B1 := Lib.hid (B0.out.call (dr_below wc nq))
        generalize wc.drewN nq = wq at B1 ⊢
        clear B0
        obtain ⟨U, hU⟩ : ∃ U : ByteArray, (⟨(smallS j).toArray⟩ : ByteArray).extract 0 P ++ ⟨#[32]⟩ ++ (⟨(smallS j).toArray⟩ : ByteArray).extract P (2 * j) ++ ⟨#[93]⟩ = U := ⟨_, rfl⟩
        rw [hU]
        have hUl : U.data.toList = smallU j i := by rw [← hU]; exact small_u k1 hP hPle
        have hAl : ((⟨(smallS j).toArray⟩ : ByteArray) ++ ⟨#[93]⟩).data.toList = smallS j ++ [93] := by simp [ByteArray.data_append]
        have l1 : (smallS j ++ [93]).length ≤ 300 := by rw [List.length_append, sl]; simp; omega
        have l2 : (smallU j i).length ≤ 300 := by rw [smallU_len k1 hP hPle]; omega
        have hA : ((⟨(smallS j).toArray⟩ : ByteArray) ++ ⟨#[93]⟩).size ≤ 300 := by rw [← ba_len, hAl]; exact l1
        have hUs : U.size ≤ 300 := by rw [← ba_len, hUl]; exact l2
        have SI := small_is k1 k2 hi
        obtain ⟨K, hK⟩ : ∃ K, (parN (smallS j ++ [93])).length = K := ⟨_, rfl⟩
        have PA : Hid (∀ W, Calls Try.prog 15 #[.string (⟨(smallS j).toArray⟩ ++ ⟨#[93]⟩)] W (fun e w' => ∃ p cap, e = .returned (.tuple #[.agg #[.int .i64 0, .int .i64 K, .slice p K cap], .int .i64 0]) ∧ NodesR w' p (parN (smallS j ++ [93])) ∧ K ≤ cap ∧ Bl W w')) := Lib.hid (fun W => parse_c _ hA _ hAl K hK W)
        obtain ⟨N, hN⟩ : ∃ N, (renN (smallS j ++ [93]) (smallU j i)).length = N := ⟨_, rfl⟩
        obtain ⟨X, hX⟩ : ∃ X, renX (smallS j ++ [93]) (smallU j i) = X := ⟨_, rfl⟩
        have RD := (ren_delta l1 l2).1
        rw [show ((parK (smallS j ++ [93])).size : Int) + 1 = (K : Int) by rw [← hK, parN_len]; omega, hX] at RD
        have hK2 : K ≤ 2048 := by rw [← hK]; exact Nat.le_trans (par_len_le l1) (by omega)
        have hN2 : N ≤ 2048 := by rw [← hN]; exact may_len (ren_may l1 l2)
        have RN : Hid (∀ (W : World) (p : Option Addr) (cap : Nat), NodesR W p (parN (smallS j ++ [93])) → Calls Try.prog 16 #[.agg #[.int .i64 0, .int .i64 K, .slice p K cap], .string (⟨(smallS j).toArray⟩ ++ ⟨#[93]⟩), .string U] W (fun e w' => ∃ p cap, e = .returned (.tuple #[.agg #[.int .i64 0, .int .i64 X, .slice p N cap], .int .i64 0]) ∧ NodesR w' p (renN (smallS j ++ [93]) (smallU j i)) ∧ N ≤ cap ∧ Bl W w')) :=
          Lib.hid (fun W p cap R => renew_c _ U hA hUs _ _ hAl hUl K N X hK hN hX W p cap R)
        obtain ⟨T, hT⟩ : ∃ T, (stepsL (parN (smallS j ++ [93])) (renN (smallS j ++ [93]) (smallU j i))).length = T := ⟨_, rfl⟩
        have BT := Lib.hid (fun (W : World) (p q : Option Addr) (ca cb : Nat) (R : NodesR W p (parN (smallS j ++ [93]))) (R2 : NodesR W q (renN (smallS j ++ [93]) (smallU j i))) (h1 : K ≤ ca) (h2 : N ≤ cb) => bet_c W (parN (smallS j ++ [93])) 0 K p K ca (renN (smallS j ++ [93]) (smallU j i)) 0 X q N cb T hK hN R R2 hK2 hN2 (par_kids l1) (r_kids l1 l2) h1 h2 RD hT)
        rw [hT] at SI
        have tb : ((T : Int) != 2 + (j : Int) - (i : Int)) = false := by rw [bne_eq_false_iff_eq, SI.1]; omega
        have SK := Lib.hid SI.2
        have HT := Lib.hid hT
        have hTs : T ≤ 20 := by rw [SI.1]; omega
        generalize stepsL (parN (smallS j ++ [93])) (renN (smallS j ++ [93]) (smallU j i)) = S1 at *
        generalize renN (smallS j ++ [93]) (smallU j i) = NU at *
        generalize parN (smallS j ++ [93]) = NS at *
        clear hT SI RD hUl hAl l1 l2 hA hUs hX hK hN hU hK2 hN2 hP hPi hP0 hPle
        go_upto_region 17 with (go_at_call 15; refine (PA.out _).mono ?_; rintro e w1 ⟨p1, c1, rfl, o1, hc1, hb1⟩; have O1 := Lib.hid o1; have B2 := Lib.hid (B1.out.call hb1); have C1 := Lib.hid hc1; clear o1 hb1 hc1)
        clear PA B1
        have b1 : Bl w1 (w1.alloc (.cells #[.int .i64 0, .int .i64 K, .slice p1 K c1] 24)) := Bl.alloc (Bl.refl _) _
        have T1 : Hid ((w1.alloc (.cells #[.int .i64 0, .int .i64 K, .slice p1 K c1] 24)).heap[w1.heap.size]? = some (.cells #[.int .i64 0, .int .i64 K, .slice p1 K c1] 24 (0, 0))) := Lib.hid (heap_new rfl _ _)
        have O2 := Lib.hid (O1.out.below b1); have B3 := Lib.hid (B2.out.call b1)
        obtain ⟨tb', htb⟩ : ∃ g, g = w1.heap.size := ⟨_, rfl⟩
        rw [← htb] at T1 ⊢
        clear O1 B2 b1 htb
        generalize (w1.alloc (.cells #[.int .i64 0, .int .i64 K, .slice p1 K c1] 24)) = w2 at O2 B3 T1 ⊢
        have t0 := (obj_cells T1.out).1 0 _ rfl; have t1 := (obj_cells T1.out).1 1 _ rfl; have t2 := (obj_cells T1.out).1 2 _ rfl
        go_upto_region 18 with (go_at_call 16; refine (RN.out _ _ _ O2.out).mono ?_; rintro e w3 ⟨p3, c3, rfl, o3, hc3, hb3⟩; have R3 := Lib.hid o3; have B4 := Lib.hid (B3.out.call hb3); have C3 := Lib.hid hc3; have T3 := Lib.hid (heap_later T1.out hb3); have O3 := Lib.hid (O2.out.below hb3); clear o3 hb3 hc3)
        clear t0 t1 t2 T1 O2 B3 RN
        have b3 : Bl w3 (w3.alloc (.cells #[.int .i64 0, .int .i64 X, .slice p3 N c3] 24)) := Bl.alloc (Bl.refl _) _
        have U4 : Hid ((w3.alloc (.cells #[.int .i64 0, .int .i64 X, .slice p3 N c3] 24)).heap[w3.heap.size]? = some (.cells #[.int .i64 0, .int .i64 X, .slice p3 N c3] 24 (0, 0))) := Lib.hid (heap_new rfl _ _)
        have O4 := Lib.hid (O3.out.below b3); have B5 := Lib.hid (B4.out.call b3); have R4 := Lib.hid (R3.out.below b3); have T4 := Lib.hid (heap_later T3.out b3)
        obtain ⟨ub, hub⟩ : ∃ g, g = w3.heap.size := ⟨_, rfl⟩
        rw [← hub] at U4 ⊢
        clear O3 B4 R3 T3 b3 hub
        generalize (w3.alloc (.cells #[.int .i64 0, .int .i64 X, .slice p3 N c3] 24)) = w4 at O4 B5 R4 T4 U4 ⊢
        have t0 := (obj_cells T4.out).1 0 _ rfl; have t1 := (obj_cells T4.out).1 1 _ rfl; have t2 := (obj_cells T4.out).1 2 _ rfl
        have u0 := (obj_cells U4.out).1 0 _ rfl; have u1 := (obj_cells U4.out).1 1 _ rfl; have u2 := (obj_cells U4.out).1 2 _ rfl
        go_upto_region 19 with (go_at_call 8; refine (BT.out _ _ _ _ _ O4.out R4.out C1.out C3.out).mono ?_; rintro e w5 ⟨p5, c5, rfl, s5, hb5⟩; have S5 := Lib.hid s5; have B6 := Lib.hid (B5.out.call hb5); clear s5 hb5)
        clear t0 t1 t2 u0 u1 u2 BT O4 R4 B5 T4 U4
        go_wp2_with (go_at_call 11; refine (num_any _ _).mono ?_; rintro e w9 ⟨rfl, rfl⟩)
        go_loopw [17] (fun v17 wr => ∃ m : Nat, m ≤ T ∧ v17 = .int .i64 m ∧ wr = w5) (fun v17 _ => T - (intOf v17).toNat)
        case atStart => exact ⟨0, by omega, rfl, rfl⟩
        case round =>
          obtain ⟨m, hm, rfl, rfl⟩ := hrel
          by_cases hlt2 : m < T
          · obtain ⟨x, hx⟩ : ∃ x, S1[m]? = some x := ⟨_, List.getElem?_eq_getElem (by rw [HT.out]; exact hlt2)⟩
            obtain ⟨sb, so, kp, kc, rfl, hat, -⟩ := S5.out m x hx
            have k0 : wr.cell? ⟨sb, so + m * 6, none⟩ = some (.int .i64 x.kd) := hat 0 _ rfl
            rw [SK.out x (List.mem_of_getElem? hx)] at k0
            have h0 : (0 : Int) ≤ (m : Int) := by omega
            have h1 : (m : Int) < (T : Int) := by omega
            clear hat hx
            go_wp2_with fail
            exact ⟨⟨m + 1, by omega, rfl, trivial⟩, by simp [intOf]; omega⟩
          · have em : m = T := by omega
            subst em
            go_wp2_with fail
            go_ret
            exact ⟨rfl, B6.out⟩

end Go.Proofs.Ytmeigoeknjoodaa
