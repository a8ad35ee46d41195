/-
  The walks of the reference's Between and Make. Conditions: as the theorems' premises say.
-/
import Derived.Test.YtmlibmleamiljaaAw
import Derived.Deep.CutBlock
namespace Go.Proofs.Ytmlibmleamiljaa
open Go.RowKit

theorem ed_mem {a c b : Nat} {put : ByteArray} (n : Nat) (hn : n < 4) {x : C} (hx : x ∈ (edL a put c b).take n ++ [(edL a put c b)[n]'(by simp [edL]; omega)]) : x ∈ edL a put c b := by
  rcases List.mem_append.1 hx with h | h
  · exact List.mem_of_mem_take h
  · simp only [List.mem_singleton] at h
    rw [h]; exact List.getElem_mem _
theorem radd_step (base : Nat) (cs : List C) (c : C) (hr : ∀ x ∈ cs ++ [c], x.Raw) (hl : cs.length ≤ 4096) (v : Value) (w : World) (ho : Own w base v (normOf cs)) (hb : base ≤ w.heap.size) : Calls Try.prog 20 #[v, c.val] w (AddPost base v (normOf (cs ++ [c])) w) := by
  have hc := hr c (by simp)
  have hcs : ∀ x ∈ cs, x.Raw := fun x hx => hr x (by simp [hx])
  have hn := normOf_length cs
  rw [normOf_snoc]
  exact radd_any base c (fit_raw hc) (Raw.soft hc) (normOf cs) (by omega) (fit_norm hcs hl) v w ho hb

set_option maxHeartbeats 1000000 in
theorem rbetween_no (s t : ByteArray) (w : World) (h : 4096 < s.size ∨ 4096 < t.size) : Calls Try.prog 11 #[.string s, .string t] w (EdNo 800 w) := by
  by_cases h1 : 4096 < s.size
  · clear h
    go_enter Try.func11, Try.ntmps11
    go_wp2_with fail
    go_ret2
    exact ⟨rfl, Below.refl _ _⟩
  · have h2 : 4096 < t.size := by omega
    clear h
    go_enter Try.func11, Try.ntmps11
    go_wp2_with fail
    go_ret2
    exact ⟨rfl, Below.refl _ _⟩

set_option maxRecDepth 100000 in
set_option maxHeartbeats 4000000 in
theorem rbetween_yes (s t : ByteArray) (w : World) (hs : s.size ≤ 4096) (ht : t.size ≤ 4096) : Calls Try.prog 11 #[.string s, .string t] w (EdYes (btw s t) w) := by
  go_enter Try.func11, Try.ntmps11
  go_upto_block 0 with fail
  go_cut [6] from 17 to 37 (fun v wx => ∃ i : Nat, v = .int .i64 i ∧ i ≤ s.size ∧ i ≤ t.size ∧ Hid (ahd s t = i) ∧ Hid (Below w.heap.size w wx))
  case first =>
    go_wp2_with fail
    go_loopw [6] (fun v wr => ∃ i : Nat, v = .int .i64 i ∧ i ≤ s.size ∧ i ≤ t.size ∧ Hid (∀ k, k < i → fwd s t k = true) ∧ Hid (Below w.heap.size w wr)) (fun v _ => s.size - (intOf v).toNat)
    case atStart => exact ⟨0, rfl, by omega, by omega, Lib.hid (fun k h => by omega), Lib.hid (Below.refl _ _)⟩
    case round =>
      obtain ⟨i, rfl, hi, hi2, P, B⟩ := hrel
      by_cases h1 : i < s.size
      · by_cases h2 : i < t.size
        · have d1 : decide ((i : Int) < (s.size : Int)) = true := decide_eq_true (by omega)
          have d2 : decide ((i : Int) < (t.size : Int)) = true := decide_eq_true (by omega)
          cases he : fwd s t i with
          | true =>
            have hq : ((s[i].toNat : Int) == (t[i].toNat : Int)) = true := (fwd_is h1 h2).trans he
            have P' := Lib.hid (Cnt.go P.out he)
            clear he
            go_wp2_with fail
            go_quiet (fail)
            go_wp2_with fail
            go_roundw
            case rel => exact ⟨i + 1, by go_num, by omega, by omega, P', Lib.hid (B.out.trans ((dr_below _ _).mono B.out.size))⟩
            case measure => simp [intOf]; omega
          | false =>
            have hq : ((s[i].toNat : Int) == (t[i].toNat : Int)) = false := (fwd_is h1 h2).trans he
            have FIN : Hid (ahd s t = i) := Lib.hid (cnt_eq ⟨by omega, P.out, .inr he⟩).symm
            clear he
            go_wp2_with fail
            go_quiet (fail)
            go_wp2_with fail
            go_meet
            exact ⟨i, rfl, hi, hi2, FIN, Lib.hid (B.out.trans ((dr_below _ _).mono B.out.size))⟩
        · have d1 : decide ((i : Int) < (s.size : Int)) = true := decide_eq_true (by omega)
          have d2 : decide ((i : Int) < (t.size : Int)) = false := decide_eq_false (by omega)
          have FIN : Hid (ahd s t = i) := Lib.hid (cnt_eq ⟨by omega, P.out, .inl (by omega)⟩).symm
          go_wp2_with fail
          go_quiet (fail)
          go_wp2_with fail
          go_meet
          exact ⟨i, rfl, hi, hi2, FIN, Lib.hid (B.out.trans ((dr_below _ _).mono B.out.size))⟩
      · have d1 : decide ((i : Int) < (s.size : Int)) = false := decide_eq_false (by omega)
        have FIN : Hid (ahd s t = i) := Lib.hid (cnt_eq ⟨by omega, P.out, .inl (by omega)⟩).symm
        go_wp2_with fail
        go_quiet (fail)
        go_wp2_with fail
        go_meet
        exact ⟨i, rfl, hi, hi2, FIN, Lib.hid (B.out.trans ((dr_below _ _).mono B.out.size))⟩
  case rest =>
    obtain ⟨i, rfl, hi, hi2, FI, B⟩ := hcut
    go_upto_block 2 with fail
    go_cut [7] from 38 to 70 (fun v wx => ∃ j : Nat, v = .int .i64 j ∧ i + j ≤ s.size ∧ i + j ≤ t.size ∧ Hid (bhd s t = j) ∧ Hid (Below w.heap.size w wx))
    case first =>
      go_wp2_with fail
      go_loopw [7] (fun v wr => ∃ j : Nat, v = .int .i64 j ∧ i + j ≤ s.size ∧ i + j ≤ t.size ∧ Hid (∀ k, k < j → bwd s t k = true) ∧ Hid (Below w.heap.size w wr)) (fun v _ => s.size - (intOf v).toNat)
      case atStart => exact ⟨0, rfl, by omega, by omega, Lib.hid (fun k h => by omega), B⟩
      case round =>
        clear B
        obtain ⟨j, rfl, hj, hj2, S, B⟩ := hrel
        obtain ⟨A, hA⟩ : ∃ A : Nat, A + i = s.size := ⟨s.size - i, by omega⟩
        obtain ⟨A2, hA2⟩ : ∃ A : Nat, A + i = t.size := ⟨t.size - i, by omega⟩
        have w1 : IntKind.i64.wrap ((s.size : Int) - (i : Int)) = (A : Int) := by rw [IntWalk.i64_in _ (by omega)]; omega
        have w2 : IntKind.i64.wrap ((t.size : Int) - (i : Int)) = (A2 : Int) := by rw [IntWalk.i64_in _ (by omega)]; omega
        have STOP : Hid ((j < A → j < A2 → bwd s t j = false) → bhd s t = j) := Lib.hid (fun h => by
          refine (cnt_eq (f := bwd s t) (m := min s.size t.size - ahd s t) ⟨by rw [FI.out]; omega, S.out, ?_⟩).symm
          rw [FI.out]
          by_cases g1 : j < A ∧ j < A2
          · exact .inr (h g1.1 g1.2)
          · exact .inl (by omega))
        have HA := Lib.hid hA; have HA2 := Lib.hid hA2
        by_cases h1 : j < A
        · by_cases h2 : j < A2
          · have hjs : j < s.size := by omega
            have hjt : j < t.size := by omega
            obtain ⟨S1, hS1⟩ : ∃ S1 : Nat, S1 + 1 = s.size := ⟨s.size - 1, by omega⟩
            obtain ⟨T1, hT1⟩ : ∃ T1 : Nat, T1 + 1 = t.size := ⟨t.size - 1, by omega⟩
            obtain ⟨P1, hP1⟩ : ∃ P1 : Nat, P1 + j = S1 := ⟨S1 - j, by omega⟩
            obtain ⟨Q1, hQ1⟩ : ∃ Q1 : Nat, Q1 + j = T1 := ⟨T1 - j, by omega⟩
            have w3 : IntKind.i64.wrap ((s.size : Int) - 1) = (S1 : Int) := by rw [IntWalk.i64_in _ (by omega)]; omega
            have w4 : IntKind.i64.wrap ((S1 : Int) - (j : Int)) = (P1 : Int) := by rw [IntWalk.i64_in _ (by omega)]; omega
            have w5 : IntKind.i64.wrap ((t.size : Int) - 1) = (T1 : Int) := by rw [IntWalk.i64_in _ (by omega)]; omega
            have w6 : IntKind.i64.wrap ((T1 : Int) - (j : Int)) = (Q1 : Int) := by rw [IntWalk.i64_in _ (by omega)]; omega
            have b1 : P1 < s.size := by omega
            have b2 : Q1 < t.size := by omega
            have b3 : (0 : Int) ≤ (P1 : Int) := by omega
            have b4 : (P1 : Int) < (s.size : Int) := by omega
            have b5 : (0 : Int) ≤ (Q1 : Int) := by omega
            have b6 : (Q1 : Int) < (t.size : Int) := by omega
            have BW := Lib.hid (bwd_is (show s.size - 1 - j = P1 by omega) (show t.size - 1 - j = Q1 by omega) b1 b2)
            have hn1 : i + (j + 1) ≤ s.size := by omega
            have hn2 : i + (j + 1) ≤ t.size := by omega
            have hn3 : s.size - (j + 1) < s.size - j := by omega
            clear hA hA2 hS1 hT1 hP1 hQ1
            have d1 : decide ((j : Int) < (A : Int)) = true := decide_eq_true (by omega)
            have d2 : decide ((j : Int) < (A2 : Int)) = true := decide_eq_true (by omega)
            cases he : bwd s t j with
            | true =>
              have hq : ((s[P1].toNat : Int) == (t[Q1].toNat : Int)) = true := BW.out.trans he
              have S' := Lib.hid (Cnt.go S.out he)
              clear he
              go_wp2_with fail
              go_quiet (fail)
              go_wp2_with fail
              go_roundw
              case rel => exact ⟨j + 1, by go_num, hn1, hn2, S', Lib.hid (B.out.trans ((dr_below _ _).mono B.out.size))⟩
              case measure => simp [intOf]; omega
            | false =>
              have hq : ((s[P1].toNat : Int) == (t[Q1].toNat : Int)) = false := BW.out.trans he
              have FIN := Lib.hid (STOP.out (fun _ _ => he))
              clear he
              go_wp2_with fail
              go_quiet (fail)
              go_wp2_with fail
              go_meet
              exact ⟨j, rfl, hj, hj2, FIN, Lib.hid (B.out.trans ((dr_below _ _).mono B.out.size))⟩
          · have d1 : decide ((j : Int) < (A : Int)) = true := decide_eq_true (by omega)
            have d2 : decide ((j : Int) < (A2 : Int)) = false := decide_eq_false (by omega)
            have FIN := Lib.hid (STOP.out (fun _ h => absurd h h2))
            clear hA hA2
            go_wp2_with fail
            go_quiet (fail)
            go_wp2_with fail
            go_meet
            exact ⟨j, rfl, hj, hj2, FIN, Lib.hid (B.out.trans ((dr_below _ _).mono B.out.size))⟩
        · have d1 : decide ((j : Int) < (A : Int)) = false := decide_eq_false (by omega)
          have FIN := Lib.hid (STOP.out (fun h => absurd h h1))
          clear hA hA2
          go_wp2_with fail
          go_quiet (fail)
          go_wp2_with fail
          go_meet
          exact ⟨j, rfl, hj, hj2, FIN, Lib.hid (B.out.trans ((dr_below _ _).mono B.out.size))⟩
    case rest =>
      clear B
      obtain ⟨j, rfl, hj, hj2, FJ, B⟩ := hcut
      obtain ⟨D, hD⟩ : ∃ D : Nat, i + D + j = s.size := ⟨s.size - i - j, by omega⟩
      have hbt : btw s t = normOf (edL i (t.extract i (t.size - j)) D j) := by
        unfold btw btL
        rw [FI.out, FJ.out, show s.size - i - j = D by omega]
      have HBT := Lib.hid hbt
      have hp := bt_put hj2
      have RAW : Hid (∀ c ∈ edL i (t.extract i (t.size - j)) D j, c.Raw) := Lib.hid (ed_raw (by omega) (by omega))
      have ED : Hid ((D : Int) = (s.size : Int) - i - j) := Lib.hid (by omega)
      clear hbt hp hD
      go_wp2_with fail
      refine (radd_step w.heap.size ((edL i (t.extract i (t.size - j)) D j).take 0) ⟨0, i, ⟨#[]⟩⟩ (fun x hx => RAW.out x (ed_mem 0 (by omega) hx)) (by simp [edL]) _ _ (Own.nil _ _) B.out.size).mono ?_
      intro e w1 h1
      have B1 := Lib.hid (h1.below (cs := normOf ((edL i (t.extract i (t.size - j)) D j).take 0)) (Own.nil _ _) B.out (Nat.le_refl _) B.out.size)
      obtain ⟨v1, rfl, ho1, -, -⟩ := h1
      have O1 : Hid (Own w1 w.heap.size v1 (normOf ((edL i (t.extract i (t.size - j)) D j).take 1))) := Lib.hid ho1
      clear ho1
      go_wp2_with fail
      refine (radd_step w.heap.size ((edL i (t.extract i (t.size - j)) D j).take 1) ⟨1, 0, t.extract i (t.size - j)⟩ (fun x hx => RAW.out x (ed_mem 1 (by omega) hx)) (by simp [edL]) _ _ O1.out B1.out.size).mono ?_
      intro e w2 h2
      have B2 := Lib.hid (h2.below (cs := normOf ((edL i (t.extract i (t.size - j)) D j).take 1)) O1.out B1.out (Nat.le_refl _) B1.out.size)
      obtain ⟨v2, rfl, ho2, -, -⟩ := h2
      have O2 : Hid (Own w2 w.heap.size v2 (normOf ((edL i (t.extract i (t.size - j)) D j).take 2))) := Lib.hid ho2
      clear ho2
      go_wp2_with fail
      rw [← ED.out]
      refine (radd_step w.heap.size ((edL i (t.extract i (t.size - j)) D j).take 2) ⟨2, D, ⟨#[]⟩⟩ (fun x hx => RAW.out x (ed_mem 2 (by omega) hx)) (by simp [edL]) _ _ O2.out B2.out.size).mono ?_
      intro e w3 h3
      have B3 := Lib.hid (h3.below (cs := normOf ((edL i (t.extract i (t.size - j)) D j).take 2)) O2.out B2.out (Nat.le_refl _) B2.out.size)
      obtain ⟨v3, rfl, ho3, -, -⟩ := h3
      have O3 : Hid (Own w3 w.heap.size v3 (normOf ((edL i (t.extract i (t.size - j)) D j).take 3))) := Lib.hid ho3
      clear ho3
      go_wp2_with fail
      refine (radd_step w.heap.size ((edL i (t.extract i (t.size - j)) D j).take 3) ⟨0, j, ⟨#[]⟩⟩ (fun x hx => RAW.out x (ed_mem 3 (by omega) hx)) (by simp [edL]) _ _ O3.out B3.out.size).mono ?_
      intro e w4 h4
      have B4 := Lib.hid (h4.below (cs := normOf ((edL i (t.extract i (t.size - j)) D j).take 3)) O3.out B3.out (Nat.le_refl _) B3.out.size)
      obtain ⟨v4, rfl, ho4, -, -⟩ := h4
      have O4 : Hid (Own w4 w.heap.size v4 (normOf ((edL i (t.extract i (t.size - j)) D j).take 4))) := Lib.hid ho4
      clear ho4
      go_wp2_with fail
      go_ret2
      obtain ⟨p4, c4, hv4⟩ := O4.out.form
      subst hv4
      unfold EdYes
      rw [HBT.out]
      exact ⟨p4, c4, rfl, O4.out, B4.out⟩

set_option maxHeartbeats 1000000 in
theorem rmake_form (s put : ByteArray) (at_ cut : Int) (w : World) (h : FormBad s at_ cut) : Calls Try.prog 9 #[.string s, .int .i64 at_, .int .i64 cut, .string put] w (EdNo 800 w) := by
  unfold FormBad at h
  by_cases h1 : 4096 < s.size
  · clear h
    go_enter Try.func9, Try.ntmps9
    go_wp2_with fail
    go_ret2
    exact ⟨rfl, Below.refl _ _⟩
  · by_cases h2 : at_ < 0
    · clear h
      go_enter Try.func9, Try.ntmps9
      go_wp2_with fail
      go_ret2
      exact ⟨rfl, Below.refl _ _⟩
    · by_cases h3 : (s.size : Int) < at_
      · clear h
        go_enter Try.func9, Try.ntmps9
        go_wp2_with fail
        go_ret2
        exact ⟨rfl, Below.refl _ _⟩
      · by_cases h4 : cut < 0
        · clear h
          go_enter Try.func9, Try.ntmps9
          go_wp2_with fail
          go_ret2
          exact ⟨rfl, Below.refl _ _⟩
        · have h5 : (s.size : Int) - at_ < cut := by omega
          clear h
          go_enter Try.func9, Try.ntmps9
          go_wp2_with fail
          go_ret2
          exact ⟨rfl, Below.refl _ _⟩

set_option maxHeartbeats 1000000 in
theorem rmake_long (s put : ByteArray) (a c b : Nat) (w : World) (hs : a + c + b = s.size) (hm : s.size ≤ 4096) (h : LongBad s put c) : Calls Try.prog 9 #[.string s, .int .i64 a, .int .i64 c, .string put] w (EdNo 801 w) := by
  unfold LongBad at h
  have h6 : (a : Int) ≤ (s.size : Int) := by omega
  have h7 : (c : Int) ≤ (s.size : Int) - (a : Int) := by omega
  have h8 : (c : Int) ≤ (s.size : Int) := by omega
  clear hs
  by_cases h1 : 300 < put.size
  · clear h
    go_enter Try.func9, Try.ntmps9
    go_wp2_with fail
    go_ret2
    exact ⟨rfl, Below.refl _ _⟩
  · have h2 : 300 < (s.size : Int) - c + put.size := by omega
    clear h
    go_enter Try.func9, Try.ntmps9
    go_wp2_with fail
    go_ret2
    exact ⟨rfl, Below.refl _ _⟩

set_option maxHeartbeats 2000000 in
theorem rmake_yes (s put : ByteArray) (a c b : Nat) (w : World) (hs : a + c + b = s.size) (hm : s.size ≤ 4096) (hp : put.size ≤ 300) (hl : s.size + put.size ≤ 300 + c) : Calls Try.prog 9 #[.string s, .int .i64 a, .int .i64 c, .string put] w (EdYes (normOf (edL a put c b)) w) := by
  have h6 : (a : Int) ≤ (s.size : Int) := by omega
  have h7 : (c : Int) ≤ (s.size : Int) - (a : Int) := by omega
  have h8 : (c : Int) ≤ (s.size : Int) := by omega
  have h9 : (s.size : Int) - (c : Int) + (put.size : Int) ≤ 300 := by omega
  have RAW : Hid (∀ x ∈ edL a put c b, x.Raw) := Lib.hid (ed_raw (by omega) (by omega))
  have EB : Hid ((b : Int) = (s.size : Int) - a - c) := Lib.hid (by omega)
  have B0 := Lib.hid (Below.refl w.heap.size w)
  clear hs hl
  go_enter Try.func9, Try.ntmps9
  go_wp2_with fail
  refine (radd_step w.heap.size ((edL a put c b).take 0) ⟨0, a, ⟨#[]⟩⟩ (fun x hx => RAW.out x (ed_mem 0 (by omega) hx)) (by simp [edL]) _ _ (Own.nil _ _) B0.out.size).mono ?_
  intro e w1 h1
  have B1 := Lib.hid (h1.below (cs := normOf ((edL a put c b).take 0)) (Own.nil _ _) B0.out (Nat.le_refl _) B0.out.size)
  obtain ⟨v1, rfl, ho1, -, -⟩ := h1
  have O1 : Hid (Own w1 w.heap.size v1 (normOf ((edL a put c b).take 1))) := Lib.hid ho1
  clear ho1
  go_wp2_with fail
  refine (radd_step w.heap.size ((edL a put c b).take 1) ⟨1, 0, put⟩ (fun x hx => RAW.out x (ed_mem 1 (by omega) hx)) (by simp [edL]) _ _ O1.out B1.out.size).mono ?_
  intro e w2 h2
  have B2 := Lib.hid (h2.below (cs := normOf ((edL a put c b).take 1)) O1.out B1.out (Nat.le_refl _) B1.out.size)
  obtain ⟨v2, rfl, ho2, -, -⟩ := h2
  have O2 : Hid (Own w2 w.heap.size v2 (normOf ((edL a put c b).take 2))) := Lib.hid ho2
  clear ho2
  go_wp2_with fail
  refine (radd_step w.heap.size ((edL a put c b).take 2) ⟨2, c, ⟨#[]⟩⟩ (fun x hx => RAW.out x (ed_mem 2 (by omega) hx)) (by simp [edL]) _ _ O2.out B2.out.size).mono ?_
  intro e w3 h3
  have B3 := Lib.hid (h3.below (cs := normOf ((edL a put c b).take 2)) O2.out B2.out (Nat.le_refl _) B2.out.size)
  obtain ⟨v3, rfl, ho3, -, -⟩ := h3
  have O3 : Hid (Own w3 w.heap.size v3 (normOf ((edL a put c b).take 3))) := Lib.hid ho3
  clear ho3
  go_wp2_with fail
  rw [← EB.out]
  refine (radd_step w.heap.size ((edL a put c b).take 3) ⟨0, b, ⟨#[]⟩⟩ (fun x hx => RAW.out x (ed_mem 3 (by omega) hx)) (by simp [edL]) _ _ O3.out B3.out.size).mono ?_
  intro e w4 h4
  have B4 := Lib.hid (h4.below (cs := normOf ((edL a put c b).take 3)) O3.out B3.out (Nat.le_refl _) B3.out.size)
  obtain ⟨v4, rfl, ho4, -, -⟩ := h4
  have O4 : Hid (Own w4 w.heap.size v4 (normOf ((edL a put c b).take 4))) := Lib.hid ho4
  clear ho4
  go_wp2_with fail
  go_ret2
  obtain ⟨p4, c4, hv4⟩ := O4.out.form
  subst hv4
  exact ⟨p4, c4, rfl, O4.out, B4.out⟩

end Go.Proofs.Ytmlibmleamiljaa
