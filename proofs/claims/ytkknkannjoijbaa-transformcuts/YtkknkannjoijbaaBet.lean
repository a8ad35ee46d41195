/-
  The walk of the reference's Between. Conditions: as the theorems' premises say.
-/
import Derived.Test.YtkknkannjoijbaaRCom
import Derived.Deep.CutBlock
namespace Go.Proofs.Ytkknkannjoijbaa
open Go.RowKit

/-- Alike as far as i; alike in the last j. -/
def PreL (s t : ByteArray) (i : Nat) : Prop := s.data.toList.take i = t.data.toList.take i
def SufL (s t : ByteArray) (j : Nat) : Prop := s.data.toList.drop (s.size - j) = t.data.toList.drop (t.size - j)
theorem byte_at (s : ByteArray) (i : Nat) (h : i < s.size) : s.data.toList[i]? = some s[i] := by
  obtain ⟨⟨l⟩⟩ := s
  exact List.getElem?_eq_getElem h
theorem drop_last (s : ByteArray) (j : Nat) (h : j < s.size) : s.data.toList.drop (s.size - (j + 1)) = s[s.size - 1 - j] :: s.data.toList.drop (s.size - j) := by
  have l1 := ba_len s
  have e1 := byte_at s (s.size - 1 - j) (by omega)
  rw [List.getElem?_eq_getElem (by omega)] at e1
  rw [show s.size - (j + 1) = s.size - 1 - j by omega, List.drop_eq_getElem_cons (by omega), Option.some.inj e1, show s.size - 1 - j + 1 = s.size - j by omega]
theorem PreL.step {s t : ByteArray} {i : Nat} (h : PreL s t i) (h1 : i < s.size) (h2 : i < t.size) (he : s[i] = t[i]) : PreL s t (i + 1) := by
  unfold PreL at *
  rw [List.take_add_one, List.take_add_one, h, byte_at s i h1, byte_at t i h2, he]
theorem SufL.step {s t : ByteArray} {j : Nat} (h : SufL s t j) (h1 : j < s.size) (h2 : j < t.size) (he : s[s.size - 1 - j] = t[t.size - 1 - j]) : SufL s t (j + 1) := by
  unfold SufL at *
  rw [drop_last s j h1, drop_last t j h2, he, h]

/-- The pieces that Between adds. -/
def betL (s t : ByteArray) (i j : Nat) : List C := [⟨0, i, e0⟩, ⟨1, 0, t.extract i (t.size - j)⟩, ⟨2, (s.size : Int) - i - j, e0⟩, ⟨0, j, e0⟩]
theorem bet_raw {s t : ByteArray} {i j : Nat} (hs : s.size ≤ 4096) (ht : t.size ≤ 4096) (hj : i + j ≤ s.size) : ∀ c ∈ betL s t i j, c.Raw := by
  intro c hc
  simp only [betL, List.mem_cons, List.not_mem_nil, or_false] at hc
  have h1 := ByteArray.size_extract (a := t) (b := i) (e := t.size - j)
  rcases hc with rfl | rfl | rfl | rfl
  · exact .inl ⟨.inl rfl, by dsimp only; omega, by dsimp only; omega, rfl⟩
  · exact .inr ⟨rfl, rfl, by dsimp only; omega⟩
  · exact .inl ⟨.inr rfl, by dsimp only; omega, by dsimp only; omega, rfl⟩
  · exact .inl ⟨.inl rfl, by dsimp only; omega, by dsimp only; omega, rfl⟩
theorem bet_sums {s t : ByteArray} {i j : Nat} (hj2 : i + j ≤ t.size) : sumOf fromC (betL s t i j) = s.size ∧ sumOf toC (betL s t i j) = t.size := by
  have h1 := ByteArray.size_extract (a := t) (b := i) (e := t.size - j)
  simp only [betL, sumOf, fromC, toC, C.sz, e0_size]
  simp only [if_true, show ¬ ((0 : Int) = 1) by omega, show ¬ ((2 : Int) = 1) by omega, show ¬ ((0 : Int) = 2) by omega, show ¬ ((1 : Int) = 2) by omega, if_false, h1]
  omega
theorem bet_app {s t : ByteArray} {i j : Nat} (hj : i + j ≤ s.size) (hj2 : i + j ≤ t.size) (P : PreL s t i) (S : SufL s t j) : appB s 0 (betL s t i j) = t := by
  have l1 := ba_len s
  have l2 := ba_len t
  unfold PreL at P
  unfold SufL at S
  refine ba_ext ?_
  simp only [betL, appB, partB, fromC, ba_append_list]
  simp only [if_true, show ¬ ((0 : Int) = 1) by omega, show ¬ ((2 : Int) = 1) by omega, show ¬ ((2 : Int) = 0) by omega, show ¬ ((1 : Int) = 0) by omega, show ¬ ((1 : Int) = 2) by omega, if_false, ba_extract]
  rw [show (0 : Int).toNat = 0 from rfl, List.drop_zero, show (0 + (i : Int)).toNat - 0 = i by omega, P]
  rw [show e0.data.toList = [] from rfl, List.nil_append, List.append_nil]
  rw [show (0 + (i : Int) + 0 + ((s.size : Int) - i - j)).toNat = s.size - j by omega, S]
  rw [show (0 + (i : Int) + 0 + ((s.size : Int) - i - j) + (j : Int)).toNat - (s.size - j) = j by omega, List.take_of_length_le (l := List.drop _ _) (i := j) (by rw [List.length_drop]; omega)]
  have e1 : t.data.toList.drop (t.size - j) = (t.data.toList.drop i).drop (t.size - j - i) := by rw [List.drop_drop]; congr 1; omega
  rw [e1, List.take_append_drop, List.take_append_drop]

theorem bet_mem {s t : ByteArray} {i j : Nat} (n : Nat) (hn : n < 4) {x : C} (hx : x ∈ (betL s t i j).take n ++ [(betL s t i j)[n]'(by simp [betL]; omega)]) : x ∈ betL s t i j := by
  rcases List.mem_append.1 hx with h | h
  · exact List.mem_of_mem_take h
  · simp only [List.mem_singleton] at h
    rw [h]; exact List.getElem_mem _
theorem radd_step (base : Nat) (cs : List C) (c : C) (hr : ∀ x ∈ cs ++ [c], x.Raw) (hl : cs.length ≤ 4096) (v : Value) (w : World) (ho : Own w base v (normOf cs)) (hb : base ≤ w.heap.size) : Calls Try.prog 33 #[v, c.val] w (AddPost base v (normOf (cs ++ [c])) w) := by
  have hc := hr c (by simp)
  have hcs : ∀ x ∈ cs, x.Raw := fun x hx => hr x (by simp [hx])
  have hn := normOf_length cs
  rw [normOf_snoc]
  exact radd_any base c (fit_raw hc) (Raw.soft hc) (normOf cs) (by omega) (fit_norm hcs hl) v w ho hb

/-- An edit that leads from s to t. -/
def Leads (s t : ByteArray) (c : List C) : Prop := MayP c ∧ c.length ≤ 4 ∧ sumOf fromC c = s.size ∧ sumOf toC c = t.size ∧ appB s 0 c = t
theorem bet_leads {s t : ByteArray} {i j : Nat} (hs : s.size ≤ 4096) (ht : t.size ≤ 4096) (hj : i + j ≤ s.size) (hj2 : i + j ≤ t.size) (P : PreL s t i) (S : SufL s t j) : Leads s t (normOf (betL s t i j)) := by
  have hr := bet_raw (t := t) hs ht hj
  have hf := soft_all hr
  obtain ⟨e1, e2⟩ := bet_sums (s := s) hj2
  have ok : okB (betL s t i j) = true := okB_iff.2 ⟨by simp [betL], hr, by omega, by omega⟩
  refine ⟨⟨okB_normOf ok, norm_normOf hf⟩, normOf_length _, ?_, ?_, ?_⟩
  · rw [sum_normOf from_join from_zero _ hf]; exact e1
  · rw [sum_normOf to_join to_zero _ hf]; exact e2
  · rw [appB_normOf (Int.le_refl 0) _ hf]; exact bet_app hj hj2 P S

def BetYes (s t : ByteArray) (w : World) (e : Ending) (w' : World) : Prop :=
  ∃ (p : Option Addr) (cap : Nat) (c : List C), e = .returned (.tuple #[.slice p c.length cap, .int .i64 0]) ∧ Own w' w.heap.size (.slice p c.length cap) c ∧ Leads s t c ∧ Below w.heap.size w w'

set_option maxHeartbeats 1000000 in
theorem between_no (s t : ByteArray) (w : World) (h : 4096 < s.size ∨ 4096 < t.size) :
    Calls Try.prog 23 #[.string s, .string t] w fun e w' => e = .returned (.tuple #[.slice none 0 0, .int .i64 800]) ∧ Below w.heap.size w w' := by
  by_cases h1 : 4096 < s.size
  · clear h
    go_enter Try.func23, Try.ntmps23
    go_wp2_with fail
    go_ret2
    exact ⟨rfl, Below.refl _ _⟩
  · have h2 : 4096 < t.size := by omega
    clear h
    go_enter Try.func23, Try.ntmps23
    go_wp2_with fail
    go_ret2
    exact ⟨rfl, Below.refl _ _⟩

set_option maxRecDepth 100000 in
set_option maxHeartbeats 4000000 in
theorem between_ok (s t : ByteArray) (w : World) (hs : s.size ≤ 4096) (ht : t.size ≤ 4096) :
    Calls Try.prog 23 #[.string s, .string t] w (BetYes s t w) := by
  go_enter Try.func23, Try.ntmps23
  go_upto_block 0 with fail
  go_cut [6] from 17 to 37 (fun v wx => ∃ i : Nat, v = .int .i64 i ∧ i ≤ s.size ∧ i ≤ t.size ∧ Hid (PreL s t i) ∧ Hid (Below w.heap.size w wx))
  case first =>
    go_wp2_with fail
    go_loopw [6] (fun v wr => ∃ i : Nat, v = .int .i64 i ∧ i ≤ s.size ∧ i ≤ t.size ∧ Hid (PreL s t i) ∧ Hid (Below w.heap.size w wr)) (fun v _ => s.size - (intOf v).toNat)
    case atStart => exact ⟨0, rfl, by omega, by omega, Lib.hid rfl, Lib.hid (Below.refl _ _)⟩
    case round =>
      obtain ⟨i, rfl, hi, hi2, P, B⟩ := hrel
      by_cases h1 : i < s.size
      · by_cases h2 : i < t.size
        · have d1 : decide ((i : Int) < (s.size : Int)) = true := decide_eq_true (by omega)
          have d2 : decide ((i : Int) < (t.size : Int)) = true := decide_eq_true (by omega)
          by_cases he : s[i] = t[i]
          · have hq : ((s[i].toNat : Int) == (t[i].toNat : Int)) = true := by rw [he]; simp
            have P' := Lib.hid (P.out.step h1 h2 he)
            clear he
            go_wp2_with fail
            go_quiet (fail)
            go_wp2_with fail
            go_roundw
            case rel => exact ⟨i + 1, by go_num, by omega, by omega, P', Lib.hid (B.out.trans ((dr_below _ _).mono B.out.size))⟩
            case measure => simp [intOf]; omega
          · have hq : ((s[i].toNat : Int) == (t[i].toNat : Int)) = false := beq_eq_false_iff_ne.2 (fun h => he (UInt8.toNat_inj.1 (Int.ofNat.inj h)))
            clear he
            go_wp2_with fail
            go_quiet (fail)
            go_wp2_with fail
            go_meet
            exact ⟨i, rfl, hi, hi2, P, Lib.hid (B.out.trans ((dr_below _ _).mono B.out.size))⟩
        · have d1 : decide ((i : Int) < (s.size : Int)) = true := decide_eq_true (by omega)
          have d2 : decide ((i : Int) < (t.size : Int)) = false := decide_eq_false (by omega)
          go_wp2_with fail
          go_quiet (fail)
          go_wp2_with fail
          go_meet
          exact ⟨i, rfl, hi, hi2, P, Lib.hid (B.out.trans ((dr_below _ _).mono B.out.size))⟩
      · have d1 : decide ((i : Int) < (s.size : Int)) = false := decide_eq_false (by omega)
        go_wp2_with fail
        go_quiet (fail)
        go_wp2_with fail
        go_meet
        exact ⟨i, rfl, hi, hi2, P, Lib.hid (B.out.trans ((dr_below _ _).mono B.out.size))⟩
  case rest =>
    obtain ⟨i, rfl, hi, hi2, P, B⟩ := hcut
    go_upto_block 2 with fail
    go_cut [7] from 38 to 70 (fun v wx => ∃ j : Nat, v = .int .i64 j ∧ i + j ≤ s.size ∧ i + j ≤ t.size ∧ Hid (SufL s t j) ∧ Hid (Below w.heap.size w wx))
    case first =>
      go_wp2_with fail
      go_loopw [7] (fun v wr => ∃ j : Nat, v = .int .i64 j ∧ i + j ≤ s.size ∧ i + j ≤ t.size ∧ Hid (SufL s t j) ∧ Hid (Below w.heap.size w wr)) (fun v _ => s.size - (intOf v).toNat)
      case atStart => exact ⟨0, rfl, by omega, by omega, Lib.hid (by unfold SufL; rw [Nat.sub_zero, Nat.sub_zero, List.drop_eq_nil_of_le (Nat.le_of_eq (ba_len s)), List.drop_eq_nil_of_le (Nat.le_of_eq (ba_len t))]), B⟩
      case round =>
        clear B
        obtain ⟨j, rfl, hj, hj2, S, B⟩ := hrel
        obtain ⟨A, hA⟩ : ∃ A : Nat, A + i = s.size := ⟨s.size - i, by omega⟩
        obtain ⟨A2, hA2⟩ : ∃ A : Nat, A + i = t.size := ⟨t.size - i, by omega⟩
        have w1 : IntKind.i64.wrap ((s.size : Int) - (i : Int)) = (A : Int) := by rw [IntWalk.i64_in _ (by omega)]; omega
        have w2 : IntKind.i64.wrap ((t.size : Int) - (i : Int)) = (A2 : Int) := by rw [IntWalk.i64_in _ (by omega)]; omega
        have HA := Lib.hid hA; have HA2 := Lib.hid hA2
        by_cases h1 : j < A
        · by_cases h2 : j < A2
          · have hjs : j < s.size := by omega
            have hjt : j < t.size := by omega
            obtain ⟨S1, hS1⟩ : ∃ S1 : Nat, S1 + 1 = s.size := ⟨s.size - 1, by omega⟩
            obtain ⟨T1, hT1⟩ : ∃ T1 : Nat, T1 + 1 = t.size := ⟨t.size - 1, by omega⟩
            obtain ⟨P1, hP1⟩ : ∃ P1 : Nat, P1 + j = S1 := ⟨S1 - j, by omega⟩
            obtain ⟨Q1, hQ1⟩ : ∃ Q1 : Nat, Q1 + j = T1 := ⟨T1 - j, by omega⟩
            have w3 : IntKind.i64.wrap ((s.size : Int) - 1) = (S1 : Int) := by rw [IntWalk.i64_in _ (by omega)]; omega
            have w4 : IntKind.i64.wrap ((S1 : Int) - (j : Int)) = (P1 : Int) := by rw [IntWalk.i64_in _ (by omega)]; omega
            have w5 : IntKind.i64.wrap ((t.size : Int) - 1) = (T1 : Int) := by rw [IntWalk.i64_in _ (by omega)]; omega
            have w6 : IntKind.i64.wrap ((T1 : Int) - (j : Int)) = (Q1 : Int) := by rw [IntWalk.i64_in _ (by omega)]; omega
            have b1 : P1 < s.size := by omega
            have b2 : Q1 < t.size := by omega
            have b3 : (0 : Int) ≤ (P1 : Int) := by omega
            have b4 : (P1 : Int) < (s.size : Int) := by omega
            have b5 : (0 : Int) ≤ (Q1 : Int) := by omega
            have b6 : (Q1 : Int) < (t.size : Int) := by omega
            have e1 : s.size - 1 - j = P1 := by omega
            have e2 : t.size - 1 - j = Q1 := by omega
            have ST : Hid (s[P1] = t[Q1] → SufL s t (j + 1)) := Lib.hid (fun he => by subst e1; subst e2; exact S.out.step hjs hjt he)
            have hn1 : i + (j + 1) ≤ s.size := by omega
            have hn2 : i + (j + 1) ≤ t.size := by omega
            have hn3 : s.size - (j + 1) < s.size - j := by omega
            clear hA hA2 hS1 hT1 hP1 hQ1 e1 e2
            have d1 : decide ((j : Int) < (A : Int)) = true := decide_eq_true (by omega)
            have d2 : decide ((j : Int) < (A2 : Int)) = true := decide_eq_true (by omega)
            by_cases he : s[P1] = t[Q1]
            · have hq : ((s[P1].toNat : Int) == (t[Q1].toNat : Int)) = true := by rw [he]; simp
              have S' := Lib.hid (ST.out he)
              clear he ST
              go_wp2_with fail
              go_quiet (fail)
              go_wp2_with fail
              go_roundw
              case rel => exact ⟨j + 1, by go_num, hn1, hn2, S', Lib.hid (B.out.trans ((dr_below _ _).mono B.out.size))⟩
              case measure => simp [intOf]; omega
            · have hq : ((s[P1].toNat : Int) == (t[Q1].toNat : Int)) = false := beq_eq_false_iff_ne.2 (fun h => he (UInt8.toNat_inj.1 (Int.ofNat.inj h)))
              clear he ST
              go_wp2_with fail
              go_quiet (fail)
              go_wp2_with fail
              go_meet
              exact ⟨j, rfl, hj, hj2, S, Lib.hid (B.out.trans ((dr_below _ _).mono B.out.size))⟩
          · have d1 : decide ((j : Int) < (A : Int)) = true := decide_eq_true (by omega)
            have d2 : decide ((j : Int) < (A2 : Int)) = false := decide_eq_false (by omega)
            clear hA hA2
            go_wp2_with fail
            go_quiet (fail)
            go_wp2_with fail
            go_meet
            exact ⟨j, rfl, hj, hj2, S, Lib.hid (B.out.trans ((dr_below _ _).mono B.out.size))⟩
        · have d1 : decide ((j : Int) < (A : Int)) = false := decide_eq_false (by omega)
          clear hA hA2
          go_wp2_with fail
          go_quiet (fail)
          go_wp2_with fail
          go_meet
          exact ⟨j, rfl, hj, hj2, S, Lib.hid (B.out.trans ((dr_below _ _).mono B.out.size))⟩
    case rest =>
      clear B
      obtain ⟨j, rfl, hj, hj2, S, B⟩ := hcut
      have RAW : Hid (∀ c ∈ betL s t i j, c.Raw) := Lib.hid (bet_raw hs ht hj)
      have LD := Lib.hid (bet_leads hs ht hj hj2 P.out S.out)
      go_wp2_with fail
      refine (radd_step w.heap.size ((betL s t i j).take 0) ⟨0, i, ⟨#[]⟩⟩ (fun x hx => RAW.out x (bet_mem 0 (by omega) hx)) (by simp [betL]) _ _ (Own.nil _ _) B.out.size).mono ?_
      intro e w1 h1
      have B1 := Lib.hid (h1.below (cs := normOf ((betL s t i j).take 0)) (Own.nil _ _) B.out (Nat.le_refl _) B.out.size)
      obtain ⟨v1, rfl, ho1, -, -⟩ := h1
      have O1 : Hid (Own w1 w.heap.size v1 (normOf ((betL s t i j).take 1))) := Lib.hid ho1
      clear ho1
      go_wp2_with fail
      refine (radd_step w.heap.size ((betL s t i j).take 1) ⟨1, 0, t.extract i (t.size - j)⟩ (fun x hx => RAW.out x (bet_mem 1 (by omega) hx)) (by simp [betL]) _ _ O1.out B1.out.size).mono ?_
      intro e w2 h2
      have B2 := Lib.hid (h2.below (cs := normOf ((betL s t i j).take 1)) O1.out B1.out (Nat.le_refl _) B1.out.size)
      obtain ⟨v2, rfl, ho2, -, -⟩ := h2
      have O2 : Hid (Own w2 w.heap.size v2 (normOf ((betL s t i j).take 2))) := Lib.hid ho2
      clear ho2
      go_wp2_with fail
      refine (radd_step w.heap.size ((betL s t i j).take 2) ⟨2, (s.size : Int) - i - j, ⟨#[]⟩⟩ (fun x hx => RAW.out x (bet_mem 2 (by omega) hx)) (by simp [betL]) _ _ O2.out B2.out.size).mono ?_
      intro e w3 h3
      have B3 := Lib.hid (h3.below (cs := normOf ((betL s t i j).take 2)) O2.out B2.out (Nat.le_refl _) B2.out.size)
      obtain ⟨v3, rfl, ho3, -, -⟩ := h3
      have O3 : Hid (Own w3 w.heap.size v3 (normOf ((betL s t i j).take 3))) := Lib.hid ho3
      clear ho3
      go_wp2_with fail
      refine (radd_step w.heap.size ((betL s t i j).take 3) ⟨0, j, ⟨#[]⟩⟩ (fun x hx => RAW.out x (bet_mem 3 (by omega) hx)) (by simp [betL]) _ _ O3.out B3.out.size).mono ?_
      intro e w4 h4
      have B4 := Lib.hid (h4.below (cs := normOf ((betL s t i j).take 3)) O3.out B3.out (Nat.le_refl _) B3.out.size)
      obtain ⟨v4, rfl, ho4, -, -⟩ := h4
      have O4 : Hid (Own w4 w.heap.size v4 (normOf ((betL s t i j).take 4))) := Lib.hid ho4
      clear ho4
      go_wp2_with fail
      go_ret2
      obtain ⟨p4, c4, hv4⟩ := O4.out.form
      subst hv4
      exact ⟨p4, c4, _, rfl, O4.out, LD.out, B4.out⟩

end Go.Proofs.Ytkknkannjoijbaa
