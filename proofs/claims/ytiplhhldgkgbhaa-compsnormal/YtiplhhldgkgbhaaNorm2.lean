/-
  The walk of CompsNormal where the pieces have a normal form: it answers true. Conditions: the pieces lie in memory.
-/
import Derived.Test.YtiplhhldgkgbhaaNorm1
namespace Go.Proofs.Ytiplhhldgkgbhaa
open Go.RowKit

set_option maxRecDepth 100000 in
set_option maxHeartbeats 4000000 in
theorem cn_yes (p : Option Addr) (cs : List C) (cap : Nat) (w : World) (hr : RowC w p cs) (hyes : okB cs = true) :
    Calls Try.prog 4 #[.slice p cs.length cap] w fun e w' => e = .returned (.bool true) ∧ Below w.heap.size w w' := by
  have R := Lib.hid hr; have YES := Lib.hid hyes
  obtain ⟨hl, hraw, -, -⟩ := okB_iff.1 hyes
  have RAW := Lib.hid hraw
  have OKN := Lib.hid (okB_normOf hyes)
  obtain ⟨hnl, hnraw, -, -⟩ := okB_iff.1 OKN.out
  have NRAW := Lib.hid hnraw
  have IDEM := Lib.hid (normOf_normOf (soft_all hraw))
  have NM := Lib.hid (norm_normOf (soft_all hraw))
  have KS := Lib.hid (sum_normOf keep_join keep_zero cs (soft_all hraw))
  have CS := Lib.hid (sum_normOf cut_join cut_zero cs (soft_all hraw))
  have PS := Lib.hid (puts_normOf cs (soft_all hraw))
  clear hr hyes hraw hnraw
  obtain ⟨N, hN⟩ : ∃ N, normOf cs = N := ⟨_, rfl⟩
  have HN := Lib.hid hN
  rw [hN] at hnl
  have hok2 := OKN.out
  have hnr2 := NRAW.out
  have hid2 := IDEM.out
  have hnm2 := NM.out
  have hks2 := KS.out
  have hcs2 := CS.out
  have hps2 := PS.out
  rw [hN] at hok2 hnr2 hid2 hnm2 hks2 hcs2 hps2
  clear OKN NRAW IDEM NM KS CS PS hN
  have OKN := Lib.hid hok2; have NRAW := Lib.hid hnr2; have IDEM := Lib.hid hid2; have NM := Lib.hid hnm2; have KS := Lib.hid hks2; have CS := Lib.hid hcs2; have PS := Lib.hid hps2
  clear hok2 hnr2 hid2 hnm2 hks2 hcs2 hps2
  go_enter Try.func4, Try.ntmps4
  go_wp2_with (go_at_call 19; refine (awake_true _).mono ?_; rintro e w1 ⟨rfl, hb1⟩; have B1 := Lib.hid hb1; clear hb1)
  refine (normal_any _ cs _ _ (R.out.below B1.out)).mono ?_
  rintro e w2 ⟨hb2, ⟨-, v2, rfl, hown⟩ | ⟨hno, -⟩⟩
  rotate_left
  · rw [YES.out] at hno; cases hno
  rw [HN.out] at hown
  obtain ⟨p2, cap2, hv⟩ := hown.form
  subst hv
  have R2 := Lib.hid hown.row
  have B2 := Lib.hid (B1.out.trans (hb2.mono B1.out.size))
  clear hb2 hown B1
  go_wp2_with (go_at_call 14; refine (num_any _ _).mono ?_; rintro e w' ⟨rfl, rfl⟩)
  refine (normal_any _ N _ _ R2.out).mono ?_
  rintro e w3 ⟨hb3, ⟨-, v3, rfl, hown⟩ | ⟨hno, -⟩⟩
  rotate_left
  · rw [OKN.out] at hno; cases hno
  rw [IDEM.out] at hown
  obtain ⟨p3, cap3, hv⟩ := hown.form
  subst hv
  have R3 := Lib.hid (R2.out.below hb3)
  have S3 := Lib.hid hown.row
  have B3 := Lib.hid (B2.out.trans (hb3.mono B2.out.size))
  clear hb3 hown B2 R2
  go_wp2_with (go_at_call 14; refine (num_any _ _).mono ?_; rintro e w' ⟨rfl, rfl⟩)
  refine (same_any _ _ N N _ _ _ R3.out S3.out (by omega)).mono ?_
  rintro e w4 ⟨hb4, ⟨rfl, -⟩ | ⟨-, hno⟩⟩
  rotate_left
  · exact absurd rfl hno
  have R4 := Lib.hid (R3.out.below hb4)
  have B4 := Lib.hid (B3.out.trans (hb4.mono B3.out.size))
  clear hb4 B3 R3 S3
  go_wp2_with fail
  refine (may_any _ N _ _ R4.out).mono ?_
  rintro e w5 ⟨hb5, ⟨rfl, -⟩ | ⟨-, hno⟩⟩
  rotate_left
  · exact absurd ⟨OKN.out, NM.out⟩ hno
  have R5 := Lib.hid (R4.out.below hb5)
  have B5 := Lib.hid (B4.out.trans (hb5.mono B4.out.size))
  clear hb5 B4 R4
  have RC5 := Lib.hid (R.out.below B5.out)
  go_wp2_with fail
  go_loop [7, 8, 9, 10] (fun k c s i => ∃ (j : Nat) (P : ByteArray), j ≤ cs.length ∧ i = .int .i64 j ∧ k = .int .i64 (sumOf keepC (cs.take j)) ∧ c = .int .i64 (sumOf cutC (cs.take j)) ∧ s = .string P ∧ Hid (P.data.toList = putsOf (cs.take j))) (fun _ _ _ i => cs.length - (intOf i).toNat)
  case atStart => exact ⟨0, ⟨#[]⟩, Nat.zero_le _, rfl, rfl, rfl, rfl, Lib.hid rfl⟩
  case round =>
    obtain ⟨j, P, hj, rfl, rfl, rfl, rfl, HP⟩ := hrel
    have hk1 := sum_bounds keep_bounds _ (raw_take RAW.out j)
    have hc1 := sum_bounds cut_bounds _ (raw_take RAW.out j)
    have hp1 := puts_len _ (raw_take RAW.out j)
    rw [← HP.out, Array.length_toList] at hp1
    rw [List.length_take] at hk1 hc1 hp1
    have k0 := hk1.1
    have k1 : sumOf keepC (cs.take j) ≤ 16777216 := by omega
    have c0 := hc1.1
    have c1 : sumOf cutC (cs.take j) ≤ 16777216 := by omega
    have p1 : P.size ≤ 16777216 := by show P.data.size ≤ _; omega
    clear hk1 hc1 hp1
    by_cases hlt : j < cs.length
    · have hc := List.getElem?_eq_getElem hlt
      generalize cs[j] = c at hc
      have hcr := RAW.out c (List.mem_of_getElem? hc)
      have E1 := Lib.hid (sumOf_take_succ (f := keepC) hc)
      have E2 := Lib.hid (sumOf_take_succ (f := cutC) hc)
      have E3 := Lib.hid (putsOf_take_succ hc)
      obtain ⟨b, o, rfl, hp⟩ := RC5.out j c hc
      obtain ⟨a0, a1, a2⟩ := hp
      clear hc
      obtain ⟨k, n, t⟩ := c
      dsimp only at a0 a1 a2
      rcases hcr with ⟨hk | hk, h1, h2, h3⟩ | ⟨hk, h1, h2⟩ <;> dsimp only at hk h1 h2 <;> subst hk
      · go_wp2
        go_round
        case rel => exact ⟨j + 1, P, by omega, by go_num, by rw [E1.out]; rfl, by rw [E2.out]; simp [cutC], rfl, Lib.hid (by rw [E3.out, HP.out]; simp [putC])⟩
        case measure => simp [intOf]; omega
      · go_wp2
        go_round
        case rel => exact ⟨j + 1, P, by omega, by go_num, by rw [E1.out]; simp [keepC], by rw [E2.out]; rfl, rfl, Lib.hid (by rw [E3.out, HP.out]; simp [putC])⟩
        case measure => simp [intOf]; omega
      · go_wp2
        go_round
        case rel => exact ⟨j + 1, P ++ t, by omega, by go_num, by rw [E1.out]; simp [keepC], by rw [E2.out]; simp [cutC], rfl, Lib.hid (by rw [E3.out, ba_append_list, HP.out]; simp [putC])⟩
        case measure => simp [intOf]; omega
    · have hjj : j = cs.length := by omega
      subst hjj
      have K0 : sumOf keepC (cs.take cs.length) = sumOf keepC (N.drop 0) := by rw [List.take_length, List.drop_zero, KS.out]
      have C0 : sumOf cutC (cs.take cs.length) = sumOf cutC (N.drop 0) := by rw [List.take_length, List.drop_zero, CS.out]
      have P0 : Hid (P.data.toList = putsOf (N.drop 0)) := Lib.hid (by rw [HP.out, List.take_length, List.drop_zero, PS.out])
      rw [K0, C0]
      clear k0 k1 c0 c1 K0 C0 HP hlt hj
      go_wp2_with fail
      go_loopw [7, 8, 9, 11] (fun k c s i wr => ∃ (j : Nat) (P : ByteArray), j ≤ N.length ∧ i = .int .i64 j ∧ k = .int .i64 (sumOf keepC (N.drop j)) ∧ c = .int .i64 (sumOf cutC (N.drop j)) ∧ s = .string P ∧ Hid (P.data.toList = putsOf (N.drop j)) ∧ Hid (Below w5.heap.size w5 wr)) (fun _ _ _ i _ => N.length - (intOf i).toNat)
      case atStart => exact ⟨0, P, Nat.zero_le _, rfl, rfl, rfl, rfl, P0, Lib.hid (Below.refl _ _)⟩
      case round =>
        clear P0 p1
        obtain ⟨j, P, hj, rfl, rfl, rfl, rfl, HP, B⟩ := hrel
        have hk1 := sum_bounds keep_bounds _ (raw_drop NRAW.out j)
        have hc1 := sum_bounds cut_bounds _ (raw_drop NRAW.out j)
        have hp1 := puts_len _ (raw_drop NRAW.out j)
        rw [← HP.out, Array.length_toList] at hp1
        rw [List.length_drop] at hk1 hc1 hp1
        obtain ⟨SK, hSK⟩ : ∃ x, sumOf keepC (N.drop j) = x := ⟨_, rfl⟩
        obtain ⟨SC, hSC⟩ : ∃ x, sumOf cutC (N.drop j) = x := ⟨_, rfl⟩
        have k0 : 0 ≤ SK := by rw [← hSK]; exact hk1.1
        have k1 : SK ≤ 16777216 := by rw [← hSK]; omega
        have c0 : 0 ≤ SC := by rw [← hSC]; exact hc1.1
        have c1 : SC ≤ 16777216 := by rw [← hSC]; omega
        have p1 : P.size ≤ 16777216 := by show P.data.size ≤ _; omega
        rw [hSK, hSC]
        have HSK := Lib.hid hSK; have HSC := Lib.hid hSC
        clear hk1 hc1 hp1 hSK hSC
        by_cases hlt : j < N.length
        · have hc := List.getElem?_eq_getElem hlt
          generalize N[j] = c at hc
          have hcr := NRAW.out c (List.mem_of_getElem? hc)
          have E1 := Lib.hid (sumOf_drop (f := keepC) hc)
          have E2 := Lib.hid (sumOf_drop (f := cutC) hc)
          have E3 := Lib.hid (putsOf_drop hc)
          obtain ⟨hnz, hfo⟩ := NM.out j c hc
          obtain ⟨b, o, rfl, hp⟩ := R5.out j c hc
          obtain ⟨a0, a1, a2⟩ := hp.below B.out
          clear hc hp
          obtain ⟨k, n, t⟩ := c
          dsimp only at a0 a1 a2 hfo
          rcases Nat.eq_zero_or_pos j with hj0 | hj0
          · subst hj0
            clear hfo
            simp only [Nat.zero_mul, Nat.add_zero] at a0 a1 a2
            rcases hcr with ⟨hk | hk, h1, h2, h3⟩ | ⟨hk, h1, h2⟩ <;> dsimp only at hk h1 h2 <;> subst hk
            · dsimp only at h3
              have hn0 : (n == 0) = false := beq_eq_false_iff_ne.2 (by intro h; apply hnz; unfold C.sz; dsimp only; omega)
              clear hnz
              have BO : Hid (Below w5.heap.size w5 (wr.alloc (.cells #[.int .i64 0, .int .i64 n, .string t] 39))) := Lib.hid (B.out.alloc B.out.size _)
              go_wp2
              go_quiet (fail)
              go_wp2
              go_roundw
              case rel => exact ⟨1, P, by omega, rfl, congrArg (Value.int .i64) (by rw [← HSK.out, E1.out]; simp [keepC]; omega), congrArg (Value.int .i64) (by rw [← HSC.out, E2.out]; simp [cutC]), rfl, Lib.hid (by rw [HP.out, E3.out]; simp [putC]), Lib.hid (BO.out.trans ((dr_below _ _).mono BO.out.size))⟩
              case measure => simp [intOf]; omega
            · dsimp only at h3
              have hn0 : (n == 0) = false := beq_eq_false_iff_ne.2 (by intro h; apply hnz; unfold C.sz; dsimp only; omega)
              clear hnz
              have BO : Hid (Below w5.heap.size w5 (wr.alloc (.cells #[.int .i64 2, .int .i64 n, .string t] 39))) := Lib.hid (B.out.alloc B.out.size _)
              go_wp2
              go_quiet (fail)
              go_wp2
              go_roundw
              case rel => exact ⟨1, P, by omega, rfl, congrArg (Value.int .i64) (by rw [← HSK.out, E1.out]; simp [keepC]), congrArg (Value.int .i64) (by rw [← HSC.out, E2.out]; simp [cutC]; omega), rfl, Lib.hid (by rw [HP.out, E3.out]; simp [putC]), Lib.hid (BO.out.trans ((dr_below _ _).mono BO.out.size))⟩
              case measure => simp [intOf]; omega
            · subst h1
              have ht0 : t.toList.isEmpty = false := by rw [isEmpty_size]; exact decide_eq_false (by intro h; apply hnz; unfold C.sz; dsimp only; omega)
              obtain ⟨px, psz⟩ := puts_head (P := P) (t := t) (r := putsOf (N.drop (1))) (by rw [HP.out, E3.out]; rfl)
              clear hnz
              have BO : Hid (Below w5.heap.size w5 (wr.alloc (.cells #[.int .i64 1, .int .i64 0, .string t] 39))) := Lib.hid (B.out.alloc B.out.size _)
              go_wp2
              go_quiet (fail)
              go_wp2
              go_quiet (fail)
              go_wp2
              go_roundw
              case rel => exact ⟨1, P.extract t.size P.size, by omega, rfl, congrArg (Value.int .i64) (by rw [← HSK.out, E1.out]; simp [keepC]), congrArg (Value.int .i64) (by rw [← HSC.out, E2.out]; simp [cutC]), rfl, Lib.hid (puts_rest HP.out (by rw [E3.out]; rfl)), Lib.hid (BO.out.trans ((dr_below _ _).mono BO.out.size))⟩
              case measure => simp [intOf]; omega
          · obtain ⟨q, rfl⟩ : ∃ q, j = q + 1 := ⟨j - 1, by omega⟩
            have hq := List.getElem?_eq_getElem (show q < N.length by omega)
            generalize N[q] = l at hq
            have hfol := hfo l (by omega) hq
            obtain ⟨b', o', hbo, hpl⟩ := R5.out q l hq
            cases hbo
            have l0 := (hpl.below B.out).1
            obtain ⟨lk, ln, lt⟩ := l
            dsimp only at l0 hfol
            obtain ⟨hf1, hf2⟩ := hfol
            clear hq hpl hfo
            rcases hcr with ⟨hk | hk, h1, h2, h3⟩ | ⟨hk, h1, h2⟩ <;> dsimp only at hk h1 h2 <;> subst hk
            · have g1 : (lk == 0) = false := beq_eq_false_iff_ne.2 hf1
              clear hf1 hf2
              by_cases hl2 : lk = 2
              · dsimp only at h3
                have hn0 : (n == 0) = false := beq_eq_false_iff_ne.2 (by intro h; apply hnz; unfold C.sz; dsimp only; omega)
                clear hnz
                have BO : Hid (Below w5.heap.size w5 (wr.alloc (.cells #[.int .i64 0, .int .i64 n, .string t] 39))) := Lib.hid (B.out.alloc B.out.size _)
                have A0 : (wr.alloc (.cells #[.int .i64 0, .int .i64 n, .string t] 39)).cell? ⟨b, o + q * 3, none⟩ = some (.int .i64 lk) := cell_later ((Below.refl _ _).alloc (Nat.le_refl _) _) l0
                have y1 : (0 : Int) ≤ (q : Int) := by omega
                have y2 : (q : Int) < (N.length : Int) := by omega
                have y3 : (0 : Int) < (q : Int) + 1 := by omega
                have g2 : (lk == 2) = true := beq_iff_eq.2 hl2
                clear hl2
                go_wp2
                go_quiet (fail)
                go_wp2
                go_roundw
                case rel => exact ⟨q + 1 + 1, P, by omega, by go_num, congrArg (Value.int .i64) (by rw [← HSK.out, E1.out]; simp [keepC]; omega), congrArg (Value.int .i64) (by rw [← HSC.out, E2.out]; simp [cutC]), rfl, Lib.hid (by rw [HP.out, E3.out]; simp [putC]), Lib.hid (BO.out.trans ((dr_below _ _).mono BO.out.size))⟩
                case measure => simp [intOf]; omega
              · dsimp only at h3
                have hn0 : (n == 0) = false := beq_eq_false_iff_ne.2 (by intro h; apply hnz; unfold C.sz; dsimp only; omega)
                clear hnz
                have BO : Hid (Below w5.heap.size w5 (wr.alloc (.cells #[.int .i64 0, .int .i64 n, .string t] 39))) := Lib.hid (B.out.alloc B.out.size _)
                have A0 : (wr.alloc (.cells #[.int .i64 0, .int .i64 n, .string t] 39)).cell? ⟨b, o + q * 3, none⟩ = some (.int .i64 lk) := cell_later ((Below.refl _ _).alloc (Nat.le_refl _) _) l0
                have y1 : (0 : Int) ≤ (q : Int) := by omega
                have y2 : (q : Int) < (N.length : Int) := by omega
                have y3 : (0 : Int) < (q : Int) + 1 := by omega
                have g2 : (lk == 2) = false := beq_eq_false_iff_ne.2 hl2
                clear hl2
                go_wp2
                go_quiet (fail)
                go_wp2
                go_roundw
                case rel => exact ⟨q + 1 + 1, P, by omega, by go_num, congrArg (Value.int .i64) (by rw [← HSK.out, E1.out]; simp [keepC]; omega), congrArg (Value.int .i64) (by rw [← HSC.out, E2.out]; simp [cutC]), rfl, Lib.hid (by rw [HP.out, E3.out]; simp [putC]), Lib.hid (BO.out.trans ((dr_below _ _).mono BO.out.size))⟩
                case measure => simp [intOf]; omega
            · dsimp only at h3
              have hn0 : (n == 0) = false := beq_eq_false_iff_ne.2 (by intro h; apply hnz; unfold C.sz; dsimp only; omega)
              clear hnz
              have BO : Hid (Below w5.heap.size w5 (wr.alloc (.cells #[.int .i64 2, .int .i64 n, .string t] 39))) := Lib.hid (B.out.alloc B.out.size _)
              have A0 : (wr.alloc (.cells #[.int .i64 2, .int .i64 n, .string t] 39)).cell? ⟨b, o + q * 3, none⟩ = some (.int .i64 lk) := cell_later ((Below.refl _ _).alloc (Nat.le_refl _) _) l0
              have y1 : (0 : Int) ≤ (q : Int) := by omega
              have y2 : (q : Int) < (N.length : Int) := by omega
              have y3 : (0 : Int) < (q : Int) + 1 := by omega
              have g1 : (lk == 2) = false := beq_eq_false_iff_ne.2 hf1
              clear hf1 hf2
              go_wp2
              go_quiet (fail)
              go_wp2
              go_roundw
              case rel => exact ⟨q + 1 + 1, P, by omega, by go_num, congrArg (Value.int .i64) (by rw [← HSK.out, E1.out]; simp [keepC]), congrArg (Value.int .i64) (by rw [← HSC.out, E2.out]; simp [cutC]; omega), rfl, Lib.hid (by rw [HP.out, E3.out]; simp [putC]), Lib.hid (BO.out.trans ((dr_below _ _).mono BO.out.size))⟩
              case measure => simp [intOf]; omega
            · subst h1
              have ht0 : t.toList.isEmpty = false := by rw [isEmpty_size]; exact decide_eq_false (by intro h; apply hnz; unfold C.sz; dsimp only; omega)
              obtain ⟨px, psz⟩ := puts_head (P := P) (t := t) (r := putsOf (N.drop (q + 1 + 1))) (by rw [HP.out, E3.out]; rfl)
              clear hnz
              have BO : Hid (Below w5.heap.size w5 (wr.alloc (.cells #[.int .i64 1, .int .i64 0, .string t] 39))) := Lib.hid (B.out.alloc B.out.size _)
              have A0 : (wr.alloc (.cells #[.int .i64 1, .int .i64 0, .string t] 39)).cell? ⟨b, o + q * 3, none⟩ = some (.int .i64 lk) := cell_later ((Below.refl _ _).alloc (Nat.le_refl _) _) l0
              have y1 : (0 : Int) ≤ (q : Int) := by omega
              have y2 : (q : Int) < (N.length : Int) := by omega
              have y3 : (0 : Int) < (q : Int) + 1 := by omega
              have g1 : (lk == 1) = false := beq_eq_false_iff_ne.2 hf1
              have g2 : (lk == 2) = false := beq_eq_false_iff_ne.2 (hf2.resolve_right (fun h => h rfl))
              clear hf1 hf2
              go_wp2
              go_quiet (fail)
              go_wp2
              go_quiet (fail)
              go_wp2
              go_roundw
              case rel => exact ⟨q + 1 + 1, P.extract t.size P.size, by omega, by go_num, congrArg (Value.int .i64) (by rw [← HSK.out, E1.out]; simp [keepC]), congrArg (Value.int .i64) (by rw [← HSC.out, E2.out]; simp [cutC]), rfl, Lib.hid (puts_rest HP.out (by rw [E3.out]; rfl)), Lib.hid (BO.out.trans ((dr_below _ _).mono BO.out.size))⟩
              case measure => simp [intOf]; omega
        · have hjj : j = N.length := by omega
          have hd : N.drop j = [] := List.drop_of_length_le (by omega)
          have z1 : SK = 0 := by rw [← HSK.out, hd]; rfl
          have z2 : SC = 0 := by rw [← HSC.out, hd]; rfl
          have z3 : P.toList.isEmpty = true := by rw [Lib.toList_data, HP.out, hd]; rfl
          subst z1 z2
          clear hd hjj
          go_wp2
          go_ret
          exact ⟨rfl, B5.out.trans (B.out.mono B5.out.size)⟩

end Go.Proofs.Ytiplhhldgkgbhaa
