/-
  The walk of the law TransformCuts. Conditions: as the theorems' premises say.
-/
import Derived.Test.YtkknkannjoijbaaTputs
namespace Go.Proofs.Ytkknkannjoijbaa
open Go.RowKit

theorem put_e0 (x z : Nat) : putAt x e0 z = e0 := by unfold putAt; split <;> rfl
section
variable {s put U W : ByteArray} {x p y q j : Nat}
theorem cut_step (h : W ++ specB true s (keptAt x p) (keptAt y q) (putAt x e0) (putAt y put) (s.size - j) j = U) (hj : j < s.size) : W ++ (putAt y put j ++ ((if keptAt x p j && keptAt y q j then s.extract j (j + 1) else e0) ++ specB true s (keptAt x p) (keptAt y q) (putAt x e0) (putAt y put) (s.size - (j + 1)) (j + 1))) = U := by
  rw [show s.size - j = (s.size - (j + 1)) + 1 by omega] at h
  simp only [specB, if_true, put_e0, e0_left] at h
  exact h
theorem cut_both (h : W ++ specB true s (keptAt x p) (keptAt y q) (putAt x e0) (putAt y put) (s.size - j) j = U) (hj : j < s.size) (hy : j = y) (hk : keptAt x p j = true) (hm : keptAt y q j = true) : W ++ put ++ s.extract j (j + 1) ++ specB true s (keptAt x p) (keptAt y q) (putAt x e0) (putAt y put) (s.size - (j + 1)) (j + 1) = U := by
  have := cut_step h hj
  subst hy
  rw [put_on, hk, hm] at this
  simpa [ba_append_assoc] using this
theorem cut_put (h : W ++ specB true s (keptAt x p) (keptAt y q) (putAt x e0) (putAt y put) (s.size - j) j = U) (hj : j < s.size) (hy : j = y) (hk : (keptAt x p j && keptAt y q j) = false) : W ++ put ++ specB true s (keptAt x p) (keptAt y q) (putAt x e0) (putAt y put) (s.size - (j + 1)) (j + 1) = U := by
  have := cut_step h hj
  subst hy
  rw [put_on, hk] at this
  simpa [ba_append_assoc, e0_left] using this
theorem cut_keep (h : W ++ specB true s (keptAt x p) (keptAt y q) (putAt x e0) (putAt y put) (s.size - j) j = U) (hj : j < s.size) (hy : j ≠ y) (hk : keptAt x p j = true) (hm : keptAt y q j = true) : W ++ s.extract j (j + 1) ++ specB true s (keptAt x p) (keptAt y q) (putAt x e0) (putAt y put) (s.size - (j + 1)) (j + 1) = U := by
  have := cut_step h hj
  rw [put_off hy, hk, hm] at this
  simpa [ba_append_assoc, e0_left] using this
theorem cut_none (h : W ++ specB true s (keptAt x p) (keptAt y q) (putAt x e0) (putAt y put) (s.size - j) j = U) (hj : j < s.size) (hy : j ≠ y) (hk : (keptAt x p j && keptAt y q j) = false) : W ++ specB true s (keptAt x p) (keptAt y q) (putAt x e0) (putAt y put) (s.size - (j + 1)) (j + 1) = U := by
  have := cut_step h hj
  rw [put_off hy, hk] at this
  simpa [e0_left] using this
theorem cut_end (h : W ++ specB true s (keptAt x p) (keptAt y q) (putAt x e0) (putAt y put) (s.size - j) j = U) (hj : j = s.size) : (j = y → W ++ put = U) ∧ (j ≠ y → W = U) := by
  rw [show s.size - j = 0 by omega] at h
  simp only [specB, if_true, put_e0, e0_left] at h
  refine ⟨fun hy => ?_, fun hy => ?_⟩
  · subst hy; rwa [put_on] at h
  · rwa [put_off hy, e0_right] at h
end

theorem place_sub (k : Int) (n x : Nat) (hn : n ≤ 4096) (hx : x ≤ n) : ∃ p : Nat, wrap64 ((IntKind.u64.wrap k).tmod ((n : Int) - x + 1)) = (p : Int) ∧ x + p ≤ n := by
  obtain ⟨p, hp, hps⟩ := place_mod k (n - x) (by omega)
  rw [show ((n - x : Nat) : Int) = (n : Int) - x by omega] at hp
  exact ⟨p, hp, by omega⟩

set_option maxRecDepth 100000 in
set_option maxHeartbeats 1000000 in
theorem tcuts_long1 (s put : ByteArray) (i k j m : Int) (w : World) (h : 150 < s.size) :
    Calls Try.prog 8 #[.string s, .int .i64 i, .int .i64 k, .int .i64 j, .int .i64 m, .string put] w fun e w' => e = .returned (.bool true) ∧ Below w.heap.size w w' := by
  go_enter Try.func8, Try.ntmps8
  go_wp2_with fail
  refine (awake_true _).mono ?_
  rintro e w1 ⟨rfl, hb1⟩
  have B1 := Lib.hid hb1; clear hb1
  go_wp2_with fail
  go_ret
  exact ⟨rfl, B1.out⟩

set_option maxRecDepth 100000 in
set_option maxHeartbeats 1000000 in
theorem tcuts_long2 (s put : ByteArray) (i k j m : Int) (w : World) (h : ¬ 150 < s.size) (h2 : 50 < put.size) :
    Calls Try.prog 8 #[.string s, .int .i64 i, .int .i64 k, .int .i64 j, .int .i64 m, .string put] w fun e w' => e = .returned (.bool true) ∧ Below w.heap.size w w' := by
  go_enter Try.func8, Try.ntmps8
  go_wp2_with fail
  refine (awake_true _).mono ?_
  rintro e w1 ⟨rfl, hb1⟩
  have B1 := Lib.hid hb1; clear hb1
  go_wp2_with fail
  go_ret
  exact ⟨rfl, B1.out⟩

set_option maxRecDepth 100000 in
set_option maxHeartbeats 4000000 in
theorem tcuts_go (s put : ByteArray) (i k j m : Int) (w : World) (h : s.size ≤ 150) (h2 : put.size ≤ 50) (x y p q : Nat) (hx : wrap64 ((IntKind.u64.wrap i).tmod ((s.size : Int) + 1)) = (x : Int)) (hy : wrap64 ((IntKind.u64.wrap j).tmod ((s.size : Int) + 1)) = (y : Int)) (hxs : x ≤ s.size) (hys : y ≤ s.size)
    (hp : wrap64 ((IntKind.u64.wrap k).tmod ((s.size : Int) - x + 1)) = (p : Int)) (hq : wrap64 ((IntKind.u64.wrap m).tmod ((s.size : Int) - y + 1)) = (q : Int)) (hxp : x + p ≤ s.size) (hyq : y + q ≤ s.size) :
    Calls Try.prog 8 #[.string s, .int .i64 i, .int .i64 k, .int .i64 j, .int .i64 m, .string put] w fun e w' => e = .returned (.bool true) ∧ Below w.heap.size w w' := by
  have HX := Lib.hid hx; have HY := Lib.hid hy; have HP := Lib.hid hp; have HQ := Lib.hid hq
  obtain ⟨U, hU⟩ : ∃ U, specB true s (keptAt x p) (keptAt y q) (putAt x e0) (putAt y put) s.size 0 = U := ⟨_, rfl⟩
  have HU := Lib.hid hU
  clear hx hy hp hq hU
  have hI1 : (x : Int) ≤ (s.size : Int) := by omega
  have hI2 : (y : Int) ≤ (s.size : Int) := by omega
  go_enter Try.func8, Try.ntmps8
  go_wp2_with fail
  refine (awake_true _).mono ?_
  rintro e w1 ⟨rfl, hb1⟩
  have B1 := Lib.hid hb1; clear hb1
  go_wp2_with fail
  go_quiet (fail)
  rw [HX.out, HY.out]
  have B2 : Hid (Below w.heap.size w (w1.drewN nq)) := Lib.hid (B1.out.trans ((dr_below w1 nq).mono B1.out.size))
  generalize w1.drewN nq = w2 at B2 ⊢
  clear B1
  go_wp2_with fail
  go_quiet (fail)
  
  rw [HP.out, HQ.out]
  have B3 : Hid (Below w.heap.size w (w2.drewN nq)) := Lib.hid (B2.out.trans ((dr_below w2 nq).mono B2.out.size))
  generalize w2.drewN nq = w3 at B3 ⊢
  clear B2
  go_wp2_with fail
  refine (make_ok s ⟨#[]⟩ x p w3 (by omega) (by omega) (by decide) (by have h1 : (ByteArray.mk #[]).size = 0 := rfl; omega)).mono ?_
  rintro e w4 ⟨p4, c4, a, rfl, ho4, hm4, hb4⟩
  have B4 := Lib.hid (B3.out.trans (hb4.mono B3.out.size)); have A4 := Lib.hid ho4.row; have ca := ho4.capL'; have MA := Lib.hid hm4
  clear ho4 hm4 hb4 B3
  go_wp2_with fail
  refine (make_ok s put y q w4 (by omega) (by omega) (by omega) (by omega)).mono ?_
  rintro e w5 ⟨p5, c5, b, rfl, ho5, hm5, hb5⟩
  have B5 := Lib.hid (B4.out.trans (hb5.mono B4.out.size)); have A5 := Lib.hid (A4.out.below hb5); have BB5 := Lib.hid ho5.row; have cb := ho5.capL'; have MB := Lib.hid hm5
  clear ho5 hm5 hb5 B4 A4
  obtain ⟨P, Q, T, V, hro⟩ := made_roads (f := true) (A := e0) (B := put) MA.out MB.out (by have h1 : e0.size = 0 := rfl; omega)
  rw [HU.out] at hro
  have RO := Lib.hid hro
  have la := MA.out.len
  have lb := MB.out.len
  clear hro MA MB
  go_wp2_with fail
  refine (transform_yesL _ _ a b P Q true _ _ _ _ rfl rfl _ A5.out BB5.out ca cb RO.out.tra RO.out.eP RO.out.eQ).mono ?_
  rintro e w6 ⟨p6, c6, q6, d6, rfl, ho6, hu6, hb6⟩
  have B6 := Lib.hid (B5.out.trans (hb6.mono B5.out.size)); have BB6 := Lib.hid (BB5.out.below hb6); have P6 := Lib.hid ho6.row
  clear ho6 hu6 hb6 B5 A5 BB5
  go_wp2_with fail
  refine (rapply_yesL s _ b _ _ rfl _ BB6.out RO.out.tra.2.1 RO.out.fb T RO.out.tb).mono ?_
  rintro e w7 ⟨rfl, hb7⟩
  have B7 := Lib.hid (B6.out.trans (hb7.mono B6.out.size)); have P7 := Lib.hid (P6.out.below hb7)
  clear hb7 B6 BB6 P6
  go_wp2_with fail
  refine (rapply_yesL T _ P _ _ rfl _ P7.out RO.out.mP RO.out.fP U RO.out.uP).mono ?_
  rintro e w8 ⟨rfl, hb8⟩
  have B8 := Lib.hid (B7.out.trans (hb8.mono B7.out.size))
  have hUs : U.size ≤ 4096 := by
    have h3 := appB_size (s := T) (cs := P) (a := 0) (gd_of_may RO.out.mP).soft (by omega) (by rw [RO.out.fP]; omega)
    rw [RO.out.uP] at h3
    have h4 := (okB_iff.1 RO.out.mP.1).2.2.2
    omega
  clear hb8 B7 P7 RO
  go_wp2_with fail
  go_loopw [28, 29] (fun v z wr => ∃ (W : ByteArray) (t : Nat), v = .string W ∧ z = .int .i64 t ∧ t ≤ s.size + 1 ∧ Hid ((t ≤ s.size → W ++ specB true s (keptAt x p) (keptAt y q) (putAt x e0) (putAt y put) (s.size - t) t = U) ∧ (t = s.size + 1 → W = U)) ∧ Hid (Below w.heap.size w wr)) (fun _ z _ => s.size + 1 - (intOf z).toNat)
  case atStart => exact ⟨⟨#[]⟩, 0, rfl, rfl, by omega, Lib.hid ⟨fun _ => (e0_left _).trans HU.out, fun h => by omega⟩, B8⟩
  case round =>
    clear B8 HU
    obtain ⟨W, t, rfl, rfl, ht, HW, B⟩ := hrel
    rcases Nat.lt_or_ge s.size t with hend | hle
    · have hWU := HW.out.2 (by omega)
      subst hWU
      clear HW
      go_wp2_with (go_at_call 14; refine (num_any _ _).mono ?_; rintro e w' ⟨rfl, rfl⟩)
      go_ret
      exact ⟨rfl, B.out⟩
    have hSP := HW.out.1 hle
    have SP := Lib.hid hSP
    have hW : W.size ≤ 4096 := by rw [← hSP, ba_append_size] at hUs; omega
    clear HW hSP
    by_cases hlast : t = s.size
    · by_cases hy : t = y
      · have hyi : ((t : Int) == (y : Int)) = true := by rw [beq_iff_eq]; omega
        have hn : decide ((t : Int) < (s.size : Int)) = false := decide_eq_false (by omega)
        go_wp2_with fail
        go_roundw
        case rel => exact ⟨W ++ put, t + 1, rfl, by go_num, by omega, Lib.hid ⟨fun h => by omega, fun _ => (cut_end SP.out hlast).1 hy⟩, B⟩
        case measure => simp [intOf]; omega
      · have hyi : ((t : Int) == (y : Int)) = false := by rw [beq_eq_false_iff_ne]; omega
        have hn : decide ((t : Int) < (s.size : Int)) = false := decide_eq_false (by omega)
        go_wp2_with fail
        go_roundw
        case rel => exact ⟨W, t + 1, rfl, by go_num, by omega, Lib.hid ⟨fun h => by omega, fun _ => (cut_end SP.out hlast).2 hy⟩, B⟩
        case measure => simp [intOf]; omega
    have hlt : t < s.size := by omega
    by_cases hxc : t < x
    · by_cases hy : t = y
      · by_cases hyc : y + q ≤ t
        · have hn : decide ((t : Int) < (s.size : Int)) = true := decide_eq_true (by omega)
          have hyi : ((t : Int) == (y : Int)) = true := by rw [beq_iff_eq]; omega
          have kx := kept_lo (cut := p) hxc
          have d1 : decide ((t : Int) < (x : Int)) = true := decide_eq_true (by omega)
          have ky := kept_hi hyc
          have d3 : decide ((t : Int) < (y : Int)) = false := decide_eq_false (by omega)
          have d4 : decide ((y : Int) + (q : Int) ≤ (t : Int)) = true := decide_eq_true (by omega)
          have KX := Lib.hid kx; have KY := Lib.hid ky
          clear kx ky
          go_wp2_with fail
          go_roundw
          case rel => exact ⟨W ++ put ++ s.extract t (t + 1), t + 1, by rw [hy], by go_num, by omega, Lib.hid ⟨fun _ => cut_both SP.out hlt hy KX.out KY.out, fun h => by omega⟩, B⟩
          case measure => simp [intOf]; omega
        · have hy1 : ¬ t < y := by omega
          have hy2 : ¬ y + q ≤ t := hyc
          have hn : decide ((t : Int) < (s.size : Int)) = true := decide_eq_true (by omega)
          have hyi : ((t : Int) == (y : Int)) = true := by rw [beq_iff_eq]; omega
          have kx := kept_lo (cut := p) hxc
          have d1 : decide ((t : Int) < (x : Int)) = true := decide_eq_true (by omega)
          have ky := kept_mid (Nat.not_lt.1 hy1) (Nat.not_le.1 hy2)
          have d3 : decide ((t : Int) < (y : Int)) = false := decide_eq_false (by omega)
          have d4 : decide ((y : Int) + (q : Int) ≤ (t : Int)) = false := decide_eq_false (by omega)
          have KX := Lib.hid kx; have KY := Lib.hid ky
          clear kx ky
          go_wp2_with fail
          go_roundw
          case rel => exact ⟨W ++ put, t + 1, rfl, by go_num, by omega, Lib.hid ⟨fun _ => cut_put SP.out hlt hy (by rw [KX.out, KY.out]; rfl), fun h => by omega⟩, B⟩
          case measure => simp [intOf]; omega
      · by_cases hyc : t < y
        · have hn : decide ((t : Int) < (s.size : Int)) = true := decide_eq_true (by omega)
          have hyi : ((t : Int) == (y : Int)) = false := by rw [beq_eq_false_iff_ne]; omega
          have kx := kept_lo (cut := p) hxc
          have d1 : decide ((t : Int) < (x : Int)) = true := decide_eq_true (by omega)
          have ky := kept_lo (cut := q) hyc
          have d3 : decide ((t : Int) < (y : Int)) = true := decide_eq_true (by omega)
          have KX := Lib.hid kx; have KY := Lib.hid ky
          clear kx ky
          go_wp2_with fail
          go_roundw
          case rel => exact ⟨W ++ s.extract t (t + 1), t + 1, rfl, by go_num, by omega, Lib.hid ⟨fun _ => cut_keep SP.out hlt hy KX.out KY.out, fun h => by omega⟩, B⟩
          case measure => simp [intOf]; omega
        · have hy1 : ¬ t < y := by omega
          clear hyc
          by_cases hyc : y + q ≤ t
          · have hn : decide ((t : Int) < (s.size : Int)) = true := decide_eq_true (by omega)
            have hyi : ((t : Int) == (y : Int)) = false := by rw [beq_eq_false_iff_ne]; omega
            have kx := kept_lo (cut := p) hxc
            have d1 : decide ((t : Int) < (x : Int)) = true := decide_eq_true (by omega)
            have ky := kept_hi hyc
            have d3 : decide ((t : Int) < (y : Int)) = false := decide_eq_false (by omega)
            have d4 : decide ((y : Int) + (q : Int) ≤ (t : Int)) = true := decide_eq_true (by omega)
            have KX := Lib.hid kx; have KY := Lib.hid ky
            clear kx ky
            go_wp2_with fail
            go_roundw
            case rel => exact ⟨W ++ s.extract t (t + 1), t + 1, rfl, by go_num, by omega, Lib.hid ⟨fun _ => cut_keep SP.out hlt hy KX.out KY.out, fun h => by omega⟩, B⟩
            case measure => simp [intOf]; omega
          · have hy2 : ¬ y + q ≤ t := hyc
            have hn : decide ((t : Int) < (s.size : Int)) = true := decide_eq_true (by omega)
            have hyi : ((t : Int) == (y : Int)) = false := by rw [beq_eq_false_iff_ne]; omega
            have kx := kept_lo (cut := p) hxc
            have d1 : decide ((t : Int) < (x : Int)) = true := decide_eq_true (by omega)
            have ky := kept_mid (Nat.not_lt.1 hy1) (Nat.not_le.1 hy2)
            have d3 : decide ((t : Int) < (y : Int)) = false := decide_eq_false (by omega)
            have d4 : decide ((y : Int) + (q : Int) ≤ (t : Int)) = false := decide_eq_false (by omega)
            have KX := Lib.hid kx; have KY := Lib.hid ky
            clear kx ky
            go_wp2_with fail
            go_roundw
            case rel => exact ⟨W, t + 1, rfl, by go_num, by omega, Lib.hid ⟨fun _ => cut_none SP.out hlt hy (by rw [KX.out, KY.out]; rfl), fun h => by omega⟩, B⟩
            case measure => simp [intOf]; omega
    · have hx1 : ¬ t < x := hxc
      clear hxc
      by_cases hxc : x + p ≤ t
      · by_cases hy : t = y
        · by_cases hyc : y + q ≤ t
          · have hn : decide ((t : Int) < (s.size : Int)) = true := decide_eq_true (by omega)
            have hyi : ((t : Int) == (y : Int)) = true := by rw [beq_iff_eq]; omega
            have kx := kept_hi hxc
            have d1 : decide ((t : Int) < (x : Int)) = false := decide_eq_false (by omega)
            have d2 : decide ((x : Int) + (p : Int) ≤ (t : Int)) = true := decide_eq_true (by omega)
            have ky := kept_hi hyc
            have d3 : decide ((t : Int) < (y : Int)) = false := decide_eq_false (by omega)
            have d4 : decide ((y : Int) + (q : Int) ≤ (t : Int)) = true := decide_eq_true (by omega)
            have KX := Lib.hid kx; have KY := Lib.hid ky
            clear kx ky
            go_wp2_with fail
            go_roundw
            case rel => exact ⟨W ++ put ++ s.extract t (t + 1), t + 1, by rw [hy], by go_num, by omega, Lib.hid ⟨fun _ => cut_both SP.out hlt hy KX.out KY.out, fun h => by omega⟩, B⟩
            case measure => simp [intOf]; omega
          · have hy1 : ¬ t < y := by omega
            have hy2 : ¬ y + q ≤ t := hyc
            have hn : decide ((t : Int) < (s.size : Int)) = true := decide_eq_true (by omega)
            have hyi : ((t : Int) == (y : Int)) = true := by rw [beq_iff_eq]; omega
            have kx := kept_hi hxc
            have d1 : decide ((t : Int) < (x : Int)) = false := decide_eq_false (by omega)
            have d2 : decide ((x : Int) + (p : Int) ≤ (t : Int)) = true := decide_eq_true (by omega)
            have ky := kept_mid (Nat.not_lt.1 hy1) (Nat.not_le.1 hy2)
            have d3 : decide ((t : Int) < (y : Int)) = false := decide_eq_false (by omega)
            have d4 : decide ((y : Int) + (q : Int) ≤ (t : Int)) = false := decide_eq_false (by omega)
            have KX := Lib.hid kx; have KY := Lib.hid ky
            clear kx ky
            go_wp2_with fail
            go_roundw
            case rel => exact ⟨W ++ put, t + 1, rfl, by go_num, by omega, Lib.hid ⟨fun _ => cut_put SP.out hlt hy (by rw [KX.out, KY.out]; rfl), fun h => by omega⟩, B⟩
            case measure => simp [intOf]; omega
        · by_cases hyc : t < y
          · have hn : decide ((t : Int) < (s.size : Int)) = true := decide_eq_true (by omega)
            have hyi : ((t : Int) == (y : Int)) = false := by rw [beq_eq_false_iff_ne]; omega
            have kx := kept_hi hxc
            have d1 : decide ((t : Int) < (x : Int)) = false := decide_eq_false (by omega)
            have d2 : decide ((x : Int) + (p : Int) ≤ (t : Int)) = true := decide_eq_true (by omega)
            have ky := kept_lo (cut := q) hyc
            have d3 : decide ((t : Int) < (y : Int)) = true := decide_eq_true (by omega)
            have KX := Lib.hid kx; have KY := Lib.hid ky
            clear kx ky
            go_wp2_with fail
            go_roundw
            case rel => exact ⟨W ++ s.extract t (t + 1), t + 1, rfl, by go_num, by omega, Lib.hid ⟨fun _ => cut_keep SP.out hlt hy KX.out KY.out, fun h => by omega⟩, B⟩
            case measure => simp [intOf]; omega
          · have hy1 : ¬ t < y := by omega
            clear hyc
            by_cases hyc : y + q ≤ t
            · have hn : decide ((t : Int) < (s.size : Int)) = true := decide_eq_true (by omega)
              have hyi : ((t : Int) == (y : Int)) = false := by rw [beq_eq_false_iff_ne]; omega
              have kx := kept_hi hxc
              have d1 : decide ((t : Int) < (x : Int)) = false := decide_eq_false (by omega)
              have d2 : decide ((x : Int) + (p : Int) ≤ (t : Int)) = true := decide_eq_true (by omega)
              have ky := kept_hi hyc
              have d3 : decide ((t : Int) < (y : Int)) = false := decide_eq_false (by omega)
              have d4 : decide ((y : Int) + (q : Int) ≤ (t : Int)) = true := decide_eq_true (by omega)
              have KX := Lib.hid kx; have KY := Lib.hid ky
              clear kx ky
              go_wp2_with fail
              go_roundw
              case rel => exact ⟨W ++ s.extract t (t + 1), t + 1, rfl, by go_num, by omega, Lib.hid ⟨fun _ => cut_keep SP.out hlt hy KX.out KY.out, fun h => by omega⟩, B⟩
              case measure => simp [intOf]; omega
            · have hy2 : ¬ y + q ≤ t := hyc
              have hn : decide ((t : Int) < (s.size : Int)) = true := decide_eq_true (by omega)
              have hyi : ((t : Int) == (y : Int)) = false := by rw [beq_eq_false_iff_ne]; omega
              have kx := kept_hi hxc
              have d1 : decide ((t : Int) < (x : Int)) = false := decide_eq_false (by omega)
              have d2 : decide ((x : Int) + (p : Int) ≤ (t : Int)) = true := decide_eq_true (by omega)
              have ky := kept_mid (Nat.not_lt.1 hy1) (Nat.not_le.1 hy2)
              have d3 : decide ((t : Int) < (y : Int)) = false := decide_eq_false (by omega)
              have d4 : decide ((y : Int) + (q : Int) ≤ (t : Int)) = false := decide_eq_false (by omega)
              have KX := Lib.hid kx; have KY := Lib.hid ky
              clear kx ky
              go_wp2_with fail
              go_roundw
              case rel => exact ⟨W, t + 1, rfl, by go_num, by omega, Lib.hid ⟨fun _ => cut_none SP.out hlt hy (by rw [KX.out, KY.out]; rfl), fun h => by omega⟩, B⟩
              case measure => simp [intOf]; omega
      · have hx2 : ¬ x + p ≤ t := hxc
        by_cases hy : t = y
        · have hn : decide ((t : Int) < (s.size : Int)) = true := decide_eq_true (by omega)
          have hyi : ((t : Int) == (y : Int)) = true := by rw [beq_iff_eq]; omega
          have kx := kept_mid (Nat.not_lt.1 hx1) (Nat.not_le.1 hx2)
          have d1 : decide ((t : Int) < (x : Int)) = false := decide_eq_false (by omega)
          have d2 : decide ((x : Int) + (p : Int) ≤ (t : Int)) = false := decide_eq_false (by omega)
          have KX := Lib.hid kx
          clear kx
          go_wp2_with fail
          go_roundw
          case rel => exact ⟨W ++ put, t + 1, rfl, by go_num, by omega, Lib.hid ⟨fun _ => cut_put SP.out hlt hy (by rw [KX.out]; rfl), fun h => by omega⟩, B⟩
          case measure => simp [intOf]; omega
        · have hn : decide ((t : Int) < (s.size : Int)) = true := decide_eq_true (by omega)
          have hyi : ((t : Int) == (y : Int)) = false := by rw [beq_eq_false_iff_ne]; omega
          have kx := kept_mid (Nat.not_lt.1 hx1) (Nat.not_le.1 hx2)
          have d1 : decide ((t : Int) < (x : Int)) = false := decide_eq_false (by omega)
          have d2 : decide ((x : Int) + (p : Int) ≤ (t : Int)) = false := decide_eq_false (by omega)
          have KX := Lib.hid kx
          clear kx
          go_wp2_with fail
          go_roundw
          case rel => exact ⟨W, t + 1, rfl, by go_num, by omega, Lib.hid ⟨fun _ => cut_none SP.out hlt hy (by rw [KX.out]; rfl), fun h => by omega⟩, B⟩
          case measure => simp [intOf]; omega

theorem tcuts_true (s put : ByteArray) (i k j m : Int) (w : World) :
    Calls Try.prog 8 #[.string s, .int .i64 i, .int .i64 k, .int .i64 j, .int .i64 m, .string put] w fun e w' => e = .returned (.bool true) ∧ Below w.heap.size w w' := by
  by_cases h : 150 < s.size
  · exact tcuts_long1 s put i k j m w h
  · by_cases h2 : 50 < put.size
    · exact tcuts_long2 s put i k j m w h h2
    · obtain ⟨x, hx, hxs⟩ := place_mod i s.size (by omega)
      obtain ⟨y, hy, hys⟩ := place_mod j s.size (by omega)
      obtain ⟨p, hp, hxp⟩ := place_sub k s.size x (by omega) hxs
      obtain ⟨q, hq, hyq⟩ := place_sub m s.size y (by omega) hys
      exact tcuts_go s put i k j m w (by omega) (by omega) x y p q hx hy hxs hys hp hq hxp hyq

end Go.Proofs.Ytkknkannjoijbaa
