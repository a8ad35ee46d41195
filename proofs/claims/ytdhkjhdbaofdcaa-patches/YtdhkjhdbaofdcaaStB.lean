/-
  St1, St2, in one text. Conditions: as each theorem's premises say.
-/
import Derived.Test.YtdhkjhdbaofdcaaPlA
namespace Go.Proofs.Ytdhkjhdbaofdcaa
open Go.RowKit

/-- A step as a value. -/
def stV (s : St) (kp : Option Addr) (kc : Nat) : Value := .agg #[.int .i64 s.kd, .int .i64 s.id, .int .i64 s.nd, .int .i64 s.fr, .int .i64 (St.to s), .slice kp s.kids.length kc]

set_option maxRecDepth 100000 in
set_option maxHeartbeats 4000000 in
theorem stepMay_0 (s : St) (kp : Option Addr) (kc : Nat) (w : World) (hk : s.kd = 0) (hl : s.kids.length ≤ 140737488355328) : Calls Try.prog 30 #[stV s kp kc] w (RetBelow (.returned (.bool (stepMay s))) w) := by
  obtain ⟨skd, sid, snd, sfr, sto, kids⟩ := s
  dsimp only at hk hl
  subst hk
  have E : Hid (stepMay ⟨0, sid, snd, sfr, sto, kids⟩ = ((decide (0 ≤ sid) && decide (sid < 16777216)) && snd == 0 && sfr == 0 && sto == 0 && decide (kids.length = 0))) := Lib.hid (by
    unfold stepMay idB
    cases kids <;> simp [Bool.and_assoc])
  unfold stV
  dsimp only
  rw [E.out]
  clear E
  generalize kids.length = kn at *
  go_enter Try.func30, Try.ntmps30
  go_wp2_with fail
  all_goals
    go_ret
    exact ⟨retB (by first | (simp_all; done) | (simp_all; omega) | (rw [Bool.eq_iff_iff]; simp_all; done) | (rw [Bool.eq_iff_iff]; simp_all; omega)), below2 (Below.refl _ _) (Nat.le_refl _) _ _⟩

set_option maxRecDepth 100000 in
set_option maxHeartbeats 4000000 in
theorem stepMay_1 (s : St) (kp : Option Addr) (kc : Nat) (w : World) (hk : s.kd = 1) (hl : s.kids.length ≤ 140737488355328) : Calls Try.prog 30 #[stV s kp kc] w (RetBelow (.returned (.bool (stepMay s))) w) := by
  obtain ⟨skd, sid, snd, sfr, sto, kids⟩ := s
  dsimp only at hk hl
  subst hk
  have E : Hid (stepMay ⟨1, sid, snd, sfr, sto, kids⟩ = ((decide (0 ≤ sid) && decide (sid < 16777216)) && decide (0 ≤ snd) && decide (snd ≤ 7) && sfr == 0 && sto == 0 && decide (kids.length = 0))) := Lib.hid (by
    unfold stepMay idB
    cases kids <;> simp [Bool.and_assoc])
  unfold stV
  dsimp only
  rw [E.out]
  clear E
  generalize kids.length = kn at *
  go_enter Try.func30, Try.ntmps30
  go_wp2_with fail
  all_goals
    go_ret
    exact ⟨retB (by first | (simp_all; done) | (simp_all; omega) | (rw [Bool.eq_iff_iff]; simp_all; done) | (rw [Bool.eq_iff_iff]; simp_all; omega)), below2 (Below.refl _ _) (Nat.le_refl _) _ _⟩

set_option maxRecDepth 100000 in
set_option maxHeartbeats 4000000 in
theorem stepMay_3 (s : St) (kp : Option Addr) (kc : Nat) (w : World) (hk : s.kd = 3) (hl : s.kids.length ≤ 140737488355328) : Calls Try.prog 30 #[stV s kp kc] w (RetBelow (.returned (.bool (stepMay s))) w) := by
  obtain ⟨skd, sid, snd, sfr, sto, kids⟩ := s
  dsimp only at hk hl
  subst hk
  have E : Hid (stepMay ⟨3, sid, snd, sfr, sto, kids⟩ = ((decide (0 ≤ sid) && decide (sid < 16777216)) && snd == 0 && decide (0 ≤ sfr) && decide (sfr ≤ sto) && decide (sto ≤ 4096) && decide (kids.length = 0))) := Lib.hid (by
    unfold stepMay idB
    cases kids <;> simp [Bool.and_assoc])
  unfold stV
  dsimp only
  rw [E.out]
  clear E
  generalize kids.length = kn at *
  go_enter Try.func30, Try.ntmps30
  go_wp2_with fail
  all_goals
    go_ret
    exact ⟨retB (by first | (simp_all; done) | (simp_all; omega) | (rw [Bool.eq_iff_iff]; simp_all; done) | (rw [Bool.eq_iff_iff]; simp_all; omega)), below2 (Below.refl _ _) (Nat.le_refl _) _ _⟩

set_option maxRecDepth 100000 in
set_option maxHeartbeats 4000000 in
theorem stepMay_x (s : St) (kp : Option Addr) (kc : Nat) (w : World) (h0 : ¬ s.kd = 0) (h1 : ¬ s.kd = 1) (h2 : ¬ s.kd = 2) (h3 : ¬ s.kd = 3) : Calls Try.prog 30 #[stV s kp kc] w (RetBelow (.returned (.bool (stepMay s))) w) := by
  obtain ⟨skd, sid, snd, sfr, sto, kids⟩ := s
  dsimp only at h0 h1 h2 h3
  have E : Hid (stepMay ⟨skd, sid, snd, sfr, sto, kids⟩ = false) := Lib.hid (by
    unfold stepMay
    simp [h0, h1, h2, h3])
  have q0 : (skd == 0) = false := beq_eq_false_iff_ne.2 h0
  have q1 : (skd == 1) = false := beq_eq_false_iff_ne.2 h1
  have q2 : (skd == 2) = false := beq_eq_false_iff_ne.2 h2
  have q3 : (skd == 3) = false := beq_eq_false_iff_ne.2 h3
  unfold stV
  dsimp only
  rw [E.out]
  clear E
  generalize kids.length = kn at *
  go_enter Try.func30, Try.ntmps30
  go_wp2_with fail
  all_goals
    go_ret
    exact ⟨rfl, below2 (Below.refl _ _) (Nat.le_refl _) _ _⟩

set_option maxRecDepth 100000 in
set_option maxHeartbeats 4000000 in
theorem stepMay_2 (s : St) (kp : Option Addr) (kc : Nat) (w : World) (hk : s.kd = 2) (hr : lyI.Row w kp s.kids) (hl : s.kids.length ≤ 140737488355328) : Calls Try.prog 30 #[stV s kp kc] w (RetBelow (.returned (.bool (stepMay s))) w) := by
  obtain ⟨skd, sid, snd, sfr, sto, kids⟩ := s
  dsimp only at hk hl hr
  subst hk
  have E : Hid (stepMay ⟨2, sid, snd, sfr, sto, kids⟩ = ((idB sid && kids.all idB) && decide (kids.length ≤ 2048) && snd == 0 && sfr == 0 && sto == 0)) := Lib.hid (by
    unfold stepMay
    rw [Bool.eq_iff_iff]
    constructor <;> intro h <;> simp_all)
  have AT : Hid (∀ (j : Nat) c, kids[j]? = some c → (kids.take (j + 1)).all idB = ((kids.take j).all idB && idB c)) := Lib.hid (fun j c hc => by
    rw [List.take_add_one, hc, List.all_append]; simp)
  have AN : Hid (∀ j, kids.length ≤ j → (kids.take j).all idB = kids.all idB) := Lib.hid (fun j hj => by rw [List.take_of_length_le hj])
  have R := Lib.hid hr
  unfold stV
  dsimp only
  rw [E.out]
  clear E hr
  obtain ⟨kn, hkn⟩ : ∃ kn, kids.length = kn := ⟨_, rfl⟩
  rw [hkn] at hl AN ⊢
  obtain ⟨fb, hfb⟩ : ∃ fb, ((idB sid && kids.all idB) && decide (kn ≤ 2048) && snd == 0 && sfr == 0 && sto == 0) = fb := ⟨_, rfl⟩
  rw [hfb]
  have FB := Lib.hid hfb
  clear hfb
  have KN := Lib.hid hkn
  clear hkn
  have BW : Hid (Below w.heap.size w ((w.alloc (.cells #[.int .i64 2, .int .i64 sid, .int .i64 snd, .int .i64 sfr, .int .i64 sto, .slice kp kn kc] 42)).alloc (.cells #[.int .i64 2, .int .i64 sid, .int .i64 0, .int .i64 0, .int .i64 0, .slice none 0 0] 42))) := Lib.hid (below2 (Below.refl _ _) (Nat.le_refl _) _ _)
  have A2 : Hid (((w.alloc (.cells #[.int .i64 2, .int .i64 sid, .int .i64 snd, .int .i64 sfr, .int .i64 sto, .slice kp kn kc] 42)).alloc (.cells #[.int .i64 2, .int .i64 sid, .int .i64 0, .int .i64 0, .int .i64 0, .slice none 0 0] 42)).heap[w.heap.size]? = some (.cells #[.int .i64 2, .int .i64 sid, .int .i64 snd, .int .i64 sfr, .int .i64 sto, .slice kp kn kc] 42 (0, 0))) := Lib.hid (((below1 (Below.refl _ _) (Nat.le_refl _) _).block w.heap.size (by simp)).trans (heap_alloc_new w _))
  have B2 : Hid (((w.alloc (.cells #[.int .i64 2, .int .i64 sid, .int .i64 snd, .int .i64 sfr, .int .i64 sto, .slice kp kn kc] 42)).alloc (.cells #[.int .i64 2, .int .i64 sid, .int .i64 0, .int .i64 0, .int .i64 0, .slice none 0 0] 42)).heap[w.heap.size + 1]? = some (.cells #[.int .i64 2, .int .i64 sid, .int .i64 0, .int .i64 0, .int .i64 0, .slice none 0 0] 42 (0, 0))) := Lib.hid (by
    have := heap_alloc_new (w.alloc (.cells #[.int .i64 2, .int .i64 sid, .int .i64 snd, .int .i64 sfr, .int .i64 sto, .slice kp kn kc] 42)) (.cells #[.int .i64 2, .int .i64 sid, .int .i64 0, .int .i64 0, .int .i64 0, .slice none 0 0] 42)
    rwa [show (w.alloc (.cells #[.int .i64 2, .int .i64 sid, .int .i64 snd, .int .i64 sfr, .int .i64 sto, .slice kp kn kc] 42)).heap.size = w.heap.size + 1 by simp] at this)
  go_enter Try.func30, Try.ntmps30
  go_upto_region 2 with fail
  generalize (w.alloc (.cells #[.int .i64 2, .int .i64 sid, .int .i64 snd, .int .i64 sfr, .int .i64 sto, .slice kp kn kc] 42)).alloc (.cells #[.int .i64 2, .int .i64 sid, .int .i64 0, .int .i64 0, .int .i64 0, .slice none 0 0] 42) = w2 at BW A2 B2 ⊢
  have a0 := (obj_cells A2.out).1 0 _ rfl
  have a1 := (obj_cells A2.out).1 1 _ rfl
  have a2 := (obj_cells A2.out).1 2 _ rfl
  have a3 := (obj_cells A2.out).1 3 _ rfl
  have a4 := (obj_cells A2.out).1 4 _ rfl
  have a5 := (obj_cells A2.out).1 5 _ rfl
  have b2 := (obj_cells B2.out).1 2 _ rfl
  have b3 := (obj_cells B2.out).1 3 _ rfl
  have b4 := (obj_cells B2.out).1 4 _ rfl
  go_cut [4] (fun v wx => v = .bool (idB sid) ∧ w2 = wx)
  case first =>
    go_wp2_with fail
    all_goals
      go_meet
      exact ⟨by unfold idB; first | (simp_all; done) | (simp_all; intro h; omega), rfl⟩
  case rest =>
    obtain ⟨rfl, rfl⟩ := hcut
    go_wp2_with fail
    go_loopw [4, 5] (fun v4 v5 wr => ∃ j : Nat, j ≤ kn ∧ v5 = .int .i64 j ∧ v4 = .bool (idB sid && (kids.take j).all idB) ∧ wr = w2) (fun _ v5 _ => kn - (intOf v5).toNat)
    case atStart => exact ⟨0, by omega, rfl, by simp, rfl⟩
    case round =>
      obtain ⟨j, hj, rfl, rfl, rfl⟩ := hrel
      by_cases hlt : j < kn
      · obtain ⟨c, hc⟩ : ∃ c, kids[j]? = some c := ⟨_, List.getElem?_eq_getElem (by rw [KN.out]; exact hlt)⟩
        obtain ⟨kb, ko, rfl, d0⟩ := ints_at R.out hc
        have d1 := cell_later BW.out d0
        have AC := Lib.hid (AT.out j c hc)
        have hj0 : (0 : Int) ≤ (j : Int) := by omega
        have hj1 : (j : Int) < (kn : Int) := by omega
        clear hc d0
        cases hb : (idB sid && (kids.take j).all idB) with
        | false =>
          have NB : Hid ((idB sid && (kids.take (j + 1)).all idB) = false) := Lib.hid (by rw [AC.out, ← Bool.and_assoc, hb]; rfl)
          clear hb
          go_wp2_with fail
          go_roundw
          case rel => exact ⟨j + 1, by omega, by go_num, by rw [NB.out], trivial⟩
          case measure => simp [intOf]; omega
        | true =>
          have NB : Hid ((idB sid && (kids.take (j + 1)).all idB) = idB c) := Lib.hid (by rw [AC.out, ← Bool.and_assoc, hb]; rfl)
          clear hb
          go_wp2_with fail
          all_goals
            go_roundw
            case rel => exact ⟨j + 1, by omega, by go_num, by rw [NB.out]; unfold idB; first | (simp_all; done) | (simp_all; intro h; omega), trivial⟩
            case measure => simp [intOf]; omega
      · have AL := Lib.hid (AN.out j (by omega))
        rw [AL.out]
        clear AT AN AL
        cases hb : (idB sid && kids.all idB) with
        | false =>
          rw [hb] at FB
          clear hb
          go_wp2_with fail
          all_goals
            go_ret
            exact ⟨retB (by rw [← FB.out]; simp), BW.out⟩
        | true =>
          rw [hb] at FB
          clear hb
          go_wp2_with fail
          all_goals
            go_ret
            exact ⟨retB (by rw [← FB.out]; first | (simp_all; done) | (simp_all; omega) | (rw [Bool.eq_iff_iff]; simp_all; done) | (rw [Bool.eq_iff_iff]; simp_all; omega)), BW.out⟩
theorem stepMay_any (s : St) (kp : Option Addr) (kc : Nat) (w : World) (hr : lyI.Row w kp s.kids) (hl : s.kids.length ≤ 140737488355328) : Calls Try.prog 30 #[stV s kp kc] w (RetBelow (.returned (.bool (stepMay s))) w) := by
  by_cases h0 : s.kd = 0
  · exact stepMay_0 s kp kc w h0 hl
  · by_cases h1 : s.kd = 1
    · exact stepMay_1 s kp kc w h1 hl
    · by_cases h2 : s.kd = 2
      · exact stepMay_2 s kp kc w h2 hr hl
      · by_cases h3 : s.kd = 3
        · exact stepMay_3 s kp kc w h3 hl
        · exact stepMay_x s kp kc w h0 h1 h2 h3

end Go.Proofs.Ytdhkjhdbaofdcaa
