/-
  Stm, Qn, in one text. Conditions: as each theorem's premises say.
-/
import Derived.Test.YtjmfjlffcopnnaaGreatDoorPM18
import Derived.Test.YtjmfjlffcopnnaaGreatDoorPM17
import Derived.Test.YtjmfjlffcopnnaaGreatDoorPM19
namespace Go.Proofs.YtjmfjlffcopnnaaGreatDoor
open Go.RowKit

def kindB (k : Int) : Bool := decide (0 ≤ k) && decide (k ≤ 7)
def spanB (a b : Int) : Bool := decide (0 ≤ a) && decide (a ≤ b) && decide (b ≤ 4096)
set_option maxRecDepth 100000 in
set_option maxHeartbeats 400000 in
theorem sid_any (k : Int) (w : World) : Calls Tryz.prog 128 #[.int .i64 k] w fun e w' => e = .returned (.bool (idB k)) ∧ w = w' := by
  go_enter Tryz.func128, Tryz.ntmps128
  go_wp2
  all_goals
    go_ret
    exact ⟨retB (by rw [Bool.eq_iff_iff]; first | (simp_all [idB]; done) | (simp_all [idB]; omega)), rfl⟩
set_option maxRecDepth 100000 in
set_option maxHeartbeats 400000 in
theorem skind_any (k : Int) (w : World) : Calls Tryz.prog 125 #[.int .i64 k] w fun e w' => e = .returned (.bool (kindB k)) ∧ w = w' := by
  go_enter Tryz.func125, Tryz.ntmps125
  go_wp2
  all_goals
    go_ret
    exact ⟨retB (by rw [Bool.eq_iff_iff]; first | (simp_all [kindB]; done) | (simp_all [kindB]; omega)), rfl⟩
set_option maxRecDepth 100000 in
set_option maxHeartbeats 400000 in
theorem sspan_any (a b : Int) (w : World) : Calls Tryz.prog 127 #[.int .i64 a, .int .i64 b] w fun e w' => e = .returned (.bool (spanB a b)) ∧ w = w' := by
  go_enter Tryz.func127, Tryz.ntmps127
  go_wp2
  all_goals
    go_ret
    exact ⟨retB (by rw [Bool.eq_iff_iff]; first | (simp_all [spanB]; done) | (simp_all [spanB]; omega)), rfl⟩

set_option maxRecDepth 100000 in
set_option maxHeartbeats 1000000 in
theorem skids_any (kp : Option Addr) (ks : List Int) (n kc : Nat) (hn : ks.length = n) (w : World) (hr : lyI.Row w kp ks) (hl : n ≤ 140737488355328) : Calls Tryz.prog 126 #[.slice kp n kc] w fun e w' => e = .returned (.bool (ks.all idB && decide (n ≤ 2048))) ∧ w = w' := by
  have R := Lib.hid hr; have HN := Lib.hid hn
  clear hr hn
  by_cases h1 : 2048 < n
  · have q : decide (n ≤ 2048) = false := decide_eq_false (by omega)
    rw [q, Bool.and_false]
    go_enter Tryz.func126, Tryz.ntmps126
    go_wp2_with fail
    go_ret
    exact ⟨rfl, rfl⟩
  · have q : decide (n ≤ 2048) = true := decide_eq_true (by omega)
    rw [q, Bool.and_true]
    clear q
    go_enter Tryz.func126, Tryz.ntmps126
    go_wp2_with fail
    go_loopw [10, 4] (fun v _ wr => ∃ j : Nat, j ≤ n ∧ v = .int .i64 j ∧ w = wr ∧ Hid ((ks.drop j).all idB = ks.all idB)) (fun v _ _ => n - (intOf v).toNat)
    case atStart => exact ⟨0, by omega, rfl, rfl, Lib.hid rfl⟩
    case round =>
      obtain ⟨j, hj, rfl, rfl, E⟩ := hrel
      by_cases hlt : j < n
      · obtain ⟨x, hx⟩ : ∃ x, ks[j]? = some x := ⟨_, List.getElem?_eq_getElem (by rw [HN.out]; exact hlt)⟩
        obtain ⟨b, o, rfl, hat⟩ := R.out j x hx
        have n0 : w.cell? ⟨b, o + j, none⟩ = some (.int .i64 x) := by
          have := hat 0 _ rfl
          simpa [lyI] using this
        have hi0 : (0 : Int) ≤ (j : Int) := by omega
        have hi1 : (j : Int) < (n : Int) := by omega
        have DA : Hid (ks.drop j = x :: ks.drop (j + 1)) := Lib.hid (by
          obtain ⟨hl', he'⟩ := List.getElem?_eq_some_iff.1 hx
          rw [List.drop_eq_getElem_cons hl', he'])
        clear hat hx
        cases hb : idB x with
        | false =>
          have F : Hid (ks.all idB = false) := Lib.hid (by rw [← E.out, DA.out]; simp [hb])
          have CI := Lib.hid (sid_any x w)
          rw [hb] at CI
          clear hb
          go_wp2_with (go_at_call 128; refine CI.out.mono ?_; rintro e w1 ⟨rfl, rfl⟩)
          go_ret
          exact ⟨retB (by rw [F.out]), rfl⟩
        | true =>
          have E' : Hid ((ks.drop (j + 1)).all idB = ks.all idB) := Lib.hid (by rw [← E.out, DA.out]; simp [hb])
          have CI := Lib.hid (sid_any x w)
          rw [hb] at CI
          clear hb
          go_wp2_with (go_at_call 128; refine CI.out.mono ?_; rintro e w1 ⟨rfl, rfl⟩)
          go_roundw
          case rel => exact ⟨j + 1, by omega, by go_num, trivial, E'⟩
          case measure => simp [intOf]; omega
      · have F : Hid (ks.all idB = true) := Lib.hid (by rw [← E.out, List.drop_eq_nil_of_le (by rw [HN.out]; omega)]; rfl)
        go_wp2_with fail
        go_ret
        exact ⟨retB (by rw [F.out]), rfl⟩

def bareB (nd fr tt : Int) (kn : Nat) : Bool := nd == 0 && fr == 0 && tt == 0 && decide (kn = 0)
set_option maxRecDepth 100000 in
set_option maxHeartbeats 1000000 in
theorem sbare_any (kd id nd fr tt : Int) (kp : Option Addr) (kn kc : Nat) (w : World) : Calls Tryz.prog 129 #[.agg #[.int .i64 kd, .int .i64 id, .int .i64 nd, .int .i64 fr, .int .i64 tt, .slice kp kn kc]] w (RetBelow (.returned (.bool (bareB nd fr tt kn))) w) := by
  go_enter Tryz.func129, Tryz.ntmps129
  go_wp2_with fail
  all_goals
    go_ret
    exact ⟨retB (by unfold bareB; first | (simp_all; done) | (simp_all; omega) | (rw [Bool.eq_iff_iff]; simp_all; done) | (rw [Bool.eq_iff_iff]; simp_all; omega)), below1 (Below.refl _ _) (Nat.le_refl _) _⟩

/-! step.May itself, kind by kind: what is asked, and what is left bare -/
theorem sm_0 (s : St) (h : s.kd = 0) : stepMay s = (idB s.id && bareB s.nd s.fr (St.to s) s.kids.length) := by
  obtain ⟨kd, id, nd, fr, sto, kids⟩ := s
  dsimp only at h
  subst h
  unfold stepMay bareB
  cases kids <;> simp
theorem sm_1 (s : St) (h : s.kd = 1) : stepMay s = (kindB s.nd && idB s.id && bareB 0 s.fr (St.to s) s.kids.length) := by
  obtain ⟨kd, id, nd, fr, sto, kids⟩ := s
  dsimp only at h
  subst h
  unfold stepMay bareB kindB
  cases kids <;> simp [Bool.and_assoc, Bool.and_left_comm]
theorem sm_2 (s : St) (h : s.kd = 2) : stepMay s = ((s.kids.all idB && decide (s.kids.length ≤ 2048)) && idB s.id && bareB s.nd s.fr (St.to s) 0) := by
  obtain ⟨kd, id, nd, fr, sto, kids⟩ := s
  dsimp only at h
  subst h
  unfold stepMay bareB
  rw [Bool.eq_iff_iff]
  constructor <;> intro h <;> simp_all
theorem sm_3 (s : St) (h : s.kd = 3) : stepMay s = (spanB s.fr (St.to s) && idB s.id && bareB s.nd 0 0 s.kids.length) := by
  obtain ⟨kd, id, nd, fr, sto, kids⟩ := s
  dsimp only at h
  subst h
  unfold stepMay bareB spanB
  cases kids <;> simp [Bool.and_assoc, Bool.and_left_comm] <;> (rw [Bool.eq_iff_iff]; simp; try (intro _; constructor <;> (rintro ⟨h1, h2, h3, h4⟩; simp_all)))
theorem sm_x (s : St) (h0 : ¬ s.kd = 0) (h1 : ¬ s.kd = 1) (h2 : ¬ s.kd = 2) (h3 : ¬ s.kd = 3) : stepMay s = false := by
  obtain ⟨kd, id, nd, fr, sto, kids⟩ := s
  dsimp only at h0 h1 h2 h3
  unfold stepMay
  simp [h0, h1, h2, h3]

set_option maxRecDepth 100000 in
set_option maxHeartbeats 4000000 in
theorem smay_0 (s : St) (kp : Option Addr) (kc : Nat) (w : World) (hk : s.kd = 0) (hl : s.kids.length ≤ 140737488355328) : Calls Tryz.prog 92 #[stV s kp kc] w (RetBelow (.returned (.bool (stepMay s))) w) := by
  rw [sm_0 s hk]
  obtain ⟨skd, sid, snd, sfr, sto, kids⟩ := s
  dsimp only at hk hl ⊢
  subst hk
  unfold stV
  dsimp only
  have CI := Lib.hid (sid_any sid)
  generalize kids.length = kn at *
  cases hi : idB sid with
  | false =>
    rw [hi] at CI
    go_enter Tryz.func92, Tryz.ntmps92
    go_wp2_with (first | (go_at_call 128; refine (CI.out _).mono ?_; rintro e w2 ⟨rfl, rfl⟩))
    go_ret
    exact ⟨rfl, Bl.alloc (Bl.refl _) _⟩
  | true =>
    rw [hi] at CI
    have CB := Lib.hid (fun W => sbare_any 0 sid snd sfr (St.to ⟨0, sid, snd, sfr, sto, kids⟩) kp kn kc W)
    generalize bareB snd sfr (St.to ⟨0, sid, snd, sfr, sto, kids⟩) kn = bb at CB ⊢
    go_enter Tryz.func92, Tryz.ntmps92
    go_wp2_with (first | (go_at_call 128; refine (CI.out _).mono ?_; rintro e w2 ⟨rfl, rfl⟩) | (go_at_call 129; refine (CB.out _).mono ?_; rintro e w3 ⟨rfl, hb3⟩; have B3 := Lib.hid hb3; clear hb3))
    go_ret
    exact ⟨rfl, Bl.call (Bl.alloc (Bl.refl _) _) B3.out⟩

set_option maxRecDepth 100000 in
set_option maxHeartbeats 4000000 in
theorem smay_1 (s : St) (kp : Option Addr) (kc : Nat) (w : World) (hk : s.kd = 1) (hl : s.kids.length ≤ 140737488355328) : Calls Tryz.prog 92 #[stV s kp kc] w (RetBelow (.returned (.bool (stepMay s))) w) := by
  rw [sm_1 s hk]
  obtain ⟨skd, sid, snd, sfr, sto, kids⟩ := s
  dsimp only at hk hl ⊢
  subst hk
  unfold stV
  dsimp only
  have CI := Lib.hid (sid_any sid)
  generalize kids.length = kn at *
  have CK := Lib.hid (skind_any snd)
  cases hf : kindB snd with
  | false =>
    rw [hf] at CK
    go_enter Tryz.func92, Tryz.ntmps92
    go_wp2_with (first | (go_at_call 125; refine (CK.out _).mono ?_; rintro e w1 ⟨rfl, rfl⟩) | fail)
    go_ret
    exact ⟨rfl, Bl.alloc (Bl.refl _) _⟩
  | true =>
    rw [hf] at CK
    cases hi : idB sid with
    | false =>
      rw [hi] at CI
      go_enter Tryz.func92, Tryz.ntmps92
      go_wp2_with (first | (go_at_call 125; refine (CK.out _).mono ?_; rintro e w1 ⟨rfl, rfl⟩) | (go_at_call 128; refine (CI.out _).mono ?_; rintro e w2 ⟨rfl, rfl⟩))
      go_ret
      exact ⟨rfl, Bl.alloc (Bl.refl _) _⟩
    | true =>
      rw [hi] at CI
      have CB := Lib.hid (fun W => sbare_any 1 sid 0 sfr (St.to ⟨1, sid, snd, sfr, sto, kids⟩) kp kn kc W)
      generalize bareB 0 sfr (St.to ⟨1, sid, snd, sfr, sto, kids⟩) kn = bb at CB ⊢
      go_enter Tryz.func92, Tryz.ntmps92
      go_wp2_with (first | (go_at_call 125; refine (CK.out _).mono ?_; rintro e w1 ⟨rfl, rfl⟩) | (go_at_call 128; refine (CI.out _).mono ?_; rintro e w2 ⟨rfl, rfl⟩) | (go_at_call 129; refine (CB.out _).mono ?_; rintro e w3 ⟨rfl, hb3⟩; have B3 := Lib.hid hb3; clear hb3))
      go_ret
      exact ⟨rfl, Bl.call (Bl.alloc (Bl.refl _) _) B3.out⟩

set_option maxRecDepth 100000 in
set_option maxHeartbeats 4000000 in
theorem smay_3 (s : St) (kp : Option Addr) (kc : Nat) (w : World) (hk : s.kd = 3) (hl : s.kids.length ≤ 140737488355328) : Calls Tryz.prog 92 #[stV s kp kc] w (RetBelow (.returned (.bool (stepMay s))) w) := by
  rw [sm_3 s hk]
  obtain ⟨skd, sid, snd, sfr, sto, kids⟩ := s
  dsimp only at hk hl ⊢
  subst hk
  unfold stV
  dsimp only
  have CI := Lib.hid (sid_any sid)
  generalize kids.length = kn at *
  have CK := Lib.hid (sspan_any sfr (St.to ⟨3, sid, snd, sfr, sto, kids⟩))
  cases hf : spanB sfr (St.to ⟨3, sid, snd, sfr, sto, kids⟩) with
  | false =>
    rw [hf] at CK
    go_enter Tryz.func92, Tryz.ntmps92
    go_wp2_with (first | (go_at_call 127; refine (CK.out _).mono ?_; rintro e w1 ⟨rfl, rfl⟩) | fail)
    go_ret
    exact ⟨rfl, Bl.alloc (Bl.refl _) _⟩
  | true =>
    rw [hf] at CK
    cases hi : idB sid with
    | false =>
      rw [hi] at CI
      go_enter Tryz.func92, Tryz.ntmps92
      go_wp2_with (first | (go_at_call 127; refine (CK.out _).mono ?_; rintro e w1 ⟨rfl, rfl⟩) | (go_at_call 128; refine (CI.out _).mono ?_; rintro e w2 ⟨rfl, rfl⟩))
      go_ret
      exact ⟨rfl, Bl.alloc (Bl.refl _) _⟩
    | true =>
      rw [hi] at CI
      have CB := Lib.hid (fun W => sbare_any 3 sid snd 0 0 kp kn kc W)
      generalize bareB snd 0 0 kn = bb at CB ⊢
      go_enter Tryz.func92, Tryz.ntmps92
      go_wp2_with (first | (go_at_call 127; refine (CK.out _).mono ?_; rintro e w1 ⟨rfl, rfl⟩) | (go_at_call 128; refine (CI.out _).mono ?_; rintro e w2 ⟨rfl, rfl⟩) | (go_at_call 129; refine (CB.out _).mono ?_; rintro e w3 ⟨rfl, hb3⟩; have B3 := Lib.hid hb3; clear hb3))
      go_ret
      exact ⟨rfl, Bl.call (Bl.alloc (Bl.refl _) _) B3.out⟩

set_option maxRecDepth 100000 in
set_option maxHeartbeats 4000000 in
theorem smay_2 (s : St) (kp : Option Addr) (kc : Nat) (w : World) (hk : s.kd = 2) (hr : lyI.Row w kp s.kids) (hl : s.kids.length ≤ 140737488355328) : Calls Tryz.prog 92 #[stV s kp kc] w (RetBelow (.returned (.bool (stepMay s))) w) := by
  rw [sm_2 s hk]
  obtain ⟨skd, sid, snd, sfr, sto, kids⟩ := s
  dsimp only at hk hl hr ⊢
  subst hk
  unfold stV
  dsimp only
  have CI := Lib.hid (sid_any sid)
  obtain ⟨kn, hn⟩ : ∃ kn, kids.length = kn := ⟨_, rfl⟩
  rw [hn] at hl ⊢
  have HN := Lib.hid hn
  clear hn
  have CKR : Hid (Bl w (w.alloc (.cells #[.int .i64 2, .int .i64 sid, .int .i64 snd, .int .i64 sfr, .int .i64 (St.to ⟨2, sid, snd, sfr, sto, kids⟩), .slice kp kn kc] 51))) := Lib.hid (Bl.alloc (Bl.refl _) _)
  have CK := Lib.hid (fun W (hW : Bl w W) => skids_any kp kids kn kc HN.out W (hr.below hW) hl)
  cases hf : (kids.all idB && decide (kn ≤ 2048)) with
  | false =>
    rw [hf] at CK
    go_enter Tryz.func92, Tryz.ntmps92
    go_wp2_with (first | (go_at_call 126; refine (CK.out _ CKR.out).mono ?_; rintro e w1 ⟨rfl, rfl⟩) | fail)
    go_ret
    exact ⟨rfl, Bl.alloc (Bl.refl _) _⟩
  | true =>
    rw [hf] at CK
    cases hi : idB sid with
    | false =>
      rw [hi] at CI
      go_enter Tryz.func92, Tryz.ntmps92
      go_wp2_with (first | (go_at_call 126; refine (CK.out _ CKR.out).mono ?_; rintro e w1 ⟨rfl, rfl⟩) | (go_at_call 128; refine (CI.out _).mono ?_; rintro e w2 ⟨rfl, rfl⟩))
      go_ret
      exact ⟨rfl, Bl.alloc (Bl.refl _) _⟩
    | true =>
      rw [hi] at CI
      have CB := Lib.hid (fun W => sbare_any 2 sid snd sfr (St.to ⟨2, sid, snd, sfr, sto, kids⟩) none 0 0 W)
      generalize bareB snd sfr (St.to ⟨2, sid, snd, sfr, sto, kids⟩) 0 = bb at CB ⊢
      go_enter Tryz.func92, Tryz.ntmps92
      go_wp2_with (first | (go_at_call 126; refine (CK.out _ CKR.out).mono ?_; rintro e w1 ⟨rfl, rfl⟩) | (go_at_call 128; refine (CI.out _).mono ?_; rintro e w2 ⟨rfl, rfl⟩) | (go_at_call 129; refine (CB.out _).mono ?_; rintro e w3 ⟨rfl, hb3⟩; have B3 := Lib.hid hb3; clear hb3))
      go_ret
      exact ⟨rfl, Bl.call (Bl.alloc (Bl.refl _) _) B3.out⟩

set_option maxRecDepth 100000 in
set_option maxHeartbeats 4000000 in
theorem smay_x (s : St) (kp : Option Addr) (kc : Nat) (w : World) (h0 : ¬ s.kd = 0) (h1 : ¬ s.kd = 1) (h2 : ¬ s.kd = 2) (h3 : ¬ s.kd = 3) : Calls Tryz.prog 92 #[stV s kp kc] w (RetBelow (.returned (.bool (stepMay s))) w) := by
  rw [sm_x s h0 h1 h2 h3]
  obtain ⟨skd, sid, snd, sfr, sto, kids⟩ := s
  dsimp only at h0 h1 h2 h3
  have q0 : (skd == 0) = false := beq_eq_false_iff_ne.2 h0
  have q1 : (skd == 1) = false := beq_eq_false_iff_ne.2 h1
  have q2 : (skd == 2) = false := beq_eq_false_iff_ne.2 h2
  have q3 : (skd == 3) = false := beq_eq_false_iff_ne.2 h3
  unfold stV
  dsimp only
  generalize kids.length = kn at *
  go_enter Tryz.func92, Tryz.ntmps92
  go_wp2_with fail
  all_goals
    go_ret
    exact ⟨rfl, Bl.alloc (Bl.refl _) _⟩
/-- The program's step.May, at every step. -/
theorem smay_any (s : St) (kp : Option Addr) (kc : Nat) (w : World) (hr : lyI.Row w kp s.kids) (hl : s.kids.length ≤ 140737488355328) : Calls Tryz.prog 92 #[stV s kp kc] w (RetBelow (.returned (.bool (stepMay s))) w) := by
  by_cases h0 : s.kd = 0
  · exact smay_0 s kp kc w h0 hl
  · by_cases h1 : s.kd = 1
    · exact smay_1 s kp kc w h1 hl
    · by_cases h2 : s.kd = 2
      · exact smay_2 s kp kc w h2 hr hl
      · by_cases h3 : s.kd = 3
        · exact smay_3 s kp kc w h3 hl
        · exact smay_x s kp kc w h0 h1 h2 h3

end Go.Proofs.YtjmfjlffcopnnaaGreatDoor

namespace Go.Proofs.YtjmfjlffcopnnaaGreatDoor
open Go.RowKit
open Go.Proofs.YtjmfjlffcopnnaaGreatDoor.K (C RowC MayP)

theorem tells_bool {c : Bool} {w w' : World} {e : Ending} (h : RetBelow (.returned (.bool c)) w e w') : Tells (c = true) w e w' := by
  obtain ⟨rfl, hb⟩ := h
  cases c with
  | true => exact tells_yes rfl hb
  | false => exact tells_no (by decide) hb
theorem ncount_any (x : Int) (w : World) : Calls Tryz.prog 41 #[.int .i64 x] w (fun e w' => e = .returned (.bool (decide (0 ≤ x ∧ x ≤ 4096))) ∧ w' = w) := by
  by_cases a1 : 0 ≤ x
  · by_cases a2 : x ≤ 4096
    · go_enter Tryz.func41, Tryz.ntmps41
      go_wp2_with fail
      go_ret
      exact ⟨retB (by simp [a1, a2]), rfl⟩
    · go_enter Tryz.func41, Tryz.ntmps41
      go_wp2_with fail
      go_ret
      exact ⟨retB (by simp [a2]), rfl⟩
  · go_enter Tryz.func41, Tryz.ntmps41
    go_wp2_with fail
    go_ret
    exact ⟨retB (by simp; omega), rfl⟩
theorem nclient_any (x : Int) (w : World) : Calls Tryz.prog 43 #[.int .i64 x] w (fun e w' => e = .returned (.bool (decide (0 ≤ x ∧ x < 3))) ∧ w' = w) := by
  by_cases a1 : 0 ≤ x
  · by_cases a2 : x < 3
    · go_enter Tryz.func43, Tryz.ntmps43
      go_wp2_with fail
      go_ret
      exact ⟨retB (by simp [a1, a2]), rfl⟩
    · go_enter Tryz.func43, Tryz.ntmps43
      go_wp2_with fail
      go_ret
      exact ⟨retB (by simp [a2]), rfl⟩
  · go_enter Tryz.func43, Tryz.ntmps43
    go_wp2_with fail
    go_ret
    exact ⟨retB (by simp; omega), rfl⟩
set_option maxRecDepth 100000 in
set_option maxHeartbeats 4000000 in
theorem ncls_any (x : St) (kp : Option Addr) (kc : Nat) (fb : Nat) (w : World) (hf : w.heap[fb]? = some (.cells #[.func (.func 92) #[] #[]] 132 (0, 0))) (hr : lyI.Row w kp x.kids) (hl : x.kids.length ≤ 140737488355328) : Calls Tryz.prog 124 #[.agg #[.int .i64 x.kd, .int .i64 x.id, .int .i64 x.nd, .int .i64 x.fr, .int .i64 (St.to x), .slice kp x.kids.length kc], .pointer (some ⟨fb, 0, none⟩)] w (Tells (¬ stepMay x = true) w) := by
  have hr := Lib.hid hr
  have F := Lib.hid hf
  clear hf
  have B0 : Hid (Bl w (w.alloc (.cells #[.int .i64 x.kd, .int .i64 x.id, .int .i64 x.nd, .int .i64 x.fr, .int .i64 (St.to x), .slice kp x.kids.length kc] 51))) := Lib.hid (Bl.alloc (Bl.refl w) _)
  have ON := Lib.hid (fun (W : World) (hW : Bl w W) => ((smay_any x kp kc W (hr.out.below hW) hl).mono (fun _ _ h => tells_bool h)))
  unfold stV at ON
  clear hl
  clear hr
  have f0 : (w.alloc (.cells #[.int .i64 x.kd, .int .i64 x.id, .int .i64 x.nd, .int .i64 x.fr, .int .i64 (St.to x), .slice kp x.kids.length kc] 51)).cell? ⟨fb, 0, none⟩ = some (.func (.func 92) #[] #[]) := (obj_cells (heap_later F.out B0.out)).1 0 _ rfl
  go_enter Tryz.func124, Tryz.ntmps124
  go_wp2_with (go_at_call 92; refine (ON.out _ B0.out).mono ?_; rintro e w2 ⟨hb, ⟨rfl, h1⟩ | ⟨rfl, h1⟩⟩ <;> (have B2 := Lib.hid (B0.out.trans (hb.mono B0.out.size)); have H1 := Lib.hid h1; clear hb h1))
  · go_ret
    exact tells_no (fun h => h H1.out) B2.out
  · go_ret
    exact tells_yes H1.out B2.out
def NIxS (l : List St) (w : World) (en : Ending) (w' : World) : Prop := Bl w w' ∧ ((∃ i : Nat, en = .returned (.int .i64 i) ∧ ¬ ∀ x ∈ l, stepMay x = true) ∨ (en = .returned (.int .i64 (-1)) ∧ ∀ x ∈ l, stepMay x = true))
set_option maxRecDepth 100000 in
set_option maxHeartbeats 4000000 in
theorem nixs_any (l : List St) (p : Option Addr) (n cap : Nat) (hn : l.length = n) (hl : n ≤ 140737488355328) (fb : Nat) (w : World) (hf : w.heap[fb]? = some (.cells #[.func (.func 92) #[] #[]] 132 (0, 0))) (h : StepsR w p l) (hk : ∀ s ∈ l, s.kids.length ≤ 140737488355328) : Calls Tryz.prog 146 #[.slice p n cap, .func (.func 124) #[] #[.pointer (some ⟨fb, 0, none⟩)]] w (NIxS l w) := by
  have F := Lib.hid hf; have R := Lib.hid h; have HN := Lib.hid hn; have HK := Lib.hid hk
  clear hf h hn hk
  go_enter Tryz.func146, Tryz.ntmps146
  go_wp2_with fail
  go_loopw [8, 5] (fun v _ wr => ∃ i : Nat, i ≤ n ∧ v = .int .i64 i ∧ Hid (∀ (j : Nat) x, j < i → l[j]? = some x → stepMay x = true) ∧ Hid (Bl w wr)) (fun v _ _ => n - (intOf v).toNat)
  case atStart => exact ⟨0, by omega, rfl, Lib.hid (fun j x hj => absurd hj (Nat.not_lt_zero _)), Lib.hid (Bl.refl _)⟩
  case round =>
    obtain ⟨i, hi, rfl, D, B⟩ := hrel
    by_cases hlt : i < n
    · obtain ⟨x, hx⟩ : ∃ x, l[i]? = some x := ⟨_, List.getElem?_eq_getElem (by rw [HN.out]; exact hlt)⟩
      obtain ⟨ab, ao, kp, kc, rfl, hat, hrow⟩ := R.out i x hx
      have m1 := hat.below B.out
      have n0 : wr.cell? ⟨ab, ao + i * 6, none⟩ = some (.int .i64 x.kd) := m1 0 _ rfl
      have n1 : wr.cell? ⟨ab, ao + i * 6 + 1, none⟩ = some (.int .i64 x.id) := m1 1 _ rfl
      have n2 : wr.cell? ⟨ab, ao + i * 6 + 2, none⟩ = some (.int .i64 x.nd) := m1 2 _ rfl
      have n3 : wr.cell? ⟨ab, ao + i * 6 + 3, none⟩ = some (.int .i64 x.fr) := m1 3 _ rfl
      have n4 : wr.cell? ⟨ab, ao + i * 6 + 4, none⟩ = some (.int .i64 (St.to x)) := m1 4 _ rfl
      have n5 : wr.cell? ⟨ab, ao + i * 6 + 5, none⟩ = some (.slice kp x.kids.length kc) := m1 5 _ rfl
      have hi0 : (0 : Int) ≤ (i : Int) := by omega
      have hi1 : (i : Int) < (n : Int) := by omega
      have CC := Lib.hid (ncls_any x kp kc fb wr (heap_later F.out B.out) (hrow.below B.out) (HK.out x (List.mem_of_getElem? hx)))
      have HX := Lib.hid hx
      clear m1 hat hrow hx
      go_wp2_with (go_at_call 124; refine CC.out.mono ?_; rintro e w2 ⟨hb, ⟨rfl, h1⟩ | ⟨rfl, h1⟩⟩ <;> (have B2 := Lib.hid (B.out.trans (hb.mono B.out.size)); have H1 := Lib.hid h1; clear hb h1))
      · go_ret
        exact ⟨B2.out, .inl ⟨i, rfl, fun h => H1.out (h x (List.mem_of_getElem? HX.out))⟩⟩
      · go_roundw
        case rel =>
          refine ⟨i + 1, by omega, by go_num, Lib.hid (fun j y hj hy => ?_), B2⟩
          by_cases hji : j = i
          · subst hji
            rw [HX.out] at hy
            cases hy
            exact Classical.not_not.1 H1.out
          · exact D.out j y (by omega) hy
        case measure => simp [intOf]; omega
    · go_wp2_with fail
      go_ret
      refine ⟨B.out, .inr ⟨rfl, fun x hx => ?_⟩⟩
      obtain ⟨j, hj⟩ := List.mem_iff_getElem?.1 hx
      exact D.out j x (by have := (List.getElem?_eq_some_iff.1 hj).1; rw [HN.out] at this; omega) hj
set_option maxRecDepth 100000 in
set_option maxHeartbeats 4000000 in
theorem ncts_any (l : List St) (p : Option Addr) (n cap : Nat) (hn : l.length = n) (hl : n ≤ 140737488355328) (fb : Nat) (w : World) (hf : w.heap[fb]? = some (.cells #[.func (.func 92) #[] #[]] 132 (0, 0))) (h : StepsR w p l) (hk : ∀ s ∈ l, s.kids.length ≤ 140737488355328) : Calls Tryz.prog 123 #[.slice p n cap, .func (.func 124) #[] #[.pointer (some ⟨fb, 0, none⟩)]] w (Tells (¬ ∀ x ∈ l, stepMay x = true) w) := by
  have D := Lib.hid (nixs_any l p n cap hn hl fb w hf h hk)
  clear hn hf h hk
  go_enter Tryz.func123, Tryz.ntmps123
  go_upto_region 1 with fail
  go_wp2_with (go_at_call 146; refine D.out.mono ?_; rintro e w2 ⟨hb, ⟨i, rfl, h1⟩ | ⟨rfl, h1⟩⟩ <;> (have B2 := Lib.hid hb; have H1 := Lib.hid h1; clear hb h1))
  · go_ret
    exact ⟨B2.out, .inl ⟨retB (by simp), H1.out⟩⟩
  · go_ret
    exact ⟨B2.out, .inr ⟨retB (by decide), fun h => h H1.out⟩⟩
set_option maxRecDepth 100000 in
set_option maxHeartbeats 4000000 in
theorem nevs_any (l : List St) (p : Option Addr) (n cap : Nat) (hn : l.length = n) (hl : n ≤ 140737488355328) (w : World) (h : StepsR w p l) (hk : ∀ s ∈ l, s.kids.length ≤ 140737488355328) : Calls Tryz.prog 91 #[.slice p n cap, .func (.func 92) #[] #[]] w (Tells (∀ x ∈ l, stepMay x = true) w) := by
  have B0 : Hid (Bl w (w.alloc (.cells #[.func (.func 92) #[] #[]] 132))) := Lib.hid (Bl.alloc (Bl.refl w) _)
  have D := Lib.hid (ncts_any l p n cap hn hl w.heap.size (w.alloc (.cells #[.func (.func 92) #[] #[]] 132)) (heap_alloc_new w _) (h.below B0.out) hk)
  clear hn h hk
  go_enter Tryz.func91, Tryz.ntmps91
  go_wp2_with (go_at_call 123; refine D.out.mono ?_; rintro e w2 ⟨hb, ⟨rfl, h1⟩ | ⟨rfl, h1⟩⟩ <;> (have B2 := Lib.hid (B0.out.trans (hb.mono B0.out.size)); have H1 := Lib.hid h1; clear hb h1))
  · go_ret
    exact tells_no H1.out B2.out
  · go_ret
    exact tells_yes (Classical.not_not.1 H1.out) B2.out

end Go.Proofs.YtjmfjlffcopnnaaGreatDoor
