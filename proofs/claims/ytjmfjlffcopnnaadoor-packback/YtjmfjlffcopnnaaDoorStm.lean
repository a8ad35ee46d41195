/-
  The walk of the program's step.May: it answers whether a step may be. Conditions: as each theorem's premises say.
-/
import Derived.Test.YtjmfjlffcopnnaaDoorM20
namespace Go.Proofs.YtjmfjlffcopnnaaDoor
open Go.RowKit

def kindB (k : Int) : Bool := decide (0 ≤ k) && decide (k ≤ 7)
def spanB (a b : Int) : Bool := decide (0 ≤ a) && decide (a ≤ b) && decide (b ≤ 4096)
set_option maxRecDepth 100000 in
set_option maxHeartbeats 400000 in
theorem sid_any (k : Int) (w : World) : Calls Tryd.prog 76 #[.int .i64 k] w fun e w' => e = .returned (.bool (idB k)) ∧ w = w' := by
  go_enter Tryd.func76, Tryd.ntmps76
  go_wp2
  all_goals
    go_ret
    exact ⟨retB (by rw [Bool.eq_iff_iff]; first | (simp_all [idB]; done) | (simp_all [idB]; omega)), rfl⟩
set_option maxRecDepth 100000 in
set_option maxHeartbeats 400000 in
theorem skind_any (k : Int) (w : World) : Calls Tryd.prog 73 #[.int .i64 k] w fun e w' => e = .returned (.bool (kindB k)) ∧ w = w' := by
  go_enter Tryd.func73, Tryd.ntmps73
  go_wp2
  all_goals
    go_ret
    exact ⟨retB (by rw [Bool.eq_iff_iff]; first | (simp_all [kindB]; done) | (simp_all [kindB]; omega)), rfl⟩
set_option maxRecDepth 100000 in
set_option maxHeartbeats 400000 in
theorem sspan_any (a b : Int) (w : World) : Calls Tryd.prog 75 #[.int .i64 a, .int .i64 b] w fun e w' => e = .returned (.bool (spanB a b)) ∧ w = w' := by
  go_enter Tryd.func75, Tryd.ntmps75
  go_wp2
  all_goals
    go_ret
    exact ⟨retB (by rw [Bool.eq_iff_iff]; first | (simp_all [spanB]; done) | (simp_all [spanB]; omega)), rfl⟩

set_option maxRecDepth 100000 in
set_option maxHeartbeats 1000000 in
theorem skids_any (kp : Option Addr) (ks : List Int) (n kc : Nat) (hn : ks.length = n) (w : World) (hr : lyI.Row w kp ks) (hl : n ≤ 140737488355328) : Calls Tryd.prog 74 #[.slice kp n kc] w fun e w' => e = .returned (.bool (ks.all idB && decide (n ≤ 2048))) ∧ w = w' := by
  have R := Lib.hid hr; have HN := Lib.hid hn
  clear hr hn
  by_cases h1 : 2048 < n
  · have q : decide (n ≤ 2048) = false := decide_eq_false (by omega)
    rw [q, Bool.and_false]
    go_enter Tryd.func74, Tryd.ntmps74
    go_wp2_with fail
    go_ret
    exact ⟨rfl, rfl⟩
  · have q : decide (n ≤ 2048) = true := decide_eq_true (by omega)
    rw [q, Bool.and_true]
    clear q
    go_enter Tryd.func74, Tryd.ntmps74
    go_wp2_with fail
    go_loopw [10, 4] (fun v _ wr => ∃ j : Nat, j ≤ n ∧ v = .int .i64 j ∧ w = wr ∧ Hid ((ks.drop j).all idB = ks.all idB)) (fun v _ _ => n - (intOf v).toNat)
    case atStart => exact ⟨0, by omega, rfl, rfl, Lib.hid rfl⟩
    case round =>
      obtain ⟨j, hj, rfl, rfl, E⟩ := hrel
      by_cases hlt : j < n
      · obtain ⟨x, hx⟩ : ∃ x, ks[j]? = some x := ⟨_, List.getElem?_eq_getElem (by rw [HN.out]; exact hlt)⟩
        obtain ⟨b, o, rfl, hat⟩ := R.out j x hx
        have n0 : w.cell? ⟨b, o + j, none⟩ = some (.int .i64 x) := by
          have := hat 0 _ rfl
          simpa [lyI] using this
        have hi0 : (0 : Int) ≤ (j : Int) := by omega
        have hi1 : (j : Int) < (n : Int) := by omega
        have DA : Hid (ks.drop j = x :: ks.drop (j + 1)) := Lib.hid (by
          obtain ⟨hl', he'⟩ := List.getElem?_eq_some_iff.1 hx
          rw [List.drop_eq_getElem_cons hl', he'])
        clear hat hx
        cases hb : idB x with
        | false =>
          have F : Hid (ks.all idB = false) := Lib.hid (by rw [← E.out, DA.out]; simp [hb])
          have CI := Lib.hid (sid_any x w)
          rw [hb] at CI
          clear hb
          go_wp2_with (go_at_call 76; refine CI.out.mono ?_; rintro e w1 ⟨rfl, rfl⟩)
          go_ret
          exact ⟨retB (by rw [F.out]), rfl⟩
        | true =>
          have E' : Hid ((ks.drop (j + 1)).all idB = ks.all idB) := Lib.hid (by rw [← E.out, DA.out]; simp [hb])
          have CI := Lib.hid (sid_any x w)
          rw [hb] at CI
          clear hb
          go_wp2_with (go_at_call 76; refine CI.out.mono ?_; rintro e w1 ⟨rfl, rfl⟩)
          go_roundw
          case rel => exact ⟨j + 1, by omega, by go_num, trivial, E'⟩
          case measure => simp [intOf]; omega
      · have F : Hid (ks.all idB = true) := Lib.hid (by rw [← E.out, List.drop_eq_nil_of_le (by rw [HN.out]; omega)]; rfl)
        go_wp2_with fail
        go_ret
        exact ⟨retB (by rw [F.out]), rfl⟩

def bareB (nd fr tt : Int) (kn : Nat) : Bool := nd == 0 && fr == 0 && tt == 0 && decide (kn = 0)
set_option maxRecDepth 100000 in
set_option maxHeartbeats 1000000 in
theorem sbare_any (kd id nd fr tt : Int) (kp : Option Addr) (kn kc : Nat) (w : World) : Calls Tryd.prog 77 #[.agg #[.int .i64 kd, .int .i64 id, .int .i64 nd, .int .i64 fr, .int .i64 tt, .slice kp kn kc]] w (RetBelow (.returned (.bool (bareB nd fr tt kn))) w) := by
  go_enter Tryd.func77, Tryd.ntmps77
  go_wp2_with fail
  all_goals
    go_ret
    exact ⟨retB (by unfold bareB; first | (simp_all; done) | (simp_all; omega) | (rw [Bool.eq_iff_iff]; simp_all; done) | (rw [Bool.eq_iff_iff]; simp_all; omega)), below1 (Below.refl _ _) (Nat.le_refl _) _⟩

/-! step.May itself, kind by kind: what is asked, and what is left bare -/
theorem sm_0 (s : St) (h : s.kd = 0) : stepMay s = (idB s.id && bareB s.nd s.fr (St.to s) s.kids.length) := by
  obtain ⟨kd, id, nd, fr, sto, kids⟩ := s
  dsimp only at h
  subst h
  unfold stepMay bareB
  cases kids <;> simp
theorem sm_1 (s : St) (h : s.kd = 1) : stepMay s = (kindB s.nd && idB s.id && bareB 0 s.fr (St.to s) s.kids.length) := by
  obtain ⟨kd, id, nd, fr, sto, kids⟩ := s
  dsimp only at h
  subst h
  unfold stepMay bareB kindB
  cases kids <;> simp [Bool.and_assoc, Bool.and_left_comm]
theorem sm_2 (s : St) (h : s.kd = 2) : stepMay s = ((s.kids.all idB && decide (s.kids.length ≤ 2048)) && idB s.id && bareB s.nd s.fr (St.to s) 0) := by
  obtain ⟨kd, id, nd, fr, sto, kids⟩ := s
  dsimp only at h
  subst h
  unfold stepMay bareB
  rw [Bool.eq_iff_iff]
  constructor <;> intro h <;> simp_all
theorem sm_3 (s : St) (h : s.kd = 3) : stepMay s = (spanB s.fr (St.to s) && idB s.id && bareB s.nd 0 0 s.kids.length) := by
  obtain ⟨kd, id, nd, fr, sto, kids⟩ := s
  dsimp only at h
  subst h
  unfold stepMay bareB spanB
  cases kids <;> simp [Bool.and_assoc, Bool.and_left_comm] <;> (rw [Bool.eq_iff_iff]; simp; try (intro _; constructor <;> (rintro ⟨h1, h2, h3, h4⟩; simp_all)))
theorem sm_x (s : St) (h0 : ¬ s.kd = 0) (h1 : ¬ s.kd = 1) (h2 : ¬ s.kd = 2) (h3 : ¬ s.kd = 3) : stepMay s = false := by
  obtain ⟨kd, id, nd, fr, sto, kids⟩ := s
  dsimp only at h0 h1 h2 h3
  unfold stepMay
  simp [h0, h1, h2, h3]

theorem and_f3 {a b c : Bool} (h : a = false) : (a && b && c) = false := by rw [h]; rfl
theorem and_t3 {a b c : Bool} (h : a = true) : (a && b && c) = (b && c) := by rw [h, Bool.true_and]

set_option maxRecDepth 100000 in
set_option maxHeartbeats 4000000 in
theorem smay_0 (s : St) (kp : Option Addr) (kc : Nat) (w : World) (hk : s.kd = 0) (hl : s.kids.length ≤ 140737488355328) : Calls Tryd.prog 50 #[stV s kp kc] w (RetBelow (.returned (.bool (stepMay s))) w) := by
  rw [sm_0 s hk]
  obtain ⟨skd, sid, snd, sfr, sto, kids⟩ := s
  dsimp only at hk hl ⊢
  subst hk
  unfold stV
  dsimp only
  have CI := Lib.hid (sid_any sid)
  generalize kids.length = kn at *
  cases hi : idB sid with
  | false =>
    rw [hi] at CI
    go_enter Tryd.func50, Tryd.ntmps50
    go_wp2_with (first | (go_at_call 76; refine (CI.out _).mono ?_; rintro e w2 ⟨rfl, rfl⟩))
    go_ret
    exact ⟨rfl, Bl.alloc (Bl.refl _) _⟩
  | true =>
    rw [hi] at CI
    have CB := Lib.hid (fun W => sbare_any 0 sid snd sfr (St.to ⟨0, sid, snd, sfr, sto, kids⟩) kp kn kc W)
    generalize bareB snd sfr (St.to ⟨0, sid, snd, sfr, sto, kids⟩) kn = bb at CB ⊢
    go_enter Tryd.func50, Tryd.ntmps50
    go_wp2_with (first | (go_at_call 76; refine (CI.out _).mono ?_; rintro e w2 ⟨rfl, rfl⟩) | (go_at_call 77; refine (CB.out _).mono ?_; rintro e w3 ⟨rfl, hb3⟩; have B3 := Lib.hid hb3; clear hb3))
    go_ret
    exact ⟨rfl, Bl.call (Bl.alloc (Bl.refl _) _) B3.out⟩

set_option maxRecDepth 100000 in
set_option maxHeartbeats 4000000 in
theorem smay_1 (s : St) (kp : Option Addr) (kc : Nat) (w : World) (hk : s.kd = 1) (hl : s.kids.length ≤ 140737488355328) : Calls Tryd.prog 50 #[stV s kp kc] w (RetBelow (.returned (.bool (stepMay s))) w) := by
  rw [sm_1 s hk]
  obtain ⟨skd, sid, snd, sfr, sto, kids⟩ := s
  dsimp only at hk hl ⊢
  subst hk
  unfold stV
  dsimp only
  have CI := Lib.hid (sid_any sid)
  generalize kids.length = kn at *
  have CK := Lib.hid (skind_any snd)
  cases hf : kindB snd with
  | false =>
    rw [hf] at CK
    go_enter Tryd.func50, Tryd.ntmps50
    go_wp2_with (first | (go_at_call 73; refine (CK.out _).mono ?_; rintro e w1 ⟨rfl, rfl⟩) | fail)
    go_ret
    exact ⟨rfl, Bl.alloc (Bl.refl _) _⟩
  | true =>
    rw [hf] at CK
    cases hi : idB sid with
    | false =>
      rw [hi] at CI
      go_enter Tryd.func50, Tryd.ntmps50
      go_wp2_with (first | (go_at_call 73; refine (CK.out _).mono ?_; rintro e w1 ⟨rfl, rfl⟩) | (go_at_call 76; refine (CI.out _).mono ?_; rintro e w2 ⟨rfl, rfl⟩))
      go_ret
      exact ⟨rfl, Bl.alloc (Bl.refl _) _⟩
    | true =>
      rw [hi] at CI
      have CB := Lib.hid (fun W => sbare_any 1 sid 0 sfr (St.to ⟨1, sid, snd, sfr, sto, kids⟩) kp kn kc W)
      generalize bareB 0 sfr (St.to ⟨1, sid, snd, sfr, sto, kids⟩) kn = bb at CB ⊢
      go_enter Tryd.func50, Tryd.ntmps50
      go_wp2_with (first | (go_at_call 73; refine (CK.out _).mono ?_; rintro e w1 ⟨rfl, rfl⟩) | (go_at_call 76; refine (CI.out _).mono ?_; rintro e w2 ⟨rfl, rfl⟩) | (go_at_call 77; refine (CB.out _).mono ?_; rintro e w3 ⟨rfl, hb3⟩; have B3 := Lib.hid hb3; clear hb3))
      go_ret
      exact ⟨rfl, Bl.call (Bl.alloc (Bl.refl _) _) B3.out⟩

set_option maxRecDepth 100000 in
set_option maxHeartbeats 4000000 in
theorem smay_3 (s : St) (kp : Option Addr) (kc : Nat) (w : World) (hk : s.kd = 3) (hl : s.kids.length ≤ 140737488355328) : Calls Tryd.prog 50 #[stV s kp kc] w (RetBelow (.returned (.bool (stepMay s))) w) := by
  rw [sm_3 s hk]
  obtain ⟨skd, sid, snd, sfr, sto, kids⟩ := s
  dsimp only at hk hl ⊢
  subst hk
  unfold stV
  dsimp only
  have CI := Lib.hid (sid_any sid)
  generalize kids.length = kn at *
  have CK := Lib.hid (sspan_any sfr (St.to ⟨3, sid, snd, sfr, sto, kids⟩))
  cases hf : spanB sfr (St.to ⟨3, sid, snd, sfr, sto, kids⟩) with
  | false =>
    rw [hf] at CK
    go_enter Tryd.func50, Tryd.ntmps50
    go_wp2_with (first | (go_at_call 75; refine (CK.out _).mono ?_; rintro e w1 ⟨rfl, rfl⟩) | fail)
    go_ret
    exact ⟨rfl, Bl.alloc (Bl.refl _) _⟩
  | true =>
    rw [hf] at CK
    cases hi : idB sid with
    | false =>
      rw [hi] at CI
      go_enter Tryd.func50, Tryd.ntmps50
      go_wp2_with (first | (go_at_call 75; refine (CK.out _).mono ?_; rintro e w1 ⟨rfl, rfl⟩) | (go_at_call 76; refine (CI.out _).mono ?_; rintro e w2 ⟨rfl, rfl⟩))
      go_ret
      exact ⟨rfl, Bl.alloc (Bl.refl _) _⟩
    | true =>
      rw [hi] at CI
      have CB := Lib.hid (fun W => sbare_any 3 sid snd 0 0 kp kn kc W)
      generalize bareB snd 0 0 kn = bb at CB ⊢
      go_enter Tryd.func50, Tryd.ntmps50
      go_wp2_with (first | (go_at_call 75; refine (CK.out _).mono ?_; rintro e w1 ⟨rfl, rfl⟩) | (go_at_call 76; refine (CI.out _).mono ?_; rintro e w2 ⟨rfl, rfl⟩) | (go_at_call 77; refine (CB.out _).mono ?_; rintro e w3 ⟨rfl, hb3⟩; have B3 := Lib.hid hb3; clear hb3))
      go_ret
      exact ⟨rfl, Bl.call (Bl.alloc (Bl.refl _) _) B3.out⟩

set_option maxRecDepth 100000 in
set_option maxHeartbeats 4000000 in
theorem smay_2 (s : St) (kp : Option Addr) (kc : Nat) (w : World) (hk : s.kd = 2) (hr : lyI.Row w kp s.kids) (hl : s.kids.length ≤ 140737488355328) : Calls Tryd.prog 50 #[stV s kp kc] w (RetBelow (.returned (.bool (stepMay s))) w) := by
  rw [sm_2 s hk]
  obtain ⟨skd, sid, snd, sfr, sto, kids⟩ := s
  dsimp only at hk hl hr ⊢
  subst hk
  unfold stV
  dsimp only
  have CI := Lib.hid (sid_any sid)
  obtain ⟨kn, hn⟩ : ∃ kn, kids.length = kn := ⟨_, rfl⟩
  rw [hn] at hl ⊢
  have HN := Lib.hid hn
  clear hn
  have CKR : Hid (Bl w (w.alloc (.cells #[.int .i64 2, .int .i64 sid, .int .i64 snd, .int .i64 sfr, .int .i64 (St.to ⟨2, sid, snd, sfr, sto, kids⟩), .slice kp kn kc] 45))) := Lib.hid (Bl.alloc (Bl.refl _) _)
  have CK := Lib.hid (fun W (hW : Bl w W) => skids_any kp kids kn kc HN.out W (hr.below hW) hl)
  cases hf : (kids.all idB && decide (kn ≤ 2048)) with
  | false =>
    rw [hf] at CK
    go_enter Tryd.func50, Tryd.ntmps50
    go_wp2_with (first | (go_at_call 74; refine (CK.out _ CKR.out).mono ?_; rintro e w1 ⟨rfl, rfl⟩) | fail)
    go_ret
    exact ⟨rfl, Bl.alloc (Bl.refl _) _⟩
  | true =>
    rw [hf] at CK
    cases hi : idB sid with
    | false =>
      rw [hi] at CI
      go_enter Tryd.func50, Tryd.ntmps50
      go_wp2_with (first | (go_at_call 74; refine (CK.out _ CKR.out).mono ?_; rintro e w1 ⟨rfl, rfl⟩) | (go_at_call 76; refine (CI.out _).mono ?_; rintro e w2 ⟨rfl, rfl⟩))
      go_ret
      exact ⟨rfl, Bl.alloc (Bl.refl _) _⟩
    | true =>
      rw [hi] at CI
      have CB := Lib.hid (fun W => sbare_any 2 sid snd sfr (St.to ⟨2, sid, snd, sfr, sto, kids⟩) none 0 0 W)
      generalize bareB snd sfr (St.to ⟨2, sid, snd, sfr, sto, kids⟩) 0 = bb at CB ⊢
      go_enter Tryd.func50, Tryd.ntmps50
      go_wp2_with (first | (go_at_call 74; refine (CK.out _ CKR.out).mono ?_; rintro e w1 ⟨rfl, rfl⟩) | (go_at_call 76; refine (CI.out _).mono ?_; rintro e w2 ⟨rfl, rfl⟩) | (go_at_call 77; refine (CB.out _).mono ?_; rintro e w3 ⟨rfl, hb3⟩; have B3 := Lib.hid hb3; clear hb3))
      go_ret
      exact ⟨rfl, Bl.call (Bl.alloc (Bl.refl _) _) B3.out⟩

set_option maxRecDepth 100000 in
set_option maxHeartbeats 4000000 in
theorem smay_x (s : St) (kp : Option Addr) (kc : Nat) (w : World) (h0 : ¬ s.kd = 0) (h1 : ¬ s.kd = 1) (h2 : ¬ s.kd = 2) (h3 : ¬ s.kd = 3) : Calls Tryd.prog 50 #[stV s kp kc] w (RetBelow (.returned (.bool (stepMay s))) w) := by
  rw [sm_x s h0 h1 h2 h3]
  obtain ⟨skd, sid, snd, sfr, sto, kids⟩ := s
  dsimp only at h0 h1 h2 h3
  have q0 : (skd == 0) = false := beq_eq_false_iff_ne.2 h0
  have q1 : (skd == 1) = false := beq_eq_false_iff_ne.2 h1
  have q2 : (skd == 2) = false := beq_eq_false_iff_ne.2 h2
  have q3 : (skd == 3) = false := beq_eq_false_iff_ne.2 h3
  unfold stV
  dsimp only
  generalize kids.length = kn at *
  go_enter Tryd.func50, Tryd.ntmps50
  go_wp2_with fail
  all_goals
    go_ret
    exact ⟨rfl, Bl.alloc (Bl.refl _) _⟩
/-- The program's step.May, at every step. -/
theorem smay_any (s : St) (kp : Option Addr) (kc : Nat) (w : World) (hr : lyI.Row w kp s.kids) (hl : s.kids.length ≤ 140737488355328) : Calls Tryd.prog 50 #[stV s kp kc] w (RetBelow (.returned (.bool (stepMay s))) w) := by
  by_cases h0 : s.kd = 0
  · exact smay_0 s kp kc w h0 hl
  · by_cases h1 : s.kd = 1
    · exact smay_1 s kp kc w h1 hl
    · by_cases h2 : s.kd = 2
      · exact smay_2 s kp kc w h2 hr hl
      · by_cases h3 : s.kd = 3
        · exact smay_3 s kp kc w h3 hl
        · exact smay_x s kp kc w h0 h1 h2 h3

end Go.Proofs.YtjmfjlffcopnnaaDoor
