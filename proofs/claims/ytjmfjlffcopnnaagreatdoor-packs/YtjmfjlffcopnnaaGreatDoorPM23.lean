/-
  The taker's digits: the walk. Conditions: as each theorem's premises say.
-/
import Derived.Test.YtjmfjlffcopnnaaGreatDoorPM21
import Derived.Test.YtjmfjlffcopnnaaGreatDoorPM22
namespace Go.Proofs.YtjmfjlffcopnnaaGreatDoor
open Go.RowKit

/-- A taker in its box. -/
structure TkAt (w : World) (tb : Nat) (s : ByteArray) (p : Nat) (bad : Bool) : Prop where
  obj : w.heap[tb]? = some (.cells #[.string s, .int .i64 p, .bool bad] 74 (0, 0))
  le : p ≤ s.size
def DgP (s : ByteArray) (tb : Nat) (x : Int) (t : Ts) (w : World) (e : Ending) (w' : World) : Prop := e = .returned (.int .i64 x) ∧ ∃ p bad, TkAt w' tb s p bad ∧ (fromL s p, bad) = t ∧ w.grownBy w' (some tb)
def cellI (w : World) (tb : Nat) : Nat := match w.cell? ⟨tb, 1, none⟩ with
  | some (.int _ z) => z.toNat
  | _ => 0
theorem dgs_is {l : List UInt8} {k : Nat} (hk : k ≤ 9) (hl : k ≤ l.length) (h : ∀ j c, j < k → l[j]? = some c → isDg c = true) (he : k = 9 ∨ l.length = k ∨ ∃ c, l[k]? = some c ∧ isDg c = false) : dgs l = l.take k := by
  have key : ∀ (m k : Nat) (l : List UInt8), k ≤ m → k ≤ l.length → (∀ j c, j < k → l[j]? = some c → isDg c = true) → (k = m ∨ l.length = k ∨ ∃ c, l[k]? = some c ∧ isDg c = false) → (l.take m).takeWhile isDg = l.take k := by
    intro m
    induction m with
    | zero =>
      intro k l hk _ _ _
      have h0 : k = 0 := by omega
      rw [h0]
      simp
    | succ m ih =>
      intro k l hk hl h he
      cases l with
      | nil => simp
      | cons a r =>
        cases k with
        | zero =>
          rcases he with he | he | ⟨c, hc, hd⟩
          · omega
          · simp at he
          · simp at hc
            subst hc
            simp [hd]
        | succ k =>
          have ha : isDg a = true := h 0 a (by omega) rfl
          have := ih k r (by omega) (by simpa using hl) (fun j c hj hc => h (j + 1) c (by omega) (by simpa using hc)) (by
            rcases he with he | he | ⟨c, hc, hd⟩
            · exact .inl (by omega)
            · exact .inr (.inl (by simpa using he))
            · exact .inr (.inr ⟨c, by simpa using hc, hd⟩))
          rw [List.take_succ_cons, List.takeWhile_cons, if_pos ha, this, List.take_succ_cons]
  exact key 9 k l hk hl h he

theorem pDig_fail {l : List UInt8} {k : Nat} {e : UInt8} {b : Bool} (hd : dgs l = l.take k) (hk : k ≤ l.length) (h : k = 0 ∨ l.length = k ∨ ∃ c, l[k]? = some c ∧ c ≠ e) : pDig e (l, b) = (0, l.drop k, true) := by
  unfold pDig
  dsimp only
  rw [hd, List.length_take, Nat.min_eq_left hk]
  cases ht : l.take k with
  | nil => rfl
  | cons a r =>
    have h0 : k ≠ 0 := by rintro rfl; simp at ht
    cases hr : l.drop k with
    | nil => rfl
    | cons c r2 =>
      dsimp only
      have hc : l[k]? = some c := by
        have := congrArg (fun x => x[0]?) hr
        simpa [List.getElem?_drop] using this
      rw [if_neg]
      intro e1
      rcases h with h | h | ⟨c', h1, h2⟩
      · exact h0 h
      · rw [List.drop_eq_nil_of_le (by omega)] at hr; cases hr
      · rw [hc] at h1; cases h1; exact h2 e1
theorem pDig_good {l : List UInt8} {k : Nat} {e : UInt8} {b : Bool} (hd : dgs l = l.take k) (h0 : 0 < k) (hc : l[k]? = some e) : pDig e (l, b) = (((valD 0 (l.take k) : Nat) : Int), l.drop (k + 1), b) := by
  have hk : k < l.length := (List.getElem?_eq_some_iff.1 hc).1
  unfold pDig
  dsimp only
  rw [hd, List.length_take, Nat.min_eq_left (by omega)]
  cases ht : l.take k with
  | nil => rw [List.take_eq_nil_iff] at ht; rcases ht with h | h; · omega
           · rw [h] at hk; simp at hk
  | cons a r =>
    have hr : l.drop k = e :: l.drop (k + 1) := by
      rw [List.drop_eq_getElem_cons hk]
      have := (List.getElem?_eq_some_iff.1 hc).2
      rw [this]
    rw [hr]
    dsimp only
    rw [if_pos rfl]
theorem valD_lt : ∀ (l : List UInt8) (x : Nat), (∀ c ∈ l, isDg c = true) → valD x l < (x + 1) * 10 ^ l.length
  | [], x, _ => by simp [valD]
  | c :: l, x, h => by
    have ih := valD_lt l (10 * x + (c.toNat - 48)) (fun y hy => h y (List.mem_cons_of_mem _ hy))
    have hc := h c (List.mem_cons_self ..)
    unfold isDg at hc
    simp only [Bool.and_eq_true, decide_eq_true_eq] at hc
    have h1 : valD x (c :: l) = valD (10 * x + (c.toNat - 48)) l := rfl
    rw [h1, List.length_cons, Nat.pow_succ]
    refine Nat.lt_of_lt_of_le ih ?_
    have h2 : 10 * x + (c.toNat - 48) + 1 ≤ (x + 1) * 10 := by omega
    calc (10 * x + (c.toNat - 48) + 1) * 10 ^ l.length ≤ ((x + 1) * 10) * 10 ^ l.length := Nat.mul_le_mul_right _ h2
      _ = (x + 1) * (10 ^ l.length * 10) := by rw [Nat.mul_assoc, Nat.mul_comm 10]
theorem valD_snoc {l : List UInt8} {k : Nat} {c : UInt8} (h : l[k]? = some c) : valD 0 (l.take (k + 1)) = 10 * valD 0 (l.take k) + (c.toNat - 48) := by
  rw [List.take_add_one, h]
  unfold valD
  rw [List.foldl_append]
  rfl
theorem from_at {s : ByteArray} {p m : Nat} {c : UInt8} (hp : p ≤ m) (hm : m < s.size) (h : s[m] = c) : (fromL s p)[m - p]? = some c := by
  unfold fromL
  rw [List.getElem?_drop, show p + (m - p) = m from by omega, List.getElem?_eq_getElem (by simpa using hm), ← h]
  rfl

set_option maxRecDepth 100000 in
set_option maxHeartbeats 4000000 in
theorem tkDig_any (s : ByteArray) (tb p : Nat) (bad : Bool) (e : UInt8) (w : World) (hs : s.size ≤ 1000000) (h : TkAt w tb s p bad) : Calls Tryz.prog 83 #[.pointer (some ⟨tb, 0, none⟩), .int .u8 e.toNat] w (DgP s tb (pDig e (fromL s p, bad)).1 (pDig e (fromL s p, bad)).2 w) := by
  have O := Lib.hid h.obj
  have hp := h.le
  have c0 : w.cell? ⟨tb, 0, none⟩ = some (.string s) := (obj_cells O.out).1 0 _ rfl
  have c1 : w.cell? ⟨tb, 1, none⟩ = some (.int .i64 p) := (obj_cells O.out).1 1 _ rfl
  go_enter Tryz.func83, Tryz.ntmps83
  go_upto_region 1 with fail
  go_quiet (fail)
  have O1 : Hid (TkAt (w.drewN nq) tb s p bad) := Lib.hid ⟨h.obj, hp⟩
  have G1 : Hid (w.grownBy (w.drewN nq) (some tb)) := Lib.hid (grown_of_below (dr_below _ nq) _)
  clear c0 c1
  generalize w.drewN nq = w1 at O1 G1 ⊢
  go_wp2_with fail
  go_loopw [5] (fun v wr => ∃ (m : Nat) (X : Int), p ≤ m ∧ m ≤ p + 9 ∧ m ≤ s.size ∧ v = .int .i64 X ∧ 0 ≤ X ∧ X < 10000000000 ∧ Hid (X = (valD 0 ((fromL s p).take (m - p)) : Nat)) ∧ Hid (∀ j c, j < m - p → (fromL s p)[j]? = some c → isDg c = true) ∧ Hid (TkAt wr tb s m bad) ∧ Hid (w.grownBy wr (some tb))) (fun _ wr => s.size - cellI wr tb)
  case atStart => exact ⟨p, 0, Nat.le_refl _, by omega, hp, rfl, by decide, by decide, Lib.hid (by rw [Nat.sub_self]; rfl), Lib.hid (fun j c hj => by omega), O1, G1⟩
  case round =>
    obtain ⟨m, X, h1, h2, h3, rfl, x0, x1, HX, HD, T, G⟩ := hrel
    have c0 : wr.cell? ⟨tb, 0, none⟩ = some (.string s) := (obj_cells T.out.obj).1 0 _ rfl
    have c1 : wr.cell? ⟨tb, 1, none⟩ = some (.int .i64 m) := (obj_cells T.out.obj).1 1 _ rfl
    have cf := (obj_cells T.out.obj).2.1
    have v1 : IntKind.i64.wrap ((m : Int) - (p : Int)) = (m : Int) - (p : Int) := IntWalk.i64_in _ (by omega)
    by_cases q1 : m < s.size
    · by_cases q2 : m < p + 9
      · obtain ⟨c, hc⟩ : ∃ c, s[m] = c := ⟨_, rfl⟩
        have HF : Hid ((fromL s p)[m - p]? = some c) := Lib.hid (by
          unfold fromL
          rw [List.getElem?_drop, show p + (m - p) = m from by omega, List.getElem?_eq_getElem (by simpa using q1), ← hc]
          rfl)
        have hc8 := c.toNat_lt
        have q3 : (m : Int) - (p : Int) < 9 := by omega
        cases hd : isDg c with
        | true =>
          have hd2 : 48 ≤ c.toNat ∧ c.toNat ≤ 57 := by
            unfold isDg at hd
            simpa using hd
          obtain ⟨d1, d2⟩ := hd2
          have g1 : decide ((48 : Int) ≤ (c.toNat : Int)) = true := decide_eq_true (by omega)
          have g2 : decide ((c.toNat : Int) ≤ 57) = true := decide_eq_true (by omega)
          have v2 : IntKind.i64.wrap (10 * X) = 10 * X := IntWalk.i64_in _ (by omega)
          have v3 : IntKind.i64.wrap (10 * X + ((c.toNat : Int) - 48)) = 10 * X + ((c.toNat : Int) - 48) := IntWalk.i64_in _ (by omega)
          have v4 : IntKind.u8.wrap ((c.toNat : Int) - 48) = (c.toNat : Int) - 48 := IntWalk.u8_in _ (by omega)
          have v5 : IntKind.i64.wrap ((c.toNat : Int) - 48) = (c.toNat : Int) - 48 := IntWalk.i64_in _ (by omega)
          go_upto_region 2 with fail
          go_quiet (fail)
          have T2 : Hid (TkAt (wr.drewN nq) tb s m bad) := Lib.hid ⟨T.out.obj, h3⟩
          have G2 : Hid (w.grownBy (wr.drewN nq) (some tb)) := Lib.hid (grown_trans G.out (grown_of_below (dr_below _ nq) (some tb)) (fun g hg => .inl hg))
          clear c0 c1 cf
          generalize wr.drewN nq = w2 at T2 G2 ⊢
          have c0 : w2.cell? ⟨tb, 0, none⟩ = some (.string s) := (obj_cells T2.out.obj).1 0 _ rfl
          have c1 : w2.cell? ⟨tb, 1, none⟩ = some (.int .i64 m) := (obj_cells T2.out.obj).1 1 _ rfl
          go_upto_region 3 with fail
          go_quiet (fail)
          have T3 : Hid (TkAt (w2.drewN nq) tb s m bad) := Lib.hid ⟨T2.out.obj, h3⟩
          have G3 : Hid (w.grownBy (w2.drewN nq) (some tb)) := Lib.hid (grown_trans G2.out (grown_of_below (dr_below _ nq) (some tb)) (fun g hg => .inl hg))
          clear c0 c1
          generalize w2.drewN nq = w3 at T3 G3 ⊢
          have c1 : w3.cell? ⟨tb, 1, none⟩ = some (.int .i64 m) := (obj_cells T3.out.obj).1 1 _ rfl
          have cf : w3.frozen? ⟨tb, 1, none⟩ = false := (obj_cells T3.out.obj).2.1 1
          have VS := Lib.hid (valD_snoc HF.out)
          have HD2 : Hid (∀ j c, j < m + 1 - p → (fromL s p)[j]? = some c → isDg c = true) := Lib.hid (fun j c' hj hc' => by
            by_cases e1 : j = m - p
            · rw [e1, HF.out] at hc'
              cases hc'
              exact hd
            · exact HD.out j c' (by omega) hc')
          go_wp2_with fail
          go_roundw
          case rel =>
            have e2 : m + 1 - p = m - p + 1 := by omega
            have hx : 10 * X + ((c.toNat : Int) - 48) = ((valD 0 ((fromL s p).take (m + 1 - p)) : Nat) : Int) := by
              rw [e2, VS.out, HX.out]
              omega
            have hlt := valD_lt ((fromL s p).take (m + 1 - p)) 0 (fun y hy => by
              obtain ⟨j, hj⟩ := List.mem_iff_getElem?.1 hy
              rw [List.getElem?_take] at hj
              split at hj
              · exact HD2.out j y (by assumption) hj
              · cases hj)
            have hpw : (10 : Nat) ^ ((fromL s p).take (m + 1 - p)).length ≤ 10 ^ 9 := Nat.pow_le_pow_right (by decide) (by rw [List.length_take]; omega)
            refine ⟨m + 1, 10 * X + ((c.toNat : Int) - 48), by omega, by omega, by omega, by go_num, by omega, by omega, Lib.hid hx, HD2, Lib.hid ⟨?_, by omega⟩, Lib.hid ?_⟩
            · rw [heap_setCell_at T3.out.obj]
              rfl
            · exact grown_set G3.out _
          case measure =>
            have m1 : cellI wr tb = m := by
              unfold cellI
              rw [(obj_cells T.out.obj).1 1 (.int .i64 m) rfl]
              rfl
            have m2 : cellI (w3.setCell ⟨tb, 1, none⟩ (.int .i64 ((m : Int) + 1))) tb = m + 1 := by
              unfold cellI
              rw [(obj_cells (heap_setCell_at T3.out.obj _)).1 1 (.int .i64 ((m : Int) + 1)) rfl]
              show ((m : Int) + 1).toNat = m + 1
              omega
            rw [m1, m2]
            omega
        | false =>
          have hd2 : ¬ (48 ≤ c.toNat ∧ c.toNat ≤ 57) := by
            intro h
            have : isDg c = true := by unfold isDg; simp [h.1, h.2]
            rw [hd] at this; cases this
          by_cases q4 : 48 ≤ c.toNat
          · have g1 : decide ((48 : Int) ≤ (c.toNat : Int)) = true := decide_eq_true (by omega)
            have g2 : decide ((c.toNat : Int) ≤ 57) = false := decide_eq_false (by omega)
            by_cases q5 : m = p
            · have q5 : p = m := q5.symm
              subst q5
              go_upto_region 2 with fail
              go_quiet (fail)
              have T2 : Hid (TkAt (wr.drewN nq) tb s p bad) := Lib.hid ⟨T.out.obj, h3⟩
              have G2 : Hid (w.grownBy (wr.drewN nq) (some tb)) := Lib.hid (grown_trans G.out (grown_of_below (dr_below _ nq) (some tb)) (fun g hg => .inl hg))
              clear c0 c1 cf
              generalize wr.drewN nq = w2 at T2 G2 ⊢
              have c0 : w2.cell? ⟨tb, 0, none⟩ = some (.string s) := (obj_cells T2.out.obj).1 0 _ rfl
              have c1 : w2.cell? ⟨tb, 1, none⟩ = some (.int .i64 p) := (obj_cells T2.out.obj).1 1 _ rfl
              have c2 : w2.cell? ⟨tb, 2, none⟩ = some (.bool bad) := (obj_cells T2.out.obj).1 2 _ rfl
              have cf : ∀ j, w2.frozen? ⟨tb, j, none⟩ = false := (obj_cells T2.out.obj).2.1
              go_upto_region 5 with fail
              go_quiet (fail)
              have T3 : Hid (TkAt (w2.drewN nq) tb s p bad) := Lib.hid ⟨T2.out.obj, h3⟩
              have G3 : Hid (w.grownBy (w2.drewN nq) (some tb)) := Lib.hid (grown_trans G2.out (grown_of_below (dr_below _ nq) (some tb)) (fun g hg => .inl hg))
              clear c0 c1 cf
              generalize w2.drewN nq = w3 at T3 G3 ⊢
              have c0 : w3.cell? ⟨tb, 0, none⟩ = some (.string s) := (obj_cells T3.out.obj).1 0 _ rfl
              have c1 : w3.cell? ⟨tb, 1, none⟩ = some (.int .i64 p) := (obj_cells T3.out.obj).1 1 _ rfl
              have c2 : w3.cell? ⟨tb, 2, none⟩ = some (.bool bad) := (obj_cells T3.out.obj).1 2 _ rfl
              have cf : ∀ j, w3.frozen? ⟨tb, j, none⟩ = false := (obj_cells T3.out.obj).2.1
              have f2 := cf 2
              clear cf
              go_wp2_with fail
              go_ret
              have PF := pDig_fail (b := bad) (e := e) (dgs_is (l := fromL s p) (k := p - p) (by omega) (by rw [from_len]; omega) HD.out (.inr (.inr ⟨c, HF.out, hd⟩))) (by rw [from_len]; omega) (.inl (by omega))
              rw [from_drop, show p + (p - p) = p from by omega] at PF
              rw [PF]
              exact ⟨rfl, p, true, ⟨by rw [heap_setCell_at T3.out.obj]; rfl, h3⟩, rfl, grown_set G3.out _⟩
            · have k1 : ((m : Int) == (p : Int)) = false := by rw [beq_eq_false_iff_ne]; omega
              have k2 : decide ((s.size : Int) ≤ (m : Int)) = false := decide_eq_false (by omega)
              by_cases q6 : c = e
              · have q6 : e = c := q6.symm
                subst q6
                go_upto_region 2 with fail
                go_quiet (fail)
                have T2 : Hid (TkAt (wr.drewN nq) tb s m bad) := Lib.hid ⟨T.out.obj, h3⟩
                have G2 : Hid (w.grownBy (wr.drewN nq) (some tb)) := Lib.hid (grown_trans G.out (grown_of_below (dr_below _ nq) (some tb)) (fun g hg => .inl hg))
                clear c0 c1 cf
                generalize wr.drewN nq = w2 at T2 G2 ⊢
                have c0 : w2.cell? ⟨tb, 0, none⟩ = some (.string s) := (obj_cells T2.out.obj).1 0 _ rfl
                have c1 : w2.cell? ⟨tb, 1, none⟩ = some (.int .i64 m) := (obj_cells T2.out.obj).1 1 _ rfl
                have c2 : w2.cell? ⟨tb, 2, none⟩ = some (.bool bad) := (obj_cells T2.out.obj).1 2 _ rfl
                have cf : ∀ j, w2.frozen? ⟨tb, j, none⟩ = false := (obj_cells T2.out.obj).2.1
                go_upto_region 5 with fail
                go_quiet (fail)
                have T3 : Hid (TkAt (w2.drewN nq) tb s m bad) := Lib.hid ⟨T2.out.obj, h3⟩
                have G3 : Hid (w.grownBy (w2.drewN nq) (some tb)) := Lib.hid (grown_trans G2.out (grown_of_below (dr_below _ nq) (some tb)) (fun g hg => .inl hg))
                clear c0 c1 cf
                generalize w2.drewN nq = w3 at T3 G3 ⊢
                have c0 : w3.cell? ⟨tb, 0, none⟩ = some (.string s) := (obj_cells T3.out.obj).1 0 _ rfl
                have c1 : w3.cell? ⟨tb, 1, none⟩ = some (.int .i64 m) := (obj_cells T3.out.obj).1 1 _ rfl
                have c2 : w3.cell? ⟨tb, 2, none⟩ = some (.bool bad) := (obj_cells T3.out.obj).1 2 _ rfl
                have cf : ∀ j, w3.frozen? ⟨tb, j, none⟩ = false := (obj_cells T3.out.obj).2.1
                have f1 := cf 1
                clear cf
                go_wp2_with fail
                go_ret
                have PG := pDig_good (b := bad) (e := e) (dgs_is (l := fromL s p) (k := m - p) (by omega) (by rw [from_len]; omega) HD.out (.inr (.inr ⟨e, HF.out, hd⟩))) (by omega) HF.out
                rw [from_drop, show p + (m - p + 1) = m + 1 from by omega, ← HX.out] at PG
                rw [PG]
                exact ⟨rfl, m + 1, bad, ⟨by rw [heap_setCell_at T3.out.obj]; rfl, by omega⟩, rfl, grown_set G3.out _⟩
              · have k3 : ((c.toNat : Int) != (e.toNat : Int)) = true := by
                  rw [bne_iff_ne]
                  intro h
                  exact q6 (UInt8.toNat_inj.1 (by omega))
                go_upto_region 2 with fail
                go_quiet (fail)
                have T2 : Hid (TkAt (wr.drewN nq) tb s m bad) := Lib.hid ⟨T.out.obj, h3⟩
                have G2 : Hid (w.grownBy (wr.drewN nq) (some tb)) := Lib.hid (grown_trans G.out (grown_of_below (dr_below _ nq) (some tb)) (fun g hg => .inl hg))
                clear c0 c1 cf
                generalize wr.drewN nq = w2 at T2 G2 ⊢
                have c0 : w2.cell? ⟨tb, 0, none⟩ = some (.string s) := (obj_cells T2.out.obj).1 0 _ rfl
                have c1 : w2.cell? ⟨tb, 1, none⟩ = some (.int .i64 m) := (obj_cells T2.out.obj).1 1 _ rfl
                have c2 : w2.cell? ⟨tb, 2, none⟩ = some (.bool bad) := (obj_cells T2.out.obj).1 2 _ rfl
                have cf : ∀ j, w2.frozen? ⟨tb, j, none⟩ = false := (obj_cells T2.out.obj).2.1
                go_upto_region 5 with fail
                go_quiet (fail)
                have T3 : Hid (TkAt (w2.drewN nq) tb s m bad) := Lib.hid ⟨T2.out.obj, h3⟩
                have G3 : Hid (w.grownBy (w2.drewN nq) (some tb)) := Lib.hid (grown_trans G2.out (grown_of_below (dr_below _ nq) (some tb)) (fun g hg => .inl hg))
                clear c0 c1 cf
                generalize w2.drewN nq = w3 at T3 G3 ⊢
                have c0 : w3.cell? ⟨tb, 0, none⟩ = some (.string s) := (obj_cells T3.out.obj).1 0 _ rfl
                have c1 : w3.cell? ⟨tb, 1, none⟩ = some (.int .i64 m) := (obj_cells T3.out.obj).1 1 _ rfl
                have c2 : w3.cell? ⟨tb, 2, none⟩ = some (.bool bad) := (obj_cells T3.out.obj).1 2 _ rfl
                have cf : ∀ j, w3.frozen? ⟨tb, j, none⟩ = false := (obj_cells T3.out.obj).2.1
                have f2 := cf 2
                clear cf
                go_wp2_with fail
                go_ret
                have PF := pDig_fail (b := bad) (e := e) (dgs_is (l := fromL s p) (k := m - p) (by omega) (by rw [from_len]; omega) HD.out (.inr (.inr ⟨c, HF.out, hd⟩))) (by rw [from_len]; omega) (.inr (.inr ⟨c, HF.out, q6⟩))
                rw [from_drop, show p + (m - p) = m from by omega] at PF
                rw [PF]
                exact ⟨rfl, m, true, ⟨by rw [heap_setCell_at T3.out.obj]; rfl, h3⟩, rfl, grown_set G3.out _⟩
          · have g1 : decide ((48 : Int) ≤ (c.toNat : Int)) = false := decide_eq_false (by omega)
            by_cases q5 : m = p
            · have q5 : p = m := q5.symm
              subst q5
              go_upto_region 2 with fail
              go_quiet (fail)
              have T2 : Hid (TkAt (wr.drewN nq) tb s p bad) := Lib.hid ⟨T.out.obj, h3⟩
              have G2 : Hid (w.grownBy (wr.drewN nq) (some tb)) := Lib.hid (grown_trans G.out (grown_of_below (dr_below _ nq) (some tb)) (fun g hg => .inl hg))
              clear c0 c1 cf
              generalize wr.drewN nq = w2 at T2 G2 ⊢
              have c0 : w2.cell? ⟨tb, 0, none⟩ = some (.string s) := (obj_cells T2.out.obj).1 0 _ rfl
              have c1 : w2.cell? ⟨tb, 1, none⟩ = some (.int .i64 p) := (obj_cells T2.out.obj).1 1 _ rfl
              have c2 : w2.cell? ⟨tb, 2, none⟩ = some (.bool bad) := (obj_cells T2.out.obj).1 2 _ rfl
              have cf : ∀ j, w2.frozen? ⟨tb, j, none⟩ = false := (obj_cells T2.out.obj).2.1
              go_upto_region 5 with fail
              go_quiet (fail)
              have T3 : Hid (TkAt (w2.drewN nq) tb s p bad) := Lib.hid ⟨T2.out.obj, h3⟩
              have G3 : Hid (w.grownBy (w2.drewN nq) (some tb)) := Lib.hid (grown_trans G2.out (grown_of_below (dr_below _ nq) (some tb)) (fun g hg => .inl hg))
              clear c0 c1 cf
              generalize w2.drewN nq = w3 at T3 G3 ⊢
              have c0 : w3.cell? ⟨tb, 0, none⟩ = some (.string s) := (obj_cells T3.out.obj).1 0 _ rfl
              have c1 : w3.cell? ⟨tb, 1, none⟩ = some (.int .i64 p) := (obj_cells T3.out.obj).1 1 _ rfl
              have c2 : w3.cell? ⟨tb, 2, none⟩ = some (.bool bad) := (obj_cells T3.out.obj).1 2 _ rfl
              have cf : ∀ j, w3.frozen? ⟨tb, j, none⟩ = false := (obj_cells T3.out.obj).2.1
              have f2 := cf 2
              clear cf
              go_wp2_with fail
              go_ret
              have PF := pDig_fail (b := bad) (e := e) (dgs_is (l := fromL s p) (k := p - p) (by omega) (by rw [from_len]; omega) HD.out (.inr (.inr ⟨c, HF.out, hd⟩))) (by rw [from_len]; omega) (.inl (by omega))
              rw [from_drop, show p + (p - p) = p from by omega] at PF
              rw [PF]
              exact ⟨rfl, p, true, ⟨by rw [heap_setCell_at T3.out.obj]; rfl, h3⟩, rfl, grown_set G3.out _⟩
            · have k1 : ((m : Int) == (p : Int)) = false := by rw [beq_eq_false_iff_ne]; omega
              have k2 : decide ((s.size : Int) ≤ (m : Int)) = false := decide_eq_false (by omega)
              by_cases q6 : c = e
              · have q6 : e = c := q6.symm
                subst q6
                go_upto_region 2 with fail
                go_quiet (fail)
                have T2 : Hid (TkAt (wr.drewN nq) tb s m bad) := Lib.hid ⟨T.out.obj, h3⟩
                have G2 : Hid (w.grownBy (wr.drewN nq) (some tb)) := Lib.hid (grown_trans G.out (grown_of_below (dr_below _ nq) (some tb)) (fun g hg => .inl hg))
                clear c0 c1 cf
                generalize wr.drewN nq = w2 at T2 G2 ⊢
                have c0 : w2.cell? ⟨tb, 0, none⟩ = some (.string s) := (obj_cells T2.out.obj).1 0 _ rfl
                have c1 : w2.cell? ⟨tb, 1, none⟩ = some (.int .i64 m) := (obj_cells T2.out.obj).1 1 _ rfl
                have c2 : w2.cell? ⟨tb, 2, none⟩ = some (.bool bad) := (obj_cells T2.out.obj).1 2 _ rfl
                have cf : ∀ j, w2.frozen? ⟨tb, j, none⟩ = false := (obj_cells T2.out.obj).2.1
                go_upto_region 5 with fail
                go_quiet (fail)
                have T3 : Hid (TkAt (w2.drewN nq) tb s m bad) := Lib.hid ⟨T2.out.obj, h3⟩
                have G3 : Hid (w.grownBy (w2.drewN nq) (some tb)) := Lib.hid (grown_trans G2.out (grown_of_below (dr_below _ nq) (some tb)) (fun g hg => .inl hg))
                clear c0 c1 cf
                generalize w2.drewN nq = w3 at T3 G3 ⊢
                have c0 : w3.cell? ⟨tb, 0, none⟩ = some (.string s) := (obj_cells T3.out.obj).1 0 _ rfl
                have c1 : w3.cell? ⟨tb, 1, none⟩ = some (.int .i64 m) := (obj_cells T3.out.obj).1 1 _ rfl
                have c2 : w3.cell? ⟨tb, 2, none⟩ = some (.bool bad) := (obj_cells T3.out.obj).1 2 _ rfl
                have cf : ∀ j, w3.frozen? ⟨tb, j, none⟩ = false := (obj_cells T3.out.obj).2.1
                have f1 := cf 1
                clear cf
                go_wp2_with fail
                go_ret
                have PG := pDig_good (b := bad) (e := e) (dgs_is (l := fromL s p) (k := m - p) (by omega) (by rw [from_len]; omega) HD.out (.inr (.inr ⟨e, HF.out, hd⟩))) (by omega) HF.out
                rw [from_drop, show p + (m - p + 1) = m + 1 from by omega, ← HX.out] at PG
                rw [PG]
                exact ⟨rfl, m + 1, bad, ⟨by rw [heap_setCell_at T3.out.obj]; rfl, by omega⟩, rfl, grown_set G3.out _⟩
              · have k3 : ((c.toNat : Int) != (e.toNat : Int)) = true := by
                  rw [bne_iff_ne]
                  intro h
                  exact q6 (UInt8.toNat_inj.1 (by omega))
                go_upto_region 2 with fail
                go_quiet (fail)
                have T2 : Hid (TkAt (wr.drewN nq) tb s m bad) := Lib.hid ⟨T.out.obj, h3⟩
                have G2 : Hid (w.grownBy (wr.drewN nq) (some tb)) := Lib.hid (grown_trans G.out (grown_of_below (dr_below _ nq) (some tb)) (fun g hg => .inl hg))
                clear c0 c1 cf
                generalize wr.drewN nq = w2 at T2 G2 ⊢
                have c0 : w2.cell? ⟨tb, 0, none⟩ = some (.string s) := (obj_cells T2.out.obj).1 0 _ rfl
                have c1 : w2.cell? ⟨tb, 1, none⟩ = some (.int .i64 m) := (obj_cells T2.out.obj).1 1 _ rfl
                have c2 : w2.cell? ⟨tb, 2, none⟩ = some (.bool bad) := (obj_cells T2.out.obj).1 2 _ rfl
                have cf : ∀ j, w2.frozen? ⟨tb, j, none⟩ = false := (obj_cells T2.out.obj).2.1
                go_upto_region 5 with fail
                go_quiet (fail)
                have T3 : Hid (TkAt (w2.drewN nq) tb s m bad) := Lib.hid ⟨T2.out.obj, h3⟩
                have G3 : Hid (w.grownBy (w2.drewN nq) (some tb)) := Lib.hid (grown_trans G2.out (grown_of_below (dr_below _ nq) (some tb)) (fun g hg => .inl hg))
                clear c0 c1 cf
                generalize w2.drewN nq = w3 at T3 G3 ⊢
                have c0 : w3.cell? ⟨tb, 0, none⟩ = some (.string s) := (obj_cells T3.out.obj).1 0 _ rfl
                have c1 : w3.cell? ⟨tb, 1, none⟩ = some (.int .i64 m) := (obj_cells T3.out.obj).1 1 _ rfl
                have c2 : w3.cell? ⟨tb, 2, none⟩ = some (.bool bad) := (obj_cells T3.out.obj).1 2 _ rfl
                have cf : ∀ j, w3.frozen? ⟨tb, j, none⟩ = false := (obj_cells T3.out.obj).2.1
                have f2 := cf 2
                clear cf
                go_wp2_with fail
                go_ret
                have PF := pDig_fail (b := bad) (e := e) (dgs_is (l := fromL s p) (k := m - p) (by omega) (by rw [from_len]; omega) HD.out (.inr (.inr ⟨c, HF.out, hd⟩))) (by rw [from_len]; omega) (.inr (.inr ⟨c, HF.out, q6⟩))
                rw [from_drop, show p + (m - p) = m from by omega] at PF
                rw [PF]
                exact ⟨rfl, m, true, ⟨by rw [heap_setCell_at T3.out.obj]; rfl, h3⟩, rfl, grown_set G3.out _⟩
      · obtain ⟨c, hc⟩ : ∃ c, s[m] = c := ⟨_, rfl⟩
        have HF : Hid ((fromL s p)[m - p]? = some c) := Lib.hid (from_at h1 q1 hc)
        have hc8 := c.toNat_lt
        have q3 : decide ((m : Int) - (p : Int) < 9) = false := decide_eq_false (by omega)
        have q5 : ¬ m = p := by omega
        have k1 : ((m : Int) == (p : Int)) = false := by rw [beq_eq_false_iff_ne]; omega
        have k2 : decide ((s.size : Int) ≤ (m : Int)) = false := decide_eq_false (by omega)
        by_cases q6 : c = e
        · have q6 : e = c := q6.symm
          subst q6
          go_upto_region 2 with fail
          go_quiet (fail)
          have T2 : Hid (TkAt (wr.drewN nq) tb s m bad) := Lib.hid ⟨T.out.obj, h3⟩
          have G2 : Hid (w.grownBy (wr.drewN nq) (some tb)) := Lib.hid (grown_trans G.out (grown_of_below (dr_below _ nq) (some tb)) (fun g hg => .inl hg))
          clear c0 c1 cf
          generalize wr.drewN nq = w2 at T2 G2 ⊢
          have c0 : w2.cell? ⟨tb, 0, none⟩ = some (.string s) := (obj_cells T2.out.obj).1 0 _ rfl
          have c1 : w2.cell? ⟨tb, 1, none⟩ = some (.int .i64 m) := (obj_cells T2.out.obj).1 1 _ rfl
          have c2 : w2.cell? ⟨tb, 2, none⟩ = some (.bool bad) := (obj_cells T2.out.obj).1 2 _ rfl
          have cf : ∀ j, w2.frozen? ⟨tb, j, none⟩ = false := (obj_cells T2.out.obj).2.1
          go_upto_region 5 with fail
          go_quiet (fail)
          have T3 : Hid (TkAt (w2.drewN nq) tb s m bad) := Lib.hid ⟨T2.out.obj, h3⟩
          have G3 : Hid (w.grownBy (w2.drewN nq) (some tb)) := Lib.hid (grown_trans G2.out (grown_of_below (dr_below _ nq) (some tb)) (fun g hg => .inl hg))
          clear c0 c1 cf
          generalize w2.drewN nq = w3 at T3 G3 ⊢
          have c0 : w3.cell? ⟨tb, 0, none⟩ = some (.string s) := (obj_cells T3.out.obj).1 0 _ rfl
          have c1 : w3.cell? ⟨tb, 1, none⟩ = some (.int .i64 m) := (obj_cells T3.out.obj).1 1 _ rfl
          have c2 : w3.cell? ⟨tb, 2, none⟩ = some (.bool bad) := (obj_cells T3.out.obj).1 2 _ rfl
          have cf : ∀ j, w3.frozen? ⟨tb, j, none⟩ = false := (obj_cells T3.out.obj).2.1
          have f1 := cf 1
          clear cf
          go_wp2_with fail
          go_ret
          have PG := pDig_good (b := bad) (e := e) (dgs_is (l := fromL s p) (k := m - p) (by omega) (by rw [from_len]; omega) HD.out (.inl (by omega))) (by omega) HF.out
          rw [from_drop, show p + (m - p + 1) = m + 1 from by omega, ← HX.out] at PG
          rw [PG]
          exact ⟨rfl, m + 1, bad, ⟨by rw [heap_setCell_at T3.out.obj]; rfl, by omega⟩, rfl, grown_set G3.out _⟩
        · have k3 : ((c.toNat : Int) != (e.toNat : Int)) = true := by
            rw [bne_iff_ne]
            intro h
            exact q6 (UInt8.toNat_inj.1 (by omega))
          go_upto_region 2 with fail
          go_quiet (fail)
          have T2 : Hid (TkAt (wr.drewN nq) tb s m bad) := Lib.hid ⟨T.out.obj, h3⟩
          have G2 : Hid (w.grownBy (wr.drewN nq) (some tb)) := Lib.hid (grown_trans G.out (grown_of_below (dr_below _ nq) (some tb)) (fun g hg => .inl hg))
          clear c0 c1 cf
          generalize wr.drewN nq = w2 at T2 G2 ⊢
          have c0 : w2.cell? ⟨tb, 0, none⟩ = some (.string s) := (obj_cells T2.out.obj).1 0 _ rfl
          have c1 : w2.cell? ⟨tb, 1, none⟩ = some (.int .i64 m) := (obj_cells T2.out.obj).1 1 _ rfl
          have c2 : w2.cell? ⟨tb, 2, none⟩ = some (.bool bad) := (obj_cells T2.out.obj).1 2 _ rfl
          have cf : ∀ j, w2.frozen? ⟨tb, j, none⟩ = false := (obj_cells T2.out.obj).2.1
          go_upto_region 5 with fail
          go_quiet (fail)
          have T3 : Hid (TkAt (w2.drewN nq) tb s m bad) := Lib.hid ⟨T2.out.obj, h3⟩
          have G3 : Hid (w.grownBy (w2.drewN nq) (some tb)) := Lib.hid (grown_trans G2.out (grown_of_below (dr_below _ nq) (some tb)) (fun g hg => .inl hg))
          clear c0 c1 cf
          generalize w2.drewN nq = w3 at T3 G3 ⊢
          have c0 : w3.cell? ⟨tb, 0, none⟩ = some (.string s) := (obj_cells T3.out.obj).1 0 _ rfl
          have c1 : w3.cell? ⟨tb, 1, none⟩ = some (.int .i64 m) := (obj_cells T3.out.obj).1 1 _ rfl
          have c2 : w3.cell? ⟨tb, 2, none⟩ = some (.bool bad) := (obj_cells T3.out.obj).1 2 _ rfl
          have cf : ∀ j, w3.frozen? ⟨tb, j, none⟩ = false := (obj_cells T3.out.obj).2.1
          have f2 := cf 2
          clear cf
          go_wp2_with fail
          go_ret
          have PF := pDig_fail (b := bad) (e := e) (dgs_is (l := fromL s p) (k := m - p) (by omega) (by rw [from_len]; omega) HD.out (.inl (by omega))) (by rw [from_len]; omega) (.inr (.inr ⟨c, HF.out, q6⟩))
          rw [from_drop, show p + (m - p) = m from by omega] at PF
          rw [PF]
          exact ⟨rfl, m, true, ⟨by rw [heap_setCell_at T3.out.obj]; rfl, h3⟩, rfl, grown_set G3.out _⟩
    · have q7 : decide ((m : Int) < (s.size : Int)) = false := decide_eq_false (by omega)
      by_cases q5 : m = p
      · have q5 : p = m := q5.symm
        subst q5
        go_upto_region 2 with fail
        go_quiet (fail)
        have T2 : Hid (TkAt (wr.drewN nq) tb s p bad) := Lib.hid ⟨T.out.obj, h3⟩
        have G2 : Hid (w.grownBy (wr.drewN nq) (some tb)) := Lib.hid (grown_trans G.out (grown_of_below (dr_below _ nq) (some tb)) (fun g hg => .inl hg))
        clear c0 c1 cf
        generalize wr.drewN nq = w2 at T2 G2 ⊢
        have c0 : w2.cell? ⟨tb, 0, none⟩ = some (.string s) := (obj_cells T2.out.obj).1 0 _ rfl
        have c1 : w2.cell? ⟨tb, 1, none⟩ = some (.int .i64 p) := (obj_cells T2.out.obj).1 1 _ rfl
        have c2 : w2.cell? ⟨tb, 2, none⟩ = some (.bool bad) := (obj_cells T2.out.obj).1 2 _ rfl
        have cf : ∀ j, w2.frozen? ⟨tb, j, none⟩ = false := (obj_cells T2.out.obj).2.1
        go_upto_region 5 with fail
        go_quiet (fail)
        have T3 : Hid (TkAt (w2.drewN nq) tb s p bad) := Lib.hid ⟨T2.out.obj, h3⟩
        have G3 : Hid (w.grownBy (w2.drewN nq) (some tb)) := Lib.hid (grown_trans G2.out (grown_of_below (dr_below _ nq) (some tb)) (fun g hg => .inl hg))
        clear c0 c1 cf
        generalize w2.drewN nq = w3 at T3 G3 ⊢
        have c0 : w3.cell? ⟨tb, 0, none⟩ = some (.string s) := (obj_cells T3.out.obj).1 0 _ rfl
        have c1 : w3.cell? ⟨tb, 1, none⟩ = some (.int .i64 p) := (obj_cells T3.out.obj).1 1 _ rfl
        have c2 : w3.cell? ⟨tb, 2, none⟩ = some (.bool bad) := (obj_cells T3.out.obj).1 2 _ rfl
        have cf : ∀ j, w3.frozen? ⟨tb, j, none⟩ = false := (obj_cells T3.out.obj).2.1
        have f2 := cf 2
        clear cf
        go_wp2_with fail
        go_ret
        have PF := pDig_fail (b := bad) (e := e) (dgs_is (l := fromL s p) (k := p - p) (by omega) (by rw [from_len]; omega) HD.out (.inr (.inl (by rw [from_len]; omega)))) (by rw [from_len]; omega) (.inl (by omega))
        rw [from_drop, show p + (p - p) = p from by omega] at PF
        rw [PF]
        exact ⟨rfl, p, true, ⟨by rw [heap_setCell_at T3.out.obj]; rfl, h3⟩, rfl, grown_set G3.out _⟩
      · have k1 : ((m : Int) == (p : Int)) = false := by rw [beq_eq_false_iff_ne]; omega
        have k2 : decide ((s.size : Int) ≤ (m : Int)) = true := decide_eq_true (by omega)
        go_upto_region 2 with fail
        go_quiet (fail)
        have T2 : Hid (TkAt (wr.drewN nq) tb s m bad) := Lib.hid ⟨T.out.obj, h3⟩
        have G2 : Hid (w.grownBy (wr.drewN nq) (some tb)) := Lib.hid (grown_trans G.out (grown_of_below (dr_below _ nq) (some tb)) (fun g hg => .inl hg))
        clear c0 c1 cf
        generalize wr.drewN nq = w2 at T2 G2 ⊢
        have c0 : w2.cell? ⟨tb, 0, none⟩ = some (.string s) := (obj_cells T2.out.obj).1 0 _ rfl
        have c1 : w2.cell? ⟨tb, 1, none⟩ = some (.int .i64 m) := (obj_cells T2.out.obj).1 1 _ rfl
        have c2 : w2.cell? ⟨tb, 2, none⟩ = some (.bool bad) := (obj_cells T2.out.obj).1 2 _ rfl
        have cf : ∀ j, w2.frozen? ⟨tb, j, none⟩ = false := (obj_cells T2.out.obj).2.1
        go_upto_region 5 with fail
        go_quiet (fail)
        have T3 : Hid (TkAt (w2.drewN nq) tb s m bad) := Lib.hid ⟨T2.out.obj, h3⟩
        have G3 : Hid (w.grownBy (w2.drewN nq) (some tb)) := Lib.hid (grown_trans G2.out (grown_of_below (dr_below _ nq) (some tb)) (fun g hg => .inl hg))
        clear c0 c1 cf
        generalize w2.drewN nq = w3 at T3 G3 ⊢
        have c0 : w3.cell? ⟨tb, 0, none⟩ = some (.string s) := (obj_cells T3.out.obj).1 0 _ rfl
        have c1 : w3.cell? ⟨tb, 1, none⟩ = some (.int .i64 m) := (obj_cells T3.out.obj).1 1 _ rfl
        have c2 : w3.cell? ⟨tb, 2, none⟩ = some (.bool bad) := (obj_cells T3.out.obj).1 2 _ rfl
        have cf : ∀ j, w3.frozen? ⟨tb, j, none⟩ = false := (obj_cells T3.out.obj).2.1
        have f2 := cf 2
        clear cf
        go_wp2_with fail
        go_ret
        have PF := pDig_fail (b := bad) (e := e) (dgs_is (l := fromL s p) (k := m - p) (by omega) (by rw [from_len]; omega) HD.out (.inr (.inl (by rw [from_len]; omega)))) (by rw [from_len]; omega) (.inr (.inl (by rw [from_len]; omega)))
        rw [from_drop, show p + (m - p) = m from by omega] at PF
        rw [PF]
        exact ⟨rfl, m, true, ⟨by rw [heap_setCell_at T3.out.obj]; rfl, h3⟩, rfl, grown_set G3.out _⟩

end Go.Proofs.YtjmfjlffcopnnaaGreatDoor
