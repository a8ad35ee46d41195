/-
  The program's May: the walk (made by tools/genqv.py). Conditions: as each theorem's premises say.
-/
import Derived.Test.YtjmfjlffcopnnaaGreatDoorPM43
namespace Go.Proofs.YtjmfjlffcopnnaaGreatDoor
open Go.RowKit
open Go.Proofs.YtjmfjlffcopnnaaGreatDoor.K (C RowC MayP)

theorem Bl.setNew {w W : World} {b : Nat} (h : Bl w W) (hb : w.heap.size ≤ b) (j : Nat) (v : Value) : Bl w (W.setCell ⟨b, j, none⟩ v) := h.trans (below_grown (set_grown W b j v) hb h.size)
set_option maxRecDepth 100000 in
set_option maxHeartbeats 3000000 in
theorem may_walk (MM MH MP ME MT : Prop) (kd cl rv sq fr ls : Int) (rf : Bool) (ep : Option Addr) (en ec : Nat) (sp : Option Addr) (sn sc : Nat) (tx : ByteArray) (ro nx : Int) (np : Option Addr) (nn nc : Nat) (w : World) (h1 : en ≤ 140737488355328) (h2 : sn ≤ 140737488355328) (h3 : nn ≤ 140737488355328)
    (RM : Hid (∀ W, Bl w W → Calls Tryz.prog 38 #[.slice ep en ec] W (Tells MP W))) (RE : Hid (∀ W, Bl w W → Calls Tryz.prog 39 #[.slice sp sn sc, .func (.func 40) #[] #[]] W (Tells ME W))) (RT : Hid (∀ W, Bl w W → Calls Tryz.prog 42 #[.agg #[.int .i64 ro, .int .i64 nx, .slice np nn nc], .int .i64 tx.size] W (Tells MT W)))
    (M0 : Hid (kd = 0 → (MM ↔ (MP ∧ (0 < sq ∨ en = 0)) ∧ MH ∧ Br fr ls rf 0 sn tx ro nx nn))) (M1 : Hid (kd = 1 → (MM ↔ (sq = 0 ∧ sn ≤ 3 ∧ ME) ∧ MH ∧ Br fr ls rf en 0 tx ro nx nn))) (M2 : Hid (kd = 2 → (MM ↔ ((0 ≤ fr ∧ fr ≤ 4096) ∧ (0 ≤ ls ∧ ls ≤ 4096) ∧ tx.size ≤ 300 ∧ MT) ∧ MH ∧ Br 0 0 false en sn ⟨#[]⟩ 0 0 0))) (MX : Hid (¬ kd = 0 → ¬ kd = 1 → ¬ kd = 2 → ¬ MM)) (MHI : Hid (MH ↔ (0 ≤ cl ∧ cl < 3) ∧ (0 ≤ rv ∧ rv ≤ 4096) ∧ (0 ≤ sq ∧ sq ≤ 4096))) :
    Calls Tryz.prog 12 #[.agg #[.int .i64 kd, .int .i64 cl, .int .i64 rv, .int .i64 sq, .int .i64 fr, .int .i64 ls, .bool rf, .slice ep en ec, .slice sp sn sc, .string tx, .int .i64 ro, .int .i64 nx, .slice np nn nc]] w (Tells MM w) := by
  have BX : Hid (Bl w (w.alloc (.cells #[.int .i64 kd, .int .i64 cl, .int .i64 rv, .int .i64 sq, .int .i64 fr, .int .i64 ls, .bool rf, .slice ep en ec, .slice sp sn sc, .string tx, .int .i64 ro, .int .i64 nx, .slice np nn nc] 28))) := Lib.hid (Bl.alloc (Bl.refl w) _)
  have XB : Hid ((w.alloc (.cells #[.int .i64 kd, .int .i64 cl, .int .i64 rv, .int .i64 sq, .int .i64 fr, .int .i64 ls, .bool rf, .slice ep en ec, .slice sp sn sc, .string tx, .int .i64 ro, .int .i64 nx, .slice np nn nc] 28)).heap[w.heap.size]? = some (.cells #[.int .i64 kd, .int .i64 cl, .int .i64 rv, .int .i64 sq, .int .i64 fr, .int .i64 ls, .bool rf, .slice ep en ec, .slice sp sn sc, .string tx, .int .i64 ro, .int .i64 nx, .slice np nn nc] 28 (0, 0))) := Lib.hid (heap_alloc_new w _)
  go_enter Tryz.func12, Tryz.ntmps12
  go_upto_block 0 with fail
  generalize w.alloc (.cells #[.int .i64 kd, .int .i64 cl, .int .i64 rv, .int .i64 sq, .int .i64 fr, .int .i64 ls, .bool rf, .slice ep en ec, .slice sp sn sc, .string tx, .int .i64 ro, .int .i64 nx, .slice np nn nc] 28) = w0 at BX XB ⊢
  go_cut [3] (fun v wx => ∃ (f : Bool) (fr ls : Int) (rf : Bool) (ep : Option Addr) (en ec : Nat) (sp : Option Addr) (sn sc : Nat) (tx : ByteArray) (ro nx : Int) (np : Option Addr) (nn nc : Nat), v = .bool f ∧ Hid (Bl w wx) ∧ Hid (wx.heap[w.heap.size]? = some (.cells #[.int .i64 kd, .int .i64 cl, .int .i64 rv, .int .i64 sq, .int .i64 fr, .int .i64 ls, .bool rf, .slice ep en ec, .slice sp sn sc, .string tx, .int .i64 ro, .int .i64 nx, .slice np nn nc] 28 (0, 0))) ∧ en ≤ 140737488355328 ∧ sn ≤ 140737488355328 ∧ nn ≤ 140737488355328 ∧ Hid (MM ↔ f = true ∧ MH ∧ Br fr ls rf en sn tx ro nx nn))
  case first =>
    by_cases k0 : kd = 0
    · have N0 := Lib.hid (M0.out k0)
      clear M0 M1 M2 MX
      subst k0
      have c7z := (obj_cells XB.out).1 7 _ rfl
      by_cases s1 : 0 < sq
      · skip
        go_wp2_with ((go_at_call 38; refine (RM.out _ BX.out).mono ?_; rintro e w2 ⟨hb, ⟨rfl, hm⟩ | ⟨rfl, hm⟩⟩ <;> (have B2 := Lib.hid (BX.out.trans (hb.mono BX.out.size)); have HM := Lib.hid hm; have X2 := Lib.hid (heap_later XB.out hb); have c3 := (obj_cells X2.out).1 3 _ rfl; have c7 := (obj_cells X2.out).1 7 _ rfl; have f7 := (obj_cells X2.out).2.1 7; clear hb hm)))
        · skip
          go_meet
          exact ⟨true, fr, ls, rf, none, 0, 0, sp, sn, sc, tx, ro, nx, np, nn, nc, rfl, Lib.hid (Bl.setNew B2.out (Nat.le_refl _) 7 _), Lib.hid (by rw [heap_setCell_at X2.out]; rfl), by first | exact h1 | decide, by first | exact h2 | decide, by first | exact h3 | decide, Lib.hid (N0.out.trans ⟨fun h => ⟨rfl, h.2⟩, fun h => ⟨⟨HM.out, .inl s1⟩, h.2⟩⟩)⟩
        · skip
          go_meet
          exact ⟨false, fr, ls, rf, none, 0, 0, sp, sn, sc, tx, ro, nx, np, nn, nc, rfl, Lib.hid (Bl.setNew B2.out (Nat.le_refl _) 7 _), Lib.hid (by rw [heap_setCell_at X2.out]; rfl), by first | exact h1 | decide, by first | exact h2 | decide, by first | exact h3 | decide, Lib.hid (N0.out.trans ⟨fun h => (HM.out h.1.1).elim, fun h => by cases h.1⟩)⟩
      · have q3 : decide (0 < sq) = false := decide_eq_false s1
        by_cases e1 : en = 0
        · have E1 := Lib.hid e1
          clear e1
          have q7 : ((en : Int) == 0) = true := by rw [beq_iff_eq]; have := E1.out; omega
          go_wp2_with ((go_at_call 38; refine (RM.out _ BX.out).mono ?_; rintro e w2 ⟨hb, ⟨rfl, hm⟩ | ⟨rfl, hm⟩⟩ <;> (have B2 := Lib.hid (BX.out.trans (hb.mono BX.out.size)); have HM := Lib.hid hm; have X2 := Lib.hid (heap_later XB.out hb); have c3 := (obj_cells X2.out).1 3 _ rfl; have c7 := (obj_cells X2.out).1 7 _ rfl; have f7 := (obj_cells X2.out).2.1 7; clear hb hm)))
          · skip
            go_meet
            exact ⟨true, fr, ls, rf, none, 0, 0, sp, sn, sc, tx, ro, nx, np, nn, nc, rfl, Lib.hid (Bl.setNew B2.out (Nat.le_refl _) 7 _), Lib.hid (by rw [heap_setCell_at X2.out]; rfl), by first | exact h1 | decide, by first | exact h2 | decide, by first | exact h3 | decide, Lib.hid (N0.out.trans ⟨fun h => ⟨rfl, h.2⟩, fun h => ⟨⟨HM.out, .inr E1.out⟩, h.2⟩⟩)⟩
          · skip
            go_meet
            exact ⟨false, fr, ls, rf, none, 0, 0, sp, sn, sc, tx, ro, nx, np, nn, nc, rfl, Lib.hid (Bl.setNew B2.out (Nat.le_refl _) 7 _), Lib.hid (by rw [heap_setCell_at X2.out]; rfl), by first | exact h1 | decide, by first | exact h2 | decide, by first | exact h3 | decide, Lib.hid (N0.out.trans ⟨fun h => (HM.out h.1.1).elim, fun h => by cases h.1⟩)⟩
        · have q7 : ((en : Int) == 0) = false := by rw [beq_eq_false_iff_ne]; omega
          go_wp2_with ((go_at_call 38; refine (RM.out _ BX.out).mono ?_; rintro e w2 ⟨hb, ⟨rfl, hm⟩ | ⟨rfl, hm⟩⟩ <;> (have B2 := Lib.hid (BX.out.trans (hb.mono BX.out.size)); have HM := Lib.hid hm; have X2 := Lib.hid (heap_later XB.out hb); have c3 := (obj_cells X2.out).1 3 _ rfl; have c7 := (obj_cells X2.out).1 7 _ rfl; have f7 := (obj_cells X2.out).2.1 7; clear hb hm)))
          · skip
            go_meet
            exact ⟨false, fr, ls, rf, none, 0, 0, sp, sn, sc, tx, ro, nx, np, nn, nc, rfl, Lib.hid (Bl.setNew B2.out (Nat.le_refl _) 7 _), Lib.hid (by rw [heap_setCell_at X2.out]; rfl), by first | exact h1 | decide, by first | exact h2 | decide, by first | exact h3 | decide, Lib.hid (N0.out.trans ⟨fun h => (Or.elim h.1.2 (fun h2 => absurd h2 (Int.not_lt.2 s1)) e1 : False).elim, fun h => by cases h.1⟩)⟩
          · skip
            go_meet
            exact ⟨false, fr, ls, rf, none, 0, 0, sp, sn, sc, tx, ro, nx, np, nn, nc, rfl, Lib.hid (Bl.setNew B2.out (Nat.le_refl _) 7 _), Lib.hid (by rw [heap_setCell_at X2.out]; rfl), by first | exact h1 | decide, by first | exact h2 | decide, by first | exact h3 | decide, Lib.hid (N0.out.trans ⟨fun h => (HM.out h.1.1).elim, fun h => by cases h.1⟩)⟩
    by_cases k1 : kd = 1
    · have N0 := Lib.hid (M1.out k1)
      clear M0 M1 M2 MX
      subst k1
      have B2 := BX; have X2 := XB
      have c3 := (obj_cells X2.out).1 3 _ rfl
      have c8 := (obj_cells X2.out).1 8 _ rfl
      have f8 := (obj_cells X2.out).2.1 8
      by_cases s1 : sq = 0
      case neg =>
        have q3 : (sq == 0) = false := by rw [beq_eq_false_iff_ne]; exact s1
        go_wp2_with fail
        go_meet
        exact ⟨false, fr, ls, rf, ep, en, ec, none, 0, 0, tx, ro, nx, np, nn, nc, rfl, Lib.hid (Bl.setNew B2.out (Nat.le_refl _) 8 _), Lib.hid (by rw [heap_setCell_at X2.out]; rfl), by first | exact h1 | decide, by first | exact h2 | decide, by first | exact h3 | decide, Lib.hid (N0.out.trans ⟨fun h => (s1 h.1.1).elim, fun h => by cases h.1⟩)⟩
      have q3 : (sq == 0) = true := by rw [beq_iff_eq]; exact s1
      have S1 := Lib.hid s1
      clear s1
      by_cases e1 : sn ≤ 3
      case neg =>
        go_wp2_with fail
        go_meet
        exact ⟨false, fr, ls, rf, ep, en, ec, none, 0, 0, tx, ro, nx, np, nn, nc, rfl, Lib.hid (Bl.setNew B2.out (Nat.le_refl _) 8 _), Lib.hid (by rw [heap_setCell_at X2.out]; rfl), by first | exact h1 | decide, by first | exact h2 | decide, by first | exact h3 | decide, Lib.hid (N0.out.trans ⟨fun h => (e1 h.1.2.1).elim, fun h => by cases h.1⟩)⟩
      clear B2 X2
      go_wp2_with ((go_at_call 39; refine (RE.out _ BX.out).mono ?_; rintro e w2 ⟨hb, ⟨rfl, hm⟩ | ⟨rfl, hm⟩⟩ <;> (have B2 := Lib.hid (BX.out.trans (hb.mono BX.out.size)); have HM := Lib.hid hm; have X2 := Lib.hid (heap_later XB.out hb); have c8 := (obj_cells X2.out).1 8 _ rfl; have f8 := (obj_cells X2.out).2.1 8; clear hb hm)))
      · skip
        go_meet
        exact ⟨true, fr, ls, rf, ep, en, ec, none, 0, 0, tx, ro, nx, np, nn, nc, rfl, Lib.hid (Bl.setNew B2.out (Nat.le_refl _) 8 _), Lib.hid (by rw [heap_setCell_at X2.out]; rfl), by first | exact h1 | decide, by first | exact h2 | decide, by first | exact h3 | decide, Lib.hid (N0.out.trans ⟨fun h => ⟨rfl, h.2⟩, fun h => ⟨⟨S1.out, e1, HM.out⟩, h.2⟩⟩)⟩
      · skip
        go_meet
        exact ⟨false, fr, ls, rf, ep, en, ec, none, 0, 0, tx, ro, nx, np, nn, nc, rfl, Lib.hid (Bl.setNew B2.out (Nat.le_refl _) 8 _), Lib.hid (by rw [heap_setCell_at X2.out]; rfl), by first | exact h1 | decide, by first | exact h2 | decide, by first | exact h3 | decide, Lib.hid (N0.out.trans ⟨fun h => (HM.out h.1.2.2).elim, fun h => by cases h.1⟩)⟩
    by_cases k2 : kd = 2
    · have N0 := Lib.hid (M2.out k2)
      clear M0 M1 M2 MX
      subst k2
      have B2 := BX; have X2 := XB
      have c4 := (obj_cells X2.out).1 4 _ rfl; have f4 := (obj_cells X2.out).2.1 4
      have c5 := (obj_cells X2.out).1 5 _ rfl; have f5 := (obj_cells X2.out).2.1 5
      have c6 := (obj_cells X2.out).1 6 _ rfl; have f6 := (obj_cells X2.out).2.1 6
      have c9 := (obj_cells X2.out).1 9 _ rfl; have f9 := (obj_cells X2.out).2.1 9
      have c10 := (obj_cells X2.out).1 10 _ rfl; have f10 := (obj_cells X2.out).2.1 10
      have c11 := (obj_cells X2.out).1 11 _ rfl; have f11 := (obj_cells X2.out).2.1 11
      have c12 := (obj_cells X2.out).1 12 _ rfl; have f12 := (obj_cells X2.out).2.1 12
      by_cases qD1 : 0 ≤ fr ∧ fr ≤ 4096
      case neg =>
        have D1 := decide_eq_false qD1
        have Q1 := Lib.hid qD1
        clear qD1
        go_wp2_with (go_at_call 41; refine (ncount_any _ _).mono ?_; rintro e w1 ⟨rfl, rfl⟩; first | rw [D1] | rw [D2] | rw [D3])
        go_meet
        exact ⟨false, 0, 0, false, ep, en, ec, sp, sn, sc, ⟨#[]⟩, 0, 0, none, 0, 0, rfl, Lib.hid (Bl.setNew (Bl.setNew (Bl.setNew (Bl.setNew (Bl.setNew (Bl.setNew (Bl.setNew B2.out (Nat.le_refl _) 4 _) (Nat.le_refl _) 5 _) (Nat.le_refl _) 6 _) (Nat.le_refl _) 9 _) (Nat.le_refl _) 10 _) (Nat.le_refl _) 11 _) (Nat.le_refl _) 12 _), Lib.hid (by rw [heap_setCell_at (heap_setCell_at (heap_setCell_at (heap_setCell_at (heap_setCell_at (heap_setCell_at (heap_setCell_at X2.out _) _) _) _) _) _)]; rfl), by first | exact h1 | decide, by first | exact h2 | decide, by first | exact h3 | decide, Lib.hid (N0.out.trans ⟨fun h => (Q1.out h.1.1).elim, fun h => by cases h.1⟩)⟩
      have D1 := decide_eq_true qD1
      have Q1 := Lib.hid qD1
      clear qD1
      by_cases qD2 : 0 ≤ ls ∧ ls ≤ 4096
      case neg =>
        have D2 := decide_eq_false qD2
        have Q2 := Lib.hid qD2
        clear qD2
        go_wp2_with (go_at_call 41; refine (ncount_any _ _).mono ?_; rintro e w1 ⟨rfl, rfl⟩; first | rw [D1] | rw [D2] | rw [D3])
        go_meet
        exact ⟨false, 0, 0, false, ep, en, ec, sp, sn, sc, ⟨#[]⟩, 0, 0, none, 0, 0, rfl, Lib.hid (Bl.setNew (Bl.setNew (Bl.setNew (Bl.setNew (Bl.setNew (Bl.setNew (Bl.setNew B2.out (Nat.le_refl _) 4 _) (Nat.le_refl _) 5 _) (Nat.le_refl _) 6 _) (Nat.le_refl _) 9 _) (Nat.le_refl _) 10 _) (Nat.le_refl _) 11 _) (Nat.le_refl _) 12 _), Lib.hid (by rw [heap_setCell_at (heap_setCell_at (heap_setCell_at (heap_setCell_at (heap_setCell_at (heap_setCell_at (heap_setCell_at X2.out _) _) _) _) _) _)]; rfl), by first | exact h1 | decide, by first | exact h2 | decide, by first | exact h3 | decide, Lib.hid (N0.out.trans ⟨fun h => (Q2.out h.1.2.1).elim, fun h => by cases h.1⟩)⟩
      have D2 := decide_eq_true qD2
      have Q2 := Lib.hid qD2
      clear qD2
      by_cases e1 : tx.size ≤ 300
      case neg =>
        go_wp2_with (first | (go_at_call 41; refine (ncount_any _ _).mono ?_; rintro e w1 ⟨rfl, rfl⟩; first | rw [D1] | rw [D2] | rw [D3]))
        go_meet
        exact ⟨false, 0, 0, false, ep, en, ec, sp, sn, sc, ⟨#[]⟩, 0, 0, none, 0, 0, rfl, Lib.hid (Bl.setNew (Bl.setNew (Bl.setNew (Bl.setNew (Bl.setNew (Bl.setNew (Bl.setNew B2.out (Nat.le_refl _) 4 _) (Nat.le_refl _) 5 _) (Nat.le_refl _) 6 _) (Nat.le_refl _) 9 _) (Nat.le_refl _) 10 _) (Nat.le_refl _) 11 _) (Nat.le_refl _) 12 _), Lib.hid (by rw [heap_setCell_at (heap_setCell_at (heap_setCell_at (heap_setCell_at (heap_setCell_at (heap_setCell_at (heap_setCell_at X2.out _) _) _) _) _) _)]; rfl), by first | exact h1 | decide, by first | exact h2 | decide, by first | exact h3 | decide, Lib.hid (N0.out.trans ⟨fun h => (e1 h.1.2.2.1).elim, fun h => by cases h.1⟩)⟩
      go_wp2_with (first | (go_at_call 41; refine (ncount_any _ _).mono ?_; rintro e w1 ⟨rfl, rfl⟩; first | rw [D1] | rw [D2] | rw [D3]) | (go_at_call 42; refine (RT.out _ B2.out).mono ?_; rintro e w3 ⟨hb, ⟨rfl, hm⟩ | ⟨rfl, hm⟩⟩ <;> (have B3 := Lib.hid (B2.out.trans (hb.mono B2.out.size)); have HM := Lib.hid hm; have X3 := Lib.hid (heap_later X2.out hb); clear hb hm c4 f4 c5 f5 c6 f6 c9 f9 c10 f10 c11 f11 c12 f12 B2 X2; have B2 := B3; have X2 := X3; clear B3 X3; have c4 := (obj_cells X2.out).1 4 _ rfl; have f4 := (obj_cells X2.out).2.1 4; have c5 := (obj_cells X2.out).1 5 _ rfl; have f5 := (obj_cells X2.out).2.1 5; have c6 := (obj_cells X2.out).1 6 _ rfl; have f6 := (obj_cells X2.out).2.1 6; have c9 := (obj_cells X2.out).1 9 _ rfl; have f9 := (obj_cells X2.out).2.1 9; have c10 := (obj_cells X2.out).1 10 _ rfl; have f10 := (obj_cells X2.out).2.1 10; have c11 := (obj_cells X2.out).1 11 _ rfl; have f11 := (obj_cells X2.out).2.1 11; have c12 := (obj_cells X2.out).1 12 _ rfl; have f12 := (obj_cells X2.out).2.1 12; skip)))
      · skip
        go_meet
        exact ⟨true, 0, 0, false, ep, en, ec, sp, sn, sc, ⟨#[]⟩, 0, 0, none, 0, 0, rfl, Lib.hid (Bl.setNew (Bl.setNew (Bl.setNew (Bl.setNew (Bl.setNew (Bl.setNew (Bl.setNew B2.out (Nat.le_refl _) 4 _) (Nat.le_refl _) 5 _) (Nat.le_refl _) 6 _) (Nat.le_refl _) 9 _) (Nat.le_refl _) 10 _) (Nat.le_refl _) 11 _) (Nat.le_refl _) 12 _), Lib.hid (by rw [heap_setCell_at (heap_setCell_at (heap_setCell_at (heap_setCell_at (heap_setCell_at (heap_setCell_at (heap_setCell_at X2.out _) _) _) _) _) _)]; rfl), by first | exact h1 | decide, by first | exact h2 | decide, by first | exact h3 | decide, Lib.hid (N0.out.trans ⟨fun h => ⟨rfl, h.2⟩, fun h => ⟨⟨Q1.out, Q2.out, e1, HM.out⟩, h.2⟩⟩)⟩
      · skip
        go_meet
        exact ⟨false, 0, 0, false, ep, en, ec, sp, sn, sc, ⟨#[]⟩, 0, 0, none, 0, 0, rfl, Lib.hid (Bl.setNew (Bl.setNew (Bl.setNew (Bl.setNew (Bl.setNew (Bl.setNew (Bl.setNew B2.out (Nat.le_refl _) 4 _) (Nat.le_refl _) 5 _) (Nat.le_refl _) 6 _) (Nat.le_refl _) 9 _) (Nat.le_refl _) 10 _) (Nat.le_refl _) 11 _) (Nat.le_refl _) 12 _), Lib.hid (by rw [heap_setCell_at (heap_setCell_at (heap_setCell_at (heap_setCell_at (heap_setCell_at (heap_setCell_at (heap_setCell_at X2.out _) _) _) _) _) _)]; rfl), by first | exact h1 | decide, by first | exact h2 | decide, by first | exact h3 | decide, Lib.hid (N0.out.trans ⟨fun h => (HM.out h.1.2.2.2).elim, fun h => by cases h.1⟩)⟩
    have N0 := Lib.hid (MX.out k0 k1 k2)
    clear M0 M1 M2 MX
    have B2 := BX; have X2 := XB
    go_wp2_with fail
    go_meet
    exact ⟨false, fr, ls, rf, ep, en, ec, sp, sn, sc, tx, ro, nx, np, nn, nc, rfl, B2, X2, h1, h2, h3, Lib.hid (⟨fun h => (N0.out h).elim, fun h => by cases h.1⟩)⟩
  case rest =>
    clear BX XB M0 M1 M2 MX RM RE RT h1 h2 h3
    obtain ⟨f, fr, ls, rf, ep, en, ec, sp, sn, sc, tx, ro, nx, np, nn, nc, rfl, BX, XB, h1, h2, h3, N0⟩ := hcut
    have c0 := (obj_cells XB.out).1 0 _ rfl
    have c1 := (obj_cells XB.out).1 1 _ rfl
    have c2 := (obj_cells XB.out).1 2 _ rfl
    have c3 := (obj_cells XB.out).1 3 _ rfl
    have c4 := (obj_cells XB.out).1 4 _ rfl
    have c5 := (obj_cells XB.out).1 5 _ rfl
    have c6 := (obj_cells XB.out).1 6 _ rfl
    have c7 := (obj_cells XB.out).1 7 _ rfl
    have c8 := (obj_cells XB.out).1 8 _ rfl
    have c9 := (obj_cells XB.out).1 9 _ rfl
    have c10 := (obj_cells XB.out).1 10 _ rfl
    have c11 := (obj_cells XB.out).1 11 _ rfl
    have c12 := (obj_cells XB.out).1 12 _ rfl
    have RB := Lib.hid (fun (W : World) => nbare_any kd cl rv sq fr ls rf ep en ec sp sn sc tx ro nx np nn nc h1 h2 h3 W)
    cases f with
    | false =>
      go_wp2_with fail
      go_ret
      exact ⟨BX.out, .inr ⟨rfl, fun h => by have := (N0.out.1 h).1; cases this⟩⟩
    | true =>
    by_cases qD0 : 0 ≤ cl ∧ cl < 3
    case neg =>
      have D0 := decide_eq_false qD0
      have QD0 := Lib.hid qD0
      clear qD0
      go_wp2_with (first | (go_at_call 43; refine (nclient_any _ _).mono ?_; rintro e w1 ⟨rfl, rfl⟩; rw [D0]) | (go_at_call 41; refine (ncount_any _ _).mono ?_; rintro e w1 ⟨rfl, rfl⟩; first | rw [D1] | rw [D2] | rw [D3]))
      go_ret
      exact ⟨BX.out, .inr ⟨rfl, fun h => QD0.out (MHI.out.1 (N0.out.1 h).2.1).1⟩⟩
    have D0 := decide_eq_true qD0
    have QD0 := Lib.hid qD0
    clear qD0
    by_cases qD1 : 0 ≤ rv ∧ rv ≤ 4096
    case neg =>
      have D1 := decide_eq_false qD1
      have QD1 := Lib.hid qD1
      clear qD1
      go_wp2_with (first | (go_at_call 43; refine (nclient_any _ _).mono ?_; rintro e w1 ⟨rfl, rfl⟩; rw [D0]) | (go_at_call 41; refine (ncount_any _ _).mono ?_; rintro e w1 ⟨rfl, rfl⟩; first | rw [D1] | rw [D2] | rw [D3]))
      go_ret
      exact ⟨BX.out, .inr ⟨rfl, fun h => QD1.out (MHI.out.1 (N0.out.1 h).2.1).2.1⟩⟩
    have D1 := decide_eq_true qD1
    have QD1 := Lib.hid qD1
    clear qD1
    by_cases qD2 : 0 ≤ sq ∧ sq ≤ 4096
    case neg =>
      have D2 := decide_eq_false qD2
      have QD2 := Lib.hid qD2
      clear qD2
      go_wp2_with (first | (go_at_call 43; refine (nclient_any _ _).mono ?_; rintro e w1 ⟨rfl, rfl⟩; rw [D0]) | (go_at_call 41; refine (ncount_any _ _).mono ?_; rintro e w1 ⟨rfl, rfl⟩; first | rw [D1] | rw [D2] | rw [D3]))
      go_ret
      exact ⟨BX.out, .inr ⟨rfl, fun h => QD2.out (MHI.out.1 (N0.out.1 h).2.1).2.2⟩⟩
    have D2 := decide_eq_true qD2
    have QD2 := Lib.hid qD2
    clear qD2
    go_wp2_with (first | (go_at_call 43; refine (nclient_any _ _).mono ?_; rintro e w1 ⟨rfl, rfl⟩; rw [D0]) | (go_at_call 41; refine (ncount_any _ _).mono ?_; rintro e w1 ⟨rfl, rfl⟩; first | rw [D1] | rw [D2] | rw [D3]) | (go_at_call 44; refine (RB.out _).mono ?_; rintro e w2 ⟨hb, ⟨rfl, hm⟩ | ⟨rfl, hm⟩⟩ <;> (have B2 := Lib.hid (BX.out.trans (hb.mono BX.out.size)); have HM := Lib.hid hm; clear hb hm)))
    · go_ret
      exact ⟨B2.out, .inl ⟨rfl, N0.out.2 ⟨trivial, MHI.out.2 ⟨QD0.out, QD1.out, QD2.out⟩, HM.out⟩⟩⟩
    · go_ret
      exact ⟨B2.out, .inr ⟨rfl, fun h => HM.out (N0.out.1 h).2.2⟩⟩
set_option maxHeartbeats 2000000 in
/-- The program's May, at every message. -/
theorem qmay_any (m : Ms) (q : Mq) (w : World) (hz : MsZ m) (hr : MsR w m q) : Calls Tryz.prog 12 #[msV m q] w (Tells (MsMay m) w) := by
  obtain ⟨kd, cl, rv, sq, fr, ls, rf, tx, ro, nx, ns, ed, es⟩ := m
  obtain ⟨ep, ec, sp, sc, np, nc⟩ := q
  obtain ⟨z1, z2, z3, z4, z5, z6⟩ := hz
  obtain ⟨r1, r2, r3⟩ := hr
  unfold msV
  dsimp only at *
  refine may_walk (MsMay ⟨kd, cl, rv, sq, fr, ls, rf, tx, ro, nx, ns, ed, es⟩) (MsHead ⟨kd, cl, rv, sq, fr, ls, rf, tx, ro, nx, ns, ed, es⟩) (MayP ed) (∀ x ∈ es, EnMay x) (mayB ns ro nx tx.size = true) kd cl rv sq fr ls rf ep ed.length ec sp es.length sc tx ro nx np ns.length nc w z1 z2 z3 (Lib.hid (fun W hW => ?_)) (Lib.hid (fun W hW => ?_)) (Lib.hid (fun W hW => ?_)) (Lib.hid (fun h => ?_)) (Lib.hid (fun h => ?_)) (Lib.hid (fun h => ?_)) (Lib.hid (fun h0 h1 h2 => may_x h0 h1 h2)) (Lib.hid ?_)
  · exact K.may_any ep ed ec W (rowC_below r1 hW)
  · exact neve_any es sp es.length sc rfl z2 W (r2.below hW) z6
  · exact (may_any ro nx tx.size np ns ns.length nc rfl W (r3.below hW) z3 z5).mono (fun _ _ h => by rw [mayP_is_B] at h; exact tells_bool h)
  · subst h; exact may_0
  · subst h; exact may_1
  · subst h; exact may_2
  · unfold MsHead; dsimp only; omega

end Go.Proofs.YtjmfjlffcopnnaaGreatDoor
