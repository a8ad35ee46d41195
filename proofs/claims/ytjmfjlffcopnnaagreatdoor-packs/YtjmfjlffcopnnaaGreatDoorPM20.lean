/-
  Pk9, PkA, PkL, in one text. Conditions: as each theorem's premises say.
-/
import Derived.Test.YtjmfjlffcopnnaaGreatDoorPM19
namespace Go.Proofs.YtjmfjlffcopnnaaGreatDoor
open Go.RowKit
open Go.Proofs.YtjmfjlffcopnnaaGreatDoor.K (C RowC PieceAt MayP rcmay_any)

set_option maxRecDepth 100000 in
set_option maxHeartbeats 4000000 in
theorem msgMay_poll (m : Ms) (q : Mq) (w : World) (hz : MsZ m) (hr : MsR w m q) (hh : MsHead m) (hb : MsBare m) (hk : m.kd = 0) : MmC m q w := by
  have HM : Hid (MsMay m ↔ (m.es.length = 0 ∧ MayP m.ed ∧ (0 < m.sq ∨ m.ed.length = 0))) := Lib.hid ⟨fun h => (by
    rcases h.2 with h | h | h
    · exact ⟨h.2.2.1, h.2.2.2⟩
    · rw [hk] at h; cases h.1
    · rw [hk] at h; cases h.1), fun h => ⟨hh, .inl ⟨hk, hb, h⟩⟩⟩
  have hel := hz.ed
  have hsl := hz.es
  have ER := Lib.hid hr.ed
  unfold MmC
  generalize MsMay m = P at HM ⊢
  obtain ⟨kd, cl, rv, sq, fr, ls, rf, tx, ro, nx, ns, ed, es⟩ := m
  obtain ⟨ep, ec, sp, sc, np, nc⟩ := q
  unfold msV
  obtain ⟨a1, a2, a3, a4, a5, a6⟩ := hh
  obtain ⟨c1, c2, c3, c4, c5, c6, c7⟩ := hb
  dsimp only at *
  subst c1 c2 c3 c4 c5 c6
  have NT : Hid (∀ W, Calls Tryz.prog 45 #[.agg #[.int .i64 0, .int .i64 0, .slice np 0 nc]] W (RetBelow (.returned (.bool true)) W)) := Lib.hid (fun W => (noTree_any 0 0 np 0 nc (Nat.zero_le _) W).mono (fun e w1 h => by
    rcases h.2 with h2 | h2
    · exact ⟨h2.1, h.1⟩
    · exact absurd ⟨rfl, rfl, rfl⟩ h2.2))
  rw [c7]
  clear c7
  have X0 := Lib.hid (heap_alloc_new w (.cells #[.int .i64 kd, .int .i64 cl, .int .i64 rv, .int .i64 sq, .int .i64 0, .int .i64 0, .bool false, .slice ep ed.length ec, .slice sp es.length sc, .string ⟨#[]⟩, .int .i64 0, .int .i64 0, .slice np 0 nc] 28))
  subst hk
  clear hz hr
  have CM : Hid (∀ W, Bl w W → Calls Tryz.prog 46 #[.slice ep ed.length ec] W (K.MayPost ed W)) := Lib.hid (fun W hW => rcmay_any ep ed ec W (rowC_below ER.out hW))
  generalize ed.length = en at *
  generalize es.length = sn at *
  by_cases b1 : sn = 0
  case neg =>
    have b0 : 0 < sn := by omega
    go_enter Tryz.func13, Tryz.ntmps13
    go_wp2_with (go_at_call 45; refine (NT.out _).mono ?_; rintro e w1 ⟨rfl, hb1⟩; have B1 := Lib.hid hb1; have X1 := Lib.hid (heap_later X0.out hb1); have x0 := (obj_cells X1.out).1 0 _ rfl; have x3 := (obj_cells X1.out).1 3 _ rfl; have x7 := (obj_cells X1.out).1 7 _ rfl; have x8 := (obj_cells X1.out).1 8 _ rfl; clear hb1)
    go_ret
    exact tells_no (fun h => by have := (HM.out.1 h).1; omega) ((below1 (Below.refl _ _) (Nat.le_refl _) _).trans (B1.out.mono (below1 (Below.refl _ _) (Nat.le_refl _) _).size))
  subst b1
  by_cases hmp : MayP ed
  case neg =>
    have MP := Lib.hid hmp
    clear hmp
    go_enter Tryz.func13, Tryz.ntmps13
    go_wp2_with (first | (go_at_call 45; refine (NT.out _).mono ?_; rintro e w1 ⟨rfl, hb1⟩; have B1 := Lib.hid hb1; have X1 := Lib.hid (heap_later X0.out hb1); have x0 := (obj_cells X1.out).1 0 _ rfl; have x3 := (obj_cells X1.out).1 3 _ rfl; have x7 := (obj_cells X1.out).1 7 _ rfl; have x8 := (obj_cells X1.out).1 8 _ rfl; clear hb1) | (go_at_call 46; refine (CM.out _ ((below1 (Below.refl _ _) (Nat.le_refl _) _).trans (B1.out.mono (below1 (Below.refl _ _) (Nat.le_refl _) _).size))).mono ?_; rintro e w2 ⟨hb2, ⟨rfl, hy⟩ | ⟨rfl, hy⟩⟩; exact absurd hy MP.out; have B2 := Lib.hid hb2; have y3 := cell_later hb2 x3; have y7 := cell_later hb2 x7; clear hb2))
    go_ret
    exact tells_no (fun h => MP.out (HM.out.1 h).2.1) (Below.trans ((below1 (Below.refl _ _) (Nat.le_refl _) _).trans (B1.out.mono (below1 (Below.refl _ _) (Nat.le_refl _) _).size)) (B2.out.mono (Below.size ((below1 (Below.refl _ _) (Nat.le_refl _) _).trans (B1.out.mono (below1 (Below.refl _ _) (Nat.le_refl _) _).size)))))
  have MP := Lib.hid hmp
  clear hmp
  by_cases b2 : 0 < sq
  case pos =>
    go_enter Tryz.func13, Tryz.ntmps13
    go_wp2_with (first | (go_at_call 45; refine (NT.out _).mono ?_; rintro e w1 ⟨rfl, hb1⟩; have B1 := Lib.hid hb1; have X1 := Lib.hid (heap_later X0.out hb1); have x0 := (obj_cells X1.out).1 0 _ rfl; have x3 := (obj_cells X1.out).1 3 _ rfl; have x7 := (obj_cells X1.out).1 7 _ rfl; have x8 := (obj_cells X1.out).1 8 _ rfl; clear hb1) | (go_at_call 46; refine (CM.out _ ((below1 (Below.refl _ _) (Nat.le_refl _) _).trans (B1.out.mono (below1 (Below.refl _ _) (Nat.le_refl _) _).size))).mono ?_; rintro e w2 ⟨hb2, ⟨rfl, hy⟩ | ⟨rfl, hy⟩⟩; rotate_left; exact absurd MP.out hy; have B2 := Lib.hid hb2; have y3 := cell_later hb2 x3; have y7 := cell_later hb2 x7; clear hb2))
    go_ret
    exact tells_yes (HM.out.2 ⟨by simp, MP.out, .inl b2⟩) (Below.trans ((below1 (Below.refl _ _) (Nat.le_refl _) _).trans (B1.out.mono (below1 (Below.refl _ _) (Nat.le_refl _) _).size)) (B2.out.mono (Below.size ((below1 (Below.refl _ _) (Nat.le_refl _) _).trans (B1.out.mono (below1 (Below.refl _ _) (Nat.le_refl _) _).size)))))
  by_cases b3 : en = 0
  case neg =>
    go_enter Tryz.func13, Tryz.ntmps13
    go_wp2_with (first | (go_at_call 45; refine (NT.out _).mono ?_; rintro e w1 ⟨rfl, hb1⟩; have B1 := Lib.hid hb1; have X1 := Lib.hid (heap_later X0.out hb1); have x0 := (obj_cells X1.out).1 0 _ rfl; have x3 := (obj_cells X1.out).1 3 _ rfl; have x7 := (obj_cells X1.out).1 7 _ rfl; have x8 := (obj_cells X1.out).1 8 _ rfl; clear hb1) | (go_at_call 46; refine (CM.out _ ((below1 (Below.refl _ _) (Nat.le_refl _) _).trans (B1.out.mono (below1 (Below.refl _ _) (Nat.le_refl _) _).size))).mono ?_; rintro e w2 ⟨hb2, ⟨rfl, hy⟩ | ⟨rfl, hy⟩⟩; rotate_left; exact absurd MP.out hy; have B2 := Lib.hid hb2; have y3 := cell_later hb2 x3; have y7 := cell_later hb2 x7; clear hb2))
    go_ret
    refine ⟨(Below.trans ((below1 (Below.refl _ _) (Nat.le_refl _) _).trans (B1.out.mono (below1 (Below.refl _ _) (Nat.le_refl _) _).size)) (B2.out.mono (Below.size ((below1 (Below.refl _ _) (Nat.le_refl _) _).trans (B1.out.mono (below1 (Below.refl _ _) (Nat.le_refl _) _).size))))), .inr ⟨retB (by simp; omega), fun h => ?_⟩⟩
    rcases (HM.out.1 h).2.2 with h2 | h2
    · omega
    · exact b3 h2
  subst b3
  go_enter Tryz.func13, Tryz.ntmps13
  go_wp2_with (first | (go_at_call 45; refine (NT.out _).mono ?_; rintro e w1 ⟨rfl, hb1⟩; have B1 := Lib.hid hb1; have X1 := Lib.hid (heap_later X0.out hb1); have x0 := (obj_cells X1.out).1 0 _ rfl; have x3 := (obj_cells X1.out).1 3 _ rfl; have x7 := (obj_cells X1.out).1 7 _ rfl; have x8 := (obj_cells X1.out).1 8 _ rfl; clear hb1) | (go_at_call 46; refine (CM.out _ ((below1 (Below.refl _ _) (Nat.le_refl _) _).trans (B1.out.mono (below1 (Below.refl _ _) (Nat.le_refl _) _).size))).mono ?_; rintro e w2 ⟨hb2, ⟨rfl, hy⟩ | ⟨rfl, hy⟩⟩; rotate_left; exact absurd MP.out hy; have B2 := Lib.hid hb2; have y3 := cell_later hb2 x3; have y7 := cell_later hb2 x7; clear hb2))
  go_ret
  exact ⟨(Below.trans ((below1 (Below.refl _ _) (Nat.le_refl _) _).trans (B1.out.mono (below1 (Below.refl _ _) (Nat.le_refl _) _).size)) (B2.out.mono (Below.size ((below1 (Below.refl _ _) (Nat.le_refl _) _).trans (B1.out.mono (below1 (Below.refl _ _) (Nat.le_refl _) _).size))))), .inl ⟨retB (by simp), HM.out.2 ⟨by simp, MP.out, .inr (by simp)⟩⟩⟩

set_option maxRecDepth 100000 in
set_option maxHeartbeats 4000000 in
theorem msgMay_other (m : Ms) (q : Mq) (w : World) (hz : MsZ m) (hh : MsHead m) (hb : MsBare m) (hk0 : ¬ m.kd = 0) (hk1 : ¬ m.kd = 1) (hk2 : ¬ m.kd = 2) : MmC m q w := by
  have HM : Hid (¬ MsMay m) := Lib.hid (fun h => by
    rcases h.2 with h | h | h
    · exact hk0 h.1
    · exact hk1 h.1
    · exact hk2 h.1)
  have hel := hz.ed
  have hsl := hz.es
  unfold MmC
  generalize MsMay m = P at HM ⊢
  obtain ⟨kd, cl, rv, sq, fr, ls, rf, tx, ro, nx, ns, ed, es⟩ := m
  obtain ⟨ep, ec, sp, sc, np, nc⟩ := q
  unfold msV
  obtain ⟨a1, a2, a3, a4, a5, a6⟩ := hh
  obtain ⟨c1, c2, c3, c4, c5, c6, c7⟩ := hb
  dsimp only at *
  subst c1 c2 c3 c4 c5 c6
  have NT : Hid (∀ W, Calls Tryz.prog 45 #[.agg #[.int .i64 0, .int .i64 0, .slice np 0 nc]] W (RetBelow (.returned (.bool true)) W)) := Lib.hid (fun W => (noTree_any 0 0 np 0 nc (Nat.zero_le _) W).mono (fun e w1 h => by
    rcases h.2 with h2 | h2
    · exact ⟨h2.1, h.1⟩
    · exact absurd ⟨rfl, rfl, rfl⟩ h2.2))
  rw [c7]
  clear c7
  have X0 := Lib.hid (heap_alloc_new w (.cells #[.int .i64 kd, .int .i64 cl, .int .i64 rv, .int .i64 sq, .int .i64 0, .int .i64 0, .bool false, .slice ep ed.length ec, .slice sp es.length sc, .string ⟨#[]⟩, .int .i64 0, .int .i64 0, .slice np 0 nc] 28))
  have g0 : (kd == 0) = false := by simpa using hk0
  have g1 : (kd == 1) = false := by simpa using hk1
  have g2 : (kd == 2) = false := by simpa using hk2
  have g3 : (kd != 0) = true := by simpa using hk0
  have g4 : (kd != 1) = true := by simpa using hk1
  clear hz hk0 hk1 hk2
  generalize ed.length = en at *
  generalize es.length = sn at *
  by_cases b1 : sn = 0
  case neg =>
    have b0 : 0 < sn := by omega
    go_enter Tryz.func13, Tryz.ntmps13
    go_wp2_with (go_at_call 45; refine (NT.out _).mono ?_; rintro e w1 ⟨rfl, hb1⟩; have B1 := Lib.hid hb1; have X1 := Lib.hid (heap_later X0.out hb1); have x0 := (obj_cells X1.out).1 0 _ rfl; have x3 := (obj_cells X1.out).1 3 _ rfl; have x7 := (obj_cells X1.out).1 7 _ rfl; have x8 := (obj_cells X1.out).1 8 _ rfl; clear hb1)
    go_ret
    exact tells_no HM.out ((below1 (Below.refl _ _) (Nat.le_refl _) _).trans (B1.out.mono (below1 (Below.refl _ _) (Nat.le_refl _) _).size))
  subst b1
  by_cases b2 : en = 0
  case neg =>
    have b0 : 0 < en := by omega
    go_enter Tryz.func13, Tryz.ntmps13
    go_wp2_with (go_at_call 45; refine (NT.out _).mono ?_; rintro e w1 ⟨rfl, hb1⟩; have B1 := Lib.hid hb1; have X1 := Lib.hid (heap_later X0.out hb1); have x0 := (obj_cells X1.out).1 0 _ rfl; have x3 := (obj_cells X1.out).1 3 _ rfl; have x7 := (obj_cells X1.out).1 7 _ rfl; have x8 := (obj_cells X1.out).1 8 _ rfl; clear hb1)
    go_ret
    exact tells_no HM.out ((below1 (Below.refl _ _) (Nat.le_refl _) _).trans (B1.out.mono (below1 (Below.refl _ _) (Nat.le_refl _) _).size))
  subst b2
  go_enter Tryz.func13, Tryz.ntmps13
  go_wp2_with (go_at_call 45; refine (NT.out _).mono ?_; rintro e w1 ⟨rfl, hb1⟩; have B1 := Lib.hid hb1; have X1 := Lib.hid (heap_later X0.out hb1); have x0 := (obj_cells X1.out).1 0 _ rfl; have x3 := (obj_cells X1.out).1 3 _ rfl; have x7 := (obj_cells X1.out).1 7 _ rfl; have x8 := (obj_cells X1.out).1 8 _ rfl; clear hb1)
  go_ret
  exact tells_no HM.out ((below1 (Below.refl _ _) (Nat.le_refl _) _).trans (B1.out.mono (below1 (Below.refl _ _) (Nat.le_refl _) _).size))

end Go.Proofs.YtjmfjlffcopnnaaGreatDoor

namespace Go.Proofs.YtjmfjlffcopnnaaGreatDoor
open Go.RowKit
open Go.Proofs.YtjmfjlffcopnnaaGreatDoor.K (C RowC PieceAt MayP rcmay_any)

set_option maxRecDepth 100000 in
set_option maxHeartbeats 4000000 in
theorem msgMay_changes (m : Ms) (q : Mq) (w : World) (hz : MsZ m) (hr : MsR w m q) (hh : MsHead m) (hb : MsBare m) (hk : m.kd = 1) : MmC m q w := by
  have HM : Hid (MsMay m ↔ (m.ed.length = 0 ∧ m.sq = 0 ∧ m.es.length ≤ 3 ∧ ∀ e ∈ m.es, EnMay e)) := Lib.hid ⟨fun h => (by
    rcases h.2 with h | h | h
    · rw [hk] at h; cases h.1
    · exact h.2.2
    · rw [hk] at h; cases h.1), fun h => ⟨hh, .inr (.inl ⟨hk, hb, h⟩)⟩⟩
  have hel := hz.ed
  have hsl := hz.es
  have R := Lib.hid hr.es
  have HE := Lib.hid hz.each
  unfold MmC
  generalize MsMay m = P at HM ⊢
  obtain ⟨kd, cl, rv, sq, fr, ls, rf, tx, ro, nx, ns, ed, es⟩ := m
  obtain ⟨ep, ec, sp, sc, np, nc⟩ := q
  unfold msV
  obtain ⟨a1, a2, a3, a4, a5, a6⟩ := hh
  obtain ⟨c1, c2, c3, c4, c5, c6, c7⟩ := hb
  dsimp only at *
  subst c1 c2 c3 c4 c5 c6
  have NT : Hid (∀ W, Calls Tryz.prog 45 #[.agg #[.int .i64 0, .int .i64 0, .slice np 0 nc]] W (RetBelow (.returned (.bool true)) W)) := Lib.hid (fun W => (noTree_any 0 0 np 0 nc (Nat.zero_le _) W).mono (fun e w1 h => by
    rcases h.2 with h2 | h2
    · exact ⟨h2.1, h.1⟩
    · exact absurd ⟨rfl, rfl, rfl⟩ h2.2))
  rw [c7]
  clear c7
  have X0 := Lib.hid (heap_alloc_new w (.cells #[.int .i64 kd, .int .i64 cl, .int .i64 rv, .int .i64 sq, .int .i64 0, .int .i64 0, .bool false, .slice ep ed.length ec, .slice sp es.length sc, .string ⟨#[]⟩, .int .i64 0, .int .i64 0, .slice np 0 nc] 28))
  subst hk
  clear hz hr
  generalize ed.length = en at *
  generalize hn : es.length = sn at *
  have HN := Lib.hid hn
  clear hn
  by_cases b1 : en = 0
  case neg =>
    have b0 : 0 < en := by omega
    go_enter Tryz.func13, Tryz.ntmps13
    go_wp2_with (go_at_call 45; refine (NT.out _).mono ?_; rintro e w1 ⟨rfl, hb1⟩; have B1 := Lib.hid hb1; have X1 := Lib.hid (heap_later X0.out hb1); have x0 := (obj_cells X1.out).1 0 _ rfl; have x3 := (obj_cells X1.out).1 3 _ rfl; have x7 := (obj_cells X1.out).1 7 _ rfl; have x8 := (obj_cells X1.out).1 8 _ rfl; clear hb1)
    go_ret
    exact tells_no (fun h => by have := (HM.out.1 h).1; omega) ((below1 (Below.refl _ _) (Nat.le_refl _) _).trans (B1.out.mono (below1 (Below.refl _ _) (Nat.le_refl _) _).size))
  subst b1
  have hsn0 : (0 : Int) ≤ (sn : Int) := by omega
  go_enter Tryz.func13, Tryz.ntmps13
  go_upto_region 11 with (go_at_call 45; refine (NT.out _).mono ?_; rintro e w1 ⟨rfl, hb1⟩; have B1 := Lib.hid hb1; have X1 := Lib.hid (heap_later X0.out hb1); have x0 := (obj_cells X1.out).1 0 _ rfl; have x3 := (obj_cells X1.out).1 3 _ rfl; have x7 := (obj_cells X1.out).1 7 _ rfl; have x8 := (obj_cells X1.out).1 8 _ rfl; clear hb1)
  have B3 := Lib.hid (((below1 (Below.refl _ _) (Nat.le_refl _) _).trans (B1.out.mono (below1 (Below.refl _ _) (Nat.le_refl _) _).size)))
  go_loopw [4] (fun a wr => ∃ (i : Nat), i ≤ sn ∧ a = .int .i64 i ∧ Hid (∀ (j : Nat) e, j < i → es[j]? = some e → EnMay e) ∧ Hid (Bl w1 wr)) (fun a _ => sn - (intOf a).toNat)
  case atStart => exact ⟨0, by omega, rfl, Lib.hid (fun j s hj => absurd hj (Nat.not_lt_zero _)), Lib.hid (Bl.refl _)⟩
  case round =>
    obtain ⟨i, hi, rfl, D, B⟩ := hrel
    have y8 := B.out.cell x8
    have y3 := B.out.cell x3
    by_cases hlt : i < sn
    · obtain ⟨x, hx⟩ : ∃ x, es[i]? = some x := ⟨_, List.getElem?_eq_getElem (by rw [HN.out]; exact hlt)⟩
      obtain ⟨ab, ao, xp, xc, dp, dc, rfl, hat, hE, hS⟩ := R.out i x hx
      have b1 : Bl w wr := B3.out.trans (Below.mono B.out B3.out.size)
      have m1 := hat.below b1
      have n0 : wr.cell? ⟨ab, ao + i * 4, none⟩ = some (.int .i64 x.cl) := m1 0 _ rfl
      have n1 : wr.cell? ⟨ab, ao + i * 4 + 1, none⟩ = some (.int .i64 x.sq) := m1 1 _ rfl
      have n2 : wr.cell? ⟨ab, ao + i * 4 + 2, none⟩ = some (.slice xp x.ed.length xc) := m1 2 _ rfl
      have n3 : wr.cell? ⟨ab, ao + i * 4 + 3, none⟩ = some (.slice dp x.dl.length dc) := m1 3 _ rfl
      have hi0 : (0 : Int) ≤ (i : Int) := by omega
      have hi1 : (i : Int) < (sn : Int) := by omega
      obtain ⟨z1, z2, z3⟩ := HE.out x (List.mem_of_getElem? hx)
      have EM : Hid (∀ W, Bl wr W → Calls Tryz.prog 47 #[.agg #[.int .i64 x.cl, .int .i64 x.sq, .slice xp x.ed.length xc, .slice dp x.dl.length dc]] W (Tells (EnMay x) W)) := Lib.hid (fun W hW => entryMay_any x.cl x.sq x.ed x.dl xp x.ed.length xc dp x.dl.length dc rfl rfl W (rowC_below (rowC_below hE b1) hW) ((hS.below b1).below hW) z3 z2)
      have HX := Lib.hid hx
      clear m1 hat hE hS hx b1 z1 z2 z3
      generalize x.ed.length = kn at n2 EM
      generalize x.dl.length = ln at n3 EM
      generalize x.cl = xcl at n0 EM
      generalize x.sq = xsq at n1 EM
      by_cases hem : EnMay x
      · have SF := Lib.hid hem
        clear hem
        go_wp2_with (go_at_call 47; refine (EM.out _ (Bl.refl _)).mono ?_; rintro e w5 ⟨hb5, ⟨rfl, hy⟩ | ⟨rfl, hy⟩⟩; rotate_left; exact absurd SF.out hy; have B5 := Lib.hid hb5; clear hb5)
        go_roundw
        case rel =>
          refine ⟨i + 1, by omega, by go_num, Lib.hid (fun j s hj hs => ?_), Lib.hid (B.out.trans (Below.mono B5.out B.out.size))⟩
          by_cases hji : j = i
          · subst hji
            rw [HX.out] at hs
            cases hs
            exact SF.out
          · exact D.out j s (by omega) hs
        case measure => simp [intOf]; omega
      · have SF := Lib.hid hem
        clear hem
        go_wp2_with (go_at_call 47; refine (EM.out _ (Bl.refl _)).mono ?_; rintro e w5 ⟨hb5, ⟨rfl, hy⟩ | ⟨rfl, hy⟩⟩; exact absurd hy SF.out; have B5 := Lib.hid hb5; clear hb5)
        go_ret
        exact tells_no (fun h => SF.out ((HM.out.1 h).2.2.2 x (List.mem_of_getElem? HX.out))) (B3.out.trans (Below.mono (B.out.trans (Below.mono B5.out B.out.size)) B3.out.size))
    · have ALL : Hid (∀ e ∈ es, EnMay e) := Lib.hid (fun e he => by
        obtain ⟨j, hj⟩ := List.mem_iff_getElem?.1 he
        exact D.out j e (by have := (List.getElem?_eq_some_iff.1 hj).1; rw [HN.out] at this; omega) hj)
      by_cases e1 : sq = 0
      case neg =>
        have e2 : (sq == 0) = false := by simpa using e1
        go_wp2_with fail
        go_ret
        exact ⟨B3.out.trans (Below.mono B.out B3.out.size), .inr ⟨retB (by simp), fun h => e1 (HM.out.1 h).2.1⟩⟩
      subst e1
      by_cases e2 : sn ≤ 3
      case neg =>
        go_wp2_with fail
        go_ret
        exact ⟨B3.out.trans (Below.mono B.out B3.out.size), .inr ⟨retB (by simp; omega), fun h => e2 (HM.out.1 h).2.2.1⟩⟩
      go_wp2_with fail
      go_ret
      exact ⟨B3.out.trans (Below.mono B.out B3.out.size), .inl ⟨retB (by simp; omega), HM.out.2 ⟨by simp, by simp, e2, ALL.out⟩⟩⟩

/-- The reference's MsgMay tells what a message may be. -/
theorem msgMay_any (m : Ms) (q : Mq) (w : World) (hz : MsZ m) (hr : MsR w m q) : MmC m q w := by
  by_cases hh : MsHead m
  case neg => exact msgMay_head m q w hh
  by_cases h2 : m.kd = 2
  case pos => exact msgMay_snap m q w hz hr hh h2
  by_cases hb : MsBare m
  case neg => exact msgMay_bare m q w hz hh h2 hb
  by_cases h0 : m.kd = 0
  case pos => exact msgMay_poll m q w hz hr hh hb h0
  by_cases h1 : m.kd = 1
  case pos => exact msgMay_changes m q w hz hr hh hb h1
  exact msgMay_other m q w hz hh hb h0 h1 h2

end Go.Proofs.YtjmfjlffcopnnaaGreatDoor

namespace Go.Proofs.YtjmfjlffcopnnaaGreatDoor
open Go.Proofs.YtjmfjlffcopnnaaGreatDoor.K (C MayP)

theorem row_len {α : Type} {f : α → List UInt8 → List UInt8} (hf : App f) {M : Nat} : ∀ {xs : List α}, (∀ x ∈ xs, (f x []).length ≤ M) → (rowC f xs []).length ≤ xs.length * M
  | [], _ => by simp [rowC]
  | x :: xs, h => by
    have ih := row_len hf (xs := xs) fun y hy => h y (List.mem_cons_of_mem _ hy)
    have h1 : rowC f (x :: xs) [] = f x [] ++ rowC f xs [] := hf.nil x _
    rw [h1, List.length_append, List.length_cons, Nat.succ_mul]
    have := h x (List.mem_cons_self ..)
    omega
theorem list_len {α : Type} {f : α → List UInt8 → List UInt8} (hf : App f) {M : Nat} {xs : List α} (h : ∀ x ∈ xs, (f x []).length ≤ M) (hl : xs.length ≤ 140737488355328) : (listC f xs []).length ≤ 20 + xs.length * M := by
  rw [list_split, List.length_append]
  have := row_len hf h
  have := num_len (n := (xs.length : Int)) (by omega) (by omega)
  omega
theorem nums_len {xs : List Int} (h : ∀ x ∈ xs, NmP x) (hl : xs.length ≤ 2048) : (listC numC xs []).length ≤ 41000 := by
  have := list_len num_app (M := 20) (fun x hx => num_len (h x hx).1 (h x hx).2) (by omega)
  omega
theorem nm_small {x : Int} (h0 : 0 ≤ x) (h1 : x ≤ 16777216) : NmP x := ⟨h0, by omega⟩

theorem may_nodes {ns : List Nd} {root next size : Int} (h : mayB ns root next size = true) : ns.length ≤ 2048 ∧ NmP root ∧ NmP next ∧ ∀ x ∈ ns, NdP x ∧ x.kids.length ≤ 2048 := by
  have Cm := mayC_is.1 h
  have hid : ∀ x ∈ ns, NmP x.id := fun x hx => by
    have hn := nodeOk_is.1 (Cm.node x hx)
    have := Cm.next1
    exact nm_small hn.1.1 (by omega)
  obtain ⟨y, hy, _, hyr, _⟩ := root_node Cm
  refine ⟨Cm.few, by rw [← hyr]; exact hid y hy, nm_small Cm.next0 Cm.next1, fun x hx => ?_⟩
  have hn := nodeOk_is.1 (Cm.node x hx)
  have hs := Cm.size1
  have hk : ∀ c ∈ x.kids, (allKids ns).count c = 1 ∧ NmP c := fun c hc => by
    obtain ⟨h1, _, z, hz, hzc⟩ := kids_once Cm hx hc
    exact ⟨h1, by rw [← hzc]; exact hid z hz⟩
  have hnd : x.kids.Nodup := List.nodup_iff_count.2 fun c => by
    by_cases hc : c ∈ x.kids
    · rw [← (hk c hc).1]
      exact count_kids hx c
    · rw [List.count_eq_zero_of_not_mem hc]
      omega
  have hkl : x.kids.length ≤ 2048 := by
    have := pigeon x.kids (ns.map Nd.id) hnd fun c hc => by
      obtain ⟨_, _, z, hz, hzc⟩ := kids_once Cm hx hc
      exact List.mem_map.2 ⟨z, hz, hzc⟩
    rw [List.length_map] at this
    exact Nat.le_trans this Cm.few
  exact ⟨⟨hid x hx, nm_small hn.2.1 (by omega), nm_small hn.2.2.2.1 (by omega), nm_small (by omega) (by omega), fun c hc => (hk c hc).2, by omega⟩, hkl⟩
theorem node_len {x : Nd} (h : NdP x) (hk : x.kids.length ≤ 2048) : (nodeC x []).length ≤ 41100 := by
  rw [node_split]
  have h1 := num_len h.1.1 h.1.2
  have h2 := num_len h.2.1.1 h.2.1.2
  have h3 := num_len h.2.2.1.1 h.2.2.1.2
  have h4 := num_len h.2.2.2.1.1 h.2.2.2.1.2
  have h5 := nums_len h.2.2.2.2.1 hk
  simp only [List.length_append]
  omega
theorem idB_nm {i : Int} (h : idB i = true) : NmP i := by
  unfold idB at h
  simp only [Bool.and_eq_true, decide_eq_true_eq] at h
  exact nm_small h.1 (by omega)
theorem stp {kd id nd fr tt : Int} {ks : List Int} (a : NmP kd) (b : NmP id) (c : NmP nd) (d : NmP fr) (e : NmP tt) (f : ∀ k ∈ ks, NmP k) (g : ks.length ≤ 2048) : StP ⟨kd, id, nd, fr, tt, ks⟩ ∧ ks.length ≤ 2048 := ⟨⟨a, b, c, d, e, f, Nat.le_trans g (by decide)⟩, g⟩
theorem no_kids {P : Int → Prop} : ∀ k ∈ ([] : List Int), P k := fun k hk => by cases hk
theorem may_step {s : St} (h : stepMay s = true) : StP s ∧ s.kids.length ≤ 2048 := by
  unfold stepMay at h
  simp only [Bool.and_eq_true, Bool.or_eq_true, beq_iff_eq, decide_eq_true_eq, List.isEmpty_iff, List.all_eq_true] at h
  obtain ⟨hi, h⟩ := h
  have z : NmP 0 := nm_small (Int.le_refl _) (by decide)
  have hid := idB_nm hi
  obtain ⟨kd, id, nd, fr, tt, ks⟩ := s
  dsimp only at *
  rcases h with ((⟨⟨⟨⟨rfl, rfl⟩, rfl⟩, rfl⟩, rfl⟩ | ⟨⟨⟨⟨⟨rfl, h1⟩, h2⟩, rfl⟩, rfl⟩, rfl⟩) | ⟨⟨⟨⟨⟨rfl, rfl⟩, rfl⟩, rfl⟩, h5⟩, h6⟩) | ⟨⟨⟨⟨⟨rfl, rfl⟩, h3⟩, h4⟩, h5⟩, rfl⟩
  · exact stp z hid z z z no_kids (by simp)
  · exact stp (nm_small (by decide) (by decide)) hid (nm_small h1 (by omega)) z z no_kids (by simp)
  · exact stp (nm_small (by decide) (by decide)) hid z z z (fun k hk => idB_nm (h5 k hk)) h6
  · exact stp (nm_small (by decide) (by decide)) hid z (nm_small h3 (by omega)) (nm_small (by omega) (by omega)) no_kids (by simp)
theorem step_len {s : St} (h : StP s) (hk : s.kids.length ≤ 2048) : (stepC s []).length ≤ 41100 := by
  rw [step_split]
  have h1 := num_len h.1.1 h.1.2
  have h2 := num_len h.2.1.1 h.2.1.2
  have h3 := num_len h.2.2.1.1 h.2.2.1.2
  have h4 := num_len h.2.2.2.1.1 h.2.2.2.1.2
  have h5 := num_len h.2.2.2.2.1.1 h.2.2.2.2.1.2
  have h6 := nums_len h.2.2.2.2.2.1 hk
  simp only [List.length_append]
  omega
theorem may_comps {cs : List C} (h : MayP cs) : cs.length ≤ 4096 ∧ ∀ c ∈ cs, CpP c ∧ (compC c []).length ≤ 4200 := by
  obtain ⟨h1, h2, _⟩ := K.okB_iff.1 h.1
  refine ⟨h1, fun c hc => ?_⟩
  unfold compC
  rcases h2 c hc with ⟨hk, h0, hn, ht⟩ | ⟨hk, hn, ht⟩
  · refine ⟨.inr ⟨hk, h0, by omega⟩, ?_⟩
    have := num_len h0 (by omega : c.n ≤ 9223372036854775807)
    rcases hk with hk | hk <;> rw [hk] <;> simp <;> omega
  · refine ⟨.inl ⟨hk, by omega⟩, ?_⟩
    have := str_len (bytesOf c.t) (by rw [bytes_len]; omega)
    rw [bytes_len] at this
    rw [if_pos hk, List.length_cons]
    omega
theorem comps_len {cs : List C} (h : MayP cs) : (listC compC cs []).length ≤ 17300000 := by
  have h1 := may_comps h
  have := list_len comp_app (M := 4200) (fun c hc => (h1.2 c hc).2) (by omega)
  have := Nat.mul_le_mul_right 4200 h1.1
  omega
theorem may_entry {e : En} (h : EnMay e) : EnP e ∧ (entC e []).length ≤ 400000000 := by
  obtain ⟨a1, a2, a3, a4, a5, a6, a7⟩ := h
  have n1 : NmP e.cl := nm_small a1 (by omega)
  have n2 : NmP e.sq := nm_small (by omega) (by omega)
  have c1 := may_comps a5
  refine ⟨⟨n1, n2, fun c hc => (c1.2 c hc).1, fun s hs => (may_step (a7 s hs)).1, by omega, by omega⟩, ?_⟩
  rw [ent_split]
  have h1 := num_len n1.1 n1.2
  have h2 := num_len n2.1 n2.2
  have h3 := comps_len a5
  have h4 := num_len (n := (e.dl.length : Int)) (by omega) (by omega)
  have h5 := row_len step_app (M := 41100) (fun s hs => step_len (may_step (a7 s hs)).1 (may_step (a7 s hs)).2)
  have h6 := Nat.mul_le_mul_right 41100 a6
  simp only [List.length_append]
  omega
theorem tree_len {ns : List Nd} {root next size : Int} (h : mayB ns root next size = true) : (treeC root next ns []).length ≤ 100000000 := by
  obtain ⟨h1, h2, h3, h4⟩ := may_nodes h
  unfold treeC
  rw [num_app.nil root, num_app.nil next]
  have := num_len h2.1 h2.2
  have := num_len h3.1 h3.2
  have := list_len node_app (M := 41100) (fun x hx => node_len (h4 x hx).1 (h4 x hx).2) (by omega)
  have := Nat.mul_le_mul_right 41100 h1
  simp only [List.length_append]
  omega

end Go.Proofs.YtjmfjlffcopnnaaGreatDoor
