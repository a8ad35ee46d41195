/-
  PkC, PkD, in one text. Conditions: as each theorem's premises say.
-/
import Derived.Test.YtjmfjlffcopnnaaGreatDoorPM21
namespace Go.Proofs.YtjmfjlffcopnnaaGreatDoor
open Go.RowKit
open Go.Proofs.YtjmfjlffcopnnaaGreatDoor.K (C RowC PieceAt MayP rcmay_any)

set_option maxRecDepth 100000 in
set_option maxHeartbeats 4000000 in
theorem put_snap (m : Ms) (q : Mq) (w : World) (hz : MsZ m) (hr : MsR w m q) (hm : MsMay m) (hk : m.kd = 2) : PutC m q w := by
  unfold PutC PutP
  obtain ⟨MC, hMC⟩ : ∃ MC, msgC m [] = MC := ⟨_, rfl⟩
  rw [hMC]
  rw [msg_snap hk] at hMC
  have HMC := Lib.hid hMC.symm
  clear hMC
  have hel := hz.ed
  have hsl := hz.es
  have hnl := hz.ns
  have htl := hz.tx
  have HMM : Hid (∀ W, Bl w W → Calls Tryz.prog 13 #[msV m q] W (Tells (MsMay m) W)) := Lib.hid (fun W hW => msgMay_any m q W hz (hr.below hW))
  have MM := Lib.hid hm
  have HD := hm.1
  obtain ⟨b1, b2, b3, b4, b5, b6⟩ : 0 ≤ m.fr ∧ m.fr ≤ 4096 ∧ 0 ≤ m.ls ∧ m.ls ≤ 4096 ∧ m.tx.size ≤ 300 ∧ mayB m.ns m.ro m.nx m.tx.size = true := by
    rcases hm.2 with h | h | h
    · rw [hk] at h; cases h.1
    · rw [hk] at h; cases h.1
    · exact h.2.2.2
  have CL := tree_len b6
  have TN := may_nodes b6
  have CT : Hid (∀ W, Bl w W → Calls Tryz.prog 27 #[trV m.ro m.nx q.np m.ns.length q.nc] W (TxP (treeC m.ro m.nx m.ns []) W)) := Lib.hid (fun W hW => tree_txt m.ro m.nx q.np m.ns m.ns.length q.nc rfl W (hr.ns.below hW) TN.2.1 TN.2.2.1 (fun x hx => (TN.2.2.2 x hx).1) (by omega) (by omega))
  obtain ⟨kd, cl, rv, sq, fr, ls, rf, tx, ro, nx, ns, ed, es⟩ := m
  obtain ⟨ep, ec, sp, sc, np, nc⟩ := q
  obtain ⟨a1, a2, a3, a4, a5, a6⟩ := HD
  unfold msV at HMM ⊢
  dsimp only at *
  subst hk
  unfold trV at CT
  clear hz hr hm TN b6
  generalize ed.length = en at *
  generalize es.length = sn at *
  generalize ns.length = nn at *
  have T1 := Lib.hid (fun W => num_txt cl a1 (by omega) W)
  have T2 := Lib.hid (fun W => num_txt rv a3 (by omega) W)
  have E1 := Lib.hid (num_len (n := cl) a1 (by omega))
  have E2 := Lib.hid (num_len (n := rv) a3 (by omega))
  go_enter Tryz.func7, Tryz.ntmps7
  go_upto_region 1 with fail
  have X0 := Lib.hid (heap_alloc_new w (.cells #[.int .i64 2, .int .i64 cl, .int .i64 rv, .int .i64 sq, .int .i64 fr, .int .i64 ls, .bool rf, .slice ep en ec, .slice sp sn sc, .string tx, .int .i64 ro, .int .i64 nx, .slice np nn nc] 28))
  have B0 : Hid (Bl w (w.alloc (.cells #[.int .i64 2, .int .i64 cl, .int .i64 rv, .int .i64 sq, .int .i64 fr, .int .i64 ls, .bool rf, .slice ep en ec, .slice sp sn sc, .string tx, .int .i64 ro, .int .i64 nx, .slice np nn nc] 28))) := Lib.hid (Bl.alloc (Bl.refl w) _)
  generalize w.alloc (.cells #[.int .i64 2, .int .i64 cl, .int .i64 rv, .int .i64 sq, .int .i64 fr, .int .i64 ls, .bool rf, .slice ep en ec, .slice sp sn sc, .string tx, .int .i64 ro, .int .i64 nx, .slice np nn nc] 28) = w0 at X0 B0 ⊢
  generalize hxb : w.heap.size = xb at X0 ⊢
  have HXB := Lib.hid hxb
  clear hxb
  have x0 := (obj_cells X0.out).1 0 _ rfl
  have x1 := (obj_cells X0.out).1 1 _ rfl
  have x2 := (obj_cells X0.out).1 2 _ rfl
  have x3 := (obj_cells X0.out).1 3 _ rfl
  have x4 := (obj_cells X0.out).1 4 _ rfl
  have x5 := (obj_cells X0.out).1 5 _ rfl
  have x6 := (obj_cells X0.out).1 6 _ rfl
  have x7 := (obj_cells X0.out).1 7 _ rfl
  have x8 := (obj_cells X0.out).1 8 _ rfl
  have x9 := (obj_cells X0.out).1 9 _ rfl
  have x10 := (obj_cells X0.out).1 10 _ rfl
  have x11 := (obj_cells X0.out).1 11 _ rfl
  have x12 := (obj_cells X0.out).1 12 _ rfl
  go_upto_region 3 with (go_at_call 13; refine (HMM.out _ B0.out).mono ?_; rintro e w1 ⟨hb1, ⟨rfl, hy⟩ | ⟨rfl, hy⟩⟩; rotate_left; exact absurd MM.out hy; have A1 := Lib.hid hb1; clear hb1)
  have B1 : Hid (Bl w w1) := Lib.hid (B0.out.trans (Below.mono A1.out B0.out.size))
  have X1 := Lib.hid (heap_later X0.out A1.out)
  clear x0 x1 x2 x3 x4 x5 x6 x7 x8 x9 x10 x11 x12
  have q0 : ∀ W, Bl w1 W → W.cell? ⟨xb, 0, none⟩ = some (.int .i64 2) := fun W hW => hW.cell ((obj_cells X1.out).1 0 _ rfl)
  have q1 : ∀ W, Bl w1 W → W.cell? ⟨xb, 1, none⟩ = some (.int .i64 cl) := fun W hW => hW.cell ((obj_cells X1.out).1 1 _ rfl)
  have q2 : ∀ W, Bl w1 W → W.cell? ⟨xb, 2, none⟩ = some (.int .i64 rv) := fun W hW => hW.cell ((obj_cells X1.out).1 2 _ rfl)
  have q3 : ∀ W, Bl w1 W → W.cell? ⟨xb, 3, none⟩ = some (.int .i64 sq) := fun W hW => hW.cell ((obj_cells X1.out).1 3 _ rfl)
  have q4 : ∀ W, Bl w1 W → W.cell? ⟨xb, 4, none⟩ = some (.int .i64 fr) := fun W hW => hW.cell ((obj_cells X1.out).1 4 _ rfl)
  have q5 : ∀ W, Bl w1 W → W.cell? ⟨xb, 5, none⟩ = some (.int .i64 ls) := fun W hW => hW.cell ((obj_cells X1.out).1 5 _ rfl)
  have q6 : ∀ W, Bl w1 W → W.cell? ⟨xb, 6, none⟩ = some (.bool rf) := fun W hW => hW.cell ((obj_cells X1.out).1 6 _ rfl)
  have q7 : ∀ W, Bl w1 W → W.cell? ⟨xb, 7, none⟩ = some (.slice ep en ec) := fun W hW => hW.cell ((obj_cells X1.out).1 7 _ rfl)
  have q8 : ∀ W, Bl w1 W → W.cell? ⟨xb, 8, none⟩ = some (.slice sp sn sc) := fun W hW => hW.cell ((obj_cells X1.out).1 8 _ rfl)
  have q9 : ∀ W, Bl w1 W → W.cell? ⟨xb, 9, none⟩ = some (.string tx) := fun W hW => hW.cell ((obj_cells X1.out).1 9 _ rfl)
  have q10 : ∀ W, Bl w1 W → W.cell? ⟨xb, 10, none⟩ = some (.int .i64 ro) := fun W hW => hW.cell ((obj_cells X1.out).1 10 _ rfl)
  have q11 : ∀ W, Bl w1 W → W.cell? ⟨xb, 11, none⟩ = some (.int .i64 nx) := fun W hW => hW.cell ((obj_cells X1.out).1 11 _ rfl)
  have q12 : ∀ W, Bl w1 W → W.cell? ⟨xb, 12, none⟩ = some (.slice np nn nc) := fun W hW => hW.cell ((obj_cells X1.out).1 12 _ rfl)
  have v0 : IntKind.i64.wrap 0 = 0 := by rfl
  have v1 : IntKind.i64.wrap 1 = 1 := by rfl
  have v2 : IntKind.i64.wrap 2 = 2 := by rfl
  have v3 : IntKind.i64.wrap 3 = 3 := by rfl
  have v4 : IntKind.i64.wrap (2 + 1) = 3 := by rfl
  go_cut [4] (fun v wx => ∃ z : ByteArray, v = .string z ∧ bytesOf z = [83] ++ (numC cl [] ++ numC rv []) ∧ Bl w1 wx)
  case first =>
    have S00 := Bl.refl w1
    go_region_held3 (fun W => Bl w1 W) ((repeat (first | with_reducible assumption | with_reducible refine Bl.alloc ?_ _ | with_reducible refine Bl.drew ?_ | (with_reducible refine Bl.set ?_ ?h _; case h => omega))))
      (first | (go_at_call 23; refine (T1.out _).mono ?_; rintro e w11 ⟨z1, rfl, hz, hb1⟩; have B11 : Bl w1 w11 := Bl.call (by (repeat (first | with_reducible assumption | with_reducible refine Bl.drew ?_))) hb1; have Z1 := Lib.hid hz; have l1 : z1.size ≤ 20 := (by rw [TxP.size hz]; exact E1.out); have s1 : ¬ 9223372036854775807 < 1 + z1.size := (by omega); clear hb1 hz) | (go_at_call 23; refine (T2.out _).mono ?_; rintro e w12 ⟨z2, rfl, hz, hb1⟩; have B12 : Bl w1 w12 := Bl.call (by (repeat (first | with_reducible assumption | with_reducible refine Bl.drew ?_))) hb1; have Z2 := Lib.hid hz; have l2 : z2.size ≤ 20 := (by rw [TxP.size hz]; exact E2.out); have s2 : ¬ 9223372036854775807 < 1 + z1.size + z2.size := (by omega); clear hb1 hz) | fail)
    all_goals
      go_wp2_with fail
      go_meet
      refine ⟨_, rfl, ?_, by assumption⟩
      rw [bytes_app, bytes_app, Z1.out, Z2.out, ltr_2, List.append_assoc]
  case rest =>
    obtain ⟨zz, rfl, hz, hbx⟩ := hcut
    have ZZ := Lib.hid hz; have BX := Lib.hid hbx
    have zl : zz.size ≤ 41 := by
      rw [TxP.size hz]
      have := E1.out
      have := E2.out
      simp only [List.length_append, List.length_singleton]
      omega
    clear hz hbx
    have c0 := q0 _ BX.out
    have c6 := q6 _ BX.out
    have CT1 : Hid (∀ W, Bl w1 W → Calls Tryz.prog 27 #[.agg #[.int .i64 ro, .int .i64 nx, .slice np nn nc]] W (TxP (treeC ro nx ns []) W)) := Lib.hid (fun W hW => CT.out W (B1.out.trans (Below.mono hW B1.out.size)))
    have T3 := Lib.hid (fun W => num_txt sq a5 (by omega) W)
    have E3 := Lib.hid (num_len (n := sq) a5 (by omega))
    have T4 := Lib.hid (fun W => num_txt fr b1 (by omega) W)
    have E4 := Lib.hid (num_len (n := fr) b1 (by omega))
    have T5 := Lib.hid (fun W => num_txt ls b3 (by omega) W)
    have E5 := Lib.hid (num_len (n := ls) b3 (by omega))
    have T7 := Lib.hid (fun W => str_txt tx (by omega) W)
    have E7 : Hid ((strC (bytesOf tx) []).length ≤ 320) := Lib.hid (by
      have := str_len (bytesOf tx) (by rw [bytes_len]; omega)
      rw [bytes_len] at this
      omega)
    have E8 := Lib.hid CL
    have S00 := BX.out
    clear CL
    cases rf with
    | false =>
      have T6 := Lib.hid (fun W => num_txt 0 (by decide) (by decide) W)
      have E6 := Lib.hid (num_len (n := 0) (by decide) (by decide))
      have HMC6 : Hid (MC = [83] ++ (numC cl [] ++ (numC rv [] ++ (numC sq [] ++ (numC fr [] ++ (numC ls [] ++ (numC 0 [] ++ (strC (bytesOf tx) [] ++ treeC ro nx ns [])))))))) := Lib.hid (HMC.out)
      go_upto_region 8 with fail
      go_region_held3 (fun W => Bl w1 W) ((repeat (first | with_reducible assumption | with_reducible refine Bl.alloc ?_ _ | with_reducible refine Bl.drew ?_ | (with_reducible refine Bl.set ?_ ?h _; case h => omega))))
        (first | (go_at_call 23; refine (T3.out _).mono ?_; rintro e w11 ⟨z1, rfl, hz, hb1⟩; have B11 : Bl w1 w11 := Bl.call (by (repeat (first | with_reducible assumption | with_reducible refine Bl.drew ?_))) hb1; have Z1 := Lib.hid hz; have l1 : z1.size ≤ 20 := (by rw [TxP.size hz]; exact E3.out); have s1 : ¬ 9223372036854775807 < zz.size + z1.size := (by omega); clear hb1 hz) | (go_at_call 23; refine (T4.out _).mono ?_; rintro e w12 ⟨z2, rfl, hz, hb1⟩; have B12 : Bl w1 w12 := Bl.call (by (repeat (first | with_reducible assumption | with_reducible refine Bl.drew ?_))) hb1; have Z2 := Lib.hid hz; have l2 : z2.size ≤ 20 := (by rw [TxP.size hz]; exact E4.out); have s2 : ¬ 9223372036854775807 < zz.size + z1.size + z2.size := (by omega); clear hb1 hz) | (go_at_call 23; refine (T5.out _).mono ?_; rintro e w13 ⟨z3, rfl, hz, hb1⟩; have B13 : Bl w1 w13 := Bl.call (by (repeat (first | with_reducible assumption | with_reducible refine Bl.drew ?_))) hb1; have Z3 := Lib.hid hz; have l3 : z3.size ≤ 20 := (by rw [TxP.size hz]; exact E5.out); have s3 : ¬ 9223372036854775807 < zz.size + z1.size + z2.size + z3.size := (by omega); clear hb1 hz) | (go_at_call 23; refine (T6.out _).mono ?_; rintro e w14 ⟨z4, rfl, hz, hb1⟩; have B14 : Bl w1 w14 := Bl.call (by (repeat (first | with_reducible assumption | with_reducible refine Bl.drew ?_))) hb1; have Z4 := Lib.hid hz; have l4 : z4.size ≤ 20 := (by rw [TxP.size hz]; exact E6.out); have s4 : ¬ 9223372036854775807 < zz.size + z1.size + z2.size + z3.size + z4.size := (by omega); clear hb1 hz) | (go_at_call 26; refine (T7.out _).mono ?_; rintro e w15 ⟨z5, rfl, hz, hb1⟩; have B15 : Bl w1 w15 := Bl.call (by (repeat (first | with_reducible assumption | with_reducible refine Bl.drew ?_))) hb1; have Z5 := Lib.hid hz; have l5 : z5.size ≤ 320 := (by rw [TxP.size hz]; exact E7.out); have s5 : ¬ 9223372036854775807 < zz.size + z1.size + z2.size + z3.size + z4.size + z5.size := (by omega); clear hb1 hz) | (go_at_call 27; refine (CT1.out _ (by (repeat (first | with_reducible assumption | with_reducible refine Bl.drew ?_)))).mono ?_; rintro e w16 ⟨z6, rfl, hz, hb1⟩; have B16 : Bl w1 w16 := Bl.call (by (repeat (first | with_reducible assumption | with_reducible refine Bl.drew ?_))) hb1; have Z6 := Lib.hid hz; have l6 : z6.size ≤ 100000000 := (by rw [TxP.size hz]; exact E8.out); have s6 : ¬ 9223372036854775807 < zz.size + z1.size + z2.size + z3.size + z4.size + z5.size + z6.size := (by omega); clear hb1 hz) | fail)
      all_goals
        have BB : Below w.heap.size w w16 := B1.out.trans (Below.mono (by assumption) B1.out.size)
        go_wp2_with fail
      all_goals
        have BY : bytesOf (zz ++ z1 ++ z2 ++ z3 ++ z4 ++ z5 ++ z6) = MC := by
          rw [HMC6.out, bytes_app, bytes_app, bytes_app, bytes_app, bytes_app, bytes_app, ZZ.out, Z1.out, Z2.out, Z3.out, Z4.out, Z5.out, Z6.out]
          simp only [List.append_assoc]
        have SZ := TxP.size BY
        simp only [ByteArray.size_append] at SZ
        go_ret2
        first
          | exact ⟨BB, .inl ⟨MM.out, by omega, _, rfl, BY⟩⟩
          | exact ⟨BB, .inr ⟨fun h => by have := h.2; omega, rfl⟩⟩
    | true =>
      have T6 := Lib.hid (fun W => num_txt 1 (by decide) (by decide) W)
      have E6 := Lib.hid (num_len (n := 1) (by decide) (by decide))
      have HMC6 : Hid (MC = [83] ++ (numC cl [] ++ (numC rv [] ++ (numC sq [] ++ (numC fr [] ++ (numC ls [] ++ (numC 1 [] ++ (strC (bytesOf tx) [] ++ treeC ro nx ns [])))))))) := Lib.hid (HMC.out)
      go_upto_region 8 with fail
      go_region_held3 (fun W => Bl w1 W) ((repeat (first | with_reducible assumption | with_reducible refine Bl.alloc ?_ _ | with_reducible refine Bl.drew ?_ | (with_reducible refine Bl.set ?_ ?h _; case h => omega))))
        (first | (go_at_call 23; refine (T3.out _).mono ?_; rintro e w11 ⟨z1, rfl, hz, hb1⟩; have B11 : Bl w1 w11 := Bl.call (by (repeat (first | with_reducible assumption | with_reducible refine Bl.drew ?_))) hb1; have Z1 := Lib.hid hz; have l1 : z1.size ≤ 20 := (by rw [TxP.size hz]; exact E3.out); have s1 : ¬ 9223372036854775807 < zz.size + z1.size := (by omega); clear hb1 hz) | (go_at_call 23; refine (T4.out _).mono ?_; rintro e w12 ⟨z2, rfl, hz, hb1⟩; have B12 : Bl w1 w12 := Bl.call (by (repeat (first | with_reducible assumption | with_reducible refine Bl.drew ?_))) hb1; have Z2 := Lib.hid hz; have l2 : z2.size ≤ 20 := (by rw [TxP.size hz]; exact E4.out); have s2 : ¬ 9223372036854775807 < zz.size + z1.size + z2.size := (by omega); clear hb1 hz) | (go_at_call 23; refine (T5.out _).mono ?_; rintro e w13 ⟨z3, rfl, hz, hb1⟩; have B13 : Bl w1 w13 := Bl.call (by (repeat (first | with_reducible assumption | with_reducible refine Bl.drew ?_))) hb1; have Z3 := Lib.hid hz; have l3 : z3.size ≤ 20 := (by rw [TxP.size hz]; exact E5.out); have s3 : ¬ 9223372036854775807 < zz.size + z1.size + z2.size + z3.size := (by omega); clear hb1 hz) | (go_at_call 23; refine (T6.out _).mono ?_; rintro e w14 ⟨z4, rfl, hz, hb1⟩; have B14 : Bl w1 w14 := Bl.call (by (repeat (first | with_reducible assumption | with_reducible refine Bl.drew ?_))) hb1; have Z4 := Lib.hid hz; have l4 : z4.size ≤ 20 := (by rw [TxP.size hz]; exact E6.out); have s4 : ¬ 9223372036854775807 < zz.size + z1.size + z2.size + z3.size + z4.size := (by omega); clear hb1 hz) | (go_at_call 26; refine (T7.out _).mono ?_; rintro e w15 ⟨z5, rfl, hz, hb1⟩; have B15 : Bl w1 w15 := Bl.call (by (repeat (first | with_reducible assumption | with_reducible refine Bl.drew ?_))) hb1; have Z5 := Lib.hid hz; have l5 : z5.size ≤ 320 := (by rw [TxP.size hz]; exact E7.out); have s5 : ¬ 9223372036854775807 < zz.size + z1.size + z2.size + z3.size + z4.size + z5.size := (by omega); clear hb1 hz) | (go_at_call 27; refine (CT1.out _ (by (repeat (first | with_reducible assumption | with_reducible refine Bl.drew ?_)))).mono ?_; rintro e w16 ⟨z6, rfl, hz, hb1⟩; have B16 : Bl w1 w16 := Bl.call (by (repeat (first | with_reducible assumption | with_reducible refine Bl.drew ?_))) hb1; have Z6 := Lib.hid hz; have l6 : z6.size ≤ 100000000 := (by rw [TxP.size hz]; exact E8.out); have s6 : ¬ 9223372036854775807 < zz.size + z1.size + z2.size + z3.size + z4.size + z5.size + z6.size := (by omega); clear hb1 hz) | fail)
      all_goals
        have BB : Below w.heap.size w w16 := B1.out.trans (Below.mono (by assumption) B1.out.size)
        go_wp2_with fail
      all_goals
        have BY : bytesOf (zz ++ z1 ++ z2 ++ z3 ++ z4 ++ z5 ++ z6) = MC := by
          rw [HMC6.out, bytes_app, bytes_app, bytes_app, bytes_app, bytes_app, bytes_app, ZZ.out, Z1.out, Z2.out, Z3.out, Z4.out, Z5.out, Z6.out]
          simp only [List.append_assoc]
        have SZ := TxP.size BY
        simp only [ByteArray.size_append] at SZ
        go_ret2
        first
          | exact ⟨BB, .inl ⟨MM.out, by omega, _, rfl, BY⟩⟩
          | exact ⟨BB, .inr ⟨fun h => by have := h.2; omega, rfl⟩⟩

end Go.Proofs.YtjmfjlffcopnnaaGreatDoor

namespace Go.Proofs.YtjmfjlffcopnnaaGreatDoor
open Go.RowKit
open Go.Proofs.YtjmfjlffcopnnaaGreatDoor.K (C RowC PieceAt MayP rcmay_any)

set_option maxRecDepth 100000 in
set_option maxHeartbeats 4000000 in
theorem put_changes (m : Ms) (q : Mq) (w : World) (hz : MsZ m) (hr : MsR w m q) (hm : MsMay m) (hk : m.kd = 1) : PutC m q w := by
  unfold PutC PutP
  obtain ⟨MC, hMC⟩ : ∃ MC, msgC m [] = MC := ⟨_, rfl⟩
  rw [hMC]
  rw [msg_changes hk] at hMC
  have HMC := Lib.hid hMC.symm
  clear hMC
  have hel := hz.ed
  have hsl := hz.es
  have hnl := hz.ns
  have htl := hz.tx
  have HMM : Hid (∀ W, Bl w W → Calls Tryz.prog 13 #[msV m q] W (Tells (MsMay m) W)) := Lib.hid (fun W hW => msgMay_any m q W hz (hr.below hW))
  have MM := Lib.hid hm
  have HD := hm.1
  obtain ⟨b1, b2⟩ : m.es.length ≤ 3 ∧ ∀ e ∈ m.es, EnMay e := by
    rcases hm.2 with h | h | h
    · rw [hk] at h; cases h.1
    · exact ⟨h.2.2.2.2.1, h.2.2.2.2.2⟩
    · rw [hk] at h; cases h.1
  have EA := Lib.hid b2
  have R := Lib.hid hr.es
  have RL0 : Hid ((rowC entC m.es []).length ≤ 1200000000) := Lib.hid (by
    have := row_len ent_app (M := 400000000) (fun e he => (may_entry (b2 e he)).2)
    omega)
  obtain ⟨kd, cl, rv, sq, fr, ls, rf, tx, ro, nx, ns, ed, es⟩ := m
  obtain ⟨ep, ec, sp, sc, np, nc⟩ := q
  obtain ⟨a1, a2, a3, a4, a5, a6⟩ := HD
  unfold msV at HMM ⊢
  dsimp only at *
  subst hk
  clear hz hr hm b2
  generalize ed.length = en at *
  generalize hsn : es.length = sn at *
  have HN := Lib.hid hsn
  clear hsn
  generalize ns.length = nn at *
  have T1 := Lib.hid (fun W => num_txt cl a1 (by omega) W)
  have T2 := Lib.hid (fun W => num_txt rv a3 (by omega) W)
  have E1 := Lib.hid (num_len (n := cl) a1 (by omega))
  have E2 := Lib.hid (num_len (n := rv) a3 (by omega))
  go_enter Tryz.func7, Tryz.ntmps7
  go_upto_region 1 with fail
  have X0 := Lib.hid (heap_alloc_new w (.cells #[.int .i64 1, .int .i64 cl, .int .i64 rv, .int .i64 sq, .int .i64 fr, .int .i64 ls, .bool rf, .slice ep en ec, .slice sp sn sc, .string tx, .int .i64 ro, .int .i64 nx, .slice np nn nc] 28))
  have B0 : Hid (Bl w (w.alloc (.cells #[.int .i64 1, .int .i64 cl, .int .i64 rv, .int .i64 sq, .int .i64 fr, .int .i64 ls, .bool rf, .slice ep en ec, .slice sp sn sc, .string tx, .int .i64 ro, .int .i64 nx, .slice np nn nc] 28))) := Lib.hid (Bl.alloc (Bl.refl w) _)
  generalize w.alloc (.cells #[.int .i64 1, .int .i64 cl, .int .i64 rv, .int .i64 sq, .int .i64 fr, .int .i64 ls, .bool rf, .slice ep en ec, .slice sp sn sc, .string tx, .int .i64 ro, .int .i64 nx, .slice np nn nc] 28) = w0 at X0 B0 ⊢
  generalize hxb : w.heap.size = xb at X0 ⊢
  have HXB := Lib.hid hxb
  clear hxb
  have x0 := (obj_cells X0.out).1 0 _ rfl
  have x1 := (obj_cells X0.out).1 1 _ rfl
  have x2 := (obj_cells X0.out).1 2 _ rfl
  have x3 := (obj_cells X0.out).1 3 _ rfl
  have x4 := (obj_cells X0.out).1 4 _ rfl
  have x5 := (obj_cells X0.out).1 5 _ rfl
  have x6 := (obj_cells X0.out).1 6 _ rfl
  have x7 := (obj_cells X0.out).1 7 _ rfl
  have x8 := (obj_cells X0.out).1 8 _ rfl
  have x9 := (obj_cells X0.out).1 9 _ rfl
  have x10 := (obj_cells X0.out).1 10 _ rfl
  have x11 := (obj_cells X0.out).1 11 _ rfl
  have x12 := (obj_cells X0.out).1 12 _ rfl
  go_upto_region 3 with (go_at_call 13; refine (HMM.out _ B0.out).mono ?_; rintro e w1 ⟨hb1, ⟨rfl, hy⟩ | ⟨rfl, hy⟩⟩; rotate_left; exact absurd MM.out hy; have A1 := Lib.hid hb1; clear hb1)
  have B1 : Hid (Bl w w1) := Lib.hid (B0.out.trans (Below.mono A1.out B0.out.size))
  have X1 := Lib.hid (heap_later X0.out A1.out)
  clear x0 x1 x2 x3 x4 x5 x6 x7 x8 x9 x10 x11 x12
  have q0 : ∀ W, Bl w1 W → W.cell? ⟨xb, 0, none⟩ = some (.int .i64 1) := fun W hW => hW.cell ((obj_cells X1.out).1 0 _ rfl)
  have q1 : ∀ W, Bl w1 W → W.cell? ⟨xb, 1, none⟩ = some (.int .i64 cl) := fun W hW => hW.cell ((obj_cells X1.out).1 1 _ rfl)
  have q2 : ∀ W, Bl w1 W → W.cell? ⟨xb, 2, none⟩ = some (.int .i64 rv) := fun W hW => hW.cell ((obj_cells X1.out).1 2 _ rfl)
  have q3 : ∀ W, Bl w1 W → W.cell? ⟨xb, 3, none⟩ = some (.int .i64 sq) := fun W hW => hW.cell ((obj_cells X1.out).1 3 _ rfl)
  have q4 : ∀ W, Bl w1 W → W.cell? ⟨xb, 4, none⟩ = some (.int .i64 fr) := fun W hW => hW.cell ((obj_cells X1.out).1 4 _ rfl)
  have q5 : ∀ W, Bl w1 W → W.cell? ⟨xb, 5, none⟩ = some (.int .i64 ls) := fun W hW => hW.cell ((obj_cells X1.out).1 5 _ rfl)
  have q6 : ∀ W, Bl w1 W → W.cell? ⟨xb, 6, none⟩ = some (.bool rf) := fun W hW => hW.cell ((obj_cells X1.out).1 6 _ rfl)
  have q7 : ∀ W, Bl w1 W → W.cell? ⟨xb, 7, none⟩ = some (.slice ep en ec) := fun W hW => hW.cell ((obj_cells X1.out).1 7 _ rfl)
  have q8 : ∀ W, Bl w1 W → W.cell? ⟨xb, 8, none⟩ = some (.slice sp sn sc) := fun W hW => hW.cell ((obj_cells X1.out).1 8 _ rfl)
  have q9 : ∀ W, Bl w1 W → W.cell? ⟨xb, 9, none⟩ = some (.string tx) := fun W hW => hW.cell ((obj_cells X1.out).1 9 _ rfl)
  have q10 : ∀ W, Bl w1 W → W.cell? ⟨xb, 10, none⟩ = some (.int .i64 ro) := fun W hW => hW.cell ((obj_cells X1.out).1 10 _ rfl)
  have q11 : ∀ W, Bl w1 W → W.cell? ⟨xb, 11, none⟩ = some (.int .i64 nx) := fun W hW => hW.cell ((obj_cells X1.out).1 11 _ rfl)
  have q12 : ∀ W, Bl w1 W → W.cell? ⟨xb, 12, none⟩ = some (.slice np nn nc) := fun W hW => hW.cell ((obj_cells X1.out).1 12 _ rfl)
  have v0 : IntKind.i64.wrap 0 = 0 := by rfl
  have v1 : IntKind.i64.wrap 1 = 1 := by rfl
  have v2 : IntKind.i64.wrap 2 = 2 := by rfl
  have v3 : IntKind.i64.wrap 3 = 3 := by rfl
  have v4 : IntKind.i64.wrap (1 + 1) = 2 := by rfl
  go_cut [4] (fun v wx => ∃ z : ByteArray, v = .string z ∧ bytesOf z = [67] ++ (numC cl [] ++ numC rv []) ∧ Bl w1 wx)
  case first =>
    have S00 := Bl.refl w1
    go_region_held3 (fun W => Bl w1 W) ((repeat (first | with_reducible assumption | with_reducible refine Bl.alloc ?_ _ | with_reducible refine Bl.drew ?_ | (with_reducible refine Bl.set ?_ ?h _; case h => omega))))
      (first | (go_at_call 23; refine (T1.out _).mono ?_; rintro e w11 ⟨z1, rfl, hz, hb1⟩; have B11 : Bl w1 w11 := Bl.call (by (repeat (first | with_reducible assumption | with_reducible refine Bl.drew ?_))) hb1; have Z1 := Lib.hid hz; have l1 : z1.size ≤ 20 := (by rw [TxP.size hz]; exact E1.out); have s1 : ¬ 9223372036854775807 < 1 + z1.size := (by omega); clear hb1 hz) | (go_at_call 23; refine (T2.out _).mono ?_; rintro e w12 ⟨z2, rfl, hz, hb1⟩; have B12 : Bl w1 w12 := Bl.call (by (repeat (first | with_reducible assumption | with_reducible refine Bl.drew ?_))) hb1; have Z2 := Lib.hid hz; have l2 : z2.size ≤ 20 := (by rw [TxP.size hz]; exact E2.out); have s2 : ¬ 9223372036854775807 < 1 + z1.size + z2.size := (by omega); clear hb1 hz) | fail)
    all_goals
      go_wp2_with fail
      go_meet
      refine ⟨_, rfl, ?_, by assumption⟩
      rw [bytes_app, bytes_app, Z1.out, Z2.out, ltr_1, List.append_assoc]
  case rest =>
    obtain ⟨zz, rfl, hz, hbx⟩ := hcut
    have ZZ := Lib.hid hz; have BX := Lib.hid hbx
    have zl : zz.size ≤ 41 := by
      rw [TxP.size hz]
      have := E1.out
      have := E2.out
      simp only [List.length_append, List.length_singleton]
      omega
    clear hz hbx
    have c0 := q0 _ BX.out
    have c8 := q8 _ BX.out
    have T3 := Lib.hid (fun W => num_txt (sn : Int) (by omega) (by omega) W)
    have E3 := Lib.hid (num_len (n := (sn : Int)) (by omega) (by omega))
    go_upto_region 13 with (go_at_call 23; refine (T3.out _).mono ?_; rintro e w2 ⟨z1, rfl, hz, hb1⟩; have B2 := Lib.hid (BX.out.trans (Below.mono hb1 BX.out.size)); have Z1 := Lib.hid hz; have l1 : z1.size ≤ 20 := (by rw [TxP.size hz]; exact E3.out); clear hb1 hz)
    have ZZ1 : Hid (bytesOf (zz ++ z1) = [67] ++ (numC cl [] ++ (numC rv [] ++ numC (sn : Int) []))) := Lib.hid (by
      rw [bytes_app, ZZ.out, Z1.out]
      simp only [List.append_assoc])
    generalize zz ++ z1 = zy at ZZ1 ⊢
    go_wp2_with fail
    go_loopw [4, 5] (fun v a wr => ∃ (i : Nat) (z : ByteArray), i ≤ sn ∧ a = .int .i64 i ∧ v = .string z ∧ Hid (bytesOf z = ([67] ++ (numC cl [] ++ (numC rv [] ++ numC (sn : Int) []))) ++ rowC entC (es.take i) []) ∧ Hid (Bl w1 wr)) (fun _ a _ => sn - (intOf a).toNat)
    case atStart => exact ⟨0, zy, by omega, rfl, rfl, Lib.hid (by rw [ZZ1.out]; simp [rowC]), B2⟩
    case round =>
      obtain ⟨i, zx, hi, rfl, rfl, ZX, B⟩ := hrel
      have y8 := q8 _ B.out
      have zxl : zx.size ≤ 1300000000 := by
        rw [TxP.size ZX.out]
        have h1 := row_take_len ent_app es i
        have h2 := RL0.out
        have h3 := E1.out
        have h4 := E2.out
        have h5 := E3.out
        simp only [List.length_append, List.length_singleton]
        omega
      by_cases hlt : i < sn
      · obtain ⟨x, hx⟩ : ∃ x, es[i]? = some x := ⟨_, List.getElem?_eq_getElem (by rw [HN.out]; exact hlt)⟩
        obtain ⟨ab, ao, xp, xc, dp, dc, rfl, hat, hE, hS⟩ := R.out i x hx
        have b3 : Bl w wr := B1.out.trans (Below.mono B.out B1.out.size)
        have m1 := hat.below b3
        have n0 : wr.cell? ⟨ab, ao + i * 4, none⟩ = some (.int .i64 x.cl) := m1 0 _ rfl
        have n1 : wr.cell? ⟨ab, ao + i * 4 + 1, none⟩ = some (.int .i64 x.sq) := m1 1 _ rfl
        have n2 : wr.cell? ⟨ab, ao + i * 4 + 2, none⟩ = some (.slice xp x.ed.length xc) := m1 2 _ rfl
        have n3 : wr.cell? ⟨ab, ao + i * 4 + 3, none⟩ = some (.slice dp x.dl.length dc) := m1 3 _ rfl
        have hi0 : (0 : Int) ≤ (i : Int) := by omega
        have hi1 : (i : Int) < (sn : Int) := by omega
        obtain ⟨z1, z2⟩ := may_entry (EA.out x (List.mem_of_getElem? hx))
        have ET : Hid (∀ W, Bl wr W → Calls Tryz.prog 25 #[.agg #[.int .i64 x.cl, .int .i64 x.sq, .slice xp x.ed.length xc, .slice dp x.dl.length dc]] W (TxP (entC x []) W)) := Lib.hid (fun W hW => entry_txt x.cl x.sq x.ed x.dl xp x.ed.length xc dp x.dl.length dc rfl rfl W (rowC_below (rowC_below hE b3) hW) ((hS.below b3).below hW) z1 (Nat.le_trans z2 (by decide)))
        have EL := Lib.hid z2
        have RS := Lib.hid (row_snoc ent_app hx)
        clear m1 hat hE hS hx b3 z1 z2
        generalize x.ed.length = kn at n2 ET
        generalize x.dl.length = ln at n3 ET
        generalize x.cl = xcl at n0 ET
        generalize x.sq = xsq at n1 ET
        go_wp2_with (go_at_call 25; refine (ET.out _ (Bl.refl _)).mono ?_; rintro e w5 ⟨z5, rfl, hz, hb5⟩; have B5 := Lib.hid hb5; have Z5 := Lib.hid hz; have l5 : z5.size ≤ 400000000 := (by rw [TxP.size hz]; exact EL.out); clear hb5 hz)
        go_roundw
        case rel => exact ⟨i + 1, _, by omega, by go_num, rfl, Lib.hid (by rw [bytes_app, ZX.out, Z5.out, RS.out]; simp only [List.append_assoc]), Lib.hid (B.out.trans (Below.mono B5.out B.out.size))⟩
        case measure => simp [intOf]; omega
      · have BB : Below w.heap.size w wr := B1.out.trans (Below.mono B.out B1.out.size)
        have BY : Hid (bytesOf zx = MC) := Lib.hid (by
          rw [ZX.out, List.take_of_length_le (by rw [HN.out]; omega), HMC.out]
          simp only [List.append_assoc])
        have SZ := Lib.hid (TxP.size BY.out)
        go_wp2_with fail
        all_goals
          go_ret2
          first
            | exact ⟨BB, .inl ⟨MM.out, by have := SZ.out; omega, _, rfl, BY.out⟩⟩
            | exact ⟨BB, .inr ⟨fun h => by have := h.2; have := SZ.out; omega, rfl⟩⟩

/-- What the reference's PutMsg answers. -/
theorem put_any (m : Ms) (q : Mq) (w : World) (hz : MsZ m) (hr : MsR w m q) : PutC m q w := by
  by_cases hm : MsMay m
  case neg => exact put_no m q w hz hr hm
  by_cases h0 : m.kd = 0
  case pos => exact put_poll m q w hz hr hm h0
  by_cases h1 : m.kd = 1
  case pos => exact put_changes m q w hz hr hm h1
  refine put_snap m q w hz hr hm ?_
  rcases hm.2 with h | h | h
  · exact absurd h.1 h0
  · exact absurd h.1 h1
  · exact h.1

end Go.Proofs.YtjmfjlffcopnnaaGreatDoor
