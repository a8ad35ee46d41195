/-
  The walk of minuetlaw17's Packs, under what the program must answer (made by tools/genlw.py). Conditions: as each theorem's premises say.
-/
import Derived.Test.YtjmfjlffcopnnaaGreatDoorPM33
import Derived.Test.YtjmfjlffcopnnaaGreatDoorPM17
import Derived.Deep.RegionHeld3
namespace Go.Proofs.YtjmfjlffcopnnaaGreatDoor
open Go.RowKit
open Go.Proofs.YtjmfjlffcopnnaaGreatDoor.K (C RowC MayP)

open Classical in
set_option maxRecDepth 100000 in
set_option maxHeartbeats 8000000 in
theorem packs_true (PP : PutPr) (GP : GetPr) (MP : MayPr) (m : Ms) (q : Mq) (s : ByteArray) (w : World) (TB : Tb w) (AW : ∀ W, Bl w W → Calls Tryz.prog 15 #[] W (RetBelow (.returned (.bool true)) W)) (hz : MsB m) (hr : MsR w m q) (hs : s.size ≤ 140737488355328) : Calls Tryz.prog 3 #[msV m q, .string s] w (RetBelow (.returned (.bool true)) w) := by
  have HR := Lib.hid hr
  have HZ := Lib.hid hz.z
  have CZ := Lib.hid (getM_z s)
  have AW2 := Lib.hid AW
  have CP : Hid (∀ W, Bl w W → Calls Tryz.prog 5 #[msV m q] W (CopyMP m W)) := Lib.hid (fun W hW => copyMsg_any m q W hz (hr.below hW))
  have P1 : Hid (∀ W q, Bl w W → MsR W m q → Calls Tryz.prog 6 #[msV m q] W (PutD m W)) := Lib.hid (fun W q hW h => PP m q W (Tb.bl TB hW) hz.z h)
  have P2 : Hid (∀ W, Bl w W → Calls Tryz.prog 7 #[msV m q] W (PutD m W)) := Lib.hid (fun W hW => rput_any m q W hz.z (hr.below hW))
  have M1 : Hid (∀ W q, MsR W m q → Calls Tryz.prog 12 #[msV m q] W (RetBelow (.returned (.bool (decide (MsMay m)))) W)) := Lib.hid (fun W q h => MP m q W hz.z h)
  have M2 : Hid (∀ W, Bl w W → Calls Tryz.prog 13 #[msV m q] W (RetBelow (.returned (.bool (decide (MsMay m)))) W)) := Lib.hid (fun W hW => rmay_any m q W hz.z (hr.below hW))
  have G1 : Hid (∀ W, Calls Tryz.prog 8 #[.string s] W (GetW s W)) := Lib.hid (fun W => GP s W hs)
  have G2 : Hid (∀ W, Calls Tryz.prog 9 #[.string s] W (GetD s W)) := Lib.hid (fun W => rget_any s W hs)
  clear hr hz AW PP GP MP hs TB
  unfold PutD at P1 P2
  unfold GetW at G1
  unfold GetD at G2
  generalize putZ m = z at P1 P2
  generalize putE m = e0 at P1 P2
  generalize getM s = c at G1 G2 CZ
  generalize getE s = e1 at G1 G2
  generalize decide (MsMay m) = dm at M1 M2
  unfold msV at CP P1 P2 M1 M2 G1 G2 ⊢
  go_enter Tryz.func3, Tryz.ntmps3
  go_upto_region 1 with fail
  have X1 : Hid ((w.alloc (.cells #[.int .i64 m.kd, .int .i64 m.cl, .int .i64 m.rv, .int .i64 m.sq, .int .i64 m.fr, .int .i64 m.ls, .bool m.rf, .slice q.ep m.ed.length q.ec, .slice q.sp m.es.length q.sc, .string m.tx, .int .i64 m.ro, .int .i64 m.nx, .slice q.np m.ns.length q.nc] 28)).heap[w.heap.size]? = some (.cells #[.int .i64 m.kd, .int .i64 m.cl, .int .i64 m.rv, .int .i64 m.sq, .int .i64 m.fr, .int .i64 m.ls, .bool m.rf, .slice q.ep m.ed.length q.ec, .slice q.sp m.es.length q.sc, .string m.tx, .int .i64 m.ro, .int .i64 m.nx, .slice q.np m.ns.length q.nc] 28 (0, 0))) := Lib.hid (heap_alloc_new w _)
  have B1 : Hid (Bl w (w.alloc (.cells #[.int .i64 m.kd, .int .i64 m.cl, .int .i64 m.rv, .int .i64 m.sq, .int .i64 m.fr, .int .i64 m.ls, .bool m.rf, .slice q.ep m.ed.length q.ec, .slice q.sp m.es.length q.sc, .string m.tx, .int .i64 m.ro, .int .i64 m.nx, .slice q.np m.ns.length q.nc] 28))) := Lib.hid (Bl.alloc (Bl.refl w) _)
  generalize w.alloc (.cells #[.int .i64 m.kd, .int .i64 m.cl, .int .i64 m.rv, .int .i64 m.sq, .int .i64 m.fr, .int .i64 m.ls, .bool m.rf, .slice q.ep m.ed.length q.ec, .slice q.sp m.es.length q.sc, .string m.tx, .int .i64 m.ro, .int .i64 m.nx, .slice q.np m.ns.length q.nc] 28) = w1 at X1 B1 ⊢
  obtain ⟨b1, hb1⟩ : ∃ b, w.heap.size = b := ⟨_, rfl⟩
  rw [hb1] at X1 ⊢
  clear hb1
  have a0 := (obj_cells X1.out).1 0 _ rfl
  have a1 := (obj_cells X1.out).1 1 _ rfl
  have a2 := (obj_cells X1.out).1 2 _ rfl
  have a3 := (obj_cells X1.out).1 3 _ rfl
  have a4 := (obj_cells X1.out).1 4 _ rfl
  have a5 := (obj_cells X1.out).1 5 _ rfl
  have a6 := (obj_cells X1.out).1 6 _ rfl
  have a7 := (obj_cells X1.out).1 7 _ rfl
  have a8 := (obj_cells X1.out).1 8 _ rfl
  have a9 := (obj_cells X1.out).1 9 _ rfl
  have a10 := (obj_cells X1.out).1 10 _ rfl
  have a11 := (obj_cells X1.out).1 11 _ rfl
  have a12 := (obj_cells X1.out).1 12 _ rfl
  go_upto_region 2 with (go_at_call 5; refine (CP.out _ B1.out).mono ?_; rintro e w2 ⟨q1, rfl, ho, hb⟩; have O2 := Lib.hid ho; have B2 := Lib.hid hb; clear ho hb; unfold msV)
  clear a0 a1 a2 a3 a4 a5 a6 a7 a8 a9 a10 a11 a12
  have X3 : Hid ((w2.alloc (.cells #[.int .i64 m.kd, .int .i64 m.cl, .int .i64 m.rv, .int .i64 m.sq, .int .i64 m.fr, .int .i64 m.ls, .bool m.rf, .slice q1.ep m.ed.length q1.ec, .slice q1.sp m.es.length q1.sc, .string m.tx, .int .i64 m.ro, .int .i64 m.nx, .slice q1.np m.ns.length q1.nc] 28)).heap[w2.heap.size]? = some (.cells #[.int .i64 m.kd, .int .i64 m.cl, .int .i64 m.rv, .int .i64 m.sq, .int .i64 m.fr, .int .i64 m.ls, .bool m.rf, .slice q1.ep m.ed.length q1.ec, .slice q1.sp m.es.length q1.sc, .string m.tx, .int .i64 m.ro, .int .i64 m.nx, .slice q1.np m.ns.length q1.nc] 28 (0, 0))) := Lib.hid (heap_alloc_new w2 _)
  have X13 : Hid ((w2.alloc (.cells #[.int .i64 m.kd, .int .i64 m.cl, .int .i64 m.rv, .int .i64 m.sq, .int .i64 m.fr, .int .i64 m.ls, .bool m.rf, .slice q1.ep m.ed.length q1.ec, .slice q1.sp m.es.length q1.sc, .string m.tx, .int .i64 m.ro, .int .i64 m.nx, .slice q1.np m.ns.length q1.nc] 28)).heap[b1]? = some (.cells #[.int .i64 m.kd, .int .i64 m.cl, .int .i64 m.rv, .int .i64 m.sq, .int .i64 m.fr, .int .i64 m.ls, .bool m.rf, .slice q.ep m.ed.length q.ec, .slice q.sp m.es.length q.sc, .string m.tx, .int .i64 m.ro, .int .i64 m.nx, .slice q.np m.ns.length q.nc] 28 (0, 0))) := Lib.hid (heap_old (heap_later X1.out B2.out) _)
  have B3 : Hid (Bl w (w2.alloc (.cells #[.int .i64 m.kd, .int .i64 m.cl, .int .i64 m.rv, .int .i64 m.sq, .int .i64 m.fr, .int .i64 m.ls, .bool m.rf, .slice q1.ep m.ed.length q1.ec, .slice q1.sp m.es.length q1.sc, .string m.tx, .int .i64 m.ro, .int .i64 m.nx, .slice q1.np m.ns.length q1.nc] 28))) := Lib.hid (Bl.alloc (Bl.call B1.out B2.out) _)
  have R3 : Hid (MsR (w2.alloc (.cells #[.int .i64 m.kd, .int .i64 m.cl, .int .i64 m.rv, .int .i64 m.sq, .int .i64 m.fr, .int .i64 m.ls, .bool m.rf, .slice q1.ep m.ed.length q1.ec, .slice q1.sp m.es.length q1.sc, .string m.tx, .int .i64 m.ro, .int .i64 m.nx, .slice q1.np m.ns.length q1.nc] 28)) m q1) := Lib.hid (O2.out.read.below (Bl.alloc (Bl.refl w2) _))
  clear O2 B2 X1 B1
  generalize w2.alloc (.cells #[.int .i64 m.kd, .int .i64 m.cl, .int .i64 m.rv, .int .i64 m.sq, .int .i64 m.fr, .int .i64 m.ls, .bool m.rf, .slice q1.ep m.ed.length q1.ec, .slice q1.sp m.es.length q1.sc, .string m.tx, .int .i64 m.ro, .int .i64 m.nx, .slice q1.np m.ns.length q1.nc] 28) = w3 at X3 X13 B3 R3 ⊢
  obtain ⟨b2, hb2⟩ : ∃ b, w2.heap.size = b := ⟨_, rfl⟩
  rw [hb2] at X3 ⊢
  clear hb2
  have a0 := (obj_cells X3.out).1 0 _ rfl
  have a1 := (obj_cells X3.out).1 1 _ rfl
  have a2 := (obj_cells X3.out).1 2 _ rfl
  have a3 := (obj_cells X3.out).1 3 _ rfl
  have a4 := (obj_cells X3.out).1 4 _ rfl
  have a5 := (obj_cells X3.out).1 5 _ rfl
  have a6 := (obj_cells X3.out).1 6 _ rfl
  have a7 := (obj_cells X3.out).1 7 _ rfl
  have a8 := (obj_cells X3.out).1 8 _ rfl
  have a9 := (obj_cells X3.out).1 9 _ rfl
  have a10 := (obj_cells X3.out).1 10 _ rfl
  have a11 := (obj_cells X3.out).1 11 _ rfl
  have a12 := (obj_cells X3.out).1 12 _ rfl
  go_upto_region 3 with (go_at_call 6; refine (P1.out _ q1 B3.out R3.out).mono ?_; rintro e w4 ⟨rfl, hb⟩; have B34 : Hid (Bl w3 w4) := Lib.hid hb; clear hb)
  clear a0 a1 a2 a3 a4 a5 a6 a7 a8 a9 a10 a11 a12
  have X4 := Lib.hid (heap_later X13.out B34.out)
  have B4 : Hid (Bl w w4) := Lib.hid (Bl.call B3.out B34.out)
  have a0 := (obj_cells X4.out).1 0 _ rfl
  have a1 := (obj_cells X4.out).1 1 _ rfl
  have a2 := (obj_cells X4.out).1 2 _ rfl
  have a3 := (obj_cells X4.out).1 3 _ rfl
  have a4 := (obj_cells X4.out).1 4 _ rfl
  have a5 := (obj_cells X4.out).1 5 _ rfl
  have a6 := (obj_cells X4.out).1 6 _ rfl
  have a7 := (obj_cells X4.out).1 7 _ rfl
  have a8 := (obj_cells X4.out).1 8 _ rfl
  have a9 := (obj_cells X4.out).1 9 _ rfl
  have a10 := (obj_cells X4.out).1 10 _ rfl
  have a11 := (obj_cells X4.out).1 11 _ rfl
  have a12 := (obj_cells X4.out).1 12 _ rfl
  go_upto_region 4 with (go_at_call 7; refine (P2.out _ B4.out).mono ?_; rintro e w5 ⟨rfl, hb⟩; have B35 : Hid (Bl w3 w5) := Lib.hid (Bl.call B34.out hb); clear hb)
  clear X4 B4 a0 a1 a2 a3 a4 a5 a6 a7 a8 a9 a10 a11 a12
  go_upto_region 5 with (go_at_call 8; refine (G1.out _).mono ?_; rintro e w6 ⟨q2, rfl, h1, h2, hb⟩; have R6 := Lib.hid h1; have S6 := Lib.hid h2; have B56 : Hid (Bl w5 w6) := Lib.hid hb; clear h1 h2 hb)
  have X7 : Hid ((w6.alloc (.cells #[.int .i64 c.kd, .int .i64 c.cl, .int .i64 c.rv, .int .i64 c.sq, .int .i64 c.fr, .int .i64 c.ls, .bool c.rf, .slice q2.ep c.ed.length q2.ec, .slice q2.sp c.es.length q2.sc, .string c.tx, .int .i64 c.ro, .int .i64 c.nx, .slice q2.np c.ns.length q2.nc] 28)).heap[w6.heap.size]? = some (.cells #[.int .i64 c.kd, .int .i64 c.cl, .int .i64 c.rv, .int .i64 c.sq, .int .i64 c.fr, .int .i64 c.ls, .bool c.rf, .slice q2.ep c.ed.length q2.ec, .slice q2.sp c.es.length q2.sc, .string c.tx, .int .i64 c.ro, .int .i64 c.nx, .slice q2.np c.ns.length q2.nc] 28 (0, 0))) := Lib.hid (heap_alloc_new w6 _)
  have B67 : Hid (Bl w6 (w6.alloc (.cells #[.int .i64 c.kd, .int .i64 c.cl, .int .i64 c.rv, .int .i64 c.sq, .int .i64 c.fr, .int .i64 c.ls, .bool c.rf, .slice q2.ep c.ed.length q2.ec, .slice q2.sp c.es.length q2.sc, .string c.tx, .int .i64 c.ro, .int .i64 c.nx, .slice q2.np c.ns.length q2.nc] 28))) := Lib.hid (Bl.alloc (Bl.refl w6) _)
  generalize w6.alloc (.cells #[.int .i64 c.kd, .int .i64 c.cl, .int .i64 c.rv, .int .i64 c.sq, .int .i64 c.fr, .int .i64 c.ls, .bool c.rf, .slice q2.ep c.ed.length q2.ec, .slice q2.sp c.es.length q2.sc, .string c.tx, .int .i64 c.ro, .int .i64 c.nx, .slice q2.np c.ns.length q2.nc] 28) = w7 at X7 B67 ⊢
  obtain ⟨b3, hb3⟩ : ∃ b, w6.heap.size = b := ⟨_, rfl⟩
  rw [hb3] at X7 ⊢
  clear hb3
  go_upto_region 6 with (go_at_call 9; refine (G2.out _).mono ?_; rintro e w8 ⟨q3, rfl, h1, hb⟩; have R8 := Lib.hid h1; have B78 : Hid (Bl w7 w8) := Lib.hid hb; clear h1 hb)
  have X9 : Hid ((w8.alloc (.cells #[.int .i64 c.kd, .int .i64 c.cl, .int .i64 c.rv, .int .i64 c.sq, .int .i64 c.fr, .int .i64 c.ls, .bool c.rf, .slice q3.ep c.ed.length q3.ec, .slice q3.sp c.es.length q3.sc, .string c.tx, .int .i64 c.ro, .int .i64 c.nx, .slice q3.np c.ns.length q3.nc] 28)).heap[w8.heap.size]? = some (.cells #[.int .i64 c.kd, .int .i64 c.cl, .int .i64 c.rv, .int .i64 c.sq, .int .i64 c.fr, .int .i64 c.ls, .bool c.rf, .slice q3.ep c.ed.length q3.ec, .slice q3.sp c.es.length q3.sc, .string c.tx, .int .i64 c.ro, .int .i64 c.nx, .slice q3.np c.ns.length q3.nc] 28 (0, 0))) := Lib.hid (heap_alloc_new w8 _)
  have B89 : Hid (Bl w8 (w8.alloc (.cells #[.int .i64 c.kd, .int .i64 c.cl, .int .i64 c.rv, .int .i64 c.sq, .int .i64 c.fr, .int .i64 c.ls, .bool c.rf, .slice q3.ep c.ed.length q3.ec, .slice q3.sp c.es.length q3.sc, .string c.tx, .int .i64 c.ro, .int .i64 c.nx, .slice q3.np c.ns.length q3.nc] 28))) := Lib.hid (Bl.alloc (Bl.refl w8) _)
  generalize w8.alloc (.cells #[.int .i64 c.kd, .int .i64 c.cl, .int .i64 c.rv, .int .i64 c.sq, .int .i64 c.fr, .int .i64 c.ls, .bool c.rf, .slice q3.ep c.ed.length q3.ec, .slice q3.sp c.es.length q3.sc, .string c.tx, .int .i64 c.ro, .int .i64 c.nx, .slice q3.np c.ns.length q3.nc] 28) = w9 at X9 B89 ⊢
  obtain ⟨b4, hb4⟩ : ∃ b, w8.heap.size = b := ⟨_, rfl⟩
  rw [hb4] at X9 ⊢
  clear hb4
  have B79 : Hid (Bl w7 w9) := Lib.hid (Bl.call B78.out B89.out)
  have B69 : Hid (Bl w6 w9) := Lib.hid (Bl.call B67.out B79.out)
  have B59 : Hid (Bl w5 w9) := Lib.hid (Bl.call B56.out B69.out)
  have B39 : Hid (Bl w3 w9) := Lib.hid (Bl.call B35.out B59.out)
  have B09 : Hid (Bl w w9) := Lib.hid (Bl.call B3.out B39.out)
  have a0 : ∀ W, Bl w9 W → W.cell? ⟨b1, 0, none⟩ = some (.int .i64 m.kd) := fun W hW => hW.cell ((obj_cells (heap_later X13.out B39.out)).1 0 _ rfl)
  have a1 : ∀ W, Bl w9 W → W.cell? ⟨b1, 1, none⟩ = some (.int .i64 m.cl) := fun W hW => hW.cell ((obj_cells (heap_later X13.out B39.out)).1 1 _ rfl)
  have a2 : ∀ W, Bl w9 W → W.cell? ⟨b1, 2, none⟩ = some (.int .i64 m.rv) := fun W hW => hW.cell ((obj_cells (heap_later X13.out B39.out)).1 2 _ rfl)
  have a3 : ∀ W, Bl w9 W → W.cell? ⟨b1, 3, none⟩ = some (.int .i64 m.sq) := fun W hW => hW.cell ((obj_cells (heap_later X13.out B39.out)).1 3 _ rfl)
  have a4 : ∀ W, Bl w9 W → W.cell? ⟨b1, 4, none⟩ = some (.int .i64 m.fr) := fun W hW => hW.cell ((obj_cells (heap_later X13.out B39.out)).1 4 _ rfl)
  have a5 : ∀ W, Bl w9 W → W.cell? ⟨b1, 5, none⟩ = some (.int .i64 m.ls) := fun W hW => hW.cell ((obj_cells (heap_later X13.out B39.out)).1 5 _ rfl)
  have a6 : ∀ W, Bl w9 W → W.cell? ⟨b1, 6, none⟩ = some (.bool m.rf) := fun W hW => hW.cell ((obj_cells (heap_later X13.out B39.out)).1 6 _ rfl)
  have a7 : ∀ W, Bl w9 W → W.cell? ⟨b1, 7, none⟩ = some (.slice q.ep m.ed.length q.ec) := fun W hW => hW.cell ((obj_cells (heap_later X13.out B39.out)).1 7 _ rfl)
  have a8 : ∀ W, Bl w9 W → W.cell? ⟨b1, 8, none⟩ = some (.slice q.sp m.es.length q.sc) := fun W hW => hW.cell ((obj_cells (heap_later X13.out B39.out)).1 8 _ rfl)
  have a9 : ∀ W, Bl w9 W → W.cell? ⟨b1, 9, none⟩ = some (.string m.tx) := fun W hW => hW.cell ((obj_cells (heap_later X13.out B39.out)).1 9 _ rfl)
  have a10 : ∀ W, Bl w9 W → W.cell? ⟨b1, 10, none⟩ = some (.int .i64 m.ro) := fun W hW => hW.cell ((obj_cells (heap_later X13.out B39.out)).1 10 _ rfl)
  have a11 : ∀ W, Bl w9 W → W.cell? ⟨b1, 11, none⟩ = some (.int .i64 m.nx) := fun W hW => hW.cell ((obj_cells (heap_later X13.out B39.out)).1 11 _ rfl)
  have a12 : ∀ W, Bl w9 W → W.cell? ⟨b1, 12, none⟩ = some (.slice q.np m.ns.length q.nc) := fun W hW => hW.cell ((obj_cells (heap_later X13.out B39.out)).1 12 _ rfl)
  have x0 : ∀ W, Bl w9 W → W.cell? ⟨b2, 0, none⟩ = some (.int .i64 m.kd) := fun W hW => hW.cell ((obj_cells (heap_later X3.out B39.out)).1 0 _ rfl)
  have x1 : ∀ W, Bl w9 W → W.cell? ⟨b2, 1, none⟩ = some (.int .i64 m.cl) := fun W hW => hW.cell ((obj_cells (heap_later X3.out B39.out)).1 1 _ rfl)
  have x2 : ∀ W, Bl w9 W → W.cell? ⟨b2, 2, none⟩ = some (.int .i64 m.rv) := fun W hW => hW.cell ((obj_cells (heap_later X3.out B39.out)).1 2 _ rfl)
  have x3 : ∀ W, Bl w9 W → W.cell? ⟨b2, 3, none⟩ = some (.int .i64 m.sq) := fun W hW => hW.cell ((obj_cells (heap_later X3.out B39.out)).1 3 _ rfl)
  have x4 : ∀ W, Bl w9 W → W.cell? ⟨b2, 4, none⟩ = some (.int .i64 m.fr) := fun W hW => hW.cell ((obj_cells (heap_later X3.out B39.out)).1 4 _ rfl)
  have x5 : ∀ W, Bl w9 W → W.cell? ⟨b2, 5, none⟩ = some (.int .i64 m.ls) := fun W hW => hW.cell ((obj_cells (heap_later X3.out B39.out)).1 5 _ rfl)
  have x6 : ∀ W, Bl w9 W → W.cell? ⟨b2, 6, none⟩ = some (.bool m.rf) := fun W hW => hW.cell ((obj_cells (heap_later X3.out B39.out)).1 6 _ rfl)
  have x7 : ∀ W, Bl w9 W → W.cell? ⟨b2, 7, none⟩ = some (.slice q1.ep m.ed.length q1.ec) := fun W hW => hW.cell ((obj_cells (heap_later X3.out B39.out)).1 7 _ rfl)
  have x8 : ∀ W, Bl w9 W → W.cell? ⟨b2, 8, none⟩ = some (.slice q1.sp m.es.length q1.sc) := fun W hW => hW.cell ((obj_cells (heap_later X3.out B39.out)).1 8 _ rfl)
  have x9 : ∀ W, Bl w9 W → W.cell? ⟨b2, 9, none⟩ = some (.string m.tx) := fun W hW => hW.cell ((obj_cells (heap_later X3.out B39.out)).1 9 _ rfl)
  have x10 : ∀ W, Bl w9 W → W.cell? ⟨b2, 10, none⟩ = some (.int .i64 m.ro) := fun W hW => hW.cell ((obj_cells (heap_later X3.out B39.out)).1 10 _ rfl)
  have x11 : ∀ W, Bl w9 W → W.cell? ⟨b2, 11, none⟩ = some (.int .i64 m.nx) := fun W hW => hW.cell ((obj_cells (heap_later X3.out B39.out)).1 11 _ rfl)
  have x12 : ∀ W, Bl w9 W → W.cell? ⟨b2, 12, none⟩ = some (.slice q1.np m.ns.length q1.nc) := fun W hW => hW.cell ((obj_cells (heap_later X3.out B39.out)).1 12 _ rfl)
  have y0 : ∀ W, Bl w9 W → W.cell? ⟨b3, 0, none⟩ = some (.int .i64 c.kd) := fun W hW => hW.cell ((obj_cells (heap_later X7.out B79.out)).1 0 _ rfl)
  have y1 : ∀ W, Bl w9 W → W.cell? ⟨b3, 1, none⟩ = some (.int .i64 c.cl) := fun W hW => hW.cell ((obj_cells (heap_later X7.out B79.out)).1 1 _ rfl)
  have y2 : ∀ W, Bl w9 W → W.cell? ⟨b3, 2, none⟩ = some (.int .i64 c.rv) := fun W hW => hW.cell ((obj_cells (heap_later X7.out B79.out)).1 2 _ rfl)
  have y3 : ∀ W, Bl w9 W → W.cell? ⟨b3, 3, none⟩ = some (.int .i64 c.sq) := fun W hW => hW.cell ((obj_cells (heap_later X7.out B79.out)).1 3 _ rfl)
  have y4 : ∀ W, Bl w9 W → W.cell? ⟨b3, 4, none⟩ = some (.int .i64 c.fr) := fun W hW => hW.cell ((obj_cells (heap_later X7.out B79.out)).1 4 _ rfl)
  have y5 : ∀ W, Bl w9 W → W.cell? ⟨b3, 5, none⟩ = some (.int .i64 c.ls) := fun W hW => hW.cell ((obj_cells (heap_later X7.out B79.out)).1 5 _ rfl)
  have y6 : ∀ W, Bl w9 W → W.cell? ⟨b3, 6, none⟩ = some (.bool c.rf) := fun W hW => hW.cell ((obj_cells (heap_later X7.out B79.out)).1 6 _ rfl)
  have y7 : ∀ W, Bl w9 W → W.cell? ⟨b3, 7, none⟩ = some (.slice q2.ep c.ed.length q2.ec) := fun W hW => hW.cell ((obj_cells (heap_later X7.out B79.out)).1 7 _ rfl)
  have y8 : ∀ W, Bl w9 W → W.cell? ⟨b3, 8, none⟩ = some (.slice q2.sp c.es.length q2.sc) := fun W hW => hW.cell ((obj_cells (heap_later X7.out B79.out)).1 8 _ rfl)
  have y9 : ∀ W, Bl w9 W → W.cell? ⟨b3, 9, none⟩ = some (.string c.tx) := fun W hW => hW.cell ((obj_cells (heap_later X7.out B79.out)).1 9 _ rfl)
  have y10 : ∀ W, Bl w9 W → W.cell? ⟨b3, 10, none⟩ = some (.int .i64 c.ro) := fun W hW => hW.cell ((obj_cells (heap_later X7.out B79.out)).1 10 _ rfl)
  have y11 : ∀ W, Bl w9 W → W.cell? ⟨b3, 11, none⟩ = some (.int .i64 c.nx) := fun W hW => hW.cell ((obj_cells (heap_later X7.out B79.out)).1 11 _ rfl)
  have y12 : ∀ W, Bl w9 W → W.cell? ⟨b3, 12, none⟩ = some (.slice q2.np c.ns.length q2.nc) := fun W hW => hW.cell ((obj_cells (heap_later X7.out B79.out)).1 12 _ rfl)
  have v0 : ∀ W, Bl w9 W → W.cell? ⟨b4, 0, none⟩ = some (.int .i64 c.kd) := fun W hW => hW.cell ((obj_cells X9.out).1 0 _ rfl)
  have v1 : ∀ W, Bl w9 W → W.cell? ⟨b4, 1, none⟩ = some (.int .i64 c.cl) := fun W hW => hW.cell ((obj_cells X9.out).1 1 _ rfl)
  have v2 : ∀ W, Bl w9 W → W.cell? ⟨b4, 2, none⟩ = some (.int .i64 c.rv) := fun W hW => hW.cell ((obj_cells X9.out).1 2 _ rfl)
  have v3 : ∀ W, Bl w9 W → W.cell? ⟨b4, 3, none⟩ = some (.int .i64 c.sq) := fun W hW => hW.cell ((obj_cells X9.out).1 3 _ rfl)
  have v4 : ∀ W, Bl w9 W → W.cell? ⟨b4, 4, none⟩ = some (.int .i64 c.fr) := fun W hW => hW.cell ((obj_cells X9.out).1 4 _ rfl)
  have v5 : ∀ W, Bl w9 W → W.cell? ⟨b4, 5, none⟩ = some (.int .i64 c.ls) := fun W hW => hW.cell ((obj_cells X9.out).1 5 _ rfl)
  have v6 : ∀ W, Bl w9 W → W.cell? ⟨b4, 6, none⟩ = some (.bool c.rf) := fun W hW => hW.cell ((obj_cells X9.out).1 6 _ rfl)
  have v7 : ∀ W, Bl w9 W → W.cell? ⟨b4, 7, none⟩ = some (.slice q3.ep c.ed.length q3.ec) := fun W hW => hW.cell ((obj_cells X9.out).1 7 _ rfl)
  have v8 : ∀ W, Bl w9 W → W.cell? ⟨b4, 8, none⟩ = some (.slice q3.sp c.es.length q3.sc) := fun W hW => hW.cell ((obj_cells X9.out).1 8 _ rfl)
  have v9 : ∀ W, Bl w9 W → W.cell? ⟨b4, 9, none⟩ = some (.string c.tx) := fun W hW => hW.cell ((obj_cells X9.out).1 9 _ rfl)
  have v10 : ∀ W, Bl w9 W → W.cell? ⟨b4, 10, none⟩ = some (.int .i64 c.ro) := fun W hW => hW.cell ((obj_cells X9.out).1 10 _ rfl)
  have v11 : ∀ W, Bl w9 W → W.cell? ⟨b4, 11, none⟩ = some (.int .i64 c.nx) := fun W hW => hW.cell ((obj_cells X9.out).1 11 _ rfl)
  have v12 : ∀ W, Bl w9 W → W.cell? ⟨b4, 12, none⟩ = some (.slice q3.np c.ns.length q3.nc) := fun W hW => hW.cell ((obj_cells X9.out).1 12 _ rfl)
  have SM : Hid (∀ W, Bl w9 W → Calls Tryz.prog 11 #[.agg #[.int .i64 c.kd, .int .i64 c.cl, .int .i64 c.rv, .int .i64 c.sq, .int .i64 c.fr, .int .i64 c.ls, .bool c.rf, .slice q2.ep c.ed.length q2.ec, .slice q2.sp c.es.length q2.sc, .string c.tx, .int .i64 c.ro, .int .i64 c.nx, .slice q2.np c.ns.length q2.nc], .agg #[.int .i64 c.kd, .int .i64 c.cl, .int .i64 c.rv, .int .i64 c.sq, .int .i64 c.fr, .int .i64 c.ls, .bool c.rf, .slice q3.ep c.ed.length q3.ec, .slice q3.sp c.es.length q3.sc, .string c.tx, .int .i64 c.ro, .int .i64 c.nx, .slice q3.np c.ns.length q3.nc]] W (RetBelow (.returned (.bool true)) W)) := Lib.hid (fun W hW => sameMsg_true c q2 q3 W CZ.out (R6.out.below (Bl.call B69.out hW)) (R8.out.below (Bl.call B89.out hW)))
  have MA : Hid (∀ W, Bl w9 W → Calls Tryz.prog 12 #[.agg #[.int .i64 m.kd, .int .i64 m.cl, .int .i64 m.rv, .int .i64 m.sq, .int .i64 m.fr, .int .i64 m.ls, .bool m.rf, .slice q1.ep m.ed.length q1.ec, .slice q1.sp m.es.length q1.sc, .string m.tx, .int .i64 m.ro, .int .i64 m.nx, .slice q1.np m.ns.length q1.nc]] W (RetBelow (.returned (.bool dm)) W)) := Lib.hid (fun W hW => M1.out W q1 (R3.out.below (Bl.call B39.out hW)))
  have MB : Hid (∀ W, Bl w9 W → Calls Tryz.prog 13 #[.agg #[.int .i64 m.kd, .int .i64 m.cl, .int .i64 m.rv, .int .i64 m.sq, .int .i64 m.fr, .int .i64 m.ls, .bool m.rf, .slice q.ep m.ed.length q.ec, .slice q.sp m.es.length q.sc, .string m.tx, .int .i64 m.ro, .int .i64 m.nx, .slice q.np m.ns.length q.nc]] W (RetBelow (.returned (.bool dm)) W)) := Lib.hid (fun W hW => M2.out W (Bl.call B09.out hW))
  have S00 := Bl.refl w9
  go_region_held3 (fun W => Bl w9 W) ((repeat (first | with_reducible assumption | with_reducible refine Bl.alloc ?_ _ | with_reducible refine Bl.drew ?_ | (with_reducible refine Bl.set ?_ ?h _; case h => omega))))
    (first
      | (go_at_call 10; refine (num_any _ _).mono ?_; rintro e w10 ⟨rfl, rfl⟩)
      | (go_at_call 11; refine (SM.out _ (by (repeat (first | with_reducible assumption | with_reducible refine Bl.drew ?_ | with_reducible refine Bl.alloc ?_ _)))).mono ?_; rintro e w11 ⟨rfl, hb⟩; have S11 : Bl w9 w11 := Bl.call (by (repeat (first | with_reducible assumption | with_reducible refine Bl.drew ?_ | with_reducible refine Bl.alloc ?_ _))) hb; clear hb)
      | (go_at_call 12; refine (MA.out _ (by (repeat (first | with_reducible assumption | with_reducible refine Bl.drew ?_ | with_reducible refine Bl.alloc ?_ _)))).mono ?_; rintro e w12 ⟨rfl, hb⟩; have S12 : Bl w9 w12 := Bl.call (by (repeat (first | with_reducible assumption | with_reducible refine Bl.drew ?_ | with_reducible refine Bl.alloc ?_ _))) hb; clear hb)
      | (go_at_call 13; refine (MB.out _ (by (repeat (first | with_reducible assumption | with_reducible refine Bl.drew ?_ | with_reducible refine Bl.alloc ?_ _)))).mono ?_; rintro e w13 ⟨rfl, hb⟩; have S13 : Bl w9 w13 := Bl.call (by (repeat (first | with_reducible assumption | with_reducible refine Bl.drew ?_ | with_reducible refine Bl.alloc ?_ _))) hb; clear hb))
  have B613 : Hid (Bl w6 w13) := Lib.hid (Bl.call B69.out S13)
  have B513 : Hid (Bl w5 w13) := Lib.hid (Bl.call B59.out S13)
  have SP : Hid (Calls Tryz.prog 14 #[.agg #[.int .i64 c.kd, .int .i64 c.cl, .int .i64 c.rv, .int .i64 c.sq, .int .i64 c.fr, .int .i64 c.ls, .bool c.rf, .slice q2.ep c.ed.length q2.ec, .slice q2.sp c.es.length q2.sc, .string c.tx, .int .i64 c.ro, .int .i64 c.nx, .slice q2.np c.ns.length q2.nc]] w13 (SpTB w5.heap.size w13)) := Lib.hid (spoilMsg_any w5.heap.size c q2 w13 (S6.out.later B613.out) B513.out.size)
  have p0 := y0 w13 S13
  have p1 := y1 w13 S13
  have p2 := y2 w13 S13
  have p3 := y3 w13 S13
  have p4 := y4 w13 S13
  have p5 := y5 w13 S13
  have p6 := y6 w13 S13
  have p7 := y7 w13 S13
  have p8 := y8 w13 S13
  have p9 := y9 w13 S13
  have p10 := y10 w13 S13
  have p11 := y11 w13 S13
  have p12 := y12 w13 S13
  clear a0 a1 a2 a3 a4 a5 a6 a7 a8 a9 a10 a11 a12 x0 x1 x2 x3 x4 x5 x6 x7 x8 x9 x10 x11 x12 y0 y1 y2 y3 y4 y5 y6 y7 y8 y9 y10 y11 y12 v0 v1 v2 v3 v4 v5 v6 v7 v8 v9 v10 v11 v12 S00 SM MA MB
  go_upto_region 9 with (go_at_call 14; refine SP.out.mono ?_; rintro e w14 ⟨rfl, hb⟩; have B514 : Hid (Bl w5 w14) := Lib.hid (Below.trans B513.out hb); clear hb)
  clear p0 p1 p2 p3 p4 p5 p6 p7 p8 p9 p10 p11 p12
  have B314 : Hid (Bl w3 w14) := Lib.hid (Bl.call B35.out B514.out)
  have B014 : Hid (Bl w w14) := Lib.hid (Bl.call B3.out B314.out)
  have Y1 := Lib.hid (heap_later X13.out B314.out)
  have Y2 := Lib.hid (heap_later X3.out B314.out)
  have a0 := (obj_cells Y1.out).1 0 _ rfl
  have a1 := (obj_cells Y1.out).1 1 _ rfl
  have a2 := (obj_cells Y1.out).1 2 _ rfl
  have a3 := (obj_cells Y1.out).1 3 _ rfl
  have a4 := (obj_cells Y1.out).1 4 _ rfl
  have a5 := (obj_cells Y1.out).1 5 _ rfl
  have a6 := (obj_cells Y1.out).1 6 _ rfl
  have a7 := (obj_cells Y1.out).1 7 _ rfl
  have a8 := (obj_cells Y1.out).1 8 _ rfl
  have a9 := (obj_cells Y1.out).1 9 _ rfl
  have a10 := (obj_cells Y1.out).1 10 _ rfl
  have a11 := (obj_cells Y1.out).1 11 _ rfl
  have a12 := (obj_cells Y1.out).1 12 _ rfl
  have x0 := (obj_cells Y2.out).1 0 _ rfl
  have x1 := (obj_cells Y2.out).1 1 _ rfl
  have x2 := (obj_cells Y2.out).1 2 _ rfl
  have x3 := (obj_cells Y2.out).1 3 _ rfl
  have x4 := (obj_cells Y2.out).1 4 _ rfl
  have x5 := (obj_cells Y2.out).1 5 _ rfl
  have x6 := (obj_cells Y2.out).1 6 _ rfl
  have x7 := (obj_cells Y2.out).1 7 _ rfl
  have x8 := (obj_cells Y2.out).1 8 _ rfl
  have x9 := (obj_cells Y2.out).1 9 _ rfl
  have x10 := (obj_cells Y2.out).1 10 _ rfl
  have x11 := (obj_cells Y2.out).1 11 _ rfl
  have x12 := (obj_cells Y2.out).1 12 _ rfl
  have SM : Hid (Calls Tryz.prog 11 #[.agg #[.int .i64 m.kd, .int .i64 m.cl, .int .i64 m.rv, .int .i64 m.sq, .int .i64 m.fr, .int .i64 m.ls, .bool m.rf, .slice q1.ep m.ed.length q1.ec, .slice q1.sp m.es.length q1.sc, .string m.tx, .int .i64 m.ro, .int .i64 m.nx, .slice q1.np m.ns.length q1.nc], .agg #[.int .i64 m.kd, .int .i64 m.cl, .int .i64 m.rv, .int .i64 m.sq, .int .i64 m.fr, .int .i64 m.ls, .bool m.rf, .slice q.ep m.ed.length q.ec, .slice q.sp m.es.length q.sc, .string m.tx, .int .i64 m.ro, .int .i64 m.nx, .slice q.np m.ns.length q.nc]] w14 (RetBelow (.returned (.bool true)) w14)) := Lib.hid (sameMsg_true m q1 q w14 HZ.out (R3.out.below B314.out) (HR.out.below B014.out))
  go_wp2_with (first | (go_at_call 11; refine SM.out.mono ?_; rintro e w15 ⟨rfl, hb⟩; have B15 : Hid (Bl w w15) := Lib.hid (Bl.call B014.out hb); clear hb) | (go_at_call 15; refine (AW2.out _ B15.out).mono ?_; rintro e w16 ⟨rfl, hb⟩; have B16 : Hid (Bl w w16) := Lib.hid (Bl.call B15.out hb); clear hb))
  go_ret
  exact ⟨rfl, B16.out⟩

end Go.Proofs.YtjmfjlffcopnnaaGreatDoor
