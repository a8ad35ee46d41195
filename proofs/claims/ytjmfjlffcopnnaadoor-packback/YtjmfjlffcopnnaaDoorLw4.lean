/-
  The walk of minuetlaw17's PackBack, under what the program must answer (made by tools/genlw.py). Conditions: as each theorem's premises say.
-/
import Derived.Test.YtjmfjlffcopnnaaDoorLw3
import Derived.Test.YtjmfjlffcopnnaaDoorM20
import Derived.Deep.RegionHeld3
namespace Go.Proofs.YtjmfjlffcopnnaaDoor
open Go.RowKit
open Go.Proofs.YtjmfjlffcopnnaaDoor.K (C RowC MayP)

/-- What Get answers at a message's text. -/
def GetI (m : Ms) (w : World) (e : Ending) (w' : World) : Prop := ∃ q : Mq, e = .returned (.tuple #[.agg #[.int .i64 m.kd, .int .i64 m.cl, .int .i64 m.rv, .int .i64 m.sq, .int .i64 m.fr, .int .i64 m.ls, .bool m.rf, .slice q.ep m.ed.length q.ec, .slice q.sp m.es.length q.sc, .string m.tx, .int .i64 m.ro, .int .i64 m.nx, .slice q.np m.ns.length q.nc], .int .i64 0]) ∧ MsR w' m q ∧ Below w.heap.size w w'
theorem getI_of {s : ByteArray} {m : Ms} {w : World} {e : Ending} {w' : World} (h : GetW s w e w') (hn : Is s m) : GetI m w e w' := by
  obtain ⟨q, rfl, h1, _, h3⟩ := h
  obtain ⟨e1, e2⟩ := getM_is hn
  rw [e1] at h1
  exact ⟨q, by rw [e1, e2]; rfl, h1, h3⟩

set_option maxRecDepth 100000 in
set_option maxHeartbeats 8000000 in
theorem back_nn (m : Ms) (q : Mq) (s : ByteArray) (w : World) (AW : ∀ W, Bl w W → Calls Tryd.prog 5 #[] W (RetBelow (.returned (.bool true)) W)) (P1 : Hid (∀ W, Bl w W → Calls Tryd.prog 6 #[.agg #[.int .i64 m.kd, .int .i64 m.cl, .int .i64 m.rv, .int .i64 m.sq, .int .i64 m.fr, .int .i64 m.ls, .bool m.rf, .slice q.ep m.ed.length q.ec, .slice q.sp m.es.length q.sc, .string m.tx, .int .i64 m.ro, .int .i64 m.nx, .slice q.np m.ns.length q.nc]] W (fun e w' => e = .returned (.tuple #[.string ⟨#[]⟩, .int .i64 1700]) ∧ Below W.heap.size W w'))) (GS : Hid (∀ W, Calls Tryd.prog 8 #[.string s] W (GetN W))) : Calls Tryd.prog 3 #[msV m q, .string s] w (RetBelow (.returned (.bool true)) w) := by
  unfold GetN at GS
  have AW2 := Lib.hid AW
  clear AW
  unfold msV
  go_enter Tryd.func3, Tryd.ntmps3
  go_upto_region 1 with fail
  have X1 : Hid ((w.alloc (.cells #[.int .i64 m.kd, .int .i64 m.cl, .int .i64 m.rv, .int .i64 m.sq, .int .i64 m.fr, .int .i64 m.ls, .bool m.rf, .slice q.ep m.ed.length q.ec, .slice q.sp m.es.length q.sc, .string m.tx, .int .i64 m.ro, .int .i64 m.nx, .slice q.np m.ns.length q.nc] 28)).heap[w.heap.size]? = some (.cells #[.int .i64 m.kd, .int .i64 m.cl, .int .i64 m.rv, .int .i64 m.sq, .int .i64 m.fr, .int .i64 m.ls, .bool m.rf, .slice q.ep m.ed.length q.ec, .slice q.sp m.es.length q.sc, .string m.tx, .int .i64 m.ro, .int .i64 m.nx, .slice q.np m.ns.length q.nc] 28 (0, 0))) := Lib.hid (heap_alloc_new w _)
  have B1 : Hid (Bl w (w.alloc (.cells #[.int .i64 m.kd, .int .i64 m.cl, .int .i64 m.rv, .int .i64 m.sq, .int .i64 m.fr, .int .i64 m.ls, .bool m.rf, .slice q.ep m.ed.length q.ec, .slice q.sp m.es.length q.sc, .string m.tx, .int .i64 m.ro, .int .i64 m.nx, .slice q.np m.ns.length q.nc] 28))) := Lib.hid (Bl.alloc (Bl.refl w) _)
  generalize w.alloc (.cells #[.int .i64 m.kd, .int .i64 m.cl, .int .i64 m.rv, .int .i64 m.sq, .int .i64 m.fr, .int .i64 m.ls, .bool m.rf, .slice q.ep m.ed.length q.ec, .slice q.sp m.es.length q.sc, .string m.tx, .int .i64 m.ro, .int .i64 m.nx, .slice q.np m.ns.length q.nc] 28) = w1 at X1 B1 ⊢
  obtain ⟨b1, hb1⟩ : ∃ b, w.heap.size = b := ⟨_, rfl⟩
  rw [hb1] at X1 ⊢
  clear hb1
  go_upto_region 3 with (go_at_call 5; refine (AW2.out _ B1.out).mono ?_; rintro e w2 ⟨rfl, hb⟩; have B2 : Hid (Bl w w2) := Lib.hid (Bl.call B1.out hb); have X2 := Lib.hid (heap_later X1.out hb); clear hb)
  have a0 := (obj_cells X2.out).1 0 _ rfl
  have a1 := (obj_cells X2.out).1 1 _ rfl
  have a2 := (obj_cells X2.out).1 2 _ rfl
  have a3 := (obj_cells X2.out).1 3 _ rfl
  have a4 := (obj_cells X2.out).1 4 _ rfl
  have a5 := (obj_cells X2.out).1 5 _ rfl
  have a6 := (obj_cells X2.out).1 6 _ rfl
  have a7 := (obj_cells X2.out).1 7 _ rfl
  have a8 := (obj_cells X2.out).1 8 _ rfl
  have a9 := (obj_cells X2.out).1 9 _ rfl
  have a10 := (obj_cells X2.out).1 10 _ rfl
  have a11 := (obj_cells X2.out).1 11 _ rfl
  have a12 := (obj_cells X2.out).1 12 _ rfl
  go_upto_region 15 with (first | (go_at_call 6; refine (P1.out _ B2.out).mono ?_; rintro e w3 ⟨rfl, hb⟩; have B3 : Hid (Bl w w3) := Lib.hid (Bl.call B2.out hb); clear hb) | (go_at_call 7; refine (num_any _ _).mono ?_; rintro e w4 ⟨rfl, rfl⟩))
  clear a0 a1 a2 a3 a4 a5 a6 a7 a8 a9 a10 a11 a12
  go_upto_region 16 with (go_at_call 8; refine (GS.out _).mono ?_; rintro e w21 ⟨q4, rfl, h1, hb⟩; have R21 := Lib.hid h1; have B21 : Hid (Bl w w21) := Lib.hid (Bl.call B3.out hb); clear h1 hb)
  have X22 : Hid ((w21.alloc (.cells #[.int .i64 0, .int .i64 0, .int .i64 0, .int .i64 0, .int .i64 0, .int .i64 0, .bool false, .slice q4.ep 0 q4.ec, .slice q4.sp 0 q4.sc, .string ⟨#[]⟩, .int .i64 0, .int .i64 0, .slice q4.np 0 q4.nc] 28)).heap[w21.heap.size]? = some (.cells #[.int .i64 0, .int .i64 0, .int .i64 0, .int .i64 0, .int .i64 0, .int .i64 0, .bool false, .slice q4.ep 0 q4.ec, .slice q4.sp 0 q4.sc, .string ⟨#[]⟩, .int .i64 0, .int .i64 0, .slice q4.np 0 q4.nc] 28 (0, 0))) := Lib.hid (heap_alloc_new w21 _)
  have B22 : Hid (Bl w21 (w21.alloc (.cells #[.int .i64 0, .int .i64 0, .int .i64 0, .int .i64 0, .int .i64 0, .int .i64 0, .bool false, .slice q4.ep 0 q4.ec, .slice q4.sp 0 q4.sc, .string ⟨#[]⟩, .int .i64 0, .int .i64 0, .slice q4.np 0 q4.nc] 28))) := Lib.hid (Bl.alloc (Bl.refl w21) _)
  generalize w21.alloc (.cells #[.int .i64 0, .int .i64 0, .int .i64 0, .int .i64 0, .int .i64 0, .int .i64 0, .bool false, .slice q4.ep 0 q4.ec, .slice q4.sp 0 q4.sc, .string ⟨#[]⟩, .int .i64 0, .int .i64 0, .slice q4.np 0 q4.nc] 28) = w22 at X22 B22 ⊢
  obtain ⟨b4, hb4⟩ : ∃ b, w21.heap.size = b := ⟨_, rfl⟩
  rw [hb4] at X22 ⊢
  clear hb4
  have v0 := (obj_cells X22.out).1 0 _ rfl
  have v1 := (obj_cells X22.out).1 1 _ rfl
  have v2 := (obj_cells X22.out).1 2 _ rfl
  have v3 := (obj_cells X22.out).1 3 _ rfl
  have v4 := (obj_cells X22.out).1 4 _ rfl
  have v5 := (obj_cells X22.out).1 5 _ rfl
  have v6 := (obj_cells X22.out).1 6 _ rfl
  have v7 := (obj_cells X22.out).1 7 _ rfl
  have v8 := (obj_cells X22.out).1 8 _ rfl
  have v9 := (obj_cells X22.out).1 9 _ rfl
  have v10 := (obj_cells X22.out).1 10 _ rfl
  have v11 := (obj_cells X22.out).1 11 _ rfl
  have v12 := (obj_cells X22.out).1 12 _ rfl
  have SM2 := Lib.hid (same_zero q4 w22 (R21.out.below B22.out))
  go_wp2_with (first | (go_at_call 7; refine (num_any _ _).mono ?_; rintro e w10 ⟨rfl, rfl⟩) | (go_at_call 9; refine SM2.out.mono ?_; rintro e w23 ⟨rfl, hb⟩; have B23 : Hid (Bl w w23) := Lib.hid (Bl.call (Bl.call B21.out B22.out) hb); clear hb))
  go_ret
  exact ⟨rfl, B23.out⟩
set_option maxRecDepth 100000 in
set_option maxHeartbeats 8000000 in
theorem back_ny (m : Ms) (q : Mq) (s : ByteArray) (w : World) (AW : ∀ W, Bl w W → Calls Tryd.prog 5 #[] W (RetBelow (.returned (.bool true)) W)) (P1 : Hid (∀ W, Bl w W → Calls Tryd.prog 6 #[.agg #[.int .i64 m.kd, .int .i64 m.cl, .int .i64 m.rv, .int .i64 m.sq, .int .i64 m.fr, .int .i64 m.ls, .bool m.rf, .slice q.ep m.ed.length q.ec, .slice q.sp m.es.length q.sc, .string m.tx, .int .i64 m.ro, .int .i64 m.nx, .slice q.np m.ns.length q.nc]] W (fun e w' => e = .returned (.tuple #[.string ⟨#[]⟩, .int .i64 1700]) ∧ Below W.heap.size W w'))) (c : Ms) (GS : Hid (∀ W, Calls Tryd.prog 8 #[.string s] W (GetI c W))) (PS : Hid (∀ W q4, Bl w W → MsR W c q4 → Calls Tryd.prog 6 #[.agg #[.int .i64 c.kd, .int .i64 c.cl, .int .i64 c.rv, .int .i64 c.sq, .int .i64 c.fr, .int .i64 c.ls, .bool c.rf, .slice q4.ep c.ed.length q4.ec, .slice q4.sp c.es.length q4.sc, .string c.tx, .int .i64 c.ro, .int .i64 c.nx, .slice q4.np c.ns.length q4.nc]] W (fun e w' => e = .returned (.tuple #[.string s, .int .i64 0]) ∧ Below W.heap.size W w'))) : Calls Tryd.prog 3 #[msV m q, .string s] w (RetBelow (.returned (.bool true)) w) := by
  unfold GetI at GS
  have AW2 := Lib.hid AW
  clear AW
  unfold msV
  go_enter Tryd.func3, Tryd.ntmps3
  go_upto_region 1 with fail
  have X1 : Hid ((w.alloc (.cells #[.int .i64 m.kd, .int .i64 m.cl, .int .i64 m.rv, .int .i64 m.sq, .int .i64 m.fr, .int .i64 m.ls, .bool m.rf, .slice q.ep m.ed.length q.ec, .slice q.sp m.es.length q.sc, .string m.tx, .int .i64 m.ro, .int .i64 m.nx, .slice q.np m.ns.length q.nc] 28)).heap[w.heap.size]? = some (.cells #[.int .i64 m.kd, .int .i64 m.cl, .int .i64 m.rv, .int .i64 m.sq, .int .i64 m.fr, .int .i64 m.ls, .bool m.rf, .slice q.ep m.ed.length q.ec, .slice q.sp m.es.length q.sc, .string m.tx, .int .i64 m.ro, .int .i64 m.nx, .slice q.np m.ns.length q.nc] 28 (0, 0))) := Lib.hid (heap_alloc_new w _)
  have B1 : Hid (Bl w (w.alloc (.cells #[.int .i64 m.kd, .int .i64 m.cl, .int .i64 m.rv, .int .i64 m.sq, .int .i64 m.fr, .int .i64 m.ls, .bool m.rf, .slice q.ep m.ed.length q.ec, .slice q.sp m.es.length q.sc, .string m.tx, .int .i64 m.ro, .int .i64 m.nx, .slice q.np m.ns.length q.nc] 28))) := Lib.hid (Bl.alloc (Bl.refl w) _)
  generalize w.alloc (.cells #[.int .i64 m.kd, .int .i64 m.cl, .int .i64 m.rv, .int .i64 m.sq, .int .i64 m.fr, .int .i64 m.ls, .bool m.rf, .slice q.ep m.ed.length q.ec, .slice q.sp m.es.length q.sc, .string m.tx, .int .i64 m.ro, .int .i64 m.nx, .slice q.np m.ns.length q.nc] 28) = w1 at X1 B1 ⊢
  obtain ⟨b1, hb1⟩ : ∃ b, w.heap.size = b := ⟨_, rfl⟩
  rw [hb1] at X1 ⊢
  clear hb1
  go_upto_region 3 with (go_at_call 5; refine (AW2.out _ B1.out).mono ?_; rintro e w2 ⟨rfl, hb⟩; have B2 : Hid (Bl w w2) := Lib.hid (Bl.call B1.out hb); have X2 := Lib.hid (heap_later X1.out hb); clear hb)
  have a0 := (obj_cells X2.out).1 0 _ rfl
  have a1 := (obj_cells X2.out).1 1 _ rfl
  have a2 := (obj_cells X2.out).1 2 _ rfl
  have a3 := (obj_cells X2.out).1 3 _ rfl
  have a4 := (obj_cells X2.out).1 4 _ rfl
  have a5 := (obj_cells X2.out).1 5 _ rfl
  have a6 := (obj_cells X2.out).1 6 _ rfl
  have a7 := (obj_cells X2.out).1 7 _ rfl
  have a8 := (obj_cells X2.out).1 8 _ rfl
  have a9 := (obj_cells X2.out).1 9 _ rfl
  have a10 := (obj_cells X2.out).1 10 _ rfl
  have a11 := (obj_cells X2.out).1 11 _ rfl
  have a12 := (obj_cells X2.out).1 12 _ rfl
  go_upto_region 15 with (first | (go_at_call 6; refine (P1.out _ B2.out).mono ?_; rintro e w3 ⟨rfl, hb⟩; have B3 : Hid (Bl w w3) := Lib.hid (Bl.call B2.out hb); clear hb) | (go_at_call 7; refine (num_any _ _).mono ?_; rintro e w4 ⟨rfl, rfl⟩))
  clear a0 a1 a2 a3 a4 a5 a6 a7 a8 a9 a10 a11 a12
  go_upto_region 16 with (go_at_call 8; refine (GS.out _).mono ?_; rintro e w21 ⟨q4, rfl, h1, hb⟩; have R21 := Lib.hid h1; have B21 : Hid (Bl w w21) := Lib.hid (Bl.call B3.out hb); clear h1 hb)
  have X22 : Hid ((w21.alloc (.cells #[.int .i64 c.kd, .int .i64 c.cl, .int .i64 c.rv, .int .i64 c.sq, .int .i64 c.fr, .int .i64 c.ls, .bool c.rf, .slice q4.ep c.ed.length q4.ec, .slice q4.sp c.es.length q4.sc, .string c.tx, .int .i64 c.ro, .int .i64 c.nx, .slice q4.np c.ns.length q4.nc] 28)).heap[w21.heap.size]? = some (.cells #[.int .i64 c.kd, .int .i64 c.cl, .int .i64 c.rv, .int .i64 c.sq, .int .i64 c.fr, .int .i64 c.ls, .bool c.rf, .slice q4.ep c.ed.length q4.ec, .slice q4.sp c.es.length q4.sc, .string c.tx, .int .i64 c.ro, .int .i64 c.nx, .slice q4.np c.ns.length q4.nc] 28 (0, 0))) := Lib.hid (heap_alloc_new w21 _)
  have B22 : Hid (Bl w21 (w21.alloc (.cells #[.int .i64 c.kd, .int .i64 c.cl, .int .i64 c.rv, .int .i64 c.sq, .int .i64 c.fr, .int .i64 c.ls, .bool c.rf, .slice q4.ep c.ed.length q4.ec, .slice q4.sp c.es.length q4.sc, .string c.tx, .int .i64 c.ro, .int .i64 c.nx, .slice q4.np c.ns.length q4.nc] 28))) := Lib.hid (Bl.alloc (Bl.refl w21) _)
  generalize w21.alloc (.cells #[.int .i64 c.kd, .int .i64 c.cl, .int .i64 c.rv, .int .i64 c.sq, .int .i64 c.fr, .int .i64 c.ls, .bool c.rf, .slice q4.ep c.ed.length q4.ec, .slice q4.sp c.es.length q4.sc, .string c.tx, .int .i64 c.ro, .int .i64 c.nx, .slice q4.np c.ns.length q4.nc] 28) = w22 at X22 B22 ⊢
  obtain ⟨b4, hb4⟩ : ∃ b, w21.heap.size = b := ⟨_, rfl⟩
  rw [hb4] at X22 ⊢
  clear hb4
  have v0 := (obj_cells X22.out).1 0 _ rfl
  have v1 := (obj_cells X22.out).1 1 _ rfl
  have v2 := (obj_cells X22.out).1 2 _ rfl
  have v3 := (obj_cells X22.out).1 3 _ rfl
  have v4 := (obj_cells X22.out).1 4 _ rfl
  have v5 := (obj_cells X22.out).1 5 _ rfl
  have v6 := (obj_cells X22.out).1 6 _ rfl
  have v7 := (obj_cells X22.out).1 7 _ rfl
  have v8 := (obj_cells X22.out).1 8 _ rfl
  have v9 := (obj_cells X22.out).1 9 _ rfl
  have v10 := (obj_cells X22.out).1 10 _ rfl
  have v11 := (obj_cells X22.out).1 11 _ rfl
  have v12 := (obj_cells X22.out).1 12 _ rfl
  go_wp2_with (first | (go_at_call 7; refine (num_any _ _).mono ?_; rintro e w10 ⟨rfl, rfl⟩) | (go_at_call 6; refine (PS.out _ q4 (Bl.call B21.out B22.out) (R21.out.below B22.out)).mono ?_; rintro e w23 ⟨rfl, hb⟩; have B23 : Hid (Bl w w23) := Lib.hid (Bl.call (Bl.call B21.out B22.out) hb); clear hb))
  go_ret
  exact ⟨rfl, B23.out⟩
set_option maxRecDepth 100000 in
set_option maxHeartbeats 8000000 in
theorem back_gn (m : Ms) (q : Mq) (s : ByteArray) (w : World) (AW : ∀ W, Bl w W → Calls Tryd.prog 5 #[] W (RetBelow (.returned (.bool true)) W)) (z : ByteArray) (hs0 : 0 < z.size) (hs1 : z.size ≤ 1000000) (P1 : Hid (∀ W, Bl w W → Calls Tryd.prog 6 #[.agg #[.int .i64 m.kd, .int .i64 m.cl, .int .i64 m.rv, .int .i64 m.sq, .int .i64 m.fr, .int .i64 m.ls, .bool m.rf, .slice q.ep m.ed.length q.ec, .slice q.sp m.es.length q.sc, .string m.tx, .int .i64 m.ro, .int .i64 m.nx, .slice q.np m.ns.length q.nc]] W (fun e w' => e = .returned (.tuple #[.string z, .int .i64 0]) ∧ Below W.heap.size W w'))) (G1 : Hid (∀ W, Calls Tryd.prog 8 #[.string z] W (GetI m W))) (G2 : Hid (∀ W, Calls Tryd.prog 8 #[.string (z ++ ⟨#[48]⟩)] W (GetN W))) (G3 : Hid (∀ W, Calls Tryd.prog 8 #[.string (z.extract 0 (z.size - 1))] W (GetN W))) (SMC : Hid (∀ W q2, MsR W m q2 → Bl w W → Calls Tryd.prog 9 #[.agg #[.int .i64 m.kd, .int .i64 m.cl, .int .i64 m.rv, .int .i64 m.sq, .int .i64 m.fr, .int .i64 m.ls, .bool m.rf, .slice q2.ep m.ed.length q2.ec, .slice q2.sp m.es.length q2.sc, .string m.tx, .int .i64 m.ro, .int .i64 m.nx, .slice q2.np m.ns.length q2.nc], .agg #[.int .i64 m.kd, .int .i64 m.cl, .int .i64 m.rv, .int .i64 m.sq, .int .i64 m.fr, .int .i64 m.ls, .bool m.rf, .slice q.ep m.ed.length q.ec, .slice q.sp m.es.length q.sc, .string m.tx, .int .i64 m.ro, .int .i64 m.nx, .slice q.np m.ns.length q.nc]] W (RetBelow (.returned (.bool true)) W))) (MA : Hid (∀ W, Bl w W → Calls Tryd.prog 10 #[.agg #[.int .i64 m.kd, .int .i64 m.cl, .int .i64 m.rv, .int .i64 m.sq, .int .i64 m.fr, .int .i64 m.ls, .bool m.rf, .slice q.ep m.ed.length q.ec, .slice q.sp m.es.length q.sc, .string m.tx, .int .i64 m.ro, .int .i64 m.nx, .slice q.np m.ns.length q.nc]] W (RetBelow (.returned (.bool true)) W))) (GS : Hid (∀ W, Calls Tryd.prog 8 #[.string s] W (GetN W))) : Calls Tryd.prog 3 #[msV m q, .string s] w (RetBelow (.returned (.bool true)) w) := by
  unfold GetI at G1
  unfold GetN at G2 G3
  have hz1 : ¬ (z.size : Int) < 1 := by omega
  have hz2 : (0 : Int) < (z.size : Int) := by omega
  have hk : IntKind.i64.wrap ((z.size : Int) - 1) = ((z.size - 1 : Nat) : Int) := by rw [IntWalk.i64_in _ (by omega)]; omega
  have hk2 : (z.size : Int) - 1 = ((z.size - 1 : Nat) : Int) := by omega
  obtain ⟨k, hkk⟩ : ∃ k, z.size - 1 = k := ⟨_, rfl⟩
  rw [hkk] at G3 hk hk2
  have hk0 : (0 : Int) ≤ (k : Int) := by omega
  have hk1 : (k : Int) ≤ (z.size : Int) := by omega
  have HK := Lib.hid hk; have HK2 := Lib.hid hk2
  clear hkk hk
  unfold GetN at GS
  have AW2 := Lib.hid AW
  clear AW
  unfold msV
  go_enter Tryd.func3, Tryd.ntmps3
  go_upto_region 1 with fail
  have X1 : Hid ((w.alloc (.cells #[.int .i64 m.kd, .int .i64 m.cl, .int .i64 m.rv, .int .i64 m.sq, .int .i64 m.fr, .int .i64 m.ls, .bool m.rf, .slice q.ep m.ed.length q.ec, .slice q.sp m.es.length q.sc, .string m.tx, .int .i64 m.ro, .int .i64 m.nx, .slice q.np m.ns.length q.nc] 28)).heap[w.heap.size]? = some (.cells #[.int .i64 m.kd, .int .i64 m.cl, .int .i64 m.rv, .int .i64 m.sq, .int .i64 m.fr, .int .i64 m.ls, .bool m.rf, .slice q.ep m.ed.length q.ec, .slice q.sp m.es.length q.sc, .string m.tx, .int .i64 m.ro, .int .i64 m.nx, .slice q.np m.ns.length q.nc] 28 (0, 0))) := Lib.hid (heap_alloc_new w _)
  have B1 : Hid (Bl w (w.alloc (.cells #[.int .i64 m.kd, .int .i64 m.cl, .int .i64 m.rv, .int .i64 m.sq, .int .i64 m.fr, .int .i64 m.ls, .bool m.rf, .slice q.ep m.ed.length q.ec, .slice q.sp m.es.length q.sc, .string m.tx, .int .i64 m.ro, .int .i64 m.nx, .slice q.np m.ns.length q.nc] 28))) := Lib.hid (Bl.alloc (Bl.refl w) _)
  generalize w.alloc (.cells #[.int .i64 m.kd, .int .i64 m.cl, .int .i64 m.rv, .int .i64 m.sq, .int .i64 m.fr, .int .i64 m.ls, .bool m.rf, .slice q.ep m.ed.length q.ec, .slice q.sp m.es.length q.sc, .string m.tx, .int .i64 m.ro, .int .i64 m.nx, .slice q.np m.ns.length q.nc] 28) = w1 at X1 B1 ⊢
  obtain ⟨b1, hb1⟩ : ∃ b, w.heap.size = b := ⟨_, rfl⟩
  rw [hb1] at X1 ⊢
  clear hb1
  go_upto_region 3 with (go_at_call 5; refine (AW2.out _ B1.out).mono ?_; rintro e w2 ⟨rfl, hb⟩; have B2 : Hid (Bl w w2) := Lib.hid (Bl.call B1.out hb); have X2 := Lib.hid (heap_later X1.out hb); clear hb)
  have a0 := (obj_cells X2.out).1 0 _ rfl
  have a1 := (obj_cells X2.out).1 1 _ rfl
  have a2 := (obj_cells X2.out).1 2 _ rfl
  have a3 := (obj_cells X2.out).1 3 _ rfl
  have a4 := (obj_cells X2.out).1 4 _ rfl
  have a5 := (obj_cells X2.out).1 5 _ rfl
  have a6 := (obj_cells X2.out).1 6 _ rfl
  have a7 := (obj_cells X2.out).1 7 _ rfl
  have a8 := (obj_cells X2.out).1 8 _ rfl
  have a9 := (obj_cells X2.out).1 9 _ rfl
  have a10 := (obj_cells X2.out).1 10 _ rfl
  have a11 := (obj_cells X2.out).1 11 _ rfl
  have a12 := (obj_cells X2.out).1 12 _ rfl
  go_upto_region 5 with (first | (go_at_call 6; refine (P1.out _ B2.out).mono ?_; rintro e w3 ⟨rfl, hb⟩; have B3 : Hid (Bl w w3) := Lib.hid (Bl.call B2.out hb); have X3 := Lib.hid (heap_later X2.out hb); clear hb) | (go_at_call 7; refine (num_any _ _).mono ?_; rintro e w4 ⟨rfl, rfl⟩))
  clear a0 a1 a2 a3 a4 a5 a6 a7 a8 a9 a10 a11 a12
  go_upto_region 6 with (go_at_call 8; refine (G1.out _).mono ?_; rintro e w5 ⟨q2, rfl, h1, hb⟩; have R5 := Lib.hid h1; have B35 : Hid (Bl w3 w5) := Lib.hid hb; clear h1 hb)
  have X6 : Hid ((w5.alloc (.cells #[.int .i64 m.kd, .int .i64 m.cl, .int .i64 m.rv, .int .i64 m.sq, .int .i64 m.fr, .int .i64 m.ls, .bool m.rf, .slice q2.ep m.ed.length q2.ec, .slice q2.sp m.es.length q2.sc, .string m.tx, .int .i64 m.ro, .int .i64 m.nx, .slice q2.np m.ns.length q2.nc] 28)).heap[w5.heap.size]? = some (.cells #[.int .i64 m.kd, .int .i64 m.cl, .int .i64 m.rv, .int .i64 m.sq, .int .i64 m.fr, .int .i64 m.ls, .bool m.rf, .slice q2.ep m.ed.length q2.ec, .slice q2.sp m.es.length q2.sc, .string m.tx, .int .i64 m.ro, .int .i64 m.nx, .slice q2.np m.ns.length q2.nc] 28 (0, 0))) := Lib.hid (heap_alloc_new w5 _)
  have B56 : Hid (Bl w5 (w5.alloc (.cells #[.int .i64 m.kd, .int .i64 m.cl, .int .i64 m.rv, .int .i64 m.sq, .int .i64 m.fr, .int .i64 m.ls, .bool m.rf, .slice q2.ep m.ed.length q2.ec, .slice q2.sp m.es.length q2.sc, .string m.tx, .int .i64 m.ro, .int .i64 m.nx, .slice q2.np m.ns.length q2.nc] 28))) := Lib.hid (Bl.alloc (Bl.refl w5) _)
  generalize w5.alloc (.cells #[.int .i64 m.kd, .int .i64 m.cl, .int .i64 m.rv, .int .i64 m.sq, .int .i64 m.fr, .int .i64 m.ls, .bool m.rf, .slice q2.ep m.ed.length q2.ec, .slice q2.sp m.es.length q2.sc, .string m.tx, .int .i64 m.ro, .int .i64 m.nx, .slice q2.np m.ns.length q2.nc] 28) = w6 at X6 B56 ⊢
  obtain ⟨b2, hb2⟩ : ∃ b, w5.heap.size = b := ⟨_, rfl⟩
  rw [hb2] at X6 ⊢
  clear hb2
  have B36 : Hid (Bl w3 w6) := Lib.hid (Bl.call B35.out B56.out)
  have B06 : Hid (Bl w w6) := Lib.hid (Bl.call B3.out B36.out)
  have X16 := Lib.hid (heap_later X3.out B36.out)
  have a0 := (obj_cells X16.out).1 0 _ rfl
  have a1 := (obj_cells X16.out).1 1 _ rfl
  have a2 := (obj_cells X16.out).1 2 _ rfl
  have a3 := (obj_cells X16.out).1 3 _ rfl
  have a4 := (obj_cells X16.out).1 4 _ rfl
  have a5 := (obj_cells X16.out).1 5 _ rfl
  have a6 := (obj_cells X16.out).1 6 _ rfl
  have a7 := (obj_cells X16.out).1 7 _ rfl
  have a8 := (obj_cells X16.out).1 8 _ rfl
  have a9 := (obj_cells X16.out).1 9 _ rfl
  have a10 := (obj_cells X16.out).1 10 _ rfl
  have a11 := (obj_cells X16.out).1 11 _ rfl
  have a12 := (obj_cells X16.out).1 12 _ rfl
  have y0 := (obj_cells X6.out).1 0 _ rfl
  have y1 := (obj_cells X6.out).1 1 _ rfl
  have y2 := (obj_cells X6.out).1 2 _ rfl
  have y3 := (obj_cells X6.out).1 3 _ rfl
  have y4 := (obj_cells X6.out).1 4 _ rfl
  have y5 := (obj_cells X6.out).1 5 _ rfl
  have y6 := (obj_cells X6.out).1 6 _ rfl
  have y7 := (obj_cells X6.out).1 7 _ rfl
  have y8 := (obj_cells X6.out).1 8 _ rfl
  have y9 := (obj_cells X6.out).1 9 _ rfl
  have y10 := (obj_cells X6.out).1 10 _ rfl
  have y11 := (obj_cells X6.out).1 11 _ rfl
  have y12 := (obj_cells X6.out).1 12 _ rfl
  have SM : Hid (Calls Tryd.prog 9 #[.agg #[.int .i64 m.kd, .int .i64 m.cl, .int .i64 m.rv, .int .i64 m.sq, .int .i64 m.fr, .int .i64 m.ls, .bool m.rf, .slice q2.ep m.ed.length q2.ec, .slice q2.sp m.es.length q2.sc, .string m.tx, .int .i64 m.ro, .int .i64 m.nx, .slice q2.np m.ns.length q2.nc], .agg #[.int .i64 m.kd, .int .i64 m.cl, .int .i64 m.rv, .int .i64 m.sq, .int .i64 m.fr, .int .i64 m.ls, .bool m.rf, .slice q.ep m.ed.length q.ec, .slice q.sp m.es.length q.sc, .string m.tx, .int .i64 m.ro, .int .i64 m.nx, .slice q.np m.ns.length q.nc]] w6 (RetBelow (.returned (.bool true)) w6)) := Lib.hid (SMC.out w6 q2 (R5.out.below B56.out) B06.out)
  go_upto_region 8 with (first | (go_at_call 7; refine (num_any _ _).mono ?_; rintro e w10 ⟨rfl, rfl⟩) | (go_at_call 9; refine SM.out.mono ?_; rintro e w7 ⟨rfl, hb⟩; have B7 : Hid (Bl w w7) := Lib.hid (Bl.call B06.out hb); have X7 := Lib.hid (heap_later X16.out hb); have p0 := (obj_cells X7.out).1 0 _ rfl; have p1 := (obj_cells X7.out).1 1 _ rfl; have p2 := (obj_cells X7.out).1 2 _ rfl; have p3 := (obj_cells X7.out).1 3 _ rfl; have p4 := (obj_cells X7.out).1 4 _ rfl; have p5 := (obj_cells X7.out).1 5 _ rfl; have p6 := (obj_cells X7.out).1 6 _ rfl; have p7 := (obj_cells X7.out).1 7 _ rfl; have p8 := (obj_cells X7.out).1 8 _ rfl; have p9 := (obj_cells X7.out).1 9 _ rfl; have p10 := (obj_cells X7.out).1 10 _ rfl; have p11 := (obj_cells X7.out).1 11 _ rfl; have p12 := (obj_cells X7.out).1 12 _ rfl; clear hb) | (go_at_call 10; refine (MA.out _ B7.out).mono ?_; rintro e w8 ⟨rfl, hb⟩; have B8 : Hid (Bl w w8) := Lib.hid (Bl.call B7.out hb); clear hb))
  clear a0 a1 a2 a3 a4 a5 a6 a7 a8 a9 a10 a11 a12 y0 y1 y2 y3 y4 y5 y6 y7 y8 y9 y10 y11 y12 p0 p1 p2 p3 p4 p5 p6 p7 p8 p9 p10 p11 p12
  go_upto_region 9 with (go_at_call 8; refine (G2.out _).mono ?_; rintro e w9 ⟨q2, rfl, h1, hb⟩; have B9 : Hid (Bl w w9) := Lib.hid (Bl.call B8.out hb); clear h1 hb)
  have B10 : Hid (Bl w (w9.alloc (.cells #[.int .i64 0, .int .i64 0, .int .i64 0, .int .i64 0, .int .i64 0, .int .i64 0, .bool false, .slice q2.ep 0 q2.ec, .slice q2.sp 0 q2.sc, .string ⟨#[]⟩, .int .i64 0, .int .i64 0, .slice q2.np 0 q2.nc] 28))) := Lib.hid (Bl.alloc B9.out _)
  generalize w9.alloc (.cells #[.int .i64 0, .int .i64 0, .int .i64 0, .int .i64 0, .int .i64 0, .int .i64 0, .bool false, .slice q2.ep 0 q2.ec, .slice q2.sp 0 q2.sc, .string ⟨#[]⟩, .int .i64 0, .int .i64 0, .slice q2.np 0 q2.nc] 28) = w10 at B10 ⊢
  go_upto_region 12 with (go_at_call 8; refine (G3.out _).mono ?_; rintro e w11 ⟨q3, rfl, h1, hb⟩; have B11 : Hid (Bl w w11) := Lib.hid (Bl.call B10.out hb); clear h1 hb)
  have B12 : Hid (Bl w (w11.alloc (.cells #[.int .i64 0, .int .i64 0, .int .i64 0, .int .i64 0, .int .i64 0, .int .i64 0, .bool false, .slice q3.ep 0 q3.ec, .slice q3.sp 0 q3.sc, .string ⟨#[]⟩, .int .i64 0, .int .i64 0, .slice q3.np 0 q3.nc] 28))) := Lib.hid (Bl.alloc B11.out _)
  generalize w11.alloc (.cells #[.int .i64 0, .int .i64 0, .int .i64 0, .int .i64 0, .int .i64 0, .int .i64 0, .bool false, .slice q3.ep 0 q3.ec, .slice q3.sp 0 q3.sc, .string ⟨#[]⟩, .int .i64 0, .int .i64 0, .slice q3.np 0 q3.nc] 28) = w12 at B12 ⊢
  go_upto_region 15 with (first | (go_at_call 7; refine (num_any _ _).mono ?_; rintro e w10 ⟨rfl, rfl⟩))
  go_upto_region 16 with (go_at_call 8; refine (GS.out _).mono ?_; rintro e w21 ⟨q4, rfl, h1, hb⟩; have R21 := Lib.hid h1; have B21 : Hid (Bl w w21) := Lib.hid (Bl.call B12.out hb); clear h1 hb)
  have X22 : Hid ((w21.alloc (.cells #[.int .i64 0, .int .i64 0, .int .i64 0, .int .i64 0, .int .i64 0, .int .i64 0, .bool false, .slice q4.ep 0 q4.ec, .slice q4.sp 0 q4.sc, .string ⟨#[]⟩, .int .i64 0, .int .i64 0, .slice q4.np 0 q4.nc] 28)).heap[w21.heap.size]? = some (.cells #[.int .i64 0, .int .i64 0, .int .i64 0, .int .i64 0, .int .i64 0, .int .i64 0, .bool false, .slice q4.ep 0 q4.ec, .slice q4.sp 0 q4.sc, .string ⟨#[]⟩, .int .i64 0, .int .i64 0, .slice q4.np 0 q4.nc] 28 (0, 0))) := Lib.hid (heap_alloc_new w21 _)
  have B22 : Hid (Bl w21 (w21.alloc (.cells #[.int .i64 0, .int .i64 0, .int .i64 0, .int .i64 0, .int .i64 0, .int .i64 0, .bool false, .slice q4.ep 0 q4.ec, .slice q4.sp 0 q4.sc, .string ⟨#[]⟩, .int .i64 0, .int .i64 0, .slice q4.np 0 q4.nc] 28))) := Lib.hid (Bl.alloc (Bl.refl w21) _)
  generalize w21.alloc (.cells #[.int .i64 0, .int .i64 0, .int .i64 0, .int .i64 0, .int .i64 0, .int .i64 0, .bool false, .slice q4.ep 0 q4.ec, .slice q4.sp 0 q4.sc, .string ⟨#[]⟩, .int .i64 0, .int .i64 0, .slice q4.np 0 q4.nc] 28) = w22 at X22 B22 ⊢
  obtain ⟨b4, hb4⟩ : ∃ b, w21.heap.size = b := ⟨_, rfl⟩
  rw [hb4] at X22 ⊢
  clear hb4
  have v0 := (obj_cells X22.out).1 0 _ rfl
  have v1 := (obj_cells X22.out).1 1 _ rfl
  have v2 := (obj_cells X22.out).1 2 _ rfl
  have v3 := (obj_cells X22.out).1 3 _ rfl
  have v4 := (obj_cells X22.out).1 4 _ rfl
  have v5 := (obj_cells X22.out).1 5 _ rfl
  have v6 := (obj_cells X22.out).1 6 _ rfl
  have v7 := (obj_cells X22.out).1 7 _ rfl
  have v8 := (obj_cells X22.out).1 8 _ rfl
  have v9 := (obj_cells X22.out).1 9 _ rfl
  have v10 := (obj_cells X22.out).1 10 _ rfl
  have v11 := (obj_cells X22.out).1 11 _ rfl
  have v12 := (obj_cells X22.out).1 12 _ rfl
  have SM2 := Lib.hid (same_zero q4 w22 (R21.out.below B22.out))
  go_wp2_with (first | (go_at_call 7; refine (num_any _ _).mono ?_; rintro e w10 ⟨rfl, rfl⟩) | (go_at_call 9; refine SM2.out.mono ?_; rintro e w23 ⟨rfl, hb⟩; have B23 : Hid (Bl w w23) := Lib.hid (Bl.call (Bl.call B21.out B22.out) hb); clear hb))
  go_ret
  exact ⟨rfl, B23.out⟩
set_option maxRecDepth 100000 in
set_option maxHeartbeats 8000000 in
theorem back_gy (m : Ms) (q : Mq) (s : ByteArray) (w : World) (AW : ∀ W, Bl w W → Calls Tryd.prog 5 #[] W (RetBelow (.returned (.bool true)) W)) (z : ByteArray) (hs0 : 0 < z.size) (hs1 : z.size ≤ 1000000) (P1 : Hid (∀ W, Bl w W → Calls Tryd.prog 6 #[.agg #[.int .i64 m.kd, .int .i64 m.cl, .int .i64 m.rv, .int .i64 m.sq, .int .i64 m.fr, .int .i64 m.ls, .bool m.rf, .slice q.ep m.ed.length q.ec, .slice q.sp m.es.length q.sc, .string m.tx, .int .i64 m.ro, .int .i64 m.nx, .slice q.np m.ns.length q.nc]] W (fun e w' => e = .returned (.tuple #[.string z, .int .i64 0]) ∧ Below W.heap.size W w'))) (G1 : Hid (∀ W, Calls Tryd.prog 8 #[.string z] W (GetI m W))) (G2 : Hid (∀ W, Calls Tryd.prog 8 #[.string (z ++ ⟨#[48]⟩)] W (GetN W))) (G3 : Hid (∀ W, Calls Tryd.prog 8 #[.string (z.extract 0 (z.size - 1))] W (GetN W))) (SMC : Hid (∀ W q2, MsR W m q2 → Bl w W → Calls Tryd.prog 9 #[.agg #[.int .i64 m.kd, .int .i64 m.cl, .int .i64 m.rv, .int .i64 m.sq, .int .i64 m.fr, .int .i64 m.ls, .bool m.rf, .slice q2.ep m.ed.length q2.ec, .slice q2.sp m.es.length q2.sc, .string m.tx, .int .i64 m.ro, .int .i64 m.nx, .slice q2.np m.ns.length q2.nc], .agg #[.int .i64 m.kd, .int .i64 m.cl, .int .i64 m.rv, .int .i64 m.sq, .int .i64 m.fr, .int .i64 m.ls, .bool m.rf, .slice q.ep m.ed.length q.ec, .slice q.sp m.es.length q.sc, .string m.tx, .int .i64 m.ro, .int .i64 m.nx, .slice q.np m.ns.length q.nc]] W (RetBelow (.returned (.bool true)) W))) (MA : Hid (∀ W, Bl w W → Calls Tryd.prog 10 #[.agg #[.int .i64 m.kd, .int .i64 m.cl, .int .i64 m.rv, .int .i64 m.sq, .int .i64 m.fr, .int .i64 m.ls, .bool m.rf, .slice q.ep m.ed.length q.ec, .slice q.sp m.es.length q.sc, .string m.tx, .int .i64 m.ro, .int .i64 m.nx, .slice q.np m.ns.length q.nc]] W (RetBelow (.returned (.bool true)) W))) (c : Ms) (GS : Hid (∀ W, Calls Tryd.prog 8 #[.string s] W (GetI c W))) (PS : Hid (∀ W q4, Bl w W → MsR W c q4 → Calls Tryd.prog 6 #[.agg #[.int .i64 c.kd, .int .i64 c.cl, .int .i64 c.rv, .int .i64 c.sq, .int .i64 c.fr, .int .i64 c.ls, .bool c.rf, .slice q4.ep c.ed.length q4.ec, .slice q4.sp c.es.length q4.sc, .string c.tx, .int .i64 c.ro, .int .i64 c.nx, .slice q4.np c.ns.length q4.nc]] W (fun e w' => e = .returned (.tuple #[.string s, .int .i64 0]) ∧ Below W.heap.size W w'))) : Calls Tryd.prog 3 #[msV m q, .string s] w (RetBelow (.returned (.bool true)) w) := by
  unfold GetI at G1
  unfold GetN at G2 G3
  have hz1 : ¬ (z.size : Int) < 1 := by omega
  have hz2 : (0 : Int) < (z.size : Int) := by omega
  have hk : IntKind.i64.wrap ((z.size : Int) - 1) = ((z.size - 1 : Nat) : Int) := by rw [IntWalk.i64_in _ (by omega)]; omega
  have hk2 : (z.size : Int) - 1 = ((z.size - 1 : Nat) : Int) := by omega
  obtain ⟨k, hkk⟩ : ∃ k, z.size - 1 = k := ⟨_, rfl⟩
  rw [hkk] at G3 hk hk2
  have hk0 : (0 : Int) ≤ (k : Int) := by omega
  have hk1 : (k : Int) ≤ (z.size : Int) := by omega
  have HK := Lib.hid hk; have HK2 := Lib.hid hk2
  clear hkk hk
  unfold GetI at GS
  have AW2 := Lib.hid AW
  clear AW
  unfold msV
  go_enter Tryd.func3, Tryd.ntmps3
  go_upto_region 1 with fail
  have X1 : Hid ((w.alloc (.cells #[.int .i64 m.kd, .int .i64 m.cl, .int .i64 m.rv, .int .i64 m.sq, .int .i64 m.fr, .int .i64 m.ls, .bool m.rf, .slice q.ep m.ed.length q.ec, .slice q.sp m.es.length q.sc, .string m.tx, .int .i64 m.ro, .int .i64 m.nx, .slice q.np m.ns.length q.nc] 28)).heap[w.heap.size]? = some (.cells #[.int .i64 m.kd, .int .i64 m.cl, .int .i64 m.rv, .int .i64 m.sq, .int .i64 m.fr, .int .i64 m.ls, .bool m.rf, .slice q.ep m.ed.length q.ec, .slice q.sp m.es.length q.sc, .string m.tx, .int .i64 m.ro, .int .i64 m.nx, .slice q.np m.ns.length q.nc] 28 (0, 0))) := Lib.hid (heap_alloc_new w _)
  have B1 : Hid (Bl w (w.alloc (.cells #[.int .i64 m.kd, .int .i64 m.cl, .int .i64 m.rv, .int .i64 m.sq, .int .i64 m.fr, .int .i64 m.ls, .bool m.rf, .slice q.ep m.ed.length q.ec, .slice q.sp m.es.length q.sc, .string m.tx, .int .i64 m.ro, .int .i64 m.nx, .slice q.np m.ns.length q.nc] 28))) := Lib.hid (Bl.alloc (Bl.refl w) _)
  generalize w.alloc (.cells #[.int .i64 m.kd, .int .i64 m.cl, .int .i64 m.rv, .int .i64 m.sq, .int .i64 m.fr, .int .i64 m.ls, .bool m.rf, .slice q.ep m.ed.length q.ec, .slice q.sp m.es.length q.sc, .string m.tx, .int .i64 m.ro, .int .i64 m.nx, .slice q.np m.ns.length q.nc] 28) = w1 at X1 B1 ⊢
  obtain ⟨b1, hb1⟩ : ∃ b, w.heap.size = b := ⟨_, rfl⟩
  rw [hb1] at X1 ⊢
  clear hb1
  go_upto_region 3 with (go_at_call 5; refine (AW2.out _ B1.out).mono ?_; rintro e w2 ⟨rfl, hb⟩; have B2 : Hid (Bl w w2) := Lib.hid (Bl.call B1.out hb); have X2 := Lib.hid (heap_later X1.out hb); clear hb)
  have a0 := (obj_cells X2.out).1 0 _ rfl
  have a1 := (obj_cells X2.out).1 1 _ rfl
  have a2 := (obj_cells X2.out).1 2 _ rfl
  have a3 := (obj_cells X2.out).1 3 _ rfl
  have a4 := (obj_cells X2.out).1 4 _ rfl
  have a5 := (obj_cells X2.out).1 5 _ rfl
  have a6 := (obj_cells X2.out).1 6 _ rfl
  have a7 := (obj_cells X2.out).1 7 _ rfl
  have a8 := (obj_cells X2.out).1 8 _ rfl
  have a9 := (obj_cells X2.out).1 9 _ rfl
  have a10 := (obj_cells X2.out).1 10 _ rfl
  have a11 := (obj_cells X2.out).1 11 _ rfl
  have a12 := (obj_cells X2.out).1 12 _ rfl
  go_upto_region 5 with (first | (go_at_call 6; refine (P1.out _ B2.out).mono ?_; rintro e w3 ⟨rfl, hb⟩; have B3 : Hid (Bl w w3) := Lib.hid (Bl.call B2.out hb); have X3 := Lib.hid (heap_later X2.out hb); clear hb) | (go_at_call 7; refine (num_any _ _).mono ?_; rintro e w4 ⟨rfl, rfl⟩))
  clear a0 a1 a2 a3 a4 a5 a6 a7 a8 a9 a10 a11 a12
  go_upto_region 6 with (go_at_call 8; refine (G1.out _).mono ?_; rintro e w5 ⟨q2, rfl, h1, hb⟩; have R5 := Lib.hid h1; have B35 : Hid (Bl w3 w5) := Lib.hid hb; clear h1 hb)
  have X6 : Hid ((w5.alloc (.cells #[.int .i64 m.kd, .int .i64 m.cl, .int .i64 m.rv, .int .i64 m.sq, .int .i64 m.fr, .int .i64 m.ls, .bool m.rf, .slice q2.ep m.ed.length q2.ec, .slice q2.sp m.es.length q2.sc, .string m.tx, .int .i64 m.ro, .int .i64 m.nx, .slice q2.np m.ns.length q2.nc] 28)).heap[w5.heap.size]? = some (.cells #[.int .i64 m.kd, .int .i64 m.cl, .int .i64 m.rv, .int .i64 m.sq, .int .i64 m.fr, .int .i64 m.ls, .bool m.rf, .slice q2.ep m.ed.length q2.ec, .slice q2.sp m.es.length q2.sc, .string m.tx, .int .i64 m.ro, .int .i64 m.nx, .slice q2.np m.ns.length q2.nc] 28 (0, 0))) := Lib.hid (heap_alloc_new w5 _)
  have B56 : Hid (Bl w5 (w5.alloc (.cells #[.int .i64 m.kd, .int .i64 m.cl, .int .i64 m.rv, .int .i64 m.sq, .int .i64 m.fr, .int .i64 m.ls, .bool m.rf, .slice q2.ep m.ed.length q2.ec, .slice q2.sp m.es.length q2.sc, .string m.tx, .int .i64 m.ro, .int .i64 m.nx, .slice q2.np m.ns.length q2.nc] 28))) := Lib.hid (Bl.alloc (Bl.refl w5) _)
  generalize w5.alloc (.cells #[.int .i64 m.kd, .int .i64 m.cl, .int .i64 m.rv, .int .i64 m.sq, .int .i64 m.fr, .int .i64 m.ls, .bool m.rf, .slice q2.ep m.ed.length q2.ec, .slice q2.sp m.es.length q2.sc, .string m.tx, .int .i64 m.ro, .int .i64 m.nx, .slice q2.np m.ns.length q2.nc] 28) = w6 at X6 B56 ⊢
  obtain ⟨b2, hb2⟩ : ∃ b, w5.heap.size = b := ⟨_, rfl⟩
  rw [hb2] at X6 ⊢
  clear hb2
  have B36 : Hid (Bl w3 w6) := Lib.hid (Bl.call B35.out B56.out)
  have B06 : Hid (Bl w w6) := Lib.hid (Bl.call B3.out B36.out)
  have X16 := Lib.hid (heap_later X3.out B36.out)
  have a0 := (obj_cells X16.out).1 0 _ rfl
  have a1 := (obj_cells X16.out).1 1 _ rfl
  have a2 := (obj_cells X16.out).1 2 _ rfl
  have a3 := (obj_cells X16.out).1 3 _ rfl
  have a4 := (obj_cells X16.out).1 4 _ rfl
  have a5 := (obj_cells X16.out).1 5 _ rfl
  have a6 := (obj_cells X16.out).1 6 _ rfl
  have a7 := (obj_cells X16.out).1 7 _ rfl
  have a8 := (obj_cells X16.out).1 8 _ rfl
  have a9 := (obj_cells X16.out).1 9 _ rfl
  have a10 := (obj_cells X16.out).1 10 _ rfl
  have a11 := (obj_cells X16.out).1 11 _ rfl
  have a12 := (obj_cells X16.out).1 12 _ rfl
  have y0 := (obj_cells X6.out).1 0 _ rfl
  have y1 := (obj_cells X6.out).1 1 _ rfl
  have y2 := (obj_cells X6.out).1 2 _ rfl
  have y3 := (obj_cells X6.out).1 3 _ rfl
  have y4 := (obj_cells X6.out).1 4 _ rfl
  have y5 := (obj_cells X6.out).1 5 _ rfl
  have y6 := (obj_cells X6.out).1 6 _ rfl
  have y7 := (obj_cells X6.out).1 7 _ rfl
  have y8 := (obj_cells X6.out).1 8 _ rfl
  have y9 := (obj_cells X6.out).1 9 _ rfl
  have y10 := (obj_cells X6.out).1 10 _ rfl
  have y11 := (obj_cells X6.out).1 11 _ rfl
  have y12 := (obj_cells X6.out).1 12 _ rfl
  have SM : Hid (Calls Tryd.prog 9 #[.agg #[.int .i64 m.kd, .int .i64 m.cl, .int .i64 m.rv, .int .i64 m.sq, .int .i64 m.fr, .int .i64 m.ls, .bool m.rf, .slice q2.ep m.ed.length q2.ec, .slice q2.sp m.es.length q2.sc, .string m.tx, .int .i64 m.ro, .int .i64 m.nx, .slice q2.np m.ns.length q2.nc], .agg #[.int .i64 m.kd, .int .i64 m.cl, .int .i64 m.rv, .int .i64 m.sq, .int .i64 m.fr, .int .i64 m.ls, .bool m.rf, .slice q.ep m.ed.length q.ec, .slice q.sp m.es.length q.sc, .string m.tx, .int .i64 m.ro, .int .i64 m.nx, .slice q.np m.ns.length q.nc]] w6 (RetBelow (.returned (.bool true)) w6)) := Lib.hid (SMC.out w6 q2 (R5.out.below B56.out) B06.out)
  go_upto_region 8 with (first | (go_at_call 7; refine (num_any _ _).mono ?_; rintro e w10 ⟨rfl, rfl⟩) | (go_at_call 9; refine SM.out.mono ?_; rintro e w7 ⟨rfl, hb⟩; have B7 : Hid (Bl w w7) := Lib.hid (Bl.call B06.out hb); have X7 := Lib.hid (heap_later X16.out hb); have p0 := (obj_cells X7.out).1 0 _ rfl; have p1 := (obj_cells X7.out).1 1 _ rfl; have p2 := (obj_cells X7.out).1 2 _ rfl; have p3 := (obj_cells X7.out).1 3 _ rfl; have p4 := (obj_cells X7.out).1 4 _ rfl; have p5 := (obj_cells X7.out).1 5 _ rfl; have p6 := (obj_cells X7.out).1 6 _ rfl; have p7 := (obj_cells X7.out).1 7 _ rfl; have p8 := (obj_cells X7.out).1 8 _ rfl; have p9 := (obj_cells X7.out).1 9 _ rfl; have p10 := (obj_cells X7.out).1 10 _ rfl; have p11 := (obj_cells X7.out).1 11 _ rfl; have p12 := (obj_cells X7.out).1 12 _ rfl; clear hb) | (go_at_call 10; refine (MA.out _ B7.out).mono ?_; rintro e w8 ⟨rfl, hb⟩; have B8 : Hid (Bl w w8) := Lib.hid (Bl.call B7.out hb); clear hb))
  clear a0 a1 a2 a3 a4 a5 a6 a7 a8 a9 a10 a11 a12 y0 y1 y2 y3 y4 y5 y6 y7 y8 y9 y10 y11 y12 p0 p1 p2 p3 p4 p5 p6 p7 p8 p9 p10 p11 p12
  go_upto_region 9 with (go_at_call 8; refine (G2.out _).mono ?_; rintro e w9 ⟨q2, rfl, h1, hb⟩; have B9 : Hid (Bl w w9) := Lib.hid (Bl.call B8.out hb); clear h1 hb)
  have B10 : Hid (Bl w (w9.alloc (.cells #[.int .i64 0, .int .i64 0, .int .i64 0, .int .i64 0, .int .i64 0, .int .i64 0, .bool false, .slice q2.ep 0 q2.ec, .slice q2.sp 0 q2.sc, .string ⟨#[]⟩, .int .i64 0, .int .i64 0, .slice q2.np 0 q2.nc] 28))) := Lib.hid (Bl.alloc B9.out _)
  generalize w9.alloc (.cells #[.int .i64 0, .int .i64 0, .int .i64 0, .int .i64 0, .int .i64 0, .int .i64 0, .bool false, .slice q2.ep 0 q2.ec, .slice q2.sp 0 q2.sc, .string ⟨#[]⟩, .int .i64 0, .int .i64 0, .slice q2.np 0 q2.nc] 28) = w10 at B10 ⊢
  go_upto_region 12 with (go_at_call 8; refine (G3.out _).mono ?_; rintro e w11 ⟨q3, rfl, h1, hb⟩; have B11 : Hid (Bl w w11) := Lib.hid (Bl.call B10.out hb); clear h1 hb)
  have B12 : Hid (Bl w (w11.alloc (.cells #[.int .i64 0, .int .i64 0, .int .i64 0, .int .i64 0, .int .i64 0, .int .i64 0, .bool false, .slice q3.ep 0 q3.ec, .slice q3.sp 0 q3.sc, .string ⟨#[]⟩, .int .i64 0, .int .i64 0, .slice q3.np 0 q3.nc] 28))) := Lib.hid (Bl.alloc B11.out _)
  generalize w11.alloc (.cells #[.int .i64 0, .int .i64 0, .int .i64 0, .int .i64 0, .int .i64 0, .int .i64 0, .bool false, .slice q3.ep 0 q3.ec, .slice q3.sp 0 q3.sc, .string ⟨#[]⟩, .int .i64 0, .int .i64 0, .slice q3.np 0 q3.nc] 28) = w12 at B12 ⊢
  go_upto_region 15 with (first | (go_at_call 7; refine (num_any _ _).mono ?_; rintro e w10 ⟨rfl, rfl⟩))
  go_upto_region 16 with (go_at_call 8; refine (GS.out _).mono ?_; rintro e w21 ⟨q4, rfl, h1, hb⟩; have R21 := Lib.hid h1; have B21 : Hid (Bl w w21) := Lib.hid (Bl.call B12.out hb); clear h1 hb)
  have X22 : Hid ((w21.alloc (.cells #[.int .i64 c.kd, .int .i64 c.cl, .int .i64 c.rv, .int .i64 c.sq, .int .i64 c.fr, .int .i64 c.ls, .bool c.rf, .slice q4.ep c.ed.length q4.ec, .slice q4.sp c.es.length q4.sc, .string c.tx, .int .i64 c.ro, .int .i64 c.nx, .slice q4.np c.ns.length q4.nc] 28)).heap[w21.heap.size]? = some (.cells #[.int .i64 c.kd, .int .i64 c.cl, .int .i64 c.rv, .int .i64 c.sq, .int .i64 c.fr, .int .i64 c.ls, .bool c.rf, .slice q4.ep c.ed.length q4.ec, .slice q4.sp c.es.length q4.sc, .string c.tx, .int .i64 c.ro, .int .i64 c.nx, .slice q4.np c.ns.length q4.nc] 28 (0, 0))) := Lib.hid (heap_alloc_new w21 _)
  have B22 : Hid (Bl w21 (w21.alloc (.cells #[.int .i64 c.kd, .int .i64 c.cl, .int .i64 c.rv, .int .i64 c.sq, .int .i64 c.fr, .int .i64 c.ls, .bool c.rf, .slice q4.ep c.ed.length q4.ec, .slice q4.sp c.es.length q4.sc, .string c.tx, .int .i64 c.ro, .int .i64 c.nx, .slice q4.np c.ns.length q4.nc] 28))) := Lib.hid (Bl.alloc (Bl.refl w21) _)
  generalize w21.alloc (.cells #[.int .i64 c.kd, .int .i64 c.cl, .int .i64 c.rv, .int .i64 c.sq, .int .i64 c.fr, .int .i64 c.ls, .bool c.rf, .slice q4.ep c.ed.length q4.ec, .slice q4.sp c.es.length q4.sc, .string c.tx, .int .i64 c.ro, .int .i64 c.nx, .slice q4.np c.ns.length q4.nc] 28) = w22 at X22 B22 ⊢
  obtain ⟨b4, hb4⟩ : ∃ b, w21.heap.size = b := ⟨_, rfl⟩
  rw [hb4] at X22 ⊢
  clear hb4
  have v0 := (obj_cells X22.out).1 0 _ rfl
  have v1 := (obj_cells X22.out).1 1 _ rfl
  have v2 := (obj_cells X22.out).1 2 _ rfl
  have v3 := (obj_cells X22.out).1 3 _ rfl
  have v4 := (obj_cells X22.out).1 4 _ rfl
  have v5 := (obj_cells X22.out).1 5 _ rfl
  have v6 := (obj_cells X22.out).1 6 _ rfl
  have v7 := (obj_cells X22.out).1 7 _ rfl
  have v8 := (obj_cells X22.out).1 8 _ rfl
  have v9 := (obj_cells X22.out).1 9 _ rfl
  have v10 := (obj_cells X22.out).1 10 _ rfl
  have v11 := (obj_cells X22.out).1 11 _ rfl
  have v12 := (obj_cells X22.out).1 12 _ rfl
  go_wp2_with (first | (go_at_call 7; refine (num_any _ _).mono ?_; rintro e w10 ⟨rfl, rfl⟩) | (go_at_call 6; refine (PS.out _ q4 (Bl.call B21.out B22.out) (R21.out.below B22.out)).mono ?_; rintro e w23 ⟨rfl, hb⟩; have B23 : Hid (Bl w w23) := Lib.hid (Bl.call (Bl.call B21.out B22.out) hb); clear hb))
  go_ret
  exact ⟨rfl, B23.out⟩

end Go.Proofs.YtjmfjlffcopnnaaDoor
