/-
  The walk of PackForms' turned, kind by kind (made by tools/genlw.py). Conditions: as each theorem's premises say.
-/
import Derived.Test.YtjmfjlffcopnnaaGreatDoorPF25
import Derived.Test.YtjmfjlffcopnnaaGreatDoorPF19
import Derived.Deep.RegionHeld3
import Derived.OwnWalk
import Derived.Laws.MakeOwn
namespace Go.Proofs.YtjmfjlffcopnnaaGreatDoor
open Go.RowKit
open Go.Proofs.YtjmfjlffcopnnaaGreatDoor.K (C RowC MayP)

set_option maxRecDepth 100000 in
set_option maxHeartbeats 8000000 in
theorem turned_23 (d lo bm be bc bd nc : Nat) (cm : Array Value) (np : Option Addr) (h1 : 1 ≤ d) (h2 : d ≤ 1024) (w : World) (hE : w.heap[be]? = some (.cells #[.int .i64 1, .int .i64 2, .slice (some ⟨bc, 0, none⟩) 1 1, .slice (some ⟨bd, 0, none⟩) 1 1] 54 (0, 0))) (hC : w.heap[bc]? = some (.cells #[.int .i64 0, .int .i64 1, .string ⟨#[]⟩] 48 (0, 0))) (hD : w.heap[bd]? = some (.cells #[.int .i64 0, .int .i64 3, .int .i64 0, .int .i64 0, .int .i64 0, .slice none 0 0] 51 (0, 0))) (hM : w.heap[bm]? = some (.cells cm 28 (0, 0))) (hN : ∀ W, Touch (fun k => k = bm ∨ k = be ∨ k = bd) w W → NodesR W np nodes3) (lE : lo ≤ be) (lD : lo ≤ bd) : Calls Tryz.prog 17 #[.int .i64 23, .int .i64 (d : Int), .agg #[.int .i64 1, .int .i64 1, .int .i64 2, .int .i64 0, .int .i64 0, .int .i64 0, .bool false, .slice none 0 0, .slice (some ⟨be, 0, none⟩) 1 1, .string ⟨#[]⟩, .int .i64 0, .int .i64 0, .slice none 0 0], .agg #[.int .i64 2, .int .i64 1, .int .i64 2, .int .i64 0, .int .i64 1, .int .i64 4, .bool true, .slice none 0 0, .slice none 0 0, .string ⟨#[91, 49, 93]⟩, .int .i64 0, .int .i64 3, .slice np 3 nc]] w (TurnP lo bm w) := by
  have M0 := Lib.hid hM
  have E0 := Lib.hid hE; have C0 := Lib.hid hC; have D0 := Lib.hid hD; have N0 := Lib.hid hN; have LE := Lib.hid lE; have LD := Lib.hid lD
  have le := (Array.getElem?_eq_some_iff.1 hE).1
  have lc := (Array.getElem?_eq_some_iff.1 hC).1
  have ld := (Array.getElem?_eq_some_iff.1 hD).1
  have LT : Hid (be < w.heap.size ∧ bc < w.heap.size ∧ bd < w.heap.size) := Lib.hid ⟨le, lc, ld⟩
  have H12 : Hid (1 ≤ d ∧ d ≤ 1024) := Lib.hid ⟨h1, h2⟩
  clear hE hC hD hM hN lE lD le lc ld
  go_enter Tryz.func17, Tryz.ntmps17
  go_upto_region 2 with fail
  have X6 : Hid (((((w.alloc (.cells #[.int .i64 1, .int .i64 1, .int .i64 2, .int .i64 0, .int .i64 0, .int .i64 0, .bool false, .slice none 0 0, .slice (some ⟨be, 0, none⟩) 1 1, .string ⟨#[]⟩, .int .i64 0, .int .i64 0, .slice none 0 0] 28)).alloc (.cells #[.int .i64 2, .int .i64 1, .int .i64 2, .int .i64 0, .int .i64 1, .int .i64 4, .bool true, .slice none 0 0, .slice none 0 0, .string ⟨#[91, 49, 93]⟩, .int .i64 0, .int .i64 3, .slice np 3 nc] 28)).alloc (.cells #[.int .i64 0, .int .i64 0, .int .i64 0, .int .i64 0, .int .i64 0, .int .i64 0, .bool false, .slice none 0 0, .slice none 0 0, .string ⟨#[]⟩, .int .i64 0, .int .i64 0, .slice none 0 0] 28)).alloc (.cells #[.int .i64 2, .int .i64 1, .int .i64 2, .int .i64 0, .int .i64 1, .int .i64 4, .bool true, .slice none 0 0, .slice none 0 0, .string ⟨#[91, 49, 93]⟩, .int .i64 0, .int .i64 3, .slice np 3 nc] 28)).heap[w.heap.size]? = some (.cells #[.int .i64 1, .int .i64 1, .int .i64 2, .int .i64 0, .int .i64 0, .int .i64 0, .bool false, .slice none 0 0, .slice (some ⟨be, 0, none⟩) 1 1, .string ⟨#[]⟩, .int .i64 0, .int .i64 0, .slice none 0 0] 28 (0, 0))) := Lib.hid (heap_old (heap_old (heap_old (heap_alloc_new w _) _) _) _)
  have X8 : Hid (((((w.alloc (.cells #[.int .i64 1, .int .i64 1, .int .i64 2, .int .i64 0, .int .i64 0, .int .i64 0, .bool false, .slice none 0 0, .slice (some ⟨be, 0, none⟩) 1 1, .string ⟨#[]⟩, .int .i64 0, .int .i64 0, .slice none 0 0] 28)).alloc (.cells #[.int .i64 2, .int .i64 1, .int .i64 2, .int .i64 0, .int .i64 1, .int .i64 4, .bool true, .slice none 0 0, .slice none 0 0, .string ⟨#[91, 49, 93]⟩, .int .i64 0, .int .i64 3, .slice np 3 nc] 28)).alloc (.cells #[.int .i64 0, .int .i64 0, .int .i64 0, .int .i64 0, .int .i64 0, .int .i64 0, .bool false, .slice none 0 0, .slice none 0 0, .string ⟨#[]⟩, .int .i64 0, .int .i64 0, .slice none 0 0] 28)).alloc (.cells #[.int .i64 2, .int .i64 1, .int .i64 2, .int .i64 0, .int .i64 1, .int .i64 4, .bool true, .slice none 0 0, .slice none 0 0, .string ⟨#[91, 49, 93]⟩, .int .i64 0, .int .i64 3, .slice np 3 nc] 28)).heap[w.heap.size + 2]? = some (.cells #[.int .i64 0, .int .i64 0, .int .i64 0, .int .i64 0, .int .i64 0, .int .i64 0, .bool false, .slice none 0 0, .slice none 0 0, .string ⟨#[]⟩, .int .i64 0, .int .i64 0, .slice none 0 0] 28 (0, 0))) := Lib.hid (heap_old (heap_new (by simp) _ _) _)
  have X9 : Hid (((((w.alloc (.cells #[.int .i64 1, .int .i64 1, .int .i64 2, .int .i64 0, .int .i64 0, .int .i64 0, .bool false, .slice none 0 0, .slice (some ⟨be, 0, none⟩) 1 1, .string ⟨#[]⟩, .int .i64 0, .int .i64 0, .slice none 0 0] 28)).alloc (.cells #[.int .i64 2, .int .i64 1, .int .i64 2, .int .i64 0, .int .i64 1, .int .i64 4, .bool true, .slice none 0 0, .slice none 0 0, .string ⟨#[91, 49, 93]⟩, .int .i64 0, .int .i64 3, .slice np 3 nc] 28)).alloc (.cells #[.int .i64 0, .int .i64 0, .int .i64 0, .int .i64 0, .int .i64 0, .int .i64 0, .bool false, .slice none 0 0, .slice none 0 0, .string ⟨#[]⟩, .int .i64 0, .int .i64 0, .slice none 0 0] 28)).alloc (.cells #[.int .i64 2, .int .i64 1, .int .i64 2, .int .i64 0, .int .i64 1, .int .i64 4, .bool true, .slice none 0 0, .slice none 0 0, .string ⟨#[91, 49, 93]⟩, .int .i64 0, .int .i64 3, .slice np 3 nc] 28)).heap[w.heap.size + 3]? = some (.cells #[.int .i64 2, .int .i64 1, .int .i64 2, .int .i64 0, .int .i64 1, .int .i64 4, .bool true, .slice none 0 0, .slice none 0 0, .string ⟨#[91, 49, 93]⟩, .int .i64 0, .int .i64 3, .slice np 3 nc] 28 (0, 0))) := Lib.hid (heap_new (by simp) _ _)
  have T : Hid (Touch (fun _ => False) w ((((w.alloc (.cells #[.int .i64 1, .int .i64 1, .int .i64 2, .int .i64 0, .int .i64 0, .int .i64 0, .bool false, .slice none 0 0, .slice (some ⟨be, 0, none⟩) 1 1, .string ⟨#[]⟩, .int .i64 0, .int .i64 0, .slice none 0 0] 28)).alloc (.cells #[.int .i64 2, .int .i64 1, .int .i64 2, .int .i64 0, .int .i64 1, .int .i64 4, .bool true, .slice none 0 0, .slice none 0 0, .string ⟨#[91, 49, 93]⟩, .int .i64 0, .int .i64 3, .slice np 3 nc] 28)).alloc (.cells #[.int .i64 0, .int .i64 0, .int .i64 0, .int .i64 0, .int .i64 0, .int .i64 0, .bool false, .slice none 0 0, .slice none 0 0, .string ⟨#[]⟩, .int .i64 0, .int .i64 0, .slice none 0 0] 28)).alloc (.cells #[.int .i64 2, .int .i64 1, .int .i64 2, .int .i64 0, .int .i64 1, .int .i64 4, .bool true, .slice none 0 0, .slice none 0 0, .string ⟨#[91, 49, 93]⟩, .int .i64 0, .int .i64 3, .slice np 3 nc] 28))) := Lib.hid (Touch.of_below (Bl.alloc (Bl.alloc (Bl.alloc (Bl.alloc (Bl.refl w) _) _) _) _))
  have BW : Hid (Bl w ((((w.alloc (.cells #[.int .i64 1, .int .i64 1, .int .i64 2, .int .i64 0, .int .i64 0, .int .i64 0, .bool false, .slice none 0 0, .slice (some ⟨be, 0, none⟩) 1 1, .string ⟨#[]⟩, .int .i64 0, .int .i64 0, .slice none 0 0] 28)).alloc (.cells #[.int .i64 2, .int .i64 1, .int .i64 2, .int .i64 0, .int .i64 1, .int .i64 4, .bool true, .slice none 0 0, .slice none 0 0, .string ⟨#[91, 49, 93]⟩, .int .i64 0, .int .i64 3, .slice np 3 nc] 28)).alloc (.cells #[.int .i64 0, .int .i64 0, .int .i64 0, .int .i64 0, .int .i64 0, .int .i64 0, .bool false, .slice none 0 0, .slice none 0 0, .string ⟨#[]⟩, .int .i64 0, .int .i64 0, .slice none 0 0] 28)).alloc (.cells #[.int .i64 2, .int .i64 1, .int .i64 2, .int .i64 0, .int .i64 1, .int .i64 4, .bool true, .slice none 0 0, .slice none 0 0, .string ⟨#[91, 49, 93]⟩, .int .i64 0, .int .i64 3, .slice np 3 nc] 28))) := Lib.hid (Bl.alloc (Bl.alloc (Bl.alloc (Bl.alloc (Bl.refl w) _) _) _) _)
  generalize (((w.alloc (.cells #[.int .i64 1, .int .i64 1, .int .i64 2, .int .i64 0, .int .i64 0, .int .i64 0, .bool false, .slice none 0 0, .slice (some ⟨be, 0, none⟩) 1 1, .string ⟨#[]⟩, .int .i64 0, .int .i64 0, .slice none 0 0] 28)).alloc (.cells #[.int .i64 2, .int .i64 1, .int .i64 2, .int .i64 0, .int .i64 1, .int .i64 4, .bool true, .slice none 0 0, .slice none 0 0, .string ⟨#[91, 49, 93]⟩, .int .i64 0, .int .i64 3, .slice np 3 nc] 28)).alloc (.cells #[.int .i64 0, .int .i64 0, .int .i64 0, .int .i64 0, .int .i64 0, .int .i64 0, .bool false, .slice none 0 0, .slice none 0 0, .string ⟨#[]⟩, .int .i64 0, .int .i64 0, .slice none 0 0] 28)).alloc (.cells #[.int .i64 2, .int .i64 1, .int .i64 2, .int .i64 0, .int .i64 1, .int .i64 4, .bool true, .slice none 0 0, .slice none 0 0, .string ⟨#[91, 49, 93]⟩, .int .i64 0, .int .i64 3, .slice np 3 nc] 28) = u0 at X6 X8 X9 T BW ⊢
  obtain ⟨b9, h9⟩ : ∃ b, w.heap.size + 3 = b := ⟨_, rfl⟩
  rw [h9] at X9
  obtain ⟨b8, h8⟩ : ∃ b, w.heap.size + 2 = b := ⟨_, rfl⟩
  rw [h8] at X8
  obtain ⟨b7, h7⟩ : ∃ b, w.heap.size + 1 = b := ⟨_, rfl⟩
  obtain ⟨b6, h6⟩ : ∃ b, w.heap.size = b := ⟨_, rfl⟩
  rw [h6] at X6
  have NE : Hid (w.heap.size ≤ b9 ∧ w.heap.size ≤ b8 ∧ b8 ≠ b9 ∧ b6 ≠ b9 ∧ w.heap.size ≤ b6 ∧ be ≠ b9 ∧ bd ≠ b9 ∧ bc ≠ b9 ∧ be ≠ b8 ∧ bd ≠ b8 ∧ bc ≠ b8) := Lib.hid (by have := LT.out; omega)
  rw [h9, h8, h7, h6]
  clear h9 h8 h7 h6
  have E := Lib.hid (heap_later E0.out BW.out)
  have C1 := Lib.hid (heap_later C0.out BW.out)
  have D := Lib.hid (heap_later D0.out BW.out)
  go_upto_region 3 with fail
  have y0 := (obj_cells X9.out).1 7 _ rfl
  have yf := (obj_cells X9.out).2.1
  have y1 : (u0.alloc (.cells #[.int .i64 0, .int .i64 1, .string ⟨#[]⟩] 48)).cell? ⟨b9, 7, none⟩ = some (.slice none 0 0) := (obj_cells (heap_old X9.out _)).1 7 _ rfl
  have yg : ∀ j, (u0.alloc (.cells #[.int .i64 0, .int .i64 1, .string ⟨#[]⟩] 48)).frozen? ⟨b9, j, none⟩ = false := (obj_cells (heap_old X9.out _)).2.1
  go_upto_region 30 with fail
  clear y0 yf y1 yg
  have XR : Hid ((u0.alloc (.cells #[.int .i64 0, .int .i64 1, .string ⟨#[]⟩] 48)).heap[u0.heap.size]? = some (.cells #[.int .i64 0, .int .i64 1, .string ⟨#[]⟩] 48 (0, 0))) := Lib.hid (heap_alloc_new u0 _)
  have NN : Hid (u0.heap.size ≠ b9 ∧ u0.heap.size ≠ b8) := Lib.hid ⟨Ne.symm (Nat.ne_of_lt (Array.getElem?_eq_some_iff.1 X9.out).1), Ne.symm (Nat.ne_of_lt (Array.getElem?_eq_some_iff.1 X8.out).1)⟩
  have NS : Hid (w.heap.size ≤ u0.heap.size) := Lib.hid T.out.size
  have X9 := Lib.hid (heap_old X9.out (.cells #[.int .i64 0, .int .i64 1, .string ⟨#[]⟩] 48))
  have X8 := Lib.hid (heap_old X8.out (.cells #[.int .i64 0, .int .i64 1, .string ⟨#[]⟩] 48))
  have E := Lib.hid (heap_old E.out (.cells #[.int .i64 0, .int .i64 1, .string ⟨#[]⟩] 48))
  have D := Lib.hid (heap_old D.out (.cells #[.int .i64 0, .int .i64 1, .string ⟨#[]⟩] 48))
  have C1 := Lib.hid (heap_old C1.out (.cells #[.int .i64 0, .int .i64 1, .string ⟨#[]⟩] 48))
  have T : Hid (Touch (fun _ => False) w (u0.alloc (.cells #[.int .i64 0, .int .i64 1, .string ⟨#[]⟩] 48))) := Lib.hid (T.out.trans (Touch.of_below (Bl.alloc (Bl.refl _) _)))
  generalize hbn : u0.heap.size = bn at XR NN NS ⊢
  clear hbn
  generalize u0.alloc (.cells #[.int .i64 0, .int .i64 1, .string ⟨#[]⟩] 48) = ur at XR X9 X8 E D C1 T ⊢
  have X9n : Hid ((ur.setCell ⟨b9, 7, none⟩ (.slice (some ⟨bn, 0, none⟩) 1 1)).heap[b9]? = some (.cells #[.int .i64 2, .int .i64 1, .int .i64 2, .int .i64 0, .int .i64 1, .int .i64 4, .bool true, .slice (some ⟨bn, 0, none⟩) 1 1, .slice none 0 0, .string ⟨#[91, 49, 93]⟩, .int .i64 0, .int .i64 3, .slice np 3 nc] 28 (0, 0))) := Lib.hid (by rw [heap_setCell_at X9.out]; rfl)
  have X8n : Hid ((ur.setCell ⟨b9, 7, none⟩ (.slice (some ⟨bn, 0, none⟩) 1 1)).heap[b8]? = some (.cells #[.int .i64 0, .int .i64 0, .int .i64 0, .int .i64 0, .int .i64 0, .int .i64 0, .bool false, .slice none 0 0, .slice none 0 0, .string ⟨#[]⟩, .int .i64 0, .int .i64 0, .slice none 0 0] 28 (0, 0))) := Lib.hid (box_kept X8.out (set_grown ur b9 7 (.slice (some ⟨bn, 0, none⟩) 1 1)) NE.out.2.2.1)
  have XRn : Hid ((ur.setCell ⟨b9, 7, none⟩ (.slice (some ⟨bn, 0, none⟩) 1 1)).heap[bn]? = some (.cells #[.int .i64 0, .int .i64 1, .string ⟨#[]⟩] 48 (0, 0))) := Lib.hid (box_kept XR.out (set_grown ur b9 7 (.slice (some ⟨bn, 0, none⟩) 1 1)) NN.out.1)
  have En : Hid ((ur.setCell ⟨b9, 7, none⟩ (.slice (some ⟨bn, 0, none⟩) 1 1)).heap[be]? = some (.cells #[.int .i64 1, .int .i64 2, .slice (some ⟨bc, 0, none⟩) 1 1, .slice (some ⟨bd, 0, none⟩) 1 1] 54 (0, 0))) := Lib.hid (box_kept E.out (set_grown ur b9 7 (.slice (some ⟨bn, 0, none⟩) 1 1)) NE.out.2.2.2.2.2.1)
  have Dn : Hid ((ur.setCell ⟨b9, 7, none⟩ (.slice (some ⟨bn, 0, none⟩) 1 1)).heap[bd]? = some (.cells #[.int .i64 0, .int .i64 3, .int .i64 0, .int .i64 0, .int .i64 0, .slice none 0 0] 51 (0, 0))) := Lib.hid (box_kept D.out (set_grown ur b9 7 (.slice (some ⟨bn, 0, none⟩) 1 1)) NE.out.2.2.2.2.2.2.1)
  have C1n : Hid ((ur.setCell ⟨b9, 7, none⟩ (.slice (some ⟨bn, 0, none⟩) 1 1)).heap[bc]? = some (.cells #[.int .i64 0, .int .i64 1, .string ⟨#[]⟩] 48 (0, 0))) := Lib.hid (box_kept C1.out (set_grown ur b9 7 (.slice (some ⟨bn, 0, none⟩) 1 1)) NE.out.2.2.2.2.2.2.2.1)
  have Tn : Hid (Touch (fun _ => False) w (ur.setCell ⟨b9, 7, none⟩ (.slice (some ⟨bn, 0, none⟩) 1 1))) := Lib.hid (T.out.new (set_grown ur b9 7 (.slice (some ⟨bn, 0, none⟩) 1 1)) NE.out.1)
  clear X9 X8 XR E D C1 T
  generalize ur.setCell ⟨b9, 7, none⟩ (.slice (some ⟨bn, 0, none⟩) 1 1) = uz at X9n X8n XRn En Dn C1n Tn ⊢
  have X9 := X9n
  have X8 := X8n
  have XR := XRn
  have E := En
  have D := Dn
  have C1 := C1n
  have T := Tn
  clear X9n X8n XRn En Dn C1n Tn
  have y0 := (obj_cells X9.out).1 0 _ rfl
  have y1 := (obj_cells X9.out).1 1 _ rfl
  have y2 := (obj_cells X9.out).1 2 _ rfl
  have y3 := (obj_cells X9.out).1 3 _ rfl
  have y4 := (obj_cells X9.out).1 4 _ rfl
  have y5 := (obj_cells X9.out).1 5 _ rfl
  have y6 := (obj_cells X9.out).1 6 _ rfl
  have y7 := (obj_cells X9.out).1 7 _ rfl
  have y8 := (obj_cells X9.out).1 8 _ rfl
  have y9 := (obj_cells X9.out).1 9 _ rfl
  have y10 := (obj_cells X9.out).1 10 _ rfl
  have y11 := (obj_cells X9.out).1 11 _ rfl
  have y12 := (obj_cells X9.out).1 12 _ rfl
  have yf := (obj_cells X9.out).2.1
  have a0 := (obj_cells X8.out).1 0 _ rfl
  have a1 := (obj_cells X8.out).1 1 _ rfl
  have a2 := (obj_cells X8.out).1 2 _ rfl
  have a3 := (obj_cells X8.out).1 3 _ rfl
  have a4 := (obj_cells X8.out).1 4 _ rfl
  have a5 := (obj_cells X8.out).1 5 _ rfl
  have a6 := (obj_cells X8.out).1 6 _ rfl
  have a7 := (obj_cells X8.out).1 7 _ rfl
  have a8 := (obj_cells X8.out).1 8 _ rfl
  have a9 := (obj_cells X8.out).1 9 _ rfl
  have a10 := (obj_cells X8.out).1 10 _ rfl
  have a11 := (obj_cells X8.out).1 11 _ rfl
  have a12 := (obj_cells X8.out).1 12 _ rfl
  have af := (obj_cells X8.out).2.1
  go_wp2_with fail
  refine bodyPost_ret (v := .agg #[.int .i64 2, .int .i64 1, .int .i64 2, .int .i64 0, .int .i64 1, .int .i64 4, .bool true, .slice (some ⟨bn, 0, none⟩) 1 1, .slice none 0 0, .string ⟨#[91, 49, 93]⟩, .int .i64 0, .int .i64 3, .slice np 3 nc]) (by rw [results_cell1 rfl]; go_simp) rfl ?_
  have TF := T.out.new (setAll_one uz b8 0 [.int .i64 2, .int .i64 1, .int .i64 2, .int .i64 0, .int .i64 1, .int .i64 4, .bool true, .slice (some ⟨bn, 0, none⟩) 1 1, .slice none 0 0, .string ⟨#[91, 49, 93]⟩, .int .i64 0, .int .i64 3, .slice np 3 nc]) NE.out.2.1
  obtain ⟨k1, k2⟩ := turn_keep0 (lo := lo) TF (Nat.le_trans LE.out (Nat.le_of_lt LT.out.1))
  have MF := k1 bm cm M0.out
  have RF := box_kept XR.out (setAll_one uz b8 0 [.int .i64 2, .int .i64 1, .int .i64 2, .int .i64 0, .int .i64 1, .int .i64 4, .bool true, .slice (some ⟨bn, 0, none⟩) 1 1, .slice none 0 0, .string ⟨#[91, 49, 93]⟩, .int .i64 0, .int .i64 3, .slice np 3 nc]) NN.out.2
  have EQ : msV (turnT d 23) ⟨some ⟨bn, 0, none⟩, 1, none, 0, np, nc⟩ = .agg #[.int .i64 2, .int .i64 1, .int .i64 2, .int .i64 0, .int .i64 1, .int .i64 4, .bool true, .slice (some ⟨bn, 0, none⟩) 1 1, .slice none 0 0, .string ⟨#[91, 49, 93]⟩, .int .i64 0, .int .i64 3, .slice np 3 nc] := by show Value.agg #[.int .i64 2, .int .i64 1, .int .i64 2, .int .i64 0, .int .i64 1, .int .i64 4, .bool true, .slice (some ⟨bn, 0, none⟩) 1 1, .slice none 0 0, .string ⟨#[91, 49, 93]⟩, .int .i64 0, .int .i64 3, .slice np nodes3.length nc] = _; rw [nodes3_len]
  exact ⟨turnT d 23, ⟨some ⟨bn, 0, none⟩, 1, none, 0, np, nc⟩, by rw [EQ], fun W hW => ⟨lit_rowC (box_kept RF hW (type_ne RF MF (by decide))) rfl (Nat.le_of_ble_eq_true rfl), fun i c h => by simp [turnT] at h, N0.out W ((TF.mono (fun _ _ h => h.elim)).trans (Touch.of_grown hW (fun g e => by cases e; exact .inl rfl)))⟩, turnT_z d H12.out.2 23 (by decide) (by decide), turnT_not d H12.out.1 23 (by decide) (by decide), k1, k2⟩

end Go.Proofs.YtjmfjlffcopnnaaGreatDoor
