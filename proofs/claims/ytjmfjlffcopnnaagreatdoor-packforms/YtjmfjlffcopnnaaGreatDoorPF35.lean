/-
  The walk of minuetlaw17's PackForms, under what the program must answer (made by tools/genlw.py). Conditions: as each theorem's premises say.
-/
import Derived.Test.YtjmfjlffcopnnaaGreatDoorPF26
import Derived.Test.YtjmfjlffcopnnaaGreatDoorPF27
import Derived.Test.YtjmfjlffcopnnaaGreatDoorPF28
import Derived.Test.YtjmfjlffcopnnaaGreatDoorPF29
import Derived.Test.YtjmfjlffcopnnaaGreatDoorPF30
import Derived.Test.YtjmfjlffcopnnaaGreatDoorPF31
import Derived.Test.YtjmfjlffcopnnaaGreatDoorPF32
import Derived.Test.YtjmfjlffcopnnaaGreatDoorPF33
import Derived.Test.YtjmfjlffcopnnaaGreatDoorPF34
import Derived.Test.YtjmfjlffcopnnaaGreatDoorPF19
import Derived.Deep.RegionHeld3
namespace Go.Proofs.YtjmfjlffcopnnaaGreatDoor
open Go.RowKit
open Go.Proofs.YtjmfjlffcopnnaaGreatDoor.K (C RowC MayP)

theorem turned_any (k : Nat) (hk : 12 < k) (hk2 : k < 24) (d lo bm be bc bd nc : Nat) (cm : Array Value) (np : Option Addr) (h1 : 1 ≤ d) (h2 : d ≤ 1024) (w : World) (hE : w.heap[be]? = some (.cells #[.int .i64 1, .int .i64 2, .slice (some ⟨bc, 0, none⟩) 1 1, .slice (some ⟨bd, 0, none⟩) 1 1] 54 (0, 0))) (hC : w.heap[bc]? = some (.cells #[.int .i64 0, .int .i64 1, .string ⟨#[]⟩] 48 (0, 0))) (hD : w.heap[bd]? = some (.cells #[.int .i64 0, .int .i64 3, .int .i64 0, .int .i64 0, .int .i64 0, .slice none 0 0] 51 (0, 0))) (hM : w.heap[bm]? = some (.cells cm 28 (0, 0))) (hN : ∀ W, Touch (fun k => k = bm ∨ k = be ∨ k = bd) w W → NodesR W np nodes3) (lE : lo ≤ be) (lD : lo ≤ bd) : Calls Tryz.prog 17 #[.int .i64 (k : Int), .int .i64 (d : Int), .agg #[.int .i64 1, .int .i64 1, .int .i64 2, .int .i64 0, .int .i64 0, .int .i64 0, .bool false, .slice none 0 0, .slice (some ⟨be, 0, none⟩) 1 1, .string ⟨#[]⟩, .int .i64 0, .int .i64 0, .slice none 0 0], .agg #[.int .i64 2, .int .i64 1, .int .i64 2, .int .i64 0, .int .i64 1, .int .i64 4, .bool true, .slice none 0 0, .slice none 0 0, .string ⟨#[91, 49, 93]⟩, .int .i64 0, .int .i64 3, .slice np 3 nc]] w (TurnP lo bm w) := by
  rcases (by omega : k = 13 ∨ k = 14 ∨ k = 15 ∨ k = 16 ∨ k = 17 ∨ k = 18 ∨ k = 19 ∨ k = 20 ∨ k = 21 ∨ k = 22 ∨ k = 23) with rfl | rfl | rfl | rfl | rfl | rfl | rfl | rfl | rfl | rfl | rfl
  · exact turned_13 d lo bm be bc bd nc cm np h1 h2 w hE hC hD hM hN lE lD
  · exact turned_14 d lo bm be bc bd nc cm np h1 h2 w hE hC hD hM hN lE lD
  · exact turned_15 d lo bm be bc bd nc cm np h1 h2 w hE hC hD hM hN lE lD
  · exact turned_16 d lo bm be bc bd nc cm np h1 h2 w hE hC hD hM hN lE lD
  · exact turned_17 d lo bm be bc bd nc cm np h1 h2 w hE hC hD hM hN lE lD
  · exact turned_18 d lo bm be bc bd nc cm np h1 h2 w hE hC hD hM hN lE lD
  · exact turned_19 d lo bm be bc bd nc cm np h1 h2 w hE hC hD hM hN lE lD
  · exact turned_20 d lo bm be bc bd nc cm np h1 h2 w hE hC hD hM hN lE lD
  · exact turned_21 d lo bm be bc bd nc cm np h1 h2 w hE hC hD hM hN lE lD
  · exact turned_22 d lo bm be bc bd nc cm np h1 h2 w hE hC hD hM hN lE lD
  · exact turned_23 d lo bm be bc bd nc cm np h1 h2 w hE hC hD hM hN lE lD
/-- A message that may not be, in its box. -/
def FQ (w : World) (b : Nat) (wx : World) : Prop := ∃ m q, wx.heap[b]? = some (.cells #[.int .i64 m.kd, .int .i64 m.cl, .int .i64 m.rv, .int .i64 m.sq, .int .i64 m.fr, .int .i64 m.ls, .bool m.rf, .slice q.ep m.ed.length q.ec, .slice q.sp m.es.length q.sc, .string m.tx, .int .i64 m.ro, .int .i64 m.nx, .slice q.np m.ns.length q.nc] 28 (0, 0)) ∧ MsR wx m q ∧ MsZ m ∧ ¬ MsMay m ∧ Bl w wx

open Classical in
set_option maxRecDepth 100000 in
set_option maxHeartbeats 8000000 in
theorem forms_true (PP : PutPr) (MP : MayPr) (which x : Int) (w : World) (TB : Tb w) (AW : ∀ W, Bl w W → Calls Tryz.prog 15 #[] W (RetBelow (.returned (.bool true)) W)) : Calls Tryz.prog 4 #[.int .i64 which, .int .i64 x] w (RetBelow (.returned (.bool true)) w) := by
  have AW2 := Lib.hid AW
  have PAR : Hid (∀ W, Calls Tryz.prog 16 #[.string ⟨#[91, 49, 93]⟩] W (fun e w' => ∃ np nc, e = .returned (.tuple #[.agg #[.int .i64 0, .int .i64 3, .slice np 3 nc], .int .i64 0]) ∧ NodesR w' np nodes3 ∧ Bl W w')) := Lib.hid (fun W => (parse_yes ⟨#[91, 49, 93]⟩ W (by decide)).mono (fun e w' h => by
    obtain ⟨p, cap, vs, h1, h2, h3⟩ := h
    have e3 : (parN (⟨#[91, 49, 93]⟩ : ByteArray).data.toList).length = 3 := nodes3_len
    rw [e3] at h1 h2
    exact ⟨p, cap, h1, h2.read, h3⟩))
  have MY1 : Hid (∀ W pc, RowC W (some ⟨pc, 0, none⟩) [c1] → Calls Tryz.prog 12 #[.agg #[.int .i64 0, .int .i64 1, .int .i64 2, .int .i64 3, .int .i64 0, .int .i64 0, .bool false, .slice (some ⟨pc, 0, none⟩) 1 1, .slice none 0 0, .string ⟨#[]⟩, .int .i64 0, .int .i64 0, .slice none 0 0]] W (RetBelow (.returned (.bool true)) W)) := Lib.hid (fun W pc h => by
    have := MP mPoll ⟨some ⟨pc, 0, none⟩, 1, none, 0, none, 0⟩ W mPoll_z ⟨h, fun i c h => by simp [mPoll] at h, fun i c h => by simp [mPoll] at h⟩
    rw [decide_eq_true mPoll_may] at this
    exact this)
  have MY2 : Hid (∀ W be, EntsR W (some ⟨be, 0, none⟩) [eOne] → Calls Tryz.prog 12 #[.agg #[.int .i64 1, .int .i64 1, .int .i64 2, .int .i64 0, .int .i64 0, .int .i64 0, .bool false, .slice none 0 0, .slice (some ⟨be, 0, none⟩) 1 1, .string ⟨#[]⟩, .int .i64 0, .int .i64 0, .slice none 0 0]] W (RetBelow (.returned (.bool true)) W)) := Lib.hid (fun W be h => by
    have := MP mEs ⟨none, 0, some ⟨be, 0, none⟩, 1, none, 0⟩ W mEs_z ⟨fun i c h => by simp [mEs] at h, h, fun i c h => by simp [mEs] at h⟩
    rw [decide_eq_true mEs_may] at this
    exact this)
  have MY3 : Hid (∀ W np nc, NodesR W np nodes3 → Calls Tryz.prog 12 #[.agg #[.int .i64 2, .int .i64 1, .int .i64 2, .int .i64 0, .int .i64 1, .int .i64 4, .bool true, .slice none 0 0, .slice none 0 0, .string ⟨#[91, 49, 93]⟩, .int .i64 0, .int .i64 3, .slice np 3 nc]] W (RetBelow (.returned (.bool true)) W)) := Lib.hid (fun W np nc h => by
    have := MP mSnap ⟨none, 0, none, 0, np, nc⟩ W mSnap_z ⟨fun i c h => by simp [mSnap] at h, fun i c h => by simp [mSnap] at h, h⟩
    rw [decide_eq_true mSnap_may] at this
    have EQ : msV mSnap ⟨none, 0, none, 0, np, nc⟩ = .agg #[.int .i64 2, .int .i64 1, .int .i64 2, .int .i64 0, .int .i64 1, .int .i64 4, .bool true, .slice none 0 0, .slice none 0 0, .string ⟨#[91, 49, 93]⟩, .int .i64 0, .int .i64 3, .slice np 3 nc] := by show Value.agg #[.int .i64 2, .int .i64 1, .int .i64 2, .int .i64 0, .int .i64 1, .int .i64 4, .bool true, .slice none 0 0, .slice none 0 0, .string ⟨#[91, 49, 93]⟩, .int .i64 0, .int .i64 3, .slice np nodes3.length nc] = _; rw [nodes3_len]
    rw [EQ] at this
    exact this)
  have PN : Hid (∀ m q W, Bl w W → MsZ m → MsR W m q → ¬ MsMay m → Calls Tryz.prog 6 #[.agg #[.int .i64 m.kd, .int .i64 m.cl, .int .i64 m.rv, .int .i64 m.sq, .int .i64 m.fr, .int .i64 m.ls, .bool m.rf, .slice q.ep m.ed.length q.ec, .slice q.sp m.es.length q.sc, .string m.tx, .int .i64 m.ro, .int .i64 m.nx, .slice q.np m.ns.length q.nc]] W (fun e w' => e = .returned (.tuple #[.string ⟨#[]⟩, .int .i64 1700]) ∧ Below W.heap.size W w')) := Lib.hid (fun m q W hW hz hr hn => by
    have := PP m q W (Tb.bl TB hW) hz hr
    unfold PutD at this
    rw [(put_not (fun h => hn h.1)).1, (put_not (fun h => hn h.1)).2] at this
    exact this)
  have MN : Hid (∀ m q W, MsZ m → MsR W m q → ¬ MsMay m → Calls Tryz.prog 12 #[.agg #[.int .i64 m.kd, .int .i64 m.cl, .int .i64 m.rv, .int .i64 m.sq, .int .i64 m.fr, .int .i64 m.ls, .bool m.rf, .slice q.ep m.ed.length q.ec, .slice q.sp m.es.length q.sc, .string m.tx, .int .i64 m.ro, .int .i64 m.nx, .slice q.np m.ns.length q.nc]] W (RetBelow (.returned (.bool false)) W)) := Lib.hid (fun m q W hz hr hn => by
    have := MP m q W hz hr
    rw [decide_eq_false hn] at this
    exact this)
  clear PP MP AW TB
  obtain ⟨n, hn, hx⟩ := and1023 x
  obtain ⟨d, hd⟩ : ∃ d : Nat, n + 1 = d := ⟨_, rfl⟩
  have d1 : 1 ≤ d := by omega
  have d2 : d ≤ 1024 := by omega
  have hd3 : (1 : Int) + (n : Int) = (d : Int) := by omega
  have HD3 := Lib.hid hd3
  clear hd3 hd
  go_enter Tryz.func4, Tryz.ntmps4
  go_upto_region 4 with (go_at_call 15; refine (AW2.out _ (Bl.refl w)).mono ?_; rintro e w1 ⟨rfl, hb⟩; have B1 : Hid (Bl w w1) := Lib.hid hb; clear hb)
  rw [HD3.out]
  clear hn hx HD3
  go_upto_region 5 with (go_at_call 16; refine (PAR.out _).mono ?_; rintro e w2 ⟨np, nc, rfl, hN, hb⟩; have N2 := Lib.hid hN; have B2 : Hid (Bl w w2) := Lib.hid (Bl.call B1.out hb); clear hN hb)
  have XT : Hid ((w2.alloc (.cells #[.int .i64 0, .int .i64 3, .slice np 3 nc] 26)).heap[w2.heap.size]? = some (.cells #[.int .i64 0, .int .i64 3, .slice np 3 nc] 26 (0, 0))) := Lib.hid (heap_alloc_new w2 _)
  have N3 : Hid (NodesR (w2.alloc (.cells #[.int .i64 0, .int .i64 3, .slice np 3 nc] 26)) np nodes3) := Lib.hid (N2.out.below (Bl.alloc (Bl.refl _) _))
  have B3 : Hid (Bl w (w2.alloc (.cells #[.int .i64 0, .int .i64 3, .slice np 3 nc] 26))) := Lib.hid (Bl.alloc B2.out _)
  generalize w2.alloc (.cells #[.int .i64 0, .int .i64 3, .slice np 3 nc] 26) = w3 at XT N3 B3 ⊢
  obtain ⟨bt, hbt⟩ : ∃ b, w2.heap.size = b := ⟨_, rfl⟩
  rw [hbt] at XT ⊢
  clear hbt N2 B2
  go_upto_region 6 with fail
  have XP : Hid (((w3.alloc (.cells #[.int .i64 0, .int .i64 1, .string ⟨#[]⟩] 48)).alloc (.cells #[.int .i64 0, .int .i64 1, .int .i64 2, .int .i64 3, .int .i64 0, .int .i64 0, .bool false, .slice (some ⟨w3.heap.size, 0, none⟩) 1 1, .slice none 0 0, .string ⟨#[]⟩, .int .i64 0, .int .i64 0, .slice none 0 0] 28)).heap[w3.heap.size]? = some (.cells #[.int .i64 0, .int .i64 1, .string ⟨#[]⟩] 48 (0, 0))) := Lib.hid (heap_old (heap_alloc_new w3 _) _)
  have XQ : Hid (((w3.alloc (.cells #[.int .i64 0, .int .i64 1, .string ⟨#[]⟩] 48)).alloc (.cells #[.int .i64 0, .int .i64 1, .int .i64 2, .int .i64 3, .int .i64 0, .int .i64 0, .bool false, .slice (some ⟨w3.heap.size, 0, none⟩) 1 1, .slice none 0 0, .string ⟨#[]⟩, .int .i64 0, .int .i64 0, .slice none 0 0] 28)).heap[w3.heap.size + 1]? = some (.cells #[.int .i64 0, .int .i64 1, .int .i64 2, .int .i64 3, .int .i64 0, .int .i64 0, .bool false, .slice (some ⟨w3.heap.size, 0, none⟩) 1 1, .slice none 0 0, .string ⟨#[]⟩, .int .i64 0, .int .i64 0, .slice none 0 0] 28 (0, 0))) := Lib.hid (heap_new (by simp) _ _)
  have B34 : Hid (Bl w3 ((w3.alloc (.cells #[.int .i64 0, .int .i64 1, .string ⟨#[]⟩] 48)).alloc (.cells #[.int .i64 0, .int .i64 1, .int .i64 2, .int .i64 3, .int .i64 0, .int .i64 0, .bool false, .slice (some ⟨w3.heap.size, 0, none⟩) 1 1, .slice none 0 0, .string ⟨#[]⟩, .int .i64 0, .int .i64 0, .slice none 0 0] 28))) := Lib.hid (Bl.alloc (Bl.alloc (Bl.refl w3) _) _)
  generalize (w3.alloc (.cells #[.int .i64 0, .int .i64 1, .string ⟨#[]⟩] 48)).alloc (.cells #[.int .i64 0, .int .i64 1, .int .i64 2, .int .i64 3, .int .i64 0, .int .i64 0, .bool false, .slice (some ⟨w3.heap.size, 0, none⟩) 1 1, .slice none 0 0, .string ⟨#[]⟩, .int .i64 0, .int .i64 0, .slice none 0 0] 28) = w4 at XP XQ B34 ⊢
  obtain ⟨bp, hbp⟩ : ∃ b, w3.heap.size + 1 = b := ⟨_, rfl⟩
  rw [hbp] at XQ ⊢
  clear hbp
  have LP : Hid (w.heap.size ≤ w3.heap.size) := Lib.hid B3.out.size
  obtain ⟨pc, hpc⟩ : ∃ b, b = w3.heap.size := ⟨_, rfl⟩
  rw [← hpc] at XP XQ ⊢
  clear hpc
  go_upto_region 7 with fail
  have XC : Hid (((((w4.alloc (.cells #[.int .i64 0, .int .i64 1, .string ⟨#[]⟩] 48)).alloc (.cells #[.int .i64 0, .int .i64 3, .int .i64 0, .int .i64 0, .int .i64 0, .slice none 0 0] 51)).alloc (.cells #[.int .i64 1, .int .i64 2, .slice (some ⟨w4.heap.size, 0, none⟩) 1 1, .slice (some ⟨w4.heap.size + 1, 0, none⟩) 1 1] 54)).alloc (.cells #[.int .i64 1, .int .i64 1, .int .i64 2, .int .i64 0, .int .i64 0, .int .i64 0, .bool false, .slice none 0 0, .slice (some ⟨w4.heap.size + 2, 0, none⟩) 1 1, .string ⟨#[]⟩, .int .i64 0, .int .i64 0, .slice none 0 0] 28)).heap[w4.heap.size]? = some (.cells #[.int .i64 0, .int .i64 1, .string ⟨#[]⟩] 48 (0, 0))) := Lib.hid (heap_old (heap_old (heap_old (heap_alloc_new w4 _) _) _) _)
  have XD : Hid (((((w4.alloc (.cells #[.int .i64 0, .int .i64 1, .string ⟨#[]⟩] 48)).alloc (.cells #[.int .i64 0, .int .i64 3, .int .i64 0, .int .i64 0, .int .i64 0, .slice none 0 0] 51)).alloc (.cells #[.int .i64 1, .int .i64 2, .slice (some ⟨w4.heap.size, 0, none⟩) 1 1, .slice (some ⟨w4.heap.size + 1, 0, none⟩) 1 1] 54)).alloc (.cells #[.int .i64 1, .int .i64 1, .int .i64 2, .int .i64 0, .int .i64 0, .int .i64 0, .bool false, .slice none 0 0, .slice (some ⟨w4.heap.size + 2, 0, none⟩) 1 1, .string ⟨#[]⟩, .int .i64 0, .int .i64 0, .slice none 0 0] 28)).heap[w4.heap.size + 1]? = some (.cells #[.int .i64 0, .int .i64 3, .int .i64 0, .int .i64 0, .int .i64 0, .slice none 0 0] 51 (0, 0))) := Lib.hid (heap_old (heap_old (heap_new (by simp) _ _) _) _)
  have XE : Hid (((((w4.alloc (.cells #[.int .i64 0, .int .i64 1, .string ⟨#[]⟩] 48)).alloc (.cells #[.int .i64 0, .int .i64 3, .int .i64 0, .int .i64 0, .int .i64 0, .slice none 0 0] 51)).alloc (.cells #[.int .i64 1, .int .i64 2, .slice (some ⟨w4.heap.size, 0, none⟩) 1 1, .slice (some ⟨w4.heap.size + 1, 0, none⟩) 1 1] 54)).alloc (.cells #[.int .i64 1, .int .i64 1, .int .i64 2, .int .i64 0, .int .i64 0, .int .i64 0, .bool false, .slice none 0 0, .slice (some ⟨w4.heap.size + 2, 0, none⟩) 1 1, .string ⟨#[]⟩, .int .i64 0, .int .i64 0, .slice none 0 0] 28)).heap[w4.heap.size + 2]? = some (.cells #[.int .i64 1, .int .i64 2, .slice (some ⟨w4.heap.size, 0, none⟩) 1 1, .slice (some ⟨w4.heap.size + 1, 0, none⟩) 1 1] 54 (0, 0))) := Lib.hid (heap_old (heap_new (by simp) _ _) _)
  have XS : Hid (((((w4.alloc (.cells #[.int .i64 0, .int .i64 1, .string ⟨#[]⟩] 48)).alloc (.cells #[.int .i64 0, .int .i64 3, .int .i64 0, .int .i64 0, .int .i64 0, .slice none 0 0] 51)).alloc (.cells #[.int .i64 1, .int .i64 2, .slice (some ⟨w4.heap.size, 0, none⟩) 1 1, .slice (some ⟨w4.heap.size + 1, 0, none⟩) 1 1] 54)).alloc (.cells #[.int .i64 1, .int .i64 1, .int .i64 2, .int .i64 0, .int .i64 0, .int .i64 0, .bool false, .slice none 0 0, .slice (some ⟨w4.heap.size + 2, 0, none⟩) 1 1, .string ⟨#[]⟩, .int .i64 0, .int .i64 0, .slice none 0 0] 28)).heap[w4.heap.size + 3]? = some (.cells #[.int .i64 1, .int .i64 1, .int .i64 2, .int .i64 0, .int .i64 0, .int .i64 0, .bool false, .slice none 0 0, .slice (some ⟨w4.heap.size + 2, 0, none⟩) 1 1, .string ⟨#[]⟩, .int .i64 0, .int .i64 0, .slice none 0 0] 28 (0, 0))) := Lib.hid (heap_new (by simp) _ _)
  have B45 : Hid (Bl w4 ((((w4.alloc (.cells #[.int .i64 0, .int .i64 1, .string ⟨#[]⟩] 48)).alloc (.cells #[.int .i64 0, .int .i64 3, .int .i64 0, .int .i64 0, .int .i64 0, .slice none 0 0] 51)).alloc (.cells #[.int .i64 1, .int .i64 2, .slice (some ⟨w4.heap.size, 0, none⟩) 1 1, .slice (some ⟨w4.heap.size + 1, 0, none⟩) 1 1] 54)).alloc (.cells #[.int .i64 1, .int .i64 1, .int .i64 2, .int .i64 0, .int .i64 0, .int .i64 0, .bool false, .slice none 0 0, .slice (some ⟨w4.heap.size + 2, 0, none⟩) 1 1, .string ⟨#[]⟩, .int .i64 0, .int .i64 0, .slice none 0 0] 28))) := Lib.hid (Bl.alloc (Bl.alloc (Bl.alloc (Bl.alloc (Bl.refl w4) _) _) _) _)
  generalize (((w4.alloc (.cells #[.int .i64 0, .int .i64 1, .string ⟨#[]⟩] 48)).alloc (.cells #[.int .i64 0, .int .i64 3, .int .i64 0, .int .i64 0, .int .i64 0, .slice none 0 0] 51)).alloc (.cells #[.int .i64 1, .int .i64 2, .slice (some ⟨w4.heap.size, 0, none⟩) 1 1, .slice (some ⟨w4.heap.size + 1, 0, none⟩) 1 1] 54)).alloc (.cells #[.int .i64 1, .int .i64 1, .int .i64 2, .int .i64 0, .int .i64 0, .int .i64 0, .bool false, .slice none 0 0, .slice (some ⟨w4.heap.size + 2, 0, none⟩) 1 1, .string ⟨#[]⟩, .int .i64 0, .int .i64 0, .slice none 0 0] 28) = w5 at XC XD XE XS B45 ⊢
  have LB3 : Hid (w3.heap.size ≤ w4.heap.size + 1 ∧ w3.heap.size ≤ w4.heap.size + 2) := Lib.hid (by have h2 := B34.out.size; omega)
  have LB : Hid (w.heap.size ≤ w4.heap.size ∧ w.heap.size ≤ w4.heap.size + 1 ∧ w.heap.size ≤ w4.heap.size + 2) := Lib.hid (by have h1 := B3.out.size; have h2 := B34.out.size; omega)
  obtain ⟨bs, h3⟩ : ∃ b, w4.heap.size + 3 = b := ⟨_, rfl⟩
  rw [h3] at XS ⊢
  clear h3
  obtain ⟨be, h2⟩ : ∃ b, w4.heap.size + 2 = b := ⟨_, rfl⟩
  rw [h2] at XS XE LB LB3 ⊢
  clear h2
  obtain ⟨bd, h1⟩ : ∃ b, w4.heap.size + 1 = b := ⟨_, rfl⟩
  rw [h1] at XE XD LB LB3 ⊢
  clear h1
  obtain ⟨bc, h0⟩ : ∃ b, w4.heap.size = b := ⟨_, rfl⟩
  rw [h0] at XE XC LB ⊢
  clear h0
  have XT5 := Lib.hid (heap_later XT.out (Bl.call B34.out B45.out))
  have t0 := (obj_cells XT5.out).1 0 _ rfl
  have t1 := (obj_cells XT5.out).1 1 _ rfl
  have t2 := (obj_cells XT5.out).1 2 _ rfl
  go_upto_region 8 with fail
  clear t0 t1 t2 XT5
  have X10 : Hid ((w5.alloc (.cells #[.int .i64 2, .int .i64 1, .int .i64 2, .int .i64 0, .int .i64 1, .int .i64 4, .bool true, .slice none 0 0, .slice none 0 0, .string ⟨#[91, 49, 93]⟩, .int .i64 0, .int .i64 3, .slice np 3 nc] 28)).heap[w5.heap.size]? = some (.cells #[.int .i64 2, .int .i64 1, .int .i64 2, .int .i64 0, .int .i64 1, .int .i64 4, .bool true, .slice none 0 0, .slice none 0 0, .string ⟨#[91, 49, 93]⟩, .int .i64 0, .int .i64 3, .slice np 3 nc] 28 (0, 0))) := Lib.hid (heap_alloc_new w5 _)
  have B56 : Hid (Bl w5 (w5.alloc (.cells #[.int .i64 2, .int .i64 1, .int .i64 2, .int .i64 0, .int .i64 1, .int .i64 4, .bool true, .slice none 0 0, .slice none 0 0, .string ⟨#[91, 49, 93]⟩, .int .i64 0, .int .i64 3, .slice np 3 nc] 28))) := Lib.hid (Bl.alloc (Bl.refl w5) _)
  generalize w5.alloc (.cells #[.int .i64 2, .int .i64 1, .int .i64 2, .int .i64 0, .int .i64 1, .int .i64 4, .bool true, .slice none 0 0, .slice none 0 0, .string ⟨#[91, 49, 93]⟩, .int .i64 0, .int .i64 3, .slice np 3 nc] 28) = w6 at X10 B56 ⊢
  obtain ⟨b10, h0⟩ : ∃ b, w5.heap.size = b := ⟨_, rfl⟩
  rw [h0] at X10 ⊢
  clear h0
  have B46 : Hid (Bl w4 w6) := Lib.hid (Bl.call B45.out B56.out)
  have B36 : Hid (Bl w3 w6) := Lib.hid (Bl.call B34.out B46.out)
  have B06 : Hid (Bl w w6) := Lib.hid (Bl.call B3.out B36.out)
  have XP := Lib.hid (heap_later XP.out B46.out)
  have XQ := Lib.hid (heap_later XQ.out B46.out)
  have XC := Lib.hid (heap_later XC.out B56.out)
  have XD := Lib.hid (heap_later XD.out B56.out)
  have XE := Lib.hid (heap_later XE.out B56.out)
  have XS := Lib.hid (heap_later XS.out B56.out)
  have N6 : Hid (NodesR w6 np nodes3) := Lib.hid (N3.out.below B36.out)
  clear XT B3 B34 B45 B56 B46
  have a0 := (obj_cells XQ.out).1 0 _ rfl
  have a1 := (obj_cells XQ.out).1 1 _ rfl
  have a2 := (obj_cells XQ.out).1 2 _ rfl
  have a3 := (obj_cells XQ.out).1 3 _ rfl
  have a4 := (obj_cells XQ.out).1 4 _ rfl
  have a5 := (obj_cells XQ.out).1 5 _ rfl
  have a6 := (obj_cells XQ.out).1 6 _ rfl
  have a7 := (obj_cells XQ.out).1 7 _ rfl
  have a8 := (obj_cells XQ.out).1 8 _ rfl
  have a9 := (obj_cells XQ.out).1 9 _ rfl
  have a10 := (obj_cells XQ.out).1 10 _ rfl
  have a11 := (obj_cells XQ.out).1 11 _ rfl
  have a12 := (obj_cells XQ.out).1 12 _ rfl
  go_wp2_with fail
  refine (MY1.out _ pc (lit_rowC XP.out rfl (Nat.le_of_ble_eq_true rfl))).mono ?_
  rintro e w7 ⟨rfl, hb⟩
  have B67 : Hid (Bl w6 w7) := Lib.hid hb
  have XS7 := Lib.hid (heap_later XS.out hb)
  clear hb a0 a1 a2 a3 a4 a5 a6 a7 a8 a9 a10 a11 a12
  have a0 := (obj_cells XS7.out).1 0 _ rfl
  have a1 := (obj_cells XS7.out).1 1 _ rfl
  have a2 := (obj_cells XS7.out).1 2 _ rfl
  have a3 := (obj_cells XS7.out).1 3 _ rfl
  have a4 := (obj_cells XS7.out).1 4 _ rfl
  have a5 := (obj_cells XS7.out).1 5 _ rfl
  have a6 := (obj_cells XS7.out).1 6 _ rfl
  have a7 := (obj_cells XS7.out).1 7 _ rfl
  have a8 := (obj_cells XS7.out).1 8 _ rfl
  have a9 := (obj_cells XS7.out).1 9 _ rfl
  have a10 := (obj_cells XS7.out).1 10 _ rfl
  have a11 := (obj_cells XS7.out).1 11 _ rfl
  have a12 := (obj_cells XS7.out).1 12 _ rfl
  go_wp2_with fail
  refine (MY2.out _ be (entsR_one (e := eOne) (heap_later XE.out B67.out) (rowC_below (lit_rowC XC.out rfl (Nat.le_of_ble_eq_true rfl)) B67.out) ((stepsR_one (s := ⟨0, 3, 0, 0, 0, []⟩) XD.out (Ly.Row.nil _)).below B67.out))).mono ?_
  rintro e w8 ⟨rfl, hb⟩
  have B68 : Hid (Bl w6 w8) := Lib.hid (Bl.call B67.out hb)
  have X108 := Lib.hid (heap_later X10.out B68.out)
  clear hb XS7 a0 a1 a2 a3 a4 a5 a6 a7 a8 a9 a10 a11 a12
  have a0 := (obj_cells X108.out).1 0 _ rfl
  have a1 := (obj_cells X108.out).1 1 _ rfl
  have a2 := (obj_cells X108.out).1 2 _ rfl
  have a3 := (obj_cells X108.out).1 3 _ rfl
  have a4 := (obj_cells X108.out).1 4 _ rfl
  have a5 := (obj_cells X108.out).1 5 _ rfl
  have a6 := (obj_cells X108.out).1 6 _ rfl
  have a7 := (obj_cells X108.out).1 7 _ rfl
  have a8 := (obj_cells X108.out).1 8 _ rfl
  have a9 := (obj_cells X108.out).1 9 _ rfl
  have a10 := (obj_cells X108.out).1 10 _ rfl
  have a11 := (obj_cells X108.out).1 11 _ rfl
  have a12 := (obj_cells X108.out).1 12 _ rfl
  go_wp2_with fail
  refine (MY3.out _ np nc (N6.out.below B68.out)).mono ?_
  rintro e w9 ⟨rfl, hb⟩
  have B69 : Hid (Bl w6 w9) := Lib.hid (Bl.call B68.out hb)
  have XQ9 := Lib.hid (heap_later XQ.out B69.out)
  clear hb X108 B67 B68 a0 a1 a2 a3 a4 a5 a6 a7 a8 a9 a10 a11 a12
  have a0 := (obj_cells XQ9.out).1 0 _ rfl
  have a1 := (obj_cells XQ9.out).1 1 _ rfl
  have a2 := (obj_cells XQ9.out).1 2 _ rfl
  have a3 := (obj_cells XQ9.out).1 3 _ rfl
  have a4 := (obj_cells XQ9.out).1 4 _ rfl
  have a5 := (obj_cells XQ9.out).1 5 _ rfl
  have a6 := (obj_cells XQ9.out).1 6 _ rfl
  have a7 := (obj_cells XQ9.out).1 7 _ rfl
  have a8 := (obj_cells XQ9.out).1 8 _ rfl
  have a9 := (obj_cells XQ9.out).1 9 _ rfl
  have a10 := (obj_cells XQ9.out).1 10 _ rfl
  have a11 := (obj_cells XQ9.out).1 11 _ rfl
  have a12 := (obj_cells XQ9.out).1 12 _ rfl
  go_upto_region 11 with fail
  have Y : Hid ((w9.alloc (.cells #[.int .i64 0, .int .i64 1, .int .i64 2, .int .i64 3, .int .i64 0, .int .i64 0, .bool false, .slice (some ⟨pc, 0, none⟩) 1 1, .slice none 0 0, .string ⟨#[]⟩, .int .i64 0, .int .i64 0, .slice none 0 0] 28)).heap[w9.heap.size]? = some (.cells #[.int .i64 0, .int .i64 1, .int .i64 2, .int .i64 3, .int .i64 0, .int .i64 0, .bool false, .slice (some ⟨pc, 0, none⟩) 1 1, .slice none 0 0, .string ⟨#[]⟩, .int .i64 0, .int .i64 0, .slice none 0 0] 28 (0, 0))) := Lib.hid (heap_alloc_new w9 _)
  have B6a : Hid (Bl w6 (w9.alloc (.cells #[.int .i64 0, .int .i64 1, .int .i64 2, .int .i64 3, .int .i64 0, .int .i64 0, .bool false, .slice (some ⟨pc, 0, none⟩) 1 1, .slice none 0 0, .string ⟨#[]⟩, .int .i64 0, .int .i64 0, .slice none 0 0] 28))) := Lib.hid (Bl.alloc B69.out _)
  have LY : Hid (w.heap.size ≤ w9.heap.size) := Lib.hid (Nat.le_trans B06.out.size B69.out.size)
  have LY3 : Hid (w3.heap.size ≤ w9.heap.size) := Lib.hid (Nat.le_trans B36.out.size B69.out.size)
  clear XQ9 B69 a0 a1 a2 a3 a4 a5 a6 a7 a8 a9 a10 a11 a12
  generalize w9.alloc (.cells #[.int .i64 0, .int .i64 1, .int .i64 2, .int .i64 3, .int .i64 0, .int .i64 0, .bool false, .slice (some ⟨pc, 0, none⟩) 1 1, .slice none 0 0, .string ⟨#[]⟩, .int .i64 0, .int .i64 0, .slice none 0 0] 28) = wa at Y B6a ⊢
  obtain ⟨bm, h0⟩ : ∃ b, w9.heap.size = b := ⟨_, rfl⟩
  rw [h0] at Y LY LY3 ⊢
  clear h0
  have B3a : Hid (Bl w3 wa) := Lib.hid (Bl.call B36.out B6a.out)
  have XP := Lib.hid (heap_later XP.out B6a.out)
  have XC := Lib.hid (heap_later XC.out B6a.out)
  have XD := Lib.hid (heap_later XD.out B6a.out)
  have XE := Lib.hid (heap_later XE.out B6a.out)
  have XS := Lib.hid (heap_later XS.out B6a.out)
  have X10 := Lib.hid (heap_later X10.out B6a.out)
  have NT : Hid (∀ W, Touch (fun k => k = bm ∨ k = be ∨ k = bd) wa W → NodesR W np nodes3) := Lib.hid (fun W hW => N3.out.below (Below.trans B3a.out (hW.below (fun k h => by have h1 := LB3.out; have h2 := LY3.out; omega) B3a.out.size)))
  have B0a : Hid (Bl w wa) := Lib.hid (Bl.call B06.out B6a.out)
  clear B06 B6a XQ AW2 PAR MY1 MY2 MY3
  obtain ⟨k, hkw, hkl⟩ := place_lt which 24 (by decide) (by decide)
  have hk : (IntKind.u64.wrap which).tmod 24 = (k : Int) := by
    have h1 : 0 ≤ IntKind.u64.wrap which := by
      unfold IntKind.wrap
      simp only [IntKind.signed, Bool.false_and]
      exact Int.emod_nonneg _ (by decide)
    have h2 : 0 ≤ (IntKind.u64.wrap which).tmod 24 := Int.tmod_nonneg _ h1
    have h3 : (IntKind.u64.wrap which).tmod 24 < 24 := Int.tmod_lt_of_pos _ (by omega)
    have h4 : wrap64 ((IntKind.u64.wrap which).tmod 24) = (k : Int) := hkw
    rw [IntWalk.wrap64_in _ (by omega)] at h4
    exact h4
  by_cases hk12 : 12 < k
  · have g12 : (12 : Int) < (k : Int) := by omega
    have gd : decide ((12 : Int) < (k : Int)) = true := decide_eq_true g12
    have a0 := (obj_cells XS.out).1 0 _ rfl
    have a1 := (obj_cells XS.out).1 1 _ rfl
    have a2 := (obj_cells XS.out).1 2 _ rfl
    have a3 := (obj_cells XS.out).1 3 _ rfl
    have a4 := (obj_cells XS.out).1 4 _ rfl
    have a5 := (obj_cells XS.out).1 5 _ rfl
    have a6 := (obj_cells XS.out).1 6 _ rfl
    have a7 := (obj_cells XS.out).1 7 _ rfl
    have a8 := (obj_cells XS.out).1 8 _ rfl
    have a9 := (obj_cells XS.out).1 9 _ rfl
    have a10 := (obj_cells XS.out).1 10 _ rfl
    have a11 := (obj_cells XS.out).1 11 _ rfl
    have a12 := (obj_cells XS.out).1 12 _ rfl
    have x0 := (obj_cells X10.out).1 0 _ rfl
    have x1 := (obj_cells X10.out).1 1 _ rfl
    have x2 := (obj_cells X10.out).1 2 _ rfl
    have x3 := (obj_cells X10.out).1 3 _ rfl
    have x4 := (obj_cells X10.out).1 4 _ rfl
    have x5 := (obj_cells X10.out).1 5 _ rfl
    have x6 := (obj_cells X10.out).1 6 _ rfl
    have x7 := (obj_cells X10.out).1 7 _ rfl
    have x8 := (obj_cells X10.out).1 8 _ rfl
    have x9 := (obj_cells X10.out).1 9 _ rfl
    have x10 := (obj_cells X10.out).1 10 _ rfl
    have x11 := (obj_cells X10.out).1 11 _ rfl
    have x12 := (obj_cells X10.out).1 12 _ rfl
    go_upto_region 12 with fail
    go_upto_region 13 with (go_at_call 17; refine (turned_any k hk12 hkl d w.heap.size bm be bc bd nc _ np d1 d2 wa XE.out XC.out XD.out Y.out NT.out LB.out.2.2 LB.out.2.1).mono ?_; rintro e wb ⟨m, q, rfl, hR, hZ, hM, hkeep, hb⟩; have Yb := Lib.hid (hkeep bm _ Y.out); have RW := Lib.hid hR; have Z := Lib.hid hZ; have M := Lib.hid hM; have Bb : Hid (Bl w wb) := Lib.hid (B0a.out.trans hb); have y0 := (obj_cells Yb.out).1 0 _ rfl; have y1 := (obj_cells Yb.out).1 1 _ rfl; have y2 := (obj_cells Yb.out).1 2 _ rfl; have y3 := (obj_cells Yb.out).1 3 _ rfl; have y4 := (obj_cells Yb.out).1 4 _ rfl; have y5 := (obj_cells Yb.out).1 5 _ rfl; have y6 := (obj_cells Yb.out).1 6 _ rfl; have y7 := (obj_cells Yb.out).1 7 _ rfl; have y8 := (obj_cells Yb.out).1 8 _ rfl; have y9 := (obj_cells Yb.out).1 9 _ rfl; have y10 := (obj_cells Yb.out).1 10 _ rfl; have y11 := (obj_cells Yb.out).1 11 _ rfl; have y12 := (obj_cells Yb.out).1 12 _ rfl; have yf := (obj_cells Yb.out).2.1; clear hR hZ hM hkeep hb; unfold msV)
    clear a0 a1 a2 a3 a4 a5 a6 a7 a8 a9 a10 a11 a12 x0 x1 x2 x3 x4 x5 x6 x7 x8 x9 x10 x11 x12 y0 y1 y2 y3 y4 y5 y6 y7 y8 y9 y10 y11 y12 yf
    have FQ1 : Hid (FQ w bm (((((((((((((wb.setCell ⟨bm, 0, none⟩ (.int .i64 m.kd)).setCell ⟨bm, 1, none⟩ (.int .i64 m.cl)).setCell ⟨bm, 2, none⟩ (.int .i64 m.rv)).setCell ⟨bm, 3, none⟩ (.int .i64 m.sq)).setCell ⟨bm, 4, none⟩ (.int .i64 m.fr)).setCell ⟨bm, 5, none⟩ (.int .i64 m.ls)).setCell ⟨bm, 6, none⟩ (.bool m.rf)).setCell ⟨bm, 7, none⟩ (.slice q.ep m.ed.length q.ec)).setCell ⟨bm, 8, none⟩ (.slice q.sp m.es.length q.sc)).setCell ⟨bm, 9, none⟩ (.string m.tx)).setCell ⟨bm, 10, none⟩ (.int .i64 m.ro)).setCell ⟨bm, 11, none⟩ (.int .i64 m.nx)).setCell ⟨bm, 12, none⟩ (.slice q.np m.ns.length q.nc))) := Lib.hid ⟨m, q, setAll_box (us := [.int .i64 m.kd, .int .i64 m.cl, .int .i64 m.rv, .int .i64 m.sq, .int .i64 m.fr, .int .i64 m.ls, .bool m.rf, .slice q.ep m.ed.length q.ec, .slice q.sp m.es.length q.sc, .string m.tx, .int .i64 m.ro, .int .i64 m.nx, .slice q.np m.ns.length q.nc]) (W := wb) (b := bm) (c := [.int .i64 0, .int .i64 1, .int .i64 2, .int .i64 3, .int .i64 0, .int .i64 0, .bool false, .slice (some ⟨pc, 0, none⟩) 1 1, .slice none 0 0, .string ⟨#[]⟩, .int .i64 0, .int .i64 0, .slice none 0 0]) (ty := 28) Yb.out rfl, RW.out _ (setAll_one wb bm 0 [.int .i64 m.kd, .int .i64 m.cl, .int .i64 m.rv, .int .i64 m.sq, .int .i64 m.fr, .int .i64 m.ls, .bool m.rf, .slice q.ep m.ed.length q.ec, .slice q.sp m.es.length q.sc, .string m.tx, .int .i64 m.ro, .int .i64 m.nx, .slice q.np m.ns.length q.nc]), Z.out, M.out, Bb.out.trans (below_grown (setAll_one wb bm 0 [.int .i64 m.kd, .int .i64 m.cl, .int .i64 m.rv, .int .i64 m.sq, .int .i64 m.fr, .int .i64 m.ls, .bool m.rf, .slice q.ep m.ed.length q.ec, .slice q.sp m.es.length q.sc, .string m.tx, .int .i64 m.ro, .int .i64 m.nx, .slice q.np m.ns.length q.nc]) LY.out Bb.out.size)⟩
    generalize ((((((((((((wb.setCell ⟨bm, 0, none⟩ (.int .i64 m.kd)).setCell ⟨bm, 1, none⟩ (.int .i64 m.cl)).setCell ⟨bm, 2, none⟩ (.int .i64 m.rv)).setCell ⟨bm, 3, none⟩ (.int .i64 m.sq)).setCell ⟨bm, 4, none⟩ (.int .i64 m.fr)).setCell ⟨bm, 5, none⟩ (.int .i64 m.ls)).setCell ⟨bm, 6, none⟩ (.bool m.rf)).setCell ⟨bm, 7, none⟩ (.slice q.ep m.ed.length q.ec)).setCell ⟨bm, 8, none⟩ (.slice q.sp m.es.length q.sc)).setCell ⟨bm, 9, none⟩ (.string m.tx)).setCell ⟨bm, 10, none⟩ (.int .i64 m.ro)).setCell ⟨bm, 11, none⟩ (.int .i64 m.nx)).setCell ⟨bm, 12, none⟩ (.slice q.np m.ns.length q.nc) = wc at FQ1 ⊢
    clear Yb RW Z M Bb Y XP XC XD XE XS X10 NT N3 B0a B3a LP LB LB3 LY LY3 hkw
    have e0 : ((k : Int) == 0) = false := by rw [beq_eq_false_iff_ne]; omega
    have e1 : ((k : Int) == 1) = false := by rw [beq_eq_false_iff_ne]; omega
    have e2 : ((k : Int) == 2) = false := by rw [beq_eq_false_iff_ne]; omega
    have e3 : ((k : Int) == 3) = false := by rw [beq_eq_false_iff_ne]; omega
    have e4 : ((k : Int) == 4) = false := by rw [beq_eq_false_iff_ne]; omega
    have e5 : ((k : Int) == 5) = false := by rw [beq_eq_false_iff_ne]; omega
    have e6 : ((k : Int) == 6) = false := by rw [beq_eq_false_iff_ne]; omega
    have e7 : ((k : Int) == 7) = false := by rw [beq_eq_false_iff_ne]; omega
    have e8 : ((k : Int) == 8) = false := by rw [beq_eq_false_iff_ne]; omega
    have e9 : ((k : Int) == 9) = false := by rw [beq_eq_false_iff_ne]; omega
    have e10 : ((k : Int) == 10) = false := by rw [beq_eq_false_iff_ne]; omega
    have e11 : ((k : Int) == 11) = false := by rw [beq_eq_false_iff_ne]; omega
    have e12 : ((k : Int) == 12) = false := by rw [beq_eq_false_iff_ne]; omega
    go_upto_region 40 with fail
    clear e0 e1 e2 e3 e4 e5 e6 e7 e8 e9 e10 e11 e12
    obtain ⟨m, q, hX, hR, hZ, hM, hB⟩ := FQ1.out
    have X := Lib.hid hX; have R := Lib.hid hR; have Z := Lib.hid hZ; have M := Lib.hid hM; have B := Lib.hid hB
    clear FQ1 hX hR hZ hM hB
    have a0 := (obj_cells X.out).1 0 _ rfl
    have a1 := (obj_cells X.out).1 1 _ rfl
    have a2 := (obj_cells X.out).1 2 _ rfl
    have a3 := (obj_cells X.out).1 3 _ rfl
    have a4 := (obj_cells X.out).1 4 _ rfl
    have a5 := (obj_cells X.out).1 5 _ rfl
    have a6 := (obj_cells X.out).1 6 _ rfl
    have a7 := (obj_cells X.out).1 7 _ rfl
    have a8 := (obj_cells X.out).1 8 _ rfl
    have a9 := (obj_cells X.out).1 9 _ rfl
    have a10 := (obj_cells X.out).1 10 _ rfl
    have a11 := (obj_cells X.out).1 11 _ rfl
    have a12 := (obj_cells X.out).1 12 _ rfl
    go_upto_region 41 with (go_at_call 6; refine (PN.out m q _ B.out Z.out R.out M.out).mono ?_; rintro e wd ⟨rfl, hb⟩; have Bd := Lib.hid (Bl.call B.out hb); have Xd := Lib.hid (heap_later X.out hb); have Rd := Lib.hid (R.out.below hb); clear hb)
    clear a0 a1 a2 a3 a4 a5 a6 a7 a8 a9 a10 a11 a12
    have a0 := (obj_cells Xd.out).1 0 _ rfl
    have a1 := (obj_cells Xd.out).1 1 _ rfl
    have a2 := (obj_cells Xd.out).1 2 _ rfl
    have a3 := (obj_cells Xd.out).1 3 _ rfl
    have a4 := (obj_cells Xd.out).1 4 _ rfl
    have a5 := (obj_cells Xd.out).1 5 _ rfl
    have a6 := (obj_cells Xd.out).1 6 _ rfl
    have a7 := (obj_cells Xd.out).1 7 _ rfl
    have a8 := (obj_cells Xd.out).1 8 _ rfl
    have a9 := (obj_cells Xd.out).1 9 _ rfl
    have a10 := (obj_cells Xd.out).1 10 _ rfl
    have a11 := (obj_cells Xd.out).1 11 _ rfl
    have a12 := (obj_cells Xd.out).1 12 _ rfl
    go_wp2_with (first | (go_at_call 10; refine (num_any _ _).mono ?_; rintro e w10 ⟨rfl, rfl⟩) | (go_at_call 12; refine (MN.out m q _ Z.out Rd.out M.out).mono ?_; rintro e we ⟨rfl, hb⟩; have Be := Lib.hid (Bl.call Bd.out hb); clear hb))
    go_ret
    exact ⟨rfl, Be.out⟩
  · have g12 : ¬ (12 : Int) < (k : Int) := by omega
    have gd : decide ((12 : Int) < (k : Int)) = false := decide_eq_false g12
    have RC : Hid (∀ W, wa.grownBy W (some bm) → RowC W (some ⟨pc, 0, none⟩) [c1]) := Lib.hid (fun W hW => lit_rowC (box_kept XP.out hW (type_ne XP.out Y.out (by decide))) rfl (Nat.le_of_ble_eq_true rfl))
    have FG : Hid (∀ (j : Nat) (v : Value) (i : Nat) (hi : i ≤ 12) (cs : Array Value), (#[.int .i64 0, .int .i64 1, .int .i64 2, .int .i64 3, .int .i64 0, .int .i64 0, .bool false, .slice (some ⟨pc, 0, none⟩) 1 1, .slice none 0 0, .string ⟨#[]⟩, .int .i64 0, .int .i64 0, .slice none 0 0] : Array Value).setIfInBounds j v = cs → msC (pollT d i) ⟨some ⟨pc, 0, none⟩, 1, none, 0, none, 0⟩ = .cells cs 28 → (pollT d i).ed = [c1] → (pollT d i).es = [] → (pollT d i).ns = [] → FQ w bm (wa.setCell ⟨bm, j, none⟩ v)) := Lib.hid (fun j v i hi cs h1 h2 h3 h4 h5 => ⟨pollT d i, ⟨some ⟨pc, 0, none⟩, 1, none, 0, none, 0⟩, by rw [heap_setCell_at Y.out, h1]; exact congrArg some h2.symm, ⟨by rw [h3]; exact RC.out _ (set_grown ..), (by rw [h4]; exact fun i c h => by simp at h), (by rw [h5]; exact fun i c h => by simp at h)⟩, pollT_z d i hi, pollT_not d d1 i hi, B0a.out.trans (below_grown (set_grown ..) LY.out B0a.out.size)⟩)
    have F0 : Hid (FQ w bm (wa.setCell ⟨bm, 1, none⟩ (.int .i64 (2 + (d : Int))))) := Lib.hid (FG.out 1 _ 0 (by decide) #[.int .i64 0, .int .i64 (2 + (d : Int)), .int .i64 2, .int .i64 3, .int .i64 0, .int .i64 0, .bool false, .slice (some ⟨pc, 0, none⟩) 1 1, .slice none 0 0, .string ⟨#[]⟩, .int .i64 0, .int .i64 0, .slice none 0 0] rfl rfl rfl rfl rfl)
    have F1 : Hid (FQ w bm (wa.setCell ⟨bm, 1, none⟩ (.int .i64 (-(d : Int))))) := Lib.hid (FG.out 1 _ 1 (by decide) #[.int .i64 0, .int .i64 (-(d : Int)), .int .i64 2, .int .i64 3, .int .i64 0, .int .i64 0, .bool false, .slice (some ⟨pc, 0, none⟩) 1 1, .slice none 0 0, .string ⟨#[]⟩, .int .i64 0, .int .i64 0, .slice none 0 0] rfl rfl rfl rfl rfl)
    have F2 : Hid (FQ w bm (wa.setCell ⟨bm, 2, none⟩ (.int .i64 (-(d : Int))))) := Lib.hid (FG.out 2 _ 2 (by decide) #[.int .i64 0, .int .i64 1, .int .i64 (-(d : Int)), .int .i64 3, .int .i64 0, .int .i64 0, .bool false, .slice (some ⟨pc, 0, none⟩) 1 1, .slice none 0 0, .string ⟨#[]⟩, .int .i64 0, .int .i64 0, .slice none 0 0] rfl rfl rfl rfl rfl)
    have F3 : Hid (FQ w bm (wa.setCell ⟨bm, 2, none⟩ (.int .i64 (4096 + (d : Int))))) := Lib.hid (FG.out 2 _ 3 (by decide) #[.int .i64 0, .int .i64 1, .int .i64 (4096 + (d : Int)), .int .i64 3, .int .i64 0, .int .i64 0, .bool false, .slice (some ⟨pc, 0, none⟩) 1 1, .slice none 0 0, .string ⟨#[]⟩, .int .i64 0, .int .i64 0, .slice none 0 0] rfl rfl rfl rfl rfl)
    have F4 : Hid (FQ w bm (wa.setCell ⟨bm, 3, none⟩ (.int .i64 0))) := Lib.hid (FG.out 3 _ 4 (by decide) #[.int .i64 0, .int .i64 1, .int .i64 2, .int .i64 0, .int .i64 0, .int .i64 0, .bool false, .slice (some ⟨pc, 0, none⟩) 1 1, .slice none 0 0, .string ⟨#[]⟩, .int .i64 0, .int .i64 0, .slice none 0 0] rfl rfl rfl rfl rfl)
    have F5 : Hid (FQ w bm (wa.setCell ⟨bm, 3, none⟩ (.int .i64 (4096 + (d : Int))))) := Lib.hid (FG.out 3 _ 5 (by decide) #[.int .i64 0, .int .i64 1, .int .i64 2, .int .i64 (4096 + (d : Int)), .int .i64 0, .int .i64 0, .bool false, .slice (some ⟨pc, 0, none⟩) 1 1, .slice none 0 0, .string ⟨#[]⟩, .int .i64 0, .int .i64 0, .slice none 0 0] rfl rfl rfl rfl rfl)
    have F6 : Hid (FQ w bm (wa.setCell ⟨bm, 4, none⟩ (.int .i64 (d : Int)))) := Lib.hid (FG.out 4 _ 6 (by decide) #[.int .i64 0, .int .i64 1, .int .i64 2, .int .i64 3, .int .i64 (d : Int), .int .i64 0, .bool false, .slice (some ⟨pc, 0, none⟩) 1 1, .slice none 0 0, .string ⟨#[]⟩, .int .i64 0, .int .i64 0, .slice none 0 0] rfl rfl rfl rfl rfl)
    have F7 : Hid (FQ w bm (wa.setCell ⟨bm, 5, none⟩ (.int .i64 (d : Int)))) := Lib.hid (FG.out 5 _ 7 (by decide) #[.int .i64 0, .int .i64 1, .int .i64 2, .int .i64 3, .int .i64 0, .int .i64 (d : Int), .bool false, .slice (some ⟨pc, 0, none⟩) 1 1, .slice none 0 0, .string ⟨#[]⟩, .int .i64 0, .int .i64 0, .slice none 0 0] rfl rfl rfl rfl rfl)
    have F8 : Hid (FQ w bm (wa.setCell ⟨bm, 6, none⟩ (.bool true))) := Lib.hid (FG.out 6 _ 8 (by decide) #[.int .i64 0, .int .i64 1, .int .i64 2, .int .i64 3, .int .i64 0, .int .i64 0, .bool true, .slice (some ⟨pc, 0, none⟩) 1 1, .slice none 0 0, .string ⟨#[]⟩, .int .i64 0, .int .i64 0, .slice none 0 0] rfl rfl rfl rfl rfl)
    have F9 : Hid (FQ w bm (wa.setCell ⟨bm, 9, none⟩ (.string ⟨#[97]⟩))) := Lib.hid (FG.out 9 _ 9 (by decide) #[.int .i64 0, .int .i64 1, .int .i64 2, .int .i64 3, .int .i64 0, .int .i64 0, .bool false, .slice (some ⟨pc, 0, none⟩) 1 1, .slice none 0 0, .string ⟨#[97]⟩, .int .i64 0, .int .i64 0, .slice none 0 0] rfl rfl rfl rfl rfl)
    have F10 : Hid (FQ w bm (wa.setCell ⟨bm, 11, none⟩ (.int .i64 (d : Int)))) := Lib.hid (FG.out 11 _ 10 (by decide) #[.int .i64 0, .int .i64 1, .int .i64 2, .int .i64 3, .int .i64 0, .int .i64 0, .bool false, .slice (some ⟨pc, 0, none⟩) 1 1, .slice none 0 0, .string ⟨#[]⟩, .int .i64 0, .int .i64 (d : Int), .slice none 0 0] rfl rfl rfl rfl rfl)
    have F12 : Hid (FQ w bm (wa.setCell ⟨bm, 0, none⟩ (.int .i64 (2 + (d : Int))))) := Lib.hid (FG.out 0 _ 12 (by decide) #[.int .i64 (2 + (d : Int)), .int .i64 1, .int .i64 2, .int .i64 3, .int .i64 0, .int .i64 0, .bool false, .slice (some ⟨pc, 0, none⟩) 1 1, .slice none 0 0, .string ⟨#[]⟩, .int .i64 0, .int .i64 0, .slice none 0 0] rfl rfl rfl rfl rfl)
    have Y2 : Hid ((wa.alloc (.cells #[.int .i64 0, .int .i64 1, .string ⟨#[]⟩, .int .i64 0, .int .i64 1, .string ⟨#[]⟩] 48)).heap[bm]? = some (.cells #[.int .i64 0, .int .i64 1, .int .i64 2, .int .i64 3, .int .i64 0, .int .i64 0, .bool false, .slice (some ⟨pc, 0, none⟩) 1 1, .slice none 0 0, .string ⟨#[]⟩, .int .i64 0, .int .i64 0, .slice none 0 0] 28 (0, 0))) := Lib.hid (heap_old Y.out _)
    have X2 : Hid ((wa.alloc (.cells #[.int .i64 0, .int .i64 1, .string ⟨#[]⟩, .int .i64 0, .int .i64 1, .string ⟨#[]⟩] 48)).heap[wa.heap.size]? = some (.cells #[.int .i64 0, .int .i64 1, .string ⟨#[]⟩, .int .i64 0, .int .i64 1, .string ⟨#[]⟩] 48 (0, 0))) := Lib.hid (heap_alloc_new wa _)
    have F11 : Hid (FQ w bm ((wa.alloc (.cells #[.int .i64 0, .int .i64 1, .string ⟨#[]⟩, .int .i64 0, .int .i64 1, .string ⟨#[]⟩] 48)).setCell ⟨bm, 7, none⟩ (.slice (some ⟨wa.heap.size, 0, none⟩) 2 2))) := Lib.hid ⟨pollT d 11, ⟨some ⟨wa.heap.size, 0, none⟩, 2, none, 0, none, 0⟩, by rw [heap_setCell_at Y2.out]; rfl, ⟨lit_rowC (box_kept X2.out (set_grown ..) (Ne.symm (Nat.ne_of_lt (Array.getElem?_eq_some_iff.1 Y.out).1))) rfl (Nat.le_of_ble_eq_true rfl), fun i c h => by simp [pollT] at h, fun i c h => by simp [pollT] at h⟩, pollT_z d 11 (by decide), pollT_not d d1 11 (by decide), (Below.trans B0a.out ((Bl.alloc (Bl.refl wa) _).mono B0a.out.size)).trans (below_grown (set_grown ..) LY.out (Nat.le_trans B0a.out.size (by simp)))⟩
    have y0 := (obj_cells Y.out).1 0 _ rfl
    have y1 := (obj_cells Y.out).1 1 _ rfl
    have y2 := (obj_cells Y.out).1 2 _ rfl
    have y3 := (obj_cells Y.out).1 3 _ rfl
    have y4 := (obj_cells Y.out).1 4 _ rfl
    have y5 := (obj_cells Y.out).1 5 _ rfl
    have y6 := (obj_cells Y.out).1 6 _ rfl
    have y7 := (obj_cells Y.out).1 7 _ rfl
    have y8 := (obj_cells Y.out).1 8 _ rfl
    have y9 := (obj_cells Y.out).1 9 _ rfl
    have y10 := (obj_cells Y.out).1 10 _ rfl
    have y11 := (obj_cells Y.out).1 11 _ rfl
    have y12 := (obj_cells Y.out).1 12 _ rfl
    have yf := (obj_cells Y.out).2.1
    have z7 := (obj_cells Y2.out).1 7 _ rfl
    have zf := (obj_cells Y2.out).2.1
    clear FG RC X2 Y2 XP XC XD XE XS X10 NT N3 B3a LP LB LB3 LY3 hkw
    go_upto_block 0 with fail
    go_cut [4] from 64 (fun v4 wx => v4 = .bool false ∧ Hid (FQ w bm wx))
    case first =>
      clear PN MN
      rcases (by omega : k = 0 ∨ k = 1 ∨ k = 2 ∨ k = 3 ∨ k = 4 ∨ k = 5 ∨ k = 6 ∨ k = 7 ∨ k = 8 ∨ k = 9 ∨ k = 10 ∨ k = 11 ∨ k = 12) with rfl | rfl | rfl | rfl | rfl | rfl | rfl | rfl | rfl | rfl | rfl | rfl | rfl
      · go_wp2_with fail
        go_meet
        exact ⟨rfl, F0⟩
      · go_wp2_with fail
        go_meet
        exact ⟨rfl, F1⟩
      · go_wp2_with fail
        go_meet
        exact ⟨rfl, F2⟩
      · go_wp2_with fail
        go_meet
        exact ⟨rfl, F3⟩
      · go_wp2_with fail
        go_meet
        exact ⟨rfl, F4⟩
      · go_wp2_with fail
        go_meet
        exact ⟨rfl, F5⟩
      · go_wp2_with fail
        go_meet
        exact ⟨rfl, F6⟩
      · go_wp2_with fail
        go_meet
        exact ⟨rfl, F7⟩
      · go_wp2_with fail
        go_meet
        exact ⟨rfl, F8⟩
      · go_wp2_with fail
        go_meet
        exact ⟨rfl, F9⟩
      · go_wp2_with fail
        go_meet
        exact ⟨rfl, F10⟩
      · go_wp2_with fail
        go_meet
        exact ⟨rfl, F11⟩
      · go_wp2_with fail
        go_meet
        exact ⟨rfl, F12⟩
    case rest =>
      clear y0 y1 y2 y3 y4 y5 y6 y7 y8 y9 y10 y11 y12 yf z7 zf F0 F1 F2 F3 F4 F5 F6 F7 F8 F9 F10 F11 F12
      obtain ⟨rfl, FQ1⟩ := hcut
      obtain ⟨m, q, hX, hR, hZ, hM, hB⟩ := FQ1.out
      have X := Lib.hid hX; have R := Lib.hid hR; have Z := Lib.hid hZ; have M := Lib.hid hM; have B := Lib.hid hB
      clear FQ1 hX hR hZ hM hB
      have a0 := (obj_cells X.out).1 0 _ rfl
      have a1 := (obj_cells X.out).1 1 _ rfl
      have a2 := (obj_cells X.out).1 2 _ rfl
      have a3 := (obj_cells X.out).1 3 _ rfl
      have a4 := (obj_cells X.out).1 4 _ rfl
      have a5 := (obj_cells X.out).1 5 _ rfl
      have a6 := (obj_cells X.out).1 6 _ rfl
      have a7 := (obj_cells X.out).1 7 _ rfl
      have a8 := (obj_cells X.out).1 8 _ rfl
      have a9 := (obj_cells X.out).1 9 _ rfl
      have a10 := (obj_cells X.out).1 10 _ rfl
      have a11 := (obj_cells X.out).1 11 _ rfl
      have a12 := (obj_cells X.out).1 12 _ rfl
      go_upto_region 41 with (go_at_call 6; refine (PN.out m q _ B.out Z.out R.out M.out).mono ?_; rintro e wd ⟨rfl, hb⟩; have Bd := Lib.hid (Bl.call B.out hb); have Xd := Lib.hid (heap_later X.out hb); have Rd := Lib.hid (R.out.below hb); clear hb)
      clear a0 a1 a2 a3 a4 a5 a6 a7 a8 a9 a10 a11 a12
      have a0 := (obj_cells Xd.out).1 0 _ rfl
      have a1 := (obj_cells Xd.out).1 1 _ rfl
      have a2 := (obj_cells Xd.out).1 2 _ rfl
      have a3 := (obj_cells Xd.out).1 3 _ rfl
      have a4 := (obj_cells Xd.out).1 4 _ rfl
      have a5 := (obj_cells Xd.out).1 5 _ rfl
      have a6 := (obj_cells Xd.out).1 6 _ rfl
      have a7 := (obj_cells Xd.out).1 7 _ rfl
      have a8 := (obj_cells Xd.out).1 8 _ rfl
      have a9 := (obj_cells Xd.out).1 9 _ rfl
      have a10 := (obj_cells Xd.out).1 10 _ rfl
      have a11 := (obj_cells Xd.out).1 11 _ rfl
      have a12 := (obj_cells Xd.out).1 12 _ rfl
      go_wp2_with (first | (go_at_call 10; refine (num_any _ _).mono ?_; rintro e w10 ⟨rfl, rfl⟩) | (go_at_call 12; refine (MN.out m q _ Z.out Rd.out M.out).mono ?_; rintro e we ⟨rfl, hb⟩; have Be := Lib.hid (Bl.call Bd.out hb); clear hb))
      go_ret
      exact ⟨rfl, Be.out⟩

end Go.Proofs.YtjmfjlffcopnnaaGreatDoor
