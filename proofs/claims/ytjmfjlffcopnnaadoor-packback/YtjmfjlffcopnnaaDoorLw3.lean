/-
  The walk of minuetlaw17's PackCuts, under what the program must answer (made by tools/genlw.py). Conditions: as each theorem's premises say.
-/
import Derived.Test.YtjmfjlffcopnnaaDoorM25
import Derived.Test.YtjmfjlffcopnnaaDoorM20
import Derived.Deep.RegionHeld3
namespace Go.Proofs.YtjmfjlffcopnnaaDoor
open Go.RowKit
open Go.Proofs.YtjmfjlffcopnnaaDoor.K (C RowC MayP)

theorem place_lt (a : Int) (n : Nat) (h0 : 0 < n) (hn : n ≤ 1000000) : ∃ q : Nat, wrap64 ((IntKind.u64.wrap a).tmod (n : Int)) = (q : Int) ∧ q < n := by
  have h1 : 0 ≤ IntKind.u64.wrap a := by
    unfold IntKind.wrap
    simp only [IntKind.signed, Bool.false_and]
    exact Int.emod_nonneg _ (by decide)
  have h2 : 0 ≤ (IntKind.u64.wrap a).tmod (n : Int) := Int.tmod_nonneg _ h1
  have h3 : (IntKind.u64.wrap a).tmod (n : Int) < (n : Int) := Int.tmod_lt_of_pos _ (by omega)
  refine ⟨((IntKind.u64.wrap a).tmod (n : Int)).toNat, ?_, by omega⟩
  rw [IntWalk.wrap64_in _ (by omega)]
  omega
/-- What Get answers at a text that is no message's. -/
def GetN (w : World) (e : Ending) (w' : World) : Prop := ∃ q : Mq, e = .returned (.tuple #[.agg #[.int .i64 0, .int .i64 0, .int .i64 0, .int .i64 0, .int .i64 0, .int .i64 0, .bool false, .slice q.ep 0 q.ec, .slice q.sp 0 q.sc, .string ⟨#[]⟩, .int .i64 0, .int .i64 0, .slice q.np 0 q.nc], .int .i64 1700]) ∧ MsR w' ms0 q ∧ Below w.heap.size w w'
theorem getN_of {s : ByteArray} {w : World} {e : Ending} {w' : World} (h : GetW s w e w') (hn : getM s = ms0 ∧ getE s = 1700) : GetN w e w' := by
  obtain ⟨q, rfl, h1, _, h3⟩ := h
  rw [hn.1] at h1
  exact ⟨q, by rw [hn.1, hn.2]; rfl, h1, h3⟩
theorem same_zero (q : Mq) (w : World) (h : MsR w ms0 q) : Calls Tryd.prog 9 #[.agg #[.int .i64 0, .int .i64 0, .int .i64 0, .int .i64 0, .int .i64 0, .int .i64 0, .bool false, .slice q.ep 0 q.ec, .slice q.sp 0 q.sc, .string ⟨#[]⟩, .int .i64 0, .int .i64 0, .slice q.np 0 q.nc], .agg #[.int .i64 0, .int .i64 0, .int .i64 0, .int .i64 0, .int .i64 0, .int .i64 0, .bool false, .slice none 0 0, .slice none 0 0, .string ⟨#[]⟩, .int .i64 0, .int .i64 0, .slice none 0 0]] w (RetBelow (.returned (.bool true)) w) := sameMsg_true ms0 q mq0 w ms0_z h (msR0 w)

set_option maxRecDepth 100000 in
set_option maxHeartbeats 8000000 in
theorem cuts_true (PP : PutPr) (GP : GetPr) (m : Ms) (q : Mq) (x : Int) (w : World) (TB : Tb w) (AW : ∀ W, Bl w W → Calls Tryd.prog 5 #[] W (RetBelow (.returned (.bool true)) W)) (hz : MsB m) (hr : MsR w m q) : Calls Tryd.prog 4 #[msV m q, .int .i64 x] w (RetBelow (.returned (.bool true)) w) := by
  have AW2 := Lib.hid AW
  have P1 : Hid (∀ W, Bl w W → Calls Tryd.prog 6 #[msV m q] W (PutD m W)) := Lib.hid (fun W hW => PP m q W (Tb.bl TB hW) hz.z (hr.below hW))
  clear hr hz AW PP TB
  unfold PutD at P1
  by_cases hg : Goes m
  case neg =>
    rw [(put_not hg).1, (put_not hg).2] at P1
    clear hg
    unfold msV at P1 ⊢
    go_enter Tryd.func4, Tryd.ntmps4
    go_upto_region 1 with fail
    have X1 : Hid ((w.alloc (.cells #[.int .i64 m.kd, .int .i64 m.cl, .int .i64 m.rv, .int .i64 m.sq, .int .i64 m.fr, .int .i64 m.ls, .bool m.rf, .slice q.ep m.ed.length q.ec, .slice q.sp m.es.length q.sc, .string m.tx, .int .i64 m.ro, .int .i64 m.nx, .slice q.np m.ns.length q.nc] 28)).heap[w.heap.size]? = some (.cells #[.int .i64 m.kd, .int .i64 m.cl, .int .i64 m.rv, .int .i64 m.sq, .int .i64 m.fr, .int .i64 m.ls, .bool m.rf, .slice q.ep m.ed.length q.ec, .slice q.sp m.es.length q.sc, .string m.tx, .int .i64 m.ro, .int .i64 m.nx, .slice q.np m.ns.length q.nc] 28 (0, 0))) := Lib.hid (heap_alloc_new w _)
    have B1 : Hid (Bl w (w.alloc (.cells #[.int .i64 m.kd, .int .i64 m.cl, .int .i64 m.rv, .int .i64 m.sq, .int .i64 m.fr, .int .i64 m.ls, .bool m.rf, .slice q.ep m.ed.length q.ec, .slice q.sp m.es.length q.sc, .string m.tx, .int .i64 m.ro, .int .i64 m.nx, .slice q.np m.ns.length q.nc] 28))) := Lib.hid (Bl.alloc (Bl.refl w) _)
    generalize w.alloc (.cells #[.int .i64 m.kd, .int .i64 m.cl, .int .i64 m.rv, .int .i64 m.sq, .int .i64 m.fr, .int .i64 m.ls, .bool m.rf, .slice q.ep m.ed.length q.ec, .slice q.sp m.es.length q.sc, .string m.tx, .int .i64 m.ro, .int .i64 m.nx, .slice q.np m.ns.length q.nc] 28) = w1 at X1 B1 ⊢
    obtain ⟨b1, hb1⟩ : ∃ b, w.heap.size = b := ⟨_, rfl⟩
    rw [hb1] at X1 ⊢
    clear hb1
    go_upto_region 3 with (go_at_call 5; refine (AW2.out _ B1.out).mono ?_; rintro e w2 ⟨rfl, hb⟩; have B2 : Hid (Bl w w2) := Lib.hid (Bl.call B1.out hb); have X2 := Lib.hid (heap_later X1.out hb); clear hb)
    have a0 := (obj_cells X2.out).1 0 _ rfl
    have a1 := (obj_cells X2.out).1 1 _ rfl
    have a2 := (obj_cells X2.out).1 2 _ rfl
    have a3 := (obj_cells X2.out).1 3 _ rfl
    have a4 := (obj_cells X2.out).1 4 _ rfl
    have a5 := (obj_cells X2.out).1 5 _ rfl
    have a6 := (obj_cells X2.out).1 6 _ rfl
    have a7 := (obj_cells X2.out).1 7 _ rfl
    have a8 := (obj_cells X2.out).1 8 _ rfl
    have a9 := (obj_cells X2.out).1 9 _ rfl
    have a10 := (obj_cells X2.out).1 10 _ rfl
    have a11 := (obj_cells X2.out).1 11 _ rfl
    have a12 := (obj_cells X2.out).1 12 _ rfl
    go_wp2_with (first | (go_at_call 6; refine (P1.out _ B2.out).mono ?_; rintro e w3 ⟨rfl, hb⟩; have B3 : Hid (Bl w w3) := Lib.hid (Bl.call B2.out hb); clear hb) | (go_at_call 7; refine (num_any _ _).mono ?_; rintro e w4 ⟨rfl, rfl⟩))
    go_ret
    exact ⟨rfl, B3.out⟩
  obtain ⟨e1, e2, e3⟩ := put_yes hg
  rw [e2] at P1
  obtain ⟨z, hzz⟩ : ∃ z, putZ m = z := ⟨_, rfl⟩
  rw [hzz] at P1 e1 e3
  have hs : z.size ≤ 1000000 := e3.2.2
  have hs0 : 0 < z.size := by
    rcases Nat.eq_zero_or_pos z.size with e | e
    · exact absurd (e1.symm.trans (List.eq_nil_of_length_eq_zero (by rw [bytes_len]; exact e))) (msg_ne m)
    · exact e
  obtain ⟨k, hk, hkl⟩ := place_lt x z.size hs0 hs
  have G1 : Hid (∀ W, Calls Tryd.prog 8 #[.string (z.extract 0 k)] W (GetN W)) := Lib.hid (fun W => (GP (z.extract 0 k) W (by rw [← bytes_len, bytes_extract, List.length_take, from_len]; omega)).mono (fun _ _ h => getN_of h (cut_no hg (r := fromL z k) (by intro e; have := from_len z k; rw [e] at this; simp at this; omega) (.inr (by rw [← e1, bytes_extract]; unfold fromL bytesOf; simp)))))
  have G2 : Hid (∀ W, Calls Tryd.prog 8 #[.string (z ++ z)] W (GetN W)) := Lib.hid (fun W => (GP (z ++ z) W (by rw [← bytes_len, bytes_app, List.length_append, bytes_len]; omega)).mono (fun _ _ h => getN_of h (cut_no hg (r := bytesOf z) (by rw [e1]; exact msg_ne m) (.inl (by rw [bytes_app, ← e1])))))
  clear e1 e2 e3 hzz hg GP
  unfold GetN at G1 G2
  unfold msV at P1 ⊢
  go_enter Tryd.func4, Tryd.ntmps4
  go_upto_region 1 with fail
  have X1 : Hid ((w.alloc (.cells #[.int .i64 m.kd, .int .i64 m.cl, .int .i64 m.rv, .int .i64 m.sq, .int .i64 m.fr, .int .i64 m.ls, .bool m.rf, .slice q.ep m.ed.length q.ec, .slice q.sp m.es.length q.sc, .string m.tx, .int .i64 m.ro, .int .i64 m.nx, .slice q.np m.ns.length q.nc] 28)).heap[w.heap.size]? = some (.cells #[.int .i64 m.kd, .int .i64 m.cl, .int .i64 m.rv, .int .i64 m.sq, .int .i64 m.fr, .int .i64 m.ls, .bool m.rf, .slice q.ep m.ed.length q.ec, .slice q.sp m.es.length q.sc, .string m.tx, .int .i64 m.ro, .int .i64 m.nx, .slice q.np m.ns.length q.nc] 28 (0, 0))) := Lib.hid (heap_alloc_new w _)
  have B1 : Hid (Bl w (w.alloc (.cells #[.int .i64 m.kd, .int .i64 m.cl, .int .i64 m.rv, .int .i64 m.sq, .int .i64 m.fr, .int .i64 m.ls, .bool m.rf, .slice q.ep m.ed.length q.ec, .slice q.sp m.es.length q.sc, .string m.tx, .int .i64 m.ro, .int .i64 m.nx, .slice q.np m.ns.length q.nc] 28))) := Lib.hid (Bl.alloc (Bl.refl w) _)
  generalize w.alloc (.cells #[.int .i64 m.kd, .int .i64 m.cl, .int .i64 m.rv, .int .i64 m.sq, .int .i64 m.fr, .int .i64 m.ls, .bool m.rf, .slice q.ep m.ed.length q.ec, .slice q.sp m.es.length q.sc, .string m.tx, .int .i64 m.ro, .int .i64 m.nx, .slice q.np m.ns.length q.nc] 28) = w1 at X1 B1 ⊢
  obtain ⟨b1, hb1⟩ : ∃ b, w.heap.size = b := ⟨_, rfl⟩
  rw [hb1] at X1 ⊢
  clear hb1
  go_upto_region 3 with (go_at_call 5; refine (AW2.out _ B1.out).mono ?_; rintro e w2 ⟨rfl, hb⟩; have B2 : Hid (Bl w w2) := Lib.hid (Bl.call B1.out hb); have X2 := Lib.hid (heap_later X1.out hb); clear hb)
  have a0 := (obj_cells X2.out).1 0 _ rfl
  have a1 := (obj_cells X2.out).1 1 _ rfl
  have a2 := (obj_cells X2.out).1 2 _ rfl
  have a3 := (obj_cells X2.out).1 3 _ rfl
  have a4 := (obj_cells X2.out).1 4 _ rfl
  have a5 := (obj_cells X2.out).1 5 _ rfl
  have a6 := (obj_cells X2.out).1 6 _ rfl
  have a7 := (obj_cells X2.out).1 7 _ rfl
  have a8 := (obj_cells X2.out).1 8 _ rfl
  have a9 := (obj_cells X2.out).1 9 _ rfl
  have a10 := (obj_cells X2.out).1 10 _ rfl
  have a11 := (obj_cells X2.out).1 11 _ rfl
  have a12 := (obj_cells X2.out).1 12 _ rfl
  have hs1 : ¬ (z.size : Int) < 1 := by omega
  have hk0 : (0 : Int) ≤ (k : Int) := by omega
  have hk1 : (k : Int) ≤ (z.size : Int) := by omega
  go_upto_region 6 with (first | (go_at_call 6; refine (P1.out _ B2.out).mono ?_; rintro e w3 ⟨rfl, hb⟩; have B3 : Hid (Bl w w3) := Lib.hid (Bl.call B2.out hb); clear hb) | (go_at_call 7; refine (num_any _ _).mono ?_; rintro e w4 ⟨rfl, rfl⟩))
  clear a0 a1 a2 a3 a4 a5 a6 a7 a8 a9 a10 a11 a12
  go_upto_region 7 with fail
  go_upto_region 8 with (go_at_call 8; refine (G1.out _).mono ?_; rintro e w5 ⟨q2, rfl, h1, hb⟩; have R5 := Lib.hid h1; have B5 : Hid (Bl w w5) := Lib.hid (Bl.call B3.out hb); clear h1 hb)
  have X6 : Hid ((w5.alloc (.cells #[.int .i64 0, .int .i64 0, .int .i64 0, .int .i64 0, .int .i64 0, .int .i64 0, .bool false, .slice q2.ep 0 q2.ec, .slice q2.sp 0 q2.sc, .string ⟨#[]⟩, .int .i64 0, .int .i64 0, .slice q2.np 0 q2.nc] 28)).heap[w5.heap.size]? = some (.cells #[.int .i64 0, .int .i64 0, .int .i64 0, .int .i64 0, .int .i64 0, .int .i64 0, .bool false, .slice q2.ep 0 q2.ec, .slice q2.sp 0 q2.sc, .string ⟨#[]⟩, .int .i64 0, .int .i64 0, .slice q2.np 0 q2.nc] 28 (0, 0))) := Lib.hid (heap_alloc_new w5 _)
  have B56 : Hid (Bl w5 (w5.alloc (.cells #[.int .i64 0, .int .i64 0, .int .i64 0, .int .i64 0, .int .i64 0, .int .i64 0, .bool false, .slice q2.ep 0 q2.ec, .slice q2.sp 0 q2.sc, .string ⟨#[]⟩, .int .i64 0, .int .i64 0, .slice q2.np 0 q2.nc] 28))) := Lib.hid (Bl.alloc (Bl.refl w5) _)
  generalize w5.alloc (.cells #[.int .i64 0, .int .i64 0, .int .i64 0, .int .i64 0, .int .i64 0, .int .i64 0, .bool false, .slice q2.ep 0 q2.ec, .slice q2.sp 0 q2.sc, .string ⟨#[]⟩, .int .i64 0, .int .i64 0, .slice q2.np 0 q2.nc] 28) = w6 at X6 B56 ⊢
  obtain ⟨b2, hb2⟩ : ∃ b, w5.heap.size = b := ⟨_, rfl⟩
  rw [hb2] at X6 ⊢
  clear hb2
  go_upto_region 9 with (go_at_call 8; refine (G2.out _).mono ?_; rintro e w7 ⟨q3, rfl, h1, hb⟩; have B67 : Hid (Bl w6 w7) := Lib.hid hb; clear h1 hb)
  have B78 : Hid (Bl w7 (w7.alloc (.cells #[.int .i64 0, .int .i64 0, .int .i64 0, .int .i64 0, .int .i64 0, .int .i64 0, .bool false, .slice q3.ep 0 q3.ec, .slice q3.sp 0 q3.sc, .string ⟨#[]⟩, .int .i64 0, .int .i64 0, .slice q3.np 0 q3.nc] 28))) := Lib.hid (Bl.alloc (Bl.refl w7) _)
  generalize w7.alloc (.cells #[.int .i64 0, .int .i64 0, .int .i64 0, .int .i64 0, .int .i64 0, .int .i64 0, .bool false, .slice q3.ep 0 q3.ec, .slice q3.sp 0 q3.sc, .string ⟨#[]⟩, .int .i64 0, .int .i64 0, .slice q3.np 0 q3.nc] 28) = w8 at B78 ⊢
  have B68 : Hid (Bl w6 w8) := Lib.hid (Bl.call B67.out B78.out)
  have B58 : Hid (Bl w5 w8) := Lib.hid (Bl.call B56.out B68.out)
  have X8 := Lib.hid (heap_later X6.out B68.out)
  have y0 := (obj_cells X8.out).1 0 _ rfl
  have y1 := (obj_cells X8.out).1 1 _ rfl
  have y2 := (obj_cells X8.out).1 2 _ rfl
  have y3 := (obj_cells X8.out).1 3 _ rfl
  have y4 := (obj_cells X8.out).1 4 _ rfl
  have y5 := (obj_cells X8.out).1 5 _ rfl
  have y6 := (obj_cells X8.out).1 6 _ rfl
  have y7 := (obj_cells X8.out).1 7 _ rfl
  have y8 := (obj_cells X8.out).1 8 _ rfl
  have y9 := (obj_cells X8.out).1 9 _ rfl
  have y10 := (obj_cells X8.out).1 10 _ rfl
  have y11 := (obj_cells X8.out).1 11 _ rfl
  have y12 := (obj_cells X8.out).1 12 _ rfl
  have SM := Lib.hid (same_zero q2 w8 (R5.out.below B58.out))
  go_wp2_with (first | (go_at_call 7; refine (num_any _ _).mono ?_; rintro e w10 ⟨rfl, rfl⟩) | (go_at_call 9; refine SM.out.mono ?_; rintro e w9 ⟨rfl, hb⟩; have B9 : Hid (Bl w w9) := Lib.hid (Bl.call (Bl.call B5.out B58.out) hb); clear hb))
  go_ret
  exact ⟨rfl, B9.out⟩

end Go.Proofs.YtjmfjlffcopnnaaDoor
