/-
  The program's Get: the walk (made by tools/genqj.py). Conditions: as each theorem's premises say.
-/
import Derived.Test.YtjmfjlffcopnnaaDoorQh
import Derived.Test.YtjmfjlffcopnnaaDoorQv
namespace Go.Proofs.YtjmfjlffcopnnaaDoor
open Go.RowKit
open Go.Proofs.YtjmfjlffcopnnaaDoor.K (C RowC MayP)

set_option maxRecDepth 100000 in
set_option maxHeartbeats 8000000 in
/-- The program's Get, at every text. -/
theorem qget_any (s : ByteArray) (w : World) (hs : s.size ≤ 140737488355328) : Calls Tryd.prog 8 #[.string s] w (GetW s w) := by
  go_enter Tryd.func8, Tryd.ntmps8
  go_upto_region 1 with fail
  have R0 : Hid ((w.alloc (.cells #[.int .i64 0, .int .i64 0, .int .i64 0, .int .i64 0, .int .i64 0, .int .i64 0, .bool false, .slice none 0 0, .slice none 0 0, .string ⟨#[]⟩, .int .i64 0, .int .i64 0, .slice none 0 0] 28)).heap[w.heap.size]? = some (.cells #[.int .i64 0, .int .i64 0, .int .i64 0, .int .i64 0, .int .i64 0, .int .i64 0, .bool false, .slice none 0 0, .slice none 0 0, .string ⟨#[]⟩, .int .i64 0, .int .i64 0, .slice none 0 0] 28 (0, 0))) := Lib.hid (heap_alloc_new w _)
  have B0 : Hid (Bl w (w.alloc (.cells #[.int .i64 0, .int .i64 0, .int .i64 0, .int .i64 0, .int .i64 0, .int .i64 0, .bool false, .slice none 0 0, .slice none 0 0, .string ⟨#[]⟩, .int .i64 0, .int .i64 0, .slice none 0 0] 28))) := Lib.hid (Bl.alloc (Bl.refl w) _)
  have S0 : Hid (w.heap.size < (w.alloc (.cells #[.int .i64 0, .int .i64 0, .int .i64 0, .int .i64 0, .int .i64 0, .int .i64 0, .bool false, .slice none 0 0, .slice none 0 0, .string ⟨#[]⟩, .int .i64 0, .int .i64 0, .slice none 0 0] 28)).heap.size) := Lib.hid (by simp)
  generalize w.alloc (.cells #[.int .i64 0, .int .i64 0, .int .i64 0, .int .i64 0, .int .i64 0, .int .i64 0, .bool false, .slice none 0 0, .slice none 0 0, .string ⟨#[]⟩, .int .i64 0, .int .i64 0, .slice none 0 0] 28) = w0 at R0 B0 S0 ⊢
  generalize hrb : w.heap.size = rb at R0 S0 ⊢
  have RB : Hid (w.heap.size ≤ rb) := Lib.hid (by omega)
  clear hrb
  by_cases q0 : s.size ≤ 1000000
  case neg =>
    have k0 : decide ((1000000 : Int) < (s.size : Int)) = true := decide_eq_true (by omega)
    have RX := R0; have BX := B0
    have r0 := (obj_cells RX.out).1 0 _ rfl
    have r1 := (obj_cells RX.out).1 1 _ rfl
    have r2 := (obj_cells RX.out).1 2 _ rfl
    have r3 := (obj_cells RX.out).1 3 _ rfl
    have r4 := (obj_cells RX.out).1 4 _ rfl
    have r5 := (obj_cells RX.out).1 5 _ rfl
    have r6 := (obj_cells RX.out).1 6 _ rfl
    have r7 := (obj_cells RX.out).1 7 _ rfl
    have r8 := (obj_cells RX.out).1 8 _ rfl
    have r9 := (obj_cells RX.out).1 9 _ rfl
    have r10 := (obj_cells RX.out).1 10 _ rfl
    have r11 := (obj_cells RX.out).1 11 _ rfl
    have r12 := (obj_cells RX.out).1 12 _ rfl
    have rf_ := (obj_cells RX.out).2.1
    have NO : Hid (GetW s w _ (setAll w0 rb 0 [.int .i64 0, .int .i64 0, .int .i64 0, .int .i64 0, .int .i64 0, .int .i64 0, .bool false, .slice none 0 0, .slice none 0 0, .string ⟨#[]⟩, .int .i64 0, .int .i64 0, .slice none 0 0])) := Lib.hid (gq_no (rb := rb) [.int .i64 0, .int .i64 0, .int .i64 0, .int .i64 0, .int .i64 0, .int .i64 0, .bool false, .slice none 0 0, .slice none 0 0, .string ⟨#[]⟩, .int .i64 0, .int .i64 0, .slice none 0 0] (fun ⟨m, h⟩ => q0 h.2.2) BX.out RB.out)
    go_wp2_with fail
    refine bodyPost_ret (v := .tuple #[.agg #[.int .i64 0, .int .i64 0, .int .i64 0, .int .i64 0, .int .i64 0, .int .i64 0, .bool false, .slice none 0 0, .slice none 0 0, .string ⟨#[]⟩, .int .i64 0, .int .i64 0, .slice none 0 0], .int .i64 1700]) (by rw [results_cell_tmp rfl]; go_simp) rfl ?_
    exact NO.out
  have k0 : decide ((1000000 : Int) < (s.size : Int)) = false := decide_eq_false (by omega)
  have Q0 := Lib.hid q0
  go_upto_region 4 with fail
  have T1 : Hid (TkP (w0.alloc (.cells #[.string s, .bool false] 54)) w0.heap.size s false) := Lib.hid ⟨heap_alloc_new w0 _, q0, fun e => by cases e⟩
  have B1 : Hid (Bl w (w0.alloc (.cells #[.string s, .bool false] 54))) := Lib.hid (Bl.alloc B0.out _)
  have R1 : Hid ((w0.alloc (.cells #[.string s, .bool false] 54)).heap[rb]? = some (.cells #[.int .i64 0, .int .i64 0, .int .i64 0, .int .i64 0, .int .i64 0, .int .i64 0, .bool false, .slice none 0 0, .slice none 0 0, .string ⟨#[]⟩, .int .i64 0, .int .i64 0, .slice none 0 0] 28 (0, 0))) := Lib.hid (heap_later R0.out (Bl.alloc (Bl.refl w0) _))
  have NT : Hid (rb ≠ w0.heap.size) := Lib.hid (by have := S0.out; omega)
  have TB : Hid (w.heap.size ≤ w0.heap.size) := Lib.hid B0.out.size
  clear q0 R0 B0 S0
  generalize w0.alloc (.cells #[.string s, .bool false] 54) = w1 at T1 B1 R1 ⊢
  generalize w0.heap.size = tb at T1 NT TB ⊢
  have ON := Lib.hid (qmsg_any s tb false w1 T1.out)
  go_upto_region 5 with (go_at_call 13; refine ON.out.mono ?_; rintro e w2 ⟨⟨kd, cl, rv, sq, fr, ls, rf, tx, ro, nx, ns, ed, es⟩, ⟨ep, ec, sp, sc, np, nc⟩, z2, b2, rfl, hk, ho, hT, hg⟩; unfold msV; dsimp only; have K2 := Lib.hid hk; have O2 := Lib.hid ho; have T2 := Lib.hid hT; have G2 := Lib.hid hg; clear hk ho hT hg)
  clear ON
  have X3 : Hid ((w2.alloc (.cells #[.int .i64 kd, .int .i64 cl, .int .i64 rv, .int .i64 sq, .int .i64 fr, .int .i64 ls, .bool rf, .slice ep ed.length ec, .slice sp es.length sc, .string tx, .int .i64 ro, .int .i64 nx, .slice np ns.length nc] 28)).heap[w2.heap.size]? = some (.cells #[.int .i64 kd, .int .i64 cl, .int .i64 rv, .int .i64 sq, .int .i64 fr, .int .i64 ls, .bool rf, .slice ep ed.length ec, .slice sp es.length sc, .string tx, .int .i64 ro, .int .i64 nx, .slice np ns.length nc] 28 (0, 0))) := Lib.hid (heap_alloc_new w2 _)
  have B2 : Hid (Bl w w2) := Lib.hid (B1.out.trans (below_grownN G2.out (fun g e => by cases e; exact TB.out) B1.out.size))
  have B3 : Hid (Bl w (w2.alloc (.cells #[.int .i64 kd, .int .i64 cl, .int .i64 rv, .int .i64 sq, .int .i64 fr, .int .i64 ls, .bool rf, .slice ep ed.length ec, .slice sp es.length sc, .string tx, .int .i64 ro, .int .i64 nx, .slice np ns.length nc] 28))) := Lib.hid (Bl.alloc B2.out _)
  have R3 : Hid ((w2.alloc (.cells #[.int .i64 kd, .int .i64 cl, .int .i64 rv, .int .i64 sq, .int .i64 fr, .int .i64 ls, .bool rf, .slice ep ed.length ec, .slice sp es.length sc, .string tx, .int .i64 ro, .int .i64 nx, .slice np ns.length nc] 28)).heap[rb]? = some (.cells #[.int .i64 0, .int .i64 0, .int .i64 0, .int .i64 0, .int .i64 0, .int .i64 0, .bool false, .slice none 0 0, .slice none 0 0, .string ⟨#[]⟩, .int .i64 0, .int .i64 0, .slice none 0 0] 28 (0, 0))) := Lib.hid (heap_later (box_keptP R1.out G2.out NT.out) (Bl.alloc (Bl.refl w2) _))
  have T3 : Hid (TkP (w2.alloc (.cells #[.int .i64 kd, .int .i64 cl, .int .i64 rv, .int .i64 sq, .int .i64 fr, .int .i64 ls, .bool rf, .slice ep ed.length ec, .slice sp es.length sc, .string tx, .int .i64 ro, .int .i64 nx, .slice np ns.length nc] 28)) tb z2 b2) := Lib.hid (T2.out.kept (World.grownBy_alloc w2 _ none) (fun g e => by cases e))
  have O3 : Hid (QOwn (w2.alloc (.cells #[.int .i64 kd, .int .i64 cl, .int .i64 rv, .int .i64 sq, .int .i64 fr, .int .i64 ls, .bool rf, .slice ep ed.length ec, .slice sp es.length sc, .string tx, .int .i64 ro, .int .i64 nx, .slice np ns.length nc] 28)) w.heap.size ⟨kd, cl, rv, sq, fr, ls, rf, tx, ro, nx, ns, ed, es⟩ ⟨ep, ec, sp, sc, np, nc⟩) := Lib.hid ((O2.out.below (Bl.alloc (Bl.refl w2) _)).mono B1.out.size)
  clear T1 B1 R1 T2 G2 O2 B2
  generalize w2.alloc (.cells #[.int .i64 kd, .int .i64 cl, .int .i64 rv, .int .i64 sq, .int .i64 fr, .int .i64 ls, .bool rf, .slice ep ed.length ec, .slice sp es.length sc, .string tx, .int .i64 ro, .int .i64 nx, .slice np ns.length nc] 28) = w3 at X3 B3 R3 T3 O3 ⊢
  generalize w2.heap.size = xb at X3 ⊢
  have t1 := (obj_cells T3.out.obj).1 1 _ rfl
  have t0 := (obj_cells T3.out.obj).1 0 _ rfl
  cases b2 with
  | true =>
    have RX := R3; have BX := B3
    have r0 := (obj_cells RX.out).1 0 _ rfl
    have r1 := (obj_cells RX.out).1 1 _ rfl
    have r2 := (obj_cells RX.out).1 2 _ rfl
    have r3 := (obj_cells RX.out).1 3 _ rfl
    have r4 := (obj_cells RX.out).1 4 _ rfl
    have r5 := (obj_cells RX.out).1 5 _ rfl
    have r6 := (obj_cells RX.out).1 6 _ rfl
    have r7 := (obj_cells RX.out).1 7 _ rfl
    have r8 := (obj_cells RX.out).1 8 _ rfl
    have r9 := (obj_cells RX.out).1 9 _ rfl
    have r10 := (obj_cells RX.out).1 10 _ rfl
    have r11 := (obj_cells RX.out).1 11 _ rfl
    have r12 := (obj_cells RX.out).1 12 _ rfl
    have rf_ := (obj_cells RX.out).2.1
    have NO : Hid (GetW s w _ (setAll w3 rb 0 [.int .i64 0, .int .i64 0, .int .i64 0, .int .i64 0, .int .i64 0, .int .i64 0, .bool false, .slice none 0 0, .slice none 0 0, .string ⟨#[]⟩, .int .i64 0, .int .i64 0, .slice none 0 0])) := Lib.hid (gq_no (rb := rb) [.int .i64 0, .int .i64 0, .int .i64 0, .int .i64 0, .int .i64 0, .int .i64 0, .bool false, .slice none 0 0, .slice none 0 0, .string ⟨#[]⟩, .int .i64 0, .int .i64 0, .slice none 0 0] (is_bad K2.out) BX.out RB.out)
    go_wp2_with fail
    refine bodyPost_ret (v := .tuple #[.agg #[.int .i64 0, .int .i64 0, .int .i64 0, .int .i64 0, .int .i64 0, .int .i64 0, .bool false, .slice none 0 0, .slice none 0 0, .string ⟨#[]⟩, .int .i64 0, .int .i64 0, .slice none 0 0], .int .i64 1700]) (by rw [results_cell_tmp rfl]; go_simp) rfl ?_
    exact NO.out
  | false =>
  by_cases q2 : z2.size = 0
  case neg =>
    have ne : z2.toList.isEmpty = false := by rw [K.isEmpty_size]; exact decide_eq_false q2
    have LN : Hid (bytesOf z2 ≠ []) := Lib.hid (fun e => q2 (by rw [← bytes_size, e]; rfl))
    have RX := R3; have BX := B3
    have r0 := (obj_cells RX.out).1 0 _ rfl
    have r1 := (obj_cells RX.out).1 1 _ rfl
    have r2 := (obj_cells RX.out).1 2 _ rfl
    have r3 := (obj_cells RX.out).1 3 _ rfl
    have r4 := (obj_cells RX.out).1 4 _ rfl
    have r5 := (obj_cells RX.out).1 5 _ rfl
    have r6 := (obj_cells RX.out).1 6 _ rfl
    have r7 := (obj_cells RX.out).1 7 _ rfl
    have r8 := (obj_cells RX.out).1 8 _ rfl
    have r9 := (obj_cells RX.out).1 9 _ rfl
    have r10 := (obj_cells RX.out).1 10 _ rfl
    have r11 := (obj_cells RX.out).1 11 _ rfl
    have r12 := (obj_cells RX.out).1 12 _ rfl
    have rf_ := (obj_cells RX.out).2.1
    have NO : Hid (GetW s w _ (setAll w3 rb 0 [.int .i64 0, .int .i64 0, .int .i64 0, .int .i64 0, .int .i64 0, .int .i64 0, .bool false, .slice none 0 0, .slice none 0 0, .string ⟨#[]⟩, .int .i64 0, .int .i64 0, .slice none 0 0])) := Lib.hid (gq_no (rb := rb) [.int .i64 0, .int .i64 0, .int .i64 0, .int .i64 0, .int .i64 0, .int .i64 0, .bool false, .slice none 0 0, .slice none 0 0, .string ⟨#[]⟩, .int .i64 0, .int .i64 0, .slice none 0 0] (is_left K2.out LN.out) BX.out RB.out)
    go_wp2_with fail
    refine bodyPost_ret (v := .tuple #[.agg #[.int .i64 0, .int .i64 0, .int .i64 0, .int .i64 0, .int .i64 0, .int .i64 0, .bool false, .slice none 0 0, .slice none 0 0, .string ⟨#[]⟩, .int .i64 0, .int .i64 0, .slice none 0 0], .int .i64 1700]) (by rw [results_cell_tmp rfl]; go_simp) rfl ?_
    exact NO.out
  have hze : z2 = ⟨#[]⟩ := by apply ByteArray.ext; exact Array.eq_empty_of_size_eq_zero q2
  subst hze
  clear q2
  have K3 : Hid (Took QMs msgC (bytesOf s) false ⟨kd, cl, rv, sq, fr, ls, rf, tx, ro, nx, ns, ed, es⟩ [] false) := Lib.hid K2.out
  have MY := Lib.hid (qmay_any ⟨kd, cl, rv, sq, fr, ls, rf, tx, ro, nx, ns, ed, es⟩ ⟨ep, ec, sp, sc, np, nc⟩ w3 (qms_z (K3.out.1 rfl).2.1) O3.out.read)
  unfold msV at MY
  dsimp only at MY
  clear K2
  have x0 := (obj_cells X3.out).1 0 _ rfl
  have x1 := (obj_cells X3.out).1 1 _ rfl
  have x2 := (obj_cells X3.out).1 2 _ rfl
  have x3 := (obj_cells X3.out).1 3 _ rfl
  have x4 := (obj_cells X3.out).1 4 _ rfl
  have x5 := (obj_cells X3.out).1 5 _ rfl
  have x6 := (obj_cells X3.out).1 6 _ rfl
  have x7 := (obj_cells X3.out).1 7 _ rfl
  have x8 := (obj_cells X3.out).1 8 _ rfl
  have x9 := (obj_cells X3.out).1 9 _ rfl
  have x10 := (obj_cells X3.out).1 10 _ rfl
  have x11 := (obj_cells X3.out).1 11 _ rfl
  have x12 := (obj_cells X3.out).1 12 _ rfl
  go_wp2_with (go_at_call 10; refine MY.out.mono ?_; rintro e w4 ⟨hb, ⟨rfl, hm⟩ | ⟨rfl, hm⟩⟩ <;> (have BX := Lib.hid (B3.out.trans (hb.mono B3.out.size)); have HM := Lib.hid hm; have X4 := Lib.hid (heap_later X3.out hb); have RX := Lib.hid (heap_later R3.out hb); have O4 := Lib.hid (O3.out.below hb); have y0 := (obj_cells X4.out).1 0 _ rfl; have y1 := (obj_cells X4.out).1 1 _ rfl; have y2 := (obj_cells X4.out).1 2 _ rfl; have y3 := (obj_cells X4.out).1 3 _ rfl; have y4 := (obj_cells X4.out).1 4 _ rfl; have y5 := (obj_cells X4.out).1 5 _ rfl; have y6 := (obj_cells X4.out).1 6 _ rfl; have y7 := (obj_cells X4.out).1 7 _ rfl; have y8 := (obj_cells X4.out).1 8 _ rfl; have y9 := (obj_cells X4.out).1 9 _ rfl; have y10 := (obj_cells X4.out).1 10 _ rfl; have y11 := (obj_cells X4.out).1 11 _ rfl; have y12 := (obj_cells X4.out).1 12 _ rfl; have r0 := (obj_cells RX.out).1 0 _ rfl; have r1 := (obj_cells RX.out).1 1 _ rfl; have r2 := (obj_cells RX.out).1 2 _ rfl; have r3 := (obj_cells RX.out).1 3 _ rfl; have r4 := (obj_cells RX.out).1 4 _ rfl; have r5 := (obj_cells RX.out).1 5 _ rfl; have r6 := (obj_cells RX.out).1 6 _ rfl; have r7 := (obj_cells RX.out).1 7 _ rfl; have r8 := (obj_cells RX.out).1 8 _ rfl; have r9 := (obj_cells RX.out).1 9 _ rfl; have r10 := (obj_cells RX.out).1 10 _ rfl; have r11 := (obj_cells RX.out).1 11 _ rfl; have r12 := (obj_cells RX.out).1 12 _ rfl; have rf_ := (obj_cells RX.out).2.1; clear hb hm))
  · have YES : Hid (GetW s w (.returned (.tuple #[.agg #[.int .i64 kd, .int .i64 cl, .int .i64 rv, .int .i64 sq, .int .i64 fr, .int .i64 ls, .bool rf, .slice ep ed.length ec, .slice sp es.length sc, .string tx, .int .i64 ro, .int .i64 nx, .slice np ns.length nc], .int .i64 0])) (setAll w4 rb 0 [.int .i64 kd, .int .i64 cl, .int .i64 rv, .int .i64 sq, .int .i64 fr, .int .i64 ls, .bool rf, .slice ep ed.length ec, .slice sp es.length sc, .string tx, .int .i64 ro, .int .i64 nx, .slice np ns.length nc])) := Lib.hid (gq_yes (m := ⟨kd, cl, rv, sq, fr, ls, rf, tx, ro, nx, ns, ed, es⟩) (q := ⟨ep, ec, sp, sc, np, nc⟩) (rb := rb) [.int .i64 kd, .int .i64 cl, .int .i64 rv, .int .i64 sq, .int .i64 fr, .int .i64 ls, .bool rf, .slice ep ed.length ec, .slice sp es.length sc, .string tx, .int .i64 ro, .int .i64 nx, .slice np ns.length nc] (is_yes K3.out HM.out Q0.out) O4.out RX.out BX.out RB.out)
    refine bodyPost_ret (v := .tuple #[.agg #[.int .i64 kd, .int .i64 cl, .int .i64 rv, .int .i64 sq, .int .i64 fr, .int .i64 ls, .bool rf, .slice ep ed.length ec, .slice sp es.length sc, .string tx, .int .i64 ro, .int .i64 nx, .slice np ns.length nc], .int .i64 0]) (by rw [results_cell_tmp rfl]; go_simp) rfl ?_
    exact YES.out
  · have NO : Hid (GetW s w _ (setAll w4 rb 0 [.int .i64 0, .int .i64 0, .int .i64 0, .int .i64 0, .int .i64 0, .int .i64 0, .bool false, .slice none 0 0, .slice none 0 0, .string ⟨#[]⟩, .int .i64 0, .int .i64 0, .slice none 0 0])) := Lib.hid (gq_no (rb := rb) [.int .i64 0, .int .i64 0, .int .i64 0, .int .i64 0, .int .i64 0, .int .i64 0, .bool false, .slice none 0 0, .slice none 0 0, .string ⟨#[]⟩, .int .i64 0, .int .i64 0, .slice none 0 0] (is_not K3.out HM.out) BX.out RB.out)
    refine bodyPost_ret (v := .tuple #[.agg #[.int .i64 0, .int .i64 0, .int .i64 0, .int .i64 0, .int .i64 0, .int .i64 0, .bool false, .slice none 0 0, .slice none 0 0, .string ⟨#[]⟩, .int .i64 0, .int .i64 0, .slice none 0 0], .int .i64 1700]) (by rw [results_cell_tmp rfl]; go_simp) rfl ?_
    exact NO.out

end Go.Proofs.YtjmfjlffcopnnaaDoor
