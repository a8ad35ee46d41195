/-
  The program's putter: a message: the walk of msg at each kind (made by tools/genph.py). Conditions: as each theorem's premises say.
-/
import Derived.Test.YtjmfjlffcopnnaaGreatDoorPF40
import Derived.Test.YtjmfjlffcopnnaaGreatDoorPF21
namespace Go.Proofs.YtjmfjlffcopnnaaGreatDoor
open Go.RowKit
open Go.Proofs.YtjmfjlffcopnnaaGreatDoor.K (C RowC PieceAt MayP)

set_option maxRecDepth 100000 in
set_option maxHeartbeats 8000000 in
theorem pmsg_poll (w0 : World) (m : Ms) (q : Mq) (hm : MsMay m) (hk : m.kd = 0) (hr : MsR w0 m q) (pb : Nat) (e : List UInt8) (w : World) (hb : Below w0.heap.size w0 w) (h : PX w w0.heap.size pb e) (hz : (e ++ msgC m []).length ≤ 70368744177664) : Calls Tryz.prog 21 #[.pointer (some ⟨pb, 0, none⟩), msV m q] w (PutS w0.heap.size pb (e ++ msgC m []) w) := by
  have e1 : e ++ msgC m [] = (((e ++ [80]) ++ rowC numC [m.cl, m.rv] []) ++ numC m.sq []) ++ listC compC m.ed [] := by
    rw [msg_poll hk]
    have h2 : rowC numC [m.cl, m.rv] [] = numC m.cl [] ++ numC m.rv [] := num_app.nil _ _
    rw [h2]
    simp only [List.append_assoc]
  rw [e1] at hz ⊢
  have HZ := Lib.hid hz; have HB := Lib.hid hb; have HH := Lib.hid h; have HR := Lib.hid hr; have HM := Lib.hid hm
  clear hz hb h e1 hr
  obtain ⟨B, hB⟩ : ∃ B, w0.heap.size = B := ⟨_, rfl⟩
  rw [hB] at HH ⊢
  have hlt := HH.out.lt
  have hbs := HH.out.size
  have HE := Lib.hid hB
  clear hB
  obtain ⟨f1, f2, f3, f4, f5, f6⟩ := hm.1
  obtain ⟨kd, cl, rv, sq, fr, ls, rf, tx, ro, nx, ns, ed, es⟩ := m
  obtain ⟨ep, ec, sp, sc, np, nc⟩ := q
  dsimp only at hk f1 f2 f3 f4 f5 f6 HZ ⊢
  subst hk
  unfold msV
  dsimp only
  have LM : Hid (MayP ed) := Lib.hid (by
    rcases hm.2 with h | h | h
    · exact h.2.2.2.1
    · exact absurd h.1 (by show ¬ ((0 : Int) = 1); decide)
    · exact absurd h.1 (by show ¬ ((0 : Int) = 2); decide))
  have hc := nm_small f1 (by omega)
  have hv := nm_small f3 (by omega)
  have hq := nm_small f5 (by omega)
  clear hm f1 f2 f3 f4 f5 f6
  obtain ⟨en, hen⟩ : ∃ n, ed.length = n := ⟨_, rfl⟩
  obtain ⟨sn, hsn⟩ : ∃ n, es.length = n := ⟨_, rfl⟩
  obtain ⟨nn, hnn⟩ : ∃ n, ns.length = n := ⟨_, rfl⟩
  rw [hen, hsn, hnn]
  have HN1 := Lib.hid hen; have HN2 := Lib.hid hsn; have HN3 := Lib.hid hnn
  clear hen hsn hnn
  go_enter Tryz.func21, Tryz.ntmps21
  go_upto_region 1 with fail
  have HX : Hid ((w.alloc (.cells #[.int .i64 0, .int .i64 cl, .int .i64 rv, .int .i64 sq, .int .i64 fr, .int .i64 ls, .bool rf, .slice ep en ec, .slice sp sn sc, .string tx, .int .i64 ro, .int .i64 nx, .slice np nn nc] 28)).heap[w.heap.size]? = some (.cells #[.int .i64 0, .int .i64 cl, .int .i64 rv, .int .i64 sq, .int .i64 fr, .int .i64 ls, .bool rf, .slice ep en ec, .slice sp sn sc, .string tx, .int .i64 ro, .int .i64 nx, .slice np nn nc] 28 (0, 0))) := Lib.hid (heap_alloc_new w _)
  have X1 : Hid (PX (w.alloc (.cells #[.int .i64 0, .int .i64 cl, .int .i64 rv, .int .i64 sq, .int .i64 fr, .int .i64 ls, .bool rf, .slice ep en ec, .slice sp sn sc, .string tx, .int .i64 ro, .int .i64 nx, .slice np nn nc] 28)) B pb e) := Lib.hid (HH.out.alloc _)
  have KK1 : Hid (Keep B pb w (w.alloc (.cells #[.int .i64 0, .int .i64 cl, .int .i64 rv, .int .i64 sq, .int .i64 fr, .int .i64 ls, .bool rf, .slice ep en ec, .slice sp sn sc, .string tx, .int .i64 ro, .int .i64 nx, .slice np nn nc] 28))) := Lib.hid ((Keep.refl B pb w).alloc hbs _)
  generalize w.alloc (.cells #[.int .i64 0, .int .i64 cl, .int .i64 rv, .int .i64 sq, .int .i64 fr, .int .i64 ls, .bool rf, .slice ep en ec, .slice sp sn sc, .string tx, .int .i64 ro, .int .i64 nx, .slice np nn nc] 28) = w1 at HX X1 KK1 ⊢
  obtain ⟨xb, hxb⟩ : ∃ b, w.heap.size = b := ⟨_, rfl⟩
  rw [hxb] at HX ⊢
  have NE : Hid (xb ≠ pb) := Lib.hid (by omega)
  clear hxb hlt hbs HH
  have L : Hid (Calls Tryz.prog 62 #[.pointer (some ⟨pb, 0, none⟩), .int .u8 80] w1 (PutS B pb (e ++ [80]) w1)) := Lib.hid (plet_any 80 B pb e w1 X1.out (by have := HZ.out; simp only [List.length_append] at this ⊢; omega))
  have a0 := (obj_cells HX.out).1 0 _ rfl
  have a1 := (obj_cells HX.out).1 1 _ rfl
  have a2 := (obj_cells HX.out).1 2 _ rfl
  have a3 := (obj_cells HX.out).1 3 _ rfl
  have a4 := (obj_cells HX.out).1 4 _ rfl
  have a5 := (obj_cells HX.out).1 5 _ rfl
  have a6 := (obj_cells HX.out).1 6 _ rfl
  have a7 := (obj_cells HX.out).1 7 _ rfl
  have a8 := (obj_cells HX.out).1 8 _ rfl
  have a9 := (obj_cells HX.out).1 9 _ rfl
  have a10 := (obj_cells HX.out).1 10 _ rfl
  have a11 := (obj_cells HX.out).1 11 _ rfl
  have a12 := (obj_cells HX.out).1 12 _ rfl
  go_upto_region 2 with (go_at_call 62; refine L.out.mono ?_; rintro e w2 ⟨rfl, h1, h2⟩; have X2 := Lib.hid h1; have K2 := Lib.hid h2; clear h1 h2)
  clear a0 a1 a2 a3 a4 a5 a6 a7 a8 a9 a10 a11 a12 L
  have HX2 := Lib.hid (K2.out.old HX.out NE.out (by decide))
  have KK2 := Lib.hid (KK1.out.trans K2.out)
  have a0 := (obj_cells HX2.out).1 0 _ rfl
  have a1 := (obj_cells HX2.out).1 1 _ rfl
  have a2 := (obj_cells HX2.out).1 2 _ rfl
  have a3 := (obj_cells HX2.out).1 3 _ rfl
  have a4 := (obj_cells HX2.out).1 4 _ rfl
  have a5 := (obj_cells HX2.out).1 5 _ rfl
  have a6 := (obj_cells HX2.out).1 6 _ rfl
  have a7 := (obj_cells HX2.out).1 7 _ rfl
  have a8 := (obj_cells HX2.out).1 8 _ rfl
  have a9 := (obj_cells HX2.out).1 9 _ rfl
  have a10 := (obj_cells HX2.out).1 10 _ rfl
  have a11 := (obj_cells HX2.out).1 11 _ rfl
  have a12 := (obj_cells HX2.out).1 12 _ rfl
  have CC := Lib.hid (pnums_own [cl, rv] 2 rfl (by intro x hx; simp only [List.mem_cons, List.not_mem_nil, or_false] at hx; rcases hx with rfl | rfl <;> assumption) B pb _ w2 X2.out (by decide) (by have := HZ.out; simp only [List.length_append] at this ⊢; omega) #[.int .i64 cl, .int .i64 rv] rfl)
  go_upto_region 3 with (go_at_call 63; refine CC.out.mono ?_; rintro e w3 ⟨rfl, h1, h2⟩; have X3 := Lib.hid h1; have K3 := Lib.hid h2; clear h1 h2)
  clear a0 a1 a2 a3 a4 a5 a6 a7 a8 a9 a10 a11 a12 CC
  have HX3 := Lib.hid (K3.out.old HX2.out NE.out (by decide))
  have KK3 := Lib.hid (KK2.out.trans K3.out)
  have a0 := (obj_cells HX3.out).1 0 _ rfl
  have a1 := (obj_cells HX3.out).1 1 _ rfl
  have a2 := (obj_cells HX3.out).1 2 _ rfl
  have a3 := (obj_cells HX3.out).1 3 _ rfl
  have a4 := (obj_cells HX3.out).1 4 _ rfl
  have a5 := (obj_cells HX3.out).1 5 _ rfl
  have a6 := (obj_cells HX3.out).1 6 _ rfl
  have a7 := (obj_cells HX3.out).1 7 _ rfl
  have a8 := (obj_cells HX3.out).1 8 _ rfl
  have a9 := (obj_cells HX3.out).1 9 _ rfl
  have a10 := (obj_cells HX3.out).1 10 _ rfl
  have a11 := (obj_cells HX3.out).1 11 _ rfl
  have a12 := (obj_cells HX3.out).1 12 _ rfl
  have CC := Lib.hid (pnum_any sq hq B pb _ w3 X3.out (by have := HZ.out; simp only [List.length_append] at this ⊢; omega))
  go_upto_region 6 with (go_at_call 64; refine CC.out.mono ?_; rintro e w4 ⟨rfl, h1, h2⟩; have X4 := Lib.hid h1; have K4 := Lib.hid h2; clear h1 h2)
  clear a0 a1 a2 a3 a4 a5 a6 a7 a8 a9 a10 a11 a12 CC
  have HX4 := Lib.hid (K4.out.old HX3.out NE.out (by decide))
  have KK4 := Lib.hid (KK3.out.trans K4.out)
  have a0 := (obj_cells HX4.out).1 0 _ rfl
  have a1 := (obj_cells HX4.out).1 1 _ rfl
  have a2 := (obj_cells HX4.out).1 2 _ rfl
  have a3 := (obj_cells HX4.out).1 3 _ rfl
  have a4 := (obj_cells HX4.out).1 4 _ rfl
  have a5 := (obj_cells HX4.out).1 5 _ rfl
  have a6 := (obj_cells HX4.out).1 6 _ rfl
  have a7 := (obj_cells HX4.out).1 7 _ rfl
  have a8 := (obj_cells HX4.out).1 8 _ rfl
  have a9 := (obj_cells HX4.out).1 9 _ rfl
  have a10 := (obj_cells HX4.out).1 10 _ rfl
  have a11 := (obj_cells HX4.out).1 11 _ rfl
  have a12 := (obj_cells HX4.out).1 12 _ rfl
  have CC := Lib.hid (pcs_any w0 ed ep en ec HN1.out HR.out.ed (fun c hc => ((may_comps LM.out).2 c hc).1) (by have := (may_comps LM.out).1; have := HN1.out; omega) pb _ w4 (HB.out.trans (show Below w0.heap.size w w4 by rw [HE.out]; exact KK4.out.1)) (by rw [HE.out]; exact X4.out) HZ.out)
  rw [HE.out] at CC
  go_wp2_with (go_at_call 65; refine CC.out.mono ?_; rintro e w5 ⟨rfl, h1, h2⟩; have X5 := Lib.hid h1; have K5 := Lib.hid h2; clear h1 h2)
  refine bodyPost_ret (results_none rfl _ _ _) rfl ?_
  exact ⟨rfl, X5.out, KK4.out.trans K5.out⟩

set_option maxRecDepth 100000 in
set_option maxHeartbeats 8000000 in
theorem pmsg_changes (w0 : World) (m : Ms) (q : Mq) (hm : MsMay m) (hk : m.kd = 1) (hr : MsR w0 m q) (pb : Nat) (e : List UInt8) (w : World) (hb : Below w0.heap.size w0 w) (h : PX w w0.heap.size pb e) (hz : (e ++ msgC m []).length ≤ 70368744177664) : Calls Tryz.prog 21 #[.pointer (some ⟨pb, 0, none⟩), msV m q] w (PutS w0.heap.size pb (e ++ msgC m []) w) := by
  have e1 : e ++ msgC m [] = ((e ++ [67]) ++ rowC numC [m.cl, m.rv] []) ++ listC entC m.es [] := by
    rw [msg_changes hk]
    have h2 : rowC numC [m.cl, m.rv] [] = numC m.cl [] ++ numC m.rv [] := num_app.nil _ _
    rw [h2]
    rw [list_split]
    simp only [List.append_assoc]
  rw [e1] at hz ⊢
  have HZ := Lib.hid hz; have HB := Lib.hid hb; have HH := Lib.hid h; have HR := Lib.hid hr; have HM := Lib.hid hm
  clear hz hb h e1 hr
  obtain ⟨B, hB⟩ : ∃ B, w0.heap.size = B := ⟨_, rfl⟩
  rw [hB] at HH ⊢
  have hlt := HH.out.lt
  have hbs := HH.out.size
  have HE := Lib.hid hB
  clear hB
  obtain ⟨f1, f2, f3, f4, f5, f6⟩ := hm.1
  obtain ⟨kd, cl, rv, sq, fr, ls, rf, tx, ro, nx, ns, ed, es⟩ := m
  obtain ⟨ep, ec, sp, sc, np, nc⟩ := q
  dsimp only at hk f1 f2 f3 f4 f5 f6 HZ ⊢
  subst hk
  unfold msV
  dsimp only
  have LM : Hid (es.length ≤ 3 ∧ ∀ e ∈ es, EnMay e) := Lib.hid (by
    rcases hm.2 with h | h | h
    · exact absurd h.1 (by show ¬ ((1 : Int) = 0); decide)
    · exact ⟨h.2.2.2.2.1, h.2.2.2.2.2⟩
    · exact absurd h.1 (by show ¬ ((1 : Int) = 2); decide))
  have hc := nm_small f1 (by omega)
  have hv := nm_small f3 (by omega)
  have hq := nm_small f5 (by omega)
  clear hm f1 f2 f3 f4 f5 f6
  obtain ⟨en, hen⟩ : ∃ n, ed.length = n := ⟨_, rfl⟩
  obtain ⟨sn, hsn⟩ : ∃ n, es.length = n := ⟨_, rfl⟩
  obtain ⟨nn, hnn⟩ : ∃ n, ns.length = n := ⟨_, rfl⟩
  rw [hen, hsn, hnn]
  have HN1 := Lib.hid hen; have HN2 := Lib.hid hsn; have HN3 := Lib.hid hnn
  clear hen hsn hnn
  go_enter Tryz.func21, Tryz.ntmps21
  go_upto_region 1 with fail
  have HX : Hid ((w.alloc (.cells #[.int .i64 1, .int .i64 cl, .int .i64 rv, .int .i64 sq, .int .i64 fr, .int .i64 ls, .bool rf, .slice ep en ec, .slice sp sn sc, .string tx, .int .i64 ro, .int .i64 nx, .slice np nn nc] 28)).heap[w.heap.size]? = some (.cells #[.int .i64 1, .int .i64 cl, .int .i64 rv, .int .i64 sq, .int .i64 fr, .int .i64 ls, .bool rf, .slice ep en ec, .slice sp sn sc, .string tx, .int .i64 ro, .int .i64 nx, .slice np nn nc] 28 (0, 0))) := Lib.hid (heap_alloc_new w _)
  have X1 : Hid (PX (w.alloc (.cells #[.int .i64 1, .int .i64 cl, .int .i64 rv, .int .i64 sq, .int .i64 fr, .int .i64 ls, .bool rf, .slice ep en ec, .slice sp sn sc, .string tx, .int .i64 ro, .int .i64 nx, .slice np nn nc] 28)) B pb e) := Lib.hid (HH.out.alloc _)
  have KK1 : Hid (Keep B pb w (w.alloc (.cells #[.int .i64 1, .int .i64 cl, .int .i64 rv, .int .i64 sq, .int .i64 fr, .int .i64 ls, .bool rf, .slice ep en ec, .slice sp sn sc, .string tx, .int .i64 ro, .int .i64 nx, .slice np nn nc] 28))) := Lib.hid ((Keep.refl B pb w).alloc hbs _)
  generalize w.alloc (.cells #[.int .i64 1, .int .i64 cl, .int .i64 rv, .int .i64 sq, .int .i64 fr, .int .i64 ls, .bool rf, .slice ep en ec, .slice sp sn sc, .string tx, .int .i64 ro, .int .i64 nx, .slice np nn nc] 28) = w1 at HX X1 KK1 ⊢
  obtain ⟨xb, hxb⟩ : ∃ b, w.heap.size = b := ⟨_, rfl⟩
  rw [hxb] at HX ⊢
  have NE : Hid (xb ≠ pb) := Lib.hid (by omega)
  clear hxb hlt hbs HH
  have L : Hid (Calls Tryz.prog 62 #[.pointer (some ⟨pb, 0, none⟩), .int .u8 67] w1 (PutS B pb (e ++ [67]) w1)) := Lib.hid (plet_any 67 B pb e w1 X1.out (by have := HZ.out; simp only [List.length_append] at this ⊢; omega))
  have a0 := (obj_cells HX.out).1 0 _ rfl
  have a1 := (obj_cells HX.out).1 1 _ rfl
  have a2 := (obj_cells HX.out).1 2 _ rfl
  have a3 := (obj_cells HX.out).1 3 _ rfl
  have a4 := (obj_cells HX.out).1 4 _ rfl
  have a5 := (obj_cells HX.out).1 5 _ rfl
  have a6 := (obj_cells HX.out).1 6 _ rfl
  have a7 := (obj_cells HX.out).1 7 _ rfl
  have a8 := (obj_cells HX.out).1 8 _ rfl
  have a9 := (obj_cells HX.out).1 9 _ rfl
  have a10 := (obj_cells HX.out).1 10 _ rfl
  have a11 := (obj_cells HX.out).1 11 _ rfl
  have a12 := (obj_cells HX.out).1 12 _ rfl
  go_upto_region 2 with (go_at_call 62; refine L.out.mono ?_; rintro e w2 ⟨rfl, h1, h2⟩; have X2 := Lib.hid h1; have K2 := Lib.hid h2; clear h1 h2)
  clear a0 a1 a2 a3 a4 a5 a6 a7 a8 a9 a10 a11 a12 L
  have HX2 := Lib.hid (K2.out.old HX.out NE.out (by decide))
  have KK2 := Lib.hid (KK1.out.trans K2.out)
  have a0 := (obj_cells HX2.out).1 0 _ rfl
  have a1 := (obj_cells HX2.out).1 1 _ rfl
  have a2 := (obj_cells HX2.out).1 2 _ rfl
  have a3 := (obj_cells HX2.out).1 3 _ rfl
  have a4 := (obj_cells HX2.out).1 4 _ rfl
  have a5 := (obj_cells HX2.out).1 5 _ rfl
  have a6 := (obj_cells HX2.out).1 6 _ rfl
  have a7 := (obj_cells HX2.out).1 7 _ rfl
  have a8 := (obj_cells HX2.out).1 8 _ rfl
  have a9 := (obj_cells HX2.out).1 9 _ rfl
  have a10 := (obj_cells HX2.out).1 10 _ rfl
  have a11 := (obj_cells HX2.out).1 11 _ rfl
  have a12 := (obj_cells HX2.out).1 12 _ rfl
  have CC := Lib.hid (pnums_own [cl, rv] 2 rfl (by intro x hx; simp only [List.mem_cons, List.not_mem_nil, or_false] at hx; rcases hx with rfl | rfl <;> assumption) B pb _ w2 X2.out (by decide) (by have := HZ.out; simp only [List.length_append] at this ⊢; omega) #[.int .i64 cl, .int .i64 rv] rfl)
  go_upto_region 3 with (go_at_call 63; refine CC.out.mono ?_; rintro e w3 ⟨rfl, h1, h2⟩; have X3 := Lib.hid h1; have K3 := Lib.hid h2; clear h1 h2)
  clear a0 a1 a2 a3 a4 a5 a6 a7 a8 a9 a10 a11 a12 CC
  have HX3 := Lib.hid (K3.out.old HX2.out NE.out (by decide))
  have KK3 := Lib.hid (KK2.out.trans K3.out)
  have a0 := (obj_cells HX3.out).1 0 _ rfl
  have a1 := (obj_cells HX3.out).1 1 _ rfl
  have a2 := (obj_cells HX3.out).1 2 _ rfl
  have a3 := (obj_cells HX3.out).1 3 _ rfl
  have a4 := (obj_cells HX3.out).1 4 _ rfl
  have a5 := (obj_cells HX3.out).1 5 _ rfl
  have a6 := (obj_cells HX3.out).1 6 _ rfl
  have a7 := (obj_cells HX3.out).1 7 _ rfl
  have a8 := (obj_cells HX3.out).1 8 _ rfl
  have a9 := (obj_cells HX3.out).1 9 _ rfl
  have a10 := (obj_cells HX3.out).1 10 _ rfl
  have a11 := (obj_cells HX3.out).1 11 _ rfl
  have a12 := (obj_cells HX3.out).1 12 _ rfl
  have CC := Lib.hid (pes_any w0 es sp sn sc HN2.out HR.out.es (fun c hc => (may_entry (LM.out.2 c hc)).1) (by have := LM.out.1; have := HN2.out; omega) pb _ w3 (HB.out.trans (show Below w0.heap.size w w3 by rw [HE.out]; exact KK3.out.1)) (by rw [HE.out]; exact X3.out) HZ.out)
  rw [HE.out] at CC
  go_wp2_with (go_at_call 67; refine CC.out.mono ?_; rintro e w4 ⟨rfl, h1, h2⟩; have X4 := Lib.hid h1; have K4 := Lib.hid h2; clear h1 h2)
  refine bodyPost_ret (results_none rfl _ _ _) rfl ?_
  exact ⟨rfl, X4.out, KK3.out.trans K4.out⟩

set_option maxRecDepth 100000 in
set_option maxHeartbeats 8000000 in
theorem pmsg_snap (w0 : World) (m : Ms) (q : Mq) (hm : MsMay m) (hk : m.kd = 2) (hr : MsR w0 m q) (pb : Nat) (e : List UInt8) (w : World) (hb : Below w0.heap.size w0 w) (h : PX w w0.heap.size pb e) (hz : (e ++ msgC m []).length ≤ 70368744177664) : Calls Tryz.prog 21 #[.pointer (some ⟨pb, 0, none⟩), msV m q] w (PutS w0.heap.size pb (e ++ msgC m []) w) := by
  have e1 : e ++ msgC m [] = (((((e ++ [83]) ++ rowC numC [m.cl, m.rv] []) ++ rowC numC [m.sq, m.fr, m.ls] []) ++ numC (if m.rf then 1 else 0) []) ++ strC (bytesOf m.tx) []) ++ treeC m.ro m.nx m.ns [] := by
    rw [msg_snap hk]
    have h2 : rowC numC [m.cl, m.rv] [] = numC m.cl [] ++ numC m.rv [] := num_app.nil _ _
    rw [h2]
    have h3 : rowC numC [m.sq, m.fr, m.ls] [] = numC m.sq [] ++ (numC m.fr [] ++ numC m.ls []) := by
      show numC m.sq (numC m.fr (numC m.ls [])) = _
      rw [num_app.nil m.sq, num_app.nil m.fr]
    rw [h3]
    simp only [List.append_assoc]
  rw [e1] at hz ⊢
  have HZ := Lib.hid hz; have HB := Lib.hid hb; have HH := Lib.hid h; have HR := Lib.hid hr; have HM := Lib.hid hm
  clear hz hb h e1 hr
  obtain ⟨B, hB⟩ : ∃ B, w0.heap.size = B := ⟨_, rfl⟩
  rw [hB] at HH ⊢
  have hlt := HH.out.lt
  have hbs := HH.out.size
  have HE := Lib.hid hB
  clear hB
  obtain ⟨f1, f2, f3, f4, f5, f6⟩ := hm.1
  obtain ⟨kd, cl, rv, sq, fr, ls, rf, tx, ro, nx, ns, ed, es⟩ := m
  obtain ⟨ep, ec, sp, sc, np, nc⟩ := q
  dsimp only at hk f1 f2 f3 f4 f5 f6 HZ ⊢
  subst hk
  unfold msV
  dsimp only
  have LM : Hid ((0 ≤ fr ∧ fr ≤ 4096) ∧ (0 ≤ ls ∧ ls ≤ 4096) ∧ tx.size ≤ 300 ∧ mayB ns ro nx tx.size = true) := Lib.hid (by
    rcases hm.2 with h | h | ⟨_, _, _, g3, g4, g5, g6, g7, g8⟩
    · exact absurd h.1 (by show ¬ ((2 : Int) = 0); decide)
    · exact absurd h.1 (by show ¬ ((2 : Int) = 1); decide)
    · exact ⟨⟨g3, g4⟩, ⟨g5, g6⟩, g7, g8⟩)
  have hf := nm_small LM.out.1.1 (by have := LM.out.1.2; omega)
  have hl := nm_small LM.out.2.1.1 (by have := LM.out.2.1.2; omega)
  obtain ⟨TT, hTT⟩ : ∃ TT, numC (if rf then 1 else 0) [] = TT := ⟨_, rfl⟩
  rw [hTT] at HZ ⊢
  have HT := Lib.hid hTT
  clear hTT
  have hc := nm_small f1 (by omega)
  have hv := nm_small f3 (by omega)
  have hq := nm_small f5 (by omega)
  clear hm f1 f2 f3 f4 f5 f6
  obtain ⟨en, hen⟩ : ∃ n, ed.length = n := ⟨_, rfl⟩
  obtain ⟨sn, hsn⟩ : ∃ n, es.length = n := ⟨_, rfl⟩
  obtain ⟨nn, hnn⟩ : ∃ n, ns.length = n := ⟨_, rfl⟩
  rw [hen, hsn, hnn]
  have HN1 := Lib.hid hen; have HN2 := Lib.hid hsn; have HN3 := Lib.hid hnn
  clear hen hsn hnn
  go_enter Tryz.func21, Tryz.ntmps21
  go_upto_region 1 with fail
  have HX : Hid ((w.alloc (.cells #[.int .i64 2, .int .i64 cl, .int .i64 rv, .int .i64 sq, .int .i64 fr, .int .i64 ls, .bool rf, .slice ep en ec, .slice sp sn sc, .string tx, .int .i64 ro, .int .i64 nx, .slice np nn nc] 28)).heap[w.heap.size]? = some (.cells #[.int .i64 2, .int .i64 cl, .int .i64 rv, .int .i64 sq, .int .i64 fr, .int .i64 ls, .bool rf, .slice ep en ec, .slice sp sn sc, .string tx, .int .i64 ro, .int .i64 nx, .slice np nn nc] 28 (0, 0))) := Lib.hid (heap_alloc_new w _)
  have X1 : Hid (PX (w.alloc (.cells #[.int .i64 2, .int .i64 cl, .int .i64 rv, .int .i64 sq, .int .i64 fr, .int .i64 ls, .bool rf, .slice ep en ec, .slice sp sn sc, .string tx, .int .i64 ro, .int .i64 nx, .slice np nn nc] 28)) B pb e) := Lib.hid (HH.out.alloc _)
  have KK1 : Hid (Keep B pb w (w.alloc (.cells #[.int .i64 2, .int .i64 cl, .int .i64 rv, .int .i64 sq, .int .i64 fr, .int .i64 ls, .bool rf, .slice ep en ec, .slice sp sn sc, .string tx, .int .i64 ro, .int .i64 nx, .slice np nn nc] 28))) := Lib.hid ((Keep.refl B pb w).alloc hbs _)
  generalize w.alloc (.cells #[.int .i64 2, .int .i64 cl, .int .i64 rv, .int .i64 sq, .int .i64 fr, .int .i64 ls, .bool rf, .slice ep en ec, .slice sp sn sc, .string tx, .int .i64 ro, .int .i64 nx, .slice np nn nc] 28) = w1 at HX X1 KK1 ⊢
  obtain ⟨xb, hxb⟩ : ∃ b, w.heap.size = b := ⟨_, rfl⟩
  rw [hxb] at HX ⊢
  have NE : Hid (xb ≠ pb) := Lib.hid (by omega)
  clear hxb hlt hbs HH
  have L : Hid (Calls Tryz.prog 62 #[.pointer (some ⟨pb, 0, none⟩), .int .u8 83] w1 (PutS B pb (e ++ [83]) w1)) := Lib.hid (plet_any 83 B pb e w1 X1.out (by have := HZ.out; simp only [List.length_append] at this ⊢; omega))
  have a0 := (obj_cells HX.out).1 0 _ rfl
  have a1 := (obj_cells HX.out).1 1 _ rfl
  have a2 := (obj_cells HX.out).1 2 _ rfl
  have a3 := (obj_cells HX.out).1 3 _ rfl
  have a4 := (obj_cells HX.out).1 4 _ rfl
  have a5 := (obj_cells HX.out).1 5 _ rfl
  have a6 := (obj_cells HX.out).1 6 _ rfl
  have a7 := (obj_cells HX.out).1 7 _ rfl
  have a8 := (obj_cells HX.out).1 8 _ rfl
  have a9 := (obj_cells HX.out).1 9 _ rfl
  have a10 := (obj_cells HX.out).1 10 _ rfl
  have a11 := (obj_cells HX.out).1 11 _ rfl
  have a12 := (obj_cells HX.out).1 12 _ rfl
  go_upto_region 2 with (go_at_call 62; refine L.out.mono ?_; rintro e w2 ⟨rfl, h1, h2⟩; have X2 := Lib.hid h1; have K2 := Lib.hid h2; clear h1 h2)
  clear a0 a1 a2 a3 a4 a5 a6 a7 a8 a9 a10 a11 a12 L
  have HX2 := Lib.hid (K2.out.old HX.out NE.out (by decide))
  have KK2 := Lib.hid (KK1.out.trans K2.out)
  have a0 := (obj_cells HX2.out).1 0 _ rfl
  have a1 := (obj_cells HX2.out).1 1 _ rfl
  have a2 := (obj_cells HX2.out).1 2 _ rfl
  have a3 := (obj_cells HX2.out).1 3 _ rfl
  have a4 := (obj_cells HX2.out).1 4 _ rfl
  have a5 := (obj_cells HX2.out).1 5 _ rfl
  have a6 := (obj_cells HX2.out).1 6 _ rfl
  have a7 := (obj_cells HX2.out).1 7 _ rfl
  have a8 := (obj_cells HX2.out).1 8 _ rfl
  have a9 := (obj_cells HX2.out).1 9 _ rfl
  have a10 := (obj_cells HX2.out).1 10 _ rfl
  have a11 := (obj_cells HX2.out).1 11 _ rfl
  have a12 := (obj_cells HX2.out).1 12 _ rfl
  have CC := Lib.hid (pnums_own [cl, rv] 2 rfl (by intro x hx; simp only [List.mem_cons, List.not_mem_nil, or_false] at hx; rcases hx with rfl | rfl <;> assumption) B pb _ w2 X2.out (by decide) (by have := HZ.out; simp only [List.length_append] at this ⊢; omega) #[.int .i64 cl, .int .i64 rv] rfl)
  go_upto_region 3 with (go_at_call 63; refine CC.out.mono ?_; rintro e w3 ⟨rfl, h1, h2⟩; have X3 := Lib.hid h1; have K3 := Lib.hid h2; clear h1 h2)
  clear a0 a1 a2 a3 a4 a5 a6 a7 a8 a9 a10 a11 a12 CC
  have HX3 := Lib.hid (K3.out.old HX2.out NE.out (by decide))
  have KK3 := Lib.hid (KK2.out.trans K3.out)
  have a0 := (obj_cells HX3.out).1 0 _ rfl
  have a1 := (obj_cells HX3.out).1 1 _ rfl
  have a2 := (obj_cells HX3.out).1 2 _ rfl
  have a3 := (obj_cells HX3.out).1 3 _ rfl
  have a4 := (obj_cells HX3.out).1 4 _ rfl
  have a5 := (obj_cells HX3.out).1 5 _ rfl
  have a6 := (obj_cells HX3.out).1 6 _ rfl
  have a7 := (obj_cells HX3.out).1 7 _ rfl
  have a8 := (obj_cells HX3.out).1 8 _ rfl
  have a9 := (obj_cells HX3.out).1 9 _ rfl
  have a10 := (obj_cells HX3.out).1 10 _ rfl
  have a11 := (obj_cells HX3.out).1 11 _ rfl
  have a12 := (obj_cells HX3.out).1 12 _ rfl
  have CC := Lib.hid (pnums_own [sq, fr, ls] 3 rfl (by intro x hx; simp only [List.mem_cons, List.not_mem_nil, or_false] at hx; rcases hx with rfl | rfl | rfl <;> assumption) B pb _ w3 X3.out (by decide) (by have := HZ.out; simp only [List.length_append] at this ⊢; omega) #[.int .i64 sq, .int .i64 fr, .int .i64 ls] rfl)
  go_upto_region 11 with (go_at_call 63; refine CC.out.mono ?_; rintro e w4 ⟨rfl, h1, h2⟩; have X4 := Lib.hid h1; have K4 := Lib.hid h2; clear h1 h2)
  clear a0 a1 a2 a3 a4 a5 a6 a7 a8 a9 a10 a11 a12 CC
  have HX4 := Lib.hid (K4.out.old HX3.out NE.out (by decide))
  have KK4 := Lib.hid (KK3.out.trans K4.out)
  have a0 := (obj_cells HX4.out).1 0 _ rfl
  have a1 := (obj_cells HX4.out).1 1 _ rfl
  have a2 := (obj_cells HX4.out).1 2 _ rfl
  have a3 := (obj_cells HX4.out).1 3 _ rfl
  have a4 := (obj_cells HX4.out).1 4 _ rfl
  have a5 := (obj_cells HX4.out).1 5 _ rfl
  have a6 := (obj_cells HX4.out).1 6 _ rfl
  have a7 := (obj_cells HX4.out).1 7 _ rfl
  have a8 := (obj_cells HX4.out).1 8 _ rfl
  have a9 := (obj_cells HX4.out).1 9 _ rfl
  have a10 := (obj_cells HX4.out).1 10 _ rfl
  have a11 := (obj_cells HX4.out).1 11 _ rfl
  have a12 := (obj_cells HX4.out).1 12 _ rfl
  have CC := Lib.hid (ptru_any rf B pb _ w4 X4.out (by rw [HT.out]; have := HZ.out; simp only [List.length_append] at this ⊢; omega))
  rw [HT.out] at CC
  go_upto_region 12 with (go_at_call 69; refine CC.out.mono ?_; rintro e w5 ⟨rfl, h1, h2⟩; have X5 := Lib.hid h1; have K5 := Lib.hid h2; clear h1 h2)
  clear a0 a1 a2 a3 a4 a5 a6 a7 a8 a9 a10 a11 a12 CC
  have HX5 := Lib.hid (K5.out.old HX4.out NE.out (by decide))
  have KK5 := Lib.hid (KK4.out.trans K5.out)
  have a0 := (obj_cells HX5.out).1 0 _ rfl
  have a1 := (obj_cells HX5.out).1 1 _ rfl
  have a2 := (obj_cells HX5.out).1 2 _ rfl
  have a3 := (obj_cells HX5.out).1 3 _ rfl
  have a4 := (obj_cells HX5.out).1 4 _ rfl
  have a5 := (obj_cells HX5.out).1 5 _ rfl
  have a6 := (obj_cells HX5.out).1 6 _ rfl
  have a7 := (obj_cells HX5.out).1 7 _ rfl
  have a8 := (obj_cells HX5.out).1 8 _ rfl
  have a9 := (obj_cells HX5.out).1 9 _ rfl
  have a10 := (obj_cells HX5.out).1 10 _ rfl
  have a11 := (obj_cells HX5.out).1 11 _ rfl
  have a12 := (obj_cells HX5.out).1 12 _ rfl
  have CC := Lib.hid (ptxt_any tx B pb _ w5 X5.out (by have := HZ.out; simp only [List.length_append] at this ⊢; omega))
  go_upto_region 13 with (go_at_call 70; refine CC.out.mono ?_; rintro e w6 ⟨rfl, h1, h2⟩; have X6 := Lib.hid h1; have K6 := Lib.hid h2; clear h1 h2)
  clear a0 a1 a2 a3 a4 a5 a6 a7 a8 a9 a10 a11 a12 CC
  have HX6 := Lib.hid (K6.out.old HX5.out NE.out (by decide))
  have KK6 := Lib.hid (KK5.out.trans K6.out)
  have a0 := (obj_cells HX6.out).1 0 _ rfl
  have a1 := (obj_cells HX6.out).1 1 _ rfl
  have a2 := (obj_cells HX6.out).1 2 _ rfl
  have a3 := (obj_cells HX6.out).1 3 _ rfl
  have a4 := (obj_cells HX6.out).1 4 _ rfl
  have a5 := (obj_cells HX6.out).1 5 _ rfl
  have a6 := (obj_cells HX6.out).1 6 _ rfl
  have a7 := (obj_cells HX6.out).1 7 _ rfl
  have a8 := (obj_cells HX6.out).1 8 _ rfl
  have a9 := (obj_cells HX6.out).1 9 _ rfl
  have a10 := (obj_cells HX6.out).1 10 _ rfl
  have a11 := (obj_cells HX6.out).1 11 _ rfl
  have a12 := (obj_cells HX6.out).1 12 _ rfl
  have CC := Lib.hid (ptree_any w0 ro nx ns np nc (may_nodes LM.out.2.2.2).2.1 (may_nodes LM.out.2.2.2).2.2.1 (fun x hx => ((may_nodes LM.out.2.2.2).2.2.2 x hx).1) (by have := (may_nodes LM.out.2.2.2).1; omega) HR.out.ns pb _ w6 (HB.out.trans (show Below w0.heap.size w w6 by rw [HE.out]; exact KK6.out.1)) (by rw [HE.out]; exact X6.out) HZ.out)
  rw [HE.out, HN3.out] at CC
  go_wp2_with (go_at_call 71; refine CC.out.mono ?_; rintro e w7 ⟨rfl, h1, h2⟩; have X7 := Lib.hid h1; have K7 := Lib.hid h2; clear h1 h2)
  refine bodyPost_ret (results_none rfl _ _ _) rfl ?_
  exact ⟨rfl, X7.out, KK6.out.trans K7.out⟩

/-- A message that may be, at the putter. -/
theorem pmsg_any (w0 : World) (m : Ms) (q : Mq) (hm : MsMay m) (hr : MsR w0 m q) (pb : Nat) (e : List UInt8) (w : World) (hb : Below w0.heap.size w0 w) (h : PX w w0.heap.size pb e) (hz : (e ++ msgC m []).length ≤ 70368744177664) : Calls Tryz.prog 21 #[.pointer (some ⟨pb, 0, none⟩), msV m q] w (PutS w0.heap.size pb (e ++ msgC m []) w) := by
  rcases hm.2 with g | g | g
  · exact pmsg_poll w0 m q hm g.1 hr pb e w hb h hz
  · exact pmsg_changes w0 m q hm g.1 hr pb e w hb h hz
  · exact pmsg_snap w0 m q hm g.1 hr pb e w hb h hz

end Go.Proofs.YtjmfjlffcopnnaaGreatDoor
