/-
  Pe, Pf, Pg, in one text. Conditions: as each theorem's premises say.
-/
import Derived.Test.YtjmfjlffcopnnaaGreatDoorPF39
namespace Go.Proofs.YtjmfjlffcopnnaaGreatDoor
open Go.RowKit
open Go.Proofs.YtjmfjlffcopnnaaGreatDoor.K (C RowC PieceAt)

set_option maxRecDepth 100000 in
set_option maxHeartbeats 4000000 in
theorem pss_any (w0 : World) (xs : List St) (p : Option Addr) (n cap : Nat) (hn : xs.length = n) (hr : StepsR w0 p xs) (hx : ∀ x ∈ xs, StP x) (hl : n ≤ 140737488355328) (pb : Nat) (e : List UInt8) (w : World) (hb : Below w0.heap.size w0 w) (h : PX w w0.heap.size pb e) (hz : (e ++ listC stepC xs []).length ≤ 70368744177664) : Calls Tryz.prog 107 #[.pointer (some ⟨pb, 0, none⟩), .slice p n cap, .func (.func 108) #[.pointer (some ⟨pb, 0, none⟩)] #[]] w (PutS w0.heap.size pb (e ++ listC stepC xs []) w) := by
  rw [list_head stepC e xs hn] at hz ⊢
  have P := Lib.hid (pnum_any (n : Int) ⟨by omega, by omega⟩ w0.heap.size pb e w h (by rw [List.length_append] at hz; omega))
  generalize e ++ numC (n : Int) [] = E at P hz ⊢
  have HR := Lib.hid hr; have HX := Lib.hid hx; have HZ := Lib.hid hz; have HN := Lib.hid hn; have HB := Lib.hid hb; have HS := Lib.hid h.size
  clear hr hx hz hn h hb
  obtain ⟨B, hB⟩ : ∃ B, w0.heap.size = B := ⟨_, rfl⟩
  rw [hB] at P HS ⊢
  have HE := Lib.hid hB
  clear hB
  go_enter Tryz.func107, Tryz.ntmps107
  go_upto_region 1 with (go_at_call 64; refine P.out.mono ?_; rintro e w1 ⟨rfl, h1, h2⟩; have X1 := Lib.hid h1; have K1 := Lib.hid h2; clear h1 h2)
  go_wp2_with fail
  go_loopw [14, 7] (fun a _ wr => ∃ i : Nat, i ≤ n ∧ a = .int .i64 i ∧ Hid (PX wr B pb (E ++ rowC stepC (xs.take i) [])) ∧ Hid (Keep B pb w wr)) (fun a _ _ => n - (intOf a).toNat)
  case atStart => exact ⟨0, by omega, rfl, Lib.hid (by simpa [rowC] using X1.out), K1⟩
  case round =>
    obtain ⟨i, hi, rfl, X, K⟩ := hrel
    by_cases hlt : i < n
    · obtain ⟨x, hx⟩ : ∃ x, xs[i]? = some x := ⟨_, List.getElem?_eq_getElem (by rw [HN.out]; exact hlt)⟩
      have bw : Below w0.heap.size w0 wr := by have := HB.out.trans (show Below w0.heap.size w wr by rw [HE.out]; exact K.out.1); exact this
      obtain ⟨ab, ao, kp, kc, rfl, hat, hrow⟩ := HR.out i x hx
      have m1 := hat.below bw
      have n0 : wr.cell? ⟨ab, ao + i * 6, none⟩ = some (.int .i64 x.kd) := m1 0 _ rfl
      have n1 : wr.cell? ⟨ab, ao + i * 6 + 1, none⟩ = some (.int .i64 x.id) := m1 1 _ rfl
      have n2 : wr.cell? ⟨ab, ao + i * 6 + 2, none⟩ = some (.int .i64 x.nd) := m1 2 _ rfl
      have n3 : wr.cell? ⟨ab, ao + i * 6 + 3, none⟩ = some (.int .i64 x.fr) := m1 3 _ rfl
      have n4 : wr.cell? ⟨ab, ao + i * 6 + 4, none⟩ = some (.int .i64 (St.to x)) := m1 4 _ rfl
      have n5 : wr.cell? ⟨ab, ao + i * 6 + 5, none⟩ = some (.slice kp x.kids.length kc) := m1 5 _ rfl
      have ROW := Lib.hid hrow
      clear hrow
      clear m1 hat
      have hp := Lib.hid (HX.out x (List.mem_of_getElem? hx))
      have FT := Lib.hid (row_fits step_app hx HZ.out)
      have RN := Lib.hid (row_nxt (E := E) step_app hx)
      clear hx bw
      go_upto_region 4 with fail
      have HXB : Hid ((wr.alloc (.cells #[.int .i64 x.kd, .int .i64 x.id, .int .i64 x.nd, .int .i64 x.fr, .int .i64 (St.to x), .slice kp x.kids.length kc] 51)).heap[wr.heap.size]? = some (.cells #[.int .i64 x.kd, .int .i64 x.id, .int .i64 x.nd, .int .i64 x.fr, .int .i64 (St.to x), .slice kp x.kids.length kc] 51 (0, 0))) := Lib.hid (heap_alloc_new wr _)
      have X5 : Hid (PX (wr.alloc (.cells #[.int .i64 x.kd, .int .i64 x.id, .int .i64 x.nd, .int .i64 x.fr, .int .i64 (St.to x), .slice kp x.kids.length kc] 51)) B pb (E ++ rowC stepC (xs.take i) [])) := Lib.hid (X.out.alloc _)
      have K5 : Hid (Keep B pb w (wr.alloc (.cells #[.int .i64 x.kd, .int .i64 x.id, .int .i64 x.nd, .int .i64 x.fr, .int .i64 (St.to x), .slice kp x.kids.length kc] 51))) := Lib.hid (K.out.alloc HS.out _)
      clear n0 n1 n2 n3 n4 n5
      generalize wr.alloc (.cells #[.int .i64 x.kd, .int .i64 x.id, .int .i64 x.nd, .int .i64 x.fr, .int .i64 (St.to x), .slice kp x.kids.length kc] 51) = w5 at HXB X5 K5 ⊢
      obtain ⟨yb, hyb⟩ : ∃ b, wr.heap.size = b := ⟨_, rfl⟩
      rw [hyb] at HXB ⊢
      clear hyb
      have OV := Lib.hid (pover_any B pb _ w5 X5.out)
      by_cases ho : 1000000 < (E ++ rowC stepC (xs.take i) []).length
      · rw [decide_eq_true ho] at OV
        have ST := Lib.hid (X5.out.rowStop step_app ho)
        clear ho X X5
        go_wp2_with (go_at_call 22; refine OV.out.mono ?_; rintro e w6 ⟨rfl, rfl⟩)
        refine bodyPost_ret (results_none rfl _ _ _) rfl ?_
        exact ⟨rfl, ST.out, K5.out⟩
      · rw [decide_eq_false ho] at OV
        have B5 : Below w0.heap.size w0 w5 := by have := HB.out.trans (show Below w0.heap.size w w5 by rw [HE.out]; exact K5.out.1); exact this
        have ONE := Lib.hid (pstep_any w0 x kp kc hp.out ROW.out pb _ w5 B5 (by rw [HE.out]; exact X5.out) FT.out)
        rw [HE.out, RN.out] at ONE
        have q0 := (obj_cells HXB.out).1 0 _ rfl
        have q1 := (obj_cells HXB.out).1 1 _ rfl
        have q2 := (obj_cells HXB.out).1 2 _ rfl
        have q3 := (obj_cells HXB.out).1 3 _ rfl
        have q4 := (obj_cells HXB.out).1 4 _ rfl
        have q5 := (obj_cells HXB.out).1 5 _ rfl
        clear ho X X5 B5
        go_wp2_with (first | (go_at_call 22; refine OV.out.mono ?_; rintro e w6 ⟨rfl, rfl⟩) | (go_at_call 108; refine ONE.out.mono ?_; rintro e w7 ⟨rfl, h1, h2⟩; have X2 := Lib.hid h1; have K2 := Lib.hid h2; clear h1 h2))
        go_roundw
        case rel => exact ⟨i + 1, by omega, by go_num, X2, Lib.hid (K5.out.trans K2.out)⟩
        case measure => simp [intOf]; omega
    · go_wp2_with fail
      refine bodyPost_ret (results_none rfl _ _ _) rfl ?_
      refine ⟨rfl, ?_, K.out⟩
      have := X.out
      rwa [List.take_of_length_le (by rw [HN.out]; omega)] at this

set_option maxRecDepth 100000 in
set_option maxHeartbeats 4000000 in
theorem pns_any (w0 : World) (xs : List Nd) (p : Option Addr) (n cap : Nat) (hn : xs.length = n) (hr : NodesR w0 p xs) (hx : ∀ x ∈ xs, NdP x) (hl : n ≤ 140737488355328) (pb : Nat) (e : List UInt8) (w : World) (hb : Below w0.heap.size w0 w) (h : PX w w0.heap.size pb e) (hz : (e ++ listC nodeC xs []).length ≤ 70368744177664) : Calls Tryz.prog 109 #[.pointer (some ⟨pb, 0, none⟩), .slice p n cap, .func (.func 110) #[.pointer (some ⟨pb, 0, none⟩)] #[]] w (PutS w0.heap.size pb (e ++ listC nodeC xs []) w) := by
  rw [list_head nodeC e xs hn] at hz ⊢
  have P := Lib.hid (pnum_any (n : Int) ⟨by omega, by omega⟩ w0.heap.size pb e w h (by rw [List.length_append] at hz; omega))
  generalize e ++ numC (n : Int) [] = E at P hz ⊢
  have HR := Lib.hid hr; have HX := Lib.hid hx; have HZ := Lib.hid hz; have HN := Lib.hid hn; have HB := Lib.hid hb; have HS := Lib.hid h.size
  clear hr hx hz hn h hb
  obtain ⟨B, hB⟩ : ∃ B, w0.heap.size = B := ⟨_, rfl⟩
  rw [hB] at P HS ⊢
  have HE := Lib.hid hB
  clear hB
  go_enter Tryz.func109, Tryz.ntmps109
  go_upto_region 1 with (go_at_call 64; refine P.out.mono ?_; rintro e w1 ⟨rfl, h1, h2⟩; have X1 := Lib.hid h1; have K1 := Lib.hid h2; clear h1 h2)
  go_wp2_with fail
  go_loopw [14, 7] (fun a _ wr => ∃ i : Nat, i ≤ n ∧ a = .int .i64 i ∧ Hid (PX wr B pb (E ++ rowC nodeC (xs.take i) [])) ∧ Hid (Keep B pb w wr)) (fun a _ _ => n - (intOf a).toNat)
  case atStart => exact ⟨0, by omega, rfl, Lib.hid (by simpa [rowC] using X1.out), K1⟩
  case round =>
    obtain ⟨i, hi, rfl, X, K⟩ := hrel
    by_cases hlt : i < n
    · obtain ⟨x, hx⟩ : ∃ x, xs[i]? = some x := ⟨_, List.getElem?_eq_getElem (by rw [HN.out]; exact hlt)⟩
      have bw : Below w0.heap.size w0 wr := by have := HB.out.trans (show Below w0.heap.size w wr by rw [HE.out]; exact K.out.1); exact this
      obtain ⟨ab, ao, kp, kc, rfl, hat, hrow⟩ := HR.out i x hx
      have m1 := hat.below bw
      have n0 : wr.cell? ⟨ab, ao + i * 5, none⟩ = some (.int .i64 x.id) := m1 0 _ rfl
      have n1 : wr.cell? ⟨ab, ao + i * 5 + 1, none⟩ = some (.int .i64 x.kd) := m1 1 _ rfl
      have n2 : wr.cell? ⟨ab, ao + i * 5 + 2, none⟩ = some (.int .i64 x.fr) := m1 2 _ rfl
      have n3 : wr.cell? ⟨ab, ao + i * 5 + 3, none⟩ = some (.int .i64 (Nd.to x)) := m1 3 _ rfl
      have n4 : wr.cell? ⟨ab, ao + i * 5 + 4, none⟩ = some (.slice kp x.kids.length kc) := m1 4 _ rfl
      have ROW := Lib.hid hrow
      clear hrow
      clear m1 hat
      have hp := Lib.hid (HX.out x (List.mem_of_getElem? hx))
      have FT := Lib.hid (row_fits node_app hx HZ.out)
      have RN := Lib.hid (row_nxt (E := E) node_app hx)
      clear hx bw
      go_upto_region 4 with fail
      have HXB : Hid ((wr.alloc (.cells #[.int .i64 x.id, .int .i64 x.kd, .int .i64 x.fr, .int .i64 (Nd.to x), .slice kp x.kids.length kc] 109)).heap[wr.heap.size]? = some (.cells #[.int .i64 x.id, .int .i64 x.kd, .int .i64 x.fr, .int .i64 (Nd.to x), .slice kp x.kids.length kc] 109 (0, 0))) := Lib.hid (heap_alloc_new wr _)
      have X5 : Hid (PX (wr.alloc (.cells #[.int .i64 x.id, .int .i64 x.kd, .int .i64 x.fr, .int .i64 (Nd.to x), .slice kp x.kids.length kc] 109)) B pb (E ++ rowC nodeC (xs.take i) [])) := Lib.hid (X.out.alloc _)
      have K5 : Hid (Keep B pb w (wr.alloc (.cells #[.int .i64 x.id, .int .i64 x.kd, .int .i64 x.fr, .int .i64 (Nd.to x), .slice kp x.kids.length kc] 109))) := Lib.hid (K.out.alloc HS.out _)
      clear n0 n1 n2 n3 n4
      generalize wr.alloc (.cells #[.int .i64 x.id, .int .i64 x.kd, .int .i64 x.fr, .int .i64 (Nd.to x), .slice kp x.kids.length kc] 109) = w5 at HXB X5 K5 ⊢
      obtain ⟨yb, hyb⟩ : ∃ b, wr.heap.size = b := ⟨_, rfl⟩
      rw [hyb] at HXB ⊢
      clear hyb
      have OV := Lib.hid (pover_any B pb _ w5 X5.out)
      by_cases ho : 1000000 < (E ++ rowC nodeC (xs.take i) []).length
      · rw [decide_eq_true ho] at OV
        have ST := Lib.hid (X5.out.rowStop node_app ho)
        clear ho X X5
        go_wp2_with (go_at_call 22; refine OV.out.mono ?_; rintro e w6 ⟨rfl, rfl⟩)
        refine bodyPost_ret (results_none rfl _ _ _) rfl ?_
        exact ⟨rfl, ST.out, K5.out⟩
      · rw [decide_eq_false ho] at OV
        have B5 : Below w0.heap.size w0 w5 := by have := HB.out.trans (show Below w0.heap.size w w5 by rw [HE.out]; exact K5.out.1); exact this
        have ONE := Lib.hid (pnode_any w0 x kp kc hp.out ROW.out pb _ w5 B5 (by rw [HE.out]; exact X5.out) FT.out)
        rw [HE.out, RN.out] at ONE
        have q0 := (obj_cells HXB.out).1 0 _ rfl
        have q1 := (obj_cells HXB.out).1 1 _ rfl
        have q2 := (obj_cells HXB.out).1 2 _ rfl
        have q3 := (obj_cells HXB.out).1 3 _ rfl
        have q4 := (obj_cells HXB.out).1 4 _ rfl
        clear ho X X5 B5
        go_wp2_with (first | (go_at_call 22; refine OV.out.mono ?_; rintro e w6 ⟨rfl, rfl⟩) | (go_at_call 110; refine ONE.out.mono ?_; rintro e w7 ⟨rfl, h1, h2⟩; have X2 := Lib.hid h1; have K2 := Lib.hid h2; clear h1 h2))
        go_roundw
        case rel => exact ⟨i + 1, by omega, by go_num, X2, Lib.hid (K5.out.trans K2.out)⟩
        case measure => simp [intOf]; omega
    · go_wp2_with fail
      refine bodyPost_ret (results_none rfl _ _ _) rfl ?_
      refine ⟨rfl, ?_, K.out⟩
      have := X.out
      rwa [List.take_of_length_le (by rw [HN.out]; omega)] at this

end Go.Proofs.YtjmfjlffcopnnaaGreatDoor

namespace Go.Proofs.YtjmfjlffcopnnaaGreatDoor
open Go.RowKit
open Go.Proofs.YtjmfjlffcopnnaaGreatDoor.K (C RowC PieceAt)

set_option maxRecDepth 100000 in
set_option maxHeartbeats 4000000 in
theorem pent_any (w0 : World) (s : En) (ep : Option Addr) (ec : Nat) (dp : Option Addr) (dc : Nat) (hs : EnP s) (hk1 : RowC w0 ep s.ed) (hk2 : StepsR w0 dp s.dl) (pb : Nat) (e : List UInt8) (w : World) (hb : Below w0.heap.size w0 w) (h : PX w w0.heap.size pb e) (hz : (e ++ entC s []).length ≤ 70368744177664) : Calls Tryz.prog 68 #[.pointer (some ⟨pb, 0, none⟩), .agg #[.int .i64 s.cl, .int .i64 s.sq, .slice ep s.ed.length ec, .slice dp s.dl.length dc]] w (PutS w0.heap.size pb (e ++ entC s []) w) := by
  have e1 : e ++ entC s [] = ((e ++ rowC numC [s.cl, s.sq] []) ++ listC compC s.ed []) ++ listC stepC s.dl [] := by
    rw [List.append_assoc, ← (list_app comp_app).nil, List.append_assoc, ← (row_app num_app).nil]
    rfl
  rw [e1] at hz ⊢
  have HZ := Lib.hid hz; have HB := Lib.hid hb; have HH := Lib.hid h
  clear hz hb h e1
  obtain ⟨B, hB⟩ : ∃ B, w0.heap.size = B := ⟨_, rfl⟩
  rw [hB] at HH ⊢
  have hlt := HH.out.lt
  have hbs := HH.out.size
  have HE := Lib.hid hB
  clear hB
  obtain ⟨p1, p2, p3, p4, p5, p6⟩ := hs
  have HK1 := Lib.hid hk1; have HK2 := Lib.hid hk2; have H3 := Lib.hid p3; have H4 := Lib.hid p4
  clear hk1 hk2 p3 p4
  obtain ⟨cl, sq, ed, dl⟩ := s
  dsimp only at *
  obtain ⟨en, hen⟩ : ∃ n, ed.length = n := ⟨_, rfl⟩
  obtain ⟨dn, hdn⟩ : ∃ n, dl.length = n := ⟨_, rfl⟩
  rw [hen] at p5
  rw [hdn] at p6
  rw [hen, hdn]
  have HN1 := Lib.hid hen; have HN2 := Lib.hid hdn
  clear hen hdn
  go_enter Tryz.func68, Tryz.ntmps68
  go_upto_region 1 with fail
  have HX : Hid ((w.alloc (.cells #[.int .i64 cl, .int .i64 sq, .slice ep en ec, .slice dp dn dc] 54)).heap[w.heap.size]? = some (.cells #[.int .i64 cl, .int .i64 sq, .slice ep en ec, .slice dp dn dc] 54 (0, 0))) := Lib.hid (heap_alloc_new w _)
  have X1 : Hid (PX (w.alloc (.cells #[.int .i64 cl, .int .i64 sq, .slice ep en ec, .slice dp dn dc] 54)) B pb e) := Lib.hid (HH.out.alloc _)
  have K1 : Hid (Keep B pb w (w.alloc (.cells #[.int .i64 cl, .int .i64 sq, .slice ep en ec, .slice dp dn dc] 54))) := Lib.hid ((Keep.refl B pb w).alloc hbs _)
  generalize w.alloc (.cells #[.int .i64 cl, .int .i64 sq, .slice ep en ec, .slice dp dn dc] 54) = w1 at HX X1 K1 ⊢
  obtain ⟨xb, hxb⟩ : ∃ b, w.heap.size = b := ⟨_, rfl⟩
  rw [hxb] at HX ⊢
  have NE : Hid (xb ≠ pb) := Lib.hid (by omega)
  clear hxb hlt hbs HH
  have NS := Lib.hid (pnums_own [cl, sq] 2 rfl (by intro x hx; simp only [List.mem_cons, List.not_mem_nil, or_false] at hx; rcases hx with rfl | rfl <;> assumption) B pb e w1 X1.out (by decide) (by have := HZ.out; rw [List.length_append, List.length_append] at this; omega) #[.int .i64 cl, .int .i64 sq] rfl)
  have a0 := (obj_cells HX.out).1 0 _ rfl
  have a1 := (obj_cells HX.out).1 1 _ rfl
  have a2 := (obj_cells HX.out).1 2 _ rfl
  have a3 := (obj_cells HX.out).1 3 _ rfl
  go_upto_region 2 with (go_at_call 63; refine NS.out.mono ?_; rintro e w2 ⟨rfl, h1, h2⟩; have X2 := Lib.hid h1; have K2 := Lib.hid h2; clear h1 h2)
  clear a0 a1 a2 a3 NS
  have HX2 := Lib.hid (K2.out.old HX.out NE.out (by decide))
  have KK2 := Lib.hid (K1.out.trans K2.out)
  have a0 := (obj_cells HX2.out).1 0 _ rfl
  have a1 := (obj_cells HX2.out).1 1 _ rfl
  have a2 := (obj_cells HX2.out).1 2 _ rfl
  have a3 := (obj_cells HX2.out).1 3 _ rfl
  have CC := Lib.hid (pcs_any w0 ed ep en ec HN1.out HK1.out H3.out p5 pb _ w2 (HB.out.trans (show Below w0.heap.size w w2 by rw [HE.out]; exact KK2.out.1)) (by rw [HE.out]; exact X2.out) (by have := HZ.out; rw [List.length_append] at this; omega))
  rw [HE.out] at CC
  go_upto_region 3 with (go_at_call 65; refine CC.out.mono ?_; rintro e w3 ⟨rfl, h1, h2⟩; have X3 := Lib.hid h1; have K3 := Lib.hid h2; clear h1 h2)
  clear a0 a1 a2 a3 CC
  have HX3 := Lib.hid (K3.out.old HX2.out NE.out (by decide))
  have KK3 := Lib.hid (KK2.out.trans K3.out)
  have a0 := (obj_cells HX3.out).1 0 _ rfl
  have a1 := (obj_cells HX3.out).1 1 _ rfl
  have a2 := (obj_cells HX3.out).1 2 _ rfl
  have a3 := (obj_cells HX3.out).1 3 _ rfl
  have CC := Lib.hid (pss_any w0 dl dp dn dc HN2.out HK2.out H4.out p6 pb _ w3 (HB.out.trans (show Below w0.heap.size w w3 by rw [HE.out]; exact KK3.out.1)) (by rw [HE.out]; exact X3.out) HZ.out)
  rw [HE.out] at CC
  go_wp2_with (go_at_call 107; refine CC.out.mono ?_; rintro e w4 ⟨rfl, h1, h2⟩; have X4 := Lib.hid h1; have K4 := Lib.hid h2; clear h1 h2)
  refine bodyPost_ret (results_none rfl _ _ _) rfl ?_
  exact ⟨rfl, X4.out, KK3.out.trans K4.out⟩

set_option maxRecDepth 100000 in
set_option maxHeartbeats 4000000 in
theorem ptree_any (w0 : World) (ro nx : Int) (ns : List Nd) (np : Option Addr) (nc : Nat) (h1 : NmP ro) (h2 : NmP nx) (h3 : ∀ x ∈ ns, NdP x) (h4 : ns.length ≤ 140737488355328) (hk1 : NodesR w0 np ns) (pb : Nat) (e : List UInt8) (w : World) (hb : Below w0.heap.size w0 w) (h : PX w w0.heap.size pb e) (hz : (e ++ treeC ro nx ns []).length ≤ 70368744177664) : Calls Tryz.prog 71 #[.pointer (some ⟨pb, 0, none⟩), .agg #[.int .i64 ro, .int .i64 nx, .slice np ns.length nc]] w (PutS w0.heap.size pb (e ++ treeC ro nx ns []) w) := by
  have e1 : e ++ treeC ro nx ns [] = (e ++ rowC numC [ro, nx] []) ++ listC nodeC ns [] := by
    rw [List.append_assoc, ← (row_app num_app).nil]
    rfl
  rw [e1] at hz ⊢
  have HZ := Lib.hid hz; have HB := Lib.hid hb; have HH := Lib.hid h
  clear hz hb h e1
  obtain ⟨B, hB⟩ : ∃ B, w0.heap.size = B := ⟨_, rfl⟩
  rw [hB] at HH ⊢
  have hlt := HH.out.lt
  have hbs := HH.out.size
  have HE := Lib.hid hB
  clear hB
  have HK1 := Lib.hid hk1; have H3 := Lib.hid h3
  clear hk1 h3
  obtain ⟨nn, hen⟩ : ∃ n, ns.length = n := ⟨_, rfl⟩
  rw [hen] at h4 ⊢
  have HN1 := Lib.hid hen
  clear hen
  go_enter Tryz.func71, Tryz.ntmps71
  go_upto_region 1 with fail
  have HX : Hid ((w.alloc (.cells #[.int .i64 ro, .int .i64 nx, .slice np nn nc] 26)).heap[w.heap.size]? = some (.cells #[.int .i64 ro, .int .i64 nx, .slice np nn nc] 26 (0, 0))) := Lib.hid (heap_alloc_new w _)
  have X1 : Hid (PX (w.alloc (.cells #[.int .i64 ro, .int .i64 nx, .slice np nn nc] 26)) B pb e) := Lib.hid (HH.out.alloc _)
  have K1 : Hid (Keep B pb w (w.alloc (.cells #[.int .i64 ro, .int .i64 nx, .slice np nn nc] 26))) := Lib.hid ((Keep.refl B pb w).alloc hbs _)
  generalize w.alloc (.cells #[.int .i64 ro, .int .i64 nx, .slice np nn nc] 26) = w1 at HX X1 K1 ⊢
  obtain ⟨xb, hxb⟩ : ∃ b, w.heap.size = b := ⟨_, rfl⟩
  rw [hxb] at HX ⊢
  have NE : Hid (xb ≠ pb) := Lib.hid (by omega)
  clear hxb hlt hbs HH
  have NS := Lib.hid (pnums_own [ro, nx] 2 rfl (by intro x hx; simp only [List.mem_cons, List.not_mem_nil, or_false] at hx; rcases hx with rfl | rfl <;> assumption) B pb e w1 X1.out (by decide) (by have := HZ.out; rw [List.length_append] at this; omega) #[.int .i64 ro, .int .i64 nx] rfl)
  have a0 := (obj_cells HX.out).1 0 _ rfl
  have a1 := (obj_cells HX.out).1 1 _ rfl
  have a2 := (obj_cells HX.out).1 2 _ rfl
  go_upto_region 2 with (go_at_call 63; refine NS.out.mono ?_; rintro e w2 ⟨rfl, h1, h2⟩; have X2 := Lib.hid h1; have K2 := Lib.hid h2; clear h1 h2)
  clear a0 a1 a2 NS
  have HX2 := Lib.hid (K2.out.old HX.out NE.out (by decide))
  have KK2 := Lib.hid (K1.out.trans K2.out)
  have a0 := (obj_cells HX2.out).1 0 _ rfl
  have a1 := (obj_cells HX2.out).1 1 _ rfl
  have a2 := (obj_cells HX2.out).1 2 _ rfl
  have CC := Lib.hid (pns_any w0 ns np nn nc HN1.out HK1.out H3.out h4 pb _ w2 (HB.out.trans (show Below w0.heap.size w w2 by rw [HE.out]; exact KK2.out.1)) (by rw [HE.out]; exact X2.out) HZ.out)
  rw [HE.out] at CC
  go_wp2_with (go_at_call 109; refine CC.out.mono ?_; rintro e w3 ⟨rfl, h1, h2⟩; have X3 := Lib.hid h1; have K3 := Lib.hid h2; clear h1 h2)
  refine bodyPost_ret (results_none rfl _ _ _) rfl ?_
  exact ⟨rfl, X3.out, KK2.out.trans K3.out⟩

end Go.Proofs.YtjmfjlffcopnnaaGreatDoor

namespace Go.Proofs.YtjmfjlffcopnnaaGreatDoor
open Go.RowKit
open Go.Proofs.YtjmfjlffcopnnaaGreatDoor.K (C RowC PieceAt)

set_option maxRecDepth 100000 in
set_option maxHeartbeats 4000000 in
theorem pes_any (w0 : World) (xs : List En) (p : Option Addr) (n cap : Nat) (hn : xs.length = n) (hr : EntsR w0 p xs) (hx : ∀ x ∈ xs, EnP x) (hl : n ≤ 140737488355328) (pb : Nat) (e : List UInt8) (w : World) (hb : Below w0.heap.size w0 w) (h : PX w w0.heap.size pb e) (hz : (e ++ listC entC xs []).length ≤ 70368744177664) : Calls Tryz.prog 67 #[.pointer (some ⟨pb, 0, none⟩), .slice p n cap, .func (.func 68) #[.pointer (some ⟨pb, 0, none⟩)] #[]] w (PutS w0.heap.size pb (e ++ listC entC xs []) w) := by
  rw [list_head entC e xs hn] at hz ⊢
  have P := Lib.hid (pnum_any (n : Int) ⟨by omega, by omega⟩ w0.heap.size pb e w h (by rw [List.length_append] at hz; omega))
  generalize e ++ numC (n : Int) [] = E at P hz ⊢
  have HR := Lib.hid hr; have HX := Lib.hid hx; have HZ := Lib.hid hz; have HN := Lib.hid hn; have HB := Lib.hid hb; have HS := Lib.hid h.size
  clear hr hx hz hn h hb
  obtain ⟨B, hB⟩ : ∃ B, w0.heap.size = B := ⟨_, rfl⟩
  rw [hB] at P HS ⊢
  have HE := Lib.hid hB
  clear hB
  go_enter Tryz.func67, Tryz.ntmps67
  go_upto_region 1 with (go_at_call 64; refine P.out.mono ?_; rintro e w1 ⟨rfl, h1, h2⟩; have X1 := Lib.hid h1; have K1 := Lib.hid h2; clear h1 h2)
  go_wp2_with fail
  go_loopw [14, 7] (fun a _ wr => ∃ i : Nat, i ≤ n ∧ a = .int .i64 i ∧ Hid (PX wr B pb (E ++ rowC entC (xs.take i) [])) ∧ Hid (Keep B pb w wr)) (fun a _ _ => n - (intOf a).toNat)
  case atStart => exact ⟨0, by omega, rfl, Lib.hid (by simpa [rowC] using X1.out), K1⟩
  case round =>
    obtain ⟨i, hi, rfl, X, K⟩ := hrel
    by_cases hlt : i < n
    · obtain ⟨x, hx⟩ : ∃ x, xs[i]? = some x := ⟨_, List.getElem?_eq_getElem (by rw [HN.out]; exact hlt)⟩
      have bw : Below w0.heap.size w0 wr := by have := HB.out.trans (show Below w0.heap.size w wr by rw [HE.out]; exact K.out.1); exact this
      obtain ⟨ab, ao, ep, ec, dp, dc, rfl, hat, hrow1, hrow2⟩ := HR.out i x hx
      have m1 := hat.below bw
      have n0 : wr.cell? ⟨ab, ao + i * 4, none⟩ = some (.int .i64 x.cl) := m1 0 _ rfl
      have n1 : wr.cell? ⟨ab, ao + i * 4 + 1, none⟩ = some (.int .i64 x.sq) := m1 1 _ rfl
      have n2 : wr.cell? ⟨ab, ao + i * 4 + 2, none⟩ = some (.slice ep x.ed.length ec) := m1 2 _ rfl
      have n3 : wr.cell? ⟨ab, ao + i * 4 + 3, none⟩ = some (.slice dp x.dl.length dc) := m1 3 _ rfl
      have ROW1 := Lib.hid hrow1
      have ROW2 := Lib.hid hrow2
      clear hrow1 hrow2
      clear m1 hat
      have hp := Lib.hid (HX.out x (List.mem_of_getElem? hx))
      have FT := Lib.hid (row_fits ent_app hx HZ.out)
      have RN := Lib.hid (row_nxt (E := E) ent_app hx)
      clear hx bw
      go_upto_region 4 with fail
      have HXB : Hid ((wr.alloc (.cells #[.int .i64 x.cl, .int .i64 x.sq, .slice ep x.ed.length ec, .slice dp x.dl.length dc] 54)).heap[wr.heap.size]? = some (.cells #[.int .i64 x.cl, .int .i64 x.sq, .slice ep x.ed.length ec, .slice dp x.dl.length dc] 54 (0, 0))) := Lib.hid (heap_alloc_new wr _)
      have X5 : Hid (PX (wr.alloc (.cells #[.int .i64 x.cl, .int .i64 x.sq, .slice ep x.ed.length ec, .slice dp x.dl.length dc] 54)) B pb (E ++ rowC entC (xs.take i) [])) := Lib.hid (X.out.alloc _)
      have K5 : Hid (Keep B pb w (wr.alloc (.cells #[.int .i64 x.cl, .int .i64 x.sq, .slice ep x.ed.length ec, .slice dp x.dl.length dc] 54))) := Lib.hid (K.out.alloc HS.out _)
      clear n0 n1 n2 n3
      generalize wr.alloc (.cells #[.int .i64 x.cl, .int .i64 x.sq, .slice ep x.ed.length ec, .slice dp x.dl.length dc] 54) = w5 at HXB X5 K5 ⊢
      obtain ⟨yb, hyb⟩ : ∃ b, wr.heap.size = b := ⟨_, rfl⟩
      rw [hyb] at HXB ⊢
      clear hyb
      have OV := Lib.hid (pover_any B pb _ w5 X5.out)
      by_cases ho : 1000000 < (E ++ rowC entC (xs.take i) []).length
      · rw [decide_eq_true ho] at OV
        have ST := Lib.hid (X5.out.rowStop ent_app ho)
        clear ho X X5
        go_wp2_with (go_at_call 22; refine OV.out.mono ?_; rintro e w6 ⟨rfl, rfl⟩)
        refine bodyPost_ret (results_none rfl _ _ _) rfl ?_
        exact ⟨rfl, ST.out, K5.out⟩
      · rw [decide_eq_false ho] at OV
        have B5 : Below w0.heap.size w0 w5 := by have := HB.out.trans (show Below w0.heap.size w w5 by rw [HE.out]; exact K5.out.1); exact this
        have ONE := Lib.hid (pent_any w0 x ep ec dp dc hp.out ROW1.out ROW2.out pb _ w5 B5 (by rw [HE.out]; exact X5.out) FT.out)
        rw [HE.out, RN.out] at ONE
        have q0 := (obj_cells HXB.out).1 0 _ rfl
        have q1 := (obj_cells HXB.out).1 1 _ rfl
        have q2 := (obj_cells HXB.out).1 2 _ rfl
        have q3 := (obj_cells HXB.out).1 3 _ rfl
        clear ho X X5 B5
        go_wp2_with (first | (go_at_call 22; refine OV.out.mono ?_; rintro e w6 ⟨rfl, rfl⟩) | (go_at_call 68; refine ONE.out.mono ?_; rintro e w7 ⟨rfl, h1, h2⟩; have X2 := Lib.hid h1; have K2 := Lib.hid h2; clear h1 h2))
        go_roundw
        case rel => exact ⟨i + 1, by omega, by go_num, X2, Lib.hid (K5.out.trans K2.out)⟩
        case measure => simp [intOf]; omega
    · go_wp2_with fail
      refine bodyPost_ret (results_none rfl _ _ _) rfl ?_
      refine ⟨rfl, ?_, K.out⟩
      have := X.out
      rwa [List.take_of_length_le (by rw [HN.out]; omega)] at this

end Go.Proofs.YtjmfjlffcopnnaaGreatDoor
