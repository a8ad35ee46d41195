/-
  The program's putter: lists of steps, of nodes: the walks (made by tools/genpp.py). Conditions: as each theorem's premises say.
-/
import Derived.Test.YtjmfjlffcopnnaaDoorPd
namespace Go.Proofs.YtjmfjlffcopnnaaDoor
open Go.RowKit
open Go.Proofs.YtjmfjlffcopnnaaDoor.K (C RowC PieceAt)

set_option maxRecDepth 100000 in
set_option maxHeartbeats 4000000 in
theorem pss_any (w0 : World) (xs : List St) (p : Option Addr) (n cap : Nat) (hn : xs.length = n) (hr : StepsR w0 p xs) (hx : ∀ x ∈ xs, StP x) (hl : n ≤ 140737488355328) (pb : Nat) (e : List UInt8) (w : World) (hb : Below w0.heap.size w0 w) (h : PX w w0.heap.size pb e) (hz : (e ++ listC stepC xs []).length ≤ 70368744177664) : Calls Tryd.prog 55 #[.pointer (some ⟨pb, 0, none⟩), .slice p n cap, .func (.func 56) #[.pointer (some ⟨pb, 0, none⟩)] #[]] w (PutS w0.heap.size pb (e ++ listC stepC xs []) w) := by
  rw [list_head stepC e xs hn] at hz ⊢
  have P := Lib.hid (pnum_any (n : Int) ⟨by omega, by omega⟩ w0.heap.size pb e w h (by rw [List.length_append] at hz; omega))
  generalize e ++ numC (n : Int) [] = E at P hz ⊢
  have HR := Lib.hid hr; have HX := Lib.hid hx; have HZ := Lib.hid hz; have HN := Lib.hid hn; have HB := Lib.hid hb; have HS := Lib.hid h.size
  clear hr hx hz hn h hb
  obtain ⟨B, hB⟩ : ∃ B, w0.heap.size = B := ⟨_, rfl⟩
  rw [hB] at P HS ⊢
  have HE := Lib.hid hB
  clear hB
  go_enter Tryd.func55, Tryd.ntmps55
  go_upto_region 1 with (go_at_call 26; refine P.out.mono ?_; rintro e w1 ⟨rfl, h1, h2⟩; have X1 := Lib.hid h1; have K1 := Lib.hid h2; clear h1 h2)
  go_wp2_with fail
  go_loopw [14, 7] (fun a _ wr => ∃ i : Nat, i ≤ n ∧ a = .int .i64 i ∧ Hid (PX wr B pb (E ++ rowC stepC (xs.take i) [])) ∧ Hid (Keep B pb w wr)) (fun a _ _ => n - (intOf a).toNat)
  case atStart => exact ⟨0, by omega, rfl, Lib.hid (by simpa [rowC] using X1.out), K1⟩
  case round =>
    obtain ⟨i, hi, rfl, X, K⟩ := hrel
    by_cases hlt : i < n
    · obtain ⟨x, hx⟩ : ∃ x, xs[i]? = some x := ⟨_, List.getElem?_eq_getElem (by rw [HN.out]; exact hlt)⟩
      have bw : Below w0.heap.size w0 wr := by have := HB.out.trans (show Below w0.heap.size w wr by rw [HE.out]; exact K.out.1); exact this
      obtain ⟨ab, ao, kp, kc, rfl, hat, hrow⟩ := HR.out i x hx
      have m1 := hat.below bw
      have n0 : wr.cell? ⟨ab, ao + i * 6, none⟩ = some (.int .i64 x.kd) := m1 0 _ rfl
      have n1 : wr.cell? ⟨ab, ao + i * 6 + 1, none⟩ = some (.int .i64 x.id) := m1 1 _ rfl
      have n2 : wr.cell? ⟨ab, ao + i * 6 + 2, none⟩ = some (.int .i64 x.nd) := m1 2 _ rfl
      have n3 : wr.cell? ⟨ab, ao + i * 6 + 3, none⟩ = some (.int .i64 x.fr) := m1 3 _ rfl
      have n4 : wr.cell? ⟨ab, ao + i * 6 + 4, none⟩ = some (.int .i64 (St.to x)) := m1 4 _ rfl
      have n5 : wr.cell? ⟨ab, ao + i * 6 + 5, none⟩ = some (.slice kp x.kids.length kc) := m1 5 _ rfl
      have ROW := Lib.hid hrow
      clear hrow
      clear m1 hat
      have hp := Lib.hid (HX.out x (List.mem_of_getElem? hx))
      have FT := Lib.hid (row_fits step_app hx HZ.out)
      have RN := Lib.hid (row_nxt (E := E) step_app hx)
      clear hx bw
      go_upto_region 4 with fail
      have HXB : Hid ((wr.alloc (.cells #[.int .i64 x.kd, .int .i64 x.id, .int .i64 x.nd, .int .i64 x.fr, .int .i64 (St.to x), .slice kp x.kids.length kc] 45)).heap[wr.heap.size]? = some (.cells #[.int .i64 x.kd, .int .i64 x.id, .int .i64 x.nd, .int .i64 x.fr, .int .i64 (St.to x), .slice kp x.kids.length kc] 45 (0, 0))) := Lib.hid (heap_alloc_new wr _)
      have X5 : Hid (PX (wr.alloc (.cells #[.int .i64 x.kd, .int .i64 x.id, .int .i64 x.nd, .int .i64 x.fr, .int .i64 (St.to x), .slice kp x.kids.length kc] 45)) B pb (E ++ rowC stepC (xs.take i) [])) := Lib.hid (X.out.alloc _)
      have K5 : Hid (Keep B pb w (wr.alloc (.cells #[.int .i64 x.kd, .int .i64 x.id, .int .i64 x.nd, .int .i64 x.fr, .int .i64 (St.to x), .slice kp x.kids.length kc] 45))) := Lib.hid (K.out.alloc HS.out _)
      clear n0 n1 n2 n3 n4 n5
      generalize wr.alloc (.cells #[.int .i64 x.kd, .int .i64 x.id, .int .i64 x.nd, .int .i64 x.fr, .int .i64 (St.to x), .slice kp x.kids.length kc] 45) = w5 at HXB X5 K5 ⊢
      obtain ⟨yb, hyb⟩ : ∃ b, wr.heap.size = b := ⟨_, rfl⟩
      rw [hyb] at HXB ⊢
      clear hyb
      have OV := Lib.hid (pover_any B pb _ w5 X5.out)
      by_cases ho : 1000000 < (E ++ rowC stepC (xs.take i) []).length
      · rw [decide_eq_true ho] at OV
        have ST := Lib.hid (X5.out.rowStop step_app ho)
        clear ho X X5
        go_wp2_with (go_at_call 12; refine OV.out.mono ?_; rintro e w6 ⟨rfl, rfl⟩)
        refine bodyPost_ret (results_none rfl _ _ _) rfl ?_
        exact ⟨rfl, ST.out, K5.out⟩
      · rw [decide_eq_false ho] at OV
        have B5 : Below w0.heap.size w0 w5 := by have := HB.out.trans (show Below w0.heap.size w w5 by rw [HE.out]; exact K5.out.1); exact this
        have ONE := Lib.hid (pstep_any w0 x kp kc hp.out ROW.out pb _ w5 B5 (by rw [HE.out]; exact X5.out) FT.out)
        rw [HE.out, RN.out] at ONE
        have q0 := (obj_cells HXB.out).1 0 _ rfl
        have q1 := (obj_cells HXB.out).1 1 _ rfl
        have q2 := (obj_cells HXB.out).1 2 _ rfl
        have q3 := (obj_cells HXB.out).1 3 _ rfl
        have q4 := (obj_cells HXB.out).1 4 _ rfl
        have q5 := (obj_cells HXB.out).1 5 _ rfl
        clear ho X X5 B5
        go_wp2_with (first | (go_at_call 12; refine OV.out.mono ?_; rintro e w6 ⟨rfl, rfl⟩) | (go_at_call 56; refine ONE.out.mono ?_; rintro e w7 ⟨rfl, h1, h2⟩; have X2 := Lib.hid h1; have K2 := Lib.hid h2; clear h1 h2))
        go_roundw
        case rel => exact ⟨i + 1, by omega, by go_num, X2, Lib.hid (K5.out.trans K2.out)⟩
        case measure => simp [intOf]; omega
    · go_wp2_with fail
      refine bodyPost_ret (results_none rfl _ _ _) rfl ?_
      refine ⟨rfl, ?_, K.out⟩
      have := X.out
      rwa [List.take_of_length_le (by rw [HN.out]; omega)] at this

set_option maxRecDepth 100000 in
set_option maxHeartbeats 4000000 in
theorem pns_any (w0 : World) (xs : List Nd) (p : Option Addr) (n cap : Nat) (hn : xs.length = n) (hr : NodesR w0 p xs) (hx : ∀ x ∈ xs, NdP x) (hl : n ≤ 140737488355328) (pb : Nat) (e : List UInt8) (w : World) (hb : Below w0.heap.size w0 w) (h : PX w w0.heap.size pb e) (hz : (e ++ listC nodeC xs []).length ≤ 70368744177664) : Calls Tryd.prog 57 #[.pointer (some ⟨pb, 0, none⟩), .slice p n cap, .func (.func 58) #[.pointer (some ⟨pb, 0, none⟩)] #[]] w (PutS w0.heap.size pb (e ++ listC nodeC xs []) w) := by
  rw [list_head nodeC e xs hn] at hz ⊢
  have P := Lib.hid (pnum_any (n : Int) ⟨by omega, by omega⟩ w0.heap.size pb e w h (by rw [List.length_append] at hz; omega))
  generalize e ++ numC (n : Int) [] = E at P hz ⊢
  have HR := Lib.hid hr; have HX := Lib.hid hx; have HZ := Lib.hid hz; have HN := Lib.hid hn; have HB := Lib.hid hb; have HS := Lib.hid h.size
  clear hr hx hz hn h hb
  obtain ⟨B, hB⟩ : ∃ B, w0.heap.size = B := ⟨_, rfl⟩
  rw [hB] at P HS ⊢
  have HE := Lib.hid hB
  clear hB
  go_enter Tryd.func57, Tryd.ntmps57
  go_upto_region 1 with (go_at_call 26; refine P.out.mono ?_; rintro e w1 ⟨rfl, h1, h2⟩; have X1 := Lib.hid h1; have K1 := Lib.hid h2; clear h1 h2)
  go_wp2_with fail
  go_loopw [14, 7] (fun a _ wr => ∃ i : Nat, i ≤ n ∧ a = .int .i64 i ∧ Hid (PX wr B pb (E ++ rowC nodeC (xs.take i) [])) ∧ Hid (Keep B pb w wr)) (fun a _ _ => n - (intOf a).toNat)
  case atStart => exact ⟨0, by omega, rfl, Lib.hid (by simpa [rowC] using X1.out), K1⟩
  case round =>
    obtain ⟨i, hi, rfl, X, K⟩ := hrel
    by_cases hlt : i < n
    · obtain ⟨x, hx⟩ : ∃ x, xs[i]? = some x := ⟨_, List.getElem?_eq_getElem (by rw [HN.out]; exact hlt)⟩
      have bw : Below w0.heap.size w0 wr := by have := HB.out.trans (show Below w0.heap.size w wr by rw [HE.out]; exact K.out.1); exact this
      obtain ⟨ab, ao, kp, kc, rfl, hat, hrow⟩ := HR.out i x hx
      have m1 := hat.below bw
      have n0 : wr.cell? ⟨ab, ao + i * 5, none⟩ = some (.int .i64 x.id) := m1 0 _ rfl
      have n1 : wr.cell? ⟨ab, ao + i * 5 + 1, none⟩ = some (.int .i64 x.kd) := m1 1 _ rfl
      have n2 : wr.cell? ⟨ab, ao + i * 5 + 2, none⟩ = some (.int .i64 x.fr) := m1 2 _ rfl
      have n3 : wr.cell? ⟨ab, ao + i * 5 + 3, none⟩ = some (.int .i64 (Nd.to x)) := m1 3 _ rfl
      have n4 : wr.cell? ⟨ab, ao + i * 5 + 4, none⟩ = some (.slice kp x.kids.length kc) := m1 4 _ rfl
      have ROW := Lib.hid hrow
      clear hrow
      clear m1 hat
      have hp := Lib.hid (HX.out x (List.mem_of_getElem? hx))
      have FT := Lib.hid (row_fits node_app hx HZ.out)
      have RN := Lib.hid (row_nxt (E := E) node_app hx)
      clear hx bw
      go_upto_region 4 with fail
      have HXB : Hid ((wr.alloc (.cells #[.int .i64 x.id, .int .i64 x.kd, .int .i64 x.fr, .int .i64 (Nd.to x), .slice kp x.kids.length kc] 86)).heap[wr.heap.size]? = some (.cells #[.int .i64 x.id, .int .i64 x.kd, .int .i64 x.fr, .int .i64 (Nd.to x), .slice kp x.kids.length kc] 86 (0, 0))) := Lib.hid (heap_alloc_new wr _)
      have X5 : Hid (PX (wr.alloc (.cells #[.int .i64 x.id, .int .i64 x.kd, .int .i64 x.fr, .int .i64 (Nd.to x), .slice kp x.kids.length kc] 86)) B pb (E ++ rowC nodeC (xs.take i) [])) := Lib.hid (X.out.alloc _)
      have K5 : Hid (Keep B pb w (wr.alloc (.cells #[.int .i64 x.id, .int .i64 x.kd, .int .i64 x.fr, .int .i64 (Nd.to x), .slice kp x.kids.length kc] 86))) := Lib.hid (K.out.alloc HS.out _)
      clear n0 n1 n2 n3 n4
      generalize wr.alloc (.cells #[.int .i64 x.id, .int .i64 x.kd, .int .i64 x.fr, .int .i64 (Nd.to x), .slice kp x.kids.length kc] 86) = w5 at HXB X5 K5 ⊢
      obtain ⟨yb, hyb⟩ : ∃ b, wr.heap.size = b := ⟨_, rfl⟩
      rw [hyb] at HXB ⊢
      clear hyb
      have OV := Lib.hid (pover_any B pb _ w5 X5.out)
      by_cases ho : 1000000 < (E ++ rowC nodeC (xs.take i) []).length
      · rw [decide_eq_true ho] at OV
        have ST := Lib.hid (X5.out.rowStop node_app ho)
        clear ho X X5
        go_wp2_with (go_at_call 12; refine OV.out.mono ?_; rintro e w6 ⟨rfl, rfl⟩)
        refine bodyPost_ret (results_none rfl _ _ _) rfl ?_
        exact ⟨rfl, ST.out, K5.out⟩
      · rw [decide_eq_false ho] at OV
        have B5 : Below w0.heap.size w0 w5 := by have := HB.out.trans (show Below w0.heap.size w w5 by rw [HE.out]; exact K5.out.1); exact this
        have ONE := Lib.hid (pnode_any w0 x kp kc hp.out ROW.out pb _ w5 B5 (by rw [HE.out]; exact X5.out) FT.out)
        rw [HE.out, RN.out] at ONE
        have q0 := (obj_cells HXB.out).1 0 _ rfl
        have q1 := (obj_cells HXB.out).1 1 _ rfl
        have q2 := (obj_cells HXB.out).1 2 _ rfl
        have q3 := (obj_cells HXB.out).1 3 _ rfl
        have q4 := (obj_cells HXB.out).1 4 _ rfl
        clear ho X X5 B5
        go_wp2_with (first | (go_at_call 12; refine OV.out.mono ?_; rintro e w6 ⟨rfl, rfl⟩) | (go_at_call 58; refine ONE.out.mono ?_; rintro e w7 ⟨rfl, h1, h2⟩; have X2 := Lib.hid h1; have K2 := Lib.hid h2; clear h1 h2))
        go_roundw
        case rel => exact ⟨i + 1, by omega, by go_num, X2, Lib.hid (K5.out.trans K2.out)⟩
        case measure => simp [intOf]; omega
    · go_wp2_with fail
      refine bodyPost_ret (results_none rfl _ _ _) rfl ?_
      refine ⟨rfl, ?_, K.out⟩
      have := X.out
      rwa [List.take_of_length_le (by rw [HN.out]; omega)] at this


end Go.Proofs.YtjmfjlffcopnnaaDoor
