/-
  The round of the reference's Delta over the second tree's nodes, by itself. Conditions: as the theorem's premises say.
-/
import Derived.Test.YtmeigoeknjoodaaDe2
namespace Go.Proofs.Ytmeigoeknjoodaa
open Go.RowKit

noncomputable def delK : Code := (Try.f9.body.bind (blockOf 3)).getD .skip

set_option maxRecDepth 1000000 in
set_option maxHeartbeats 8000000 in
theorem delK_any (w w0 : World) (a : List Nd) (ra na : Int) (pa : Option Addr) (A ca : Nat) (b : List Nd) (rb nb : Int) (pb : Option Addr) (B cb i : Nat) (x : Nd) (v6 : Value) (vs6 vs7 vs8 vs9 : List Sv) (ss6 : List St) (p7 p8 p9 : Option Addr) (M7 M8 M9 c7 c8 c9 : Nat) (Q : Exit → Act → World → Prop) (u0 u1 u4 u5 u6 u10 u12 u13 u14 u15 u16 u17 u18 u19 u20 u21 u22 u23 u24 u25 u26 u27 u28 u29 u30 u31 u32 u33 u34 u35 u36 u37 u38 u39 u40 u41 u42 u43 u44 u45 u46 u47 u48 u49 u50 u51 u52 u53 u54 u55 u56 u57 u58 u59 u60 u61 u62 u63 u64 u65 u66 u67 u68 u69 u70 u71 u72 u73 u74 u75 u76 u77 u78 u79 u80 u81 u82 u83 u84 u85 u86 u87 u88 u89 u90 u91 u92 u93 u94 u95 u96 u97 u98 u99 u100 u101 u102 u103 u104 u105 u106 u107 u108 u109 u110 u111 u112 u113 u114 u115 u116 u117 u118 u119 u120 u121 u122 u123 u124 u125 u126 u127 u128 u129 u130 u131 u132 u133 u134 u135 u136 u137 u138 u139 u140 u141 u142 u143 u144 u145 u146 u147 u148 : Value)
    (HA : Hid (a.length = A)) (hA : A ≤ 2048) (RA : Hid (NodesR w pa a)) (RB : Hid (NodesR w pb b)) (HX : Hid (b[i]? = some x)) (hi : i < B) (hkn : x.kids.length ≤ 2048) (HKA : Hid (∀ y ∈ a, y.kids.length ≤ 2048))
    (LN7 : Hid (vs7.length = M7)) (LN8 : Hid (vs8.length = M8)) (LN9 : Hid (vs9.length = M9)) (h7 : M7 ≤ 2048) (h8 : M8 ≤ 2048) (h9 : M9 ≤ 2048)
    (D : Hid (DS w w0 a ra na pa A ca b rb nb pb B cb [(v6, vs6, ss6), (.slice p7 M7 c7, vs7, makesL a (b.take i)), (.slice p8 M8 c8, vs8, kidsL a (b.take i)), (.slice p9 M9 c9, vs9, spansL a (b.take i))]))
    (HQ : Hid (∀ (q7 q8 q9 : Value) (w' : World) (t7 t8 t9 : List Sv), kindsB a (b.take (i + 1)) = kindsB a (b.take i) → DS w w' a ra na pa A ca b rb nb pb B cb [(v6, vs6, ss6), (q7, t7, makesL a (b.take (i + 1))), (q8, t8, kidsL a (b.take (i + 1))), (q9, t9, spansL a (b.take (i + 1)))] → ∀ (v12 v13 v14 v68 v69 v70 v71 v72 v73 v74 v75 v76 v77 v78 v79 v80 v81 v82 v83 v84 v85 v86 v87 v88 v89 v90 v91 v92 v93 v94 v95 v96 v97 v98 v99 v100 v101 v102 v103 v104 v105 v106 v107 v108 v109 v110 v111 v112 v113 v114 v115 v116 v117 v118 v119 v120 v121 v122 v123 v124 v125 v126 v127 v128 v129 v130 v131 v132 v133 v134 v135 : Value), Q .normal ⟨#[u0, u1, .pointer (some ⟨w.heap.size, 0, none⟩), .pointer (some ⟨w.heap.size + 1, 0, none⟩), u4, u5, u6, q7, q8, q9, u10, .int .i64 (i : Int), v12, v13, v14, u15, u16, u17, u18, u19, u20, u21, u22, u23, u24, u25, u26, u27, u28, u29, u30, u31, u32, u33, u34, u35, u36, u37, u38, u39, u40, u41, u42, u43, u44, u45, u46, u47, u48, u49, u50, u51, u52, u53, u54, u55, u56, u57, u58, u59, u60, u61, u62, u63, u64, u65, u66, u67, v68, v69, v70, v71, v72, v73, v74, v75, v76, v77, v78, v79, v80, v81, v82, v83, v84, v85, v86, v87, v88, v89, v90, v91, v92, v93, v94, v95, v96, v97, v98, v99, v100, v101, v102, v103, v104, v105, v106, v107, v108, v109, v110, v111, v112, v113, v114, v115, v116, v117, v118, v119, v120, v121, v122, v123, v124, v125, v126, v127, v128, v129, v130, v131, v132, v133, v134, v135, u136, u137, u138, u139, u140, u141, u142, u143, u144, u145, u146, u147, u148], []⟩ w'))
    (HR : Hid (∀ (w' : World), kindsB a (b.take (i + 1)) = false → Below w.heap.size w w' → ∀ (v12 v13 v14 v68 v69 v70 v71 v72 v73 v74 v75 v76 v77 v78 v79 v80 v81 v82 v83 v84 v85 v86 v87 v88 v89 v90 v91 v92 v93 v94 v95 v96 v97 v98 v99 v100 v101 v102 v103 v104 v105 v106 v107 v108 v109 v110 v111 v112 v113 v114 v115 v116 v117 v118 v119 v120 v121 v122 v123 v124 v125 v126 v127 v128 v129 v130 v131 v132 v133 v134 v135 : Value), Q .ret ⟨#[u0, u1, .pointer (some ⟨w.heap.size, 0, none⟩), .pointer (some ⟨w.heap.size + 1, 0, none⟩), .slice none 0 0, .int .i64 1400, u6, .slice p7 M7 c7, .slice p8 M8 c8, .slice p9 M9 c9, u10, .int .i64 (i : Int), v12, v13, v14, u15, u16, u17, u18, u19, u20, u21, u22, u23, u24, u25, u26, u27, u28, u29, u30, u31, u32, u33, u34, u35, u36, u37, u38, u39, u40, u41, u42, u43, u44, u45, u46, u47, u48, u49, u50, u51, u52, u53, u54, u55, u56, u57, u58, u59, u60, u61, u62, u63, u64, u65, u66, u67, v68, v69, v70, v71, v72, v73, v74, v75, v76, v77, v78, v79, v80, v81, v82, v83, v84, v85, v86, v87, v88, v89, v90, v91, v92, v93, v94, v95, v96, v97, v98, v99, v100, v101, v102, v103, v104, v105, v106, v107, v108, v109, v110, v111, v112, v113, v114, v115, v116, v117, v118, v119, v120, v121, v122, v123, v124, v125, v126, v127, v128, v129, v130, v131, v132, v133, v134, v135, u136, u137, u138, u139, u140, u141, u142, u143, u144, u145, u146, u147, u148], []⟩ w')) :
    Code.wp Try.prog delK Q ⟨#[u0, u1, .pointer (some ⟨w.heap.size, 0, none⟩), .pointer (some ⟨w.heap.size + 1, 0, none⟩), u4, u5, u6, .slice p7 M7 c7, .slice p8 M8 c8, .slice p9 M9 c9, u10, .int .i64 (i : Int), u12, u13, u14, u15, u16, u17, u18, u19, u20, u21, u22, u23, u24, u25, u26, u27, u28, u29, u30, u31, u32, u33, u34, u35, u36, u37, u38, u39, u40, u41, u42, u43, u44, u45, u46, u47, u48, u49, u50, u51, u52, u53, u54, u55, u56, u57, u58, u59, u60, u61, u62, u63, u64, u65, u66, u67, u68, u69, u70, u71, u72, u73, u74, u75, u76, u77, u78, u79, u80, u81, u82, u83, u84, u85, u86, u87, u88, u89, u90, u91, u92, u93, u94, u95, u96, u97, u98, u99, u100, u101, u102, u103, u104, u105, u106, u107, u108, u109, u110, u111, u112, u113, u114, u115, u116, u117, u118, u119, u120, u121, u122, u123, u124, u125, u126, u127, u128, u129, u130, u131, u132, u133, u134, u135, u136, u137, u138, u139, u140, u141, u142, u143, u144, u145, u146, u147, u148], []⟩ w0 := by
  obtain ⟨i8, hi8, hz08, hz18, hz28⟩ := info_parts info68
  have FA := Lib.hid (fun (W : World) (hW : Below w.heap.size w W) => find_any ra na pa a A ca HA.out x.id W (RA.out.below hW) (by omega))
  unfold trV at FA
  obtain ⟨bb, ob, kp, kc, rfl, hat, hrow⟩ := RB.out i x HX.out
  have MB := D.out.below
  have n0 := cell_later MB (show w.cell? ⟨bb, ob + i * 5, none⟩ = some (.int .i64 x.id) from hat 0 _ rfl)
  have n1 := cell_later MB (show w.cell? ⟨bb, ob + i * 5 + 1, none⟩ = some (.int .i64 x.kd) from hat 1 _ rfl)
  have n2 := cell_later MB (show w.cell? ⟨bb, ob + i * 5 + 2, none⟩ = some (.int .i64 x.fr) from hat 2 _ rfl)
  have n3 := cell_later MB (show w.cell? ⟨bb, ob + i * 5 + 3, none⟩ = some (.int .i64 (Nd.to x)) from hat 3 _ rfl)
  have n4 := cell_later MB (show w.cell? ⟨bb, ob + i * 5 + 4, none⟩ = some (.slice kp x.kids.length kc) from hat 4 _ rfl)
  have t0 := (obj_cells D.out.boxB).1 2 _ rfl
  have ROW := Lib.hid hrow
  have hi0 : (0 : Int) ≤ (i : Int) := by omega
  have hi1 : (i : Int) < (B : Int) := by omega
  clear MB hat hrow
  conv => arg 2; whnf
  go_upto_region 14 with fail
  have D2 : Hid (DS w ((w0.alloc (.cells #[.int .i64 x.id, .int .i64 x.kd, .int .i64 x.fr, .int .i64 (Nd.to x), .slice kp x.kids.length kc] 46)).alloc (.cells #[.int .i64 0, .int .i64 0, .int .i64 (-1), .int .i64 0, .slice none 0 0] 46)) a ra na pa A ca b rb nb (some ⟨bb, ob, none⟩) B cb [(v6, vs6, ss6), (.slice p7 M7 c7, vs7, makesL a (b.take i)), (.slice p8 M8 c8, vs8, kidsL a (b.take i)), (.slice p9 M9 c9, vs9, spansL a (b.take i))]) := Lib.hid (D.out.later (below2 (Below.refl _ _) (Nat.le_refl _) _ _))
  have BW : Hid (Below w0.heap.size w0 ((w0.alloc (.cells #[.int .i64 x.id, .int .i64 x.kd, .int .i64 x.fr, .int .i64 (Nd.to x), .slice kp x.kids.length kc] 46)).alloc (.cells #[.int .i64 0, .int .i64 0, .int .i64 (-1), .int .i64 0, .slice none 0 0] 46))) := Lib.hid (below2 (Below.refl _ _) (Nat.le_refl _) _ _)
  have X2 : Hid (((w0.alloc (.cells #[.int .i64 x.id, .int .i64 x.kd, .int .i64 x.fr, .int .i64 (Nd.to x), .slice kp x.kids.length kc] 46)).alloc (.cells #[.int .i64 0, .int .i64 0, .int .i64 (-1), .int .i64 0, .slice none 0 0] 46)).heap[w0.heap.size]? = some (.cells #[.int .i64 x.id, .int .i64 x.kd, .int .i64 x.fr, .int .i64 (Nd.to x), .slice kp x.kids.length kc] 46 (0, 0))) := Lib.hid (((below1 (Below.refl _ _) (Nat.le_refl _) _).block w0.heap.size (by simp)).trans (heap_alloc_new w0 _))
  have Y2 : Hid (((w0.alloc (.cells #[.int .i64 x.id, .int .i64 x.kd, .int .i64 x.fr, .int .i64 (Nd.to x), .slice kp x.kids.length kc] 46)).alloc (.cells #[.int .i64 0, .int .i64 0, .int .i64 (-1), .int .i64 0, .slice none 0 0] 46)).heap[w0.heap.size + 1]? = some (.cells #[.int .i64 0, .int .i64 0, .int .i64 (-1), .int .i64 0, .slice none 0 0] 46 (0, 0))) := Lib.hid (by
    have := heap_alloc_new (w0.alloc (.cells #[.int .i64 x.id, .int .i64 x.kd, .int .i64 x.fr, .int .i64 (Nd.to x), .slice kp x.kids.length kc] 46)) (.cells #[.int .i64 0, .int .i64 0, .int .i64 (-1), .int .i64 0, .slice none 0 0] 46)
    rwa [show (w0.alloc (.cells #[.int .i64 x.id, .int .i64 x.kd, .int .i64 x.fr, .int .i64 (Nd.to x), .slice kp x.kids.length kc] 46)).heap.size = w0.heap.size + 1 by simp] at this)
  have NE : Hid (w0.heap.size ≠ w0.heap.size + 1) := Lib.hid (by omega)
  have GE : Hid (w0.heap.size ≤ w0.heap.size + 1) := Lib.hid (by omega)
  clear n0 n1 n2 n3 n4 t0
  generalize ((w0.alloc (.cells #[.int .i64 x.id, .int .i64 x.kd, .int .i64 x.fr, .int .i64 (Nd.to x), .slice kp x.kids.length kc] 46)).alloc (.cells #[.int .i64 0, .int .i64 0, .int .i64 (-1), .int .i64 0, .slice none 0 0] 46)) = W2 at D2 BW X2 Y2 ⊢
  generalize hyb : w0.heap.size + 1 = yb at Y2 NE GE ⊢
  clear hyb
  have GX : Hid (w0.heap.size ≤ w0.heap.size) := Lib.hid (Nat.le_refl _)
  obtain ⟨xb, hxb⟩ : ∃ xb, xb = w0.heap.size := ⟨_, rfl⟩
  rw [← hxb] at X2 NE ⊢
  clear hxb GX
  have a0 := (obj_cells D2.out.boxA).1 0 _ rfl
  have a1 := (obj_cells D2.out.boxA).1 1 _ rfl
  have a2 := (obj_cells D2.out.boxA).1 2 _ rfl
  have x0 := (obj_cells X2.out).1 0 _ rfl
  rcases fd_cases a x.id with ⟨q, y, e1, e2, e3, e4⟩ | ⟨e1, e2⟩
  · rw [e1] at FA
    have FC := Lib.hid (FA.out W2 D2.out.below)
    have hq : q < A := by rw [← HA.out]; exact (List.getElem?_eq_some_iff.1 e2).1
    have WN : Hid (wasN a x = y) := Lib.hid (by unfold wasN; rw [e4]; rfl)
    have MK : Hid (makesL a (b.take (i + 1)) = makesL a (b.take i)) := Lib.hid (by rw [makes_take HX.out, e4]; simp)
    have KK : Hid (kindsB a (b.take (i + 1)) = (kindsB a (b.take i) && (y.kd == x.kd))) := Lib.hid (by rw [kinds_take HX.out, e4])
    have hyk := HKA.out y (List.mem_of_getElem? e2)
    obtain ⟨ab, oa, yp, yc, rfl, hat, hyr⟩ := RA.out q y e2
    have YROW := Lib.hid hyr
    have m0 : Hid (lyN.At w ab (oa + q * 5) ⟨y.id, y.kd, y.fr, Nd.to y, yp, y.kids.length, yc⟩) := Lib.hid hat
    have hq0 : (0 : Int) ≤ (q : Int) := by omega
    have hq1 : (q : Int) < (A : Int) := by omega
    have hqn : ¬ ((q : Int) < 0) := by omega
    clear e1 e2 e3 e4 hat hyr FA
    go_upto_region 17 with (go_at_call 24; refine FC.out.mono ?_; rintro e w4 ⟨rfl, hb4⟩; have D4 := Lib.hid (D2.out.later hb4); have B4 := Lib.hid (BW.out.trans (hb4.mono BW.out.size)); have X4 := Lib.hid ((hb4.block _ (Array.getElem?_eq_some_iff.1 X2.out).1).trans X2.out); have Y4 := Lib.hid ((hb4.block _ (Array.getElem?_eq_some_iff.1 Y2.out).1).trans Y2.out); clear hb4)
    clear a0 a1 a2 x0
    have a2 := (obj_cells D4.out.boxA).1 2 _ rfl
    have m1 := m0.out.below (D4.out.below)
    have c0 : w4.cell? ⟨ab, oa + q * 5, none⟩ = some (.int .i64 y.id) := m1 0 _ rfl
    have c1 : w4.cell? ⟨ab, oa + q * 5 + 1, none⟩ = some (.int .i64 y.kd) := m1 1 _ rfl
    have c2 : w4.cell? ⟨ab, oa + q * 5 + 2, none⟩ = some (.int .i64 y.fr) := m1 2 _ rfl
    have c3 : w4.cell? ⟨ab, oa + q * 5 + 3, none⟩ = some (.int .i64 (Nd.to y)) := m1 3 _ rfl
    have c4 : w4.cell? ⟨ab, oa + q * 5 + 4, none⟩ = some (.slice yp y.kids.length yc) := m1 4 _ rfl
    have yf := (obj_cells Y4.out).2.1
    have z0 := (obj_cells Y4.out).1 0 _ rfl
    have z1 := (obj_cells Y4.out).1 1 _ rfl
    have z2 := (obj_cells Y4.out).1 2 _ rfl
    have z3 := (obj_cells Y4.out).1 3 _ rfl
    have z4 := (obj_cells Y4.out).1 4 _ rfl
    go_upto_region 18 with fail
    obtain ⟨w5, hw5⟩ : ∃ w5, w5 = ((((w4.setCell ⟨yb, 0, none⟩ (.int .i64 y.id)).setCell ⟨yb, 1, none⟩ (.int .i64 y.kd)).setCell ⟨yb, 2, none⟩ (.int .i64 y.fr)).setCell ⟨yb, 3, none⟩ (.int .i64 (Nd.to y))).setCell ⟨yb, 4, none⟩ (.slice yp y.kids.length yc) := ⟨_, rfl⟩
    have hs5 : w5 = setAll w4 yb 0 [.int .i64 y.id, .int .i64 y.kd, .int .i64 y.fr, .int .i64 (Nd.to y), .slice yp y.kids.length yc] := hw5
    rw [← hw5]
    clear hw5
    have B5 : Hid (Below w0.heap.size w0 w5) := Lib.hid (by rw [hs5]; exact B4.out.trans (below_grown (setAll_one w4 yb 0 _) GE.out B4.out.size))
    have D5 : Hid (DS w w5 a ra na (some ⟨ab, oa, none⟩) A ca b rb nb (some ⟨bb, ob, none⟩) B cb [(v6, vs6, ss6), (.slice p7 M7 c7, vs7, makesL a (b.take (i + 1))), (.slice p8 M8 c8, vs8, kidsL a (b.take i)), (.slice p9 M9 c9, vs9, spansL a (b.take i))]) := Lib.hid (by rw [MK.out]; exact D.out.later B5.out)
    have X5 : Hid (w5.heap[xb]? = some (.cells #[.int .i64 x.id, .int .i64 x.kd, .int .i64 x.fr, .int .i64 (Nd.to x), .slice kp x.kids.length kc] 46 (0, 0))) := Lib.hid (by rw [hs5]; exact ((setAll_one w4 yb 0 _).block xb (Array.getElem?_eq_some_iff.1 X4.out).1 (fun e => NE.out (Option.some.inj e))).trans X4.out)
    have Y5 : Hid (w5.heap[yb]? = some (.cells #[.int .i64 y.id, .int .i64 y.kd, .int .i64 y.fr, .int .i64 (Nd.to y), .slice yp y.kids.length yc] 46 (0, 0))) := Lib.hid (by rw [hs5]; exact five_set Y4.out)
    have YR := Lib.hid (YROW.out.below D5.out.below)
    clear hs5 c0 c1 c2 c3 c4 yf z0 z1 z2 z3 z4 m1 a2 X4 Y4 D4 B4
    have x1 := (obj_cells X5.out).1 1 _ rfl
    have y1 := (obj_cells Y5.out).1 1 _ rfl
    by_cases hk : y.kd = x.kd
    · have qk : (y.kd != x.kd) = false := by rw [hk]; simp
      have KB : Hid (kindsB a (b.take (i + 1)) = kindsB a (b.take i)) := Lib.hid (by rw [KK.out, hk]; simp)
      clear hk
      go_upto_region 20 with fail
      clear x1 y1
      have ROWX := Lib.hid (ROW.out.below D5.out.below)
      have x4 := (obj_cells X5.out).1 4 _ rfl
      have y4 := (obj_cells Y5.out).1 4 _ rfl
      have SI := Lib.hid (sameInts_any kp yp x.kids y.kids x.kids.length y.kids.length kc yc rfl rfl w5 ROWX.out YR.out (by omega))
      cases hs : (x.kids == y.kids) with
      | true =>
        rw [hs] at SI
        have KX : Hid (kidsL a (b.take (i + 1)) = kidsL a (b.take i)) := Lib.hid (by rw [kids_takeL HX.out, WN.out, hs]; simp)
        clear hs
        go_upto_region 22 with (go_at_call 25; refine SI.out.mono ?_; rintro e w6 ⟨rfl, hb6⟩; have DX := Lib.hid (D5.out.later hb6); have XB := Lib.hid ((hb6.block _ (Array.getElem?_eq_some_iff.1 X5.out).1).trans X5.out); have YB := Lib.hid ((hb6.block _ (Array.getElem?_eq_some_iff.1 Y5.out).1).trans Y5.out); clear hb6)
        rw [← KX.out] at DX
        clear x4 y4 SI D5 X5 Y5
        have x0 := (obj_cells XB.out).1 0 _ rfl
        have x2 := (obj_cells XB.out).1 2 _ rfl
        have x3 := (obj_cells XB.out).1 3 _ rfl
        have y2 := (obj_cells YB.out).1 2 _ rfl
        have y3 := (obj_cells YB.out).1 3 _ rfl
        have OW9 : Hid (∀ W', Below w6.heap.size w6 W' → W'.ownsRow w.heap.size 43 6 (.slice p9 M9 c9) M9 (lyS.all vs9)) := Lib.hid (fun W' hW => by
          have := ((DX.out.rows.own 3 _ rfl).row).below hW
          unfold Ly.Own at this
          dsimp only at this
          rw [LN9.out] at this
          exact this)
        by_cases hf : x.fr = y.fr
        · have qf : (x.fr != y.fr) = false := by rw [hf]; simp
          by_cases ht : Nd.to x = Nd.to y
          · have qt : (Nd.to x != Nd.to y) = false := by rw [ht]; simp
            have SP : Hid (spansL a (b.take (i + 1)) = spansL a (b.take i)) := Lib.hid (by rw [spans_take HX.out, WN.out, hf, ht]; simp)
            clear hf ht OW9
            go_wp2_with fail
            refine HQ.out _ _ _ _ (vs7) (vs8) vs9 KB.out ?_ _ _ _ _ _ _ _ _ _ _ _ _ _ _ _ _ _ _ _ _ _ _ _ _ _ _ _ _ _ _ _ _ _ _ _ _ _ _ _ _ _ _ _ _ _ _ _ _ _ _ _ _ _ _ _ _ _ _ _ _ _ _ _ _ _ _ _ _ _ _ _
            rw [SP.out]; exact DX.out
          · have qt : (Nd.to x != Nd.to y) = true := bne_iff_ne.2 ht
            have SP : Hid (spansL a (b.take (i + 1)) = spansL a (b.take i) ++ [⟨3, x.id, 0, x.fr, Nd.to x, []⟩]) := Lib.hid (by rw [spans_take HX.out, WN.out, if_pos]; simp [ht])
            clear hf ht
            go_wp2_with (at_builtin; refine wpList_append_all _ rfl _ _ 26 rfl w.heap.size 43 i8 _ 6 64 Try.underlying26 hi8 hz08 hz18 hz28 rfl (by decide) (.slice p9 M9 c9) M9 (lyS.all vs9) rfl (OW9.out _ (below1 (Below.refl _ _) (Nat.le_refl _) _)) (some ⟨w6.heap.size, 0, none⟩) 1 1 (Sv.cells ⟨3, x.id, 0, x.fr, Nd.to x, none, 0, 0⟩) rfl rfl (fun e => by cases e) (fun ad hp => by cases hp; exact six_new rfl ⟨3, x.id, 0, x.fr, Nd.to x, none, 0, 0⟩) (lyS.one ⟨3, x.id, 0, x.fr, Nd.to x, none, 0, 0⟩) (by unfold maxLen; omega) (by omega) (by have := DX.out.below.size; simp; omega) (M9 + 1) rfl ?_; intro p9' c9' w8 hown hgrow hblk; have O9 := Lib.hid hown; have G9 := Lib.hid hgrow; have L9 := Lib.hid hblk; clear hown hgrow hblk)
            refine HQ.out _ _ _ _ (vs7) (vs8) (vs9 ++ [⟨3, x.id, 0, x.fr, Nd.to x, none, 0, 0⟩]) KB.out ?_ _ _ _ _ _ _ _ _ _ _ _ _ _ _ _ _ _ _ _ _ _ _ _ _ _ _ _ _ _ _ _ _ _ _ _ _ _ _ _ _ _ _ _ _ _ _ _ _ _ _ _ _ _ _ _ _ _ _ _ _ _ _ _ _ _ _ _ _ _ _ _
            rw [SP.out]
            exact (DX.out.later (below1 (Below.refl _ _) (Nat.le_refl _) _)).push (k := 3) rfl (push_plain (k := 3) (DX.out.rows.below (below1 (Below.refl _ _) (Nat.le_refl _) _)) rfl ⟨3, x.id, 0, x.fr, Nd.to x, []⟩ rfl LN9.out O9.out G9.out L9.out) G9.out
        · have qf : (x.fr != y.fr) = true := bne_iff_ne.2 hf
          have SP : Hid (spansL a (b.take (i + 1)) = spansL a (b.take i) ++ [⟨3, x.id, 0, x.fr, Nd.to x, []⟩]) := Lib.hid (by rw [spans_take HX.out, WN.out, if_pos]; simp [hf])
          clear hf
          go_wp2_with (at_builtin; refine wpList_append_all _ rfl _ _ 26 rfl w.heap.size 43 i8 _ 6 64 Try.underlying26 hi8 hz08 hz18 hz28 rfl (by decide) (.slice p9 M9 c9) M9 (lyS.all vs9) rfl (OW9.out _ (below1 (Below.refl _ _) (Nat.le_refl _) _)) (some ⟨w6.heap.size, 0, none⟩) 1 1 (Sv.cells ⟨3, x.id, 0, x.fr, Nd.to x, none, 0, 0⟩) rfl rfl (fun e => by cases e) (fun ad hp => by cases hp; exact six_new rfl ⟨3, x.id, 0, x.fr, Nd.to x, none, 0, 0⟩) (lyS.one ⟨3, x.id, 0, x.fr, Nd.to x, none, 0, 0⟩) (by unfold maxLen; omega) (by omega) (by have := DX.out.below.size; simp; omega) (M9 + 1) rfl ?_; intro p9' c9' w8 hown hgrow hblk; have O9 := Lib.hid hown; have G9 := Lib.hid hgrow; have L9 := Lib.hid hblk; clear hown hgrow hblk)
          refine HQ.out _ _ _ _ (vs7) (vs8) (vs9 ++ [⟨3, x.id, 0, x.fr, Nd.to x, none, 0, 0⟩]) KB.out ?_ _ _ _ _ _ _ _ _ _ _ _ _ _ _ _ _ _ _ _ _ _ _ _ _ _ _ _ _ _ _ _ _ _ _ _ _ _ _ _ _ _ _ _ _ _ _ _ _ _ _ _ _ _ _ _ _ _ _ _ _ _ _ _ _ _ _ _ _ _ _ _
          rw [SP.out]
          exact (DX.out.later (below1 (Below.refl _ _) (Nat.le_refl _) _)).push (k := 3) rfl (push_plain (k := 3) (DX.out.rows.below (below1 (Below.refl _ _) (Nat.le_refl _) _)) rfl ⟨3, x.id, 0, x.fr, Nd.to x, []⟩ rfl LN9.out O9.out G9.out L9.out) G9.out
      | false =>
        rw [hs] at SI
        have KX : Hid (kidsL a (b.take (i + 1)) = kidsL a (b.take i) ++ [⟨2, x.id, 0, 0, 0, x.kids⟩]) := Lib.hid (by rw [kids_takeL HX.out, WN.out, hs]; simp)
        clear hs
        go_upto_region 21 with (go_at_call 25; refine SI.out.mono ?_; rintro e w6 ⟨rfl, hb6⟩; have D6 := Lib.hid (D5.out.later hb6); have X6 := Lib.hid ((hb6.block _ (Array.getElem?_eq_some_iff.1 X5.out).1).trans X5.out); have Y6 := Lib.hid ((hb6.block _ (Array.getElem?_eq_some_iff.1 Y5.out).1).trans Y5.out); have RX6 := Lib.hid (ROWX.out.below hb6); clear hb6)
        clear x4 y4 SI D5 X5 Y5
        refine wp_onlyN (del21_any w6 w.heap.size xb M8 (M8 + 1) c8 2 x.kids.length kc p8 kp x.id x.kids _ vs8 _ _ _ _ _ _ _ _ _ _ _ _ _ _ _ _ _ _ _ _ _ _ _ _ _ _ _ _ _ _ _ _ _ _ _ _ _ _ _ _ _ _ _ _ _ _ _ _ _ _ _ _ _ _ _ _ _ _ _ _ _ _ _ _ _ _ _ _ _ _ _ _ _ _ _ _ _ _ _ _ _ _ _ _ _ _ _ _ _ _ _ _ _ _ _ _ _ _ _ _ _ _ _ _ _ _ _ _ _ _ _ _ _ _ _ _ _ _ _ _ _ _ _ _ _ _ _ _ _ _ _ _ _ _ _ _ _ _ _ _ _ _ _ _ _ _ _ _ _ (Lib.hid D6.out.rows) (Lib.hid rfl) LN8 (Lib.hid rfl) (by omega) (Lib.hid D6.out.below.size) ((obj_cells X6.out).1 0 _ rfl) ((obj_cells X6.out).1 4 _ rfl) RX6 (Lib.hid rfl) (by omega) (Lib.hid ?_))
        intro p8' c8' w7 x8 hr7 hg7
        intros
        have XB := Lib.hid (box_stays (D6.out.rows.own 2 _ rfl).row hg7 X6.out (by decide))
        have YB := Lib.hid (box_stays (D6.out.rows.own 2 _ rfl).row hg7 Y6.out (by decide))
        have DX := Lib.hid (D6.out.push (k := 2) rfl hr7 hg7)
        clear hr7 hg7 X6 Y6 D6 RX6
        have DX : Hid (DS w w7 a ra na (some ⟨ab, oa, none⟩) A ca b rb nb (some ⟨bb, ob, none⟩) B cb [(v6, vs6, ss6), (.slice p7 M7 c7, vs7, makesL a (b.take (i + 1))), (.slice p8' (M8 + 1) c8', vs8 ++ [x8], kidsL a (b.take (i + 1))), (.slice p9 M9 c9, vs9, spansL a (b.take i))]) := Lib.hid (by rw [KX.out]; exact DX.out)
        go_upto_region 22 with fail
        have x0 := (obj_cells XB.out).1 0 _ rfl
        have x2 := (obj_cells XB.out).1 2 _ rfl
        have x3 := (obj_cells XB.out).1 3 _ rfl
        have y2 := (obj_cells YB.out).1 2 _ rfl
        have y3 := (obj_cells YB.out).1 3 _ rfl
        have OW9 : Hid (∀ W', Below w7.heap.size w7 W' → W'.ownsRow w.heap.size 43 6 (.slice p9 M9 c9) M9 (lyS.all vs9)) := Lib.hid (fun W' hW => by
          have := ((DX.out.rows.own 3 _ rfl).row).below hW
          unfold Ly.Own at this
          dsimp only at this
          rw [LN9.out] at this
          exact this)
        by_cases hf : x.fr = y.fr
        · have qf : (x.fr != y.fr) = false := by rw [hf]; simp
          by_cases ht : Nd.to x = Nd.to y
          · have qt : (Nd.to x != Nd.to y) = false := by rw [ht]; simp
            have SP : Hid (spansL a (b.take (i + 1)) = spansL a (b.take i)) := Lib.hid (by rw [spans_take HX.out, WN.out, hf, ht]; simp)
            clear hf ht OW9
            go_wp2_with fail
            refine HQ.out _ _ _ _ (vs7) (vs8 ++ [x8]) vs9 KB.out ?_ _ _ _ _ _ _ _ _ _ _ _ _ _ _ _ _ _ _ _ _ _ _ _ _ _ _ _ _ _ _ _ _ _ _ _ _ _ _ _ _ _ _ _ _ _ _ _ _ _ _ _ _ _ _ _ _ _ _ _ _ _ _ _ _ _ _ _ _ _ _ _
            rw [SP.out]; exact DX.out
          · have qt : (Nd.to x != Nd.to y) = true := bne_iff_ne.2 ht
            have SP : Hid (spansL a (b.take (i + 1)) = spansL a (b.take i) ++ [⟨3, x.id, 0, x.fr, Nd.to x, []⟩]) := Lib.hid (by rw [spans_take HX.out, WN.out, if_pos]; simp [ht])
            clear hf ht
            go_wp2_with (at_builtin; refine wpList_append_all _ rfl _ _ 26 rfl w.heap.size 43 i8 _ 6 64 Try.underlying26 hi8 hz08 hz18 hz28 rfl (by decide) (.slice p9 M9 c9) M9 (lyS.all vs9) rfl (OW9.out _ (below1 (Below.refl _ _) (Nat.le_refl _) _)) (some ⟨w7.heap.size, 0, none⟩) 1 1 (Sv.cells ⟨3, x.id, 0, x.fr, Nd.to x, none, 0, 0⟩) rfl rfl (fun e => by cases e) (fun ad hp => by cases hp; exact six_new rfl ⟨3, x.id, 0, x.fr, Nd.to x, none, 0, 0⟩) (lyS.one ⟨3, x.id, 0, x.fr, Nd.to x, none, 0, 0⟩) (by unfold maxLen; omega) (by omega) (by have := DX.out.below.size; simp; omega) (M9 + 1) rfl ?_; intro p9' c9' w8 hown hgrow hblk; have O9 := Lib.hid hown; have G9 := Lib.hid hgrow; have L9 := Lib.hid hblk; clear hown hgrow hblk)
            refine HQ.out _ _ _ _ (vs7) (vs8 ++ [x8]) (vs9 ++ [⟨3, x.id, 0, x.fr, Nd.to x, none, 0, 0⟩]) KB.out ?_ _ _ _ _ _ _ _ _ _ _ _ _ _ _ _ _ _ _ _ _ _ _ _ _ _ _ _ _ _ _ _ _ _ _ _ _ _ _ _ _ _ _ _ _ _ _ _ _ _ _ _ _ _ _ _ _ _ _ _ _ _ _ _ _ _ _ _ _ _ _ _
            rw [SP.out]
            exact (DX.out.later (below1 (Below.refl _ _) (Nat.le_refl _) _)).push (k := 3) rfl (push_plain (k := 3) (DX.out.rows.below (below1 (Below.refl _ _) (Nat.le_refl _) _)) rfl ⟨3, x.id, 0, x.fr, Nd.to x, []⟩ rfl LN9.out O9.out G9.out L9.out) G9.out
        · have qf : (x.fr != y.fr) = true := bne_iff_ne.2 hf
          have SP : Hid (spansL a (b.take (i + 1)) = spansL a (b.take i) ++ [⟨3, x.id, 0, x.fr, Nd.to x, []⟩]) := Lib.hid (by rw [spans_take HX.out, WN.out, if_pos]; simp [hf])
          clear hf
          go_wp2_with (at_builtin; refine wpList_append_all _ rfl _ _ 26 rfl w.heap.size 43 i8 _ 6 64 Try.underlying26 hi8 hz08 hz18 hz28 rfl (by decide) (.slice p9 M9 c9) M9 (lyS.all vs9) rfl (OW9.out _ (below1 (Below.refl _ _) (Nat.le_refl _) _)) (some ⟨w7.heap.size, 0, none⟩) 1 1 (Sv.cells ⟨3, x.id, 0, x.fr, Nd.to x, none, 0, 0⟩) rfl rfl (fun e => by cases e) (fun ad hp => by cases hp; exact six_new rfl ⟨3, x.id, 0, x.fr, Nd.to x, none, 0, 0⟩) (lyS.one ⟨3, x.id, 0, x.fr, Nd.to x, none, 0, 0⟩) (by unfold maxLen; omega) (by omega) (by have := DX.out.below.size; simp; omega) (M9 + 1) rfl ?_; intro p9' c9' w8 hown hgrow hblk; have O9 := Lib.hid hown; have G9 := Lib.hid hgrow; have L9 := Lib.hid hblk; clear hown hgrow hblk)
          refine HQ.out _ _ _ _ (vs7) (vs8 ++ [x8]) (vs9 ++ [⟨3, x.id, 0, x.fr, Nd.to x, none, 0, 0⟩]) KB.out ?_ _ _ _ _ _ _ _ _ _ _ _ _ _ _ _ _ _ _ _ _ _ _ _ _ _ _ _ _ _ _ _ _ _ _ _ _ _ _ _ _ _ _ _ _ _ _ _ _ _ _ _ _ _ _ _ _ _ _ _ _ _ _ _ _ _ _ _ _ _ _ _
          rw [SP.out]
          exact (DX.out.later (below1 (Below.refl _ _) (Nat.le_refl _) _)).push (k := 3) rfl (push_plain (k := 3) (DX.out.rows.below (below1 (Below.refl _ _) (Nat.le_refl _) _)) rfl ⟨3, x.id, 0, x.fr, Nd.to x, []⟩ rfl LN9.out O9.out G9.out L9.out) G9.out
    · have qk : (y.kd != x.kd) = true := bne_iff_ne.2 hk
      have KF : Hid (kindsB a (b.take (i + 1)) = false) := Lib.hid (by rw [KK.out, beq_eq_false_iff_ne.2 hk, Bool.and_false])
      clear hk
      go_wp2_with fail
      exact HR.out _ KF.out D5.out.below _ _ _ _ _ _ _ _ _ _ _ _ _ _ _ _ _ _ _ _ _ _ _ _ _ _ _ _ _ _ _ _ _ _ _ _ _ _ _ _ _ _ _ _ _ _ _ _ _ _ _ _ _ _ _ _ _ _ _ _ _ _ _ _ _ _ _ _ _ _ _
  · rw [e1] at FA
    have FC := Lib.hid (FA.out W2 D2.out.below)
    obtain ⟨Y, hY⟩ : ∃ Y, Y = noN := ⟨_, rfl⟩
    have WN : Hid (wasN a x = Y) := Lib.hid (by unfold wasN; rw [e2, hY]; rfl)
    have MK : Hid (makesL a (b.take (i + 1)) = makesL a (b.take i) ++ [⟨1, x.id, x.kd, 0, 0, []⟩]) := Lib.hid (by rw [makes_take HX.out, e2]; rfl)
    have KB : Hid (kindsB a (b.take (i + 1)) = kindsB a (b.take i)) := Lib.hid (by rw [kinds_take HX.out, e2]; simp)
    have hyk : Y.kids.length ≤ 2048 := by rw [hY]; exact Nat.zero_le _
    clear e1 e2 FA
    have OW7 : Hid (∀ W4 : World, Below W2.heap.size W2 W4 → ∀ W', Below W4.heap.size W4 W' → W'.ownsRow w.heap.size 43 6 (.slice p7 M7 c7) M7 (lyS.all vs7)) := Lib.hid (fun W4 h4 W' hW => by
      have := ((((D2.out.later h4).rows.own 1 _ rfl).row).below hW)
      unfold Ly.Own at this
      dsimp only at this
      rw [LN7.out] at this
      exact this)
    go_upto_region 16 with (go_at_call 24; refine FC.out.mono ?_; rintro e w4 ⟨rfl, hb4⟩; have D4 := Lib.hid (D2.out.later hb4); have X4 := Lib.hid ((hb4.block _ (Array.getElem?_eq_some_iff.1 X2.out).1).trans X2.out); have Y4 := Lib.hid ((hb4.block _ (Array.getElem?_eq_some_iff.1 Y2.out).1).trans Y2.out); replace OW7 := Lib.hid (OW7.out w4 hb4); clear hb4)
    clear a0 a1 a2 x0
    have x0 := (obj_cells X4.out).1 0 _ rfl
    have x1 := (obj_cells X4.out).1 1 _ rfl
    go_upto_region 20 with (at_builtin; refine wpList_append_all _ rfl _ _ 26 rfl w.heap.size 43 i8 _ 6 64 Try.underlying26 hi8 hz08 hz18 hz28 rfl (by decide) (.slice p7 M7 c7) M7 (lyS.all vs7) rfl (OW7.out _ (below1 (Below.refl _ _) (Nat.le_refl _) _)) (some ⟨w4.heap.size, 0, none⟩) 1 1 (Sv.cells ⟨1, x.id, x.kd, 0, 0, none, 0, 0⟩) rfl rfl (fun e => by cases e) (fun ad hp => by cases hp; exact six_new rfl ⟨1, x.id, x.kd, 0, 0, none, 0, 0⟩) (lyS.one ⟨1, x.id, x.kd, 0, 0, none, 0, 0⟩) (by unfold maxLen; omega) (by omega) (by have := D4.out.below.size; simp; omega) (M7 + 1) rfl ?_; intro p7' c7' w5 hown hgrow hblk; have O7 := Lib.hid hown; have G7 := Lib.hid hgrow; have L7 := Lib.hid hblk; clear hown hgrow hblk)
    have DL : Hid (DS w (w4.alloc (.cells #[.int .i64 1, .int .i64 x.id, .int .i64 x.kd, .int .i64 0, .int .i64 0, .slice none 0 0] 43)) a ra na pa A ca b rb nb (some ⟨bb, ob, none⟩) B cb [(v6, vs6, ss6), (.slice p7 M7 c7, vs7, makesL a (b.take i)), (.slice p8 M8 c8, vs8, kidsL a (b.take i)), (.slice p9 M9 c9, vs9, spansL a (b.take i))]) := Lib.hid (D4.out.later (below1 (Below.refl _ _) (Nat.le_refl _) _))
    have D5 : Hid (DS w w5 a ra na pa A ca b rb nb (some ⟨bb, ob, none⟩) B cb [(v6, vs6, ss6), (.slice p7' (M7 + 1) c7', vs7 ++ [⟨1, x.id, x.kd, 0, 0, none, 0, 0⟩], makesL a (b.take (i + 1))), (.slice p8 M8 c8, vs8, kidsL a (b.take i)), (.slice p9 M9 c9, vs9, spansL a (b.take i))]) := Lib.hid (by
      rw [MK.out]
      exact DL.out.push (k := 1) rfl (push_plain (k := 1) DL.out.rows rfl ⟨1, x.id, x.kd, 0, 0, []⟩ rfl LN7.out O7.out G7.out L7.out) G7.out)
    have X5 : Hid (w5.heap[xb]? = some (.cells #[.int .i64 x.id, .int .i64 x.kd, .int .i64 x.fr, .int .i64 (Nd.to x), .slice kp x.kids.length kc] 46 (0, 0))) := Lib.hid (box_stays (DL.out.rows.own 1 _ rfl).row G7.out (((below1 (Below.refl _ _) (Nat.le_refl _) _).block _ (Array.getElem?_eq_some_iff.1 X4.out).1).trans X4.out) (by decide))
    have Y5 : Hid (w5.heap[yb]? = some (.cells #[.int .i64 Y.id, .int .i64 Y.kd, .int .i64 Y.fr, .int .i64 (Nd.to Y), .slice none Y.kids.length 0] 46 (0, 0))) := Lib.hid (by
      rw [hY]
      exact box_stays (DL.out.rows.own 1 _ rfl).row G7.out (((below1 (Below.refl _ _) (Nat.le_refl _) _).block _ (Array.getElem?_eq_some_iff.1 Y4.out).1).trans Y4.out) (by decide))
    have YR : Hid (lyI.Row w5 none Y.kids) := Lib.hid (by rw [hY]; exact Ly.Row.nil _)
    clear hY x0 x1 X4 Y4 D4 DL O7 G7 L7 OW7
    have ROWX := Lib.hid (ROW.out.below D5.out.below)
    have x4 := (obj_cells X5.out).1 4 _ rfl
    have y4 := (obj_cells Y5.out).1 4 _ rfl
    have SI := Lib.hid (sameInts_any kp none x.kids Y.kids x.kids.length Y.kids.length kc 0 rfl rfl w5 ROWX.out YR.out (by omega))
    cases hs : (x.kids == Y.kids) with
    | true =>
      rw [hs] at SI
      have KX : Hid (kidsL a (b.take (i + 1)) = kidsL a (b.take i)) := Lib.hid (by rw [kids_takeL HX.out, WN.out, hs]; simp)
      clear hs
      go_upto_region 22 with (go_at_call 25; refine SI.out.mono ?_; rintro e w6 ⟨rfl, hb6⟩; have DX := Lib.hid (D5.out.later hb6); have XB := Lib.hid ((hb6.block _ (Array.getElem?_eq_some_iff.1 X5.out).1).trans X5.out); have YB := Lib.hid ((hb6.block _ (Array.getElem?_eq_some_iff.1 Y5.out).1).trans Y5.out); clear hb6)
      rw [← KX.out] at DX
      clear x4 y4 SI D5 X5 Y5
      have x0 := (obj_cells XB.out).1 0 _ rfl
      have x2 := (obj_cells XB.out).1 2 _ rfl
      have x3 := (obj_cells XB.out).1 3 _ rfl
      have y2 := (obj_cells YB.out).1 2 _ rfl
      have y3 := (obj_cells YB.out).1 3 _ rfl
      have OW9 : Hid (∀ W', Below w6.heap.size w6 W' → W'.ownsRow w.heap.size 43 6 (.slice p9 M9 c9) M9 (lyS.all vs9)) := Lib.hid (fun W' hW => by
        have := ((DX.out.rows.own 3 _ rfl).row).below hW
        unfold Ly.Own at this
        dsimp only at this
        rw [LN9.out] at this
        exact this)
      by_cases hf : x.fr = Y.fr
      · have qf : (x.fr != Y.fr) = false := by rw [hf]; simp
        by_cases ht : Nd.to x = Nd.to Y
        · have qt : (Nd.to x != Nd.to Y) = false := by rw [ht]; simp
          have SP : Hid (spansL a (b.take (i + 1)) = spansL a (b.take i)) := Lib.hid (by rw [spans_take HX.out, WN.out, hf, ht]; simp)
          clear hf ht OW9
          go_wp2_with fail
          refine HQ.out _ _ _ _ (vs7 ++ [⟨1, x.id, x.kd, 0, 0, none, 0, 0⟩]) (vs8) vs9 KB.out ?_ _ _ _ _ _ _ _ _ _ _ _ _ _ _ _ _ _ _ _ _ _ _ _ _ _ _ _ _ _ _ _ _ _ _ _ _ _ _ _ _ _ _ _ _ _ _ _ _ _ _ _ _ _ _ _ _ _ _ _ _ _ _ _ _ _ _ _ _ _ _ _
          rw [SP.out]; exact DX.out
        · have qt : (Nd.to x != Nd.to Y) = true := bne_iff_ne.2 ht
          have SP : Hid (spansL a (b.take (i + 1)) = spansL a (b.take i) ++ [⟨3, x.id, 0, x.fr, Nd.to x, []⟩]) := Lib.hid (by rw [spans_take HX.out, WN.out, if_pos]; simp [ht])
          clear hf ht
          go_wp2_with (at_builtin; refine wpList_append_all _ rfl _ _ 26 rfl w.heap.size 43 i8 _ 6 64 Try.underlying26 hi8 hz08 hz18 hz28 rfl (by decide) (.slice p9 M9 c9) M9 (lyS.all vs9) rfl (OW9.out _ (below1 (Below.refl _ _) (Nat.le_refl _) _)) (some ⟨w6.heap.size, 0, none⟩) 1 1 (Sv.cells ⟨3, x.id, 0, x.fr, Nd.to x, none, 0, 0⟩) rfl rfl (fun e => by cases e) (fun ad hp => by cases hp; exact six_new rfl ⟨3, x.id, 0, x.fr, Nd.to x, none, 0, 0⟩) (lyS.one ⟨3, x.id, 0, x.fr, Nd.to x, none, 0, 0⟩) (by unfold maxLen; omega) (by omega) (by have := DX.out.below.size; simp; omega) (M9 + 1) rfl ?_; intro p9' c9' w8 hown hgrow hblk; have O9 := Lib.hid hown; have G9 := Lib.hid hgrow; have L9 := Lib.hid hblk; clear hown hgrow hblk)
          refine HQ.out _ _ _ _ (vs7 ++ [⟨1, x.id, x.kd, 0, 0, none, 0, 0⟩]) (vs8) (vs9 ++ [⟨3, x.id, 0, x.fr, Nd.to x, none, 0, 0⟩]) KB.out ?_ _ _ _ _ _ _ _ _ _ _ _ _ _ _ _ _ _ _ _ _ _ _ _ _ _ _ _ _ _ _ _ _ _ _ _ _ _ _ _ _ _ _ _ _ _ _ _ _ _ _ _ _ _ _ _ _ _ _ _ _ _ _ _ _ _ _ _ _ _ _ _
          rw [SP.out]
          exact (DX.out.later (below1 (Below.refl _ _) (Nat.le_refl _) _)).push (k := 3) rfl (push_plain (k := 3) (DX.out.rows.below (below1 (Below.refl _ _) (Nat.le_refl _) _)) rfl ⟨3, x.id, 0, x.fr, Nd.to x, []⟩ rfl LN9.out O9.out G9.out L9.out) G9.out
      · have qf : (x.fr != Y.fr) = true := bne_iff_ne.2 hf
        have SP : Hid (spansL a (b.take (i + 1)) = spansL a (b.take i) ++ [⟨3, x.id, 0, x.fr, Nd.to x, []⟩]) := Lib.hid (by rw [spans_take HX.out, WN.out, if_pos]; simp [hf])
        clear hf
        go_wp2_with (at_builtin; refine wpList_append_all _ rfl _ _ 26 rfl w.heap.size 43 i8 _ 6 64 Try.underlying26 hi8 hz08 hz18 hz28 rfl (by decide) (.slice p9 M9 c9) M9 (lyS.all vs9) rfl (OW9.out _ (below1 (Below.refl _ _) (Nat.le_refl _) _)) (some ⟨w6.heap.size, 0, none⟩) 1 1 (Sv.cells ⟨3, x.id, 0, x.fr, Nd.to x, none, 0, 0⟩) rfl rfl (fun e => by cases e) (fun ad hp => by cases hp; exact six_new rfl ⟨3, x.id, 0, x.fr, Nd.to x, none, 0, 0⟩) (lyS.one ⟨3, x.id, 0, x.fr, Nd.to x, none, 0, 0⟩) (by unfold maxLen; omega) (by omega) (by have := DX.out.below.size; simp; omega) (M9 + 1) rfl ?_; intro p9' c9' w8 hown hgrow hblk; have O9 := Lib.hid hown; have G9 := Lib.hid hgrow; have L9 := Lib.hid hblk; clear hown hgrow hblk)
        refine HQ.out _ _ _ _ (vs7 ++ [⟨1, x.id, x.kd, 0, 0, none, 0, 0⟩]) (vs8) (vs9 ++ [⟨3, x.id, 0, x.fr, Nd.to x, none, 0, 0⟩]) KB.out ?_ _ _ _ _ _ _ _ _ _ _ _ _ _ _ _ _ _ _ _ _ _ _ _ _ _ _ _ _ _ _ _ _ _ _ _ _ _ _ _ _ _ _ _ _ _ _ _ _ _ _ _ _ _ _ _ _ _ _ _ _ _ _ _ _ _ _ _ _ _ _ _
        rw [SP.out]
        exact (DX.out.later (below1 (Below.refl _ _) (Nat.le_refl _) _)).push (k := 3) rfl (push_plain (k := 3) (DX.out.rows.below (below1 (Below.refl _ _) (Nat.le_refl _) _)) rfl ⟨3, x.id, 0, x.fr, Nd.to x, []⟩ rfl LN9.out O9.out G9.out L9.out) G9.out
    | false =>
      rw [hs] at SI
      have KX : Hid (kidsL a (b.take (i + 1)) = kidsL a (b.take i) ++ [⟨2, x.id, 0, 0, 0, x.kids⟩]) := Lib.hid (by rw [kids_takeL HX.out, WN.out, hs]; simp)
      clear hs
      go_upto_region 21 with (go_at_call 25; refine SI.out.mono ?_; rintro e w6 ⟨rfl, hb6⟩; have D6 := Lib.hid (D5.out.later hb6); have X6 := Lib.hid ((hb6.block _ (Array.getElem?_eq_some_iff.1 X5.out).1).trans X5.out); have Y6 := Lib.hid ((hb6.block _ (Array.getElem?_eq_some_iff.1 Y5.out).1).trans Y5.out); have RX6 := Lib.hid (ROWX.out.below hb6); clear hb6)
      clear x4 y4 SI D5 X5 Y5
      refine wp_onlyN (del21_any w6 w.heap.size xb M8 (M8 + 1) c8 2 x.kids.length kc p8 kp x.id x.kids _ vs8 _ _ _ _ _ _ _ _ _ _ _ _ _ _ _ _ _ _ _ _ _ _ _ _ _ _ _ _ _ _ _ _ _ _ _ _ _ _ _ _ _ _ _ _ _ _ _ _ _ _ _ _ _ _ _ _ _ _ _ _ _ _ _ _ _ _ _ _ _ _ _ _ _ _ _ _ _ _ _ _ _ _ _ _ _ _ _ _ _ _ _ _ _ _ _ _ _ _ _ _ _ _ _ _ _ _ _ _ _ _ _ _ _ _ _ _ _ _ _ _ _ _ _ _ _ _ _ _ _ _ _ _ _ _ _ _ _ _ _ _ _ _ _ _ _ _ _ _ _ (Lib.hid D6.out.rows) (Lib.hid rfl) LN8 (Lib.hid rfl) (by omega) (Lib.hid D6.out.below.size) ((obj_cells X6.out).1 0 _ rfl) ((obj_cells X6.out).1 4 _ rfl) RX6 (Lib.hid rfl) (by omega) (Lib.hid ?_))
      intro p8' c8' w7 x8 hr7 hg7
      intros
      have XB := Lib.hid (box_stays (D6.out.rows.own 2 _ rfl).row hg7 X6.out (by decide))
      have YB := Lib.hid (box_stays (D6.out.rows.own 2 _ rfl).row hg7 Y6.out (by decide))
      have DX := Lib.hid (D6.out.push (k := 2) rfl hr7 hg7)
      clear hr7 hg7 X6 Y6 D6 RX6
      have DX : Hid (DS w w7 a ra na pa A ca b rb nb (some ⟨bb, ob, none⟩) B cb [(v6, vs6, ss6), (.slice p7' (M7 + 1) c7', vs7 ++ [⟨1, x.id, x.kd, 0, 0, none, 0, 0⟩], makesL a (b.take (i + 1))), (.slice p8' (M8 + 1) c8', vs8 ++ [x8], kidsL a (b.take (i + 1))), (.slice p9 M9 c9, vs9, spansL a (b.take i))]) := Lib.hid (by rw [KX.out]; exact DX.out)
      go_upto_region 22 with fail
      have x0 := (obj_cells XB.out).1 0 _ rfl
      have x2 := (obj_cells XB.out).1 2 _ rfl
      have x3 := (obj_cells XB.out).1 3 _ rfl
      have y2 := (obj_cells YB.out).1 2 _ rfl
      have y3 := (obj_cells YB.out).1 3 _ rfl
      have OW9 : Hid (∀ W', Below w7.heap.size w7 W' → W'.ownsRow w.heap.size 43 6 (.slice p9 M9 c9) M9 (lyS.all vs9)) := Lib.hid (fun W' hW => by
        have := ((DX.out.rows.own 3 _ rfl).row).below hW
        unfold Ly.Own at this
        dsimp only at this
        rw [LN9.out] at this
        exact this)
      by_cases hf : x.fr = Y.fr
      · have qf : (x.fr != Y.fr) = false := by rw [hf]; simp
        by_cases ht : Nd.to x = Nd.to Y
        · have qt : (Nd.to x != Nd.to Y) = false := by rw [ht]; simp
          have SP : Hid (spansL a (b.take (i + 1)) = spansL a (b.take i)) := Lib.hid (by rw [spans_take HX.out, WN.out, hf, ht]; simp)
          clear hf ht OW9
          go_wp2_with fail
          refine HQ.out _ _ _ _ (vs7 ++ [⟨1, x.id, x.kd, 0, 0, none, 0, 0⟩]) (vs8 ++ [x8]) vs9 KB.out ?_ _ _ _ _ _ _ _ _ _ _ _ _ _ _ _ _ _ _ _ _ _ _ _ _ _ _ _ _ _ _ _ _ _ _ _ _ _ _ _ _ _ _ _ _ _ _ _ _ _ _ _ _ _ _ _ _ _ _ _ _ _ _ _ _ _ _ _ _ _ _ _
          rw [SP.out]; exact DX.out
        · have qt : (Nd.to x != Nd.to Y) = true := bne_iff_ne.2 ht
          have SP : Hid (spansL a (b.take (i + 1)) = spansL a (b.take i) ++ [⟨3, x.id, 0, x.fr, Nd.to x, []⟩]) := Lib.hid (by rw [spans_take HX.out, WN.out, if_pos]; simp [ht])
          clear hf ht
          go_wp2_with (at_builtin; refine wpList_append_all _ rfl _ _ 26 rfl w.heap.size 43 i8 _ 6 64 Try.underlying26 hi8 hz08 hz18 hz28 rfl (by decide) (.slice p9 M9 c9) M9 (lyS.all vs9) rfl (OW9.out _ (below1 (Below.refl _ _) (Nat.le_refl _) _)) (some ⟨w7.heap.size, 0, none⟩) 1 1 (Sv.cells ⟨3, x.id, 0, x.fr, Nd.to x, none, 0, 0⟩) rfl rfl (fun e => by cases e) (fun ad hp => by cases hp; exact six_new rfl ⟨3, x.id, 0, x.fr, Nd.to x, none, 0, 0⟩) (lyS.one ⟨3, x.id, 0, x.fr, Nd.to x, none, 0, 0⟩) (by unfold maxLen; omega) (by omega) (by have := DX.out.below.size; simp; omega) (M9 + 1) rfl ?_; intro p9' c9' w8 hown hgrow hblk; have O9 := Lib.hid hown; have G9 := Lib.hid hgrow; have L9 := Lib.hid hblk; clear hown hgrow hblk)
          refine HQ.out _ _ _ _ (vs7 ++ [⟨1, x.id, x.kd, 0, 0, none, 0, 0⟩]) (vs8 ++ [x8]) (vs9 ++ [⟨3, x.id, 0, x.fr, Nd.to x, none, 0, 0⟩]) KB.out ?_ _ _ _ _ _ _ _ _ _ _ _ _ _ _ _ _ _ _ _ _ _ _ _ _ _ _ _ _ _ _ _ _ _ _ _ _ _ _ _ _ _ _ _ _ _ _ _ _ _ _ _ _ _ _ _ _ _ _ _ _ _ _ _ _ _ _ _ _ _ _ _
          rw [SP.out]
          exact (DX.out.later (below1 (Below.refl _ _) (Nat.le_refl _) _)).push (k := 3) rfl (push_plain (k := 3) (DX.out.rows.below (below1 (Below.refl _ _) (Nat.le_refl _) _)) rfl ⟨3, x.id, 0, x.fr, Nd.to x, []⟩ rfl LN9.out O9.out G9.out L9.out) G9.out
      · have qf : (x.fr != Y.fr) = true := bne_iff_ne.2 hf
        have SP : Hid (spansL a (b.take (i + 1)) = spansL a (b.take i) ++ [⟨3, x.id, 0, x.fr, Nd.to x, []⟩]) := Lib.hid (by rw [spans_take HX.out, WN.out, if_pos]; simp [hf])
        clear hf
        go_wp2_with (at_builtin; refine wpList_append_all _ rfl _ _ 26 rfl w.heap.size 43 i8 _ 6 64 Try.underlying26 hi8 hz08 hz18 hz28 rfl (by decide) (.slice p9 M9 c9) M9 (lyS.all vs9) rfl (OW9.out _ (below1 (Below.refl _ _) (Nat.le_refl _) _)) (some ⟨w7.heap.size, 0, none⟩) 1 1 (Sv.cells ⟨3, x.id, 0, x.fr, Nd.to x, none, 0, 0⟩) rfl rfl (fun e => by cases e) (fun ad hp => by cases hp; exact six_new rfl ⟨3, x.id, 0, x.fr, Nd.to x, none, 0, 0⟩) (lyS.one ⟨3, x.id, 0, x.fr, Nd.to x, none, 0, 0⟩) (by unfold maxLen; omega) (by omega) (by have := DX.out.below.size; simp; omega) (M9 + 1) rfl ?_; intro p9' c9' w8 hown hgrow hblk; have O9 := Lib.hid hown; have G9 := Lib.hid hgrow; have L9 := Lib.hid hblk; clear hown hgrow hblk)
        refine HQ.out _ _ _ _ (vs7 ++ [⟨1, x.id, x.kd, 0, 0, none, 0, 0⟩]) (vs8 ++ [x8]) (vs9 ++ [⟨3, x.id, 0, x.fr, Nd.to x, none, 0, 0⟩]) KB.out ?_ _ _ _ _ _ _ _ _ _ _ _ _ _ _ _ _ _ _ _ _ _ _ _ _ _ _ _ _ _ _ _ _ _ _ _ _ _ _ _ _ _ _ _ _ _ _ _ _ _ _ _ _ _ _ _ _ _ _ _ _ _ _ _ _ _ _ _ _ _ _ _
        rw [SP.out]
        exact (DX.out.later (below1 (Below.refl _ _) (Nat.le_refl _) _)).push (k := 3) rfl (push_plain (k := 3) (DX.out.rows.below (below1 (Below.refl _ _) (Nat.le_refl _) _)) rfl ⟨3, x.id, 0, x.fr, Nd.to x, []⟩ rfl LN9.out O9.out G9.out L9.out) G9.out

end Go.Proofs.Ytmeigoeknjoodaa
