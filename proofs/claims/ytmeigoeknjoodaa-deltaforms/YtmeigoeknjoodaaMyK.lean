/-
  The loop of the reference's TreeMay over a node's children, by itself. Conditions: as the theorem's premises say.
-/
import Derived.Test.YtmeigoeknjoodaaMyS
namespace Go.Proofs.Ytmeigoeknjoodaa
open Go.RowKit

/-- The block number n of a text. -/
def blockOf (n : Nat) : Code → Option Code
  | .block m c => if m = n then some (.block m c) else blockOf n c
  | .loop c => blockOf n c
  | .seq a b => match blockOf n a with
    | some c => some c
    | none => blockOf n b
  | .cond _ a b => match blockOf n a with
    | some c => some c
    | none => blockOf n b
  | .scope c => blockOf n c
  | _ => none
noncomputable def mayK : Code := (Try.f22.body.bind (blockOf 2)).getD .skip
/-- The memory of the loop: TreeMay's own, and the node's box. -/
structure MX (w wr : World) (ns : List Nd) (root next : Int) (p : Option Addr) (N cap : Nat) (l : List Int) (xb : Nat) (x : Nd) (kp : Option Addr) (kc : Nat) : Prop where
  mo : MO w wr ns root next p N cap l
  xbx : wr.heap[xb]? = some (.cells #[.int .i64 x.id, .int .i64 x.kd, .int .i64 x.fr, .int .i64 (Nd.to x), .slice kp x.kids.length kc] 46 (0, 0))
theorem MX.later {w wr W : World} {ns : List Nd} {root next : Int} {p : Option Addr} {N cap : Nat} {l : List Int} {xb : Nat} {x : Nd} {kp : Option Addr} {kc : Nat} (h : MX w wr ns root next p N cap l xb x kp kc) (hb : Below wr.heap.size wr W) : MX w W ns root next p N cap l xb x kp kc :=
  ⟨h.mo.later hb, (hb.block _ (Array.getElem?_eq_some_iff.1 h.xbx).1).trans h.xbx⟩
theorem MX.bump {w wr : World} {ns : List Nd} {root next : Int} {p : Option Addr} {N cap : Nat} {l : List Int} {xb : Nat} {x : Nd} {kp : Option Addr} {kc : Nat} (h : MX w wr ns root next p N cap l xb x kp kc) {c : Int} {q : Nat} (hq : fdZ ns c = (q : Int)) (hl : q < ns.length) (u : Int) (hu : u = ((l.countP (fun c => fdZ ns c == (q : Int)) : Nat) : Int) + 1) :
    MX w (wr.setCell ⟨w.heap.size + 1, q, none⟩ (.int .i64 u)) ns root next p N cap (l ++ [c]) xb x kp kc := by
  refine ⟨h.mo.bump hq hl u hu, ?_⟩
  obtain ⟨cur, hcur⟩ := h.mo.own.obj rfl
  have hne := type_ne h.xbx hcur (by decide)
  exact ((set_grown wr (w.heap.size + 1) q (.int .i64 u)).block xb (Array.getElem?_eq_some_iff.1 h.xbx).1 (fun e => hne (Option.some.inj e))).trans h.xbx

set_option maxRecDepth 1000000 in
set_option maxHeartbeats 8000000 in
theorem mayK_any (ns : List Nd) (root next : Int) (p : Option Addr) (N cap xb : Nat) (x : Nd) (kp : Option Addr) (kc : Nat) (l : List Int) (lo0 : Int) (w w0 : World) (Q : Exit → Act → World → Prop) (u0 u1 u3 u4 u5 u6 u8 u12 u13 u14 u15 u16 u17 u18 u19 u20 u21 u22 u23 u24 u25 u26 u27 u28 u29 u30 u31 u32 u33 u34 u35 u36 u37 u38 u39 u40 u41 u42 u43 u44 u45 u46 u47 u48 u49 u50 u51 u52 u53 u54 u55 u56 u57 u58 u59 u60 u61 u62 u63 u64 u65 u66 u67 u68 u69 u70 u71 u72 u73 u74 u75 u76 u77 u78 u79 u80 u81 u82 u83 u84 u85 u86 u87 u88 u89 u90 u91 u92 u93 u94 u95 u96 u97 u98 u99 u100 u101 u102 u103 u104 u105 u106 u107 u108 u109 u110 u111 u112 u113 u114 u115 u116 u117 u118 u119 u120 u121 u122 u123 u124 u125 u126 u127 u128 u129 u130 u131 u132 u133 u134 u135 u136 u137 u138 u139 u140 u141 u142 u143 u144 u145 u146 u147 u148 u149 u150 u151 u152 u153 u154 u155 u156 u157 u158 u159 u160 u161 u162 u163 u164 u165 u166 u167 u168 u169 u170 u171 u172 u173 u174 u175 u176 u177 u178 u179 u180 u181 u182 u183 u184 u185 u186 u187 u188 u189 u190 u191 u192 u193 u194 u195 u196 u197 u198 u199 u200 u201 u202 u203 u204 u205 u206 u207 u208 u209 u210 u211 u212 u213 u214 u215 u216 u217 u218 u219 u220 u221 u222 u223 u224 u225 u226 u227 u228 u229 u230 u231 : Value)
    (HN : Hid (ns.length = N)) (hN : N ≤ 4096) (R : Hid (NodesR w p ns)) (M : Hid (MX w w0 ns root next p N cap l xb x kp kc)) (ROW : Hid (lyI.Row w kp x.kids)) (hkl : x.kids.length ≤ 140737488355328) (HL : Hid (lo0 = x.fr)) (LL : Hid (l.length + x.kids.length ≤ 1000000000000000000))
    (HQ : Hid (∀ (w' : World), kidsOk ns (Nd.to x) x.fr x.kids = true → MO w w' ns root next p N cap (l ++ x.kids) → ∀ (v4 v10 v11 v12 v141 v142 v143 v144 v145 v146 v147 v148 v149 v150 v151 v152 v153 v154 v155 v156 v157 v158 v159 v160 v161 v162 v163 v164 v165 v166 v167 v168 v169 v170 v171 v172 v173 v174 v175 v176 v177 v178 v179 v180 v181 v182 v183 v184 v185 v186 v187 v188 v189 v190 v191 v192 v193 v194 v195 v196 v197 v198 v199 v200 : Value), Q .normal ⟨#[u0, u1, .pointer (some ⟨w.heap.size, 0, none⟩), u3, v4, u5, u6, .slice (some ⟨w.heap.size + 1, 0, none⟩) N N, u8, .pointer (some ⟨xb, 0, none⟩), v10, v11, v12, u13, u14, u15, u16, u17, u18, u19, u20, u21, u22, u23, u24, u25, u26, u27, u28, u29, u30, u31, u32, u33, u34, u35, u36, u37, u38, u39, u40, u41, u42, u43, u44, u45, u46, u47, u48, u49, u50, u51, u52, u53, u54, u55, u56, u57, u58, u59, u60, u61, u62, u63, u64, u65, u66, u67, u68, u69, u70, u71, u72, u73, u74, u75, u76, u77, u78, u79, u80, u81, u82, u83, u84, u85, u86, u87, u88, u89, u90, u91, u92, u93, u94, u95, u96, u97, u98, u99, u100, u101, u102, u103, u104, u105, u106, u107, u108, u109, u110, u111, u112, u113, u114, u115, u116, u117, u118, u119, u120, u121, u122, u123, u124, u125, u126, u127, u128, u129, u130, u131, u132, u133, u134, u135, u136, u137, u138, u139, u140, v141, v142, v143, v144, v145, v146, v147, v148, v149, v150, v151, v152, v153, v154, v155, v156, v157, v158, v159, v160, v161, v162, v163, v164, v165, v166, v167, v168, v169, v170, v171, v172, v173, v174, v175, v176, v177, v178, v179, v180, v181, v182, v183, v184, v185, v186, v187, v188, v189, v190, v191, v192, v193, v194, v195, v196, v197, v198, v199, v200, u201, u202, u203, u204, u205, u206, u207, u208, u209, u210, u211, u212, u213, u214, u215, u216, u217, u218, u219, u220, u221, u222, u223, u224, u225, u226, u227, u228, u229, u230, u231], []⟩ w'))
    (HR : Hid (∀ (w' : World), kidsOk ns (Nd.to x) x.fr x.kids = false → ∀ (v10 v11 v12 v141 v142 v143 v144 v145 v146 v147 v148 v149 v150 v151 v152 v153 v154 v155 v156 v157 v158 v159 v160 v161 v162 v163 v164 v165 v166 v167 v168 v169 v170 v171 v172 v173 v174 v175 v176 v177 v178 v179 v180 v181 v182 v183 v184 v185 v186 v187 v188 v189 v190 v191 v192 v193 v194 v195 v196 v197 v198 v199 v200 : Value), Below w.heap.size w w' → Q .ret ⟨#[u0, u1, .pointer (some ⟨w.heap.size, 0, none⟩), u3, .bool false, u5, u6, .slice (some ⟨w.heap.size + 1, 0, none⟩) N N, u8, .pointer (some ⟨xb, 0, none⟩), v10, v11, v12, u13, u14, u15, u16, u17, u18, u19, u20, u21, u22, u23, u24, u25, u26, u27, u28, u29, u30, u31, u32, u33, u34, u35, u36, u37, u38, u39, u40, u41, u42, u43, u44, u45, u46, u47, u48, u49, u50, u51, u52, u53, u54, u55, u56, u57, u58, u59, u60, u61, u62, u63, u64, u65, u66, u67, u68, u69, u70, u71, u72, u73, u74, u75, u76, u77, u78, u79, u80, u81, u82, u83, u84, u85, u86, u87, u88, u89, u90, u91, u92, u93, u94, u95, u96, u97, u98, u99, u100, u101, u102, u103, u104, u105, u106, u107, u108, u109, u110, u111, u112, u113, u114, u115, u116, u117, u118, u119, u120, u121, u122, u123, u124, u125, u126, u127, u128, u129, u130, u131, u132, u133, u134, u135, u136, u137, u138, u139, u140, v141, v142, v143, v144, v145, v146, v147, v148, v149, v150, v151, v152, v153, v154, v155, v156, v157, v158, v159, v160, v161, v162, v163, v164, v165, v166, v167, v168, v169, v170, v171, v172, v173, v174, v175, v176, v177, v178, v179, v180, v181, v182, v183, v184, v185, v186, v187, v188, v189, v190, v191, v192, v193, v194, v195, v196, v197, v198, v199, v200, u201, u202, u203, u204, u205, u206, u207, u208, u209, u210, u211, u212, u213, u214, u215, u216, u217, u218, u219, u220, u221, u222, u223, u224, u225, u226, u227, u228, u229, u230, u231], []⟩ w')) :
    Code.wp Try.prog mayK Q ⟨#[u0, u1, .pointer (some ⟨w.heap.size, 0, none⟩), u3, u4, u5, u6, .slice (some ⟨w.heap.size + 1, 0, none⟩) N N, u8, .pointer (some ⟨xb, 0, none⟩), .int .i64 lo0, .int .i64 0, u12, u13, u14, u15, u16, u17, u18, u19, u20, u21, u22, u23, u24, u25, u26, u27, u28, u29, u30, u31, u32, u33, u34, u35, u36, u37, u38, u39, u40, u41, u42, u43, u44, u45, u46, u47, u48, u49, u50, u51, u52, u53, u54, u55, u56, u57, u58, u59, u60, u61, u62, u63, u64, u65, u66, u67, u68, u69, u70, u71, u72, u73, u74, u75, u76, u77, u78, u79, u80, u81, u82, u83, u84, u85, u86, u87, u88, u89, u90, u91, u92, u93, u94, u95, u96, u97, u98, u99, u100, u101, u102, u103, u104, u105, u106, u107, u108, u109, u110, u111, u112, u113, u114, u115, u116, u117, u118, u119, u120, u121, u122, u123, u124, u125, u126, u127, u128, u129, u130, u131, u132, u133, u134, u135, u136, u137, u138, u139, u140, u141, u142, u143, u144, u145, u146, u147, u148, u149, u150, u151, u152, u153, u154, u155, u156, u157, u158, u159, u160, u161, u162, u163, u164, u165, u166, u167, u168, u169, u170, u171, u172, u173, u174, u175, u176, u177, u178, u179, u180, u181, u182, u183, u184, u185, u186, u187, u188, u189, u190, u191, u192, u193, u194, u195, u196, u197, u198, u199, u200, u201, u202, u203, u204, u205, u206, u207, u208, u209, u210, u211, u212, u213, u214, u215, u216, u217, u218, u219, u220, u221, u222, u223, u224, u225, u226, u227, u228, u229, u230, u231], []⟩ w0 := by
  conv => arg 2; whnf
  have FA := Lib.hid (fun (W : World) (hW : Below w.heap.size w W) (c : Int) => find_any root next p ns N cap HN.out c W (R.out.below hW) (by omega))
  unfold trV at FA
  go_wp2_with fail
  go_loopw [10, 11] (fun a v wc => ∃ (j : Nat) (lo : Int), j ≤ x.kids.length ∧ v = .int .i64 j ∧ a = .int .i64 lo ∧ Hid (kidsOk ns (Nd.to x) x.fr x.kids = kidsOk ns (Nd.to x) lo (x.kids.drop j)) ∧ Hid (MX w wc ns root next p N cap (l ++ x.kids.take j) xb x kp kc)) (fun _ v _ => x.kids.length - (intOf v).toNat)
  case atStart => exact ⟨0, lo0, by omega, rfl, rfl, Lib.hid (by rw [HL.out]; rfl), Lib.hid (by rw [List.take_zero, List.append_nil]; exact M.out)⟩
  case round =>
    clear M
    obtain ⟨j, lo, hj, rfl, rfl, KE, M⟩ := hrel
    have x2 := (obj_cells M.out.xbx).1 2 _ rfl
    have x3 := (obj_cells M.out.xbx).1 3 _ rfl
    have x4 := (obj_cells M.out.xbx).1 4 _ rfl
    have t0 := (obj_cells M.out.mo.box).1 0 _ rfl
    have t1 := (obj_cells M.out.mo.box).1 1 _ rfl
    have t2 := (obj_cells M.out.mo.box).1 2 _ rfl
    by_cases hlt : j < x.kids.length
    · obtain ⟨c, hc⟩ : ∃ c, x.kids[j]? = some c := ⟨_, List.getElem?_eq_getElem hlt⟩
      obtain ⟨kb, ko, rfl, d0⟩ := ints_at ROW.out hc
      have d1 := cell_later M.out.mo.below d0
      have ZD := Lib.hid (kids_step hc)
      have TK : Hid (l ++ x.kids.take (j + 1) = (l ++ x.kids.take j) ++ [c]) := Lib.hid (by rw [List.take_add_one, hc, ← List.append_assoc]; rfl)
      have hj0 : (0 : Int) ≤ (j : Int) := by omega
      have hj1 : (j : Int) < (x.kids.length : Int) := by omega
      have hbn : xb < wr.heap.size := (Array.getElem?_eq_some_iff.1 M.out.xbx).1
      clear hc d0
      go_upto_region 20 with fail
      rcases fd_cases ns c with ⟨q, y, h1, h2, h3, h4⟩ | ⟨h1, h2⟩
      · have hq : q < N := by rw [← HN.out]; exact (List.getElem?_eq_some_iff.1 h2).1
        have HQL := Lib.hid (List.getElem?_eq_some_iff.1 h2).1
        obtain ⟨b, o, kp2, kc2, rfl, hat, -⟩ := R.out q y h2
        have e1 := cell_later M.out.mo.below (show w.cell? ⟨b, o + q * 5 + 1, none⟩ = some (.int .i64 y.kd) from hat 1 _ rfl)
        have e2 := cell_later M.out.mo.below (show w.cell? ⟨b, o + q * 5 + 2, none⟩ = some (.int .i64 y.fr) from hat 2 _ rfl)
        have e3 := cell_later M.out.mo.below (show w.cell? ⟨b, o + q * 5 + 3, none⟩ = some (.int .i64 (Nd.to y)) from hat 3 _ rfl)
        have Y3 : Hid (w.cell? ⟨b, o + q * 5 + 3, none⟩ = some (.int .i64 (Nd.to y))) := Lib.hid (hat 3 _ rfl)
        have FC : Hid (∀ X : Ext wr, Calls Try.prog 24 #[.agg #[.int .i64 root, .int .i64 next, .slice (some ⟨b, o, none⟩) N cap], .int .i64 c] X.w (RetBelow (.returned (.int .i64 q)) X.w)) := Lib.hid (fun X => by
          have := FA.out X.w (M.out.mo.below.trans (X.below.mono M.out.mo.below.size)) c
          rw [h1] at this
          exact this)
        have KS := Lib.hid (kidsOk_some (tt := Nd.to x) (lo := lo) (r := x.kids.drop (j + 1)) h4)
        have H1 := Lib.hid h1
        clear h1 h2 h3 h4 hat
        have hq0 : (0 : Int) ≤ (q : Int) := by omega
        have hq1 : (q : Int) < (N : Int) := by omega
        have hqn : ¬ ((q : Int) < 0) := by omega
        have hqd : decide ((q : Int) < 0) = false := decide_eq_false hqn
        have y0 : ∀ X : Ext wr, X.w.cell? ⟨w.heap.size, 0, none⟩ = some (.int .i64 root) := fun X => X.cell t0
        have y1 : ∀ X : Ext wr, X.w.cell? ⟨w.heap.size, 1, none⟩ = some (.int .i64 next) := fun X => X.cell t1
        have y2 : ∀ X : Ext wr, X.w.cell? ⟨w.heap.size, 2, none⟩ = some (.slice (some ⟨b, o, none⟩) N cap) := fun X => X.cell t2
        have y4 : ∀ X : Ext wr, X.w.cell? ⟨xb, 4, none⟩ = some (.slice (some ⟨kb, ko, none⟩) x.kids.length kc) := fun X => X.cell x4
        have y5 : ∀ X : Ext wr, X.w.cell? ⟨kb, ko + j, none⟩ = some (.int .i64 c) := fun X => X.cell d1
        refine wp_region_ext (by kernel_rfl) (by kernel_rfl) ?_
        repeat (go_big_quiet_step (first | (go_at_call 24; exact Ext.calls (FC.out _)) | fail))
        refine wpQuiet_nil ?_
        rintro _ ⟨X, rfl⟩
        have BX := Lib.hid X.below
        have f1 := X.cell e1
        have f2 := X.cell e2
        have f3 := X.cell e3
        have g2 := X.cell t2
        have g3 := X.cell x3
        have MM := Lib.hid (M.out.later X.below)
        clear y0 y1 y2 y4 y5 e1 e2 e3 t0 t1 t2 x2 x3 x4 d1
        generalize X.w = W at BX f1 f2 f3 g2 g3 MM ⊢
        go_wp2_with fail
        have DW : ∀ n, Below w.heap.size w (W.drewN n) := fun n => MM.out.mo.below.trans ((dr_below W n).mono MM.out.mo.below.size)
        by_cases h5 : y.fr < lo
        · have KF : Hid (kidsOk ns (Nd.to x) x.fr x.kids = false) := Lib.hid (by rw [KE.out, ZD.out, KS.out, decide_eq_false (show ¬ lo ≤ y.fr by omega)]; rfl)
          refine wp_region_quiet_lit (by kernel_rfl) (by kernel_rfl) ?_
          repeat (go_big_quiet_step (fail))
          refine wpQuiet_nil ?_
          rintro _ ⟨nq, rfl⟩
          go_wp2_with fail
          exact HR.out _ KF.out _ _ _ _ _ _ _ _ _ _ _ _ _ _ _ _ _ _ _ _ _ _ _ _ _ _ _ _ _ _ _ _ _ _ _ _ _ _ _ _ _ _ _ _ _ _ _ _ _ _ _ _ _ _ _ _ _ _ _ _ _ _ _ (DW nq)
        · by_cases h6 : Nd.to x < Nd.to y
          · have KF : Hid (kidsOk ns (Nd.to x) x.fr x.kids = false) := Lib.hid (by rw [KE.out, ZD.out, KS.out, decide_eq_false (show ¬ Nd.to y ≤ Nd.to x by omega), Bool.and_false]; rfl)
            refine wp_region_quiet_lit (by kernel_rfl) (by kernel_rfl) ?_
            repeat (go_big_quiet_step (fail))
            refine wpQuiet_nil ?_
            rintro _ ⟨nq, rfl⟩
            go_wp2_with fail
            exact HR.out _ KF.out _ _ _ _ _ _ _ _ _ _ _ _ _ _ _ _ _ _ _ _ _ _ _ _ _ _ _ _ _ _ _ _ _ _ _ _ _ _ _ _ _ _ _ _ _ _ _ _ _ _ _ _ _ _ _ _ _ _ _ _ _ _ _ (DW nq)
          · by_cases h7 : y.kd = 0
            · have KF : Hid (kidsOk ns (Nd.to x) x.fr x.kids = false) := Lib.hid (by rw [KE.out, ZD.out, KS.out, h7]; simp)
              have q7 : (y.kd == 0) = true := by rw [h7]; rfl
              clear h7
              refine wp_region_quiet_lit (by kernel_rfl) (by kernel_rfl) ?_
              repeat (go_big_quiet_step (fail))
              refine wpQuiet_nil ?_
              rintro _ ⟨nq, rfl⟩
              go_wp2_with fail
              exact HR.out _ KF.out _ _ _ _ _ _ _ _ _ _ _ _ _ _ _ _ _ _ _ _ _ _ _ _ _ _ _ _ _ _ _ _ _ _ _ _ _ _ _ _ _ _ _ _ _ _ _ _ _ _ _ _ _ _ _ _ _ _ _ _ _ _ _ (DW nq)
            · have q7 : (y.kd == 0) = false := beq_eq_false_iff_ne.2 h7
              have KE2 : Hid (kidsOk ns (Nd.to x) x.fr x.kids = kidsOk ns (Nd.to x) (Nd.to y) (x.kids.drop (j + 1))) := Lib.hid (by
                rw [KE.out, ZD.out, KS.out, decide_eq_true (show lo ≤ y.fr by omega), decide_eq_true (show Nd.to y ≤ Nd.to x by omega), q7]; rfl)
              clear h7
              obtain ⟨p1, p2⟩ := MM.out.mo.par HQL.out
              have CL : Hid ((l ++ x.kids.take j).countP (fun c => fdZ ns c == (q : Int)) ≤ 1000000000000000000) := Lib.hid (by
                refine Nat.le_trans List.countP_le_length ?_
                have := LL.out
                have h8 := List.length_take_le j x.kids
                rw [List.length_append]
                have h9 : (x.kids.take j).length ≤ x.kids.length := by rw [List.length_take]; omega
                omega)
              have BU := Lib.hid (fun (n : Nat) (u : Int) (hu : u = (((l ++ x.kids.take j).countP (fun c => fdZ ns c == (q : Int)) : Nat) : Int) + 1) => (MM.out.later (dr_below W n)).bump H1.out HQL.out u hu)
              generalize (l ++ x.kids.take j).countP (fun c => fdZ ns c == (q : Int)) = cn at p1 CL BU
              have hcn := CL.out
              refine wp_region_quiet_lit (by kernel_rfl) (by kernel_rfl) ?_
              repeat (go_big_quiet_step (fail))
              refine wpQuiet_nil ?_
              rintro _ ⟨nq, rfl⟩
              have f1' : (W.drewN nq).cell? ⟨w.heap.size + 1, q, none⟩ = some (.int .i64 (cn : Int)) := p1
              have f2' : (W.drewN nq).frozen? ⟨w.heap.size + 1, q, none⟩ = false := p2
              have g2' : (W.drewN nq).cell? ⟨w.heap.size, 2, none⟩ = some (.slice (some ⟨b, o, none⟩) N cap) := g2
              go_upto_region 24 with fail
              have M4 := Lib.hid (BU.out nq ((cn : Int) + 1) rfl)
              have k2 := (obj_cells M4.out.mo.box).1 2 _ rfl
              have k3 : ((W.drewN nq).setCell ⟨w.heap.size + 1, q, none⟩ (.int .i64 ((cn : Int) + 1))).cell? ⟨b, o + q * 5 + 3, none⟩ = some (.int .i64 (Nd.to y)) := by
                have := M4.out.mo.below.cell (p := ⟨b, o + q * 5 + 3, none⟩) (World.block_lt_of_cell? w ⟨b, o + q * 5 + 3, none⟩ Y3.out)
                exact this.trans Y3.out
              clear f1' f2' g2' p1 p2 f1 f2 f3 g2 g3 BU
              generalize (W.drewN nq).setCell ⟨w.heap.size + 1, q, none⟩ (.int .i64 ((cn : Int) + 1)) = W4 at M4 k2 k3 ⊢
              go_wp2_with fail
              go_roundw
              case rel => exact ⟨j + 1, Nd.to y, by omega, by go_num, rfl, KE2, Lib.hid (by rw [TK.out]; exact M4.out)⟩
              case measure => simp [intOf]; omega
      · have FC : Hid (∀ X : Ext wr, Calls Try.prog 24 #[.agg #[.int .i64 root, .int .i64 next, .slice p N cap], .int .i64 c] X.w (RetBelow (.returned (.int .i64 (-1))) X.w)) := Lib.hid (fun X => by
          have := FA.out X.w (M.out.mo.below.trans (X.below.mono M.out.mo.below.size)) c
          rw [h1] at this
          exact this)
        have KF : Hid (kidsOk ns (Nd.to x) x.fr x.kids = false) := Lib.hid (by rw [KE.out, ZD.out, kidsOk_none h2])
        clear h1 h2
        have y0 : ∀ X : Ext wr, X.w.cell? ⟨w.heap.size, 0, none⟩ = some (.int .i64 root) := fun X => X.cell t0
        have y1 : ∀ X : Ext wr, X.w.cell? ⟨w.heap.size, 1, none⟩ = some (.int .i64 next) := fun X => X.cell t1
        have y2 : ∀ X : Ext wr, X.w.cell? ⟨w.heap.size, 2, none⟩ = some (.slice p N cap) := fun X => X.cell t2
        have y4 : ∀ X : Ext wr, X.w.cell? ⟨xb, 4, none⟩ = some (.slice (some ⟨kb, ko, none⟩) x.kids.length kc) := fun X => X.cell x4
        have y5 : ∀ X : Ext wr, X.w.cell? ⟨kb, ko + j, none⟩ = some (.int .i64 c) := fun X => X.cell d1
        refine wp_region_ext (by kernel_rfl) (by kernel_rfl) ?_
        repeat (go_big_quiet_step (first | (go_at_call 24; exact Ext.calls (FC.out _)) | fail))
        refine wpQuiet_nil ?_
        rintro _ ⟨X, rfl⟩
        have MM := Lib.hid (M.out.later X.below)
        clear y0 y1 y2 y4 y5 t0 t1 t2 x2 x3 x4 d1
        generalize X.w = W at MM ⊢
        go_wp2_with fail
        have DW : ∀ n, Below w.heap.size w (W.drewN n) := fun n => MM.out.mo.below.trans ((dr_below W n).mono MM.out.mo.below.size)
        refine wp_region_quiet_lit (by kernel_rfl) (by kernel_rfl) ?_
        repeat (go_big_quiet_step (fail))
        refine wpQuiet_nil ?_
        rintro _ ⟨nq, rfl⟩
        go_wp2_with fail
        exact HR.out _ KF.out _ _ _ _ _ _ _ _ _ _ _ _ _ _ _ _ _ _ _ _ _ _ _ _ _ _ _ _ _ _ _ _ _ _ _ _ _ _ _ _ _ _ _ _ _ _ _ _ _ _ _ _ _ _ _ _ _ _ _ _ _ _ _ (DW nq)
    · have KT : Hid (kidsOk ns (Nd.to x) x.fr x.kids = true) := Lib.hid (by rw [KE.out, List.drop_eq_nil_of_le (by omega)]; rfl)
      have MT : Hid (MO w wr ns root next p N cap (l ++ x.kids)) := Lib.hid (by have := M.out.mo; rwa [List.take_of_length_le (by omega)] at this)
      go_wp2_with fail
      exact HQ.out _ KT.out MT.out _ _ _ _ _ _ _ _ _ _ _ _ _ _ _ _ _ _ _ _ _ _ _ _ _ _ _ _ _ _ _ _ _ _ _ _ _ _ _ _ _ _ _ _ _ _ _ _ _ _ _ _ _ _ _ _ _ _ _ _ _ _ _ _

end Go.Proofs.Ytmeigoeknjoodaa
