/-
  The great test of the reference's TreeMay, by itself. Conditions: as each theorem's premises say.
-/
import Derived.Test.YtjmfjlffcopnnaaGreatDoorPM08
import Derived.Test.YtjmfjlffcopnnaaGreatDoorPM10
namespace Go.Proofs.YtjmfjlffcopnnaaGreatDoor
open Go.RowKit

/-- The region number n of a text. -/
def regOf (n : Nat) : Code → Option Code
  | .region m l d => if m = n then some (.region m l d) else none
  | .block _ c => regOf n c
  | .loop c => regOf n c
  | .seq a b => match regOf n a with
    | some c => some c
    | none => regOf n b
  | .cond _ a b => match regOf n a with
    | some c => some c
    | none => regOf n b
  | .scope c => regOf n c
  | _ => none
noncomputable def may10 : Code := (Tryz.f48.body.bind (regOf 10)).getD .skip

theorem leaf_L (k : Int) (w : World) (b : Bool) (hb : leafK k = b) : Calls Tryz.prog 98 #[.int .i64 k] w fun e w' => e = .returned (.bool b) ∧ w' = w := by
  subst hb; exact (leaf_any k w).mono fun _ _ h => ⟨h.1, h.2.symm⟩
/-- Is something wrong with a node by itself or the one ahead of it? -/
def badB (next size : Int) (i : Nat) (pid id kd fr tt : Int) (kn : Nat) : Bool :=
  decide (id < 0) || (decide (next ≤ id) || ((decide (0 < i) && decide (id ≤ pid)) || (decide (kd < 0) || (decide (7 < kd) || (decide (fr < 0) || (decide (tt < fr) || (decide (size < tt) || (leafK kd && decide (0 < kn)))))))))

set_option maxRecDepth 1000000 in
set_option maxHeartbeats 8000000 in
theorem may10_any (next size : Int) (i xb tb b o N cap : Nat) (pid id kd fr tt : Int) (kp : Option Addr) (kn kc : Nat) (w : World) (Q : Exit → Act → World → Prop) (u0 u3 u4 u5 u6 u7 u10 u11 u12 u13 u14 u15 u16 u17 u18 u19 u20 u21 u22 u23 u24 u25 u26 u27 u28 u29 u30 u31 u32 u33 u34 u35 u36 u37 u38 u39 u40 u41 u42 u43 u44 u45 u46 u47 u48 u49 u50 u51 u52 u53 u54 u55 u56 u57 u58 u59 u60 u61 u62 u63 u64 u65 u66 u67 u68 u69 u70 u71 u72 u73 u74 u75 u76 u77 u78 u79 u80 u81 u82 u83 u84 u85 u86 u87 u88 u89 u90 u91 u92 u93 u94 u95 u96 u97 u98 u99 u100 u101 u102 u103 u104 u105 u106 u107 u108 u109 u110 u111 u112 u113 u114 u115 u116 u117 u118 u119 u120 u121 u122 u123 u124 u125 u126 u127 u128 u129 u130 u131 u132 u133 u134 u135 u136 u137 u138 u139 u140 u141 u142 u143 u144 u145 u146 u147 u148 u149 u150 u151 u152 u153 u154 u155 u156 u157 u158 u159 u160 u161 u162 u163 u164 u165 u166 u167 u168 u169 u170 u171 u172 u173 u174 u175 u176 u177 u178 u179 u180 u181 u182 u183 u184 u185 u186 u187 u188 u189 u190 u191 u192 u193 u194 u195 u196 u197 u198 u199 u200 u201 u202 u203 u204 u205 u206 u207 u208 u209 u210 u211 u212 u213 u214 u215 u216 u217 u218 u219 u220 u221 u222 u223 u224 u225 u226 u227 u228 u229 u230 u231 : Value)
    (z0 : w.cell? ⟨xb, 0, none⟩ = some (.int .i64 id)) (z1 : w.cell? ⟨xb, 1, none⟩ = some (.int .i64 kd)) (z2 : w.cell? ⟨xb, 2, none⟩ = some (.int .i64 fr)) (z3 : w.cell? ⟨xb, 3, none⟩ = some (.int .i64 tt)) (z4 : w.cell? ⟨xb, 4, none⟩ = some (.slice kp kn kc))
    (y1 : w.cell? ⟨tb, 1, none⟩ = some (.int .i64 next)) (y2 : w.cell? ⟨tb, 2, none⟩ = some (.slice (some ⟨b, o, none⟩) N cap)) (hiN : i < N) (hN : N ≤ 4096)
    (hp : Hid (∀ j : Nat, i = j + 1 → w.cell? ⟨b, o + j * 5, none⟩ = some (.int .i64 pid)))
    (HQ : Hid (∀ (n : Nat) (B : Bool), B = badB next size i pid id kd fr tt kn → ∀ (v53 v54 v55 v56 v57 v58 v59 v60 v61 v62 v63 v64 v65 v66 v67 v68 v69 v70 v71 v72 v73 v74 v75 v76 v77 v78 v79 v80 v81 v82 v83 v84 v85 v86 v87 v88 v89 v90 v91 v92 v93 v94 v95 v96 v97 v98 v99 v100 v101 v102 v103 v104 v105 v106 v107 v108 v109 v110 v111 v112 v113 v114 v115 v116 : Value), Q .normal ⟨#[u0, .int .i64 size, .pointer (some ⟨tb, 0, none⟩), u3, u4, u5, u6, u7, .int .i64 (i : Int), .pointer (some ⟨xb, 0, none⟩), u10, u11, u12, u13, u14, u15, u16, u17, u18, u19, u20, u21, u22, u23, u24, u25, u26, u27, u28, u29, u30, u31, u32, u33, u34, u35, u36, u37, u38, u39, u40, u41, u42, u43, u44, u45, u46, u47, u48, u49, u50, u51, u52, v53, v54, v55, v56, v57, v58, v59, v60, v61, v62, v63, v64, v65, v66, v67, v68, v69, v70, v71, v72, v73, v74, v75, v76, v77, v78, v79, v80, v81, v82, v83, v84, v85, v86, v87, v88, v89, v90, v91, v92, v93, v94, v95, v96, v97, v98, v99, v100, v101, v102, v103, v104, v105, v106, v107, v108, v109, v110, v111, v112, v113, v114, v115, v116, .bool B, u118, u119, u120, u121, u122, u123, u124, u125, u126, u127, u128, u129, u130, u131, u132, u133, u134, u135, u136, u137, u138, u139, u140, u141, u142, u143, u144, u145, u146, u147, u148, u149, u150, u151, u152, u153, u154, u155, u156, u157, u158, u159, u160, u161, u162, u163, u164, u165, u166, u167, u168, u169, u170, u171, u172, u173, u174, u175, u176, u177, u178, u179, u180, u181, u182, u183, u184, u185, u186, u187, u188, u189, u190, u191, u192, u193, u194, u195, u196, u197, u198, u199, u200, u201, u202, u203, u204, u205, u206, u207, u208, u209, u210, u211, u212, u213, u214, u215, u216, u217, u218, u219, u220, u221, u222, u223, u224, u225, u226, u227, u228, u229, u230, u231], []⟩ (w.drewN n))) :
    Code.wp Tryz.prog may10 Q ⟨#[u0, .int .i64 size, .pointer (some ⟨tb, 0, none⟩), u3, u4, u5, u6, u7, .int .i64 (i : Int), .pointer (some ⟨xb, 0, none⟩), u10, u11, u12, u13, u14, u15, u16, u17, u18, u19, u20, u21, u22, u23, u24, u25, u26, u27, u28, u29, u30, u31, u32, u33, u34, u35, u36, u37, u38, u39, u40, u41, u42, u43, u44, u45, u46, u47, u48, u49, u50, u51, u52, u53, u54, u55, u56, u57, u58, u59, u60, u61, u62, u63, u64, u65, u66, u67, u68, u69, u70, u71, u72, u73, u74, u75, u76, u77, u78, u79, u80, u81, u82, u83, u84, u85, u86, u87, u88, u89, u90, u91, u92, u93, u94, u95, u96, u97, u98, u99, u100, u101, u102, u103, u104, u105, u106, u107, u108, u109, u110, u111, u112, u113, u114, u115, u116, u117, u118, u119, u120, u121, u122, u123, u124, u125, u126, u127, u128, u129, u130, u131, u132, u133, u134, u135, u136, u137, u138, u139, u140, u141, u142, u143, u144, u145, u146, u147, u148, u149, u150, u151, u152, u153, u154, u155, u156, u157, u158, u159, u160, u161, u162, u163, u164, u165, u166, u167, u168, u169, u170, u171, u172, u173, u174, u175, u176, u177, u178, u179, u180, u181, u182, u183, u184, u185, u186, u187, u188, u189, u190, u191, u192, u193, u194, u195, u196, u197, u198, u199, u200, u201, u202, u203, u204, u205, u206, u207, u208, u209, u210, u211, u212, u213, u214, u215, u216, u217, u218, u219, u220, u221, u222, u223, u224, u225, u226, u227, u228, u229, u230, u231], []⟩ w := by
  show Code.wp Tryz.prog (Code.region 10 _ true) Q _ _
  simp only [List.append_eq, List.cons_append, List.nil_append]
  refine wp_region_quiet_lit (by kernel_rfl) (by kernel_rfl) ?_
  obtain ⟨LB, LH⟩ : ∃ LB, Hid (leafK kd = LB) := ⟨_, Lib.hid rfl⟩
  by_cases h1 : id < 0
  · have E : Hid (true = badB next size i pid id kd fr tt kn) := Lib.hid (by unfold badB; rw [decide_eq_true h1]; rfl)
    repeat (go_big_quiet_step (first | (go_at_call 98; exact Calls.quiet_of_same (leaf_L _ _ _ LH.out)) | fail))
    refine wpQuiet_nil ?_
    rintro _ ⟨nq, rfl⟩
    exact HQ.out nq true E.out _ _ _ _ _ _ _ _ _ _ _ _ _ _ _ _ _ _ _ _ _ _ _ _ _ _ _ _ _ _ _ _ _ _ _ _ _ _ _ _ _ _ _ _ _ _ _ _ _ _ _ _ _ _ _ _ _ _ _ _ _ _ _ _
  · iterate 4 (go_big_quiet_step (first | (go_at_call 98; exact Calls.quiet_of_same (leaf_L _ _ _ LH.out)) | fail))
    by_cases h2 : next ≤ id
    · have E : Hid (true = badB next size i pid id kd fr tt kn) := Lib.hid (by unfold badB; rw [decide_eq_false h1, decide_eq_true h2]; rfl)
      repeat (go_big_quiet_step (first | (go_at_call 98; exact Calls.quiet_of_same (leaf_L _ _ _ LH.out)) | fail))
      refine wpQuiet_nil ?_
      rintro _ ⟨nq, rfl⟩
      exact HQ.out nq true E.out _ _ _ _ _ _ _ _ _ _ _ _ _ _ _ _ _ _ _ _ _ _ _ _ _ _ _ _ _ _ _ _ _ _ _ _ _ _ _ _ _ _ _ _ _ _ _ _ _ _ _ _ _ _ _ _ _ _ _ _ _ _ _ _
    · iterate 7 (go_big_quiet_step (first | (go_at_call 98; exact Calls.quiet_of_same (leaf_L _ _ _ LH.out)) | fail))
      cases i with
      | zero =>
        have hi : ¬ (0 < 0) := by omega
        clear hp
        iterate 16 (go_big_quiet_step (first | (go_at_call 98; exact Calls.quiet_of_same (leaf_L _ _ _ LH.out)) | fail))
        by_cases h4 : kd < 0
        · have E : Hid (true = badB next size 0 pid id kd fr tt kn) := Lib.hid (by unfold badB; rw [decide_eq_false h1, decide_eq_false h2, decide_eq_false hi, decide_eq_true h4]; rfl)
          repeat (go_big_quiet_step (first | (go_at_call 98; exact Calls.quiet_of_same (leaf_L _ _ _ LH.out)) | fail))
          refine wpQuiet_nil ?_
          rintro _ ⟨nq, rfl⟩
          exact HQ.out nq true E.out _ _ _ _ _ _ _ _ _ _ _ _ _ _ _ _ _ _ _ _ _ _ _ _ _ _ _ _ _ _ _ _ _ _ _ _ _ _ _ _ _ _ _ _ _ _ _ _ _ _ _ _ _ _ _ _ _ _ _ _ _ _ _ _
        · iterate 5 (go_big_quiet_step (first | (go_at_call 98; exact Calls.quiet_of_same (leaf_L _ _ _ LH.out)) | fail))
          by_cases h5 : 7 < kd
          · have E : Hid (true = badB next size 0 pid id kd fr tt kn) := Lib.hid (by unfold badB; rw [decide_eq_false h1, decide_eq_false h2, decide_eq_false hi, decide_eq_false h4, decide_eq_true h5]; rfl)
            repeat (go_big_quiet_step (first | (go_at_call 98; exact Calls.quiet_of_same (leaf_L _ _ _ LH.out)) | fail))
            refine wpQuiet_nil ?_
            rintro _ ⟨nq, rfl⟩
            exact HQ.out nq true E.out _ _ _ _ _ _ _ _ _ _ _ _ _ _ _ _ _ _ _ _ _ _ _ _ _ _ _ _ _ _ _ _ _ _ _ _ _ _ _ _ _ _ _ _ _ _ _ _ _ _ _ _ _ _ _ _ _ _ _ _ _ _ _ _
          · iterate 5 (go_big_quiet_step (first | (go_at_call 98; exact Calls.quiet_of_same (leaf_L _ _ _ LH.out)) | fail))
            by_cases h6 : fr < 0
            · have E : Hid (true = badB next size 0 pid id kd fr tt kn) := Lib.hid (by unfold badB; rw [decide_eq_false h1, decide_eq_false h2, decide_eq_false hi, decide_eq_false h4, decide_eq_false h5, decide_eq_true h6]; rfl)
              repeat (go_big_quiet_step (first | (go_at_call 98; exact Calls.quiet_of_same (leaf_L _ _ _ LH.out)) | fail))
              refine wpQuiet_nil ?_
              rintro _ ⟨nq, rfl⟩
              exact HQ.out nq true E.out _ _ _ _ _ _ _ _ _ _ _ _ _ _ _ _ _ _ _ _ _ _ _ _ _ _ _ _ _ _ _ _ _ _ _ _ _ _ _ _ _ _ _ _ _ _ _ _ _ _ _ _ _ _ _ _ _ _ _ _ _ _ _ _
            · iterate 5 (go_big_quiet_step (first | (go_at_call 98; exact Calls.quiet_of_same (leaf_L _ _ _ LH.out)) | fail))
              by_cases h7 : tt < fr
              · have E : Hid (true = badB next size 0 pid id kd fr tt kn) := Lib.hid (by unfold badB; rw [decide_eq_false h1, decide_eq_false h2, decide_eq_false hi, decide_eq_false h4, decide_eq_false h5, decide_eq_false h6, decide_eq_true h7]; rfl)
                repeat (go_big_quiet_step (first | (go_at_call 98; exact Calls.quiet_of_same (leaf_L _ _ _ LH.out)) | fail))
                refine wpQuiet_nil ?_
                rintro _ ⟨nq, rfl⟩
                exact HQ.out nq true E.out _ _ _ _ _ _ _ _ _ _ _ _ _ _ _ _ _ _ _ _ _ _ _ _ _ _ _ _ _ _ _ _ _ _ _ _ _ _ _ _ _ _ _ _ _ _ _ _ _ _ _ _ _ _ _ _ _ _ _ _ _ _ _ _
              · iterate 7 (go_big_quiet_step (first | (go_at_call 98; exact Calls.quiet_of_same (leaf_L _ _ _ LH.out)) | fail))
                by_cases h8 : size < tt
                · have E : Hid (true = badB next size 0 pid id kd fr tt kn) := Lib.hid (by unfold badB; rw [decide_eq_false h1, decide_eq_false h2, decide_eq_false hi, decide_eq_false h4, decide_eq_false h5, decide_eq_false h6, decide_eq_false h7, decide_eq_true h8]; rfl)
                  repeat (go_big_quiet_step (first | (go_at_call 98; exact Calls.quiet_of_same (leaf_L _ _ _ LH.out)) | fail))
                  refine wpQuiet_nil ?_
                  rintro _ ⟨nq, rfl⟩
                  exact HQ.out nq true E.out _ _ _ _ _ _ _ _ _ _ _ _ _ _ _ _ _ _ _ _ _ _ _ _ _ _ _ _ _ _ _ _ _ _ _ _ _ _ _ _ _ _ _ _ _ _ _ _ _ _ _ _ _ _ _ _ _ _ _ _ _ _ _ _
                · iterate 6 (go_big_quiet_step (first | (go_at_call 98; exact Calls.quiet_of_same (leaf_L _ _ _ LH.out)) | fail))
                  cases LB with
                  | false =>
                    have E : Hid (false = badB next size 0 pid id kd fr tt kn) := Lib.hid (by unfold badB; rw [decide_eq_false h1, decide_eq_false h2, decide_eq_false hi, decide_eq_false h4, decide_eq_false h5, decide_eq_false h6, decide_eq_false h7, decide_eq_false h8, LH.out]; rfl)
                    repeat (go_big_quiet_step (first | (go_at_call 98; exact Calls.quiet_of_same (leaf_L _ _ _ LH.out)) | fail))
                    refine wpQuiet_nil ?_
                    rintro _ ⟨nq, rfl⟩
                    exact HQ.out nq false E.out _ _ _ _ _ _ _ _ _ _ _ _ _ _ _ _ _ _ _ _ _ _ _ _ _ _ _ _ _ _ _ _ _ _ _ _ _ _ _ _ _ _ _ _ _ _ _ _ _ _ _ _ _ _ _ _ _ _ _ _ _ _ _ _
                  | true =>
                    by_cases h9 : 0 < kn
                    · have E : Hid (true = badB next size 0 pid id kd fr tt kn) := Lib.hid (by unfold badB; rw [decide_eq_false h1, decide_eq_false h2, decide_eq_false hi, decide_eq_false h4, decide_eq_false h5, decide_eq_false h6, decide_eq_false h7, decide_eq_false h8, LH.out, decide_eq_true h9]; rfl)
                      repeat (go_big_quiet_step (first | (go_at_call 98; exact Calls.quiet_of_same (leaf_L _ _ _ LH.out)) | fail))
                      refine wpQuiet_nil ?_
                      rintro _ ⟨nq, rfl⟩
                      exact HQ.out nq true E.out _ _ _ _ _ _ _ _ _ _ _ _ _ _ _ _ _ _ _ _ _ _ _ _ _ _ _ _ _ _ _ _ _ _ _ _ _ _ _ _ _ _ _ _ _ _ _ _ _ _ _ _ _ _ _ _ _ _ _ _ _ _ _ _
                    · have E : Hid (false = badB next size 0 pid id kd fr tt kn) := Lib.hid (by unfold badB; rw [decide_eq_false h1, decide_eq_false h2, decide_eq_false hi, decide_eq_false h4, decide_eq_false h5, decide_eq_false h6, decide_eq_false h7, decide_eq_false h8, LH.out, decide_eq_false h9]; rfl)
                      repeat (go_big_quiet_step (first | (go_at_call 98; exact Calls.quiet_of_same (leaf_L _ _ _ LH.out)) | fail))
                      refine wpQuiet_nil ?_
                      rintro _ ⟨nq, rfl⟩
                      exact HQ.out nq false E.out _ _ _ _ _ _ _ _ _ _ _ _ _ _ _ _ _ _ _ _ _ _ _ _ _ _ _ _ _ _ _ _ _ _ _ _ _ _ _ _ _ _ _ _ _ _ _ _ _ _ _ _ _ _ _ _ _ _ _ _ _ _ _ _
      | succ j =>
        have y3 := hp.out j rfl
        have wj : IntKind.i64.wrap (((j + 1 : Nat) : Int) - 1) = (j : Int) := by rw [IntWalk.i64_in _ (by omega)]; omega
        have hi : 0 < j + 1 := by omega
        clear hp
        by_cases h3 : id ≤ pid
        · have E : Hid (true = badB next size (j + 1) pid id kd fr tt kn) := Lib.hid (by unfold badB; rw [decide_eq_false h1, decide_eq_false h2, decide_eq_true hi, decide_eq_true h3]; rfl)
          repeat (go_big_quiet_step (first | (go_at_call 98; exact Calls.quiet_of_same (leaf_L _ _ _ LH.out)) | fail))
          refine wpQuiet_nil ?_
          rintro _ ⟨nq, rfl⟩
          exact HQ.out nq true E.out _ _ _ _ _ _ _ _ _ _ _ _ _ _ _ _ _ _ _ _ _ _ _ _ _ _ _ _ _ _ _ _ _ _ _ _ _ _ _ _ _ _ _ _ _ _ _ _ _ _ _ _ _ _ _ _ _ _ _ _ _ _ _ _
        · iterate 16 (go_big_quiet_step (first | (go_at_call 98; exact Calls.quiet_of_same (leaf_L _ _ _ LH.out)) | fail))
          by_cases h4 : kd < 0
          · have E : Hid (true = badB next size (j + 1) pid id kd fr tt kn) := Lib.hid (by unfold badB; rw [decide_eq_false h1, decide_eq_false h2, decide_eq_true hi, decide_eq_false h3, decide_eq_true h4]; rfl)
            repeat (go_big_quiet_step (first | (go_at_call 98; exact Calls.quiet_of_same (leaf_L _ _ _ LH.out)) | fail))
            refine wpQuiet_nil ?_
            rintro _ ⟨nq, rfl⟩
            exact HQ.out nq true E.out _ _ _ _ _ _ _ _ _ _ _ _ _ _ _ _ _ _ _ _ _ _ _ _ _ _ _ _ _ _ _ _ _ _ _ _ _ _ _ _ _ _ _ _ _ _ _ _ _ _ _ _ _ _ _ _ _ _ _ _ _ _ _ _
          · iterate 5 (go_big_quiet_step (first | (go_at_call 98; exact Calls.quiet_of_same (leaf_L _ _ _ LH.out)) | fail))
            by_cases h5 : 7 < kd
            · have E : Hid (true = badB next size (j + 1) pid id kd fr tt kn) := Lib.hid (by unfold badB; rw [decide_eq_false h1, decide_eq_false h2, decide_eq_true hi, decide_eq_false h3, decide_eq_false h4, decide_eq_true h5]; rfl)
              repeat (go_big_quiet_step (first | (go_at_call 98; exact Calls.quiet_of_same (leaf_L _ _ _ LH.out)) | fail))
              refine wpQuiet_nil ?_
              rintro _ ⟨nq, rfl⟩
              exact HQ.out nq true E.out _ _ _ _ _ _ _ _ _ _ _ _ _ _ _ _ _ _ _ _ _ _ _ _ _ _ _ _ _ _ _ _ _ _ _ _ _ _ _ _ _ _ _ _ _ _ _ _ _ _ _ _ _ _ _ _ _ _ _ _ _ _ _ _
            · iterate 5 (go_big_quiet_step (first | (go_at_call 98; exact Calls.quiet_of_same (leaf_L _ _ _ LH.out)) | fail))
              by_cases h6 : fr < 0
              · have E : Hid (true = badB next size (j + 1) pid id kd fr tt kn) := Lib.hid (by unfold badB; rw [decide_eq_false h1, decide_eq_false h2, decide_eq_true hi, decide_eq_false h3, decide_eq_false h4, decide_eq_false h5, decide_eq_true h6]; rfl)
                repeat (go_big_quiet_step (first | (go_at_call 98; exact Calls.quiet_of_same (leaf_L _ _ _ LH.out)) | fail))
                refine wpQuiet_nil ?_
                rintro _ ⟨nq, rfl⟩
                exact HQ.out nq true E.out _ _ _ _ _ _ _ _ _ _ _ _ _ _ _ _ _ _ _ _ _ _ _ _ _ _ _ _ _ _ _ _ _ _ _ _ _ _ _ _ _ _ _ _ _ _ _ _ _ _ _ _ _ _ _ _ _ _ _ _ _ _ _ _
              · iterate 5 (go_big_quiet_step (first | (go_at_call 98; exact Calls.quiet_of_same (leaf_L _ _ _ LH.out)) | fail))
                by_cases h7 : tt < fr
                · have E : Hid (true = badB next size (j + 1) pid id kd fr tt kn) := Lib.hid (by unfold badB; rw [decide_eq_false h1, decide_eq_false h2, decide_eq_true hi, decide_eq_false h3, decide_eq_false h4, decide_eq_false h5, decide_eq_false h6, decide_eq_true h7]; rfl)
                  repeat (go_big_quiet_step (first | (go_at_call 98; exact Calls.quiet_of_same (leaf_L _ _ _ LH.out)) | fail))
                  refine wpQuiet_nil ?_
                  rintro _ ⟨nq, rfl⟩
                  exact HQ.out nq true E.out _ _ _ _ _ _ _ _ _ _ _ _ _ _ _ _ _ _ _ _ _ _ _ _ _ _ _ _ _ _ _ _ _ _ _ _ _ _ _ _ _ _ _ _ _ _ _ _ _ _ _ _ _ _ _ _ _ _ _ _ _ _ _ _
                · iterate 7 (go_big_quiet_step (first | (go_at_call 98; exact Calls.quiet_of_same (leaf_L _ _ _ LH.out)) | fail))
                  by_cases h8 : size < tt
                  · have E : Hid (true = badB next size (j + 1) pid id kd fr tt kn) := Lib.hid (by unfold badB; rw [decide_eq_false h1, decide_eq_false h2, decide_eq_true hi, decide_eq_false h3, decide_eq_false h4, decide_eq_false h5, decide_eq_false h6, decide_eq_false h7, decide_eq_true h8]; rfl)
                    repeat (go_big_quiet_step (first | (go_at_call 98; exact Calls.quiet_of_same (leaf_L _ _ _ LH.out)) | fail))
                    refine wpQuiet_nil ?_
                    rintro _ ⟨nq, rfl⟩
                    exact HQ.out nq true E.out _ _ _ _ _ _ _ _ _ _ _ _ _ _ _ _ _ _ _ _ _ _ _ _ _ _ _ _ _ _ _ _ _ _ _ _ _ _ _ _ _ _ _ _ _ _ _ _ _ _ _ _ _ _ _ _ _ _ _ _ _ _ _ _
                  · iterate 6 (go_big_quiet_step (first | (go_at_call 98; exact Calls.quiet_of_same (leaf_L _ _ _ LH.out)) | fail))
                    cases LB with
                    | false =>
                      have E : Hid (false = badB next size (j + 1) pid id kd fr tt kn) := Lib.hid (by unfold badB; rw [decide_eq_false h1, decide_eq_false h2, decide_eq_true hi, decide_eq_false h3, decide_eq_false h4, decide_eq_false h5, decide_eq_false h6, decide_eq_false h7, decide_eq_false h8, LH.out]; rfl)
                      repeat (go_big_quiet_step (first | (go_at_call 98; exact Calls.quiet_of_same (leaf_L _ _ _ LH.out)) | fail))
                      refine wpQuiet_nil ?_
                      rintro _ ⟨nq, rfl⟩
                      exact HQ.out nq false E.out _ _ _ _ _ _ _ _ _ _ _ _ _ _ _ _ _ _ _ _ _ _ _ _ _ _ _ _ _ _ _ _ _ _ _ _ _ _ _ _ _ _ _ _ _ _ _ _ _ _ _ _ _ _ _ _ _ _ _ _ _ _ _ _
                    | true =>
                      by_cases h9 : 0 < kn
                      · have E : Hid (true = badB next size (j + 1) pid id kd fr tt kn) := Lib.hid (by unfold badB; rw [decide_eq_false h1, decide_eq_false h2, decide_eq_true hi, decide_eq_false h3, decide_eq_false h4, decide_eq_false h5, decide_eq_false h6, decide_eq_false h7, decide_eq_false h8, LH.out, decide_eq_true h9]; rfl)
                        repeat (go_big_quiet_step (first | (go_at_call 98; exact Calls.quiet_of_same (leaf_L _ _ _ LH.out)) | fail))
                        refine wpQuiet_nil ?_
                        rintro _ ⟨nq, rfl⟩
                        exact HQ.out nq true E.out _ _ _ _ _ _ _ _ _ _ _ _ _ _ _ _ _ _ _ _ _ _ _ _ _ _ _ _ _ _ _ _ _ _ _ _ _ _ _ _ _ _ _ _ _ _ _ _ _ _ _ _ _ _ _ _ _ _ _ _ _ _ _ _
                      · have E : Hid (false = badB next size (j + 1) pid id kd fr tt kn) := Lib.hid (by unfold badB; rw [decide_eq_false h1, decide_eq_false h2, decide_eq_true hi, decide_eq_false h3, decide_eq_false h4, decide_eq_false h5, decide_eq_false h6, decide_eq_false h7, decide_eq_false h8, LH.out, decide_eq_false h9]; rfl)
                        repeat (go_big_quiet_step (first | (go_at_call 98; exact Calls.quiet_of_same (leaf_L _ _ _ LH.out)) | fail))
                        refine wpQuiet_nil ?_
                        rintro _ ⟨nq, rfl⟩
                        exact HQ.out nq false E.out _ _ _ _ _ _ _ _ _ _ _ _ _ _ _ _ _ _ _ _ _ _ _ _ _ _ _ _ _ _ _ _ _ _ _ _ _ _ _ _ _ _ _ _ _ _ _ _ _ _ _ _ _ _ _ _ _ _ _ _ _ _ _ _
end Go.Proofs.YtjmfjlffcopnnaaGreatDoor
