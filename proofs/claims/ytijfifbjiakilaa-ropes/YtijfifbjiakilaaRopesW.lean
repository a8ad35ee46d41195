/-
  The walk of Ropes: it answers true. Conditions: the string is within the form's reach, the acts lie in memory.
-/
import Derived.Test.YtijfifbjiakilaaInner
namespace Go.Proofs.Ytijfifbjiakilaa
open Go.RowKit
set_option linter.unusedVariables false

set_option maxRecDepth 100000 in
set_option maxHeartbeats 1000000 in
theorem ropes_long (s : ByteArray) (v : Value) (w : World) (hs : s.size ≤ maxLen) (hlong : 4096 < s.size) :
    Calls Try.prog 3 #[.string s, v] w fun e w' => e = .returned (.bool true) ∧ Below w.heap.size w w' := by
  go_enter Try.func3, Try.ntmps3
  go_wp2_with (first | (go_at_call 9; refine (awake_true _).mono ?_; rintro e w1 ⟨rfl, hb1⟩) | (go_at_call 7; refine (new_bad _ _ hlong hs).mono ?_; rintro e w' ⟨rfl, rfl⟩) | (go_at_call 8; refine (num_any _ _).mono ?_; rintro e w' ⟨rfl, rfl⟩))
  go_ret
  exact ⟨rfl, hb1⟩

set_option maxRecDepth 1000000 in
set_option maxHeartbeats 2000000 in
theorem ropes_short (s : ByteArray) (p : Option Addr) (n cap : Nat) (w : World) (hs : s.size ≤ 4096) (ha : ActsAt w p n) :
    Calls Try.prog 3 #[.string s, .slice p n cap] w fun e w' => e = .returned (.bool true) ∧ Below w.heap.size w w' := by
  have A := Lib.hid ha; clear ha
  go_enter Try.func3, Try.ntmps3
  go_wp2_with (first | (go_at_call 7; refine (new_ok _ _ (by omega)).mono ?_; rintro e w2 ⟨r, rfl, hr, hrope, hb2⟩; have R1 := Lib.hid hrope; clear hrope) | (go_at_call 8; refine (num_any _ _).mono ?_; rintro e w' ⟨rfl, rfl⟩))
  have B2 := Lib.hid hb2
  clear hb2
  go_loopw [0, 7] (fun sv i wr => ∃ (k : Nat) (S : ByteArray), k ≤ 40 ∧ k ≤ n ∧ sv = .string S ∧ i = .int .i64 k ∧ Hid (Rope wr r S.data.toList) ∧ Hid (Below w.heap.size w wr)) (fun _ i _ => 40 - (intOf i).toNat)
  case atStart => exact ⟨0, s, Nat.zero_le _, Nat.zero_le _, rfl, rfl, R1, B2⟩
  case round =>
    clear R1 B2
    obtain ⟨k, S, hk, hkn, rfl, rfl, R, B⟩ := hrel
    by_cases hgo : k < n ∧ k < 40
    · obtain ⟨hkn', hk40⟩ := hgo
      obtain ⟨b, o, kd, at', q, str, hp, c0, c1, c2, c3⟩ := A.out k hkn'
      subst hp
      replace c0 := cell_later B.out c0
      replace c1 := cell_later B.out c1
      replace c2 := cell_later B.out c2
      replace c3 := cell_later B.out c3
      have hS4 : S.size ≤ 4096 := by have := R.out.1; rwa [size_toList] at this
      go_upto_block 1 with fail
      refine inner_any r k b o n cap S str kd at' q w _ _ _ _ _ _ _ _ _ _ _ _ _ _ _ _ _ _ _ _ _ _ _ _ _ _ _ _ _ _ _ _ _ _ _ _ _ _ _ _ _ _ _ _ _ _ _ _ _ _ _ _ _ _ _ _ _ _ _ _ _ _ _ _ _ _ _ _ _ _ _ _ _ _ _ _ _ _ _ _ _ _ _ _ _ _ _ _ _ _ _ _ _ _ _ _ _ _ _ _ _ _ _ _ _ _ _ _ _ _ _ _ _ _ _ _ _ _ _ _ _ _ _ _ _ _ _ _ _ _ _ _ _ _ _ _ _ _ _ _ _ _ _ _ _ _ _ _ _ _ _ _ _ _ _ _ _ _ _ _ _ _ _ _ _ _ _ _ _ _ _ _ _ _ _ _ _ _ _ _ _ _ _ _ _ _ _ _ _ _ _ _ _ _ _ _ _ _ _ _ _ _ _ _ _ _ _ _ _ _ _ _ _ _ _ _ _ _ _ _ _ _ _ _ _ _ _ _ _ _ _ _ _ _ _ _ _ _ _ _ _ _ _ _ _ _ _ _ _ _ _ _ _ _ _ _ _ _ _ _ _ _ _ _ _ _ _ _ _ _ _ _ _ _ _ _ _ _ _ _ _ _ _ _ _ R B hr hS4 hkn' hk40 c0 c1 c2 c3 (Lib.hid ?_)
      intro S' w' v4 v8 v9 v10 v11 v12 v13 v14 v15 v16 v17 v18 v19 v20 v21 v22 v23 v24 v60 v61 v62 v63 v64 v65 v66 v67 v68 v69 v70 v71 v72 v73 v74 v75 v76 v77 v78 v79 v80 v81 v82 v83 v84 v85 v86 v87 v88 v89 v90 v91 v92 v93 v94 v95 v96 v97 v98 v99 v100 v101 v102 v103 v104 v105 v106 v107 v108 v109 v110 v111 v112 v113 v114 v115 v116 v117 v118 v119 v120 v121 v122 v123 v124 v125 v126 v127 v128 v129 v130 v131 v132 v133 v134 v135 v136 v137 v138 v139 v140 v141 v142 v143 v144 v145 v146 v147 v148 v149 v150 v151 v152 v153 v154 v155 v156 v157 v158 v159 v160 v161 v162 v163 v164 v165 v166 v167 v168 v169 v170 v171 v172 v173 v174 v175 v176 v177 v178 v179 v180 v181 v182 v183 v184 v185 v186 v187 v188 v189 v190 v191 v192 v193 v194 v195 v196 v197 v198 v199 v200 v201 v202 v203 v204 v205 v206 v207 v208 v209 v210 v211 v212 v213 v214 v215 v216 v217 v218 v219 v220 v221 v222 v223 v224 v225 v226 v227 v228 v229 v230 v231 v232 v233 v234 v235 v236 v237 v238 v239 v240 v241 v242 v243 v244 v245 v246 v247 v248 v249 v250 v251 v252 v253 v254 v255 v256 v257 v258 v259 v260 v261 v262 v263 v264 v265 v266 v267 v268 v269 v270 v271 v272 v273 v274 v275 v276 v277 v278 v279 v280 v281 v282 v283 v284 v285 hR hB
      have R' := Lib.hid hR; have B' := Lib.hid hB
      clear hR hB R B c0 c1 c2 c3
      dsimp only
      go_wp2
      go_roundw
      case rel => exact ⟨k + 1, S', by omega, by omega, rfl, by go_num, R', B'⟩
      case measure => simp [intOf]; omega
    · go_wp2_with (first | (go_at_call 9; refine (awake_true _).mono ?_; rintro e w1 ⟨rfl, hb1⟩))
      all_goals (go_ret; exact ⟨rfl, B.out.trans (hb1.mono B.out.size)⟩)

end Go.Proofs.Ytijfifbjiakilaa
