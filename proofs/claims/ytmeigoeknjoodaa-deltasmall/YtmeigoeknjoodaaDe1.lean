/-
  A step with children, made and put to its row: a piece of the reference's Delta by itself. Conditions: as the theorem's premises say.
-/
import Derived.Test.YtmeigoeknjoodaaStA
namespace Go.Proofs.Ytmeigoeknjoodaa
open Go.RowKit

theorem ints_all (l : List Int) (j : Nat) : (lyI.all l)[j]? = (l[j]?).map (fun c => Value.int .i64 c) := by
  have : lyI.all l = l.map (fun c => Value.int .i64 c) := by
    unfold Ly.all
    induction l with
    | nil => rfl
    | cons a l ih => rw [List.flatMap_cons, ih]; rfl
  rw [this, List.getElem?_map]
theorem ints_news {w : World} {p : Option Addr} {l : List Int} (h : lyI.Row w p l) : ∀ ad, p = some ad → ∀ j u, (lyI.all l)[j]? = some u → w.cell? (ad.add j) = some u := by
  intro ad hp j u hu
  rw [ints_all] at hu
  cases hl : l[j]? with
  | none => rw [hl] at hu; cases hu
  | some c =>
    rw [hl] at hu
    cases hu
    obtain ⟨b, o, hp2, hc⟩ := ints_at h hl
    rw [hp] at hp2
    cases hp2
    rw [add_plain]; exact hc
theorem ints_none {w : World} {l : List Int} (h : lyI.Row w none l) : l.length = 0 := by
  cases l with
  | nil => rfl
  | cons a l =>
    obtain ⟨b, o, hp, _⟩ := ints_at (i := 0) h rfl
    cases hp
/-- Ends as it should, and then K. -/
def onlyN (K : Act → World → Prop) : Exit → Act → World → Prop
  | .normal, a, w => K a w
  | _, _, _ => False
noncomputable def del21 : Code := (Try.f9.body.bind (regOf 21)).getD .skip

set_option maxRecDepth 1000000 in
set_option maxHeartbeats 2000000 in
theorem del21_any (w : World) (base xb M M1 c8 k kn kc : Nat) (p8 kp : Option Addr) (id : Int) (kids : List Int) (rs : List (Value × List Sv × List St)) (vs : List Sv) (ss : List St) (Q : Act → World → Prop) (u0 u1 u2 u3 u4 u5 u6 u7 u9 u10 u11 u13 u14 u15 u16 u17 u18 u19 u20 u21 u22 u23 u24 u25 u26 u27 u28 u29 u30 u31 u32 u33 u34 u35 u36 u37 u38 u39 u40 u41 u42 u43 u44 u45 u46 u47 u48 u49 u50 u51 u52 u53 u54 u55 u56 u57 u58 u59 u60 u61 u62 u63 u64 u65 u66 u67 u68 u69 u70 u71 u72 u73 u74 u75 u76 u77 u78 u79 u80 u81 u82 u83 u84 u85 u86 u87 u88 u89 u90 u91 u92 u93 u94 u95 u96 u97 u98 u99 u100 u101 u102 u103 u104 u105 u106 u107 u108 u109 u110 u111 u112 u113 u114 u115 u116 u117 u118 u119 u120 u121 u122 u123 u124 u125 u126 u127 u128 u129 u130 u131 u132 u133 u134 u135 u136 u137 u138 u139 u140 u141 u142 u143 u144 u145 u146 u147 u148 : Value)
    (H : Hid (Rows w base rs)) (HK : Hid (rs[k]? = some (.slice p8 M c8, vs, ss))) (HM : Hid (vs.length = M)) (HM1 : Hid (M + 1 = M1)) (hM : M ≤ 100000) (HB : Hid (base ≤ w.heap.size))
    (z0 : w.cell? ⟨xb, 0, none⟩ = some (.int .i64 id)) (z4 : w.cell? ⟨xb, 4, none⟩ = some (.slice kp kn kc)) (ROW : Hid (lyI.Row w kp kids)) (KN : Hid (kids.length = kn)) (hkn : kn ≤ 100000)
    (HQ : Hid (∀ (p' : Option Addr) (c' : Nat) (w' : World) (x : Sv), Rows w' base (rs.set k (.slice p' M1 c', vs ++ [x], ss ++ [⟨2, id, 0, 0, 0, kids⟩])) → w.grownBy w' (Value.slice p8 M c8).ownBlock → ∀ (v104 v105 v106 v107 v108 v109 v110 v111 v112 v113 : Value), Q ⟨#[u0, u1, u2, u3, u4, u5, u6, u7, .slice p' M1 c', u9, u10, u11, .pointer (some ⟨xb, 0, none⟩), u13, u14, u15, u16, u17, u18, u19, u20, u21, u22, u23, u24, u25, u26, u27, u28, u29, u30, u31, u32, u33, u34, u35, u36, u37, u38, u39, u40, u41, u42, u43, u44, u45, u46, u47, u48, u49, u50, u51, u52, u53, u54, u55, u56, u57, u58, u59, u60, u61, u62, u63, u64, u65, u66, u67, u68, u69, u70, u71, u72, u73, u74, u75, u76, u77, u78, u79, u80, u81, u82, u83, u84, u85, u86, u87, u88, u89, u90, u91, u92, u93, u94, u95, u96, u97, u98, u99, u100, u101, u102, u103, v104, v105, v106, v107, v108, v109, v110, v111, v112, v113, u114, u115, u116, u117, u118, u119, u120, u121, u122, u123, u124, u125, u126, u127, u128, u129, u130, u131, u132, u133, u134, u135, u136, u137, u138, u139, u140, u141, u142, u143, u144, u145, u146, u147, u148], []⟩ w')) :
    Code.wp Try.prog del21 (onlyN Q) ⟨#[u0, u1, u2, u3, u4, u5, u6, u7, .slice p8 M c8, u9, u10, u11, .pointer (some ⟨xb, 0, none⟩), u13, u14, u15, u16, u17, u18, u19, u20, u21, u22, u23, u24, u25, u26, u27, u28, u29, u30, u31, u32, u33, u34, u35, u36, u37, u38, u39, u40, u41, u42, u43, u44, u45, u46, u47, u48, u49, u50, u51, u52, u53, u54, u55, u56, u57, u58, u59, u60, u61, u62, u63, u64, u65, u66, u67, u68, u69, u70, u71, u72, u73, u74, u75, u76, u77, u78, u79, u80, u81, u82, u83, u84, u85, u86, u87, u88, u89, u90, u91, u92, u93, u94, u95, u96, u97, u98, u99, u100, u101, u102, u103, u104, u105, u106, u107, u108, u109, u110, u111, u112, u113, u114, u115, u116, u117, u118, u119, u120, u121, u122, u123, u124, u125, u126, u127, u128, u129, u130, u131, u132, u133, u134, u135, u136, u137, u138, u139, u140, u141, u142, u143, u144, u145, u146, u147, u148], []⟩ w := by
  obtain ⟨i0, hi, hz0, hz1, hz2⟩ := info_parts info3
  obtain ⟨i8, hi8, hz08, hz18, hz28⟩ := info_parts info68
  have OWI : Hid (∀ W', Below (w.alloc (.cells #[] 3)).heap.size (w.alloc (.cells #[] 3)) W' → W'.ownsRow w.heap.size 3 1 (.slice (some ⟨w.heap.size, 0, none⟩) 0 0) 0 []) := Lib.hid (fun W' hW => by
    have h0 : lyI.Own (w.alloc (.cells #[] 3)) w.heap.size (.slice (some ⟨w.heap.size, 0, none⟩) 0 0) [] := World.ownsRow_lit w #[] 0 (Nat.le_refl _) (by decide) rfl
    exact h0.below hW)
  have OWS : Hid (∀ W', Below w.heap.size w W' → W'.ownsRow base 43 6 (.slice p8 M c8) M (lyS.all vs)) := Lib.hid (fun W' hW => by
    have := ((H.out.own k _ HK.out).row).below hW
    unfold Ly.Own at this
    dsimp only at this
    rw [HM.out] at this
    exact this)
  have NWI : Hid (∀ W', Below w.heap.size w W' → ∀ ad, kp = some ad → ∀ j u, (lyI.all kids)[j]? = some u → W'.cell? (ad.add j) = some u) := Lib.hid (fun W' hW => ints_news (ROW.out.below hW))
  have LI : Hid ((lyI.all kids).length = kn * 1) := Lib.hid (by rw [all_len, KN.out]; rfl)
  have NON : Hid (kp = none → kn = 0) := Lib.hid (fun e => by have h := ROW.out; rw [e] at h; rw [← KN.out]; exact ints_none h)
  have za0 : (w.alloc (.cells #[] 3)).cell? ⟨xb, 0, none⟩ = some (.int .i64 id) := cell_later (below1 (Below.refl _ _) (Nat.le_refl _) _) z0
  have za4 : (w.alloc (.cells #[] 3)).cell? ⟨xb, 4, none⟩ = some (.slice kp kn kc) := cell_later (below1 (Below.refl _ _) (Nat.le_refl _) _) z4
  conv => arg 2; whnf
  go_region_law (first
    | (refine step_append_all _ (by rfl) (.tmp 107) (.tmp 109) 41 (by rfl) w.heap.size 3 i0 _ 1 8 Try.underlying41 hi hz0 hz1 hz2 rfl (by decide) (.slice (some ⟨w.heap.size, 0, none⟩) 0 0) 0 [] (by rfl) (OWI.out _ (below_drew (Below.refl _ _))) kp kn kc (lyI.all kids) (by rfl) LI.out NON.out (NWI.out _ (below_drew (below1 (Below.refl _ _) (Nat.le_refl _) _))) (all_ones _) (by unfold maxLen; omega) (by omega) (by simp) kn (by omega) ?_
       intro p2 c2 w6 hown6 hgrow6 hblk6
       have B6 : Hid (Below w.heap.size w w6) := Lib.hid ((below_drew (below1 (Below.refl _ _) (Nat.le_refl _) _)).trans (below_grownN hgrow6 (fun g hg => by cases hg; exact Nat.le_refl _) (by simp)))
       have O6 := Lib.hid hown6
       have y0 := cell_later B6.out z0
       have y4 := cell_later B6.out z4
       clear hown6 hgrow6 hblk6)
    | (refine step_append_all _ (by rfl) (.tmp 104) (.tmp 112) 26 (by rfl) base 43 i8 _ 6 64 Try.underlying26 hi8 hz08 hz18 hz28 rfl (by decide) (.slice p8 M c8) M (lyS.all vs) (by rfl) (OWS.out _ (below1 B6.out B6.out.size _)) (some ⟨w6.heap.size, 0, none⟩) 1 1 (Sv.cells ⟨2, id, 0, 0, 0, p2, kn, c2⟩) (by rfl) rfl (fun e => by cases e) (fun ad hp => by cases hp; exact six_new rfl ⟨2, id, 0, 0, 0, p2, kn, c2⟩) (lyS.one ⟨2, id, 0, 0, 0, p2, kn, c2⟩) (by unfold maxLen; omega) (by omega) (Nat.le_trans HB.out (Nat.le_trans B6.out.size (by simp))) M1 HM1.out ?_
       intro p7 c7 w7 hown7 hgrow7 hblk7
       have O7 := Lib.hid hown7
       have G7 := Lib.hid hgrow7
       have K7 := Lib.hid hblk7
       clear hown7 hgrow7 hblk7))
  all_goals
    refine HQ.out p7 c7 w7 ⟨2, id, 0, 0, 0, p2, kn, c2⟩ ?_ ?_ _ _ _ _ _ _ _ _ _ _
    · refine (H.out.below (below1 B6.out B6.out.size _)).push HK.out ?_ G7.out K7.out rfl ?_
      · have := O7.out
        unfold Ly.Own
        rw [List.length_append, HM.out, List.length_singleton, HM1.out, all_app, all_one]
        exact this
      · intro i x s hx hs
        cases i with
        | zero =>
          cases hx; cases hs
          refine ⟨rfl, rfl, rfl, rfl, rfl, ?_⟩
          have h6 : lyI.Own w6 w.heap.size (.slice p2 kn c2) kids := by
            have := O6.out
            unfold Ly.Own
            rw [KN.out]; exact this
          exact (h6.mono HB.out).below (below1 (Below.refl _ _) (Nat.le_refl _) _)
        | succ i => simp at hx
    · exact grown_trans (grown_of_below (below1 B6.out B6.out.size _) _) G7.out (fun g hg => .inl hg)

end Go.Proofs.Ytmeigoeknjoodaa
