/-
  CursorEnds: under any edit the start, ahead of what is put there, stays the start, and the end, behind what is put there, the end. Conditions: none but what the statement asks of its argument.
-/
import Derived.Test.YtlfgleickaaicaaRows

import Derived.Test.YtlfgleickaaicaaArgs
import Derived.Test.YtlfgleickaaicaaEnds
namespace Go.Proofs.Ytlfgleickaaicaa.cursorEnds
open Go.ChangeShapes Go.WideShapes Go.ChangeAt Go.RowKit Go.Deep


theorem own : ownKnob Try.prog.godebug = none := by kernel_rfl
theorem laidOut : laidOutB Try.prog = true := by kernel_rfl

set_option maxRecDepth 100000 in
theorem lifted (os : Os) (started : os.Started) (H : Type) (enc : TypeId × Value → H) :
    ReturnsInHanded {} Try.checked os 7 .any (Rows.cursorEndsSpec.pre6 enc Try.prog Try.f7 Rows.cursorEndsRow.domain false) (Rows.cursorEndsSpec.post enc Try.prog Try.f7 false true false false) := by
  refine returnsInHanded_of_change_sized (C := Try.checked) own started (by kernel_rfl) Try.func7
    (ChangeSpec.witness6 (enc := enc) (C := Try.checked) false ⟨#[], #[.slice none 0 0], []⟩ 8 (by kernel_rfl) (by kernel_rfl) (by kernel_rfl) (by kernel_rfl)) ?_
  intro W base args ds gs before hval0 hW hcnd hsz0 _
  have hval : ∀ (j : Nat) t v, Try.f7.params[j]? = some t → args[j]? = some v → Value.okWide Try.prog W .any base t v := hval0
  have hsz : (DataW.weightsEach Try.prog (Try.f7.params.toList ++ Rows.cursorEndsSpec.plain.varTypes Try.prog) (ds ++ gs)).all (· ≤ reachBytes) = true := hsz0
  have hW' := hW
  obtain ⟨p, q, hA0, hV, rfl, hfz, hnd⟩ := hW
  have hA : DataW.TrodAll enc Try.prog W 0 (fun _ => true) true Try.f7.params.toList args.toList ds p := hA0
  rw [Try.params7] at hA hval hsz
  obtain ⟨v0, vs0, d0, ds0, p0, q0, hargs, rfl, rfl, h0, rr0⟩ := trodAll_cons hA
  obtain ⟨rfl, rfl, rfl⟩ := trodAll_nil rr0
  obtain rfl : args = #[v0] := by cases args; simp_all
  obtain ⟨rfl, rfl⟩ := trodVars_none hV
  obtain ⟨ad0, len0, cap0, rfl⟩ := okWide_slice Try.underlying22 (hval 0 22 v0 rfl rfl)
  obtain ⟨cs0, hl0, c0, r0, t0, n0⟩ : ∃ cs : List C, cs.length = len0 ∧ len0 ≤ cap0 ∧ RowC W ad0 cs ∧ (∀ c ∈ cs, c.t.size ≤ maxLen) ∧ cs.length * 32 ≤ reachBytes := by
    obtain ⟨fuel, hf⟩ := h0
    have hf' : DataW.trod enc Try.prog W 0 (fun _ => true) true fuel 22 [.slice ad0 len0 cap0] = some (d0, p0) := by simpa [Value.cells] using hf
    obtain ⟨cs, a1, a2, a3, a4⟩ := comps_open hf'
    exact ⟨cs, a1, a2, a3, a4, by rw [a1]; exact comps_sized_at hf' hsz (j := 0) rfl rfl⟩
  subst hl0
  have x0 : ∀ x ∈ p0, x.block < W.heap.size := fun x hx => hW'.lt x (by simp [hx])
  have hr47 := reach47
  clear hA0 hval0 hsz hsz0
  simp only [List.append_nil] at hW'
  refine (ends_true ad0 cs0 cap0 W r0).mono fun e W' ⟨he, hg⟩ => ?_
  subst he
  exact ⟨_, rfl, _, _, _, [], p0 ++ [], [], hW', trodAll_cons_mk (shut_bool Try.underlying4 _) trodAll_mk0, trodAll_cons_mk (Below.trod laidOut (by kernel_rfl) (of_decide_eq_true (by kernel_rfl)) h0 hg x0) trodAll_mk0, rfl, hg.frame _, fun h => by cases h⟩

theorem over : Rows.cursorEndsRow.holds Try.pinned (OpenSpec.ofChange Rows.cursorEndsSpec) :=
  OpenClaim.holds_of_wide 7 Try.f7 rfl rfl rfl rfl rfl rfl rfl ⟨rfl, rfl, rfl, rfl, rfl⟩ rfl rfl rfl rfl rfl (by kernel_rfl) Try.func7 (by kernel_rfl)
    (of_decide_eq_true (by kernel_rfl)) (by unfold Func.isWrapper; first | (rw [if_pos (by decide +kernel)]; kernel_rfl) | (rw [if_neg (by decide +kernel)]; exact ⟨rfl, rfl⟩))
    (fun os started H enc _ => lifted os started H enc)

end Go.Proofs.Ytlfgleickaaicaa.cursorEnds
namespace Go.Proofs.Ytlfgleickaaicaa
theorem cursorEnds_holds : Rows.CursorEndsSaid := cursorEnds.over
end Go.Proofs.Ytlfgleickaaicaa
