/-
  Proved: for every slice of pieces that can be read, the Go function minuetlaw2.CompsAll returns true and leaves its argument as it was. No condition beyond the row's own.
-/
import Derived.Test.YtiplhhldgkgbhaaRows
import Derived.Test.YtiplhhldgkgbhaaArgs
import Derived.Test.YtiplhhldgkgbhaaAll
namespace Go.Proofs.Ytiplhhldgkgbhaa.compsAll
open Go.ChangeShapes Go.WideShapes Go.ChangeAt Go.RowKit

theorem own : ownKnob Try.prog.godebug = none := by kernel_rfl
theorem laidOut : laidOutB Try.prog = true := by kernel_rfl

theorem walk (p : Option Addr) (cs : List C) (cap : Nat) (w : World) (hr : RowC w p cs) (_ : cs.length ≤ cap) (_ : ∀ c ∈ cs, c.t.size ≤ maxLen) (hl : cs.length * 32 ≤ reachBytes) :
    Calls Try.prog 3 #[.slice p cs.length cap] w fun e w' => e = .returned (.bool true) ∧ Below w.heap.size w w' := by
  have hb : reachBytes = 140737488351232 := rfl
  exact all_true p cs cap w hr (by omega)

set_option maxRecDepth 100000 in
theorem lifted (os : Os) (started : os.Started) (H : Type) (enc : TypeId × Value → H) :
    ReturnsInHanded {} Try.checked os 3 .any (Rows.compsAllSpec.pre6 enc Try.prog Try.f3 Rows.compsAllRow.domain false) (Rows.compsAllSpec.post enc Try.prog Try.f3 false true false false) := by
  refine returnsInHanded_of_change_sized (C := Try.checked) own started (by kernel_rfl) Try.func3
    (ChangeSpec.witness6 (enc := enc) (C := Try.checked) false ⟨#[], #[.slice none 0 0], []⟩ 8 (by kernel_rfl) (by kernel_rfl) (by kernel_rfl) (by kernel_rfl)) ?_
  intro W base args ds gs before hval0 hW hcnd hsz0 _
  have hval : ∀ (j : Nat) t v, Try.f3.params[j]? = some t → args[j]? = some v → Value.okWide Try.prog W .any base t v := hval0
  have hsz : (DataW.weightsEach Try.prog (Try.f3.params.toList ++ Rows.compsAllSpec.plain.varTypes Try.prog) (ds ++ gs)).all (· ≤ reachBytes) = true := hsz0
  have hW' := hW
  obtain ⟨p, q, hA0, hV, rfl, hfz, hnd⟩ := hW
  have hA : DataW.TrodAll enc Try.prog W 0 (fun _ => true) true Try.f3.params.toList args.toList ds p := hA0
  rw [Try.params3] at hA hval hsz
  obtain ⟨v0, vs0, d0, ds0, p0, q0, hargs, rfl, rfl, h0, r0⟩ := trodAll_cons hA
  obtain ⟨rfl, rfl, rfl⟩ := trodAll_nil r0
  obtain rfl : args = #[v0] := by cases args; simp_all
  obtain ⟨rfl, rfl⟩ := trodVars_none hV
  obtain ⟨ad, len, cap, rfl⟩ := okWide_slice Try.underlying22 (hval 0 22 v0 rfl rfl)
  obtain ⟨cs, hl, hc, hrow, hts, hlen⟩ : ∃ cs : List C, cs.length = len ∧ len ≤ cap ∧ RowC W ad cs ∧ (∀ c ∈ cs, c.t.size ≤ maxLen) ∧ cs.length * 32 ≤ reachBytes := by
    obtain ⟨fuel, hf⟩ := h0
    have hf' : DataW.trod enc Try.prog W 0 (fun _ => true) true fuel 22 [.slice ad len cap] = some (d0, p0) := by simpa [Value.cells] using hf
    obtain ⟨cs, a1, a2, a3, a4⟩ := comps_open hf'
    exact ⟨cs, a1, a2, a3, a4, by rw [a1]; exact comps_sized hf' hsz⟩
  subst hl
  have hlt : ∀ x ∈ p0, x.block < W.heap.size := fun x hx => hW'.lt x (by simpa using hx)
  clear hA0 hval0 hsz hsz0
  simp only [List.append_nil] at hW'
  refine (walk ad cs cap W hrow hc hts hlen).mono fun e W' ⟨he, hg⟩ => ?_
  subst he
  exact ⟨_, rfl, _, _, _, [], p0 ++ [], [], hW', trodAll_cons_mk (shut_bool Try.underlying4 _) trodAll_mk0, trodAll_cons_mk (Below.trod laidOut (by kernel_rfl) (of_decide_eq_true (by kernel_rfl)) h0 hg hlt) trodAll_mk0, rfl, hg.frame _, fun h => by cases h⟩

theorem over : Rows.compsAllRow.holds Try.pinned (OpenSpec.ofChange Rows.compsAllSpec) :=
  OpenClaim.holds_of_wide 3 Try.f3 rfl rfl rfl rfl rfl rfl rfl ⟨rfl, rfl, rfl, rfl, rfl⟩ rfl rfl rfl rfl rfl (by kernel_rfl) Try.func3 (by kernel_rfl)
    (of_decide_eq_true (by kernel_rfl)) (by unfold Func.isWrapper; first | (rw [if_pos (by decide +kernel)]; kernel_rfl) | (rw [if_neg (by decide +kernel)]; exact ⟨rfl, rfl⟩))
    (fun os started H enc _ => lifted os started H enc)

end Go.Proofs.Ytiplhhldgkgbhaa.compsAll
namespace Go.Proofs.Ytiplhhldgkgbhaa
theorem compsAll_holds : Rows.CompsAllSaid := compsAll.over
end Go.Proofs.Ytiplhhldgkgbhaa
