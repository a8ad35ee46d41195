/-
  Proved: for every slice of pieces and every int that can be read, the Go function minuetlaw2.CompSizes returns true and leaves its arguments as they were. No condition beyond the row's own.
-/
import Derived.Test.YtiplhhldgkgbhaaRows
import Derived.Test.YtiplhhldgkgbhaaArgs
import Derived.Test.YtiplhhldgkgbhaaSizes
namespace Go.Proofs.Ytiplhhldgkgbhaa.compSizes
open Go.ChangeShapes Go.WideShapes Go.ChangeAt Go.RowKit

theorem own : ownKnob Try.prog.godebug = none := by kernel_rfl
theorem laidOut : laidOutB Try.prog = true := by kernel_rfl

theorem walk (p : Option Addr) (cs : List C) (cap : Nat) (x : Int) (w : World) (hr : RowC w p cs) (hc : cs.length ≤ cap) :
    Calls Try.prog 7 #[.slice p cs.length cap, .int .i64 x] w fun e w' => e = .returned (.bool true) ∧ Below w.heap.size w w' := by
  by_cases hm : MayP cs
  · cases cs with
    | nil => exact sizes_empty p cap x w
    | cons c cs =>
      obtain ⟨b, o, rfl, _⟩ := hr 0 c rfl
      exact sizes_some b o _ cap x w hr hc hm
  · exact sizes_not p cs cap _ w hr hm

set_option maxRecDepth 100000 in
theorem lifted (os : Os) (started : os.Started) (H : Type) (enc : TypeId × Value → H) :
    ReturnsInHanded {} Try.checked os 7 .any (Rows.compSizesSpec.pre6 enc Try.prog Try.f7 Rows.compSizesRow.domain false) (Rows.compSizesSpec.post enc Try.prog Try.f7 false true false false) := by
  refine returnsInHanded_of_change (C := Try.checked) own started (by kernel_rfl) Try.func7
    (ChangeSpec.witness6 (enc := enc) (C := Try.checked) false ⟨#[], #[.slice none 0 0, .int .i64 0], []⟩ 8 (by kernel_rfl) (by kernel_rfl) (by kernel_rfl) (by kernel_rfl)) ?_
  intro W base args ds gs before hval0 hW hcnd _
  have hval : ∀ (j : Nat) t v, Try.f7.params[j]? = some t → args[j]? = some v → Value.okWide Try.prog W .any base t v := hval0
  have hW' := hW
  obtain ⟨p, q, hA0, hV, rfl, hfz, hnd⟩ := hW
  have hA : DataW.TrodAll enc Try.prog W 0 (fun _ => true) true Try.f7.params.toList args.toList ds p := hA0
  rw [Try.params7] at hA hval
  obtain ⟨v0, vs0, d0, ds0, p0, q0, hargs, rfl, rfl, h0, r0⟩ := trodAll_cons hA
  obtain ⟨v1, vs1, d1, ds1, p1, q1, rfl, rfl, rfl, h1, r1⟩ := trodAll_cons r0
  obtain ⟨rfl, rfl, rfl⟩ := trodAll_nil r1
  obtain rfl : args = #[v0, v1] := by cases args; simp_all
  obtain ⟨rfl, rfl⟩ := trodVars_none hV
  obtain ⟨ad, len, cap, rfl⟩ := okWide_slice Try.underlying22 (hval 0 22 v0 rfl rfl)
  obtain ⟨a1, rfl, rfl, rfl, w1⟩ := open_int Try.underlying3 (hval 1 3 v1 rfl rfl) h1
  obtain ⟨cs, hl, hc, hrow, _⟩ : ∃ cs : List C, cs.length = len ∧ len ≤ cap ∧ RowC W ad cs ∧ ∀ c ∈ cs, c.t.size ≤ maxLen := by
    obtain ⟨fuel, hf⟩ := h0
    exact comps_open (by simpa [Value.cells] using hf)
  subst hl
  have hlt : ∀ x ∈ p0, x.block < W.heap.size := fun x hx => hW'.lt x (by simpa using hx)
  clear hA0 hval0
  simp only [List.append_nil] at hW'
  refine (walk ad cs cap a1 W hrow hc).mono fun e W' ⟨he, hg⟩ => ?_
  subst he
  exact ⟨_, rfl, _, _, _, [], p0 ++ ([] ++ []), [], hW', trodAll_cons_mk (shut_bool Try.underlying4 _) trodAll_mk0, trodAll_cons_mk (Below.trod laidOut (by kernel_rfl) (of_decide_eq_true (by kernel_rfl)) h0 hg hlt) (trodAll_cons_mk (shut_int Try.underlying3 w1) trodAll_mk0), rfl, hg.frame _, fun h => by cases h⟩

theorem over : Rows.compSizesRow.holds Try.pinned (OpenSpec.ofChange Rows.compSizesSpec) :=
  OpenClaim.holds_of_wide 7 Try.f7 rfl rfl rfl rfl rfl rfl rfl ⟨rfl, rfl, rfl, rfl, rfl⟩ rfl rfl rfl rfl rfl (by kernel_rfl) Try.func7 (by kernel_rfl)
    (of_decide_eq_true (by kernel_rfl)) (by unfold Func.isWrapper; first | (rw [if_pos (by decide +kernel)]; kernel_rfl) | (rw [if_neg (by decide +kernel)]; exact ⟨rfl, rfl⟩))
    (fun os started H enc _ => lifted os started H enc)

end Go.Proofs.Ytiplhhldgkgbhaa.compSizes
namespace Go.Proofs.Ytiplhhldgkgbhaa
theorem compSizes_holds : Rows.CompSizesSaid := compSizes.over
end Go.Proofs.Ytiplhhldgkgbhaa
