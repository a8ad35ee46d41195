/-
  Inverts: at any text and any pieces Invert answers as the document, and what was lent is as it was. Conditions: none but what the statement asks of its arguments.
-/
import Derived.Test.YtdpjkafabjhkiaaRows
import Derived.ShutString
import Derived.Test.YtdpjkafabjhkiaaArgs
import Derived.Test.YtdpjkafabjhkiaaInverts
namespace Go.Proofs.Ytdpjkafabjhkiaa.inverts
open Go.ChangeShapes Go.WideShapes Go.ChangeAt Go.RowKit Go.Deep
open Go.ChangeMaps (open_string shut_string)

theorem own : ownKnob Try.prog.godebug = none := by kernel_rfl
theorem laidOut : laidOutB Try.prog = true := by kernel_rfl

set_option maxRecDepth 100000 in
theorem lifted (os : Os) (started : os.Started) (H : Type) (enc : TypeId × Value → H) :
    ReturnsInHanded {} Try.checked os 3 .any (Rows.invertsSpec.pre6 enc Try.prog Try.f3 Rows.invertsRow.domain false) (Rows.invertsSpec.post enc Try.prog Try.f3 false true false false) := by
  refine returnsInHanded_of_change_sized (C := Try.checked) own started (by kernel_rfl) Try.func3
    (ChangeSpec.witness6 (enc := enc) (C := Try.checked) false ⟨#[], #[.string ByteArray.empty, .slice none 0 0], []⟩ 8 (by kernel_rfl) (by kernel_rfl) (by kernel_rfl) (by kernel_rfl)) ?_
  intro W base args ds gs before hval0 hW hcnd hsz0 _
  have hval : ∀ (j : Nat) t v, Try.f3.params[j]? = some t → args[j]? = some v → Value.okWide Try.prog W .any base t v := hval0
  have hsz : (DataW.weightsEach Try.prog (Try.f3.params.toList ++ Rows.invertsSpec.plain.varTypes Try.prog) (ds ++ gs)).all (· ≤ reachBytes) = true := hsz0
  have hW' := hW
  obtain ⟨p, q, hA0, hV, rfl, hfz, hnd⟩ := hW
  have hA : DataW.TrodAll enc Try.prog W 0 (fun _ => true) true Try.f3.params.toList args.toList ds p := hA0
  rw [Try.params3] at hA hval hsz
  obtain ⟨v0, vs0, d0, ds0, p0, q0, hargs, rfl, rfl, h0, rr0⟩ := trodAll_cons hA
  obtain ⟨v1, vs1, d1, ds1, p1, q1, rfl, rfl, rfl, h1, rr1⟩ := trodAll_cons rr0
  obtain ⟨rfl, rfl, rfl⟩ := trodAll_nil rr1
  obtain rfl : args = #[v0, v1] := by cases args; simp_all
  obtain ⟨rfl, rfl⟩ := trodVars_none hV
  obtain ⟨a0, rfl, rfl, rfl, w0⟩ := open_string Try.underlying9 (hval 0 9 v0 rfl rfl) h0
  obtain ⟨ad1, len1, cap1, rfl⟩ := okWide_slice Try.underlying22 (hval 1 22 v1 rfl rfl)
  obtain ⟨cs1, hl1, c1, r1, t1, n1⟩ : ∃ cs : List C, cs.length = len1 ∧ len1 ≤ cap1 ∧ RowC W ad1 cs ∧ (∀ c ∈ cs, c.t.size ≤ maxLen) ∧ cs.length * 32 ≤ reachBytes := by
    obtain ⟨fuel, hf⟩ := h1
    have hf' : DataW.trod enc Try.prog W 0 (fun _ => true) true fuel 22 [.slice ad1 len1 cap1] = some (d1, p1) := by simpa [Value.cells] using hf
    obtain ⟨cs, a1, a2, a3, a4⟩ := comps_open hf'
    exact ⟨cs, a1, a2, a3, a4, by rw [a1]; exact comps_sized_at hf' hsz (j := 1) rfl rfl⟩
  subst hl1
  have x1 : ∀ x ∈ p1, x.block < W.heap.size := fun x hx => hW'.lt x (by simp [hx])
  have z0 := sized_string hsz (j := 0) (t := 9) rfl rfl
  rw [size_toList] at z0
  have hr47 := reach47
  clear hA0 hval0 hsz hsz0
  simp only [List.append_nil, List.nil_append] at hW'
  refine (inverts_true a0 ad1 cs1 cap1 W r1 (by have := n1; omega)).mono fun e W' ⟨he, hg⟩ => ?_
  subst he
  exact ⟨_, rfl, _, _, _, [], [] ++ (p1 ++ []), [], hW', trodAll_cons_mk (shut_bool Try.underlying4 _) trodAll_mk0, trodAll_cons_mk (shut_string Try.underlying9 w0) (trodAll_cons_mk (Below.trod laidOut (by kernel_rfl) (of_decide_eq_true (by kernel_rfl)) h1 hg x1) trodAll_mk0), rfl, hg.frame _, fun h => by cases h⟩

theorem over : Rows.invertsRow.holds Try.pinned (OpenSpec.ofChange Rows.invertsSpec) :=
  OpenClaim.holds_of_wide 3 Try.f3 rfl rfl rfl rfl rfl rfl rfl ⟨rfl, rfl, rfl, rfl, rfl⟩ rfl rfl rfl rfl rfl (by kernel_rfl) Try.func3 (by kernel_rfl)
    (of_decide_eq_true (by kernel_rfl)) (by unfold Func.isWrapper; first | (rw [if_pos (by decide +kernel)]; kernel_rfl) | (rw [if_neg (by decide +kernel)]; exact ⟨rfl, rfl⟩))
    (fun os started H enc _ => lifted os started H enc)

end Go.Proofs.Ytdpjkafabjhkiaa.inverts
namespace Go.Proofs.Ytdpjkafabjhkiaa
theorem inverts_holds : Rows.InvertsSaid := inverts.over
end Go.Proofs.Ytdpjkafabjhkiaa
