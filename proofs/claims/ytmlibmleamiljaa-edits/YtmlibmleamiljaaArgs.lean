/-
  A slice of pieces that is read as data lies in memory as the walks want it. No condition.
-/
import Derived.Test.YtmlibmleamiljaaW2
import Derived.ProofKit
import Derived.OpenShut
import Derived.Deep.Slices
import Derived.SizedLaws
namespace Go.Proofs.Ytmlibmleamiljaa
open Go.ChangeShapes Go.WideShapes Go.ChangeAt Go.RowKit Go.Deep

theorem cells39 : Try.prog.cellsOf 38 = 3 := by kernel_rfl
theorem bytes39 : Try.prog.bytesOf 38 = 32 := by kernel_rfl
theorem cells3 : Try.prog.cellsOf 3 = 1 := by kernel_rfl
theorem cells9 : Try.prog.cellsOf 9 = 1 := by kernel_rfl

theorem plain_of_cell {w : World} {a : Addr} {v : Value} (h : w.cell? a = some v) : a.spot = none := by
  unfold World.cell? at h
  split at h
  · cases hs : a.spot with
    | none => rfl
    | some s => simp [hs] at h
  · cases h

theorem list_of {α : Type} [Inhabited α] {P : Nat → α → Prop} (n : Nat) (h : ∀ i, i < n → ∃ c, P i c) : ∃ cs : List α, cs.length = n ∧ ∀ (i : Nat) c, cs[i]? = some c → P i c := by
  induction n with
  | zero => exact ⟨[], rfl, fun i c hi => by simp at hi⟩
  | succ n ih =>
    obtain ⟨cs, hl, hc⟩ := ih fun i hi => h i (by omega)
    obtain ⟨c, hp⟩ := h n (by omega)
    refine ⟨cs ++ [c], by simp [hl], fun i d hi => ?_⟩
    by_cases hil : i < cs.length
    · rw [List.getElem?_append_left hil] at hi
      exact hc i d hi
    · rw [List.getElem?_append_right (by omega)] at hi
      have h0 : i - cs.length = 0 := by
        have := (List.getElem?_eq_some_iff.1 hi).1
        simp at this; omega
      rw [h0] at hi
      simp at hi
      subst hi
      obtain rfl : i = n := by omega
      exact hp

instance : Inhabited C := ⟨⟨0, 0, ⟨#[]⟩⟩⟩

section
variable {H : Type} {enc : TypeId × Value → H} {w : World} {base : Nat} {held : Bool}
theorem comps_open {fuel : Nat} {p : Option Addr} {n cap : Nat} {x : DataW H × List MemPlace} (h : DataW.trod enc Try.prog w base (fun _ => true) held fuel 22 [.slice p n cap] = some x) :
    ∃ cs : List C, cs.length = n ∧ n ≤ cap ∧ RowC w p cs ∧ ∀ c ∈ cs, c.t.size ≤ maxLen := by
  rcases open_slice Try.underlying22 h with ⟨h0, _⟩ | ⟨a, len, cap', m, k, D, Pl, hcs, _, hl, _, hmm, _, hi⟩
  · cases h0
    exact ⟨[], rfl, Nat.le_refl _, fun i c hi => by simp at hi, fun c hc => by simp at hc⟩
  · cases hcs
    have hmm : m = cap := by rw [hmm]; simp
    subst hmm
    obtain ⟨cs, hcl, hat⟩ := list_of (P := fun i (c : C) => (∃ b o, a = ⟨b, o, none⟩ ∧ PieceAt w b (o + i * 3) c) ∧ c.t.size ≤ maxLen) n (fun i hil => by
      obtain ⟨b, o, sp⟩ := a
      obtain ⟨cs', hc, ht⟩ := hi i (by omega)
      rw [cells39] at hc
      obtain ⟨_, hcl, hat⟩ := World.cells?_some hc
      obtain ⟨ys, n', _, _, _, hyl, hf⟩ := DataW.trod_struct Try.underlying38 ht
      obtain rfl : sp = none := by
        obtain ⟨cs0, hc0, _⟩ := hi 0 (by omega)
        rw [cells39] at hc0
        obtain ⟨_, hcl0, hat0⟩ := World.cells?_some hc0
        have h0 := hat0 0 (by omega)
        rw [List.getElem?_eq_getElem (by omega)] at h0
        rw [Nat.zero_mul] at h0
        exact plain_of_cell h0
      match cs', hcl with
      | [c0, c1, c2], _ =>
        have e0 := hat 0 (by omega)
        have e1 := hat 1 (by omega)
        have e2 := hat 2 (by omega)
        simp only [add_plain] at e0 e1 e2
        have hyl3 : ys.length = 3 := hyl
        have hy : ∀ j, j < 3 → ∃ y, ys[j]? = some y := fun j hj => ⟨_, List.getElem?_eq_getElem (by omega : j < ys.length)⟩
        obtain ⟨y0, k0⟩ := hy 0 (by omega)
        obtain ⟨y1, k1⟩ := hy 1 (by omega)
        obtain ⟨y2, k2⟩ := hy 2 (by omega)
        have g0 := (hf 0 _ rfl).trans k0
        have g1 := (hf 1 _ rfl).trans k1
        have g2 := (hf 2 _ rfl).trans k2
        obtain ⟨kd, h0, _⟩ := DataW.trod_int Try.underlying3 g0
        obtain ⟨nn, h1, _⟩ := DataW.trod_int Try.underlying3 g1
        obtain ⟨s, h2, _, hs⟩ := DataW.trod_string Try.underlying9 g2
        simp [cells3, cells9] at h0 h1 h2
        subst h0; subst h1; subst h2
        exact ⟨⟨kd, nn, s⟩, ⟨b, o, rfl, by simpa using e0, by simpa using e1, by simpa using e2⟩, hs⟩)
    refine ⟨cs, hcl, hl, fun i c hi => ?_, fun c hc => ?_⟩
    · obtain ⟨⟨b, o, rfl, hp⟩, _⟩ := hat i c hi
      exact ⟨b, o, rfl, hp⟩
    · obtain ⟨i, hi⟩ := List.mem_iff_getElem?.1 hc
      exact (hat i c hi).2

theorem comps_sized {fuel : Nat} {p : Option Addr} {n cap : Nat} {d : DataW H} {pl : List MemPlace} {ts : List TypeId} {ds : List (DataW H)} (h : DataW.trod enc Try.prog w base (fun _ => true) held fuel 22 [.slice p n cap] = some (d, pl)) (hsz : (DataW.weightsEach Try.prog (22 :: ts) (d :: ds)).all (· ≤ reachBytes) = true) : n * 32 ≤ reachBytes := by
  rcases open_slice Try.underlying22 h with ⟨h0, _⟩ | ⟨a, len, cap', m, k, D, Pl, hcs, _, hl, _, hmm, hx, hi⟩
  · cases h0; simp
  · cases hcs
    simp only [Prod.mk.injEq] at hx
    obtain ⟨rfl, _⟩ := hx
    have := sized_slice hsz (j := 0) (t := 22) rfl rfl Try.underlying22
    rw [bytes39] at this
    simp only [List.length_map, List.length_range] at this
    exact Nat.le_trans (Nat.mul_le_mul_right _ (by omega)) this
theorem comps_sized_at {fuel : Nat} {p : Option Addr} {n cap : Nat} {d : DataW H} {pl : List MemPlace} {ts : List TypeId} {ds : List (DataW H)} {j : Nat} (h : DataW.trod enc Try.prog w base (fun _ => true) held fuel 22 [.slice p n cap] = some (d, pl)) (hsz : (DataW.weightsEach Try.prog ts ds).all (· ≤ reachBytes) = true) (ht : ts[j]? = some 22) (hd : ds[j]? = some d) : n * 32 ≤ reachBytes := by
  rcases open_slice Try.underlying22 h with ⟨h0, _⟩ | ⟨a, len, cap', m, k, D, Pl, hcs, _, hl, _, hmm, hx, hi⟩
  · cases h0; simp
  · cases hcs
    simp only [Prod.mk.injEq] at hx
    obtain ⟨rfl, _⟩ := hx
    have := sized_slice hsz (j := j) (t := 22) ht hd Try.underlying22
    rw [bytes39] at this
    simp only [List.length_map, List.length_range] at this
    exact Nat.le_trans (Nat.mul_le_mul_right _ (by omega)) this
end

theorem reach47 : reachBytes + 4096 ≤ 140737488355328 := by decide
theorem size_toList (b : ByteArray) : b.data.toList.length = b.size := by simp

end Go.Proofs.Ytmlibmleamiljaa
