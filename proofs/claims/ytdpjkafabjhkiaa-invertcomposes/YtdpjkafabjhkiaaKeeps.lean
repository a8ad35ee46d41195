/-
  The walk of the law ApplyKeeps. Conditions: as the theorems' premises say.
-/
import Derived.Test.YtdpjkafabjhkiaaAwake
namespace Go.Proofs.Ytdpjkafabjhkiaa
open Go.RowKit

theorem Own.grown {w w' : World} {base : Nat} {v : Value} {cs : List C} {row : Option Nat} (h : Own w base v cs) (hg : w.grownBy w' row) (hne : v.ownBlock = none ∨ v.ownBlock ≠ row) : Own w' base v cs := World.ownsRow.kept h hg hne

theorem whole_part (s : ByteArray) : s.extract 0 s.size = s := ba_ext (by
  rw [ba_extract, List.drop_zero, Nat.sub_zero, ← ba_len s, List.take_length])
theorem keep_may {s : ByteArray} (h1 : s.size ≤ 4096) (h0 : s.size ≠ 0) : MayP [⟨0, s.size, e0⟩] := by
  refine ⟨okB_iff.2 ⟨by simp, ?_, ?_, ?_⟩, ?_⟩
  · intro c hc
    simp only [List.mem_singleton] at hc
    subst hc
    exact .inl ⟨.inl rfl, by simp, by simp; omega, rfl⟩
  · simp [sumOf, fromC]; omega
  · simp [sumOf, toC, C.sz, e0_size]; omega
  · refine (norm_snoc (cs := [])).2 ⟨lit0_may.2, ?_, fun l hl => by simp at hl⟩
    unfold C.sz; dsimp only; rw [e0_size]; omega
theorem keep_from (s : ByteArray) : sumOf fromC [⟨0, s.size, e0⟩] = s.size := by simp [sumOf, fromC]
theorem keep_app (s : ByteArray) : appB s 0 [⟨0, s.size, e0⟩] = s := by
  rw [appB_one]
  unfold partB
  simp only [if_true]
  rw [Int.zero_add, Int.toNat_natCast]
  exact whole_part s
theorem put_raw {t : ByteArray} (h1 : t.size ≤ 4096) : C.Raw ⟨1, 0, t⟩ := .inr ⟨rfl, rfl, h1⟩
theorem cut_raw {s : ByteArray} (h1 : s.size ≤ 4096) : C.Raw ⟨2, s.size, e0⟩ := .inl ⟨.inr rfl, by simp, by simp; omega, rfl⟩
theorem put_norm {t : ByteArray} (h0 : t.size ≠ 0) : Norm [⟨1, 0, t⟩] :=
  (norm_snoc (cs := [])).2 ⟨lit0_may.2, by unfold C.sz; dsimp only; omega, fun l hl => by simp at hl⟩
theorem put_may {t : ByteArray} (h1 : t.size ≤ 4096) (h0 : t.size ≠ 0) : MayP [⟨1, 0, t⟩] :=
  ⟨okB_iff.2 ⟨by simp, fun c hc => by simp only [List.mem_singleton] at hc; subst hc; exact put_raw h1, by simp [sumOf, fromC], by simp [sumOf, toC, C.sz]; omega⟩, put_norm h0⟩
theorem cut_may {s : ByteArray} (h1 : s.size ≤ 4096) (h0 : s.size ≠ 0) : MayP [⟨2, s.size, e0⟩] :=
  ⟨okB_iff.2 ⟨by simp, fun c hc => by simp only [List.mem_singleton] at hc; subst hc; exact cut_raw h1, by simp [sumOf, fromC]; omega, by simp [sumOf, toC]⟩, (norm_snoc (cs := [])).2 ⟨lit0_may.2, by unfold C.sz; dsimp only; rw [e0_size]; omega, fun l hl => by simp at hl⟩⟩
theorem turn_may {s t : ByteArray} (h1 : s.size ≤ 4096) (h0 : s.size ≠ 0) (g1 : t.size ≤ 4096) (g0 : t.size ≠ 0) : MayP [⟨1, 0, t⟩, ⟨2, s.size, e0⟩] := by
  refine ⟨okB_iff.2 ⟨by simp, ?_, ?_, ?_⟩, ?_⟩
  · intro c hc
    simp only [List.mem_cons, List.not_mem_nil, or_false] at hc
    rcases hc with rfl | rfl
    · exact put_raw g1
    · exact cut_raw h1
  · simp [sumOf, fromC]; omega
  · simp [sumOf, toC, C.sz]; omega
  · refine (norm_snoc (cs := [⟨1, 0, t⟩])).2 ⟨put_norm g0, by unfold C.sz; dsimp only; rw [e0_size]; omega, fun l hl => ?_⟩
    simp at hl
    subst hl
    exact ⟨by dsimp only; omega, .inl (by dsimp only; omega)⟩
theorem more_not {s : ByteArray} {cs : List C} (h : sumOf fromC cs = s.size) : ¬ (MayP cs ∧ sumOf fromC cs = (s ++ ⟨#[120]⟩).size) := fun hh => by
  have := hh.2
  rw [h, ba_append_size] at this
  have : (ByteArray.mk #[120]).size = 1 := rfl
  omega

end Go.Proofs.Ytdpjkafabjhkiaa
