/-
  Short edits and where places stand behind them. No program in it; conditions: as each theorem's premises say.
-/
import Derived.Test.YtlfgleickaaicaaAw
namespace Go.Proofs.Ytlfgleickaaicaa
open Go.RowKit

theorem and255 (a : Int) : ∃ q : Nat, bits BinOp.and IntKind.i64 a 255 = (q : Int) ∧ q ≤ 255 := by
  have h : (BitVec.ofInt 64 a &&& BitVec.ofInt 64 255).toNat ≤ 255 := by
    rw [BitVec.toNat_and]
    exact Nat.le_trans Nat.and_le_right (by decide)
  refine ⟨(BitVec.ofInt 64 a &&& BitVec.ofInt 64 255).toNat, ?_, h⟩
  show IntKind.i64.wrap ((BitVec.ofInt 64 a &&& BitVec.ofInt 64 255).toNat : Int) = _
  rw [IntKind.wrap_i64]
  omega

theorem one_may (k : Int) (hk : k = 0 ∨ k = 2) {n : Int} (h0 : 0 < n) (h1 : n ≤ 4096) : MayP [⟨k, n, e0⟩] := by
  refine ⟨okB_iff.2 ⟨by simp, ?_, ?_, ?_⟩, (norm_snoc (cs := [])).2 ⟨lit0_may.2, by unfold C.sz; dsimp only; rw [e0_size]; omega, fun l hl => by simp at hl⟩⟩
  · intro c hc
    simp only [List.mem_singleton] at hc
    subst hc
    exact .inl ⟨hk, by dsimp only; omega, h1, rfl⟩
  · rcases hk with rfl | rfl <;> simp [sumOf, fromC] <;> omega
  · rcases hk with rfl | rfl <;> simp [sumOf, toC, C.sz, e0_size] <;> omega
theorem puts_keep_may {n : Int} {t : ByteArray} (h0 : 0 < n) (g0 : t.size ≠ 0) (h : n + t.size ≤ 4096) : MayP [⟨1, 0, t⟩, ⟨0, n, e0⟩] := by
  refine ⟨okB_iff.2 ⟨by simp, ?_, ?_, ?_⟩, ?_⟩
  · intro c hc
    simp only [List.mem_cons, List.not_mem_nil, or_false] at hc
    rcases hc with rfl | rfl
    · exact .inr ⟨rfl, rfl, by dsimp only; omega⟩
    · exact .inl ⟨.inl rfl, by dsimp only; omega, by dsimp only; omega, rfl⟩
  · simp [sumOf, fromC]; omega
  · simp [sumOf, toC, C.sz, e0_size]; omega
  · refine (norm_snoc (cs := [⟨1, 0, t⟩])).2 ⟨(norm_snoc (cs := [])).2 ⟨lit0_may.2, by unfold C.sz; dsimp only; omega, fun l hl => by simp at hl⟩, by unfold C.sz; dsimp only; rw [e0_size]; omega, fun l hl => ?_⟩
    simp at hl
    subst hl
    exact ⟨by dsimp only; omega, .inl (by dsimp only; omega)⟩
theorem one_p (k : Int) (hk : k = 0 ∨ k = 2) {n i : Int} (h0 : 0 < n) (h1 : n ≤ 4096) (i0 : 0 ≤ i) (i1 : i ≤ n) : MoveP [⟨k, n, e0⟩] i :=
  ⟨one_may k hk h0 h1, i0, by rcases hk with rfl | rfl <;> simp [sumOf, fromC] <;> omega⟩
theorem one_no {n i : Int} (h : i < 0 ∨ n < i) : ¬ MoveP [⟨0, n, e0⟩] i := fun hh => by
  have h1 := hh.2.1
  have h2 := hh.2.2
  simp [sumOf, fromC] at h2
  omega
theorem puts_keep_p {n i : Int} {t : ByteArray} (h0 : 0 < n) (g0 : t.size ≠ 0) (h : n + t.size ≤ 4096) (i0 : 0 ≤ i) (i1 : i ≤ n) : MoveP [⟨1, 0, t⟩, ⟨0, n, e0⟩] i :=
  ⟨puts_keep_may h0 g0 h, i0, by simp [sumOf, fromC]; omega⟩
theorem mov_keep (bh : Bool) {n i : Int} (i1 : i ≤ n) : movL bh i [⟨0, n, e0⟩] = i := by
  by_cases h : i < n
  · exact mov_keep_in _ _ _ _ _ h
  · rw [mov_keep_out _ _ _ _ _ (by omega)]; simp only [movL]; omega
theorem mov_cut (bh : Bool) (n i : Int) : movL bh i [⟨2, n, e0⟩] = 0 := by
  by_cases h : i < n
  · exact mov_cut_in _ _ _ _ _ h
  · rw [mov_cut_out _ _ _ _ _ (by omega)]; rfl
theorem mov_both_yes (bh : Bool) {n i : Int} (t : ByteArray) (i0 : 0 ≤ i) (i1 : i ≤ n) (hb : 0 < i ∨ bh = true) : movL bh i [⟨1, 0, t⟩, ⟨0, n, e0⟩] = i + t.size := by
  rw [mov_put_yes _ _ _ _ i0 hb, mov_keep _ i1]; omega
theorem mov_both_no {n : Int} (t : ByteArray) (h : 0 < n) : movL false 0 [⟨1, 0, t⟩, ⟨0, n, e0⟩] = 0 := by
  rw [mov_put_no, mov_keep _ (by omega)]

end Go.Proofs.Ytlfgleickaaicaa
