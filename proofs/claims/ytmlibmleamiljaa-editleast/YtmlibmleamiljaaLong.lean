/-
  The walk of long: a text of so many bytes. Conditions: as the theorem's premises say.
-/
import Derived.Test.YtmlibmleamiljaaEd2
import Derived.Laws.OwnMore
namespace Go.Proofs.Ytmlibmleamiljaa
open Go.RowKit

theorem ownB_frozen {w : World} {base g n cap : Nat} {s : ByteArray} (h : OwnB w base (.slice (some ⟨g, 0, none⟩) n cap) s) (i : Nat) : w.frozen? ⟨g, i, none⟩ = false := by
  rcases h.2 with ⟨h0, _⟩ | ⟨g', cap', cur, hv, hb, hg, _⟩
  · cases h0
  · simp only [Value.slice.injEq, Option.some.injEq, Addr.mk.injEq, and_true] at hv
    obtain ⟨rfl, -, -⟩ := hv
    simp [World.frozen?, hg]
theorem ownB_set {w : World} {base g n cap : Nat} {s : ByteArray} (h : OwnB w base (.slice (some ⟨g, 0, none⟩) n cap) s) (hn : n = s.size) (i : Nat) (b : UInt8) : ∃ s' : ByteArray, s'.size = s.size ∧ OwnB (w.setCell ⟨g, i, none⟩ (.int .u8 b.toNat)) base (.slice (some ⟨g, 0, none⟩) n cap) s' ∧ w.grownBy (w.setCell ⟨g, i, none⟩ (.int .u8 b.toNat)) (some g) := by
  subst hn
  obtain ⟨h1, h2⟩ := World.ownsRow.stored h i (.int .u8 b.toNat)
  refine ⟨⟨(s.data.toList.set i b).toArray⟩, ?_, ?_, h2⟩
  · show (s.data.toList.set i b).toArray.size = s.size
    simp
  · unfold OwnB
    rw [show (ByteArray.mk (s.data.toList.set i b).toArray).size = s.size from by show (s.data.toList.set i b).toArray.size = s.size; simp]
    rw [show Lib.strCells ⟨(s.data.toList.set i b).toArray⟩ = (Lib.strCells s).set i (.int .u8 b.toNat) from by unfold Lib.strCells; simp [List.map_set]]
    exact h1

def LongP (k : Nat) (w : World) (e : Ending) (w' : World) : Prop := ∃ b : ByteArray, e = .returned (.string b) ∧ b.size = k ∧ Below w.heap.size w w'

set_option maxHeartbeats 1000000 in
theorem long_any (k : Nat) (hk : k ≤ 8192) (w : World) : Calls Try.prog 16 #[.int .i64 k] w (LongP k w) := by
  obtain ⟨i0, hi, hz0, hz1, hz2⟩ := info_parts info5
  have B0 := Lib.hid (Below.refl w.heap.size w)
  go_enter Try.func16, Try.ntmps16
  go_wp2_with (first | (at_make; refine wpList_make_full _ rfl _ _ 52 rfl w.heap.size 5 i0 (.int .u8 0) 1 Try.underlying52 hi hz0 hz1 .i64 .i64 _ _ k rfl rfl rfl rfl (by rw [hz2]; omega) (by unfold maxLen; omega) B0.out.size ?_; intro w2 hown2 hgrow2; have B2 := Lib.hid (B0.out.grown hgrow2 B0.out.size (by simp)); have OC := Lib.hid hown2; clear hown2 hgrow2))
  have O2 : Hid (OwnB w2 w.heap.size (.slice (some ⟨w.heap.size, 0, none⟩) k k) ⟨(List.replicate k 0).toArray⟩) := Lib.hid (by
    have h := OC.out
    rw [Nat.mul_one, show (Value.int .u8 0).cells = #[.int .u8 0] from rfl, toList_madeCells_one] at h
    unfold OwnB
    rw [show (ByteArray.mk (List.replicate k (0 : UInt8)).toArray).size = k from by show (List.replicate k (0 : UInt8)).toArray.size = k; simp]
    rw [show Lib.strCells ⟨(List.replicate k (0 : UInt8)).toArray⟩ = List.replicate k (.int .u8 0) from by unfold Lib.strCells; simp]
    exact h)
  clear OC
  go_loopw [4] (fun v wr => ∃ (j : Nat) (X : ByteArray), v = .int .i64 j ∧ j ≤ k ∧ X.size = k ∧ Hid (OwnB wr w.heap.size (.slice (some ⟨w.heap.size, 0, none⟩) k k) X) ∧ Hid (Below w.heap.size w wr)) (fun v _ => k - (intOf v).toNat)
  case atStart => exact ⟨0, _, rfl, by omega, by show (List.replicate k (0 : UInt8)).toArray.size = k; simp, O2, B2⟩
  case round =>
    obtain ⟨j, X, rfl, hj, hX, O, B⟩ := hrel
    have HX := Lib.hid hX; clear hX
    by_cases hlt : j < k
    · obtain ⟨X', hX', hO', hG'⟩ := ownB_set O.out HX.out.symm j 97
      have HX' := Lib.hid (hX'.trans HX.out); have O' := Lib.hid hO'; have B' := Lib.hid (B.out.grown hG' B.out.size (fun g hg => by cases hg; exact Nat.le_refl _))
      have hc : wr.cell? ⟨w.heap.size, j, none⟩ = some (.int .u8 ((X[j]'(by rw [HX.out]; exact hlt)).toNat : Int)) := by
        have := O.out.bytes j (by rw [HX.out]; exact hlt)
        rwa [Nat.zero_add] at this
      have hfz := ownB_frozen O.out j
      clear hX' hO' hG'
      go_wp2_with fail
      go_roundw
      case rel => exact ⟨j + 1, X', by go_num, by omega, HX'.out, O', B'⟩
      case measure => simp [intOf]; omega
    · have hcv := Lib.run_convert_whole (P := Try.prog) wr 52 5 9 Try.underlying52 Try.underlying5 Try.underlying9 w.heap.size 0 _ O.out.bytes k
      rw [HX.out] at hcv
      go_wp2
      go_ret
      exact ⟨X, rfl, HX.out, B.out⟩

end Go.Proofs.Ytmlibmleamiljaa
