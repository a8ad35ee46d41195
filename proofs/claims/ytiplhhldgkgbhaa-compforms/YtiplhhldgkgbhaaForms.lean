/-
  The walk of CompForms: it answers true. No condition.
-/
import Derived.Test.YtiplhhldgkgbhaaSizes
namespace Go.Proofs.Ytiplhhldgkgbhaa
open Go.RowKit

theorem mod_small (a k : Int) (hk : 0 < k) : ∃ q : Nat, (IntKind.u64.wrap a).tmod k = (q : Int) ∧ (q : Int) < k := by
  have h0 : 0 ≤ IntKind.u64.wrap a := by
    unfold IntKind.wrap
    simp only [IntKind.signed, Bool.false_and]
    exact Int.emod_nonneg _ (by decide)
  have h1 : 0 ≤ (IntKind.u64.wrap a).tmod k := Int.tmod_nonneg _ h0
  have h2 : (IntKind.u64.wrap a).tmod k < k := Int.tmod_lt_of_pos _ (by omega)
  exact ⟨((IntKind.u64.wrap a).tmod k).toNat, by omega, by omega⟩

theorem and_small (x : Int) : 0 ≤ bits .and .i64 x 1023 ∧ bits .and .i64 x 1023 ≤ 1023 := by
  have h : (BitVec.ofInt 64 x &&& BitVec.ofInt 64 1023).toNat ≤ 1023 := by
    rw [BitVec.toNat_and]
    exact Nat.le_trans Nat.and_le_right (by decide)
  have e : bits .and .i64 x 1023 = (((BitVec.ofInt 64 x &&& BitVec.ofInt 64 1023).toNat : Nat) : Int) := by
    show IntKind.i64.wrap (((BitVec.ofInt 64 x &&& BitVec.ofInt 64 1023).toNat : Nat) : Int) = _
    exact IntWalk.i64_in _ (by omega)
  rw [e]; omega

def badL (m : Int) : List C := [⟨0, (-(1 + m)), e0⟩, ⟨0, (4096 + (1 + m)), e0⟩, ⟨0, 1, ⟨#[97]⟩⟩, ⟨2, (-(1 + m)), e0⟩, ⟨2, (4096 + (1 + m)), e0⟩, ⟨2, 1, ⟨#[97]⟩⟩, ⟨1, (1 + m), ⟨#[97]⟩⟩, ⟨(2 + (1 + m)), 0, e0⟩, ⟨(-(1 + m)), 0, e0⟩]
theorem bad_not {m : Int} (h0 : 0 ≤ m) : ∀ c ∈ badL m, ¬ c.Raw := by
  intro c hc
  simp only [badL, List.mem_cons, List.not_mem_nil, or_false] at hc
  have e0s : e0.size = 0 := rfl
  have a1s : (⟨#[97]⟩ : ByteArray).size = 1 := rfl
  rcases hc with rfl | rfl | rfl | rfl | rfl | rfl | rfl | rfl | rfl <;> unfold C.Raw <;> dsimp only <;> omega

def rawL (m : Int) : Nat → List C
  | 0 => [⟨0, 0, e0⟩]
  | 1 => [⟨1, 0, e0⟩]
  | 2 => [⟨0, 1, e0⟩, ⟨0, 1 + m, e0⟩]
  | 3 => [⟨2, 1, e0⟩, ⟨1, 0, ⟨#[97]⟩⟩]
  | 4 => [⟨1, 0, ⟨#[97]⟩⟩, ⟨1, 0, ⟨#[98]⟩⟩]
  | _ => [⟨0, 4096, e0⟩, ⟨2, 1 + m, e0⟩]
theorem rawL_may {m : Int} (h0 : 0 ≤ m) {r : Nat} (hr : r < 6) : ¬ MayP (rawL m r) := by
  intro h
  obtain rfl | rfl | rfl | rfl | rfl | rfl : r = 0 ∨ r = 1 ∨ r = 2 ∨ r = 3 ∨ r = 4 ∨ r = 5 := by omega
  · exact (h.2 0 _ rfl).1 rfl
  · exact (h.2 0 _ rfl).1 rfl
  · exact ((h.2 1 _ rfl).2 _ (by omega) rfl).1 rfl
  · exact ((h.2 1 _ rfl).2 _ (by omega) rfl).2.elim (fun h => h rfl) (fun h => h rfl)
  · exact ((h.2 1 _ rfl).2 _ (by omega) rfl).1 rfl
  · have := (okB_iff.1 h.1).2.2.1
    simp [rawL, sumOf, fromC] at this
    omega
theorem rawL_ok {m : Int} (h0 : 0 ≤ m) (h1 : m ≤ 1023) {r : Nat} (hr : r < 5) : okB (rawL m r) = true := by
  have e0s : e0.size = 0 := rfl
  have a1s : (⟨#[97]⟩ : ByteArray).size = 1 := rfl
  have a2s : (⟨#[98]⟩ : ByteArray).size = 1 := rfl
  obtain rfl | rfl | rfl | rfl | rfl : r = 0 ∨ r = 1 ∨ r = 2 ∨ r = 3 ∨ r = 4 := by omega
  all_goals
    refine okB_iff.2 ⟨by simp [rawL], ?_, ?_, ?_⟩
    · intro c hc
      simp only [rawL, List.mem_cons, List.not_mem_nil, or_false] at hc
      rcases hc with rfl | rfl <;> unfold C.Raw <;> dsimp only <;> omega
    · simp [rawL, sumOf, fromC]; try omega
    · simp [rawL, sumOf, toC, C.sz, e0s, a1s, a2s]; try omega
theorem rawL_bad {m : Int} (h0 : 0 ≤ m) : okB (rawL m 5) = false := by
  cases h : okB (rawL m 5) with
  | false => rfl
  | true =>
    have := (okB_iff.1 h).2.2.1
    simp [rawL, sumOf, fromC] at this
    omega

theorem lit_rowH (w : World) (H : Nat) (hH : w.heap.size = H) (cs : List C) (xs : Array Value) (hx : xs = (cellsC cs).toArray) : RowC (w.alloc (.cells xs 39)) (some ⟨H, 0, none⟩) cs := by
  subst hH; exact lit_row w cs xs hx
theorem piece_alloc2 (w1 : World) (oA oL : Obj) (k n : Int) (t : ByteArray) : PieceAt (((w1.alloc oA).alloc (.cells #[.int .i64 k, .int .i64 n, .string t] 39)).alloc oL) (w1.heap.size + 1) 0 ⟨k, n, t⟩ := by
  have := (new_piece (w1.alloc oA) k n t).below ((Below.refl _ _).alloc (Nat.le_refl _) oL)
  simpa using this
theorem rows6 (w3 : World) (m : Int) (oo : Obj) (r : Nat) (hr : r < 6) : RowC (((((((w3.alloc (.cells (cellsC (rawL m 0)).toArray 39)).alloc (.cells (cellsC (rawL m 1)).toArray 39)).alloc (.cells (cellsC (rawL m 2)).toArray 39)).alloc (.cells (cellsC (rawL m 3)).toArray 39)).alloc (.cells (cellsC (rawL m 4)).toArray 39)).alloc (.cells (cellsC (rawL m 5)).toArray 39)).alloc oo) (some ⟨w3.heap.size + r, 0, none⟩) (rawL m r) := by
  obtain rfl | rfl | rfl | rfl | rfl | rfl : r = 0 ∨ r = 1 ∨ r = 2 ∨ r = 3 ∨ r = 4 ∨ r = 5 := by omega
  · exact (lit_rowH w3 (w3.heap.size + 0) (by simp) (rawL m 0) _ rfl).below (((((((Below.refl _ _).alloc (by simp; try omega) _).alloc (by simp; try omega) _).alloc (by simp; try omega) _).alloc (by simp; try omega) _).alloc (by simp; try omega) _).alloc (by simp; try omega) _)
  · exact (lit_rowH (w3.alloc (.cells (cellsC (rawL m 0)).toArray 39)) (w3.heap.size + 1) (by simp) (rawL m 1) _ rfl).below ((((((Below.refl _ _).alloc (by simp; try omega) _).alloc (by simp; try omega) _).alloc (by simp; try omega) _).alloc (by simp; try omega) _).alloc (by simp; try omega) _)
  · exact (lit_rowH ((w3.alloc (.cells (cellsC (rawL m 0)).toArray 39)).alloc (.cells (cellsC (rawL m 1)).toArray 39)) (w3.heap.size + 2) (by simp) (rawL m 2) _ rfl).below (((((Below.refl _ _).alloc (by simp; try omega) _).alloc (by simp; try omega) _).alloc (by simp; try omega) _).alloc (by simp; try omega) _)
  · exact (lit_rowH (((w3.alloc (.cells (cellsC (rawL m 0)).toArray 39)).alloc (.cells (cellsC (rawL m 1)).toArray 39)).alloc (.cells (cellsC (rawL m 2)).toArray 39)) (w3.heap.size + 3) (by simp) (rawL m 3) _ rfl).below ((((Below.refl _ _).alloc (by simp; try omega) _).alloc (by simp; try omega) _).alloc (by simp; try omega) _)
  · exact (lit_rowH ((((w3.alloc (.cells (cellsC (rawL m 0)).toArray 39)).alloc (.cells (cellsC (rawL m 1)).toArray 39)).alloc (.cells (cellsC (rawL m 2)).toArray 39)).alloc (.cells (cellsC (rawL m 3)).toArray 39)) (w3.heap.size + 4) (by simp) (rawL m 4) _ rfl).below (((Below.refl _ _).alloc (by simp; try omega) _).alloc (by simp; try omega) _)
  · exact (lit_rowH (((((w3.alloc (.cells (cellsC (rawL m 0)).toArray 39)).alloc (.cells (cellsC (rawL m 1)).toArray 39)).alloc (.cells (cellsC (rawL m 2)).toArray 39)).alloc (.cells (cellsC (rawL m 3)).toArray 39)).alloc (.cells (cellsC (rawL m 4)).toArray 39)) (w3.heap.size + 5) (by simp) (rawL m 5) _ rfl).below ((Below.refl _ _).alloc (by simp; try omega) _)
theorem list6 (h : Nat) (m : Int) (r : Nat) (hr : r < 6) : ([.slice (some ⟨h, 0, none⟩) 1 1, .slice (some ⟨h + 1, 0, none⟩) 1 1, .slice (some ⟨h + 1 + 1, 0, none⟩) 2 2, .slice (some ⟨h + 1 + 1 + 1, 0, none⟩) 2 2, .slice (some ⟨h + 1 + 1 + 1 + 1, 0, none⟩) 2 2, .slice (some ⟨h + 1 + 1 + 1 + 1 + 1, 0, none⟩) 2 2] : List Value)[r]? = some (.slice (some ⟨h + r, 0, none⟩) (rawL m r).length (rawL m r).length) := by
  obtain rfl | rfl | rfl | rfl | rfl | rfl : r = 0 ∨ r = 1 ∨ r = 2 ∨ r = 3 ∨ r = 4 ∨ r = 5 := by omega
  all_goals rfl

set_option maxRecDepth 100000 in
set_option maxHeartbeats 2000000 in
theorem forms_true (y x : Int) (w : World) : Calls Try.prog 5 #[.int .i64 y, .int .i64 x] w fun e w' => e = .returned (.bool true) ∧ Below w.heap.size w w' := by
  obtain ⟨m, hm, m0, m1⟩ : ∃ m : Int, bits .and .i64 x 1023 = m ∧ 0 ≤ m ∧ m ≤ 1023 := ⟨_, rfl, and_small x⟩
  obtain ⟨q, hq, hq9⟩ := mod_small y 9 (by omega)
  obtain ⟨r, hr, hr6⟩ := mod_small y 6 (by omega)
  have hqb : q < (badL m).length := by show q < 9; omega
  have hb := List.getElem?_eq_getElem hqb
  have HBAD := Lib.hid (bad_not m0 _ (List.getElem_mem hqb))
  generalize (badL m)[q] = c at hb HBAD
  obtain ⟨k0, k1, k2⟩ := cellsC_get hb
  obtain ⟨bk, bn, bt⟩ := c
  change ([.int .i64 0, .int .i64 (-(1 + m)), .string ⟨#[]⟩, .int .i64 0, .int .i64 (4096 + (1 + m)), .string ⟨#[]⟩, .int .i64 0, .int .i64 1, .string ⟨#[97]⟩, .int .i64 2, .int .i64 (-(1 + m)), .string ⟨#[]⟩, .int .i64 2, .int .i64 (4096 + (1 + m)), .string ⟨#[]⟩, .int .i64 2, .int .i64 1, .string ⟨#[97]⟩, .int .i64 1, .int .i64 (1 + m), .string ⟨#[97]⟩, .int .i64 (2 + (1 + m)), .int .i64 0, .string ⟨#[]⟩, .int .i64 (-(1 + m)), .int .i64 0, .string ⟨#[]⟩] : List Value)[q * 3]? = some (.int .i64 bk) at k0
  change ([.int .i64 0, .int .i64 (-(1 + m)), .string ⟨#[]⟩, .int .i64 0, .int .i64 (4096 + (1 + m)), .string ⟨#[]⟩, .int .i64 0, .int .i64 1, .string ⟨#[97]⟩, .int .i64 2, .int .i64 (-(1 + m)), .string ⟨#[]⟩, .int .i64 2, .int .i64 (4096 + (1 + m)), .string ⟨#[]⟩, .int .i64 2, .int .i64 1, .string ⟨#[97]⟩, .int .i64 1, .int .i64 (1 + m), .string ⟨#[97]⟩, .int .i64 (2 + (1 + m)), .int .i64 0, .string ⟨#[]⟩, .int .i64 (-(1 + m)), .int .i64 0, .string ⟨#[]⟩] : List Value)[q * 3 + 1]? = some (.int .i64 bn) at k1
  change ([.int .i64 0, .int .i64 (-(1 + m)), .string ⟨#[]⟩, .int .i64 0, .int .i64 (4096 + (1 + m)), .string ⟨#[]⟩, .int .i64 0, .int .i64 1, .string ⟨#[97]⟩, .int .i64 2, .int .i64 (-(1 + m)), .string ⟨#[]⟩, .int .i64 2, .int .i64 (4096 + (1 + m)), .string ⟨#[]⟩, .int .i64 2, .int .i64 1, .string ⟨#[97]⟩, .int .i64 1, .int .i64 (1 + m), .string ⟨#[97]⟩, .int .i64 (2 + (1 + m)), .int .i64 0, .string ⟨#[]⟩, .int .i64 (-(1 + m)), .int .i64 0, .string ⟨#[]⟩] : List Value)[q * 3 + 2]? = some (.string bt) at k2
  clear hb hqb
  go_enter Try.func5, Try.ntmps5
  go_wp2_with (go_at_call 19; refine (awake_true _).mono ?_; rintro e w1 ⟨rfl, hb1⟩; have B1 := Lib.hid hb1; clear hb1)
  refine (normal_any _ [⟨0, 1, e0⟩, ⟨bk, bn, bt⟩] 2 _ (lit_rowH _ _ (by simp) [⟨0, 1, e0⟩, ⟨bk, bn, bt⟩] _ rfl)).mono ?_
  rintro e w2 ⟨hb2, ⟨hyes, -⟩ | ⟨-, rfl⟩⟩
  · exact absurd ((okB_iff.1 hyes).2.1 _ (by simp)) HBAD.out
  have P2 := Lib.hid ((piece_alloc2 w1 _ _ bk bn bt).below hb2)
  have B2 := Lib.hid ((((B1.out.alloc B1.out.size _).alloc (by have := B1.out.size; simp; omega) _).alloc (by have := B1.out.size; simp; omega) _).trans (hb2.mono (by have := B1.out.size; simp; omega)))
  clear hb2 k0 k1 k2
  obtain ⟨c0, c1, c2⟩ := P2.out
  dsimp only [Nat.zero_add] at c0 c1 c2
  go_wp2_with fail
  refine (lengths_any _ [⟨bk, bn, bt⟩] 1 _ (lit_row _ [⟨bk, bn, bt⟩] _ rfl)).mono ?_
  rintro e w3 ⟨hb3, ⟨-, hyes⟩ | ⟨rfl, -⟩⟩
  · exact absurd ((okB_iff.1 hyes.1).2.1 _ (by simp)) HBAD.out
  have P3 := Lib.hid ((P2.out.below ((Below.refl _ _).alloc (Nat.le_refl _) _)).below hb3)
  have B3 := Lib.hid ((B2.out.alloc B2.out.size _).trans (hb3.mono (by have := B2.out.size; simp; omega)))
  clear hb3 c0 c1 c2 B1 B2 P2
  have hl6 := list6 w3.heap.size m r (by omega)
  have RL : Hid (¬ MayP (rawL m r)) := Lib.hid (rawL_may m0 (by omega))
  have hr0 : (0 : Int) ≤ (r : Int) := by omega
  generalize w1.heap.size + 1 = bx at P3 ⊢
  go_wp2_with fail
  refine (lengths_any _ (rawL m r) _ _ (rows6 w3 m _ r (by omega))).mono ?_
  rintro e w4 ⟨hb4, ⟨-, hyes⟩ | ⟨rfl, -⟩⟩
  · exact absurd hyes RL.out
  have hW : Below w3.heap.size w3 w4 := (((((((((Below.refl _ _).alloc (Nat.le_refl _) _).alloc (by simp; try omega) _).alloc (by simp; try omega) _).alloc (by simp; try omega) _).alloc (by simp; try omega) _).alloc (by simp; try omega) _).alloc (by simp; try omega) _)).trans (hb4.mono (by simp; try omega))
  have R4 := Lib.hid ((rows6 w3 m _ r (by omega)).below hb4)
  have P4 := Lib.hid (P3.out.below hW)
  have B4 := Lib.hid (B3.out.trans (hW.mono B3.out.size))
  clear hb4 hW hl6 P3 B3
  generalize w3.heap.size + r = br at R4 ⊢
  generalize hL : (rawL m r).length = L at *
  go_wp2_with fail
  have NR : Hid (Calls Try.prog 9 #[.slice (some ⟨br, 0, none⟩) L L] w4 fun e w5 => ∃ v5 z, e = .returned (.tuple #[v5, .int .i64 z]) ∧ (z == 0) = ((r : Int) != 5) ∧ Below w4.heap.size w4 w5) := Lib.hid (by
    subst hL
    refine (normal_any (some ⟨br, 0, none⟩) (rawL m r) (rawL m r).length w4 R4.out).mono ?_
    rintro e w5 ⟨hb5, ⟨hyes, v5, rfl, -⟩ | ⟨hno, rfl⟩⟩
    · refine ⟨v5, 0, rfl, ?_, hb5⟩
      have : r ≠ 5 := by rintro rfl; rw [rawL_bad m0] at hyes; cases hyes
      simp; omega
    · refine ⟨_, 200, rfl, ?_, hb5⟩
      have : r = 5 := by
        by_cases h5 : r < 5
        · rw [rawL_ok m0 m1 h5] at hno; cases hno
        · omega
      subst this
      rfl)
  refine NR.out.mono ?_
  rintro e w5 ⟨v5, z, rfl, hz, hb5⟩
  have R5 := Lib.hid (R4.out.below hb5)
  have P5 := Lib.hid (P4.out.below hb5)
  have B5 := Lib.hid (B4.out.trans (hb5.mono B4.out.size))
  clear hb5 NR R4 P4 B4
  obtain ⟨c0, c1, c2⟩ := P5.out
  dsimp only [Nat.zero_add] at c0 c1 c2
  go_wp2_with (go_at_call 14; refine (num_any _ _).mono ?_; rintro e w' ⟨rfl, rfl⟩)
  refine (may_any _ [⟨bk, bn, bt⟩] 1 _ (lit_row _ [⟨bk, bn, bt⟩] _ rfl)).mono ?_
  rintro e w6 ⟨hb6, ⟨-, hyes⟩ | ⟨rfl, -⟩⟩
  · exact absurd ((okB_iff.1 hyes.1).2.1 _ (by simp)) HBAD.out
  have hb6' := ((Below.refl w5.heap.size w5).alloc (Nat.le_refl _) _).trans (hb6.mono (by simp))
  have R6 := Lib.hid (R5.out.below hb6')
  have B6 := Lib.hid (B5.out.trans (hb6'.mono B5.out.size))
  clear hb6 hb6' R5 B5 c0 c1 c2 P5
  go_wp2_with fail
  have MR : Hid (Calls Try.prog 15 #[.slice (some ⟨br, 0, none⟩) L L] w6 fun e w7 => e = .returned (.bool false) ∧ Below w6.heap.size w6 w7) := Lib.hid (by
    subst hL
    refine (may_any (some ⟨br, 0, none⟩) (rawL m r) (rawL m r).length w6 R6.out).mono ?_
    rintro e w7 ⟨hb7, ⟨-, hyes⟩ | ⟨rfl, -⟩⟩
    · exact absurd hyes RL.out
    · exact ⟨rfl, hb7⟩)
  refine MR.out.mono ?_
  rintro e w7 ⟨rfl, hb7⟩
  have B7 := Lib.hid (B6.out.trans (hb7.mono B6.out.size))
  clear hb7 B6 R6 MR
  go_wp2_with (go_at_call 14; refine (num_any _ _).mono ?_; rintro e w' ⟨rfl, rfl⟩)
  go_ret
  exact ⟨rfl, B7.out⟩

end Go.Proofs.Ytiplhhldgkgbhaa
